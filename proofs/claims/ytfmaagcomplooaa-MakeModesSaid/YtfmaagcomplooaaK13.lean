/-
  make's Mkdir, Create, Symlink of the landed code: they answer what chapter 5 says.
  make's Mkdir, Create, Symlink of the landed code: they answer what chapter 5 says.
  make's Symlink of the landed code: it answers what chapter 5 says.
  make's Chmod of the landed code: it answers what chapter 5 says.
  make's Link of the landed code: it answers what chapter 5 says.
  A fit tree's texts are short.
  What is made, in plain words: the trees stay fit.
  awake: chapter 5's example; good: which trees and texts the laws speak of.
  good: which trees and texts the laws of layer 5 speak of.
  The reference's Own: a copy of the slice of inodes, whose names' slices are shared.
-/
import Derived.Test.YtfmaagcomplooaaMkAdd
import Derived.Test.YtfmaagcomplooaaK5
import Derived.Test.YtfmaagcomplooaaK3
import Derived.Test.YtfmaagcomplooaaTRFit2
import Derived.Test.YtfmaagcomplooaaK4
import Derived.Test.YtfmaagcomplooaaK10
import Derived.Laws.AppendOwnNone
namespace Go.Proofs.Ytfmaagcomplooaa
set_option maxRecDepth 100000
open Go Go.RowKit

/-- Three boxes that are laid one behind the other. -/
theorem three_boxes (w : World) (A B C : Array Value) (s t u : TypeId) : ∃ w2, w2 = ((w.alloc (.cells A s)).alloc (.cells B t)).alloc (.cells C u) ∧ Below w.heap.size w w2 ∧ w2.heap.size = w.heap.size + 3 ∧ w2.heap[w.heap.size]? = some (.cells A s (0, 0)) ∧ w2.heap[w.heap.size + 1]? = some (.cells B t (0, 0)) ∧ w2.heap[w.heap.size + 2]? = some (.cells C u (0, 0)) := by
  obtain ⟨w1, e1, b1, s1, h1, h2⟩ := two_boxes w A B s t
  refine ⟨w1.alloc (.cells C u), by rw [e1], b1.alloc (by omega) _, by rw [World.size_alloc, s1], ?_, ?_, ?_⟩
  · rw [Below.heap_alloc _ _ _ (by omega)]; exact h1
  · rw [Below.heap_alloc _ _ _ (by omega)]; exact h2
  · have := new_block w1 (.cells C u)
    rw [s1] at this
    exact this
theorem end_made3 {w W : World} {base g cap c : Nat} {L : List Ino} {vs : List Value} (hO : OwnT W base g cap L vs) (hB : Below w.heap.size w W) (hc : c < base) (hc2 : w.heap.size ≤ c) (x y z : Value) :
    OwnT (put3 W c x y z) w.heap.size g cap L vs ∧ Below w.heap.size w (put3 W c x y z) :=
  ⟨(hO.low fun k hk => put3_other (by omega) x y z).lower (by omega), put3_below hB hc2 x y z⟩

/-! ### The words of the landed code and the chapter's -/

theorem spot_fresh (L : List Ino) (cwd : Int) (p : List UInt8) : freshW L cwd p false = if (freshW L cwd p true).2.2 ≠ 0 then freshW L cwd p true else if endL p = true then (0, [], 20) else freshW L cwd p true := by
  unfold freshW
  split
  · rename_i h; simp []
  · split
    · simp
    · split
      · simp
      · split
        · simp
        · cases endL p <;> simp
theorem fresh_zero {L : List Ino} {cwd : Int} {p : List UInt8} {dirs : Bool} (h : (freshW L cwd p dirs).2.2 ≠ 0) : freshW L cwd p dirs = (0, [], (freshW L cwd p dirs).2.2) := by
  unfold freshW at h ⊢
  split
  · rfl
  · rename_i h1
    rw [if_neg h1] at h
    split
    · rfl
    · rename_i h2
      rw [if_neg h2] at h
      split
      · rfl
      · rename_i h3
        rw [if_neg h3] at h
        split
        · rfl
        · rename_i h4
          rw [if_neg h4] at h
          split
          · rfl
          · rename_i h5
            rw [if_neg h5] at h
            exact absurd rfl h
/-- add tells what the chapter says of a new inode of a new name. -/
theorem addS_words {L : List Ino} {m b : Int} (hF : FitP L m b) (cwd : Int) (p : List UInt8) (X : Int → Ino) (dirs : Bool) (hd : ∀ d, dirs = true ↔ (X d).kind = 2) :
    addS L b cwd p X = if (freshW L cwd p dirs).2.2 ≠ 0 then (L, 0, (freshW L cwd p dirs).2.2) else if b < (usedB L : Int) + (X (freshW L cwd p dirs).1).data.length then (L, 0, 28) else addedW L (freshW L cwd p dirs).1 (freshW L cwd p dirs).2.1 (X (freshW L cwd p dirs).1) := by
  unfold addS spotW
  by_cases h0 : (freshW L cwd p true).2.2 = 0
  · obtain ⟨d, s, hdl, hp, hf, -⟩ := fresh_ok hF h0
    have hdd := hd (d : Int)
    have key : ∀ (f : Int × List UInt8 × Int), f = ((d : Int), s, 0) → (if 1024 ≤ (nodeAt L (d : Int)).kids.length then (L, (0 : Int), (28 : Int)) else if freeN L < 0 ∨ b < (usedB L : Int) + (X (d : Int)).data.length then (L, 0, 28) else (addL L d (freeN L).toNat s { X (d : Int) with links := 1 }, freeN L, 0)) =
        (if b < (usedB L : Int) + (X f.1).data.length then (L, 0, 28) else addedW L f.1 f.2.1 (X f.1)) := fun f hf => by
      rw [hf]
      show _ = if b < (usedB L : Int) + (X (d : Int)).data.length then (L, 0, 28) else addedW L (d : Int) s (X (d : Int))
      unfold addedW freeN
      by_cases h1 : 1024 ≤ (nodeAt L (d : Int)).kids.length
      · rw [if_pos h1, if_pos h1]
        split <;> rfl
      · rw [if_neg h1, if_neg h1]
        cases freeW L L.length 0 with
        | none =>
          rw [if_pos (Or.inl (by decide))]
          split <;> rfl
        | some k =>
          by_cases h2 : b < (usedB L : Int) + (X (d : Int)).data.length
          · rw [if_pos (Or.inr h2), if_pos h2]
          · rw [if_neg h2, if_neg (by rintro (h3 | h3); · simp only at h3; omega
                                      · exact h2 h3)]
            rfl
    rw [hf]
    simp only [ne_eq, not_true_eq_false, if_false]
    cases dirs with
    | true =>
      have hk : (X (d : Int)).kind = 2 := hdd.1 rfl
      have hr : refuseW L (d : Int) (endL p) (X (d : Int)).kind = if 1024 ≤ (nodeAt L (d : Int)).kids.length then 28 else 0 := by
        unfold refuseW
        rw [if_neg (by simp [hk])]
      have hq := key ((d : Int), s, 0) rfl
      rw [hf, hr]
      by_cases h1 : 1024 ≤ (nodeAt L (d : Int)).kids.length
      · rw [if_pos h1] at hq ⊢
        exact hq
      · rw [if_neg h1] at hq ⊢
        exact hq
    | false =>
      have hk : (X (d : Int)).kind ≠ 2 := fun e => by have := hdd.2 e; cases this
      have hq := key ((d : Int), s, 0) rfl
      rw [spot_fresh, hf]
      cases he : endL p with
      | true =>
        have hr : refuseW L (d : Int) true (X (d : Int)).kind = 20 := by
          unfold refuseW
          rw [if_pos ⟨rfl, hk⟩]
        rw [hr]
        rfl
      | false =>
        have hr : refuseW L (d : Int) false (X (d : Int)).kind = if 1024 ≤ (nodeAt L (d : Int)).kids.length then 28 else 0 := by
          unfold refuseW
          rw [if_neg (by simp)]
        rw [hr]
        by_cases h1 : 1024 ≤ (nodeAt L (d : Int)).kids.length
        · rw [if_pos h1] at hq ⊢
          exact hq
        · rw [if_neg h1] at hq ⊢
          exact hq
  · rw [if_pos h0]
    simp only [ne_eq, h0, not_false_eq_true, if_true]
    cases dirs with
    | true => simp [h0]
    | false => rw [spot_fresh]; simp [h0]
theorem mkdir_words {L : List Ino} {m b : Int} (hF : FitP L m b) (cwd : Int) (p : List UInt8) (q : Int) (h : modeB q = true) : mkdirW L cwd p q = addS L b cwd p (fun d => newIno 2 q [] d) := by
  obtain ⟨-, -, -, l4, -⟩ := hF.limits
  rw [addS_words hF cwd p _ true (fun d => by simp [newIno])]
  unfold mkdirW
  rw [if_neg (by simp [h])]
  split
  · rfl
  · show _ = if b < (usedB L : Int) + (0 : Nat) then _ else _
    rw [if_neg (by omega)]
theorem create_words {L : List Ino} {m b : Int} (hF : FitP L m b) (cwd : Int) (p : List UInt8) (q : Int) (h : modeB q = true) : createW L cwd p q = addS L b cwd p (fun _ => newIno 1 q [] 0) := by
  obtain ⟨-, -, -, l4, -⟩ := hF.limits
  rw [addS_words hF cwd p _ false (fun d => by simp [newIno])]
  unfold createW
  rw [if_neg (by simp [h])]
  split
  · rfl
  · show _ = if b < (usedB L : Int) + (0 : Nat) then _ else _
    rw [if_neg (by omega)]
theorem symlink_words {L : List Ino} {m b : Int} (hF : FitP L m b) (cwd : Int) (to p : List UInt8) (h1 : to ≠ []) (h2 : to.any (fun c => c == 0) = false) (h3 : to.length ≤ 1024) : symlinkW L b cwd to p = addS L b cwd p (fun _ => newIno 3 7 to 0) := by
  rw [addS_words hF cwd p _ false (fun d => by simp [newIno])]
  unfold symlinkW
  rw [if_neg (by simp [h1, h2]), if_neg (by omega)]
  rfl
end Go.Proofs.Ytfmaagcomplooaa

namespace Go.Proofs.Ytfmaagcomplooaa
set_option maxRecDepth 100000
open Go Go.RowKit

set_option maxHeartbeats 4000000 in
theorem lmkdir_any (a : Option Addr) (cap : Nat) (m b cwd q : Int) (pb : ByteArray) (hp : pb.size ≤ 1073741824) (L : List Ino) (hF : FitP L m b) (L' : List Ino) (kz ez : Int) (hz : mkdirW L cwd pb.data.toList q = (L', kz, ez)) (w : World) (hN : NodesIn w a cap L) :
    Calls Try.prog 8 #[.agg #[.slice a L.length cap, .int .i64 m, .int .i64 b], .int .i64 cwd, .string pb, .int .i64 q] w (MadeAns w.heap.size w m b L' [.int .i64 kz, .int .i64 ez]) := by
  obtain ⟨w2, hw2, hb2, hs2, hA, hQ, hB⟩ := three_boxes w #[.slice a L.length cap, .int .i64 m, .int .i64 b] #[.int .i64 q] #[.slice none 0 0, .int .i64 0, .int .i64 0] 24 3 24
  obtain ⟨l1, l2, l3, l4, l5⟩ := hF.limits
  have hL0 : 0 < L.length := by omega
  have hL1 : L.length ≤ 256 := by omega
  have HF := Lib.hid hF
  have HN2 := Lib.hid (hN.below hb2)
  have HZ := Lib.hid hz
  have HB2 := Lib.hid hb2
  have HK := Lib.hid (show ∀ x ∈ L, x.kids.length ≤ 4096 from fun x hx => by obtain ⟨j, hj, rfl⟩ := List.getElem_of_mem hx; have := (hF.ins j hj).2.1; omega)
  have HR := Lib.hid (show ∀ W, Below w2.heap.size w2 W → W.heap[w.heap.size + 2]? = some (.cells #[.slice none 0 0, .int .i64 0, .int .i64 0] 24 (0, 0)) from fun W hW => (hW.block _ (by omega)).trans hB)
  have HQ := Lib.hid (show ∀ W, Below w2.heap.size w2 W → W.cell? ⟨w.heap.size + 1, 0, none⟩ = some (.int .i64 q) from fun W hW => blk_cell ((hW.block (w.heap.size + 1) (by omega)).trans hQ) 0)
  clear hF hN hz hb2 hA hQ hB
  have q0 := HQ.out _ (Below.refl _ _)
  cases hq : modeB q with
  | false =>
    have HM := Lib.hid hq
    have hz2 := HZ.out
    unfold mkdirW at hz2
    rw [if_pos hq] at hz2
    simp only [Prod.mk.injEq] at hz2
    obtain ⟨rfl, rfl, rfl⟩ := hz2
    clear hq
    go_enter Try.func8, Try.ntmps8
    go_wp2_with (first | (go_at_call 25; refine (lismode_known _ _ HM.out _).mono ?_; rintro e w' ⟨rfl, rfl⟩) | fail)
    rw [← hw2]
    clear hw2 q0
    refine (lcopied_any a cap m b L hL0 (by omega) HK.out _ HN2.out).mono ?_
    rintro e w3 ⟨g, cap', vs, rfl, hO3, hb3⟩
    have HO3 := Lib.hid hO3
    have HB3 := Lib.hid (HB2.out.trans (hb3.mono (by omega)))
    have HRX := Lib.hid (HR.out w3 hb3)
    have r0 := blk_cell HRX.out 0
    have r1 := blk_cell HRX.out 1
    have r2 := blk_cell HRX.out 2
    have s0 := blk_free HRX.out 0
    have s1 := blk_free HRX.out 1
    have s2 := blk_free HRX.out 2
    have hrl := lt_of_block HRX.out
    clear hO3 hb3
    go_wp2_with fail
    change bodyPost _ _ _ _ _ (put3 w3 (w.heap.size + 2) (.slice (some ⟨g, 0, none⟩) L.length cap') (.int .i64 m) (.int .i64 b))
    obtain ⟨c0, c1, c2⟩ := put3_cells HRX.out (.slice (some ⟨g, 0, none⟩) L.length cap') (.int .i64 m) (.int .i64 b)
    obtain ⟨hOF, hBF⟩ := end_made3 (c := w.heap.size + 2) HO3.out HB3.out (by omega) (by omega) (.slice (some ⟨g, 0, none⟩) L.length cap') (.int .i64 m) (.int .i64 b)
    have HOG := Lib.hid hOF
    have HBG := Lib.hid hBF
    clear hOF hBF
    generalize put3 w3 (w.heap.size + 2) (.slice (some ⟨g, 0, none⟩) L.length cap') (.int .i64 m) (.int .i64 b) = wF at *
    exact bodyPost_ret (v := .tuple #[.agg #[.slice (some ⟨g, 0, none⟩) L.length cap', .int .i64 m, .int .i64 b], .int .i64 0, .int .i64 22]) (by simp [results, Try.results8, go_sem, c0, c1, c2]) rfl ⟨⟨g, cap', vs, rfl, HOG.out⟩, HBG.out⟩
  | true =>
    have HM := Lib.hid hq
    have hz2 := HZ.out
    rw [mkdir_words HF.out cwd pb.data.toList q hq] at hz2
    clear hq
    go_enter Try.func8, Try.ntmps8
    go_wp2_with (first | (go_at_call 25; refine (lismode_known _ _ HM.out _).mono ?_; rintro e w' ⟨rfl, rfl⟩) | fail)
    rw [← hw2]
    clear hw2 q0
    have hadd := ladd_any a cap m b cwd pb hp L HF.out (fun d => newIno 2 q [] d) (fun _ => rfl) (fun _ => rfl) (fun _ => Nat.zero_le _) 28 #[.pointer (some ⟨w.heap.size + 1, 0, none⟩)] (enters_of Try.func28 (by kernel_rfl) rfl) w2 HN2.out (fun W d hW => lmkdir1_any d _ _ W (HQ.out W hW)) L' kz ez hz2
    have HADD := Lib.hid hadd
    clear hadd
    have hmf : ∀ (fn : Fn) (first cap : Array Value) (w : World), (Instr.makeFunc fn first cap).run Try.prog w = .ok (.func fn first cap) w := fun _ _ _ _ => rfl
    go_wp2_with fail
    refine HADD.out.mono ?_
    rintro e w3 ⟨⟨g, cap', vs, he, hO3⟩, hb3⟩
    have he' : e = .returned (.tuple #[.agg #[.slice (some ⟨g, 0, none⟩) L'.length cap', .int .i64 m, .int .i64 b], .int .i64 kz, .int .i64 ez]) := he
    subst he'
    have HO3 := Lib.hid hO3
    have HB3 := Lib.hid (HB2.out.trans (hb3.mono (by omega)))
    have HRX := Lib.hid (HR.out w3 hb3)
    have r0 := blk_cell HRX.out 0
    have r1 := blk_cell HRX.out 1
    have r2 := blk_cell HRX.out 2
    have s0 := blk_free HRX.out 0
    have s1 := blk_free HRX.out 1
    have s2 := blk_free HRX.out 2
    have hrl := lt_of_block HRX.out
    clear hO3 hb3 he
    go_wp2_with fail
    change bodyPost _ _ _ _ _ (put3 w3 (w.heap.size + 2) (.slice (some ⟨g, 0, none⟩) L'.length cap') (.int .i64 m) (.int .i64 b))
    obtain ⟨c0, c1, c2⟩ := put3_cells HRX.out (.slice (some ⟨g, 0, none⟩) L'.length cap') (.int .i64 m) (.int .i64 b)
    obtain ⟨hOF, hBF⟩ := end_made3 (c := w.heap.size + 2) HO3.out HB3.out (by omega) (by omega) (.slice (some ⟨g, 0, none⟩) L'.length cap') (.int .i64 m) (.int .i64 b)
    have HOG := Lib.hid hOF
    have HBG := Lib.hid hBF
    clear hOF hBF
    generalize put3 w3 (w.heap.size + 2) (.slice (some ⟨g, 0, none⟩) L'.length cap') (.int .i64 m) (.int .i64 b) = wF at *
    exact bodyPost_ret (v := .tuple #[.agg #[.slice (some ⟨g, 0, none⟩) L'.length cap', .int .i64 m, .int .i64 b], .int .i64 kz, .int .i64 ez]) (by simp [results, Try.results8, go_sem, c0, c1, c2]) rfl ⟨⟨g, cap', vs, rfl, HOG.out⟩, HBG.out⟩

set_option maxHeartbeats 4000000 in
theorem lcreate_any (a : Option Addr) (cap : Nat) (m b cwd q : Int) (pb : ByteArray) (hp : pb.size ≤ 1073741824) (L : List Ino) (hF : FitP L m b) (L' : List Ino) (kz ez : Int) (hz : createW L cwd pb.data.toList q = (L', kz, ez)) (w : World) (hN : NodesIn w a cap L) :
    Calls Try.prog 9 #[.agg #[.slice a L.length cap, .int .i64 m, .int .i64 b], .int .i64 cwd, .string pb, .int .i64 q] w (MadeAns w.heap.size w m b L' [.int .i64 kz, .int .i64 ez]) := by
  obtain ⟨w2, hw2, hb2, hs2, hA, hQ, hB⟩ := three_boxes w #[.slice a L.length cap, .int .i64 m, .int .i64 b] #[.int .i64 q] #[.slice none 0 0, .int .i64 0, .int .i64 0] 24 3 24
  obtain ⟨l1, l2, l3, l4, l5⟩ := hF.limits
  have hL0 : 0 < L.length := by omega
  have hL1 : L.length ≤ 256 := by omega
  have HF := Lib.hid hF
  have HN2 := Lib.hid (hN.below hb2)
  have HZ := Lib.hid hz
  have HB2 := Lib.hid hb2
  have HK := Lib.hid (show ∀ x ∈ L, x.kids.length ≤ 4096 from fun x hx => by obtain ⟨j, hj, rfl⟩ := List.getElem_of_mem hx; have := (hF.ins j hj).2.1; omega)
  have HR := Lib.hid (show ∀ W, Below w2.heap.size w2 W → W.heap[w.heap.size + 2]? = some (.cells #[.slice none 0 0, .int .i64 0, .int .i64 0] 24 (0, 0)) from fun W hW => (hW.block _ (by omega)).trans hB)
  have HQ := Lib.hid (show ∀ W, Below w2.heap.size w2 W → W.cell? ⟨w.heap.size + 1, 0, none⟩ = some (.int .i64 q) from fun W hW => blk_cell ((hW.block (w.heap.size + 1) (by omega)).trans hQ) 0)
  clear hF hN hz hb2 hA hQ hB
  have q0 := HQ.out _ (Below.refl _ _)
  cases hq : modeB q with
  | false =>
    have HM := Lib.hid hq
    have hz2 := HZ.out
    unfold createW at hz2
    rw [if_pos hq] at hz2
    simp only [Prod.mk.injEq] at hz2
    obtain ⟨rfl, rfl, rfl⟩ := hz2
    clear hq
    go_enter Try.func9, Try.ntmps9
    go_wp2_with (first | (go_at_call 25; refine (lismode_known _ _ HM.out _).mono ?_; rintro e w' ⟨rfl, rfl⟩) | fail)
    rw [← hw2]
    clear hw2 q0
    refine (lcopied_any a cap m b L hL0 (by omega) HK.out _ HN2.out).mono ?_
    rintro e w3 ⟨g, cap', vs, rfl, hO3, hb3⟩
    have HO3 := Lib.hid hO3
    have HB3 := Lib.hid (HB2.out.trans (hb3.mono (by omega)))
    have HRX := Lib.hid (HR.out w3 hb3)
    have r0 := blk_cell HRX.out 0
    have r1 := blk_cell HRX.out 1
    have r2 := blk_cell HRX.out 2
    have s0 := blk_free HRX.out 0
    have s1 := blk_free HRX.out 1
    have s2 := blk_free HRX.out 2
    have hrl := lt_of_block HRX.out
    clear hO3 hb3
    go_wp2_with fail
    change bodyPost _ _ _ _ _ (put3 w3 (w.heap.size + 2) (.slice (some ⟨g, 0, none⟩) L.length cap') (.int .i64 m) (.int .i64 b))
    obtain ⟨c0, c1, c2⟩ := put3_cells HRX.out (.slice (some ⟨g, 0, none⟩) L.length cap') (.int .i64 m) (.int .i64 b)
    obtain ⟨hOF, hBF⟩ := end_made3 (c := w.heap.size + 2) HO3.out HB3.out (by omega) (by omega) (.slice (some ⟨g, 0, none⟩) L.length cap') (.int .i64 m) (.int .i64 b)
    have HOG := Lib.hid hOF
    have HBG := Lib.hid hBF
    clear hOF hBF
    generalize put3 w3 (w.heap.size + 2) (.slice (some ⟨g, 0, none⟩) L.length cap') (.int .i64 m) (.int .i64 b) = wF at *
    exact bodyPost_ret (v := .tuple #[.agg #[.slice (some ⟨g, 0, none⟩) L.length cap', .int .i64 m, .int .i64 b], .int .i64 0, .int .i64 22]) (by simp [results, Try.results9, go_sem, c0, c1, c2]) rfl ⟨⟨g, cap', vs, rfl, HOG.out⟩, HBG.out⟩
  | true =>
    have HM := Lib.hid hq
    have hz2 := HZ.out
    rw [create_words HF.out cwd pb.data.toList q hq] at hz2
    clear hq
    go_enter Try.func9, Try.ntmps9
    go_wp2_with (first | (go_at_call 25; refine (lismode_known _ _ HM.out _).mono ?_; rintro e w' ⟨rfl, rfl⟩) | fail)
    rw [← hw2]
    clear hw2 q0
    have hadd := ladd_any a cap m b cwd pb hp L HF.out (fun _ => newIno 1 q [] 0) (fun _ => rfl) (fun _ => rfl) (fun _ => Nat.zero_le _) 29 #[.pointer (some ⟨w.heap.size + 1, 0, none⟩)] (enters_of Try.func29 (by kernel_rfl) rfl) w2 HN2.out (fun W d hW => lcreate1_any d _ _ W (HQ.out W hW)) L' kz ez hz2
    have HADD := Lib.hid hadd
    clear hadd
    have hmf : ∀ (fn : Fn) (first cap : Array Value) (w : World), (Instr.makeFunc fn first cap).run Try.prog w = .ok (.func fn first cap) w := fun _ _ _ _ => rfl
    go_wp2_with fail
    refine HADD.out.mono ?_
    rintro e w3 ⟨⟨g, cap', vs, he, hO3⟩, hb3⟩
    have he' : e = .returned (.tuple #[.agg #[.slice (some ⟨g, 0, none⟩) L'.length cap', .int .i64 m, .int .i64 b], .int .i64 kz, .int .i64 ez]) := he
    subst he'
    have HO3 := Lib.hid hO3
    have HB3 := Lib.hid (HB2.out.trans (hb3.mono (by omega)))
    have HRX := Lib.hid (HR.out w3 hb3)
    have r0 := blk_cell HRX.out 0
    have r1 := blk_cell HRX.out 1
    have r2 := blk_cell HRX.out 2
    have s0 := blk_free HRX.out 0
    have s1 := blk_free HRX.out 1
    have s2 := blk_free HRX.out 2
    have hrl := lt_of_block HRX.out
    clear hO3 hb3 he
    go_wp2_with fail
    change bodyPost _ _ _ _ _ (put3 w3 (w.heap.size + 2) (.slice (some ⟨g, 0, none⟩) L'.length cap') (.int .i64 m) (.int .i64 b))
    obtain ⟨c0, c1, c2⟩ := put3_cells HRX.out (.slice (some ⟨g, 0, none⟩) L'.length cap') (.int .i64 m) (.int .i64 b)
    obtain ⟨hOF, hBF⟩ := end_made3 (c := w.heap.size + 2) HO3.out HB3.out (by omega) (by omega) (.slice (some ⟨g, 0, none⟩) L'.length cap') (.int .i64 m) (.int .i64 b)
    have HOG := Lib.hid hOF
    have HBG := Lib.hid hBF
    clear hOF hBF
    generalize put3 w3 (w.heap.size + 2) (.slice (some ⟨g, 0, none⟩) L'.length cap') (.int .i64 m) (.int .i64 b) = wF at *
    exact bodyPost_ret (v := .tuple #[.agg #[.slice (some ⟨g, 0, none⟩) L'.length cap', .int .i64 m, .int .i64 b], .int .i64 kz, .int .i64 ez]) (by simp [results, Try.results9, go_sem, c0, c1, c2]) rfl ⟨⟨g, cap', vs, rfl, HOG.out⟩, HBG.out⟩

end Go.Proofs.Ytfmaagcomplooaa

namespace Go.Proofs.Ytfmaagcomplooaa
set_option maxRecDepth 100000
open Go Go.RowKit

theorem any_zero (l : List UInt8) : l.any (fun c => c == 0) = decide (0 ≤ Lib.indexByte l 0) := by
  have h := none_of l 0
  have e : l.any (fun c => c == 0) = !(l.all fun x => x != 0) := by
    induction l with
    | nil => rfl
    | cons a r ih =>
      have ih' := ih (none_of r 0)
      simp only [List.any_cons, List.all_cons, ih']
      cases ha : (a == 0) <;> simp [bne, ha]
  rw [e, ← h]
  by_cases h0 : Lib.indexByte l 0 < 0
  · rw [decide_eq_true h0, decide_eq_false (by omega)]; rfl
  · rw [decide_eq_false h0, decide_eq_true (by omega)]; rfl

set_option maxHeartbeats 4000000 in
theorem lsymlink_any (a : Option Addr) (cap : Nat) (m b cwd : Int) (to : List UInt8) (pb : ByteArray) (hp : pb.size ≤ 1073741824) (L : List Ino) (hF : FitP L m b) (L' : List Ino) (kz ez : Int) (hz : symlinkW L b cwd to pb.data.toList = (L', kz, ez)) (w : World) (hN : NodesIn w a cap L) :
    Calls Try.prog 10 #[.agg #[.slice a L.length cap, .int .i64 m, .int .i64 b], .int .i64 cwd, .string ⟨to.toArray⟩, .string pb] w (MadeAns w.heap.size w m b L' [.int .i64 kz, .int .i64 ez]) := by
  obtain ⟨w2, hw2, hb2, hs2, hA, hQ, hB⟩ := three_boxes w #[.slice a L.length cap, .int .i64 m, .int .i64 b] #[.string ⟨to.toArray⟩] #[.slice none 0 0, .int .i64 0, .int .i64 0] 24 9 24
  obtain ⟨l1, l2, l3, l4, l5⟩ := hF.limits
  have hL0 : 0 < L.length := by omega
  have hL1 : L.length ≤ 256 := by omega
  have HF := Lib.hid hF
  have HN2 := Lib.hid (hN.below hb2)
  have HZ := Lib.hid hz
  have HB2 := Lib.hid hb2
  have HK := Lib.hid (show ∀ x ∈ L, x.kids.length ≤ 4096 from fun x hx => by obtain ⟨j, hj, rfl⟩ := List.getElem_of_mem hx; have := (hF.ins j hj).2.1; omega)
  have HR := Lib.hid (show ∀ W, Below w2.heap.size w2 W → W.heap[w.heap.size + 2]? = some (.cells #[.slice none 0 0, .int .i64 0, .int .i64 0] 24 (0, 0)) from fun W hW => (hW.block _ (by omega)).trans hB)
  have HQ := Lib.hid (show ∀ W, Below w2.heap.size w2 W → W.cell? ⟨w.heap.size + 1, 0, none⟩ = some (.string ⟨to.toArray⟩) from fun W hW => blk_cell ((hW.block (w.heap.size + 1) (by omega)).trans hQ) 0)
  clear hF hN hz hb2 hA hQ hB
  have q0 := HQ.out _ (Below.refl _ _)
  obtain ⟨ib, hib⟩ : ∃ i, Lib.indexByte to 0 = i := ⟨_, rfl⟩
  have HIB := Lib.hid (show Lib.indexByte (⟨to.toArray⟩ : ByteArray).data.toList (0 : Int).toNat.toUInt8 = ib from hib)
  have HANY := Lib.hid (show to.any (fun c => c == 0) = decide (0 ≤ ib) by rw [any_zero, hib])
  have hsl := str_len to
  clear hib
  by_cases e0 : to = []
  · subst e0
    have hz2 := HZ.out
    unfold symlinkW at hz2
    rw [if_pos (Or.inl rfl)] at hz2
    simp only [Prod.mk.injEq] at hz2
    obtain ⟨rfl, rfl, rfl⟩ := hz2
    go_enter Try.func10, Try.ntmps10
    go_wp2_with (first | (go_at_call 30; refine (ibyte_known _ _ _ HIB.out _).mono ?_; rintro e w' ⟨rfl, rfl⟩) | fail)
    rw [← hw2]
    clear hw2 q0
    refine (lcopied_any a cap m b L hL0 (by omega) HK.out _ HN2.out).mono ?_
    rintro e w3 ⟨g, cap', vs, rfl, hO3, hb3⟩
    have HO3 := Lib.hid hO3
    have HB3 := Lib.hid (HB2.out.trans (hb3.mono (by omega)))
    have HRX := Lib.hid (HR.out w3 hb3)
    have r0 := blk_cell HRX.out 0
    have r1 := blk_cell HRX.out 1
    have r2 := blk_cell HRX.out 2
    have s0 := blk_free HRX.out 0
    have s1 := blk_free HRX.out 1
    have s2 := blk_free HRX.out 2
    have hrl := lt_of_block HRX.out
    clear hO3 hb3
    go_wp2_with fail
    change bodyPost _ _ _ _ _ (put3 w3 (w.heap.size + 2) (.slice (some ⟨g, 0, none⟩) L.length cap') (.int .i64 m) (.int .i64 b))
    obtain ⟨c0, c1, c2⟩ := put3_cells HRX.out (.slice (some ⟨g, 0, none⟩) L.length cap') (.int .i64 m) (.int .i64 b)
    obtain ⟨hOF, hBF⟩ := end_made3 (c := w.heap.size + 2) HO3.out HB3.out (by omega) (by omega) (.slice (some ⟨g, 0, none⟩) L.length cap') (.int .i64 m) (.int .i64 b)
    have HOG := Lib.hid hOF
    have HBG := Lib.hid hBF
    clear hOF hBF
    generalize put3 w3 (w.heap.size + 2) (.slice (some ⟨g, 0, none⟩) L.length cap') (.int .i64 m) (.int .i64 b) = wF at *
    exact bodyPost_ret (v := .tuple #[.agg #[.slice (some ⟨g, 0, none⟩) L.length cap', .int .i64 m, .int .i64 b], .int .i64 0, .int .i64 22]) (by simp [results, Try.results10, go_sem, c0, c1, c2]) rfl ⟨⟨g, cap', vs, rfl, HOG.out⟩, HBG.out⟩
  have e0b : (to == []) = false := by simpa using e0
  have e0c : to.isEmpty = false := by simpa using e0
  by_cases e1 : 0 ≤ ib
  · have hz2 := HZ.out
    unfold symlinkW at hz2
    rw [if_pos (Or.inr (by rw [HANY.out]; exact decide_eq_true e1))] at hz2
    simp only [Prod.mk.injEq] at hz2
    obtain ⟨rfl, rfl, rfl⟩ := hz2
    clear e0
    go_enter Try.func10, Try.ntmps10
    go_wp2_with (first | (go_at_call 30; refine (ibyte_known _ _ _ HIB.out _).mono ?_; rintro e w' ⟨rfl, rfl⟩) | fail)
    rw [← hw2]
    clear hw2 q0
    refine (lcopied_any a cap m b L hL0 (by omega) HK.out _ HN2.out).mono ?_
    rintro e w3 ⟨g, cap', vs, rfl, hO3, hb3⟩
    have HO3 := Lib.hid hO3
    have HB3 := Lib.hid (HB2.out.trans (hb3.mono (by omega)))
    have HRX := Lib.hid (HR.out w3 hb3)
    have r0 := blk_cell HRX.out 0
    have r1 := blk_cell HRX.out 1
    have r2 := blk_cell HRX.out 2
    have s0 := blk_free HRX.out 0
    have s1 := blk_free HRX.out 1
    have s2 := blk_free HRX.out 2
    have hrl := lt_of_block HRX.out
    clear hO3 hb3
    go_wp2_with fail
    change bodyPost _ _ _ _ _ (put3 w3 (w.heap.size + 2) (.slice (some ⟨g, 0, none⟩) L.length cap') (.int .i64 m) (.int .i64 b))
    obtain ⟨c0, c1, c2⟩ := put3_cells HRX.out (.slice (some ⟨g, 0, none⟩) L.length cap') (.int .i64 m) (.int .i64 b)
    obtain ⟨hOF, hBF⟩ := end_made3 (c := w.heap.size + 2) HO3.out HB3.out (by omega) (by omega) (.slice (some ⟨g, 0, none⟩) L.length cap') (.int .i64 m) (.int .i64 b)
    have HOG := Lib.hid hOF
    have HBG := Lib.hid hBF
    clear hOF hBF
    generalize put3 w3 (w.heap.size + 2) (.slice (some ⟨g, 0, none⟩) L.length cap') (.int .i64 m) (.int .i64 b) = wF at *
    exact bodyPost_ret (v := .tuple #[.agg #[.slice (some ⟨g, 0, none⟩) L.length cap', .int .i64 m, .int .i64 b], .int .i64 0, .int .i64 22]) (by simp [results, Try.results10, go_sem, c0, c1, c2]) rfl ⟨⟨g, cap', vs, rfl, HOG.out⟩, HBG.out⟩
  have e1' : ib < 0 := by omega
  have hcond : ¬ (to = [] ∨ to.any (fun c => c == 0) = true) := by
    rintro (h | h)
    · exact e0 h
    · rw [HANY.out] at h
      exact e1 (of_decide_eq_true h)
  have HCOND := Lib.hid hcond
  clear hcond
  by_cases e2 : 1024 < to.length
  · have hz2 := HZ.out
    unfold symlinkW at hz2
    rw [if_neg HCOND.out, if_pos e2] at hz2
    simp only [Prod.mk.injEq] at hz2
    obtain ⟨rfl, rfl, rfl⟩ := hz2
    have e2' : (1024 : Int) < (to.length : Int) := by omega
    clear e0
    go_enter Try.func10, Try.ntmps10
    go_wp2_with (first | (go_at_call 30; refine (ibyte_known _ _ _ HIB.out _).mono ?_; rintro e w' ⟨rfl, rfl⟩) | fail)
    rw [← hw2]
    clear hw2 q0
    refine (lcopied_any a cap m b L hL0 (by omega) HK.out _ HN2.out).mono ?_
    rintro e w3 ⟨g, cap', vs, rfl, hO3, hb3⟩
    have HO3 := Lib.hid hO3
    have HB3 := Lib.hid (HB2.out.trans (hb3.mono (by omega)))
    have HRX := Lib.hid (HR.out w3 hb3)
    have r0 := blk_cell HRX.out 0
    have r1 := blk_cell HRX.out 1
    have r2 := blk_cell HRX.out 2
    have s0 := blk_free HRX.out 0
    have s1 := blk_free HRX.out 1
    have s2 := blk_free HRX.out 2
    have hrl := lt_of_block HRX.out
    clear hO3 hb3
    go_wp2_with fail
    change bodyPost _ _ _ _ _ (put3 w3 (w.heap.size + 2) (.slice (some ⟨g, 0, none⟩) L.length cap') (.int .i64 m) (.int .i64 b))
    obtain ⟨c0, c1, c2⟩ := put3_cells HRX.out (.slice (some ⟨g, 0, none⟩) L.length cap') (.int .i64 m) (.int .i64 b)
    obtain ⟨hOF, hBF⟩ := end_made3 (c := w.heap.size + 2) HO3.out HB3.out (by omega) (by omega) (.slice (some ⟨g, 0, none⟩) L.length cap') (.int .i64 m) (.int .i64 b)
    have HOG := Lib.hid hOF
    have HBG := Lib.hid hBF
    clear hOF hBF
    generalize put3 w3 (w.heap.size + 2) (.slice (some ⟨g, 0, none⟩) L.length cap') (.int .i64 m) (.int .i64 b) = wF at *
    exact bodyPost_ret (v := .tuple #[.agg #[.slice (some ⟨g, 0, none⟩) L.length cap', .int .i64 m, .int .i64 b], .int .i64 0, .int .i64 36]) (by simp [results, Try.results10, go_sem, c0, c1, c2]) rfl ⟨⟨g, cap', vs, rfl, HOG.out⟩, HBG.out⟩
  have hto : to.length ≤ 1024 := by omega
  have e2' : ¬ (1024 : Int) < (to.length : Int) := by omega
  have hz2 := HZ.out
  rw [symlink_words HF.out cwd to pb.data.toList e0 (by
    cases h : to.any (fun c => c == 0) with
    | false => rfl
    | true => exact absurd (Or.inr h) HCOND.out) hto] at hz2
  clear e0
  go_enter Try.func10, Try.ntmps10
  go_wp2_with (first | (go_at_call 30; refine (ibyte_known _ _ _ HIB.out _).mono ?_; rintro e w' ⟨rfl, rfl⟩) | fail)
  rw [← hw2]
  clear hw2 q0
  have hadd := ladd_any a cap m b cwd pb hp L HF.out (fun _ => newIno 3 7 to 0) (fun _ => rfl) (fun _ => rfl) (fun _ => hto) 31 #[.pointer (some ⟨w.heap.size + 1, 0, none⟩)] (enters_of Try.func31 (by kernel_rfl) rfl) w2 HN2.out (fun W d hW => lsymlink1_any d _ _ W (HQ.out W hW)) L' kz ez hz2
  have HADD := Lib.hid hadd
  clear hadd
  have hmf : ∀ (fn : Fn) (first cap : Array Value) (w : World), (Instr.makeFunc fn first cap).run Try.prog w = .ok (.func fn first cap) w := fun _ _ _ _ => rfl
  go_wp2_with fail
  refine HADD.out.mono ?_
  rintro e w3 ⟨⟨g, cap', vs, he, hO3⟩, hb3⟩
  have he' : e = .returned (.tuple #[.agg #[.slice (some ⟨g, 0, none⟩) L'.length cap', .int .i64 m, .int .i64 b], .int .i64 kz, .int .i64 ez]) := he
  subst he'
  have HO3 := Lib.hid hO3
  have HB3 := Lib.hid (HB2.out.trans (hb3.mono (by omega)))
  have HRX := Lib.hid (HR.out w3 hb3)
  have r0 := blk_cell HRX.out 0
  have r1 := blk_cell HRX.out 1
  have r2 := blk_cell HRX.out 2
  have s0 := blk_free HRX.out 0
  have s1 := blk_free HRX.out 1
  have s2 := blk_free HRX.out 2
  have hrl := lt_of_block HRX.out
  clear hO3 hb3 he
  go_wp2_with fail
  change bodyPost _ _ _ _ _ (put3 w3 (w.heap.size + 2) (.slice (some ⟨g, 0, none⟩) L'.length cap') (.int .i64 m) (.int .i64 b))
  obtain ⟨c0, c1, c2⟩ := put3_cells HRX.out (.slice (some ⟨g, 0, none⟩) L'.length cap') (.int .i64 m) (.int .i64 b)
  obtain ⟨hOF, hBF⟩ := end_made3 (c := w.heap.size + 2) HO3.out HB3.out (by omega) (by omega) (.slice (some ⟨g, 0, none⟩) L'.length cap') (.int .i64 m) (.int .i64 b)
  have HOG := Lib.hid hOF
  have HBG := Lib.hid hBF
  clear hOF hBF
  generalize put3 w3 (w.heap.size + 2) (.slice (some ⟨g, 0, none⟩) L'.length cap') (.int .i64 m) (.int .i64 b) = wF at *
  exact bodyPost_ret (v := .tuple #[.agg #[.slice (some ⟨g, 0, none⟩) L'.length cap', .int .i64 m, .int .i64 b], .int .i64 kz, .int .i64 ez]) (by simp [results, Try.results10, go_sem, c0, c1, c2]) rfl ⟨⟨g, cap', vs, rfl, HOG.out⟩, HBG.out⟩
end Go.Proofs.Ytfmaagcomplooaa

namespace Go.Proofs.Ytfmaagcomplooaa
set_option maxRecDepth 100000
open Go Go.RowKit

theorem lwalk_kn (a : Option Addr) (cap : Nat) (m b cwd : Int) (pb : ByteArray) (hp : pb.size ≤ 1073741824) (follow : Bool) (L : List Ino) (hF : FitP L m b) (z e : Int) (h : walkW L cwd pb.data.toList follow = (z, e)) (w : World) (hN : NodesIn w a cap L) :
    Calls Try.prog 42 #[.agg #[.slice a L.length cap, .int .i64 m, .int .i64 b], .int .i64 cwd, .string pb, .bool follow] w fun r w' => r = .returned (.tuple #[.int .i64 z, .int .i64 e]) ∧ Below w.heap.size w w' := by
  have := lwalk_any a cap m b cwd pb hp follow L hF w hN
  rw [h] at this
  exact this

set_option maxHeartbeats 4000000 in
theorem lchmod_any (a : Option Addr) (cap : Nat) (m b cwd q : Int) (pb : ByteArray) (hp : pb.size ≤ 1073741824) (L : List Ino) (hF : FitP L m b) (L' : List Ino) (ez : Int) (hz : chmodW L cwd pb.data.toList q = (L', ez)) (w : World) (hN : NodesIn w a cap L) :
    Calls Try.prog 21 #[.agg #[.slice a L.length cap, .int .i64 m, .int .i64 b], .int .i64 cwd, .string pb, .int .i64 q] w (MadeAns w.heap.size w m b L' [.int .i64 ez]) := by
  obtain ⟨⟨wz, we⟩, hwk⟩ : ∃ r, walkW L cwd pb.data.toList true = r := ⟨_, rfl⟩
  have HWK := Lib.hid hwk
  clear hwk
  obtain ⟨w2, hw2, hb2, hs2, hA, hB⟩ := two_boxes w #[.slice a L.length cap, .int .i64 m, .int .i64 b] #[.slice none 0 0, .int .i64 0, .int .i64 0] 24 24
  obtain ⟨l1, l2, l3, l4, l5⟩ := hF.limits
  have hL0 : 0 < L.length := by omega
  have hL1 : L.length ≤ 256 := by omega
  have HF := Lib.hid hF
  have HN2 := Lib.hid (hN.below hb2)
  have HZ := Lib.hid hz
  have HB2 := Lib.hid hb2
  have HK := Lib.hid (show ∀ x ∈ L, x.kids.length ≤ 4096 from fun x hx => by obtain ⟨j, hj, rfl⟩ := List.getElem_of_mem hx; have := (hF.ins j hj).2.1; omega)
  have HR := Lib.hid (show ∀ W, Below w2.heap.size w2 W → W.heap[w.heap.size + 1]? = some (.cells #[.slice none 0 0, .int .i64 0, .int .i64 0] 24 (0, 0)) from fun W hW => (hW.block _ (by omega)).trans hB)
  have HAll := Lib.hid (show ∀ W, Below w2.heap.size w2 W → W.cell? ⟨w.heap.size, 0, none⟩ = some (.slice a L.length cap) ∧ W.cell? ⟨w.heap.size, 1, none⟩ = some (.int .i64 m) ∧ W.cell? ⟨w.heap.size, 2, none⟩ = some (.int .i64 b) from fun W hW => by
    have h := (hW.block w.heap.size (by omega)).trans hA
    exact ⟨blk_cell h 0, blk_cell h 1, blk_cell h 2⟩)
  clear hF hN hz hb2 hA hB
  go_enter Try.func21, Try.ntmps21
  go_wp2_with fail
  rw [← hw2]
  clear hw2
  refine (lcopied_any a cap m b L hL0 (by omega) HK.out _ HN2.out).mono ?_
  rintro e w3 ⟨g, cap', vs, rfl, hO3, hb3⟩
  have HO3 := Lib.hid hO3
  have HB3 := Lib.hid hb3
  have hs3 := hb3.size
  obtain ⟨q0, q1, q2⟩ := HAll.out _ hb3
  have hq := cell_lt q0
  clear hO3 hb3
  have hz2 := HZ.out
  unfold chmodW at hz2
  rw [HWK.out] at hz2
  cases hq2 : modeB q with
  | false =>
    have HM := Lib.hid hq2
    rw [if_pos hq2] at hz2
    simp only [Prod.mk.injEq] at hz2
    obtain ⟨rfl, rfl⟩ := hz2
    clear hq2
    go_wp2_with fail
    obtain ⟨w4, hw4⟩ : ∃ w4, w4 = w3.alloc (.cells #[.slice (some ⟨g, 0, none⟩) L.length cap', .int .i64 m, .int .i64 b] 24) := ⟨_, rfl⟩
    have hb4 : Below w3.heap.size w3 w4 := by rw [hw4]; exact below_box w3 _
    have hM4 : w4.heap[w3.heap.size]? = some (.cells #[.slice (some ⟨g, 0, none⟩) L.length cap', .int .i64 m, .int .i64 b] 24 (0, 0)) := by rw [hw4]; exact new_block w3 _
    have hs4 : w4.heap.size = w3.heap.size + 1 := by rw [hw4]; simp
    rw [← hw4]
    clear hw4 q0 q1 q2 hq
    have HB34 := Lib.hid hb4
    have HB24 := Lib.hid (HB3.out.trans (hb4.mono hs3))
    have HR4 := Lib.hid (show ∀ W, Below w4.heap.size w4 W → W.heap[w.heap.size + 1]? = some (.cells #[.slice none 0 0, .int .i64 0, .int .i64 0] 24 (0, 0)) from fun W hW => HR.out W (HB24.out.trans (hW.mono (by omega))))
    have HA4 := Lib.hid (show ∀ W, Below w4.heap.size w4 W → W.cell? ⟨w.heap.size, 0, none⟩ = some (.slice a L.length cap) ∧ W.cell? ⟨w.heap.size, 1, none⟩ = some (.int .i64 m) ∧ W.cell? ⟨w.heap.size, 2, none⟩ = some (.int .i64 b) from fun W hW => HAll.out W (HB24.out.trans (hW.mono (by omega))))
    have HM4 := Lib.hid (show ∀ W, Below w4.heap.size w4 W → W.cell? ⟨w3.heap.size, 0, none⟩ = some (.slice (some ⟨g, 0, none⟩) L.length cap') ∧ W.cell? ⟨w3.heap.size, 1, none⟩ = some (.int .i64 m) ∧ W.cell? ⟨w3.heap.size, 2, none⟩ = some (.int .i64 b) from fun W hW => by
      have h := (hW.block w3.heap.size (by omega)).trans hM4
      exact ⟨blk_cell h 0, blk_cell h 1, blk_cell h 2⟩)
    have HN4 := Lib.hid (show ∀ W, Below w4.heap.size w4 W → NodesIn W a cap L from fun W hW => HN2.out.below (HB24.out.trans (hW.mono (by omega))))
    have HO4 := Lib.hid (show ∀ W, Below w4.heap.size w4 W → OwnT W (w.heap.size + 2) g cap' L vs from fun W hW => by
      have := HO3.out.below (HB34.out.trans (hW.mono (by omega)))
      rw [hs2] at this
      exact this)
    have HBW := Lib.hid (show ∀ W, Below w4.heap.size w4 W → Below w.heap.size w W from fun W hW => HB2.out.trans ((HB24.out.trans (hW.mono (by omega))).mono (by omega)))
    clear hb4 hM4 HAll HR
    refine (lismode_known _ _ HM.out _).mono ?_
    rintro e w' ⟨rfl, rfl⟩
    have HRX := Lib.hid (HR4.out w4 (Below.refl _ _))
    have r0 := blk_cell HRX.out 0
    have r1 := blk_cell HRX.out 1
    have r2 := blk_cell HRX.out 2
    have s0 := blk_free HRX.out 0
    have s1 := blk_free HRX.out 1
    have s2 := blk_free HRX.out 2
    have hrl := lt_of_block HRX.out
    obtain ⟨m0, m1, m2⟩ := HM4.out w4 (Below.refl _ _)
    have hml := cell_lt m0
    go_wp2_with fail
    change bodyPost _ _ _ _ _ (put3 w4 (w.heap.size + 1) (.slice (some ⟨g, 0, none⟩) L.length cap') (.int .i64 m) (.int .i64 b))
    obtain ⟨c0, c1, c2⟩ := put3_cells HRX.out (.slice (some ⟨g, 0, none⟩) L.length cap') (.int .i64 m) (.int .i64 b)
    obtain ⟨hOF, hBF⟩ := end_made3 (c := w.heap.size + 1) (HO4.out w4 (Below.refl _ _)) (HBW.out w4 (Below.refl _ _)) (by omega) (by omega) (.slice (some ⟨g, 0, none⟩) L.length cap') (.int .i64 m) (.int .i64 b)
    have HOG := Lib.hid hOF
    have HBG := Lib.hid hBF
    clear hOF hBF
    generalize put3 w4 (w.heap.size + 1) (.slice (some ⟨g, 0, none⟩) L.length cap') (.int .i64 m) (.int .i64 b) = wF at *
    exact bodyPost_ret (v := .tuple #[.agg #[.slice (some ⟨g, 0, none⟩) L.length cap', .int .i64 m, .int .i64 b], .int .i64 22]) (by simp [results, Try.results21, go_sem, c0, c1, c2]) rfl ⟨⟨g, cap', vs, rfl, HOG.out⟩, HBG.out⟩
  | true =>
    have HM := Lib.hid hq2
    rw [if_neg (by simp [hq2])] at hz2
    have HQ := Lib.hid hq2
    clear hq2
    go_wp2_with fail
    obtain ⟨w4, hw4⟩ : ∃ w4, w4 = w3.alloc (.cells #[.slice (some ⟨g, 0, none⟩) L.length cap', .int .i64 m, .int .i64 b] 24) := ⟨_, rfl⟩
    have hb4 : Below w3.heap.size w3 w4 := by rw [hw4]; exact below_box w3 _
    have hM4 : w4.heap[w3.heap.size]? = some (.cells #[.slice (some ⟨g, 0, none⟩) L.length cap', .int .i64 m, .int .i64 b] 24 (0, 0)) := by rw [hw4]; exact new_block w3 _
    have hs4 : w4.heap.size = w3.heap.size + 1 := by rw [hw4]; simp
    rw [← hw4]
    clear hw4 q0 q1 q2 hq
    have HB34 := Lib.hid hb4
    have HB24 := Lib.hid (HB3.out.trans (hb4.mono hs3))
    have HR4 := Lib.hid (show ∀ W, Below w4.heap.size w4 W → W.heap[w.heap.size + 1]? = some (.cells #[.slice none 0 0, .int .i64 0, .int .i64 0] 24 (0, 0)) from fun W hW => HR.out W (HB24.out.trans (hW.mono (by omega))))
    have HA4 := Lib.hid (show ∀ W, Below w4.heap.size w4 W → W.cell? ⟨w.heap.size, 0, none⟩ = some (.slice a L.length cap) ∧ W.cell? ⟨w.heap.size, 1, none⟩ = some (.int .i64 m) ∧ W.cell? ⟨w.heap.size, 2, none⟩ = some (.int .i64 b) from fun W hW => HAll.out W (HB24.out.trans (hW.mono (by omega))))
    have HM4 := Lib.hid (show ∀ W, Below w4.heap.size w4 W → W.cell? ⟨w3.heap.size, 0, none⟩ = some (.slice (some ⟨g, 0, none⟩) L.length cap') ∧ W.cell? ⟨w3.heap.size, 1, none⟩ = some (.int .i64 m) ∧ W.cell? ⟨w3.heap.size, 2, none⟩ = some (.int .i64 b) from fun W hW => by
      have h := (hW.block w3.heap.size (by omega)).trans hM4
      exact ⟨blk_cell h 0, blk_cell h 1, blk_cell h 2⟩)
    have HN4 := Lib.hid (show ∀ W, Below w4.heap.size w4 W → NodesIn W a cap L from fun W hW => HN2.out.below (HB24.out.trans (hW.mono (by omega))))
    have HO4 := Lib.hid (show ∀ W, Below w4.heap.size w4 W → OwnT W (w.heap.size + 2) g cap' L vs from fun W hW => by
      have := HO3.out.below (HB34.out.trans (hW.mono (by omega)))
      rw [hs2] at this
      exact this)
    have HBW := Lib.hid (show ∀ W, Below w4.heap.size w4 W → Below w.heap.size w W from fun W hW => HB2.out.trans ((HB24.out.trans (hW.mono (by omega))).mono (by omega)))
    clear hb4 hM4 HAll HR
    refine (lismode_known _ _ HM.out _).mono ?_
    rintro e w' ⟨rfl, rfl⟩
    obtain ⟨q0, q1, q2⟩ := HA4.out w4 (Below.refl _ _)
    have hq := cell_lt q0
    go_wp2_with fail
    refine (lwalk_kn _ _ _ _ _ _ hp _ L HF.out _ _ HWK.out _ (HN4.out w4 (Below.refl _ _))).mono ?_
    rintro e w5 ⟨rfl, hb5⟩
    have HB45 := Lib.hid hb5
    have hs5 := hb5.size
    clear hb5 q0 q1 q2 hq
    by_cases h1 : we = 0
    · subst h1
      simp only [ne_eq, not_true_eq_false, if_false, Prod.mk.injEq] at hz2
      obtain ⟨hL', rfl⟩ := hz2
      have hlive := walk_live HF.out (cwd := cwd) (p := pb.data.toList) (f := true) (by rw [HWK.out])
      rw [HWK.out] at hlive
      obtain ⟨k, hk, hwz, hk0⟩ := live_ino hlive
      have hwz' : wz = (k : Int) := hwz
      subst hwz'
      have HL' := Lib.hid (show L' = L.set k { L[k] with mode := q } by rw [← hL', Int.toNat_natCast, node_nat L k hk])
      have hO5 := HO4.out w5 HB45.out
      have hkv : k < vs.length := by rw [hO5.nodes.len]; exact hk
      have hn := hO5.nodes.node k hk hkv
      have n1 := hn.mode
      have f1 := hO5.nodes.free (k * 6 + 1)
      have hgl := hO5.nodes.lt
      have hg3 : g < w3.heap.size := HO3.out.nodes.lt
      have hgb := hO5.hbase
      have hne1 : ¬ (g = w3.heap.size) := by omega
      have hne2 : ¬ (g = w.heap.size + 1) := by omega
      have hkl' : (k : Int) < (L.length : Int) := by omega
      have hk0' : (0 : Int) ≤ (k : Int) := by omega
      obtain ⟨w6, hw6⟩ : ∃ w6, w6 = w5.setCell ⟨g, k * 6 + 1, none⟩ (.int .i64 q) := ⟨_, rfl⟩
      have hO6 : OwnT w6 (w.heap.size + 2) g cap' L' vs := by rw [hw6, HL'.out]; exact hO5.setMode hk q
      have hB6 : Below w.heap.size w w6 := by rw [hw6]; exact (HBW.out w5 HB45.out).setCell (show w.heap.size ≤ g by omega) _
      have hL6 : L'.length = L.length := by rw [HL'.out, List.length_set]
      have HO6 := Lib.hid hO6
      have HB6 := Lib.hid hB6
      have HW6 := Lib.hid hw6
      clear hL' hlive hwz hn hO5 hO6 hB6 hw6
      have HRX := Lib.hid (HR4.out w5 HB45.out)
      have r0 := blk_cell HRX.out 0
      have r1 := blk_cell HRX.out 1
      have r2 := blk_cell HRX.out 2
      have s0 := blk_free HRX.out 0
      have s1 := blk_free HRX.out 1
      have s2 := blk_free HRX.out 2
      have hrl := lt_of_block HRX.out
      obtain ⟨m0, m1, m2⟩ := HM4.out w5 HB45.out
      have hml := cell_lt m0
      go_wp2_with fail
      rw [← HW6.out]
      have HRX := Lib.hid (show w6.heap[w.heap.size + 1]? = some (.cells #[.slice none 0 0, .int .i64 0, .int .i64 0] 24 (0, 0)) from by rw [HW6.out, Below.heap_setCell _ _ _ _ (show w.heap.size + 1 ≠ g by omega)]; exact HR4.out w5 HB45.out)
      change bodyPost _ _ _ _ _ (put3 w6 (w.heap.size + 1) (.slice (some ⟨g, 0, none⟩) L.length cap') (.int .i64 m) (.int .i64 b))
      obtain ⟨c0, c1, c2⟩ := put3_cells HRX.out (.slice (some ⟨g, 0, none⟩) L.length cap') (.int .i64 m) (.int .i64 b)
      obtain ⟨hOF, hBF⟩ := end_made3 (c := w.heap.size + 1) HO6.out HB6.out (by omega) (by omega) (.slice (some ⟨g, 0, none⟩) L.length cap') (.int .i64 m) (.int .i64 b)
      have HOG := Lib.hid hOF
      have HBG := Lib.hid hBF
      clear hOF hBF
      generalize put3 w6 (w.heap.size + 1) (.slice (some ⟨g, 0, none⟩) L.length cap') (.int .i64 m) (.int .i64 b) = wF at *
      exact bodyPost_ret (v := .tuple #[.agg #[.slice (some ⟨g, 0, none⟩) L.length cap', .int .i64 m, .int .i64 b], .int .i64 0]) (by simp [results, Try.results21, go_sem, c0, c1, c2]) rfl ⟨⟨g, cap', vs, by rw [hL6]; rfl, HOG.out⟩, HBG.out⟩
    · rw [if_pos h1] at hz2
      simp only [Prod.mk.injEq] at hz2
      obtain ⟨rfl, rfl⟩ := hz2
      have hb1 : (we != 0) = true := by simpa using h1
      have HRX := Lib.hid (HR4.out w5 HB45.out)
      have r0 := blk_cell HRX.out 0
      have r1 := blk_cell HRX.out 1
      have r2 := blk_cell HRX.out 2
      have s0 := blk_free HRX.out 0
      have s1 := blk_free HRX.out 1
      have s2 := blk_free HRX.out 2
      have hrl := lt_of_block HRX.out
      obtain ⟨m0, m1, m2⟩ := HM4.out w5 HB45.out
      have hml := cell_lt m0
      go_wp2_with fail
      change bodyPost _ _ _ _ _ (put3 w5 (w.heap.size + 1) (.slice (some ⟨g, 0, none⟩) L.length cap') (.int .i64 m) (.int .i64 b))
      obtain ⟨c0, c1, c2⟩ := put3_cells HRX.out (.slice (some ⟨g, 0, none⟩) L.length cap') (.int .i64 m) (.int .i64 b)
      obtain ⟨hOF, hBF⟩ := end_made3 (c := w.heap.size + 1) (HO4.out w5 HB45.out) (HBW.out w5 HB45.out) (by omega) (by omega) (.slice (some ⟨g, 0, none⟩) L.length cap') (.int .i64 m) (.int .i64 b)
      have HOG := Lib.hid hOF
      have HBG := Lib.hid hBF
      clear hOF hBF
      generalize put3 w5 (w.heap.size + 1) (.slice (some ⟨g, 0, none⟩) L.length cap') (.int .i64 m) (.int .i64 b) = wF at *
      exact bodyPost_ret (v := .tuple #[.agg #[.slice (some ⟨g, 0, none⟩) L.length cap', .int .i64 m, .int .i64 b], .int .i64 we]) (by simp [results, Try.results21, go_sem, c0, c1, c2]) rfl ⟨⟨g, cap', vs, rfl, HOG.out⟩, HBG.out⟩
end Go.Proofs.Ytfmaagcomplooaa

namespace Go.Proofs.Ytfmaagcomplooaa
set_option maxRecDepth 100000
open Go Go.RowKit

theorem few_names {L : List Ino} {m b : Int} (hF : FitP L m b) (c : Int) : namesOf (kidsOf L) c ≤ 262144 := by
  have h1 : ∀ (M : List (List UInt8 × Int)), namesOf M c ≤ M.length := fun M => by
    induction M with
    | nil => exact Nat.le_refl _
    | cons e r ih => rw [names_cons, List.length_cons]; split <;> omega
  have h2 : ∀ (l : List Ino), (∀ x ∈ l, x.kids.length ≤ 1024) → (kidsOf l).length ≤ 1024 * l.length := fun l => by
    induction l with
    | nil => exact fun _ => Nat.le_refl _
    | cons x r ih =>
      intro h
      have e1 := ih (fun y hy => h y (List.mem_cons_of_mem _ hy))
      have e2 := h x List.mem_cons_self
      show (x.kids ++ kidsOf r).length ≤ 1024 * (r.length + 1)
      rw [List.length_append]
      omega
  have h3 := h1 (kidsOf L)
  have h4 := h2 L (fun x hx => by obtain ⟨j, hj, rfl⟩ := List.getElem_of_mem hx; exact (hF.ins j hj).2.1)
  obtain ⟨l1, l2, l3, l4, l5⟩ := hF.limits
  omega
/-- A tree in which an inode has one more name. -/
theorem link_both {L : List Ino} {d k : Nat} (hd : d < L.length) (hk : k < L.length) (hdk : d ≠ k) (s : List UInt8) :
    ((L.set d (withKids L[d] (namedL L[d].kids s k))).set k { L[k] with links := L[k].links + 1 }) = addL L d k s { nodeAt L (k : Int) with links := (nodeAt L (k : Int)).links + 1 } := by
  unfold addL
  rw [node_nat L d hd, node_nat L k hk, List.set_comm _ _ hdk]
/-- What Link tells, in the order in which the code asks. -/
theorem link_words {L : List Ino} {m b : Int} (hF : FitP L m b) (cwd : Int) (old p : List UInt8) (k : Nat) (hk : k < L.length) (hw : walkW L cwd old false = ((k : Int), 0)) (h2 : L[k].kind ≠ 2) :
    linkW L cwd old p = if (spotW L cwd p).2.2.2 ≠ 0 then (L, (spotW L cwd p).2.2.2) else if refuseW L (spotW L cwd p).1 (spotW L cwd p).2.2.1 L[k].kind ≠ 0 then (L, refuseW L (spotW L cwd p).1 (spotW L cwd p).2.2.1 L[k].kind) else
      (addL L (spotW L cwd p).1.toNat k (spotW L cwd p).2.1 { nodeAt L (k : Int) with links := (nodeAt L (k : Int)).links + 1 }, 0) := by
  unfold linkW
  rw [hw]
  simp only [ne_eq, not_true_eq_false, if_false]
  rw [if_neg (by rw [node_nat L k hk]; exact h2)]
  unfold spotW
  by_cases h0 : (freshW L cwd p true).2.2 = 0
  · obtain ⟨d, s, hdl, hp, hf, -⟩ := fresh_ok hF h0
    rw [spot_fresh, hf]
    simp only [ne_eq, not_true_eq_false, if_false]
    cases he : endL p with
    | true =>
      have hr : refuseW L (d : Int) true L[k].kind = 20 := by
        unfold refuseW
        rw [if_pos ⟨rfl, h2⟩]
      rw [hr]
      rfl
    | false =>
      have hr : refuseW L (d : Int) false L[k].kind = if 1024 ≤ (nodeAt L (d : Int)).kids.length then 28 else 0 := by
        unfold refuseW
        rw [if_neg (by simp)]
      rw [hr]
      by_cases h1 : 1024 ≤ (nodeAt L (d : Int)).kids.length
      · simp [h1]
      · simp [h1]
  · rw [spot_fresh]
    simp [h0]

set_option maxHeartbeats 8000000 in
theorem llink_any (a : Option Addr) (cap : Nat) (m b cwd : Int) (ob pb : ByteArray) (ho : ob.size ≤ 1073741824) (hp : pb.size ≤ 1073741824) (L : List Ino) (hF : FitP L m b) (L' : List Ino) (ez : Int) (hz : linkW L cwd ob.data.toList pb.data.toList = (L', ez)) (w : World) (hN : NodesIn w a cap L) :
    Calls Try.prog 19 #[.agg #[.slice a L.length cap, .int .i64 m, .int .i64 b], .int .i64 cwd, .string ob, .string pb] w (MadeAns w.heap.size w m b L' [.int .i64 ez]) := by
  obtain ⟨⟨wz, we⟩, hwk⟩ : ∃ r, walkW L cwd ob.data.toList false = r := ⟨_, rfl⟩
  obtain ⟨⟨d, nm, sl, pe⟩, hsp⟩ : ∃ r, spotW L cwd pb.data.toList = r := ⟨_, rfl⟩
  have HWK := Lib.hid hwk
  have HSP := Lib.hid hsp
  clear hwk hsp
  obtain ⟨w2, hw2, hb2, hs2, hA, hB⟩ := two_boxes w #[.slice a L.length cap, .int .i64 m, .int .i64 b] #[.slice none 0 0, .int .i64 0, .int .i64 0] 24 24
  obtain ⟨l1, l2, l3, l4, l5⟩ := hF.limits
  have hL0 : 0 < L.length := by omega
  have hL1 : L.length ≤ 256 := by omega
  have HF := Lib.hid hF
  have HN2 := Lib.hid (hN.below hb2)
  have HZ := Lib.hid hz
  have HB2 := Lib.hid hb2
  have HK := Lib.hid (show ∀ x ∈ L, x.kids.length ≤ 4096 from fun x hx => by obtain ⟨j, hj, rfl⟩ := List.getElem_of_mem hx; have := (hF.ins j hj).2.1; omega)
  have HR := Lib.hid (show ∀ W, Below w2.heap.size w2 W → W.heap[w.heap.size + 1]? = some (.cells #[.slice none 0 0, .int .i64 0, .int .i64 0] 24 (0, 0)) from fun W hW => (hW.block _ (by omega)).trans hB)
  have HAll := Lib.hid (show ∀ W, Below w2.heap.size w2 W → W.cell? ⟨w.heap.size, 0, none⟩ = some (.slice a L.length cap) ∧ W.cell? ⟨w.heap.size, 1, none⟩ = some (.int .i64 m) ∧ W.cell? ⟨w.heap.size, 2, none⟩ = some (.int .i64 b) from fun W hW => by
    have h := (hW.block w.heap.size (by omega)).trans hA
    exact ⟨blk_cell h 0, blk_cell h 1, blk_cell h 2⟩)
  clear hF hN hz hb2 hA hB
  go_enter Try.func19, Try.ntmps19
  go_wp2_with fail
  rw [← hw2]
  clear hw2
  refine (lcopied_any a cap m b L hL0 (by omega) HK.out _ HN2.out).mono ?_
  rintro e w3 ⟨g, cap', vs, rfl, hO3, hb3⟩
  have HO3 := Lib.hid hO3
  have HB3 := Lib.hid hb3
  have hs3 := hb3.size
  obtain ⟨q0, q1, q2⟩ := HAll.out _ hb3
  have hq := cell_lt q0
  clear hO3 hb3
  go_wp2_with fail
  obtain ⟨w4, hw4⟩ : ∃ w4, w4 = w3.alloc (.cells #[.slice (some ⟨g, 0, none⟩) L.length cap', .int .i64 m, .int .i64 b] 24) := ⟨_, rfl⟩
  have hb4 : Below w3.heap.size w3 w4 := by rw [hw4]; exact below_box w3 _
  have hM4 : w4.heap[w3.heap.size]? = some (.cells #[.slice (some ⟨g, 0, none⟩) L.length cap', .int .i64 m, .int .i64 b] 24 (0, 0)) := by rw [hw4]; exact new_block w3 _
  have hs4 : w4.heap.size = w3.heap.size + 1 := by rw [hw4]; simp
  rw [← hw4]
  clear hw4 q0 q1 q2 hq
  have HB34 := Lib.hid hb4
  have HB24 := Lib.hid (HB3.out.trans (hb4.mono hs3))
  have HR4 := Lib.hid (show ∀ W, Below w4.heap.size w4 W → W.heap[w.heap.size + 1]? = some (.cells #[.slice none 0 0, .int .i64 0, .int .i64 0] 24 (0, 0)) from fun W hW => HR.out W (HB24.out.trans (hW.mono (by omega))))
  have HA4 := Lib.hid (show ∀ W, Below w4.heap.size w4 W → W.cell? ⟨w.heap.size, 0, none⟩ = some (.slice a L.length cap) ∧ W.cell? ⟨w.heap.size, 1, none⟩ = some (.int .i64 m) ∧ W.cell? ⟨w.heap.size, 2, none⟩ = some (.int .i64 b) from fun W hW => HAll.out W (HB24.out.trans (hW.mono (by omega))))
  have HM4 := Lib.hid (show ∀ W, Below w4.heap.size w4 W → W.cell? ⟨w3.heap.size, 0, none⟩ = some (.slice (some ⟨g, 0, none⟩) L.length cap') ∧ W.cell? ⟨w3.heap.size, 1, none⟩ = some (.int .i64 m) ∧ W.cell? ⟨w3.heap.size, 2, none⟩ = some (.int .i64 b) from fun W hW => by
    have h := (hW.block w3.heap.size (by omega)).trans hM4
    exact ⟨blk_cell h 0, blk_cell h 1, blk_cell h 2⟩)
  have HN4 := Lib.hid (show ∀ W, Below w4.heap.size w4 W → NodesIn W a cap L from fun W hW => HN2.out.below (HB24.out.trans (hW.mono (by omega))))
  have HO4 := Lib.hid (show ∀ W, Below w4.heap.size w4 W → OwnT W (w.heap.size + 2) g cap' L vs from fun W hW => by
    have := HO3.out.below (HB34.out.trans (hW.mono (by omega)))
    rw [hs2] at this
    exact this)
  have HBW := Lib.hid (show ∀ W, Below w4.heap.size w4 W → Below w.heap.size w W from fun W hW => HB2.out.trans ((HB24.out.trans (hW.mono (by omega))).mono (by omega)))
  clear hb4 hM4 HAll HR
  refine (lwalk_kn _ _ _ _ _ _ ho _ L HF.out _ _ HWK.out _ (HN4.out w4 (Below.refl _ _))).mono ?_
  rintro e w5 ⟨rfl, hb5⟩
  have HB45 := Lib.hid hb5
  have hs5 := hb5.size
  clear hb5
  by_cases h1 : we = 0
  · subst h1
    have hlive := walk_live HF.out (cwd := cwd) (p := ob.data.toList) (f := false) (by rw [HWK.out])
    rw [HWK.out] at hlive
    obtain ⟨k, hk, hwz, hk0⟩ := live_ino hlive
    have hwz' : wz = (k : Int) := hwz
    subst hwz'
    obtain ⟨kk, hkk⟩ : ∃ v, L[k].kind = v := ⟨_, rfl⟩
    have HKK := Lib.hid hkk
    have hkl' : (k : Int) < (L.length : Int) := by omega
    have hk0' : (0 : Int) ≤ (k : Int) := by omega
    obtain ⟨bb, o, hab, hx⟩ := (HN4.out w5 HB45.out).2.2 k hk
    subst hab
    have x0 := hx.kind
    rw [hkk] at x0
    obtain ⟨q0, q1, q2⟩ := HA4.out w5 HB45.out
    have hq := cell_lt q0
    clear hx hkk hlive hwz
    by_cases h2 : kk = 2
    · subst h2
      have hz2 := HZ.out
      unfold linkW at hz2
      rw [HWK.out] at hz2
      simp only [ne_eq, not_true_eq_false, if_false] at hz2
      rw [if_pos (by rw [node_nat L k hk]; exact HKK.out)] at hz2
      simp only [Prod.mk.injEq] at hz2
      obtain ⟨rfl, rfl⟩ := hz2
      have HRX := Lib.hid (HR4.out w5 HB45.out)
      have r0 := blk_cell HRX.out 0
      have r1 := blk_cell HRX.out 1
      have r2 := blk_cell HRX.out 2
      have s0 := blk_free HRX.out 0
      have s1 := blk_free HRX.out 1
      have s2 := blk_free HRX.out 2
      have hrl := lt_of_block HRX.out
      obtain ⟨m0, m1, m2⟩ := HM4.out w5 HB45.out
      have hml := cell_lt m0
      go_wp2_with fail
      change bodyPost _ _ _ _ _ (put3 w5 (w.heap.size + 1) (.slice (some ⟨g, 0, none⟩) L.length cap') (.int .i64 m) (.int .i64 b))
      obtain ⟨c0, c1, c2⟩ := put3_cells HRX.out (.slice (some ⟨g, 0, none⟩) L.length cap') (.int .i64 m) (.int .i64 b)
      obtain ⟨hOF, hBF⟩ := end_made3 (c := w.heap.size + 1) (HO4.out w5 HB45.out) (HBW.out w5 HB45.out) (by omega) (by omega) (.slice (some ⟨g, 0, none⟩) L.length cap') (.int .i64 m) (.int .i64 b)
      have HOG := Lib.hid hOF
      have HBG := Lib.hid hBF
      clear hOF hBF
      generalize put3 w5 (w.heap.size + 1) (.slice (some ⟨g, 0, none⟩) L.length cap') (.int .i64 m) (.int .i64 b) = wF at *
      exact bodyPost_ret (v := .tuple #[.agg #[.slice (some ⟨g, 0, none⟩) L.length cap', .int .i64 m, .int .i64 b], .int .i64 1]) (by simp [results, Try.results19, go_sem, c0, c1, c2]) rfl ⟨⟨g, cap', vs, rfl, HOG.out⟩, HBG.out⟩
    · have h2b : (kk == 2) = false := by simpa using h2
      have hz2 := HZ.out
      rw [link_words HF.out cwd ob.data.toList pb.data.toList k hk HWK.out (by rw [HKK.out]; exact h2), HSP.out] at hz2
      simp only [HKK.out] at hz2
      go_wp2_with fail
      refine (lnew_any _ _ _ _ _ _ hp L HF.out _ _ _ _ HSP.out _ (HN4.out w5 HB45.out)).mono ?_
      rintro e w6 ⟨rfl, hb6⟩
      have HB46 := Lib.hid (HB45.out.trans (hb6.mono (by omega)))
      have hs6 := hb6.size
      clear hb6 q0 q1 q2 hq x0
      obtain ⟨q0, q1, q2⟩ := HA4.out w6 HB46.out
      have hq := cell_lt q0
      by_cases h3 : pe = 0
      · subst h3
        simp only [ne_eq, not_true_eq_false, if_false] at hz2
        have hsp0 := HSP.out
        obtain ⟨dn, s', hdn, hpw, hfw, hkd, hnk, hnew, hmay⟩ := fresh_ok HF.out (cwd := cwd) (p := pb.data.toList) (dirs := true) (by
          unfold spotW at hsp0
          split at hsp0
          · rename_i h0
            exfalso
            exact h0 (by simpa using (Prod.mk.inj (Prod.mk.inj (Prod.mk.inj hsp0).2).2).2)
          · rename_i h0
            simpa using h0)
        have hdd : d = (dn : Int) ∧ nm = s' := by
          unfold spotW at hsp0
          rw [hfw] at hsp0
          simp at hsp0
          exact ⟨hsp0.1.symm, hsp0.2.1.symm⟩
        obtain ⟨rfl, rfl⟩ := hdd
        have HNEW := Lib.hid (show L[dn].kind = 2 ∧ nameOkL nm = true ∧ ∀ e ∈ L[dn].kids, e.1 ≠ nm from ⟨hkd, hnk, hnew⟩)
        clear hsp0 hpw hfw hkd hnk hnew hmay
        obtain ⟨rf, hrf⟩ : ∃ v, refuseW L (dn : Int) sl kk = v := ⟨_, rfl⟩
        have HRF := Lib.hid hrf
        simp only [hrf] at hz2
        clear hrf
        go_wp2_with fail
        obtain ⟨w7, hw7⟩ : ∃ w7, w7 = w6.alloc (.cells #[.int .i64 dn, .string ⟨nm.toArray⟩, .bool sl] 74) := ⟨_, rfl⟩
        have hb67 : Below w6.heap.size w6 w7 := by rw [hw7]; exact below_box w6 _
        have hS7 : w7.heap[w6.heap.size]? = some (.cells #[.int .i64 dn, .string ⟨nm.toArray⟩, .bool sl] 74 (0, 0)) := by rw [hw7]; exact new_block w6 _
        have hs7 : w7.heap.size = w6.heap.size + 1 := by rw [hw7]; simp
        rw [← hw7]
        clear hw7 q0 q1 q2 hq
        have HB47 := Lib.hid (HB46.out.trans (hb67.mono (by omega)))
        have HS7 := Lib.hid (show ∀ W, Below w7.heap.size w7 W → W.cell? ⟨w6.heap.size, 0, none⟩ = some (.int .i64 dn) ∧ W.cell? ⟨w6.heap.size, 1, none⟩ = some (.string ⟨nm.toArray⟩) ∧ W.cell? ⟨w6.heap.size, 2, none⟩ = some (.bool sl) from fun W hW => by
          have h := (hW.block w6.heap.size (by omega)).trans hS7
          exact ⟨blk_cell h 0, blk_cell h 1, blk_cell h 2⟩)
        clear hb67 hS7
        have hrefu := lrefuse_any (some ⟨bb, o, none⟩) cap m b dn ⟨nm.toArray⟩ sl kk L (by omega) hdn _ (HN4.out w7 HB47.out)
        rw [HRF.out] at hrefu
        have HREFU := Lib.hid hrefu
        clear hrefu
        refine HREFU.out.mono ?_
        rintro e w8 ⟨rfl, hb8⟩
        have HB48 := Lib.hid (HB47.out.trans (hb8.mono (by omega)))
        have HB78 := Lib.hid hb8
        have hs8 := hb8.size
        clear hb8
        by_cases h5 : rf = 0
        · subst h5
          simp only [not_true_eq_false, if_false, Prod.mk.injEq] at hz2
          obtain ⟨hL', rfl⟩ := hz2
          have hdk : dn ≠ k := fun e => by
            have h1 := HNEW.out.1
            subst e
            exact h2 (HKK.out.symm.trans h1)
          have HL' := Lib.hid (show L' = ((L.set dn (withKids L[dn] (namedL L[dn].kids nm k))).set k { L[k] with links := L[k].links + 1 }) by rw [← hL', Int.toNat_natCast, link_both hdn hk hdk])
          have hlk : 0 ≤ L[k].links ∧ L[k].links ≤ 4611686018427387904 := by
            have h1 := (HF.out.names.2 k hk).1
            rw [countL_get L (kids_pos (kids_there HF.out.ins)) k hk] at h1
            have h2 := few_names HF.out k
            omega
          have hgive := lgive_any (w.heap.size + 2) g cap' dn k m b nm sl L vs hdn hk hdk (kids_rise HF.out.ins dn hdn).2 (HF.out.ins dn hdn).2.1 HNEW.out.2.2 hlk.1 hlk.2 w8 (by have := (HBW.out w8 HB48.out).size; omega) (HO4.out w8 HB48.out)
          have HGIVE := Lib.hid hgive
          obtain ⟨u0, u1, u2⟩ := HS7.out w8 HB78.out
          have hul := cell_lt u0
          have hg3 : g < w3.heap.size := HO3.out.nodes.lt
          clear hgive hL' hlk
          obtain ⟨m0, m1, m2⟩ := HM4.out w8 HB48.out
          have hml := cell_lt m0
          go_wp2_with fail
          refine HGIVE.out.mono ?_
          rintro e w9 ⟨rfl, ⟨vs', hO9⟩, hb9, hkeep⟩
          have hM9 : w9.heap[w3.heap.size]? = w8.heap[w3.heap.size]? := hkeep _ HO3.out.under _ (Nat.le_refl _) (cell_lt m0)
          clear m0 m1 m2 u0 u1 u2 hml hul
          have m0 := (World.cell?_of_block (a := ⟨w3.heap.size, 0, none⟩) hM9).trans (HM4.out w8 HB48.out).1
          have m1 := (World.cell?_of_block (a := ⟨w3.heap.size, 1, none⟩) hM9).trans (HM4.out w8 HB48.out).2.1
          have m2 := (World.cell?_of_block (a := ⟨w3.heap.size, 2, none⟩) hM9).trans (HM4.out w8 HB48.out).2.2
          have hml := cell_lt m0
          have HRX := Lib.hid (show w9.heap[w.heap.size + 1]? = some (.cells #[.slice none 0 0, .int .i64 0, .int .i64 0] 24 (0, 0)) from (hb9.block _ (by omega)).trans (HR4.out w8 HB48.out))
          have r0 := blk_cell HRX.out 0
          have r1 := blk_cell HRX.out 1
          have r2 := blk_cell HRX.out 2
          have s0 := blk_free HRX.out 0
          have s1 := blk_free HRX.out 1
          have s2 := blk_free HRX.out 2
          have hrl := lt_of_block HRX.out
          rw [← HL'.out] at hO9
          have HO9 := Lib.hid hO9
          have HB9 := Lib.hid ((HBW.out w8 HB48.out).trans (hb9.mono (show w.heap.size ≤ w.heap.size + 2 by omega)))
          have hL9 : L'.length = L.length := by rw [HL'.out, List.length_set, List.length_set]
          clear hO9 hb9 hkeep hM9
          go_wp2_with fail
          change bodyPost _ _ _ _ _ (put3 w9 (w.heap.size + 1) (.slice (some ⟨g, 0, none⟩) L.length cap') (.int .i64 m) (.int .i64 b))
          obtain ⟨c0, c1, c2⟩ := put3_cells HRX.out (.slice (some ⟨g, 0, none⟩) L.length cap') (.int .i64 m) (.int .i64 b)
          obtain ⟨hOF, hBF⟩ := end_made3 (c := w.heap.size + 1) HO9.out HB9.out (by omega) (by omega) (.slice (some ⟨g, 0, none⟩) L.length cap') (.int .i64 m) (.int .i64 b)
          have HOG := Lib.hid hOF
          have HBG := Lib.hid hBF
          clear hOF hBF
          generalize put3 w9 (w.heap.size + 1) (.slice (some ⟨g, 0, none⟩) L.length cap') (.int .i64 m) (.int .i64 b) = wF at *
          exact bodyPost_ret (v := .tuple #[.agg #[.slice (some ⟨g, 0, none⟩) L.length cap', .int .i64 m, .int .i64 b], .int .i64 0]) (by simp [results, Try.results19, go_sem, c0, c1, c2]) rfl ⟨⟨g, cap', vs', by rw [hL9]; rfl, HOG.out⟩, HBG.out⟩
        · rw [if_pos h5] at hz2
          simp only [Prod.mk.injEq] at hz2
          obtain ⟨rfl, rfl⟩ := hz2
          have hb5 : (rf != 0) = true := by simpa using h5
          have HRX := Lib.hid (HR4.out w8 HB48.out)
          have r0 := blk_cell HRX.out 0
          have r1 := blk_cell HRX.out 1
          have r2 := blk_cell HRX.out 2
          have s0 := blk_free HRX.out 0
          have s1 := blk_free HRX.out 1
          have s2 := blk_free HRX.out 2
          have hrl := lt_of_block HRX.out
          obtain ⟨m0, m1, m2⟩ := HM4.out w8 HB48.out
          have hml := cell_lt m0
          go_wp2_with fail
          change bodyPost _ _ _ _ _ (put3 w8 (w.heap.size + 1) (.slice (some ⟨g, 0, none⟩) L.length cap') (.int .i64 m) (.int .i64 b))
          obtain ⟨c0, c1, c2⟩ := put3_cells HRX.out (.slice (some ⟨g, 0, none⟩) L.length cap') (.int .i64 m) (.int .i64 b)
          obtain ⟨hOF, hBF⟩ := end_made3 (c := w.heap.size + 1) (HO4.out w8 HB48.out) (HBW.out w8 HB48.out) (by omega) (by omega) (.slice (some ⟨g, 0, none⟩) L.length cap') (.int .i64 m) (.int .i64 b)
          have HOG := Lib.hid hOF
          have HBG := Lib.hid hBF
          clear hOF hBF
          generalize put3 w8 (w.heap.size + 1) (.slice (some ⟨g, 0, none⟩) L.length cap') (.int .i64 m) (.int .i64 b) = wF at *
          exact bodyPost_ret (v := .tuple #[.agg #[.slice (some ⟨g, 0, none⟩) L.length cap', .int .i64 m, .int .i64 b], .int .i64 rf]) (by simp [results, Try.results19, go_sem, c0, c1, c2]) rfl ⟨⟨g, cap', vs, rfl, HOG.out⟩, HBG.out⟩
      · rw [if_pos h3] at hz2
        simp only [Prod.mk.injEq] at hz2
        obtain ⟨rfl, rfl⟩ := hz2
        have hb3 : (pe != 0) = true := by simpa using h3
        have hb3' : (pe == 0) = false := by simpa using h3
        clear q0 q1 q2 hq
        have HRX := Lib.hid (HR4.out w6 HB46.out)
        have r0 := blk_cell HRX.out 0
        have r1 := blk_cell HRX.out 1
        have r2 := blk_cell HRX.out 2
        have s0 := blk_free HRX.out 0
        have s1 := blk_free HRX.out 1
        have s2 := blk_free HRX.out 2
        have hrl := lt_of_block HRX.out
        obtain ⟨m0, m1, m2⟩ := HM4.out w6 HB46.out
        have hml := cell_lt m0
        go_wp2_with fail
        change bodyPost _ _ _ _ _ ((put3 w6 (w.heap.size + 1) (.slice (some ⟨g, 0, none⟩) L.length cap') (.int .i64 m) (.int .i64 b)).alloc (.cells #[.int .i64 d, .string ⟨nm.toArray⟩, .bool sl] 74))
        obtain ⟨c0, c1, c2⟩ := put3_cells HRX.out (.slice (some ⟨g, 0, none⟩) L.length cap') (.int .i64 m) (.int .i64 b)
        obtain ⟨hOF, hBF⟩ := end_made (HO4.out w6 HB46.out) (HBW.out w6 HB46.out) (.slice (some ⟨g, 0, none⟩) L.length cap') (.int .i64 m) (.int .i64 b)
        have hbx := below_box (put3 w6 (w.heap.size + 1) (.slice (some ⟨g, 0, none⟩) L.length cap') (.int .i64 m) (.int .i64 b)) (.cells #[.int .i64 d, .string ⟨nm.toArray⟩, .bool sl] 74)
        have d0 := cell_below hbx c0
        have d1 := cell_below hbx c1
        have d2 := cell_below hbx c2
        have HOG := Lib.hid (hOF.below hbx)
        have HBG := Lib.hid (hBF.trans (hbx.mono hBF.size))
        clear c0 c1 c2 hOF hBF hbx
        generalize (put3 w6 (w.heap.size + 1) (.slice (some ⟨g, 0, none⟩) L.length cap') (.int .i64 m) (.int .i64 b)).alloc (.cells #[.int .i64 d, .string ⟨nm.toArray⟩, .bool sl] 74) = wF at *
        exact bodyPost_ret (v := .tuple #[.agg #[.slice (some ⟨g, 0, none⟩) L.length cap', .int .i64 m, .int .i64 b], .int .i64 pe]) (by simp [results, Try.results19, go_sem, d0, d1, d2]) rfl ⟨⟨g, cap', vs, rfl, HOG.out⟩, HBG.out⟩
  · have hz2 := HZ.out
    unfold linkW at hz2
    rw [HWK.out] at hz2
    rw [if_pos h1] at hz2
    simp only [Prod.mk.injEq] at hz2
    obtain ⟨rfl, rfl⟩ := hz2
    have hb1 : (we != 0) = true := by simpa using h1
    have HRX := Lib.hid (HR4.out w5 HB45.out)
    have r0 := blk_cell HRX.out 0
    have r1 := blk_cell HRX.out 1
    have r2 := blk_cell HRX.out 2
    have s0 := blk_free HRX.out 0
    have s1 := blk_free HRX.out 1
    have s2 := blk_free HRX.out 2
    have hrl := lt_of_block HRX.out
    obtain ⟨m0, m1, m2⟩ := HM4.out w5 HB45.out
    have hml := cell_lt m0
    go_wp2_with fail
    change bodyPost _ _ _ _ _ (put3 w5 (w.heap.size + 1) (.slice (some ⟨g, 0, none⟩) L.length cap') (.int .i64 m) (.int .i64 b))
    obtain ⟨c0, c1, c2⟩ := put3_cells HRX.out (.slice (some ⟨g, 0, none⟩) L.length cap') (.int .i64 m) (.int .i64 b)
    obtain ⟨hOF, hBF⟩ := end_made3 (c := w.heap.size + 1) (HO4.out w5 HB45.out) (HBW.out w5 HB45.out) (by omega) (by omega) (.slice (some ⟨g, 0, none⟩) L.length cap') (.int .i64 m) (.int .i64 b)
    have HOG := Lib.hid hOF
    have HBG := Lib.hid hBF
    clear hOF hBF
    generalize put3 w5 (w.heap.size + 1) (.slice (some ⟨g, 0, none⟩) L.length cap') (.int .i64 m) (.int .i64 b) = wF at *
    exact bodyPost_ret (v := .tuple #[.agg #[.slice (some ⟨g, 0, none⟩) L.length cap', .int .i64 m, .int .i64 b], .int .i64 we]) (by simp [results, Try.results19, go_sem, c0, c1, c2]) rfl ⟨⟨g, cap', vs, rfl, HOG.out⟩, HBG.out⟩
end Go.Proofs.Ytfmaagcomplooaa

namespace Go.Proofs.Ytfmaagcomplooaa
set_option maxRecDepth 100000
open Go Go.RowKit

theorem used_one : ∀ (L : List Ino) (k : Nat) (h : k < L.length), L[k].data.length ≤ usedB L
  | x :: r, 0, _ => by show x.data.length ≤ x.data.length + usedB r; omega
  | x :: r, k + 1, h => by
    have := used_one r k (Nat.lt_of_succ_lt_succ h)
    show (r[k]'(Nat.lt_of_succ_lt_succ h)).data.length ≤ x.data.length + usedB r
    omega
/-- A fit tree's texts are short. -/
theorem sized_fit {L : List Ino} {m b : Int} (hF : FitP L m b) : Sized L := fun k hk => by
  obtain ⟨l1, l2, l3, l4, l5⟩ := hF.limits
  have h1 := used_one L k hk
  refine ⟨by omega, fun e he => ?_⟩
  have := (name_parts (name_of hF.ins hk he).1).2.2.2.1
  omega
end Go.Proofs.Ytfmaagcomplooaa

namespace Go.Proofs.Ytfmaagcomplooaa
set_option maxRecDepth 100000
open Go Go.RowKit

/-- What a new name of a new inode is. -/
structure MadeOk (L : List Ino) (m b : Int) (cwd : Int) (p : List UInt8) (x : Ino) (L' : List Ino) (k : Int) : Prop where
  made : ∃ (d : Nat) (s : List UInt8) (j : Nat), k = (j : Int) ∧ parentW L cwd p = ((d : Int), s, 0) ∧ L' = addL L d j s { x with links := 1 } ∧ (∃ h : j < L.length, L[j].kind = 0) ∧ Adds L m b d j s { x with links := 1 } ∧ j ≠ 0
theorem root_used {L : List Ino} {m b : Int} (hF : FitP L m b) (h : 0 < L.length) : L[0].kind = 2 := (dir_nat (n := 0) h).1 hF.root
theorem added_ok {L : List Ino} {m b : Int} (hF : FitP L m b) {cwd : Int} {p : List UInt8} {dirs : Bool} (h : (freshW L cwd p dirs).2.2 = 0) {x : Ino} (ha : aloneB { x with links := 1 } = true) (h0 : x.kind ≠ 0) (hkids : x.kids = []) (hup : x.kind = 2 → x.up = (freshW L cwd p dirs).1) (hub : (usedB L : Int) + x.data.length ≤ b)
    {L' : List Ino} {k e : Int} (hz : addedW L (freshW L cwd p dirs).1 (freshW L cwd p dirs).2.1 x = (L', k, e)) : (e = 0 → MadeOk L m b cwd p x L' k) ∧ (e ≠ 0 → L' = L ∧ k = 0) := by
  obtain ⟨d, s, hd, hp, hf, hdir, hs, hn, -⟩ := fresh_ok hF h
  rw [hf] at hz hup
  unfold addedW at hz
  split at hz
  · cases hz
    exact ⟨(fun h => by cases h), fun _ => ⟨rfl, rfl⟩⟩
  · rename_i hroom
    have hroom' : L[d].kids.length < 1024 := by
      have h1 : ¬ 1024 ≤ (nodeAt L (d : Int)).kids.length := hroom
      rw [node_nat L d hd] at h1
      omega
    split at hz
    · cases hz
      exact ⟨(fun h => by cases h), fun _ => ⟨rfl, rfl⟩⟩
    · rename_i j hj
      obtain ⟨hjl, hj0, hA⟩ := added_adds hF hd hdir hs hn hj hroom' ha h0 hkids hup hub
      cases hz
      refine ⟨fun _ => ⟨d, s, j, rfl, hp, by rw [Int.toNat_natCast], ⟨hjl, hj0⟩, hA, fun e => ?_⟩, fun h => absurd rfl h⟩
      subst e
      rw [root_used hF hjl] at hj0
      cases hj0
theorem fresh_or {L : List Ino} {cwd : Int} {p : List UInt8} {dirs : Bool} {A B : List Ino × Int × Int} {z : List Ino × Int × Int} (h : (if (freshW L cwd p dirs).2.2 ≠ 0 then A else B) = z) : ((freshW L cwd p dirs).2.2 ≠ 0 ∧ A = z) ∨ ((freshW L cwd p dirs).2.2 = 0 ∧ B = z) := by
  by_cases h0 : (freshW L cwd p dirs).2.2 = 0
  · rw [if_neg (by simp [h0])] at h
    exact Or.inr ⟨h0, h⟩
  · rw [if_pos h0] at h
    exact Or.inl ⟨h0, h⟩
theorem mkdir_made {L : List Ino} {m b : Int} (hF : FitP L m b) {cwd : Int} {p : List UInt8} {q : Int} {L' : List Ino} {k e : Int} (hz : mkdirW L cwd p q = (L', k, e)) : (e = 0 → modeB q = true ∧ ∃ u, MadeOk L m b cwd p (newIno 2 q [] u) L' k) ∧ (e ≠ 0 → L' = L ∧ k = 0) := by
  obtain ⟨-, -, -, l4, -⟩ := hF.limits
  unfold mkdirW at hz
  split at hz
  · cases hz
    exact ⟨(fun h => by cases h), fun _ => ⟨rfl, rfl⟩⟩
  · rename_i hq
    have hq' : modeB q = true := by simpa using hq
    rcases fresh_or hz with ⟨h1, h2⟩ | ⟨h1, h2⟩
    · cases h2
      exact ⟨fun h => absurd h h1, fun _ => ⟨rfl, rfl⟩⟩
    · have := added_ok hF h1 (x := newIno 2 q [] (freshW L cwd p true).1) (alone_dir q _ hq') (by show (2 : Int) ≠ 0; decide) rfl (fun _ => rfl) (by show (usedB L : Int) + (0 : Nat) ≤ b; omega) h2
      exact ⟨fun h => ⟨hq', _, this.1 h⟩, this.2⟩
theorem create_made {L : List Ino} {m b : Int} (hF : FitP L m b) {cwd : Int} {p : List UInt8} {q : Int} {L' : List Ino} {k e : Int} (hz : createW L cwd p q = (L', k, e)) : (e = 0 → modeB q = true ∧ MadeOk L m b cwd p (newIno 1 q [] 0) L' k) ∧ (e ≠ 0 → L' = L ∧ k = 0) := by
  obtain ⟨-, -, -, l4, -⟩ := hF.limits
  unfold createW at hz
  split at hz
  · cases hz
    exact ⟨(fun h => by cases h), fun _ => ⟨rfl, rfl⟩⟩
  · rename_i hq
    have hq' : modeB q = true := by simpa using hq
    rcases fresh_or hz with ⟨h1, h2⟩ | ⟨h1, h2⟩
    · cases h2
      exact ⟨fun h => absurd h h1, fun _ => ⟨rfl, rfl⟩⟩
    · have := added_ok hF h1 (x := newIno 1 q [] 0) (alone_file q hq') (by show (1 : Int) ≠ 0; decide) rfl (fun h => by cases h) (by show (usedB L : Int) + (0 : Nat) ≤ b; omega) h2
      exact ⟨fun h => ⟨hq', this.1 h⟩, this.2⟩
theorem symlink_made {L : List Ino} {m b : Int} (hF : FitP L m b) {cwd : Int} {to p : List UInt8} {L' : List Ino} {k e : Int} (hz : symlinkW L b cwd to p = (L', k, e)) : (e = 0 → MadeOk L m b cwd p (newIno 3 7 to 0) L' k) ∧ (e ≠ 0 → L' = L ∧ k = 0) := by
  unfold symlinkW at hz
  split at hz
  · cases hz
    exact ⟨(fun h => by cases h), fun _ => ⟨rfl, rfl⟩⟩
  · rename_i h1
    split at hz
    · cases hz
      exact ⟨(fun h => by cases h), fun _ => ⟨rfl, rfl⟩⟩
    · rename_i h2
      rcases fresh_or hz with ⟨h3, h4⟩ | ⟨h3, h4⟩
      · cases h4
        exact ⟨fun h => absurd h h3, fun _ => ⟨rfl, rfl⟩⟩
      · split at h4
        · cases h4
          exact ⟨(fun h => by cases h), fun _ => ⟨rfl, rfl⟩⟩
        · rename_i h5
          exact added_ok hF h3 (x := newIno 3 7 to 0) (alone_link to (fun e => h1 (Or.inl e)) (by cases h : to.any (fun c => c == 0) with | false => rfl | true => exact absurd (Or.inr h) h1) (by omega)) (by show (3 : Int) ≠ 0; decide) rfl (fun h => by cases h) (by show (usedB L : Int) + to.length ≤ b; omega) h4
theorem MadeOk.fits {L : List Ino} {m b : Int} {cwd : Int} {p : List UInt8} {x : Ino} {L' : List Ino} {k : Int} (h : MadeOk L m b cwd p x L' k) : FitP L' m b := by
  obtain ⟨d, s, j, -, -, rfl, -, hA, -⟩ := h.made
  exact hA.fits
theorem link_made {L : List Ino} {m b : Int} (hF : FitP L m b) {cwd : Int} {old p : List UInt8} {L' : List Ino} {e : Int} (hz : linkW L cwd old p = (L', e)) :
    (e = 0 → ∃ (d : Nat) (s : List UInt8) (k : Nat) (hk : k < L.length), walkW L cwd old false = ((k : Int), 0) ∧ parentW L cwd p = ((d : Int), s, 0) ∧ L' = addL L d k s { L[k] with links := L[k].links + 1 } ∧ Adds L m b d k s { L[k] with links := L[k].links + 1 }) ∧ (e ≠ 0 → L' = L) := by
  unfold linkW at hz
  split at hz
  · rename_i h1
    cases hz
    exact ⟨fun h => absurd h h1, fun _ => rfl⟩
  · rename_i h1
    have h1' : (walkW L cwd old false).2 = 0 := by simpa using h1
    obtain ⟨k, hk, hwk, hk0⟩ := live_ino (walk_live hF h1')
    split at hz
    · cases hz
      exact ⟨(fun h => by cases h), fun _ => rfl⟩
    · rename_i h2
      rw [hwk, node_nat L k hk] at h2
      split at hz
      · rename_i h3
        cases hz
        exact ⟨fun h => absurd h h3, fun _ => rfl⟩
      · rename_i h3
        have h3' : (freshW L cwd p false).2.2 = 0 := by simpa using h3
        obtain ⟨d, s, hd, hp, hf, hdir, hs, hn, -⟩ := fresh_ok hF h3'
        rw [hf, hwk, node_nat L k hk] at hz
        split at hz
        · cases hz
          exact ⟨(fun h => by cases h), fun _ => rfl⟩
        · rename_i h4
          have hroom : L[d].kids.length < 1024 := by
            have h5 : ¬ 1024 ≤ (nodeAt L (d : Int)).kids.length := h4
            rw [node_nat L d hd] at h5
            omega
          cases hz
          refine ⟨fun _ => ⟨d, s, k, hk, Prod.ext hwk h1', hp, by rw [Int.toNat_natCast, Int.toNat_natCast], link_adds hF hd hdir hs hn hroom hk hk0 h2⟩, fun h => absurd rfl h⟩
theorem chmod_made {L : List Ino} {m b : Int} (hF : FitP L m b) {cwd : Int} {p : List UInt8} {q : Int} {L' : List Ino} {e : Int} (hz : chmodW L cwd p q = (L', e)) :
    (e = 0 → ∃ (k : Nat) (hk : k < L.length), walkW L cwd p true = ((k : Int), 0) ∧ L' = L.set k { L[k] with mode := q } ∧ Puts L m b k { L[k] with mode := q }) ∧ (e ≠ 0 → L' = L) := by
  unfold chmodW at hz
  split at hz
  · cases hz
    exact ⟨(fun h => by cases h), fun _ => rfl⟩
  · rename_i hq
    have hq' : modeB q = true := by simpa using hq
    split at hz
    · rename_i h1
      cases hz
      exact ⟨fun h => absurd h h1, fun _ => rfl⟩
    · rename_i h1
      have h1' : (walkW L cwd p true).2 = 0 := by simpa using h1
      obtain ⟨k, hk, hwk, hk0⟩ := live_ino (walk_live hF h1')
      rw [hwk, node_nat L k hk] at hz
      cases hz
      refine ⟨fun _ => ⟨k, hk, Prod.ext hwk h1', by rw [Int.toNat_natCast], mode_puts hF hk hk0 hq'⟩, fun h => absurd rfl h⟩
end Go.Proofs.Ytfmaagcomplooaa

namespace Go.Proofs.Ytfmaagcomplooaa
set_option maxRecDepth 100000
open Go Go.RowKit

def aw0 : List Ino := (newT 8 100).nodes
def aw1 : List Ino := (mkdirW aw0 0 [97] 7).1
def aw2 : List Ino := (createW aw1 0 [97, 47, 102] 6).1
def aw3 : List Ino := (linkW aw2 0 [97, 47, 102] [103]).1
theorem aw_mk : mkdirW aw0 0 [97] 7 = (aw1, 1, 0) := Prod.ext rfl (by decide +kernel)
theorem aw_cr : createW aw1 0 [97, 47, 102] 6 = (aw2, 2, 0) := Prod.ext rfl (by decide +kernel)
theorem aw_ln : linkW aw2 0 [97, 47, 102] [103] = (aw3, 0) := Prod.ext rfl (by decide +kernel)
theorem aw_fit0 : FitP aw0 8 100 := new_fit (n := 8) (b := 100) (by decide) (by decide) (by decide) (by decide)
theorem aw_fit1 : FitP aw1 8 100 := by
  obtain ⟨-, u, h⟩ := (mkdir_made aw_fit0 aw_mk).1 rfl
  exact h.fits
theorem aw_fit2 : FitP aw2 8 100 := ((create_made aw_fit1 aw_cr).1 rfl).2.fits
theorem aw_fit3 : FitP aw3 8 100 := by
  obtain ⟨d, s, k, hk, -, -, h, hA⟩ := (link_made aw_fit2 aw_ln).1 rfl
  rw [h]
  exact hA.fits
theorem aw_len : aw0.length = 8 ∧ aw1.length = 8 ∧ aw2.length = 8 ∧ aw3.length = 8 := by decide +kernel
theorem aw_used : usedN aw3 = 3 := by decide +kernel
theorem aw_links : (nodeAt aw3 2).links = 2 := by decide +kernel
theorem aw_again : (mkdirW aw3 0 [97] 7).2 = (0, 17) := by decide +kernel

theorem MadeAns.three {base : Nat} {w w' : World} {m b k z : Int} {L' : List Ino} {e : Ending} (h : MadeAns base w m b L' [.int .i64 k, .int .i64 z] e w') :
    ∃ g cap vs, e = .returned (.tuple #[.agg #[.slice (some ⟨g, 0, none⟩) L'.length cap, .int .i64 m, .int .i64 b], .int .i64 k, .int .i64 z]) ∧ OwnT w' base g cap L' vs ∧ Below w.heap.size w w' := by
  obtain ⟨⟨g, cap, vs, he, hO⟩, hb⟩ := h
  exact ⟨g, cap, vs, he, hO, hb⟩
theorem MadeAns.two {base : Nat} {w w' : World} {m b z : Int} {L' : List Ino} {e : Ending} (h : MadeAns base w m b L' [.int .i64 z] e w') :
    ∃ g cap vs, e = .returned (.tuple #[.agg #[.slice (some ⟨g, 0, none⟩) L'.length cap, .int .i64 m, .int .i64 b], .int .i64 z]) ∧ OwnT w' base g cap L' vs ∧ Below w.heap.size w w' := by
  obtain ⟨⟨g, cap, vs, he, hO⟩, hb⟩ := h
  exact ⟨g, cap, vs, he, hO, hb⟩

set_option maxHeartbeats 8000000 in
theorem awake5 (w : World) : Calls Try.prog 7 #[] w fun e w' => e = .returned (.bool true) ∧ Below w.heap.size w w' := by
  have hnew : ∀ w, Calls Try.prog 23 #[.int .i64 8, .int .i64 100] w fun e w' => (∃ a cap, e = .returned (.tuple #[.agg #[.slice a aw0.length cap, .int .i64 8, .int .i64 100], .int .i64 0]) ∧ NodesIn w' a cap aw0) ∧ Below w.heap.size w w' :=
    fun w => (rnew_yes 8 100 (by decide) (by decide) (by decide) (by decide) w).mono fun e w' h => by
      obtain ⟨⟨v, rfl, a, cap, rfl, hN⟩, hb⟩ := h
      exact ⟨⟨a, cap, rfl, hN⟩, hb⟩
  obtain ⟨l0, l1, l2, l3⟩ := aw_len
  have F0 := Lib.hid aw_fit0
  have F1 := Lib.hid aw_fit1
  have F2 := Lib.hid aw_fit2
  have F3 := Lib.hid aw_fit3
  have E1 := Lib.hid aw_mk
  have E2 := Lib.hid aw_cr
  have E3 := Lib.hid aw_ln
  have hU : usedN aw3 = 3 := aw_used
  have EL := Lib.hid aw_links
  obtain ⟨A4, hA4⟩ : ∃ A4, mkdirW aw3 0 [97] 7 = (A4, 0, 17) := ⟨(mkdirW aw3 0 [97] 7).1, Prod.ext rfl aw_again⟩
  have E4 := Lib.hid hA4
  clear hA4
  obtain ⟨A0, h0⟩ : ∃ L, L = aw0 := ⟨_, rfl⟩
  obtain ⟨A1, h1⟩ : ∃ L, L = aw1 := ⟨_, rfl⟩
  obtain ⟨A2, h2⟩ : ∃ L, L = aw2 := ⟨_, rfl⟩
  obtain ⟨A3, h3⟩ : ∃ L, L = aw3 := ⟨_, rfl⟩
  rw [← h0] at hnew F0 E1 l0
  rw [← h1] at F1 E1 E2 l1
  rw [← h2] at F2 E2 E3 l2
  rw [← h3] at F3 E3 E4 EL hU l3
  have HNEW := Lib.hid hnew
  have HU := Lib.hid hU
  have hB3 := Lib.hid (show usedB A3 ≤ 1048576 from by have := F3.out.limits; obtain ⟨_, _, _, l4, l5⟩ := this; omega)
  have HL3 := Lib.hid l3
  have HL2 := Lib.hid l2
  have HL1 := Lib.hid l1
  clear hnew h0 h1 h2 h3 hU l0 l1 l2 l3
  go_enter Try.func7, Try.ntmps7
  go_wp2_with fail
  refine (HNEW.out _).mono ?_
  rintro e w1 ⟨⟨a, cap, rfl, hN⟩, hb1⟩
  have HN := Lib.hid hN
  have HB1 := Lib.hid hb1
  have hs1 := hb1.size
  clear hN hb1
  go_wp2_with fail
  obtain ⟨w2, hw2⟩ : ∃ w2, w2 = w1.alloc (.cells #[.slice a A0.length cap, .int .i64 8, .int .i64 100] 24) := ⟨_, rfl⟩
  have hb2 : Below w1.heap.size w1 w2 := by rw [hw2]; exact below_box w1 _
  have hX2 : w2.heap[w1.heap.size]? = some (.cells #[.slice a A0.length cap, .int .i64 8, .int .i64 100] 24 (0, 0)) := by rw [hw2]; exact new_block w1 _
  have hs2 : w2.heap.size = w1.heap.size + 1 := by rw [hw2]; simp
  rw [← hw2]
  have HB2 := Lib.hid (HB1.out.trans (hb2.mono hs1))
  have HN2 := Lib.hid (HN.out.below hb2)
  have HX2 := Lib.hid hX2
  clear hw2 hb2 hX2
  have q0 := blk_cell HX2.out 0
  have q1 := blk_cell HX2.out 1
  have q2 := blk_cell HX2.out 2
  clear q0 q1 q2
  refine (lmkdir_any _ _ _ _ _ _ ⟨#[97]⟩ (by decide) A0 F0.out _ _ _ E1.out _ HN2.out).mono ?_
  rintro e u3 hmade
  obtain ⟨g3, c3, v3, rfl, hO, hb⟩ := MadeAns.three hmade
  have hXu := (hb.block w1.heap.size (by omega)).trans HX2.out
  have HXU := Lib.hid hXu
  have HOU := Lib.hid hO
  have HBU := Lib.hid (HB2.out.trans (hb.mono (by omega)))
  have hsu := hb.size
  have q0 := blk_cell HXU.out 0
  have q1 := blk_cell HXU.out 1
  have q2 := blk_cell HXU.out 2
  have f0 := blk_free HXU.out 0
  have f1 := blk_free HXU.out 1
  have f2 := blk_free HXU.out 2
  have hql := lt_of_block HXU.out
  clear hmade hXu hO hb
  go_wp2_with fail
  obtain ⟨p3, hp3⟩ : ∃ p, p = put3 u3 w1.heap.size (.slice (some ⟨g3, 0, none⟩) A1.length c3) (.int .i64 8) (.int .i64 100) := ⟨_, rfl⟩
  change Calls _ _ _ (put3 u3 w1.heap.size (.slice (some ⟨g3, 0, none⟩) A1.length c3) (.int .i64 8) (.int .i64 100)) _
  rw [← hp3]
  have hsp3 : p3.heap.size = u3.heap.size := by rw [hp3]; exact put3_size _ _ _ _ _
  have HX3 := Lib.hid (show p3.heap[w1.heap.size]? = some (.cells #[.slice (some ⟨g3, 0, none⟩) A1.length c3, .int .i64 8, .int .i64 100] 24 (0, 0)) by rw [hp3]; exact put3_block HXU.out _ _ _)
  have HO3 := Lib.hid (show OwnT p3 _ g3 c3 A1 v3 by rw [hp3]; exact HOU.out.low fun k hk => put3_other (by omega) _ _ _)
  have HB3 := Lib.hid (show Below w.heap.size w p3 by rw [hp3]; exact put3_below HBU.out (by omega) _ _ _)
  clear hp3 HXU HOU HBU q0 q1 q2 f0 f1 f2 hql
  refine (lcreate_any _ _ _ _ _ _ ⟨#[97, 47, 102]⟩ (by decide) A1 F1.out _ _ _ E2.out _ HO3.out.nodesIn).mono ?_
  rintro e u4 hmade
  obtain ⟨g4, c4, v4, rfl, hO, hb⟩ := MadeAns.three hmade
  have hXu := (hb.block w1.heap.size (by omega)).trans HX3.out
  have HXU := Lib.hid hXu
  have HOU := Lib.hid hO
  have HBU := Lib.hid (HB3.out.trans (hb.mono (by omega)))
  have hsu := hb.size
  have q0 := blk_cell HXU.out 0
  have q1 := blk_cell HXU.out 1
  have q2 := blk_cell HXU.out 2
  have f0 := blk_free HXU.out 0
  have f1 := blk_free HXU.out 1
  have f2 := blk_free HXU.out 2
  have hql := lt_of_block HXU.out
  clear hmade hXu hO hb
  go_wp2_with fail
  obtain ⟨p4, hp4⟩ : ∃ p, p = put3 u4 w1.heap.size (.slice (some ⟨g4, 0, none⟩) A2.length c4) (.int .i64 8) (.int .i64 100) := ⟨_, rfl⟩
  change Calls _ _ _ (put3 u4 w1.heap.size (.slice (some ⟨g4, 0, none⟩) A2.length c4) (.int .i64 8) (.int .i64 100)) _
  rw [← hp4]
  have hsp4 : p4.heap.size = u4.heap.size := by rw [hp4]; exact put3_size _ _ _ _ _
  have HX4 := Lib.hid (show p4.heap[w1.heap.size]? = some (.cells #[.slice (some ⟨g4, 0, none⟩) A2.length c4, .int .i64 8, .int .i64 100] 24 (0, 0)) by rw [hp4]; exact put3_block HXU.out _ _ _)
  have HO4 := Lib.hid (show OwnT p4 _ g4 c4 A2 v4 by rw [hp4]; exact HOU.out.low fun k hk => put3_other (by omega) _ _ _)
  have HB4 := Lib.hid (show Below w.heap.size w p4 by rw [hp4]; exact put3_below HBU.out (by omega) _ _ _)
  clear hp4 HXU HOU HBU q0 q1 q2 f0 f1 f2 hql
  refine (llink_any _ _ _ _ _ ⟨#[97, 47, 102]⟩ ⟨#[103]⟩ (by decide) (by decide) A2 F2.out _ _ E3.out _ HO4.out.nodesIn).mono ?_
  rintro e u5 hmade
  obtain ⟨g5, c5, v5, rfl, hO, hb⟩ := MadeAns.two hmade
  have hXu := (hb.block w1.heap.size (by omega)).trans HX4.out
  have HXU := Lib.hid hXu
  have HOU := Lib.hid hO
  have HBU := Lib.hid (HB4.out.trans (hb.mono (by omega)))
  have hsu := hb.size
  have q0 := blk_cell HXU.out 0
  have q1 := blk_cell HXU.out 1
  have q2 := blk_cell HXU.out 2
  have f0 := blk_free HXU.out 0
  have f1 := blk_free HXU.out 1
  have f2 := blk_free HXU.out 2
  have hql := lt_of_block HXU.out
  clear hmade hXu hO hb
  go_wp2_with fail
  obtain ⟨p5, hp5⟩ : ∃ p, p = put3 u5 w1.heap.size (.slice (some ⟨g5, 0, none⟩) A3.length c5) (.int .i64 8) (.int .i64 100) := ⟨_, rfl⟩
  change Calls _ _ _ (put3 u5 w1.heap.size (.slice (some ⟨g5, 0, none⟩) A3.length c5) (.int .i64 8) (.int .i64 100)) _
  rw [← hp5]
  have hsp5 : p5.heap.size = u5.heap.size := by rw [hp5]; exact put3_size _ _ _ _ _
  have HX5 := Lib.hid (show p5.heap[w1.heap.size]? = some (.cells #[.slice (some ⟨g5, 0, none⟩) A3.length c5, .int .i64 8, .int .i64 100] 24 (0, 0)) by rw [hp5]; exact put3_block HXU.out _ _ _)
  have HO5 := Lib.hid (show OwnT p5 _ g5 c5 A3 v5 by rw [hp5]; exact HOU.out.low fun k hk => put3_other (by omega) _ _ _)
  have HB5 := Lib.hid (show Below w.heap.size w p5 by rw [hp5]; exact put3_below HBU.out (by omega) _ _ _)
  clear hp5 HXU HOU HBU q0 q1 q2 f0 f1 f2 hql
  refine (rused_any _ _ _ _ A3 (by have := HL3.out; omega) (by have := hB3.out; omega) _ HO5.out.nodesIn).mono ?_
  rintro e w6 ⟨rfl, hb6⟩
  have hX6 := (hb6.block w1.heap.size (by omega)).trans HX5.out
  have HX6 := Lib.hid hX6
  have HO6 := Lib.hid (HO5.out.below hb6)
  have HB6 := Lib.hid (HB5.out.trans (hb6.mono HB5.out.size))
  have hs6 := hb6.size
  clear hb6 hX6
  have q0 := blk_cell HX6.out 0
  have q1 := blk_cell HX6.out 1
  have q2 := blk_cell HX6.out 2
  have hql := lt_of_block HX6.out
  rw [HU.out]
  go_wp2_with fail
  refine (lmkdir_any _ _ _ _ _ _ ⟨#[97]⟩ (by decide) A3 F3.out _ _ _ E4.out _ HO6.out.nodesIn).mono ?_
  rintro e w7 hmade
  obtain ⟨g7, c7, v7, rfl, hO7, hb7⟩ := MadeAns.three hmade
  have hX7 := (hb7.block w1.heap.size (by omega)).trans HX6.out
  have HO7 := Lib.hid (HO6.out.below hb7)
  have HB7 := Lib.hid (HB6.out.trans (hb7.mono HB6.out.size))
  clear q0 q1 q2 hql hmade hO7 hb7
  have q0 := blk_cell hX7 0
  have hql := lt_of_block hX7
  clear hX7
  have hl3 := HL3.out
  have hlt3 : (2 : Int) < (A3.length : Int) := by omega
  have hn := (HO7.out.nodes.node 2 (by omega) (by rw [HO7.out.nodes.len]; omega)).links
  rw [show A3[2].links = 2 by have := EL.out; rw [show (2 : Int) = ((2 : Nat) : Int) from rfl, node_nat A3 2 (by omega)] at this; exact this] at hn
  have hgl := cell_lt hn
  clear hl3
  go_wp2_with fail
  go_ret
  exact ⟨rfl, HB7.out.alloc HB7.out.size _⟩
end Go.Proofs.Ytfmaagcomplooaa

namespace Go.Proofs.Ytfmaagcomplooaa
set_option maxRecDepth 100000
open Go Go.RowKit

/-- What good answers. -/
def GoodAns (L : List Ino) (m b : Int) (Ts : List ByteArray) (e : Ending) : Prop := ∃ v : Bool, e = .returned (.bool v) ∧ (v = true → L.length ≤ 300 ∧ FitP L m b ∧ ∀ s ∈ Ts, s.size ≤ 3000)

set_option maxHeartbeats 4000000 in
theorem good5_any (a : Option Addr) (cap : Nat) (m b : Int) (L : List Ino) (hS : Sized L) (Ts : List ByteArray) (hTs : ∀ s ∈ Ts, s.size ≤ 281474976710656) (hTl : Ts.length ≤ 4) (q tc : Nat) (w : World) (hN : NodesIn w a cap L) (hT : ∀ i (hi : i < Ts.length), w.cell? ⟨q, i, none⟩ = some (.string Ts[i])) :
    Calls Try.prog 6 #[.agg #[.slice a L.length cap, .int .i64 m, .int .i64 b], .slice (some ⟨q, 0, none⟩) Ts.length tc] w fun e w' => GoodAns L m b Ts e ∧ Below w.heap.size w w' := by
  obtain ⟨w1, hw1⟩ : ∃ w1, w1 = w.alloc (.cells #[.slice a L.length cap, .int .i64 m, .int .i64 b] 24) := ⟨_, rfl⟩
  have hb1 : Below w.heap.size w w1 := by rw [hw1]; exact below_box w _
  have hX : w1.heap[w.heap.size]? = some (.cells #[.slice a L.length cap, .int .i64 m, .int .i64 b] 24 (0, 0)) := by rw [hw1]; exact new_block w _
  have hs1 : w1.heap.size = w.heap.size + 1 := by rw [hw1]; simp
  have HM := Lib.hid (hN.below hb1)
  have HB1 := Lib.hid hb1
  have HS := Lib.hid hS
  have HT := Lib.hid (show ∀ W, Below w1.heap.size w1 W → ∀ i (hi : i < Ts.length), W.cell? ⟨q, i, none⟩ = some (.string Ts[i]) from fun W hW i hi => cell_below (hb1.trans (hW.mono (by omega))) (hT i hi))
  have HX := Lib.hid (show ∀ W, Below w1.heap.size w1 W → W.cell? ⟨w.heap.size, 0, none⟩ = some (.slice a L.length cap) ∧ W.cell? ⟨w.heap.size, 1, none⟩ = some (.int .i64 m) ∧ W.cell? ⟨w.heap.size, 2, none⟩ = some (.int .i64 b) from fun W hW => by
    have h := (hW.block w.heap.size (by omega)).trans hX
    exact ⟨blk_cell h 0, blk_cell h 1, blk_cell h 2⟩)
  have HTS := Lib.hid hTs
  clear hN hT hS hb1 hX hTs
  go_enter Try.func6, Try.ntmps6
  go_wp2_with fail
  rw [← hw1]
  clear hw1
  go_loopw [6, 9] (fun _ iv wr => ∃ K : Nat, K ≤ Ts.length ∧ iv = .int .i64 K ∧ Hid (∀ i (hi : i < Ts.length), i < K → Ts[i].size ≤ 3000) ∧ Hid (Below w1.heap.size w1 wr)) (fun _ iv _ => Ts.length - (intOf iv).toNat)
  case atStart => exact ⟨0, Nat.zero_le _, rfl, fun _ _ h => absurd h (Nat.not_lt_zero _), Below.refl _ _⟩
  case round =>
    obtain ⟨K, hK, rfl, HOK, HBR⟩ := hrel
    by_cases hlt : K < Ts.length
    · have t0 := HT.out _ HBR.out K hlt
      have hq := cell_lt t0
      obtain ⟨s, hs⟩ : ∃ s, s = Ts[K] := ⟨_, rfl⟩
      rw [← hs] at t0
      have hss : s.size ≤ 281474976710656 := by rw [hs]; exact HTS.out _ (List.getElem_mem _)
      have HSK := Lib.hid hs
      have hlt' : (K : Int) < (Ts.length : Int) := by omega
      have hk0 : (0 : Int) ≤ (K : Int) := by omega
      clear hs
      by_cases h3 : s.size ≤ 3000
      · have h3' : ¬ ((3000 : Int) < (s.size : Int)) := by omega
        have hnext := Lib.hid (show ∀ i (hi : i < Ts.length), i < K + 1 → Ts[i].size ≤ 3000 from fun i hi hiK => by
          by_cases e : i = K
          · subst e
            rw [← HSK.out]
            exact h3
          · exact HOK.out i hi (by omega))
        go_wp2_with fail
        go_roundw
        case rel => exact ⟨K + 1, by omega, by go_num, hnext, HBR⟩
        case measure => simp [intOf] <;> omega
      · have h3' : (3000 : Int) < (s.size : Int) := by omega
        go_wp2_with fail
        go_ret
        exact ⟨⟨false, rfl, fun e => by cases e⟩, HB1.out.trans (HBR.out.mono (by omega))⟩
    · have hall := Lib.hid (show ∀ s ∈ Ts, s.size ≤ 3000 from fun s hs => by
        obtain ⟨i, hi, rfl⟩ := List.getElem_of_mem hs
        exact HOK.out i hi (by omega))
      obtain ⟨q0, q1, q2⟩ := HX.out _ HBR.out
      have hql := cell_lt q0
      by_cases hl : L.length ≤ 300
      · have hl2 : decide ((L.length : Int) ≤ 300) = true := decide_eq_true (by omega)
        go_wp2_with fail
        refine (rfit_any _ _ _ _ L hl HS.out _ (HM.out.below HBR.out)).mono ?_
        rintro e w2 ⟨⟨v, rfl, hv⟩, hb2⟩
        have HV := Lib.hid hv
        have HB2 := Lib.hid (HB1.out.trans ((HBR.out.trans (hb2.mono HBR.out.size)).mono (by omega)))
        clear hv hb2
        go_wp2_with fail
        go_ret
        exact ⟨⟨v, rfl, fun e => ⟨hl, ref_iff.1 (by subst e; exact HV.out.1 rfl), hall.out⟩⟩, HB2.out⟩
      · have hl2 : decide ((L.length : Int) ≤ 300) = false := decide_eq_false (by omega)
        go_wp2_with fail
        go_ret
        exact ⟨⟨false, rfl, fun e => by cases e⟩, HB1.out.trans (HBR.out.mono (by omega))⟩
end Go.Proofs.Ytfmaagcomplooaa

namespace Go.Proofs.Ytfmaagcomplooaa
set_option maxRecDepth 100000
open Go Go.RowKit

set_option maxHeartbeats 2000000 in
theorem rown_any (a : Option Addr) (cap : Nat) (m b : Int) (L : List Ino) (hL : 0 < L.length) (hb : L.length ≤ 1000) (w : World) (hN : NodesIn w a cap L) :
    Calls Try.prog 22 #[.agg #[.slice a L.length cap, .int .i64 m, .int .i64 b]] w fun e w' => ∃ g cap' vs, e = .returned (.agg #[.slice (some ⟨g, 0, none⟩) L.length cap', .int .i64 m, .int .i64 b]) ∧ NodesOwn w' g cap' L vs ∧ w.heap.size ≤ g ∧ (∀ i (hi : i < L.length) (hv : i < vs.length), KidsIn w vs[i] L[i].kids) ∧ Below w.heap.size w w' := by
  obtain ⟨i0, hi, hz0, hz1, hz2⟩ := info_parts infoIn
  obtain ⟨vs, hl, hone, hk, hcell⟩ := nodes_open hN
  obtain ⟨bb, o, rfl, hx⟩ := hN.2.2 0 hL
  have hbl := cell_lt hx.kind
  obtain ⟨w2, hw2, hb2, hs2, hA, hB⟩ := two_boxes w #[.slice (some ⟨bb, o, none⟩) L.length cap, .int .i64 m, .int .i64 b] #[.slice none 0 0, .int .i64 0, .int .i64 0] 24 24
  have AS : Aside (∀ j u, (nodeC L vs)[j]? = some u → w2.cell? ⟨bb, o + j, none⟩ = some u) := fun j u hj => by
    obtain ⟨b', o', e, hc⟩ := hcell j u hj
    cases e
    exact cell_below hb2 hc
  have HK := Lib.hid hk
  have HL := Lib.hid hl
  have HB2 := Lib.hid hb2
  have HA := Lib.hid hA
  have HR := Lib.hid hB
  have a0 := blk_cell hA 0
  have hal := lt_of_block hA
  clear hcell hk hN hl hx hbl hb2 hA hB
  go_enter Try.func22, Try.ntmps22
  go_wp2_with (at_builtin; refine wpList_append_own _ rfl _ _ 22 rfl (w.heap.size + 2) 29 i0 _ 6 72 Try.underlying22 hi hz0 hz1 hz2 rfl (by decide) (.slice none 0 0) 0 [] rfl (World.ownsRow_nil _ _ _ _) ⟨bb, o, none⟩ L.length cap (nodeC L vs) rfl (nodeC_len L vs HL.out) (fun j u hj => by rw [Addr.add_lit, ← hw2]; exact AS.out j u hj) (nodeC_one hone) (by unfold maxLen; omega) (by omega) (by rw [← hw2]; omega) ?_)
  intro v' w3 hown hgrow hnil
  rw [← hw2] at hgrow
  have hb3 : Below w2.heap.size w2 w3 := (Below.refl _ _).grown hgrow (Nat.le_refl _) (fun k hk => by cases hk)
  rcases hown.2 with ⟨rfl, h0⟩ | ⟨g, cap', cur, rfl, hgb, -⟩
  · omega
  have hown2 : w3.ownsRow (w.heap.size + 2) 29 6 (.slice (some ⟨g, 0, none⟩) L.length cap') L.length (nodeC L vs) := by simpa using hown
  have hN3 := (nodes_of_row HL.out hown2).1
  have hA3 := (hb3.block w.heap.size (by omega)).trans HA.out
  have hR3 := (hb3.block (w.heap.size + 1) (by omega)).trans HR.out
  have q0 := blk_cell hA3 0
  have q1 := blk_cell hA3 1
  have q2 := blk_cell hA3 2
  have f0 := blk_free hA3 0
  have r0 := blk_cell hR3 0
  have r1 := blk_cell hR3 1
  have r2 := blk_cell hR3 2
  have s0 := blk_free hR3 0
  have s1 := blk_free hR3 1
  have s2 := blk_free hR3 2
  have hrl := lt_of_block hR3
  have hq := lt_of_block hA3
  obtain ⟨w4, hw4⟩ : ∃ w4, w4 = w3.setCell ⟨w.heap.size, 0, none⟩ (.slice (some ⟨g, 0, none⟩) L.length cap') := ⟨_, rfl⟩
  have hA4 : w4.heap[w.heap.size]? = some (.cells #[.slice (some ⟨g, 0, none⟩) L.length cap', .int .i64 m, .int .i64 b] 24 (0, 0)) := by rw [hw4]; exact blk_set hA3 0 _
  have hst : ∀ k, k ≠ w.heap.size → w4.heap[k]? = w3.heap[k]? := fun k hk => by rw [hw4]; exact Below.heap_setCell _ _ _ _ hk
  have hR4 := (hst (w.heap.size + 1) (by omega)).trans hR3
  have hN4 : NodesOwn w4 g cap' L vs := hN3.same (hst g (by omega))
  have hb4 : Below w.heap.size w w4 := by rw [hw4]; exact (HB2.out.trans (hb3.mono (by omega))).setCell (show w.heap.size ≤ w.heap.size from Nat.le_refl _) _
  have HW4 := Lib.hid hw4
  have HN4 := Lib.hid hN4
  have HB4 := Lib.hid hb4
  have HR4 := Lib.hid hR4
  have HA4 := Lib.hid hA4
  clear hw4 hN4 hb4 hR4 hA4 hst hN3 hown hown2 hgrow hnil hb3 hA3 hR3 a0 hal hw2
  go_wp2_with fail
  change bodyPost _ _ _ _ _ (put3 (w3.setCell ⟨w.heap.size, 0, none⟩ (.slice (some ⟨g, 0, none⟩) L.length cap')) (w.heap.size + 1) (.slice (some ⟨g, 0, none⟩) L.length cap') (.int .i64 m) (.int .i64 b))
  rw [← HW4.out]
  obtain ⟨c0, c1, c2⟩ := put3_cells HR4.out (.slice (some ⟨g, 0, none⟩) L.length cap') (.int .i64 m) (.int .i64 b)
  have HNF := Lib.hid (HN4.out.same (W' := put3 w4 (w.heap.size + 1) (.slice (some ⟨g, 0, none⟩) L.length cap') (.int .i64 m) (.int .i64 b)) (put3_other (by omega) _ _ _))
  have HBF := Lib.hid (put3_below HB4.out (show w.heap.size ≤ w.heap.size + 1 by omega) (.slice (some ⟨g, 0, none⟩) L.length cap') (.int .i64 m) (.int .i64 b))
  generalize put3 w4 (w.heap.size + 1) (.slice (some ⟨g, 0, none⟩) L.length cap') (.int .i64 m) (.int .i64 b) = wF at *
  exact bodyPost_ret (v := .agg #[.slice (some ⟨g, 0, none⟩) L.length cap', .int .i64 m, .int .i64 b]) (by simp [results, Try.results22, go_sem, c0, c1, c2]) rfl ⟨g, cap', vs, rfl, HNF.out, by omega, HK.out, HBF.out⟩
end Go.Proofs.Ytfmaagcomplooaa
