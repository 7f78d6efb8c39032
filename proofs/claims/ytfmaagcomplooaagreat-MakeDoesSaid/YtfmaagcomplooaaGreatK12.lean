/-
  make's Mkdir, Create, Symlink of the landed code: they answer what chapter 5 says.
  The reference's Named: the names of a directory with one more.
  Trees whose inodes lie in one block that may be written, whatever their names' slices are: for both sides of drop.
  What is written into trees that lie in one block; trees behind stores into boxes; what a call of the reference leaves.
-/
import Derived.Test.YtfmaagcomplooaaGreatMkAdd
import Derived.Test.YtfmaagcomplooaaGreatK3
import Derived.Test.YtfmaagcomplooaaGreatK4
import Derived.BigRegion
import Derived.BigQuiet
namespace Go.Proofs.YtfmaagcomplooaaGreat
set_option maxRecDepth 100000
open Go Go.RowKit

/-- Three boxes that are laid one behind the other. -/
theorem three_boxes (w : World) (A B C : Array Value) (s t u : TypeId) : ∃ w2, w2 = ((w.alloc (.cells A s)).alloc (.cells B t)).alloc (.cells C u) ∧ Below w.heap.size w w2 ∧ w2.heap.size = w.heap.size + 3 ∧ w2.heap[w.heap.size]? = some (.cells A s (0, 0)) ∧ w2.heap[w.heap.size + 1]? = some (.cells B t (0, 0)) ∧ w2.heap[w.heap.size + 2]? = some (.cells C u (0, 0)) := by
  obtain ⟨w1, e1, b1, s1, h1, h2⟩ := two_boxes w A B s t
  refine ⟨w1.alloc (.cells C u), by rw [e1], b1.alloc (by omega) _, by rw [World.size_alloc, s1], ?_, ?_, ?_⟩
  · rw [Below.heap_alloc _ _ _ (by omega)]; exact h1
  · rw [Below.heap_alloc _ _ _ (by omega)]; exact h2
  · have := new_block w1 (.cells C u)
    rw [s1] at this
    exact this
theorem end_made3 {w W : World} {base g cap c : Nat} {L : List Ino} {vs : List Value} (hO : OwnT W base g cap L vs) (hB : Below w.heap.size w W) (hc : c < base) (hc2 : w.heap.size ≤ c) (x y z : Value) :
    OwnT (put3 W c x y z) w.heap.size g cap L vs ∧ Below w.heap.size w (put3 W c x y z) :=
  ⟨(hO.low fun k hk => put3_other (by omega) x y z).lower (by omega), put3_below hB hc2 x y z⟩

/-! ### The words of the landed code and the chapter's -/

theorem spot_fresh (L : List Ino) (cwd : Int) (p : List UInt8) : freshW L cwd p false = if (freshW L cwd p true).2.2 ≠ 0 then freshW L cwd p true else if endL p = true then (0, [], 20) else freshW L cwd p true := by
  unfold freshW
  split
  · rename_i h; simp []
  · split
    · simp
    · split
      · simp
      · split
        · simp
        · cases endL p <;> simp
theorem fresh_zero {L : List Ino} {cwd : Int} {p : List UInt8} {dirs : Bool} (h : (freshW L cwd p dirs).2.2 ≠ 0) : freshW L cwd p dirs = (0, [], (freshW L cwd p dirs).2.2) := by
  unfold freshW at h ⊢
  split
  · rfl
  · rename_i h1
    rw [if_neg h1] at h
    split
    · rfl
    · rename_i h2
      rw [if_neg h2] at h
      split
      · rfl
      · rename_i h3
        rw [if_neg h3] at h
        split
        · rfl
        · rename_i h4
          rw [if_neg h4] at h
          split
          · rfl
          · rename_i h5
            rw [if_neg h5] at h
            exact absurd rfl h
/-- add tells what the chapter says of a new inode of a new name. -/
theorem addS_words {L : List Ino} {m b : Int} (hF : FitP L m b) (cwd : Int) (p : List UInt8) (X : Int → Ino) (dirs : Bool) (hd : ∀ d, dirs = true ↔ (X d).kind = 2) :
    addS L b cwd p X = if (freshW L cwd p dirs).2.2 ≠ 0 then (L, 0, (freshW L cwd p dirs).2.2) else if b < (usedB L : Int) + (X (freshW L cwd p dirs).1).data.length then (L, 0, 28) else addedW L (freshW L cwd p dirs).1 (freshW L cwd p dirs).2.1 (X (freshW L cwd p dirs).1) := by
  unfold addS spotW
  by_cases h0 : (freshW L cwd p true).2.2 = 0
  · obtain ⟨d, s, hdl, hp, hf, -⟩ := fresh_ok hF h0
    have hdd := hd (d : Int)
    have key : ∀ (f : Int × List UInt8 × Int), f = ((d : Int), s, 0) → (if 1024 ≤ (nodeAt L (d : Int)).kids.length then (L, (0 : Int), (28 : Int)) else if freeN L < 0 ∨ b < (usedB L : Int) + (X (d : Int)).data.length then (L, 0, 28) else (addL L d (freeN L).toNat s { X (d : Int) with links := 1 }, freeN L, 0)) =
        (if b < (usedB L : Int) + (X f.1).data.length then (L, 0, 28) else addedW L f.1 f.2.1 (X f.1)) := fun f hf => by
      rw [hf]
      show _ = if b < (usedB L : Int) + (X (d : Int)).data.length then (L, 0, 28) else addedW L (d : Int) s (X (d : Int))
      unfold addedW freeN
      by_cases h1 : 1024 ≤ (nodeAt L (d : Int)).kids.length
      · rw [if_pos h1, if_pos h1]
        split <;> rfl
      · rw [if_neg h1, if_neg h1]
        cases freeW L L.length 0 with
        | none =>
          rw [if_pos (Or.inl (by decide))]
          split <;> rfl
        | some k =>
          by_cases h2 : b < (usedB L : Int) + (X (d : Int)).data.length
          · rw [if_pos (Or.inr h2), if_pos h2]
          · rw [if_neg h2, if_neg (by rintro (h3 | h3); · simp only at h3; omega
                                      · exact h2 h3)]
            rfl
    rw [hf]
    simp only [ne_eq, not_true_eq_false, if_false]
    cases dirs with
    | true =>
      have hk : (X (d : Int)).kind = 2 := hdd.1 rfl
      have hr : refuseW L (d : Int) (endL p) (X (d : Int)).kind = if 1024 ≤ (nodeAt L (d : Int)).kids.length then 28 else 0 := by
        unfold refuseW
        rw [if_neg (by simp [hk])]
      have hq := key ((d : Int), s, 0) rfl
      rw [hf, hr]
      by_cases h1 : 1024 ≤ (nodeAt L (d : Int)).kids.length
      · rw [if_pos h1] at hq ⊢
        exact hq
      · rw [if_neg h1] at hq ⊢
        exact hq
    | false =>
      have hk : (X (d : Int)).kind ≠ 2 := fun e => by have := hdd.2 e; cases this
      have hq := key ((d : Int), s, 0) rfl
      rw [spot_fresh, hf]
      cases he : endL p with
      | true =>
        have hr : refuseW L (d : Int) true (X (d : Int)).kind = 20 := by
          unfold refuseW
          rw [if_pos ⟨rfl, hk⟩]
        rw [hr]
        rfl
      | false =>
        have hr : refuseW L (d : Int) false (X (d : Int)).kind = if 1024 ≤ (nodeAt L (d : Int)).kids.length then 28 else 0 := by
          unfold refuseW
          rw [if_neg (by simp)]
        rw [hr]
        by_cases h1 : 1024 ≤ (nodeAt L (d : Int)).kids.length
        · rw [if_pos h1] at hq ⊢
          exact hq
        · rw [if_neg h1] at hq ⊢
          exact hq
  · rw [if_pos h0]
    simp only [ne_eq, h0, not_false_eq_true, if_true]
    cases dirs with
    | true => simp [h0]
    | false => rw [spot_fresh]; simp [h0]
theorem mkdir_words {L : List Ino} {m b : Int} (hF : FitP L m b) (cwd : Int) (p : List UInt8) (q : Int) (h : modeB q = true) : mkdirW L cwd p q = addS L b cwd p (fun d => newIno 2 q [] d) := by
  obtain ⟨-, -, -, l4, -⟩ := hF.limits
  rw [addS_words hF cwd p _ true (fun d => by simp [newIno])]
  unfold mkdirW
  rw [if_neg (by simp [h])]
  split
  · rfl
  · show _ = if b < (usedB L : Int) + (0 : Nat) then _ else _
    rw [if_neg (by omega)]
theorem create_words {L : List Ino} {m b : Int} (hF : FitP L m b) (cwd : Int) (p : List UInt8) (q : Int) (h : modeB q = true) : createW L cwd p q = addS L b cwd p (fun _ => newIno 1 q [] 0) := by
  obtain ⟨-, -, -, l4, -⟩ := hF.limits
  rw [addS_words hF cwd p _ false (fun d => by simp [newIno])]
  unfold createW
  rw [if_neg (by simp [h])]
  split
  · rfl
  · show _ = if b < (usedB L : Int) + (0 : Nat) then _ else _
    rw [if_neg (by omega)]
theorem symlink_words {L : List Ino} {m b : Int} (hF : FitP L m b) (cwd : Int) (to p : List UInt8) (h1 : to ≠ []) (h2 : to.any (fun c => c == 0) = false) (h3 : to.length ≤ 1024) : symlinkW L b cwd to p = addS L b cwd p (fun _ => newIno 3 7 to 0) := by
  rw [addS_words hF cwd p _ false (fun d => by simp [newIno])]
  unfold symlinkW
  rw [if_neg (by simp [h1, h2]), if_neg (by omega)]
  rfl
end Go.Proofs.YtfmaagcomplooaaGreat

namespace Go.Proofs.YtfmaagcomplooaaGreat
set_option maxRecDepth 100000
open Go Go.RowKit

theorem ent_new (W : World) (x y : Value) (t : TypeId) : ∀ j u, [x, y][j]? = some u → (W.alloc (.cells #[x, y] t)).cell? ((⟨W.heap.size, 0, none⟩ : Addr).add j) = some u := fun j u hj => by
  rw [zero_add_addr, blk_cell (new_block W _) j]
  simpa using hj

theorem named_cons (e : List UInt8 × Int) (r : List (List UInt8 × Int)) (s : List UInt8) (k : Int) : namedL (e :: r) s k = if Op.bytesLess e.1 s = true then e :: namedL r s k else (s, k) :: (e :: r).filter fun e => e.1 != s := rfl

def NamRel (M : List (List UInt8 × Int)) (s : List UInt8) (z : Int) (w : World) (ov pv iv : Value) (wr : World) : Prop :=
  ∃ (k : Nat) (out : List (List UInt8 × Int)) (put : Bool), k ≤ M.length ∧ iv = .int .i64 k ∧ pv = .bool put ∧ out.length ≤ k + put.toNat ∧ namedL M s z = out ++ (if put = true then M.drop k else namedL (M.drop k) s z) ∧ KidsOwn wr w.heap.size ov out ∧ Below w.heap.size w wr

set_option maxHeartbeats 8000000 in
theorem rnamed_any (v : Value) (M : List (List UInt8 × Int)) (hM : M.length ≤ 4096) (s : List UInt8) (z : Int) (hnew : ∀ e ∈ M, e.1 ≠ s) (w : World) (hK : KidsIn w v M) :
    Calls Tryz.prog 36 #[v, .string ⟨s.toArray⟩, .int .i64 z] w fun e w' => ∃ v', e = .returned v' ∧ KidsOwn w' w.heap.size v' (namedL M s z) ∧ Below w.heap.size w w' := by
  obtain ⟨i0, hi, hz0, hz1, hz2⟩ := info_parts infoE
  obtain ⟨a, cap, rfl, hc, hm, hk⟩ := hK
  have HK := Lib.hid hk
  have HNEW := Lib.hid hnew
  unfold maxLen at hm
  clear hk hnew
  go_enter Tryz.func36, Tryz.ntmps36
  go_wp2_with fail
  go_loopw [7, 8, 9] (fun ov pv iv wr => NamRel M s z w ov pv iv wr) (fun _ _ iv _ => M.length - (intOf iv).toNat)
  case atStart => exact ⟨0, [], false, by omega, rfl, rfl, by simp, by simp, KidsOwn.nil _ _, Below.refl _ _⟩
  case round =>
    obtain ⟨k, out, put, hk, rfl, rfl, hol, he, ho, hb⟩ := hrel
    have HE0 := Lib.hid he
    have HO := Lib.hid (show wr.ownsRow w.heap.size 58 2 _ out.length (kidC out) from ho)
    have HB := Lib.hid hb
    have hsz := hb.size
    clear he ho hb
    by_cases hlt : k < M.length
    · have hlz : (k : Int) < (M.length : Int) := by omega
      have hk0 : (0 : Int) ≤ (k : Int) := by omega
      obtain ⟨c1, p1, rfl, z0, z1⟩ := HK.out k hlt
      have hx := List.drop_eq_getElem_cons hlt
      have hnew' := HNEW.out M[k] (List.getElem_mem _)
      obtain ⟨nm, hnm⟩ : ∃ x, x = M[k].1 := ⟨_, rfl⟩
      obtain ⟨zi, hzi⟩ : ∃ x, x = M[k].2 := ⟨_, rfl⟩
      have hpair : M[k] = (nm, zi) := by rw [hnm, hzi]
      rw [← hnm] at z0 hnew'
      rw [← hzi] at z1
      rw [hpair] at hx
      have HZ0 := Lib.hid z0
      have HZ1 := Lib.hid z1
      have HXD := Lib.hid hx
      have hne : (nm == s) = false := by simpa using hnew'
      have y0 := cell_below HB.out z0
      have y1 := cell_below HB.out z1
      have hyl := cell_lt y0
      clear hnm hzi hpair z0 z1 hx hnew'
      cases put with
      | true =>
        have hol' : out.length ≤ k + 1 := hol
        have HE := Lib.hid (show namedL M s z = (out ++ [(nm, zi)]) ++ (if true = true then M.drop (k + 1) else namedL (M.drop (k + 1)) s z) by
          have h := HE0.out
          rw [if_pos rfl, HXD.out] at h
          rw [if_pos rfl, h]
          simp)
        go_wp2_with (first | (at_builtin; (refine wpList_append_own _ rfl _ _ 47 rfl w.heap.size 58 i0 _ 2 24 Tryz.underlying47 hi hz0 hz1 hz2 rfl (by decide) _ _ _ rfl (HO.out.alloc _) ⟨wr.heap.size, 0, none⟩ 1 1 [.string ⟨nm.toArray⟩, .int .i64 zi] rfl rfl (ent_new _ _ _ _) (fun x hx => by simp at hx; rcases hx with rfl | rfl <;> rfl) (by unfold maxLen; omega) (by omega) (by simp; omega) ?_); intro v3 w3 hown3 hgrow3 hnil3) | fail)
        have hb3 : Below w.heap.size w w3 := (HB.out.alloc HB.out.size _).grown hgrow3 (by simp; omega) (fun r hr => (HO.out.lt r hr).1)
        have HO3 := Lib.hid (show w3.ownsRow w.heap.size 58 2 _ (out ++ [(nm, zi)]).length (kidC (out ++ [(nm, zi)])) by rw [List.length_append, kidC_app]; exact hown3)
        have HB3 := Lib.hid hb3
        have hs3 := hb3.size
        clear hb3 hown3 hgrow3 hnil3
        go_wp2_with fail
        go_roundw
        case rel => exact ⟨k + 1, out ++ [(nm, zi)], true, by omega, by go_num, rfl, by show _ ≤ k + 1 + 1; simp only [List.length_append, List.length_cons, List.length_nil]; omega, HE.out, HO3.out, HB3.out⟩
        case measure => simp [intOf] <;> omega
      | false =>
        have hol' : out.length ≤ k := hol
        cases hls : Op.bytesLess nm s with
        | true =>
          have HE := Lib.hid (show namedL M s z = (out ++ [(nm, zi)]) ++ (if false = true then M.drop (k + 1) else namedL (M.drop (k + 1)) s z) by
            have h := HE0.out
            rw [if_neg (by decide), HXD.out] at h
            rw [named_cons] at h
            rw [if_pos hls] at h
            rw [if_neg (by decide), List.append_assoc]
            exact h)
          go_wp2_with (first | (at_builtin; (refine wpList_append_own _ rfl _ _ 47 rfl w.heap.size 58 i0 _ 2 24 Tryz.underlying47 hi hz0 hz1 hz2 rfl (by decide) _ _ _ rfl (HO.out.alloc _) ⟨wr.heap.size, 0, none⟩ 1 1 [.string ⟨nm.toArray⟩, .int .i64 zi] rfl rfl (ent_new _ _ _ _) (fun x hx => by simp at hx; rcases hx with rfl | rfl <;> rfl) (by unfold maxLen; omega) (by omega) (by simp; omega) ?_); intro v3 w3 hown3 hgrow3 hnil3) | fail)
          have hb3 : Below w.heap.size w w3 := (HB.out.alloc HB.out.size _).grown hgrow3 (by simp; omega) (fun r hr => (HO.out.lt r hr).1)
          have HO3 := Lib.hid (show w3.ownsRow w.heap.size 58 2 _ (out ++ [(nm, zi)]).length (kidC (out ++ [(nm, zi)])) by rw [List.length_append, kidC_app]; exact hown3)
          have HB3 := Lib.hid hb3
          have hs3 := hb3.size
          clear hb3 hown3 hgrow3 hnil3
          go_wp2_with fail
          go_roundw
          case rel => exact ⟨k + 1, out ++ [(nm, zi)], false, by omega, by go_num, rfl, by show _ ≤ k + 1 + 0; simp only [List.length_append, List.length_cons, List.length_nil]; omega, HE.out, HO3.out, HB3.out⟩
          case measure => simp [intOf] <;> omega
        | false =>
          have HE := Lib.hid (show namedL M s z = ((out ++ [(s, z)]) ++ [(nm, zi)]) ++ (if true = true then M.drop (k + 1) else namedL (M.drop (k + 1)) s z) by
            have h := HE0.out
            rw [if_neg (by decide), HXD.out] at h
            rw [named_cons] at h
            rw [if_neg (by rw [hls]; decide), List.filter_eq_self.2 (fun e he => by
              have h1 := HNEW.out e (List.mem_of_mem_drop (i := k) (by rw [HXD.out]; exact he))
              simpa using h1)] at h
            rw [if_pos rfl, h]
            simp)
          go_wp2_with (first | (at_builtin; (refine wpList_append_own _ rfl _ _ 47 rfl w.heap.size 58 i0 _ 2 24 Tryz.underlying47 hi hz0 hz1 hz2 rfl (by decide) _ _ _ rfl (HO.out.alloc _) ⟨wr.heap.size, 0, none⟩ 1 1 [.string ⟨s.toArray⟩, .int .i64 z] rfl rfl (ent_new _ _ _ _) (fun x hx => by simp at hx; rcases hx with rfl | rfl <;> rfl) (by unfold maxLen; omega) (by omega) (by simp; omega) ?_); intro v3 w3 hown3 hgrow3 hnil3; have hb3 : Below w.heap.size w w3 := (HB.out.alloc HB.out.size _).grown hgrow3 (by simp; omega) (fun r hr => (HO.out.lt r hr).1); have y0' := cell_below hb3 HZ0.out; have y1' := cell_below hb3 HZ1.out; have hyl' := cell_lt y0'; have HB3 := Lib.hid hb3; have hs3 := hb3.size; have ho1 : (out ++ [(s, z)]).length = out.length + 1 := (by simp); have HO3 := Lib.hid (show w3.ownsRow w.heap.size 58 2 v3 (out ++ [(s, z)]).length (kidC (out ++ [(s, z)])) by rw [List.length_append, kidC_app]; exact hown3)) | (at_builtin; (refine wpList_append_own _ rfl _ _ 47 rfl w.heap.size 58 i0 _ 2 24 Tryz.underlying47 hi hz0 hz1 hz2 rfl (by decide) _ _ _ rfl (HO3.out.alloc _) ⟨w3.heap.size, 0, none⟩ 1 1 [.string ⟨nm.toArray⟩, .int .i64 zi] rfl rfl (ent_new _ _ _ _) (fun x hx => by simp at hx; rcases hx with rfl | rfl <;> rfl) (by unfold maxLen; omega) (by omega) (by simp; omega) ?_); intro v4 w4 hown4 hgrow4 hnil4) | fail)
          have HO4 := Lib.hid (show w4.ownsRow w.heap.size 58 2 _ ((out ++ [(s, z)]) ++ [(nm, zi)]).length (kidC ((out ++ [(s, z)]) ++ [(nm, zi)])) by rw [List.length_append, kidC_app]; exact hown4)
          have HB4 := Lib.hid (show Below w.heap.size w w4 from (HB3.out.alloc HB3.out.size _).grown hgrow4 (by simp; omega) (fun r hr => (HO3.out.lt r hr).1))
          clear hown4 hgrow4 hnil4 hown3 hgrow3 hnil3 hb3
          go_wp2_with fail
          go_roundw
          case rel => exact ⟨k + 1, (out ++ [(s, z)]) ++ [(nm, zi)], true, by omega, by go_num, rfl, by show _ ≤ k + 1 + 1; simp only [List.length_append, List.length_cons, List.length_nil]; omega, HE.out, HO4.out, HB4.out⟩
          case measure => simp [intOf] <;> omega
    · obtain rfl : k = M.length := by omega
      have hd : M.drop M.length = [] := List.drop_length
      cases put with
      | true =>
        have HE := Lib.hid (show namedL M s z = out by have h := HE0.out; rw [if_pos rfl, hd, List.append_nil] at h; exact h)
        clear hd
        go_wp2_with fail
        go_ret
        exact ⟨_, rfl, by rw [HE.out]; exact HO.out, HB.out⟩
      | false =>
        have hol' : out.length ≤ M.length := hol
        have HE := Lib.hid (show namedL M s z = out ++ [(s, z)] by have h := HE0.out; rw [if_neg (by decide), hd] at h; exact h)
        clear hd
        go_wp2_with (first | (at_builtin; (refine wpList_append_own _ rfl _ _ 47 rfl w.heap.size 58 i0 _ 2 24 Tryz.underlying47 hi hz0 hz1 hz2 rfl (by decide) _ _ _ rfl (HO.out.alloc _) ⟨wr.heap.size, 0, none⟩ 1 1 [.string ⟨s.toArray⟩, .int .i64 z] rfl rfl (ent_new _ _ _ _) (fun x hx => by simp at hx; rcases hx with rfl | rfl <;> rfl) (by unfold maxLen; omega) (by omega) (by simp; omega) ?_); intro v3 w3 hown3 hgrow3 hnil3) | fail)
        have hb3 : Below w.heap.size w w3 := (HB.out.alloc HB.out.size _).grown hgrow3 (by simp; omega) (fun r hr => (HO.out.lt r hr).1)
        have HO3 := Lib.hid (show w3.ownsRow w.heap.size 58 2 _ (out ++ [(s, z)]).length (kidC (out ++ [(s, z)])) by rw [List.length_append, kidC_app]; exact hown3)
        have HB3 := Lib.hid hb3
        have hs3 := hb3.size
        clear hb3 hown3 hgrow3 hnil3
        go_wp2_with fail
        go_ret
        exact ⟨_, rfl, by rw [HE.out]; exact HO3.out, HB3.out⟩
end Go.Proofs.YtfmaagcomplooaaGreat

namespace Go.Proofs.YtfmaagcomplooaaGreat
set_option maxRecDepth 100000
open Go Go.RowKit

theorem sets_keep : ∀ (l : List Value) (b o : Nat) (W : World), (W.setCells b o l).os = W.os ∧ (W.setCells b o l).tape = W.tape ∧ (W.setCells b o l).output = W.output
  | [], _, _, _ => ⟨rfl, rfl, rfl⟩
  | v :: r, b, o, W => sets_keep r b (o + 1) (W.setCell ⟨b, o, none⟩ v)

/-- All that was there but block g is as it was. -/
structure Off (g : Nat) (w w' : World) : Prop where
  os : w'.os = w.os
  tape : w'.tape = w.tape
  output : w'.output = w.output
  size : w.heap.size ≤ w'.heap.size
  block : ∀ j, j ≠ g → j < w.heap.size → w'.heap[j]? = w.heap[j]?
section
variable {g : Nat} {w w' w'' : World}
theorem Off.refl (g : Nat) (w : World) : Off g w w := ⟨rfl, rfl, rfl, Nat.le_refl _, fun _ _ _ => rfl⟩
theorem Off.trans (h : Off g w w') (k : Off g w' w'') : Off g w w'' := ⟨k.os.trans h.os, k.tape.trans h.tape, k.output.trans h.output, Nat.le_trans h.size k.size, fun j hj hl => (k.block j hj (Nat.lt_of_lt_of_le hl h.size)).trans (h.block j hj hl)⟩
theorem Off.of_below (h : Below w.heap.size w w') : Off g w w' := ⟨h.os, h.tape, h.output, h.size, fun j _ hl => h.block j hl⟩
theorem Off.below (h : Off g w w') {B : Nat} (hg : B ≤ g) (hB : B ≤ w.heap.size) : Below B w w' := ⟨h.os, h.tape, h.output, h.size, fun j hj => h.block j (by omega) (by omega)⟩
theorem Off.set (h : Off g w w') (o : Nat) (v : Value) : Off g w (w'.setCell ⟨g, o, none⟩ v) := ⟨h.os, h.tape, h.output, by simpa [World.setCell] using h.size, fun j hj hl => (Below.heap_setCell _ _ _ _ hj).trans (h.block j hj hl)⟩
theorem Off.sets (h : Off g w w') (o : Nat) (l : List Value) : Off g w (w'.setCells g o l) := by
  obtain ⟨h1, h2, h3⟩ := sets_keep l g o w'
  exact ⟨h1.trans h.os, h2.trans h.tape, h3.trans h.output, by rw [size_sets]; exact h.size, fun j hj hl => (heap_sets _ _ _ _ _ hj).trans (h.block j hj hl)⟩
end

theorem KidsIn.cells {W W' : World} {v : Value} {K : List (List UInt8 × Int)} (h : KidsIn W v K) (hb : ∀ j, j < W.heap.size → W'.heap[j]? = W.heap[j]?) : KidsIn W' v K := by
  obtain ⟨a, cap, h1, h2, h3, h4⟩ := h
  refine ⟨a, cap, h1, h2, h3, fun i hi => ?_⟩
  obtain ⟨b, o, e1, e2, e3⟩ := h4 i hi
  have hl := cell_lt e2
  exact ⟨b, o, e1, (World.cell?_of_block (a := ⟨b, o + i * 2, none⟩) (hb b hl)).trans e2, (World.cell?_of_block (a := ⟨b, o + i * 2 + 1, none⟩) (hb b hl)).trans e3⟩

/-- Block g holds the inodes L, whose names' slices are vs and lie elsewhere. -/
structure RefT (W : World) (g cap : Nat) (L : List Ino) (vs : List Value) : Prop where
  nodes : NodesOwn W g cap L vs
  kids : ∀ i (hi : i < L.length) (hv : i < vs.length) (W' : World), (∀ j, j ≠ g → j < W.heap.size → W'.heap[j]? = W.heap[j]?) → KidsIn W' vs[i] L[i].kids
section
variable {W W' : World} {base g cap : Nat} {L : List Ino} {vs : List Value}
theorem RefT.nodesIn (h : RefT W g cap L vs) : NodesIn W (some ⟨g, 0, none⟩) cap L := h.nodes.nodesIn fun i hi hv => h.kids i hi hv W fun _ _ _ => rfl
theorem RefT.stay (h : RefT W g cap L vs) (hs : W.heap.size ≤ W'.heap.size) (hb : ∀ j, j < W.heap.size → W'.heap[j]? = W.heap[j]?) : RefT W' g cap L vs :=
  ⟨h.nodes.same (hb g h.nodes.lt), fun i hi hv W'' hw => h.kids i hi hv W'' fun j hj hl => (hw j hj (Nat.lt_of_lt_of_le hl hs)).trans (hb j hl)⟩
theorem RefT.below (h : RefT W g cap L vs) (hb : Below W.heap.size W W') : RefT W' g cap L vs := h.stay hb.size hb.block
theorem OwnT.refT (h : OwnT W base g cap L vs) : RefT W g cap L vs :=
  ⟨h.nodes, fun i hi hv _W' hw => ((h.kids i hi hv).same fun k hk => hw k (fun e => h.off i hv (e ▸ hk)) ((h.kids i hi hv).lt k hk).2).kidsIn⟩
/-- The reference's copy: the names' slices are those of before. -/
theorem RefT.of_kids {w : World} (hN : NodesOwn W g cap L vs) (hk : ∀ i (hi : i < L.length) (hv : i < vs.length), KidsIn w vs[i] L[i].kids) (hg : w.heap.size ≤ g) (hs : w.heap.size ≤ W.heap.size) (hb : ∀ j, j < w.heap.size → W.heap[j]? = w.heap[j]?) : RefT W g cap L vs :=
  ⟨hN, fun i hi hv _ hw => (hk i hi hv).cells fun j hj => (hw j (by omega) (by omega)).trans (hb j hj)⟩
theorem RefT.setKids (h : RefT W g cap L vs) {d : Nat} (hd : d < L.length) (hv : d < vs.length) {w5 : World} {v : Value} {M : List (List UInt8 × Int)} (hk : KidsOwn w5 W.heap.size v M) (hb : Below W.heap.size W w5) :
    RefT (w5.setCell ⟨g, d * 6 + 4, none⟩ v) g cap (L.set d { L[d] with kids := M }) (vs.set d v) := by
  refine ⟨(h.nodes.below hb).setKids hd hv v M, fun i hi hvi W' hw => ?_⟩
  have hw5 : ∀ j, j ≠ g → j < w5.heap.size → W'.heap[j]? = w5.heap[j]? := fun j hj hl => (hw j hj (by simpa [World.setCell] using hl)).trans (Below.heap_setCell _ _ _ _ hj)
  have hgl := h.nodes.lt
  by_cases e : d = i
  · subst e
    rw [List.getElem_set_self, List.getElem_set_self]
    exact (hk.same fun j hj => by
      have := hk.lt j hj
      exact hw5 j (by omega) this.2).kidsIn
  · rw [List.length_set] at hi hvi
    rw [List.getElem_set_ne e, List.getElem_set_ne e]
    exact h.kids i hi hvi W' fun j hj hl => (hw5 j hj (Nat.lt_of_lt_of_le hl hb.size)).trans (hb.block j hl)
/-- What is written of the block of the inodes alone. -/
theorem RefT.turn (h : RefT W g cap L vs) {L' : List Ino} {vs' : List Value} (hN : NodesOwn W' g cap L' vs') (hl : L'.length = L.length) (hs : W'.heap.size = W.heap.size) (hb : ∀ j, j ≠ g → W'.heap[j]? = W.heap[j]?)
    (hk : ∀ i (hi : i < L'.length) (hv : i < vs'.length) (hi2 : i < L.length) (hv2 : i < vs.length), (L'[i].kids = L[i].kids ∧ vs'[i] = vs[i]) ∨ (L'[i].kids = [] ∧ vs'[i] = .slice none 0 0)) : RefT W' g cap L' vs' := by
  refine ⟨hN, fun i hi hv W'' hw => ?_⟩
  have hi2 : i < L.length := by rw [← hl]; exact hi
  rcases hk i hi hv hi2 (by rw [h.nodes.len]; exact hi2) with ⟨e1, e2⟩ | ⟨e1, e2⟩
  · rw [e1, e2]
    exact h.kids i hi2 _ W'' fun j hj hjl => (hw j hj (by rw [hs]; exact hjl)).trans (hb j hj)
  · rw [e1, e2]
    exact ⟨none, 0, rfl, Nat.le_refl _, Nat.zero_le _, fun i hi => absurd hi (Nat.not_lt_zero _)⟩
theorem RefT.setLinks (h : RefT W g cap L vs) {i : Nat} (hi : i < L.length) (z : Int) : RefT (W.setCell ⟨g, i * 6 + 2, none⟩ (.int .i64 z)) g cap (L.set i { L[i] with links := z }) vs := by
  have hv : i < vs.length := by rw [h.nodes.len]; exact hi
  have hN := h.nodes.setLinks hi hv z
  rw [set_self] at hN
  refine h.turn hN (List.length_set ..) (size_set _ _) (fun j hj => Below.heap_setCell _ _ _ _ hj) fun j hj _ hj2 _ => .inl ⟨?_, rfl⟩
  rw [List.getElem_set]
  split
  · rename_i e; subst e; rfl
  · rfl
theorem NodesOwn.setUp (h : NodesOwn W g cap L vs) {i : Nat} (hi : i < L.length) (hv : i < vs.length) (z : Int) : NodesOwn (W.setCell ⟨g, i * 6 + 5, none⟩ (.int .i64 z)) g cap (L.set i { L[i] with up := z }) (vs.set i vs[i]) := by
  have hn := h.node i hi hv
  have hc := cell_set (u := .int .i64 z) hn.up
  refine h.put hi (size_set _ _) (fun j => World.frozen?_setCell ..) (fun j hj => by rw [hc, if_neg (by omega)]) ⟨?_, ?_, ?_, ?_, ?_, ?_⟩
  · rw [hc, if_neg (by omega)]; exact hn.kind
  · rw [hc, if_neg (by omega)]; exact hn.mode
  · rw [hc, if_neg (by omega)]; exact hn.links
  · rw [hc, if_neg (by omega)]; exact hn.data
  · rw [hc, if_neg (by omega)]; exact hn.kids
  · rw [hc, if_pos rfl]
theorem RefT.setUp (h : RefT W g cap L vs) {i : Nat} (hi : i < L.length) (z : Int) : RefT (W.setCell ⟨g, i * 6 + 5, none⟩ (.int .i64 z)) g cap (L.set i { L[i] with up := z }) vs := by
  have hv : i < vs.length := by rw [h.nodes.len]; exact hi
  have hN := h.nodes.setUp hi hv z
  rw [set_self] at hN
  refine h.turn hN (List.length_set ..) (size_set _ _) (fun j hj => Below.heap_setCell _ _ _ _ hj) fun j hj _ hj2 _ => .inl ⟨?_, rfl⟩
  rw [List.getElem_set]
  split
  · rename_i e; subst e; rfl
  · rfl
theorem RefT.setNode (h : RefT W g cap L vs) {i : Nat} (hi : i < L.length) (x : Ino) (hx : x.kids = []) : RefT (W.setCells g (i * 6) (inoC x (.slice none 0 0))) g cap (L.set i x) (vs.set i (.slice none 0 0)) := by
  have hv : i < vs.length := by rw [h.nodes.len]; exact hi
  refine h.turn (h.nodes.setNode hi hv x _) (List.length_set ..) (size_sets _ _ _ _) (fun j hj => heap_sets _ _ _ _ _ hj) fun j hj hvj _ _ => ?_
  rw [List.getElem_set, List.getElem_set]
  by_cases e : i = j
  · rw [if_pos e, if_pos e]; exact .inr ⟨hx, rfl⟩
  · rw [if_neg e, if_neg e]; exact .inl ⟨rfl, rfl⟩
theorem RefT.node (h : RefT W g cap L vs) {i : Nat} (hi : i < L.length) : ∃ v, NodeAt W g (i * 6) L[i] v ∧ KidsIn W v L[i].kids ∧ ∀ j, W.frozen? ⟨g, j, none⟩ = false := by
  have hv : i < vs.length := by rw [h.nodes.len]; exact hi
  exact ⟨vs[i], h.nodes.node i hi hv, h.kids i hi hv W fun _ _ _ => rfl, h.nodes.free⟩
end

/-- What is there behind the names of a directory were written. -/
structure Named1 (g cap d k : Nat) (M : List (List UInt8 × Int)) (L : List Ino) (w W : World) (vs : List Value) : Prop where
  ref : RefT W g cap (L.set d (withKids (nodeAt L d) M)) vs
  off : Off g w W
theorem Named1.links {g cap d k : Nat} {M : List (List UInt8 × Int)} {L : List Ino} {w W : World} {vs : List Value} (h : Named1 g cap d k M L w W vs) (hk : k < L.length) (hdk : d ≠ k) (z : Int) :
    RefT (W.setCell ⟨g, k * 6 + 2, none⟩ (.int .i64 z)) g cap ((L.set d (withKids (nodeAt L d) M)).set k { L[k] with links := z }) vs ∧ Off g w (W.setCell ⟨g, k * 6 + 2, none⟩ (.int .i64 z)) := by
  have hk' : k < (L.set d (withKids (nodeAt L d) M)).length := by rw [List.length_set]; exact hk
  have h1 := h.ref.setLinks hk' z
  rw [List.getElem_set_ne hdk] at h1
  exact ⟨h1, h.off.set _ _⟩
/-- What a change of a tree in its own block leaves. -/
def TurnAns (g cap : Nat) (L' : List Ino) (w : World) (e : Ending) (w' : World) : Prop := e = .returned (.tuple #[]) ∧ (∃ vs', RefT w' g cap L' vs') ∧ Off g w w'
end Go.Proofs.YtfmaagcomplooaaGreat

namespace Go.Proofs.YtfmaagcomplooaaGreat
set_option maxRecDepth 100000
open Go Go.RowKit

/-- What a call of the reference leaves: a tree that can be read. -/
def RefAns (w : World) (m b : Int) (L' : List Ino) (rest : List Value) (e : Ending) (w' : World) : Prop :=
  (∃ a' cap', e = .returned (.tuple (#[.agg #[.slice a' L'.length cap', .int .i64 m, .int .i64 b]] ++ rest.toArray)) ∧ NodesIn w' a' cap' L') ∧ Below w.heap.size w w'
/-- A result's box that is still empty is no part of a tree. -/
theorem nodes_put3 {W : World} {c : Nat} {t : TypeId} {a : Option Addr} {cap : Nat} {L : List Ino} (h : NodesIn W a cap L) (hc : W.heap[c]? = some (.cells #[.slice none 0 0, .int .i64 0, .int .i64 0] t (0, 0))) (x y z : Value) : NodesIn (put3 W c x y z) a cap L := by
  have hcell : ∀ j u, W.cell? ⟨c, j, none⟩ = some u → (∀ s, u ≠ .string s) ∧ j < 3 := fun j u hu => by
    rw [blk_cell hc j] at hu
    match j, hu with
    | 0, hu => have h := Option.some.inj hu; subst h; exact ⟨(fun s e => by cases e), by omega⟩
    | 1, hu => have h := Option.some.inj hu; subst h; exact ⟨(fun s e => by cases e), by omega⟩
    | 2, hu => have h := Option.some.inj hu; subst h; exact ⟨(fun s e => by cases e), by omega⟩
    | j + 3, hu => simp at hu
  have hsame : ∀ b j, b ≠ c → (put3 W c x y z).cell? ⟨b, j, none⟩ = W.cell? ⟨b, j, none⟩ := fun b j hb => World.cell?_of_block (a := ⟨b, j, none⟩) (put3_other hb x y z)
  refine ⟨h.1, h.2.1, fun i hi => ?_⟩
  obtain ⟨b, o, e, hn⟩ := h.2.2 i hi
  have hb : b ≠ c := fun e => by
    subst e
    have := (hcell _ _ hn.up).2
    omega
  obtain ⟨v, hv, ka, kc, rfl, h1, h2, h3⟩ := hn.kids
  exact ⟨b, o, e, ⟨(hsame b _ hb).trans hn.kind, (hsame b _ hb).trans hn.mode, (hsame b _ hb).trans hn.links, (hsame b _ hb).trans hn.data, ⟨_, (hsame b _ hb).trans hv, ka, kc, rfl, h1, h2, fun j hj => by
    obtain ⟨b', o', e', c0, c1⟩ := h3 j hj
    have hb' : b' ≠ c := fun e => by
      subst e
      exact (hcell _ _ c0).1 _ rfl
    exact ⟨b', o', e', (hsame b' _ hb').trans c0, (hsame b' _ hb').trans c1⟩⟩, (hsame b _ hb).trans hn.up⟩⟩
theorem RefT.setK {W w5 : World} {g cap : Nat} {L : List Ino} {vs : List Value} (h : RefT W g cap L vs) {d : Nat} (hd : d < L.length) {v : Value} {M : List (List UInt8 × Int)} (hb : Below W.heap.size W w5)
    (hk : ∀ W', (∀ j, j ≠ g → j < w5.heap.size → W'.heap[j]? = w5.heap[j]?) → KidsIn W' v M) : RefT (w5.setCell ⟨g, d * 6 + 4, none⟩ v) g cap (L.set d { L[d] with kids := M }) (vs.set d v) := by
  have hv : d < vs.length := by rw [h.nodes.len]; exact hd
  refine ⟨(h.nodes.below hb).setKids hd hv v M, fun i hi hvi W' hw => ?_⟩
  have hw5 : ∀ j, j ≠ g → j < w5.heap.size → W'.heap[j]? = w5.heap[j]? := fun j hj hl => (hw j hj (by simpa [World.setCell] using hl)).trans (Below.heap_setCell _ _ _ _ hj)
  by_cases e : d = i
  · subst e
    rw [List.getElem_set_self, List.getElem_set_self]
    exact hk W' hw5
  · rw [List.length_set] at hi hvi
    rw [List.getElem_set_ne e, List.getElem_set_ne e]
    exact h.kids i hi hvi W' fun j hj hl => (hw5 j hj (Nat.lt_of_lt_of_le hl hb.size)).trans (hb.block j hl)
theorem RefT.setN {W w5 : World} {g cap : Nat} {L : List Ino} {vs : List Value} (h : RefT W g cap L vs) {d : Nat} (hd : d < L.length) (x : Ino) {v : Value} (hb : Below W.heap.size W w5)
    (hk : ∀ W', (∀ j, j ≠ g → j < w5.heap.size → W'.heap[j]? = w5.heap[j]?) → KidsIn W' v x.kids) : RefT (w5.setCells g (d * 6) (inoC x v)) g cap (L.set d x) (vs.set d v) := by
  have hv : d < vs.length := by rw [h.nodes.len]; exact hd
  refine ⟨(h.nodes.below hb).setNode hd hv x v, fun i hi hvi W' hw => ?_⟩
  have hw5 : ∀ j, j ≠ g → j < w5.heap.size → W'.heap[j]? = w5.heap[j]? := fun j hj hl => (hw j hj (by rw [size_sets]; exact hl)).trans (heap_sets _ _ _ _ _ hj)
  by_cases e : d = i
  · subst e
    rw [List.getElem_set_self, List.getElem_set_self]
    exact hk W' hw5
  · rw [List.length_set] at hi hvi
    rw [List.getElem_set_ne e, List.getElem_set_ne e]
    exact h.kids i hi hvi W' fun j hj hl => (hw5 j hj (Nat.lt_of_lt_of_le hl hb.size)).trans (hb.block j hl)
theorem RefT.bare {W W' : World} {g cap : Nat} {L : List Ino} {vs : List Value} (h : RefT W g cap L vs) (h0 : ∀ x ∈ L, x.kids = []) (hg : W'.heap[g]? = W.heap[g]?) : RefT W' g cap L vs := by
  refine ⟨h.nodes.same hg, fun i hi hv W'' _ => ?_⟩
  have h1 := h.kids i hi hv W fun _ _ _ => rfl
  rw [h0 _ (List.getElem_mem hi)] at h1 ⊢
  obtain ⟨a, c, e, h2, h3, -⟩ := h1
  exact ⟨a, c, e, h2, h3, fun i hi => absurd hi (Nat.not_lt_zero _)⟩
theorem sets_alloc (g : Nat) (obj : Obj) : ∀ (l : List Value) (o : Nat) (W : World), g < W.heap.size → (W.setCells g o l).alloc obj = (W.alloc obj).setCells g o l
  | [], _, _, _ => rfl
  | v :: r, o, W, h => by
    show ((W.setCell ⟨g, o, none⟩ v).setCells g (o + 1) r).alloc obj = ((W.alloc obj).setCell ⟨g, o, none⟩ v).setCells g (o + 1) r
    rw [sets_alloc g obj r (o + 1) _ (by simpa [World.setCell] using h), World.setCell_alloc_past (w := W) obj g o v h]
theorem below_sets {B : Nat} {w W : World} (h : Below B w W) {g : Nat} (hg : B ≤ g) (o : Nat) (l : List Value) : Below B w (W.setCells g o l) := by
  induction l generalizing o W with
  | nil => exact h
  | cons v r ih => exact ih (h.setCell hg _) (o + 1)
theorem nodes_tree {W : World} {c : Nat} {t : TypeId} {a a0 : Option Addr} {cap n0 c0 : Nat} {z1 z2 : Int} {L : List Ino} (h : NodesIn W a cap L) (hc : W.heap[c]? = some (.cells #[.slice a0 n0 c0, .int .i64 z1, .int .i64 z2] t (0, 0))) (x y z : Value) : NodesIn (put3 W c x y z) a cap L := by
  have hcell : ∀ j u, W.cell? ⟨c, j, none⟩ = some u → (∀ s, u ≠ .string s) ∧ j < 3 := fun j u hu => by
    rw [blk_cell hc j] at hu
    match j, hu with
    | 0, hu => have h := Option.some.inj hu; subst h; exact ⟨(fun s e => by cases e), by omega⟩
    | 1, hu => have h := Option.some.inj hu; subst h; exact ⟨(fun s e => by cases e), by omega⟩
    | 2, hu => have h := Option.some.inj hu; subst h; exact ⟨(fun s e => by cases e), by omega⟩
    | j + 3, hu => simp at hu
  have hsame : ∀ b j, b ≠ c → (put3 W c x y z).cell? ⟨b, j, none⟩ = W.cell? ⟨b, j, none⟩ := fun b j hb => World.cell?_of_block (a := ⟨b, j, none⟩) (put3_other hb x y z)
  refine ⟨h.1, h.2.1, fun i hi => ?_⟩
  obtain ⟨b, o, e, hn⟩ := h.2.2 i hi
  have hb : b ≠ c := fun e => by
    subst e
    have := (hcell _ _ hn.up).2
    omega
  obtain ⟨v, hv, ka, kc, rfl, h1, h2, h3⟩ := hn.kids
  exact ⟨b, o, e, ⟨(hsame b _ hb).trans hn.kind, (hsame b _ hb).trans hn.mode, (hsame b _ hb).trans hn.links, (hsame b _ hb).trans hn.data, ⟨_, (hsame b _ hb).trans hv, ka, kc, rfl, h1, h2, fun j hj => by
    obtain ⟨b', o', e', c0, c1⟩ := h3 j hj
    have hb' : b' ≠ c := fun e => by
      subst e
      exact (hcell _ _ c0).1 _ rfl
    exact ⟨b', o', e', (hsame b' _ hb').trans c0, (hsame b' _ hb').trans c1⟩⟩, (hsame b _ hb).trans hn.up⟩⟩
theorem set_sizes (W : World) (a : Addr) (v : Value) : (W.setCell a v).heap.size = W.heap.size := by simp [World.setCell]
/-- What the walk asks of an inode that is written. -/
theorem RefT.cells {W : World} {g cap : Nat} {L : List Ino} {vs : List Value} (h : RefT W g cap L vs) {i : Nat} (hi : i < L.length) (j : Nat) (hj : j < 6) : (∃ u, W.cell? ⟨g, i * 6 + j, none⟩ = some u) ∧ W.frozen? ⟨g, i * 6 + j, none⟩ = false := by
  obtain ⟨v, hn, -, hf⟩ := h.node hi
  refine ⟨?_, hf _⟩
  match j, hj with
  | 0, _ => exact ⟨_, hn.kind⟩
  | 1, _ => exact ⟨_, hn.mode⟩
  | 2, _ => exact ⟨_, hn.links⟩
  | 3, _ => exact ⟨_, hn.data⟩
  | 4, _ => exact ⟨_, hn.kids⟩
  | 5, _ => exact ⟨_, hn.up⟩
theorem kids_just {w5 : World} {g B : Nat} {t : TypeId} {s : List UInt8} {k : Int} (hB : w5.heap[B]? = some (.cells #[.string ⟨s.toArray⟩, .int .i64 k] t (0, 0))) (hne : B ≠ g) (W' : World) (h : ∀ j, j ≠ g → j < w5.heap.size → W'.heap[j]? = w5.heap[j]?) : KidsIn W' (.slice (some ⟨B, 0, none⟩) 1 1) [(s, k)] := by
  have h1 := (h B hne (lt_of_block hB)).trans hB
  refine ⟨_, 1, rfl, Nat.le_refl _, by unfold maxLen; decide, fun i hi => ⟨B, 0, rfl, ?_⟩⟩
  have hi' : i < 1 := hi
  obtain rfl : i = 0 := by omega
  exact ⟨blk_cell h1 0, blk_cell h1 1⟩
end Go.Proofs.YtfmaagcomplooaaGreat
