/-
  Where a file's name went a file can be made again, in plain words.
  The law DropAgain, walked.
-/
import Derived.Test.YtmaiphibpdngnaaGreatQ10
import Derived.Test.YtmaiphibpdngnaaGreatK7
import Derived.Deep.RegionHeld3
namespace Go.Proofs.YtmaiphibpdngnaaGreat
set_option maxRecDepth 100000
open Go Go.RowKit

theorem bits_of {L : List Ino} {c what : Int} (h : mayL L c what = true) : 0 ≤ what ∧ what ≤ 7 ∧ liveB L c = true ∧ bitsB (nodeAt L c).mode what = true := by
  unfold mayL at h
  simp only [Bool.and_eq_true, decide_eq_true_eq] at h
  exact ⟨h.1.1.1, h.1.1.2, h.1.2, h.2⟩
theorem may_of {L : List Ino} {c what : Int} (h0 : 0 ≤ what) (h1 : what ≤ 7) (h2 : liveB L c = true) (h3 : bitsB (nodeAt L c).mode what = true) : mayL L c what = true := by
  unfold mayL
  rw [decide_eq_true h0, decide_eq_true h1, h2, h3]
  rfl
theorem dir_live6 {L : List Ino} {c : Int} (h : dirB L c = true) : liveB L c = true := by
  unfold dirB at h
  unfold liveB
  rw [Bool.and_eq_true] at h ⊢
  refine ⟨h.1, ?_⟩
  have := h.2
  rw [beq_iff_eq] at this
  rw [this]
  rfl
section
variable {L : List Ino} {m b : Int} {d k : Nat} {s : List UInt8}
theorem Takes.kidOf (h : Takes L m b d k s) {c : Int} {x : List UInt8} (h0 : 0 ≤ kidL (goneL L d k s) c x) : kidL L c x = kidL (goneL L d k s) c x := by
  have hc : dirB (goneL L d k s) c = true := by
    unfold kidL at h0
    by_cases e : dirB (goneL L d k s) c = true
    · exact e
    · rw [if_neg e] at h0
      exact absurd h0 (by decide)
  obtain ⟨j, rfl, hj⟩ := dir_lt hc
  have hj' := hj
  rw [gone_len] at hj'
  have hm := kid_mem hj h0
  rw [← node_nat _ j hj] at hm
  have hs := h.sub j hj' hm
  obtain ⟨i, hi, he⟩ := List.getElem_of_mem hs
  have := kid_of h.fit j hj' i hi
  rw [he] at this
  exact this
theorem Takes.modeOf (h : Takes L m b d k s) {c : Int} (hc : dirB (goneL L d k s) c = true) : (nodeAt (goneL L d k s) c).mode = (nodeAt L c).mode := by
  obtain ⟨h1, h2, -⟩ := h.isdir hc
  obtain ⟨j, rfl, hj⟩ := dir_lt h1
  have hjk : j ≠ k := fun e => h2 (by rw [e])
  rw [(h.at j hj hjk).2.2.2.1, node_nat L j hj]
theorem Takes.step (h : Takes L m b d k s) {a : Int} {x : List UInt8} {c : Int} (hs : stepW (goneL L d k s) a x = (c, 0)) : stepW L a x = (c, 0) ∧ liveB (goneL L d k s) c = true := by
  unfold stepW at hs
  split at hs
  · simp at hs
  rename_i h1
  have h1' : dirB (goneL L d k s) a = true := by simpa using h1
  obtain ⟨i1, i2, i3⟩ := h.isdir h1'
  split at hs
  · simp at hs
  rename_i h2
  have h2' : mayL (goneL L d k s) a 1 = true := by simpa using h2
  obtain ⟨b1, b2, b3, b4⟩ := bits_of h2'
  have hmay : mayL L a 1 = true := may_of b1 b2 (dir_live6 i1) (by rw [← h.modeOf h1']; exact b4)
  unfold stepW
  rw [if_neg (by rw [i1]; decide), if_neg (by rw [hmay]; decide)]
  split at hs
  · rename_i h3
    rw [if_pos h3]
    obtain ⟨rfl, -⟩ := Prod.mk.inj hs
    exact ⟨rfl, dir_live6 h1'⟩
  rename_i h3
  rw [if_neg h3]
  split at hs
  · rename_i h4
    rw [if_pos h4]
    obtain ⟨rfl, -⟩ := Prod.mk.inj hs
    rw [i3]
    refine ⟨rfl, ?_⟩
    have hu := ups_of h.fits 1 a h1'
    have : dirB (goneL L d k s) ((nodeAt (goneL L d k s) a).up) = true := hu
    rw [i3] at this
    exact dir_live6 this
  rename_i h4
  rw [if_neg h4]
  split at hs
  · simp at hs
  rename_i h5
  obtain ⟨rfl, -⟩ := Prod.mk.inj hs
  have h6 := h.kidOf (c := a) (x := x) (by omega)
  rw [if_neg (by omega), h6]
  exact ⟨rfl, kid_live h.fits (by omega)⟩
theorem Takes.alive (h : Takes L m b d k s) {c : Int} (hc : liveB (goneL L d k s) c = true) : (nodeAt (goneL L d k s) c).kind = (nodeAt L c).kind ∧ (nodeAt (goneL L d k s) c).data = (nodeAt L c).data := by
  obtain ⟨j, hj, rfl, hne⟩ := live_ino hc
  have hj' := hj
  rw [gone_len] at hj'
  by_cases e : j = k
  · subst e
    rw [← node_nat _ j hj, h.atK] at hne
    rw [h.atK, node_nat L j hj']
    unfold goneIno at hne ⊢
    split
    · rename_i h1
      rw [if_pos h1] at hne
      exact absurd rfl hne
    · exact ⟨rfl, rfl⟩
  · obtain ⟨a1, -, -, -, a5⟩ := h.at j hj' e
    rw [a1, a5, node_nat L j hj']
    exact ⟨rfl, rfl⟩
theorem Takes.way (h : Takes L m b d k s) (last : Bool) : ∀ (n : Nat) (N : List (List UInt8)) (a c : Int), wayW (goneL L d k s) last n N a = (c, 0) → wayW L last n N a = (c, 0) := by
  intro n
  induction n with
  | zero =>
    intro N
    induction N with
    | nil => intro a c hw; rw [wayW_nil] at hw ⊢; exact hw
    | cons x r ih =>
      intro a c hw
      obtain ⟨⟨y, e⟩, hy⟩ : ∃ q, stepW (goneL L d k s) a x = q := ⟨_, rfl⟩
      by_cases he : e = 0
      · subst he
        obtain ⟨s1, s2⟩ := h.step hy
        obtain ⟨a1, a2⟩ := h.alive s2
        by_cases hk : (nodeAt (goneL L d k s) y).kind ≠ 3 ∨ (r = [] ∧ last = false)
        · rw [wayW_on _ _ _ _ _ _ _ hy hk] at hw
          rw [wayW_on _ _ _ _ _ _ _ s1 (by rw [← a1]; exact hk)]
          exact ih y c hw
        · rw [wayW_loop _ _ _ _ _ _ hy hk] at hw
          simp at hw
      · rw [wayW_err _ _ _ _ _ _ (by rw [hy]; exact he), hy] at hw
        exact absurd (Prod.mk.inj hw).2 he
  | succ n ihn =>
    intro N
    induction N with
    | nil => intro a c hw; rw [wayW_nil] at hw ⊢; exact hw
    | cons x r ih =>
      intro a c hw
      obtain ⟨⟨y, e⟩, hy⟩ : ∃ q, stepW (goneL L d k s) a x = q := ⟨_, rfl⟩
      by_cases he : e = 0
      · subst he
        obtain ⟨s1, s2⟩ := h.step hy
        obtain ⟨a1, a2⟩ := h.alive s2
        by_cases hk : (nodeAt (goneL L d k s) y).kind ≠ 3 ∨ (r = [] ∧ last = false)
        · rw [wayW_on _ _ _ _ _ _ _ hy hk] at hw
          rw [wayW_on _ _ _ _ _ _ _ s1 (by rw [← a1]; exact hk)]
          exact ih y c hw
        · rw [wayW_link _ _ _ _ _ _ _ hy hk] at hw
          rw [wayW_link _ _ _ _ _ _ _ s1 (by rw [← a1]; exact hk), ← a2]
          exact ihn _ _ _ hw
      · rw [wayW_err _ _ _ _ _ _ (by rw [hy]; exact he), hy] at hw
        exact absurd (Prod.mk.inj hw).2 he
theorem Takes.par (h : Takes L m b d k s) {cwd : Int} {p : List UInt8} (hp : (parentW (goneL L d k s) cwd p).2.2 = 0) : parentW (goneL L d k s) cwd p = parentW L cwd p := by
  unfold parentW at hp ⊢
  split at hp
  · rename_i h1; exact absurd hp h1
  rename_i h1
  rw [if_neg h1]
  have hb : badW (goneL L d k s) cwd p = 0 := by simpa using h1
  have hbL : badW L cwd p = 0 := by
    unfold badW at hb ⊢
    split at hb
    · exact absurd hb (by decide)
    · rename_i h2
      have hd : dirB (goneL L d k s) cwd = true := by simpa using fun e => h2 (.inr e)
      rw [if_neg (by rintro (e | e); exact h2 (.inl e); rw [(h.isdir hd).1] at e; cases e)]
      exact hb
  rw [if_neg (show ¬ badW L cwd p ≠ 0 by simpa using hbL)]
  split at hp
  · exact absurd hp (by decide)
  rename_i h2
  rw [if_neg h2, if_neg h2]
  split at hp
  · rename_i h3; exact absurd hp h3
  rename_i h3
  obtain ⟨⟨c, e⟩, hw⟩ : ∃ q, wayW (goneL L d k s) true 8 (partsL p).dropLast (beginW cwd p) = q := ⟨_, rfl⟩
  rw [hw] at hp h3 ⊢
  obtain rfl : e = 0 := by simpa using h3
  rw [h.way _ _ _ _ _ hw]
  simp only [ne_eq, not_true_eq_false, if_false] at hp ⊢
  split at hp
  · exact absurd hp (by decide)
  rename_i h4
  have hd : dirB (goneL L d k s) c = true := by simpa using h4
  rw [if_neg h4, if_neg (by rw [(h.isdir hd).1]; decide)]
end

theorem named_flat {α : Type} (f g : List UInt8 × Int → List α) (s : List UInt8) (j k : Int) (h1 : f (s, j) = g (s, k)) : ∀ M : List (List UInt8 × Int), (∀ e ∈ M, f e = g e) → (namedL M s j).flatMap f = (namedL M s k).flatMap g
  | [], _ => by
    show [(s, j)].flatMap f = [(s, k)].flatMap g
    rw [List.flatMap_cons, List.flatMap_cons, h1]
    rfl
  | e :: r, h => by
    show (if Op.bytesLess e.1 s = true then e :: namedL r s j else _).flatMap f = (if Op.bytesLess e.1 s = true then e :: namedL r s k else _).flatMap g
    by_cases hl : Op.bytesLess e.1 s = true
    · rw [if_pos hl, if_pos hl, List.flatMap_cons, List.flatMap_cons, h e List.mem_cons_self, named_flat f g s j k h1 r fun x hx => h x (List.mem_cons_of_mem _ hx)]
    · rw [if_neg hl, if_neg hl, List.flatMap_cons, List.flatMap_cons, h1]
      congr 1
      exact flatMap_same _ _ _ fun x hx => h x (List.mem_filter.1 hx).1
section
variable {L : List Ino} {m b : Int} {d k : Nat} {s : List UInt8}
/-- Where a file's name is given again, the directories are the same. -/
theorem Takes.again2 (h : Takes L m b d k s) (hk : (L[k]'h.klt).kind ≠ 2) {j : Nat} (hj : j < L.length) (hf : (nodeAt (goneL L d k s) (j : Int)).kind = 0) {x : Ino} (hx : x.kind ≠ 2) (i : Nat) (hi : i < L.length) :
    (nodeAt (addL (goneL L d k s) d j s x) (i : Int)).kind = 2 ↔ (nodeAt L (i : Int)).kind = 2 := by
  have hd' : d < (goneL L d k s).length := by rw [gone_len]; exact h.dlt
  have hi' : i < (goneL L d k s).length := by rw [gone_len]; exact hi
  have hdj : d ≠ j := fun e => by
    subst e
    have := h.at d h.dlt h.ne
    rw [this.1, h.dir] at hf
    exact absurd hf (by decide)
  rw [add_node hd' s x i hi']
  by_cases e1 : d = i
  · subst e1
    rw [if_pos rfl]
    show ((goneL L d k s)[d]'hd').kind = 2 ↔ _
    rw [← node_nat _ d hd', (h.at d h.dlt h.ne).1, node_nat L d h.dlt]
  · rw [if_neg e1]
    by_cases e2 : j = i
    · subst e2
      rw [if_pos rfl, node_nat L j hj]
      refine ⟨fun e => absurd e hx, fun e => ?_⟩
      by_cases e3 : j = k
      · subst e3
        exact absurd e hk
      · rw [(h.at j hj e3).1, e] at hf
        exact absurd hf (by decide)
    · rw [if_neg e2, ← node_nat _ i hi']
      by_cases e3 : i = k
      · subst e3
        rw [h.atK, node_nat L i hi]
        refine ⟨fun e => ?_, fun e => absurd e hk⟩
        unfold goneIno at e
        split at e
        · exact absurd e (by decide)
        · exact absurd e hk
      · rw [(h.at i hi e3).1, node_nat L i hi]
theorem Takes.againGo (h : Takes L m b d k s) (hk : (L[k]'h.klt).kind ≠ 2) {j : Nat} (hj : j < L.length) (hf : (nodeAt (goneL L d k s) (j : Int)).kind = 0) {x : Ino} (hx : x.kind ≠ 2) : ∀ (n : Nat) (c : Int) (p : List UInt8), dirB L c = true → listGo (addL (goneL L d k s) d j s x) n c p = listGo L n c p
  | 0, _, _, _ => rfl
  | n + 1, c, p, hc => by
    obtain ⟨i, rfl, hi⟩ := dir_lt hc
    have hd' : d < (goneL L d k s).length := by rw [gone_len]; exact h.dlt
    have hi' : i < (goneL L d k s).length := by rw [gone_len]; exact hi
    have hik : i ≠ k := fun e => by
      subst e
      exact hk ((dir_nat hi).1 hc)
    have hij : j ≠ i := fun e => by
      subst e
      rw [(h.at j hj hik).1, (dir_nat hi).1 hc] at hf
      exact absurd hf (by decide)
    have sub : ∀ t : Nat, t < L.length → ∀ q, (if (nodeAt (addL (goneL L d k s) d j s x) (t : Int)).kind = 2 then listGo (addL (goneL L d k s) d j s x) n (t : Int) q else []) = if (nodeAt L (t : Int)).kind = 2 then listGo L n (t : Int) q else [] := fun t ht q => by
      by_cases e : (nodeAt L (t : Int)).kind = 2
      · rw [if_pos e, if_pos ((h.again2 hk hj hf hx t ht).2 e)]
        exact Takes.againGo h hk hj hf hx n _ _ ((dir_nat ht).2 (by rw [← node_nat L t ht]; exact e))
      · rw [if_neg e, if_neg (fun e2 => e ((h.again2 hk hj hf hx t ht).1 e2))]
    have one : ∀ e ∈ L[i].kids, listOne (addL (goneL L d k s) d j s x) n p e = listOne L n p e := fun e he => by
      obtain ⟨t, ht, htl⟩ := there_nat (name_of h.fit.ins hi he).2
      unfold listOne
      rw [ht, sub t htl]
    rw [list_succ, list_succ, add_node hd' s x i hi', node_nat L i hi]
    by_cases e1 : d = i
    · subst e1
      rw [if_pos rfl]
      show (namedL ((goneL L d k s)[d]'hd').kids s j).flatMap _ = _
      rw [← node_nat _ d hd', h.kids d h.dlt, if_pos rfl, ← named_back L[d].kids s k h.rises h.mem]
      rw [without_named (k : Int) without_new]
      refine named_flat _ _ s (j : Int) (k : Int) ?_ _ fun e he => one e (without_mem.1 he).1
      unfold listOne
      rw [sub j hj]
      have h1 : ¬ (nodeAt L (k : Int)).kind = 2 := by rw [node_nat L k h.klt]; exact hk
      have h2 : ¬ (nodeAt L (j : Int)).kind = 2 := fun e => by
        by_cases e3 : j = k
        · subst e3; exact h1 e
        · rw [(h.at j hj e3).1, ← node_nat L j hj, e] at hf
          exact absurd hf (by decide)
      rw [if_neg h2]
      show _ = _ :: (if (nodeAt L (k : Int)).kind = 2 then _ else [])
      rw [if_neg h1]
    · rw [if_neg e1, if_neg hij, ← node_nat _ i hi', h.kids i hi, if_neg e1]
      exact flatMap_same _ _ _ one
end
/-- A file is made again. -/
theorem again_ok {L : List Ino} {m b : Int} (hF : FitP L m b) {cwd : Int} {p : List UInt8} {Lu : List Ino} (hu : unlinkW L cwd p = (Lu, 0)) (hp : (parentW Lu cwd p).2.2 = 0) {Lv : List Ino} {kz f : Int} (hc : createW Lu cwd p 6 = (Lv, kz, f)) :
    f = 28 ∨ (f = 0 ∧ Lv.length = L.length ∧ FitP Lv m b ∧ listGo Lv (L.length + 1) 0 [] = listGo L (L.length + 1) 0 []) := by
  obtain ⟨d, k, s, hn, hT, hkd, hend, rfl⟩ := (unlink_ok hF hu).1 rfl
  have hpar : parentW (goneL L d k s) cwd p = ((d : Int), s, 0) := (hT.par hp).trans hn.par
  have hdu : dirB (goneL L d k s) (d : Int) = true := hT.dirs hT.dirD (by have := hT.ne; omega)
  have hmay : mayL (goneL L d k s) (d : Int) 3 = true := by
    obtain ⟨b1, b2, b3, b4⟩ := bits_of hn.may
    exact may_of b1 b2 (dir_live6 hdu) (by rw [hT.modeOf hdu]; exact b4)
  have hfr : freshW (goneL L d k s) cwd p false = ((d : Int), s, 0) := by
    unfold freshW
    rw [hpar]
    simp only
    rw [if_neg (by simp), if_neg (by rintro (e | e | e); exact hn.ndot.1 e; exact hn.ndot.2 e; have := hT.noKid; omega), if_neg (by rw [hT.name]; decide), if_neg (by rw [hmay]; decide), if_neg (by rw [hend]; rintro ⟨-, e⟩; cases e)]
  have hc0 := hc
  unfold createW at hc
  rw [if_neg (by decide), hfr] at hc
  simp only at hc
  rw [if_neg (by simp)] at hc
  unfold addedW at hc
  split at hc
  · cases hc; exact .inl rfl
  · split at hc
    · cases hc; exact .inl rfl
    · rename_i j hj
      cases hc
      refine .inr ⟨rfl, by rw [add_len, gone_len], ((create_made hT.fits hc0).1 rfl).2.fits, ?_⟩
      obtain ⟨-, h2, h3⟩ := free_some _ _ hj
      rw [gone_len] at h2
      have hk2 : (L[k]'hT.klt).kind ≠ 2 := fun e => by
        rw [(dir_nat hT.klt).2 e] at hkd
        cases hkd
      exact hT.againGo hk2 (by omega) h3 (by show (1 : Int) ≠ 2; decide) _ _ _ hF.root
end Go.Proofs.YtmaiphibpdngnaaGreat

namespace Go.Proofs.YtmaiphibpdngnaaGreat
set_option maxRecDepth 100000
open Go Go.RowKit

/-- The same fact at a world that differs by draws alone. -/
theorem below_next6 {n : Nat} {A B B' C : World} (h : Below n A B) (k : Below B'.heap.size B' C) (hn : n ≤ B.heap.size) (e : B'.os = B.os ∧ B'.tape = B.tape ∧ B'.output = B.output ∧ B'.heap = B.heap) : Below n A C := by
  have h' : Below n A B' := ⟨e.1.trans h.os, e.2.1.trans h.tape, e.2.2.1.trans h.output, by rw [e.2.2.2]; exact h.size, by rw [e.2.2.2]; exact h.block⟩
  exact h'.trans (k.mono (by rw [e.2.2.2]; exact hn))
theorem below_drew6 {n : Nat} {A B : World} (h : Below n A B) : Below n A B.drew := ⟨h.os, h.tape, h.output, h.size, h.block⟩

set_option maxHeartbeats 16000000 in
theorem dagain_walk (a : Option Addr) (cap : Nat) (m b cwd : Int) (pb : ByteArray) (hpb : pb.size ≤ 281474976710656) (L : List Ino) (hS : Sized L) (w : World) (hN : NodesIn w a cap L) :
    Calls Tryz.prog 7 #[.agg #[.slice a L.length cap, .int .i64 m, .int .i64 b], .int .i64 cwd, .string pb] w fun e w' => e = .returned (.bool true) ∧ Below w.heap.size w w' := by
  obtain ⟨w1, hw1⟩ : ∃ w1, w1 = w.alloc (.cells #[.slice a L.length cap, .int .i64 m, .int .i64 b] 24) := ⟨_, rfl⟩
  have hb1 : Below w.heap.size w w1 := by rw [hw1]; exact below_box w _
  have hX : w1.heap[w.heap.size]? = some (.cells #[.slice a L.length cap, .int .i64 m, .int .i64 b] 24 (0, 0)) := by rw [hw1]; exact new_block w _
  have hs1 : w1.heap.size = w.heap.size + 1 := by rw [hw1]; simp
  have HB := Lib.hid hb1
  obtain ⟨w2, hw2⟩ : ∃ w2, w2 = w1.alloc (.cells #[.string pb] 9) := ⟨_, rfl⟩
  have hb2 : Below w1.heap.size w1 w2 := by rw [hw2]; exact below_box w1 _
  have hs2 : w2.heap.size = w.heap.size + 2 := by rw [hw2, World.size_alloc, hs1]
  have hT2 : w2.heap[w.heap.size + 1]? = some (.cells #[.string pb] 9 (0, 0)) := by rw [hw2, ← hs1]; exact new_block w1 _
  have HX := Lib.hid (show ∀ W, Below w2.heap.size w2 W → W.cell? ⟨w.heap.size, 0, none⟩ = some (.slice a L.length cap) ∧ W.cell? ⟨w.heap.size, 1, none⟩ = some (.int .i64 m) ∧ W.cell? ⟨w.heap.size, 2, none⟩ = some (.int .i64 b) from fun W hW => by
    have h := (hW.block w.heap.size (by omega)).trans ((hb2.block w.heap.size (by omega)).trans hX)
    exact ⟨blk_cell h 0, blk_cell h 1, blk_cell h 2⟩)
  have HEND := Lib.hid (show ∀ W', Below w2.heap.size w2 W' → Below w.heap.size w W' from fun W' h => HB.out.trans ((hb2.trans (h.mono (by omega))).mono (by omega)))
  have HM := Lib.hid (show ∀ W', Below w2.heap.size w2 W' → NodesIn W' a cap L from fun W' h => hN.below (HB.out.trans ((hb2.trans (h.mono (by omega))).mono (by omega))))
  have HS := Lib.hid hS
  have hgood := good6_any a cap m b L hS [pb] (fun s hs => by
      simp only [List.mem_cons, List.not_mem_nil, or_false] at hs
      rw [hs]
      exact hpb) (by simp) (w.heap.size + 1) 1 w2 (HM.out w2 (Below.refl _ _)) (fun i hi => by
      match i, hi with
      | 0, _ => exact blk_cell hT2 0)
  have HGOOD := Lib.hid hgood
  clear hN hb1 hX hS hb2 hT2 hgood
  go_enter Tryz.func7, Tryz.ntmps7
  go_wp2_with fail
  rw [← hw1, ← hw2]
  clear hw1 hw2
  refine HGOOD.out.mono ?_
  rintro e w3 ⟨⟨v, rfl, hv⟩, hb3⟩
  have HV := Lib.hid hv
  have HB3 := Lib.hid hb3
  have hs3 := hb3.size
  obtain ⟨q0, q1, q2⟩ := HX.out _ hb3
  have hq := cell_lt q0
  clear hv hb3 HGOOD
  cases v with
  | false =>
    clear q0 q1 q2 hq
    go_wp2_with fail
    refine (awake6 _).mono ?_
    rintro e w4 ⟨rfl, hb4⟩
    have HB4 := Lib.hid (HB3.out.trans (hb4.mono hs3))
    clear hb4
    go_wp2_with fail
    go_ret
    exact ⟨rfl, HEND.out _ HB4.out⟩
  | true =>
    obtain ⟨hl, hF, hsz⟩ := HV.out rfl
    have HF := Lib.hid hF
    have hL0 : 0 < L.length := by have := hF.limits; obtain ⟨_, _, _, _, _⟩ := this; omega
    have hp3 : pb.size ≤ 1073741824 := by have := hsz pb (by simp); omega
    clear hsz hF HV HS
    have hw3 : w.heap.size + 2 ≤ w3.heap.size := by omega
    obtain ⟨⟨Lu, er⟩, hz⟩ : ∃ r, unlinkW L cwd pb.data.toList = r := ⟨_, rfl⟩
    have HZ := Lib.hid hz
    clear hz
    go_wp2_with fail
    clear q0 q1 q2 hq
    refine (lunlink_any _ _ _ _ cwd pb hp3 L HF.out Lu er HZ.out _ (HM.out _ HB3.out)).mono ?_
    rintro e w4 ⟨⟨g', c', he, hN4⟩, hb⟩
    have he' : e = .returned (.tuple #[.agg #[.slice g' Lu.length c', .int .i64 m, .int .i64 b], .int .i64 er]) := he
    subst he'
    have HB4 := Lib.hid (HB3.out.trans (hb.mono HB3.out.size))
    have HN4 := Lib.hid hN4
    have hs4 := hb.size
    clear he hN4 hb
    obtain ⟨w5, hw5⟩ : ∃ p, p = w4.alloc (.cells #[.slice g' Lu.length c', .int .i64 m, .int .i64 b] 24) := ⟨_, rfl⟩
    have hb5 : Below w4.heap.size w4 w5 := by rw [hw5]; exact below_box w4 _
    have hU : w5.heap[w4.heap.size]? = some (.cells #[.slice g' Lu.length c', .int .i64 m, .int .i64 b] 24 (0, 0)) := by rw [hw5]; exact new_block w4 _
    have hs5 : w4.heap.size + 1 ≤ w5.heap.size ∧ w5.heap.size ≤ w4.heap.size + 1 := by rw [hw5, World.size_alloc]; exact ⟨Nat.le_refl _, Nat.le_refl _⟩
    have HB5 := Lib.hid (HB4.out.trans (hb5.mono HB4.out.size))
    have HN5 := Lib.hid (HN4.out.below hb5)
    have HU := Lib.hid (show ∀ W, Below w5.heap.size w5 W → (W.cell? ⟨w4.heap.size, 0, none⟩ = some (.slice g' Lu.length c') ∧ W.cell? ⟨w4.heap.size, 1, none⟩ = some (.int .i64 m) ∧ W.cell? ⟨w4.heap.size, 2, none⟩ = some (.int .i64 b)) ∧ NodesIn W g' c' Lu from fun W hW => by
      have h := (hW.block w4.heap.size (by omega)).trans hU
      exact ⟨⟨blk_cell h 0, blk_cell h 1, blk_cell h 2⟩, HN5.out.below hW⟩)
    have HC5 := Lib.hid (Below.refl w5.heap.size w5)
    have HBZ := HC5
    clear hb5 hU HN4
    by_cases h1 : er = 0
    case neg =>
      have hb1 : (er != 0) = true := by simpa using h1
      go_upto_region 4 with fail
      rw [← hw5]
      clear hw5
      go_wp2_with (first | (go_at_call 9; refine (awake6 _).mono ?_; rintro e wz ⟨rfl, hb⟩; have HBZ := Lib.hid (HBZ.out.trans (hb.mono HBZ.out.size)); clear hb) | fail)
      go_ret
      exact ⟨by rfl, HEND.out _ (HB5.out.trans (HBZ.out.mono HB5.out.size))⟩
    subst h1
    have HFU := Lib.hid (show FitP Lu m b by
      obtain ⟨d, k, s, -, hT, -, -, h⟩ := (unlink_ok HF.out HZ.out).1 rfl
      rw [h]
      exact hT.fits)
    have HLU := Lib.hid (show Lu.length = L.length from unlink_len HF.out HZ.out)
    have hl3 : Lu.length ≤ 300 := by rw [HLU.out]; omega
    have HL3 := Lib.hid hl3
    obtain ⟨⟨z, s, g⟩, hp⟩ : ∃ r, parentW Lu cwd pb.data.toList = r := ⟨_, rfl⟩
    obtain ⟨⟨Lv, kz, f⟩, hc⟩ : ∃ r, createW Lu cwd pb.data.toList 6 = r := ⟨_, rfl⟩
    have HP := Lib.hid hp
    have HCR := Lib.hid hc
    clear hp hc hl3
    go_upto_region 4 with fail
    rw [← hw5]
    clear hw5
    obtain ⟨u0, u1, u2⟩ := (HU.out _ HC5.out).1
    have hu := cell_lt u0
    go_wp2_with (first | (go_at_call 18; refine (rfit_yes6 _ _ m b Lu HL3.out HFU.out _ HN5.out).mono ?_; rintro e w6 ⟨rfl, hb⟩; have HC6 := Lib.hid hb; clear hb u0 u1 u2 hu; obtain ⟨u0, u1, u2⟩ := (HU.out _ HC6.out).1; have hu := cell_lt u0) | fail)
    refine (rparent6 _ _ _ _ _ _ hp3 Lu HFU.out _ _ _ HP.out _ (HU.out _ HC6.out).2).mono ?_
    rintro e w7 ⟨rfl, hb⟩
    have HC7 := Lib.hid (HC6.out.trans (hb.mono HC6.out.size))
    have HBZ := HC7
    clear hb u0 u1 u2 hu
    by_cases h2 : g = 0
    case neg =>
      have hb2 : (g != 0) = true := by simpa using h2
      go_wp2_with (first | (go_at_call 9; refine (awake6 _).mono ?_; rintro e wz ⟨rfl, hb⟩; have HBZ := Lib.hid (HBZ.out.trans (hb.mono HBZ.out.size)); clear hb) | fail)
      go_ret
      exact ⟨by rfl, HEND.out _ (HB5.out.trans (HBZ.out.mono HB5.out.size))⟩
    subst h2
    have HAG := Lib.hid (again_ok HF.out HZ.out (by rw [HP.out]) HCR.out)
    obtain ⟨u0, u1, u2⟩ := (HU.out _ HC7.out).1
    have hu := cell_lt u0
    go_wp2_with fail
    clear u0 u1 u2 hu
    refine (rcreate_any _ _ _ _ cwd 6 pb hp3 Lu HFU.out Lv kz f HCR.out _ (HU.out _ HC7.out).2).mono ?_
    rintro e w8 ⟨⟨gv, cv, he, hN8⟩, hb⟩
    have he' : e = .returned (.tuple #[.agg #[.slice gv Lv.length cv, .int .i64 m, .int .i64 b], .int .i64 kz, .int .i64 f]) := he
    subst he'
    have HC8 := Lib.hid (HC7.out.trans (hb.mono HC7.out.size))
    have HN8 := Lib.hid hN8
    have hs8 := HC8.out.size
    clear he hN8 hb
    obtain ⟨w9, hw9⟩ : ∃ p, p = w8.alloc (.cells #[.slice gv Lv.length cv, .int .i64 m, .int .i64 b] 24) := ⟨_, rfl⟩
    have hb9 : Below w8.heap.size w8 w9 := by rw [hw9]; exact below_box w8 _
    have KV := Lib.hid (show w9.heap[w8.heap.size]? = some (.cells #[.slice gv Lv.length cv, .int .i64 m, .int .i64 b] 24 (0, 0)) by rw [hw9]; exact new_block w8 _)
    have HC9 := Lib.hid (HC8.out.trans (hb9.mono HC8.out.size))
    have HB9 := Lib.hid (HB5.out.trans (HC9.out.mono HB5.out.size))
    have HN9 := Lib.hid (HN8.out.below hb9)
    have HVV := Lib.hid (show ∀ W, Below w9.heap.size w9 W → W.cell? ⟨w8.heap.size, 0, none⟩ = some (.slice gv Lv.length cv) ∧ W.cell? ⟨w8.heap.size, 1, none⟩ = some (.int .i64 m) ∧ W.cell? ⟨w8.heap.size, 2, none⟩ = some (.int .i64 b) from fun W hW => by
      have h := (hW.block w8.heap.size (lt_of_block KV.out)).trans KV.out
      exact ⟨blk_cell h 0, blk_cell h 1, blk_cell h 2⟩)
    have HBZ := HC9
    clear hb9 HN8
    go_upto_region 10 with fail
    rw [← hw9]
    clear hw9
    by_cases h3 : f = 28
    · subst h3
      go_wp2_with (first | (go_at_call 9; refine (awake6 _).mono ?_; rintro e wz ⟨rfl, hb⟩; have HBZ := Lib.hid (HBZ.out.trans (hb.mono HBZ.out.size)); clear hb) | fail)
      go_ret
      exact ⟨by rfl, HEND.out _ (HB5.out.trans (HBZ.out.mono HB5.out.size))⟩
    have hb3 : (f == 28) = false := by simpa using h3
    have hag : f = 0 ∧ Lv.length = L.length ∧ FitP Lv m b ∧ listGo Lv (L.length + 1) 0 [] = listGo L (L.length + 1) 0 [] := by
      rcases HAG.out with h | h
      · exact absurd h h3
      · exact h
    obtain ⟨rfl, hlv, hfv, hls⟩ := hag
    obtain ⟨X, hX⟩ : ∃ X, listGo L (L.length + 1) 0 [] = X := ⟨_, rfl⟩
    have HXT := Lib.hid (show ∀ W, Below w9.heap.size w9 W → Calls Tryz.prog 21 #[.agg #[.slice a L.length cap, .int .i64 m, .int .i64 b]] W fun e W' => ∃ v, e = .returned v ∧ Texts W.heap.size W' v X ∧ Below W.heap.size W W' from fun W hW => rlist6_known _ cap m b L hl HF.out X hX W (HM.out _ (HB9.out.trans (hW.mono HB9.out.size))))
    have HXV := Lib.hid (show ∀ W, Below w9.heap.size w9 W → Calls Tryz.prog 21 #[.agg #[.slice gv Lv.length cv, .int .i64 m, .int .i64 b]] W fun e W' => ∃ v, e = .returned v ∧ Texts W.heap.size W' v X ∧ Below W.heap.size W W' from fun W hW => rlist6_known _ cv m b Lv (by rw [hlv]; exact hl) hfv X (by rw [hlv, hls, hX]) W (HN9.out.below hW))
    have HBB := Lib.hid (Below.refl w9.heap.size w9)
    obtain ⟨q0, q1, q2⟩ := HX.out _ HB9.out
    have hq := cell_lt q0
    obtain ⟨u0, u1, u2⟩ := HVV.out _ HBB.out
    have hu := cell_lt u0
    clear h3 hlv hfv hls hX HAG HBZ
    go_upto_region 12 with fail
    go_region_held3 (fun W => W.cell? ⟨w.heap.size, 0, none⟩ = some (.slice a L.length cap) ∧ W.cell? ⟨w.heap.size, 1, none⟩ = some (.int .i64 m) ∧ W.cell? ⟨w.heap.size, 2, none⟩ = some (.int .i64 b) ∧ W.cell? ⟨w8.heap.size, 0, none⟩ = some (.slice gv Lv.length cv) ∧ W.cell? ⟨w8.heap.size, 1, none⟩ = some (.int .i64 m) ∧ W.cell? ⟨w8.heap.size, 2, none⟩ = some (.int .i64 b))
      (exact ⟨q0, q1, q2, u0, u1, u2⟩)
      (first
        | (go_at_call 21; with_reducible (show Calls _ _ #[.agg #[.slice gv _ _, _, _]] _ _); refine (HXV.out _ ?_).mono ?_; (first | exact HBB.out | exact below_drew6 HBB.out); rintro e wn ⟨v1, rfl, hT1, hbn⟩; obtain ⟨a1, c1, rfl, -, -⟩ := hT1.slot3; have HT1 := Lib.hid hT1; have HBB : Hid (Below w9.heap.size w9 wn) := Lib.hid (below_next6 HBB.out hbn HBB.out.size ⟨rfl, rfl, rfl, rfl⟩); obtain ⟨q0, q1, q2⟩ := HX.out _ (HB9.out.trans (HBB.out.mono HB9.out.size)); obtain ⟨u0, u1, u2⟩ := HVV.out _ HBB.out)
        | (go_at_call 21; with_reducible (show Calls _ _ #[.agg #[.slice a _ _, _, _]] _ _); refine (HXT.out _ ?_).mono ?_; (first | exact HBB.out | exact below_drew6 HBB.out); rintro e wn ⟨v2, rfl, hT2, hbn⟩; obtain ⟨a2, c2, rfl, -, -⟩ := hT2.slot3; have HT2 := Lib.hid hT2; have HBB : Hid (Below w9.heap.size w9 wn) := Lib.hid (below_next6 HBB.out hbn HBB.out.size ⟨rfl, rfl, rfl, rfl⟩); obtain ⟨q0, q1, q2⟩ := HX.out _ (HB9.out.trans (HBB.out.mono HB9.out.size)); obtain ⟨u0, u1, u2⟩ := HVV.out _ HBB.out; (try have HT1 : Hid (Texts _ wn _ X) := Lib.hid (Texts.below HT1.out ⟨hbn.os, hbn.tape, hbn.output, hbn.size, hbn.block⟩)))
        | (go_at_call 22; refine (rsame6_yes X _ _ _ _ _ HT1.out HT2.out).mono ?_; rintro e wn ⟨rfl, hbn⟩; have HBB : Hid (Below w9.heap.size w9 wn) := Lib.hid (below_next6 HBB.out hbn HBB.out.size ⟨rfl, rfl, rfl, rfl⟩); obtain ⟨q0, q1, q2⟩ := HX.out _ (HB9.out.trans (HBB.out.mono HB9.out.size)); obtain ⟨u0, u1, u2⟩ := HVV.out _ HBB.out)
        | (go_at_call 9; refine (awake6 _).mono ?_; rintro e wn ⟨rfl, hbn⟩; have HBB : Hid (Below w9.heap.size w9 wn) := Lib.hid (below_next6 HBB.out hbn HBB.out.size ⟨rfl, rfl, rfl, rfl⟩); obtain ⟨q0, q1, q2⟩ := HX.out _ (HB9.out.trans (HBB.out.mono HB9.out.size)); obtain ⟨u0, u1, u2⟩ := HVV.out _ HBB.out))
    all_goals
      go_wp2_with fail
      go_ret
      exact ⟨rfl, HEND.out _ (HB9.out.trans (HBB.out.mono HB9.out.size))⟩

end Go.Proofs.YtmaiphibpdngnaaGreat
