/-
  Plain laws on the order of names, and on looking one up in names that rise.
  Rows of texts that lie anywhere in a block: read, cut, appended to; the block of a way, and what its calls leave as it was.
-/
import Derived.Lib.Bytealg
import Derived.Test.YtclhpedecimicaaGreatK4
import Derived.Deep.AppendSrc
import Derived.RangeFuncBox
import Derived.RangeFuncWrites
import Derived.Lib.Hide
import Derived.Test.YtclhpedecimicaaGreatK7
import Derived.Test.YtclhpedecimicaaGreatTrees
namespace Go.Proofs.YtclhpedecimicaaGreat
set_option maxRecDepth 100000
open Go Go.RowKit

theorem less_irrefl : ∀ a : List UInt8, Op.bytesLess a a = false
  | [] => rfl
  | c :: r => by
    simp only [Op.bytesLess, less_irrefl r, Bool.and_false, Bool.or_false, decide_eq_false_iff_not]
    exact UInt8.lt_irrefl c
theorem less_trans : ∀ a b c : List UInt8, Op.bytesLess a b = true → Op.bytesLess b c = true → Op.bytesLess a c = true
  | _, [], _, h, _ => by simp [Op.bytesLess] at h
  | _, _ :: _, [], _, h => by simp [Op.bytesLess] at h
  | [], _ :: _, _ :: _, _, _ => rfl
  | x :: a, y :: b, z :: c, h1, h2 => by
    simp only [Op.bytesLess, Bool.or_eq_true, decide_eq_true_eq, Bool.and_eq_true, beq_iff_eq] at h1 h2 ⊢
    rcases h1 with h1 | ⟨rfl, h1⟩
    · rcases h2 with h2 | ⟨rfl, h2⟩
      · exact Or.inl (UInt8.lt_trans h1 h2)
      · exact Or.inl h1
    · rcases h2 with h2 | ⟨rfl, h2⟩
      · exact Or.inl h2
      · exact Or.inr ⟨rfl, less_trans a b c h1 h2⟩
theorem cmp_cases : ∀ a b : List UInt8, (Lib.compareBytes a b = -1 ∧ Op.bytesLess a b = true) ∨ (Lib.compareBytes a b = 0 ∧ a = b) ∨ (Lib.compareBytes a b = 1 ∧ Op.bytesLess b a = true)
  | [], [] => Or.inr (Or.inl ⟨rfl, rfl⟩)
  | [], _ :: _ => Or.inl ⟨rfl, rfl⟩
  | _ :: _, [] => Or.inr (Or.inr ⟨rfl, rfl⟩)
  | x :: a, y :: b => by
    simp only [Lib.compareBytes, Op.bytesLess, Bool.or_eq_true, decide_eq_true_eq, Bool.and_eq_true, beq_iff_eq]
    by_cases h1 : x < y
    · rw [if_pos h1]
      exact Or.inl ⟨rfl, Or.inl h1⟩
    · rw [if_neg h1]
      by_cases h2 : y < x
      · rw [if_pos h2]
        exact Or.inr (Or.inr ⟨rfl, Or.inl h2⟩)
      · rw [if_neg h2]
        have e : x = y := by
          apply UInt8.toNat_inj.1
          have a1 : ¬ x.toNat < y.toNat := h1
          have a2 : ¬ y.toNat < x.toNat := h2
          omega
        subst e
        rcases cmp_cases a b with ⟨h, h'⟩ | ⟨h, rfl⟩ | ⟨h, h'⟩
        · exact Or.inl ⟨h, Or.inr ⟨rfl, h'⟩⟩
        · exact Or.inr (Or.inl ⟨h, rfl⟩)
        · exact Or.inr (Or.inr ⟨h, Or.inr ⟨rfl, h'⟩⟩)
theorem cmp_less {a b : List UInt8} : Lib.compareBytes a b < 0 ↔ Op.bytesLess a b = true := by
  rcases cmp_cases a b with ⟨h, h'⟩ | ⟨h, rfl⟩ | ⟨h, h'⟩
  · simp [h, h']
  · simp [h, less_irrefl]
  · constructor
    · intro h2; omega
    · intro h2
      have := less_trans a b a h2 h'
      rw [less_irrefl] at this
      cases this
theorem cmp_zero {a b : List UInt8} : Lib.compareBytes a b = 0 ↔ a = b := by
  rcases cmp_cases a b with ⟨h, h'⟩ | ⟨h, rfl⟩ | ⟨h, h'⟩
  · constructor
    · intro h2; omega
    · rintro rfl; rw [less_irrefl] at h'; cases h'
  · simp [h]
  · constructor
    · intro h2; omega
    · rintro rfl; rw [less_irrefl] at h'; cases h'
theorem cmp_le1 (a b : List UInt8) : -1 ≤ Lib.compareBytes a b ∧ Lib.compareBytes a b ≤ 1 := by
  rcases cmp_cases a b with ⟨h, _⟩ | ⟨h, _⟩ | ⟨h, _⟩ <;> omega

/-- Names that rise. -/
def Rises (M : List (List UInt8 × Int)) : Prop := ∀ k (h : k < M.length), ∀ t (ht : k = t + 1), Op.bytesLess (M[t]'(by omega)).1 M[k].1 = true
theorem Rises.lt {M : List (List UInt8 × Int)} (h : Rises M) (i : Nat) : ∀ (j : Nat) (hj : j < M.length) (hij : i < j), Op.bytesLess (M[i]'(by omega)).1 M[j].1 = true := by
  intro j
  induction j with
  | zero => intro _ h; omega
  | succ j ih =>
    intro hj hij
    have h1 := h (j + 1) hj j rfl
    by_cases e : i = j
    · subst e
      exact h1
    · exact less_trans _ _ _ (ih (by omega) (by omega)) h1

theorem findK_none (M : List (List UInt8 × Int)) (s : List UInt8) (h : ∀ k (hk : k < M.length), M[k].1 ≠ s) : findK M s = -1 := by
  induction M with
  | nil => rfl
  | cons e r ih =>
    unfold findK
    rw [if_neg (show e.1 ≠ s from h 0 (Nat.succ_pos _))]
    exact ih (fun k hk => h (k + 1) (Nat.succ_lt_succ hk))
theorem findK_some (M : List (List UInt8 × Int)) (s : List UInt8) (i : Nat) (hi : i < M.length) (hs : M[i].1 = s) (h : ∀ k (hk : k < i), (M[k]'(by omega)).1 ≠ s) : findK M s = M[i].2 := by
  induction M generalizing i with
  | nil => exact absurd hi (Nat.not_lt_zero _)
  | cons e r ih =>
    unfold findK
    cases i with
    | zero =>
      rw [if_pos (show e.1 = s from hs)]
      rfl
    | succ i =>
      rw [if_neg (show e.1 ≠ s from h 0 (Nat.succ_pos _))]
      exact ih i (Nat.lt_of_succ_lt_succ hi) hs (fun k hk => h (k + 1) (Nat.succ_lt_succ hk))
/-- In names that rise what stands at the first place that is not ahead of a name is it, or there is none. -/
theorem findK_at {M : List (List UInt8 × Int)} (h : Rises M) (s : List UInt8) (i : Nat) (h1 : ∀ k (hk : k < M.length), k < i → Op.bytesLess M[k].1 s = true) (h2 : ∀ k (hk : k < M.length), i ≤ k → Op.bytesLess M[k].1 s = false) :
    (∀ hi : i < M.length, M[i].1 = s → findK M s = M[i].2) ∧ ((∀ hi : i < M.length, M[i].1 ≠ s) → findK M s = -1) := by
  have ha : ∀ k (hk : k < M.length), k < i → M[k].1 ≠ s := fun k hk hki e => by
    have := h1 k hk hki
    rw [e, less_irrefl] at this
    cases this
  refine ⟨fun hi e => findK_some M s i hi e (fun k hk => ha k (by omega) hk), fun hn => findK_none M s (fun k hk => ?_)⟩
  by_cases hki : k < i
  · exact ha k hk hki
  · by_cases e : k = i
    · subst e
      exact hn hk
    · intro es
      have h3 := h.lt i k hk (by omega)
      rw [es] at h3
      rw [h2 i (by omega) (Nat.le_refl _)] at h3
      cases h3
end Go.Proofs.YtclhpedecimicaaGreat

namespace Go.Proofs.YtclhpedecimicaaGreat
set_option maxRecDepth 100000
open Go Go.RowKit

/-- The slice v reads as the texts L. -/
def View (w : World) (v : Value) (L : List (List UInt8)) : Prop :=
  ∃ a cap, v = .slice a L.length cap ∧ L.length ≤ cap ∧ cap ≤ maxLen ∧ ∀ i (hi : i < L.length), ∃ b o, a = some ⟨b, o, none⟩ ∧ w.cell? ⟨b, o + i, none⟩ = some (strv L[i])
/-- The slice v holds the texts L in a row of one's own, from block B on. -/
def Held (B : Nat) (w : World) (v : Value) (L : List (List UInt8)) : Prop :=
  (v = .slice none 0 0 ∧ L = []) ∨ ∃ g o cap cur, v = .slice (some ⟨g, o, none⟩) L.length cap ∧ B ≤ g ∧ L.length ≤ cap ∧ cap ≤ maxLen ∧ w.heap[g]? = some (.cells cur 9 (0, 0)) ∧ o + cap ≤ cur.size ∧ ∀ i (hi : i < L.length), cur[o + i]? = some (strv L[i])

theorem cell_in {w : World} {g i : Nat} {cur : Array Value} {t : TypeId} {fr : Nat × Nat} {u : Value} (h : w.heap[g]? = some (.cells cur t fr)) (hi : cur[i]? = some u) : w.cell? ⟨g, i, none⟩ = some u := by
  simp only [World.cell?, h]
  simpa using hi

theorem Held.view {B : Nat} {w : World} {v : Value} {L : List (List UInt8)} (h : Held B w v L) : View w v L := by
  rcases h with ⟨rfl, rfl⟩ | ⟨g, o, cap, cur, rfl, -, h2, h3, h4, -, h6⟩
  · exact ⟨none, 0, rfl, Nat.le_refl _, Nat.zero_le _, fun i hi => absurd hi (Nat.not_lt_zero _)⟩
  · exact ⟨_, cap, rfl, h2, h3, fun i hi => ⟨g, o, rfl, cell_in h4 (h6 i hi)⟩⟩
theorem Texts.held {B : Nat} {w : World} {v : Value} {L : List (List UInt8)} (h : Texts B w v L) : Held B w v L := by
  obtain ⟨h1, h2 | ⟨g, cap, cur, rfl, hg, hh, hn, hm, hs, ht⟩⟩ := h
  · obtain ⟨rfl, hn⟩ := h2
    exact Or.inl ⟨rfl, List.length_eq_zero_iff.1 hn⟩
  · refine Or.inr ⟨g, 0, cap, cur, rfl, hg, hn, hm, hh, by omega, fun i hi => ?_⟩
    have e1 : (cur.toList.take (L.length * 1))[i]? = (L.map strv)[i]? := by rw [ht]
    rw [List.getElem?_take, if_pos (by omega), List.getElem?_map, List.getElem?_eq_getElem hi] at e1
    rw [Nat.zero_add, ← Array.getElem?_toList]
    exact e1
theorem Texts.view {B : Nat} {w : World} {v : Value} {L : List (List UInt8)} (h : Texts B w v L) : View w v L := h.held.view
theorem View.below {w w' : World} {v : Value} {L : List (List UInt8)} (h : View w v L) (hb : Below w.heap.size w w') : View w' v L := by
  obtain ⟨a, cap, h1, h2, h3, h4⟩ := h
  refine ⟨a, cap, h1, h2, h3, fun i hi => ?_⟩
  obtain ⟨b, o, e1, e2⟩ := h4 i hi
  exact ⟨b, o, e1, cell_below hb e2⟩
theorem Held.kept {B : Nat} {w w' : World} {v : Value} {L : List (List UInt8)} (h : Held B w v L) (hk : ∀ g, v.ownBlock = some g → w'.heap[g]? = w.heap[g]?) : Held B w' v L := by
  rcases h with h | ⟨g, o, cap, cur, rfl, h1, h2, h3, h4, h5, h6⟩
  · exact Or.inl h
  · exact Or.inr ⟨g, o, cap, cur, rfl, h1, h2, h3, (hk g rfl).trans h4, h5, h6⟩
theorem Held.less {B B' : Nat} {w : World} {v : Value} {L : List (List UInt8)} (h : Held B w v L) (hB : B' ≤ B) : Held B' w v L := by
  rcases h with h | ⟨g, o, cap, cur, rfl, h1, h2⟩
  · exact Or.inl h
  · exact Or.inr ⟨g, o, cap, cur, rfl, by omega, h2⟩
theorem Held.own {B : Nat} {w : World} {v : Value} {L : List (List UInt8)} (h : Held B w v L) {g : Nat} (hg : v.ownBlock = some g) : B ≤ g ∧ ∃ cur, w.heap[g]? = some (.cells cur 9 (0, 0)) := by
  rcases h with ⟨rfl, -⟩ | ⟨g', o, cap, cur, rfl, h1, -, -, h4, -⟩
  · cases hg
  · obtain rfl : g' = g := by simpa [Value.ownBlock] using hg
    exact ⟨h1, cur, h4⟩
/-- The first or the last one is cut off. -/
theorem Held.tail {B : Nat} {w : World} {x : List UInt8} {L : List (List UInt8)} {g o cap : Nat} (h : Held B w (.slice (some ⟨g, o, none⟩) (L.length + 1) cap) (x :: L)) : Held B w (.slice (if cap = 1 then some ⟨g, o, none⟩ else some ⟨g, o + 1, none⟩) L.length (cap - 1)) L := by
  rcases h with ⟨h, -⟩ | ⟨g', o', cap', cur, e, h1, h2, h3, h4, h5, h6⟩
  · cases h
  · simp only [Value.slice.injEq, Option.some.injEq, Addr.mk.injEq, List.length_cons] at e h2
    obtain ⟨⟨rfl, rfl, -⟩, -, rfl⟩ := e
    by_cases hc : cap = 1
    · rw [if_pos hc]
      have h0 : L = [] := List.length_eq_zero_iff.1 (by omega)
      subst h0
      exact Or.inr ⟨g, o, cap - 1, cur, rfl, h1, by simp, by unfold maxLen at *; omega, h4, by omega, fun i hi => absurd hi (Nat.not_lt_zero _)⟩
    · rw [if_neg hc]
      refine Or.inr ⟨g, o + 1, cap - 1, cur, rfl, h1, by omega, by unfold maxLen at *; omega, h4, by omega, fun i hi => ?_⟩
      have := h6 (i + 1) (by simp only [List.length_cons]; omega)
      rw [show o + 1 + i = o + (i + 1) by omega, this]
      rfl
theorem Held.init {B : Nat} {w : World} {x : List UInt8} {L : List (List UInt8)} {g o cap : Nat} (h : Held B w (.slice (some ⟨g, o, none⟩) (L.length + 1) cap) (L ++ [x])) : Held B w (.slice (some ⟨g, o, none⟩) L.length cap) L := by
  rcases h with ⟨h, -⟩ | ⟨g', o', cap', cur, e, h1, h2, h3, h4, h5, h6⟩
  · cases h
  · simp only [Value.slice.injEq, Option.some.injEq, Addr.mk.injEq, List.length_append, List.length_cons, List.length_nil] at e h2
    obtain ⟨⟨rfl, rfl, -⟩, -, rfl⟩ := e
    refine Or.inr ⟨g, o, cap, cur, rfl, h1, by omega, h3, h4, h5, fun i hi => ?_⟩
    have := h6 i (by simp only [List.length_append, List.length_cons, List.length_nil]; omega)
    rw [this, List.getElem_append_left hi]
theorem View.tail {w : World} {x : List UInt8} {L : List (List UInt8)} {b o cap : Nat} (h : View w (.slice (some ⟨b, o, none⟩) (L.length + 1) cap) (x :: L)) : View w (.slice (if cap = 1 then some ⟨b, o, none⟩ else some ⟨b, o + 1, none⟩) L.length (cap - 1)) L := by
  obtain ⟨a, cap', e, h1, h2, h3⟩ := h
  simp only [Value.slice.injEq, List.length_cons] at e h1
  obtain ⟨rfl, -, rfl⟩ := e
  refine ⟨_, cap - 1, rfl, by omega, by unfold maxLen at *; omega, fun i hi => ?_⟩
  obtain ⟨b', o', e1, e2⟩ := h3 (i + 1) (by simp only [List.length_cons]; omega)
  simp only [Option.some.injEq, Addr.mk.injEq] at e1
  obtain ⟨rfl, rfl, -⟩ := e1
  refine ⟨b, o + 1, by rw [if_neg (by omega)], ?_⟩
  rw [show o + 1 + i = o + (i + 1) by omega, e2]
  rfl
theorem View.init {w : World} {x : List UInt8} {L : List (List UInt8)} {b o cap : Nat} (h : View w (.slice (some ⟨b, o, none⟩) (L.length + 1) cap) (L ++ [x])) : View w (.slice (some ⟨b, o, none⟩) L.length cap) L := by
  obtain ⟨a, cap', e, h1, h2, h3⟩ := h
  simp only [Value.slice.injEq, List.length_append, List.length_cons, List.length_nil] at e h1
  obtain ⟨rfl, -, rfl⟩ := e
  refine ⟨_, cap, rfl, by omega, h2, fun i hi => ?_⟩
  obtain ⟨b', o', e1, e2⟩ := h3 i (by simp only [List.length_append, List.length_cons, List.length_nil]; omega)
  refine ⟨b', o', e1, ?_⟩
  rw [e2, List.getElem_append_left hi]

theorem add_n (b o n : Nat) : (⟨b, o, none⟩ : Addr).add n = ⟨b, o + n, none⟩ := by
  unfold Addr.add
  split
  · rename_i h
    rw [h]
    rfl
  · rfl
theorem View.src {w : World} {x : Value} {L : List (List UInt8)} (h : View w x L) : Src Tryz.prog 1 29 x L.length (L.map strv) w := by
  obtain ⟨a, cap, rfl, h1, h2, h3⟩ := h
  cases a with
  | none =>
    have h0 : L = [] := by
      cases L with
      | nil => rfl
      | cons y r =>
        obtain ⟨b, o, e, -⟩ := h3 0 (by simp)
        cases e
    subst h0
    exact Src.ofNil w Tryz.underlying29 cap
  | some a =>
    refine Src.ofSlice w Tryz.underlying29 a L.length cap _ (by simp) (fun j u hu => ?_) (fun u hu => ?_)
    · rw [List.getElem?_map] at hu
      by_cases hj : j < L.length
      · rw [List.getElem?_eq_getElem hj] at hu
        obtain ⟨b, o, e, hc⟩ := h3 j hj
        simp only [Option.some.injEq] at e
        subst e
        rw [add_n, hc]
        exact hu
      · rw [List.getElem?_eq_none (by omega)] at hu
        cases hu
    · obtain ⟨z, -, rfl⟩ := List.mem_map.1 hu
      rfl

theorem info_str : ∃ i, Tryz.prog.info? 9 = some i ∧ i.zero = some (.string ByteArray.empty) ∧ i.size = 1 ∧ i.bytes = 16 := info_parts infoS

/-- append. -/
theorem run_append_held {B : Nat} {w : World} {v x : Value} {L L2 : List (List UInt8)} (h : Held B w v L) (hx : View w x L2) (hn : L.length + L2.length ≤ 1048576) (hB : B ≤ w.heap.size) (ty : TypeId) :
    ∃ v' w', (Builtin.append_ #[29, 29] ty #[v, x]).run Tryz.prog w = .ok v' w' ∧ Held B w' v' (L ++ L2) ∧ w.grownBy w' v.ownBlock ∧ ∀ k, v'.ownBlock = some k → v.ownBlock = some k ∨ w.heap.size ≤ k := by
  obtain ⟨i0, hi, hz0, hz1, hz2⟩ := info_str
  have hs := hx.src
  rw [← hz1] at hs
  have hlen : (L2.map strv).length = L2.length := by simp
  have hcell : ∀ i (hi : i < (L ++ L2).length), (L.map strv ++ L2.map strv)[i]? = some (strv (L ++ L2)[i]) := fun i hi => by
    rw [← List.map_append, List.getElem?_map, List.getElem?_eq_getElem hi]
    rfl
  -- a new row
  have grow : ∀ (base : Option Addr) (sCap : Nat) (row : Option Nat), sCap < L.length + L2.length → (Builtin.firstCells i0.size L.length (.slice base L.length sCap)).run Tryz.prog w.drew = .ok (L.map strv).toArray w.drew →
      ∃ v' w', (Builtin.append_ #[29, 29] ty #[.slice base L.length sCap, x]).run Tryz.prog w = .ok v' w' ∧ Held B w' v' (L ++ L2) ∧ w.grownBy w' row ∧ ∀ k, v'.ownBlock = some k → row = some k ∨ w.heap.size ≤ k := by
    intro base sCap row hlt hold
    have hr := run_append_grow_src w 29 29 ty 9 i0 (.string ByteArray.empty) Tryz.underlying29 hi hz0 base L.length sCap (L.map strv) hold x L2.length (L2.map strv) hs hlt (by omega) (growslice_fits (by omega) (by rw [hz2]; omega))
    refine ⟨_, _, hr, Or.inr ⟨w.heap.size, 0, _, _, by rw [List.length_append], hB, ?_, ?_, heap_alloc_new w.drew _, ?_, fun i hi => ?_⟩, ⟨rfl, rfl, rfl, by simp, fun k hk _ => Below.heap_alloc w.drew _ k hk⟩, fun k hk => Or.inr (by simp only [Value.ownBlock, Option.some.injEq] at hk; omega)⟩
    · rw [List.length_append]; exact grownCap_ge w _ sCap _
    · exact grownCap_le_maxLen w _ sCap _ (by unfold maxLen; omega)
    · have hge := grownCap_ge w (L.length + L2.length) sCap 9
      simp only [Array.size_append, List.size_toArray, List.length_append, List.length_map, size_zeroCells]
      show _ ≤ _ + _ * 1
      omega
    · have h1 := hcell i hi
      have hi' : i < (L.map strv ++ L2.map strv).length := by simpa using hi
      rw [Nat.zero_add, Array.getElem?_append_left (by simpa using hi')]
      rw [List.getElem?_toArray]
      exact h1
  rcases h with ⟨rfl, rfl⟩ | ⟨g, o, cap, cur, rfl, h1, h2, h3, h4, h5, h6⟩
  · by_cases hm : L2 = []
    · subst hm
      refine ⟨.slice none 0 0, w, ?_, Or.inl ⟨rfl, rfl⟩, ⟨rfl, rfl, rfl, Nat.le_refl _, fun _ _ _ => rfl⟩, fun k hk => by cases hk⟩
      have hc := hs.cells
      have hl := hs.len
      simp only [List.length_nil, List.map_nil] at hc hl
      have hl0 : ∀ w', (Builtin.lenOf (.slice none 0 0)).run Tryz.prog w' = .ok 0 w' := fun _ => rfl
      simp [Builtin.append_, run_underlying Tryz.underlying29, sizeOf, typeInfo, hi, hl, hc]
    · have hpos : 0 < L2.length := by
        cases L2 with
        | nil => exact absurd rfl hm
        | cons y r => simp
      exact grow none 0 _ (by simpa using hpos) (run_firstCells_none w.drew i0.size 0 0 0)
  · by_cases hroom : L.length + L2.length ≤ cap
    · have hst := run_storeCells_at Tryz.prog g (o + L.length) 9 (L2.map strv) 0 cur w h4 (by rw [hlen]; omega) hs.one
      simp only [Nat.add_zero] at hst
      have hc := hs.cells
      have hl := hs.len
      have hrun : (Builtin.append_ #[29, 29] ty #[.slice (some ⟨g, o, none⟩) L.length cap, x]).run Tryz.prog w = .ok (.slice (some ⟨g, o, none⟩) (L.length + L2.length) cap)
          (w.setRow g (cur.toList.take (o + L.length) ++ L2.map strv ++ cur.toList.drop (o + L.length + (L2.map strv).length)).toArray) := by
        rw [hz1] at hc
        simp [Builtin.append_, run_underlying Tryz.underlying29, sizeOf, typeInfo, hi, hz1, hl, hc, hroom, Addr.add_lit, hst]
      refine ⟨_, _, hrun, Or.inr ⟨g, o, cap, _, by rw [List.length_append], h1, by rw [List.length_append]; omega, h3, setRow_heap w g cur _ 9 _ h4, ?_, fun i hi => ?_⟩, ⟨rfl, rfl, rfl, by simp, fun k _ hk => setRow_other w g k _ (fun e => hk (by simp [Value.ownBlock, e]))⟩, fun k hk => Or.inl hk⟩
      · simp only [List.size_toArray, List.length_append, List.length_take, List.length_drop, List.length_map, Array.length_toList]
        omega
      · have hci := hcell i hi
        rw [List.length_append] at hi
        rw [List.getElem?_toArray]
        have hz : (cur.toList.take (o + L.length)).length = o + L.length := by
          rw [List.length_take, Array.length_toList]
          exact Nat.min_eq_left (show o + L.length ≤ cur.size by omega)
        by_cases hiL : i < L.length
        · have hlt : o + i < (cur.toList.take (o + L.length)).length := by omega
          rw [List.append_assoc, List.getElem?_append_left hlt, List.getElem?_take, if_pos (show o + i < o + L.length by omega), Array.getElem?_toList, h6 i hiL, List.getElem_append_left hiL]
        · have hge : (cur.toList.take (o + L.length)).length ≤ o + i := by omega
          have hlt : i - L.length < (L2.map strv).length := by omega
          rw [List.append_assoc, List.getElem?_append_right hge, hz, show o + i - (o + L.length) = i - L.length by omega, List.getElem?_append_left hlt]
          rw [List.getElem?_append_right (by rw [List.length_map]; omega), List.length_map] at hci
          exact hci
    · refine grow _ cap _ (by omega) ?_
      have hf := run_firstCells_some (P := Tryz.prog) w.drew i0.size L.length ⟨g, o, none⟩ L.length cap (L.map strv) (by rw [hz1]; simp) (fun j u hu => by
        rw [List.getElem?_map] at hu
        by_cases hj : j < L.length
        · rw [List.getElem?_eq_getElem hj] at hu
          rw [add_n]
          show w.cell? ⟨g, o + j, none⟩ = some u
          rw [cell_in h4 (h6 j hj)]
          exact hu
        · rw [List.getElem?_eq_none (by omega)] at hu
          cases hu)
      exact hf

theorem append_held {B : Nat} {w : World} {v x : Value} {L L2 : List (List UInt8)} (hT : Held B w v L) (hS : View w x L2) (hn : L.length + L2.length ≤ 1048576) (hB : B ≤ w.heap.size)
    {ops : Array Oper} {rest : List Oper} {o : Oper} {a : Act} {Q : Exit → Act → World → Prop} (hgd : o.guard = none) (s y : Operand)
    (ho : o.op = .call { callee := .builtin .append, args := #[s, y], argTypes := #[29, 29] }) (hs : a.eval s = v) (hx : a.eval y = x)
    (h : ∀ v' w', Held B w' v' (L ++ L2) → w.grownBy w' v.ownBlock → wpList Tryz.prog ops Q rest (a.put o.dst v') w') : wpList Tryz.prog ops Q (o :: rest) a w := by
  obtain ⟨v', w', hrun, h1, h2, -⟩ := run_append_held hT hS hn hB o.type
  refine wpList_plain hgd fun K hK => ?_
  unfold Oper.wp
  simp [execOp, ho, resolve, invoke, builtin, hs, hx, hrun, Result.andThen]
  exact hK _ _ (h v' w' h1 h2)

theorem step_append_held {B : Nat} {w : World} {v x : Value} {L L2 : List (List UInt8)} (hT : Held B w v L) (hS : View w x L2) (hn : L.length + L2.length ≤ 1048576) (hB : B ≤ w.heap.size)
    {ops : Array Oper} {o : Oper} {a : Act} {K : Act → World → Prop} {Q : Exit → Act → World → Prop} {E : Prop} (hgd : o.guard = none) (s y : Operand)
    (ho : o.op = Op.call { callee := Callee.builtin Builtin.append, args := #[s, y], argTypes := #[29, 29] }) (hs : a.eval s = v) (hx : a.eval y = x)
    (hK : ∀ v' w', Held B w' v' (L ++ L2) → w.grownBy w' v.ownBlock → (∀ k, v'.ownBlock = some k → v.ownBlock = some k ∨ w.heap.size ≤ k) → K (a.put o.dst v') w') :
    if Region.wanted o (yielded ops a.tmps) = true then Oper.wp Tryz.prog o a w K Q else E := by
  have hw : Region.wanted o (yielded ops a.tmps) = true := by simp [Region.wanted, hgd]
  rw [if_pos hw]
  obtain ⟨v', w', hrun, h1, h2, h3⟩ := run_append_held hT hS hn hB o.type
  unfold Oper.wp
  simp [execOp, ho, resolve, invoke, builtin, hs, hx, hrun, Result.andThen]
  exact hK _ _ h1 h2 h3

/-- No row of texts. -/
def notText : Obj → Bool
  | .cells _ t _ => t != 9
  | _ => true
/-- The way's block. -/
def WayAt (n₀ g : Nat) (T : Value × Value × Value) (W : World) (p : Int) (st : List (List UInt8)) (links : Int) : Prop :=
  g < n₀ ∧ ∃ v, W.heap[g]? = some (.cells #[T.1, T.2.1, T.2.2, .int .i64 p, v, .int .i64 links] 113 (0, 0)) ∧ Held n₀ W v st
/-- What a call on a way leaves as it was. -/
structure Moved (g : Nat) (W W' : World) : Prop where
  below : Below g W W'
  kept : ∀ (k : Nat) (o : Obj), W.heap[k]? = some o → k ≠ g → notText o = true → W'.heap[k]? = some o
theorem Moved.refl (g : Nat) (W : World) : Moved g W W := ⟨Below.refl _ _, fun _ _ h _ _ => h⟩
theorem Moved.trans {g : Nat} {A B C : World} (h : Moved g A B) (k : Moved g B C) : Moved g A C := ⟨h.below.trans k.below, fun i o hi hg ho => k.kept i o (h.kept i o hi hg ho) hg ho⟩
theorem Moved.of_below {g : Nat} {W W' : World} (h : Below W.heap.size W W') (hg : g ≤ W.heap.size) : Moved g W W' := ⟨h.mono hg, fun k _o hk _ _ => (h.block k (Array.getElem?_eq_some_iff.1 hk).1).trans hk⟩
theorem not_text {o : Obj} (h : o.isCells = false) : notText o = true := by cases o <;> first | rfl | cases h
theorem Moved.set {g : Nat} (W : World) (i : Nat) (u : Value) : Moved g W (W.setCell ⟨g, i, none⟩ u) :=
  ⟨(Below.refl _ _).setCell (p := ⟨g, i, none⟩) (Nat.le_refl _) _, fun k _o hk hg _ => (Below.heap_setCell W ⟨g, i, none⟩ u k hg).trans hk⟩
theorem Moved.grown {n₀ g : Nat} {W W' : World} {v : Value} {st : List (List UInt8)} (hg : W.grownBy W' v.ownBlock) (hv : Held n₀ W v st) (hn : g < n₀) (hs : g ≤ W.heap.size) : Moved g W W' := by
  refine ⟨(Below.refl _ _).grown hg hs (fun k hk => by have := (hv.own hk).1; omega), fun k o hk _ ho => ?_⟩
  refine (hg.block k (Array.getElem?_eq_some_iff.1 hk).1 (fun e => ?_)).trans hk
  obtain ⟨-, cur, hc⟩ := hv.own e.symm
  rw [hc] at hk
  cases hk
  cases ho

theorem set_heap {W : World} {g : Nat} {cs : Array Value} {t : TypeId} {fr : Nat × Nat} (h : W.heap[g]? = some (.cells cs t fr)) (i : Nat) (u : Value) : (W.setCell ⟨g, i, none⟩ u).heap[g]? = some (.cells (cs.setIfInBounds i u) t fr) := by
  obtain ⟨hlt, hk⟩ := Array.getElem?_eq_some_iff.1 h
  show (W.heap.modify g _)[g]? = _
  rw [Array.getElem?_eq_getElem (by rw [Array.size_modify]; exact hlt), Array.getElem_modify_self, hk]
  rfl
theorem held_set {n₀ g : Nat} {W : World} {v : Value} {st : List (List UInt8)} (h : Held n₀ W v st) (hg : g < n₀) (i : Nat) (u : Value) : Held n₀ (W.setCell ⟨g, i, none⟩ u) v st :=
  h.kept fun k hk => Below.heap_setCell W ⟨g, i, none⟩ u k (by have := (h.own hk).1; show k ≠ g; omega)
theorem WayAt.lt {n₀ g : Nat} {T : Value × Value × Value} {W : World} {p : Int} {st : List (List UInt8)} {links : Int} (h : WayAt n₀ g T W p st links) : g < W.heap.size := by
  obtain ⟨_, v, h, -⟩ := h
  exact (Array.getElem?_eq_some_iff.1 h).1
theorem WayAt.below {n₀ g : Nat} {T : Value × Value × Value} {W W' : World} {p : Int} {st : List (List UInt8)} {links : Int} (h : WayAt n₀ g T W p st links) (hb : Below W.heap.size W W') : WayAt n₀ g T W' p st links := by
  have hlt := h.lt
  obtain ⟨hg, v, h1, h2⟩ := h
  refine ⟨hg, v, (hb.block g hlt).trans h1, h2.kept fun k hk => ?_⟩
  obtain ⟨-, cur, hc⟩ := h2.own hk
  exact hb.block k (Array.getElem?_eq_some_iff.1 hc).1
theorem WayAt.drew {n₀ g : Nat} {T : Value × Value × Value} {W : World} {p : Int} {st : List (List UInt8)} {links : Int} (h : WayAt n₀ g T W p st links) : WayAt n₀ g T W.drew p st links := h
/-- What turns no cells leaves a way. -/
theorem WayAt.own {n₀ g : Nat} {T : Value × Value × Value} {W W' : World} {p : Int} {st : List (List UInt8)} {links : Int} (h : WayAt n₀ g T W p st links) {row : Option Nat} (hg : W.grownBy W' row) (hr : ∀ r, row = some r → ∃ o : Obj, W.heap[r]? = some o ∧ o.isCells = false) : WayAt n₀ g T W' p st links := by
  obtain ⟨h0, v, h1, h2⟩ := h
  refine ⟨h0, v, (grownBy_keeps_cells hg hr h1 rfl).trans h1, h2.kept fun k hk => ?_⟩
  obtain ⟨-, cur, hc⟩ := h2.own hk
  exact grownBy_keeps_cells hg hr hc rfl
end Go.Proofs.YtclhpedecimicaaGreat
