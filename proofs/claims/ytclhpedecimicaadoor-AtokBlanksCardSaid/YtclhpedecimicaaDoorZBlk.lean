/-
  Rows of tokens in blocks of their own, and stores into them; the law AtokBlanks in plain words.
-/
import Derived.Test.YtclhpedecimicaaDoorZNamesL
namespace Go.Proofs.YtclhpedecimicaaDoor
set_option maxRecDepth 100000
open Go Go.RowKit

/-- Block g is a row that holds the tokens L. -/
def BlkT (W : World) (g : Nat) (L : List Tk) : Prop := ∃ cur, W.heap[g]? = some (.cells cur 34 (0, 0)) ∧ cur.toList.take (L.length * 4) = rowZ L
theorem TokRow.blk {W : World} {B : Nat} {a : Option Addr} {n c : Nat} {L : List Tk} (h : TokRow W B (.slice a n c) L) (hL : 0 < L.length) : ∃ g, a = some ⟨g, 0, none⟩ ∧ B ≤ g ∧ BlkT W g L := by
  rcases h.2.2 with ⟨-, h0⟩ | ⟨g, cap', cur, hv, hg, hc, h1, h2, h3, h4⟩
  · omega
  · simp only [Value.slice.injEq] at hv
    obtain ⟨rfl, -, -⟩ := hv
    exact ⟨g, rfl, hg, cur, hc, h4⟩
theorem BlkT.toks {W : World} {g : Nat} {L : List Tk} (h : BlkT W g L) : ToksAt W g L := by
  obtain ⟨cur, h1, h2⟩ := h
  intro i x hx
  have hi := (List.getElem?_eq_some_iff.1 hx).1
  have hc : ∀ f, f < 4 → W.cell? ⟨g, i * 4 + f, none⟩ = (tokF x)[f]? := fun f hf => by
    rw [blk_cell h1, ← rowZ_get L i x hx f hf, ← h2, List.getElem?_take_of_lt (by omega), Array.getElem?_toList]
  exact ⟨hc 0 (by decide), hc 1 (by decide), hc 2 (by decide), hc 3 (by decide)⟩
theorem BlkT.lt {W : World} {g : Nat} {L : List Tk} (h : BlkT W g L) : g < W.heap.size := by
  obtain ⟨cur, h1, -⟩ := h
  exact lt_of_block h1
theorem BlkT.free {W : World} {g : Nat} {L : List Tk} (h : BlkT W g L) (j : Nat) : W.frozen? ⟨g, j, none⟩ = false := by
  obtain ⟨cur, h1, -⟩ := h
  exact blk_free h1 j
theorem BlkT.block {W W' : World} {g : Nat} {L : List Tk} (h : BlkT W g L) (hb : W'.heap[g]? = W.heap[g]?) : BlkT W' g L := by
  obtain ⟨cur, h1, h2⟩ := h
  exact ⟨cur, hb.trans h1, h2⟩
theorem rowZ_set : ∀ (L : List Tk) (i : Nat) (x : Tk), L[i]? = some x → rowZ (L.set i (eraZ x)) = (rowZ L).set (i * 4 + 3) (.int .i64 0)
  | [], i, x, h => by simp at h
  | y :: r, 0, x, h => by
    obtain rfl : y = x := by simpa using h
    rw [List.set_cons_zero, rowZ, rowZ, List.set_append_left _ _ (by show 0 * 4 + 3 < 4; omega)]
    rfl
  | y :: r, i + 1, x, h => by
    rw [List.set_cons_succ, rowZ, rowZ, List.set_append_right _ _ (by show 4 ≤ _; omega), show (i + 1) * 4 + 3 - (tokF y).length = i * 4 + 3 by show (i + 1) * 4 + 3 - 4 = _; omega, rowZ_set r i x (by simpa using h)]
theorem BlkT.set {W : World} {g : Nat} {L : List Tk} {i : Nat} {x : Tk} (h : BlkT W g L) (hx : L[i]? = some x) : BlkT (W.setCell ⟨g, i * 4 + 3, none⟩ (.int .i64 0)) g (L.set i (eraZ x)) := by
  obtain ⟨cur, h1, h2⟩ := h
  refine ⟨_, blk_set h1 (i * 4 + 3) (.int .i64 0), ?_⟩
  rw [List.length_set, Array.toList_setIfInBounds, rowZ_set L i x hx, ← h2, List.take_set]

/-- The first k tokens without their places. -/
def eraN (k : Nat) (L : List Tk) : List Tk := L.mapIdx fun i x => if i < k then eraZ x else x
theorem eraN_zero (L : List Tk) : eraN 0 L = L := by
  apply List.ext_getElem?
  intro i
  simp [eraN, List.getElem?_mapIdx]
theorem eraN_len (k : Nat) (L : List Tk) : (eraN k L).length = L.length := by simp [eraN]
theorem eraN_at {k i : Nat} {L : List Tk} {x : Tk} (h : L[i]? = some x) : (eraN k L)[i]? = some (if i < k then eraZ x else x) := by
  simp [eraN, List.getElem?_mapIdx, h]
theorem eraN_step {k : Nat} {L : List Tk} {x : Tk} (h : L[k]? = some x) : (eraN k L).set k (eraZ x) = eraN (k + 1) L := by
  apply List.ext_getElem?
  intro i
  have hk := (List.getElem?_eq_some_iff.1 h).1
  rw [List.getElem?_set]
  by_cases e : k = i
  · subst e
    rw [if_pos rfl, if_pos (by rw [eraN_len]; exact hk), eraN_at h, if_pos (by omega)]
  · rw [if_neg e]
    cases hi : L[i]? with
    | none => simp [eraN, List.getElem?_mapIdx, hi]
    | some y =>
      rw [eraN_at hi, eraN_at hi]
      by_cases h1 : i < k
      · rw [if_pos h1, if_pos (by omega)]
      · rw [if_neg h1, if_neg (by omega)]
theorem eraN_all (L : List Tk) : eraN L.length L = L.map eraZ := by
  apply List.ext_getElem?
  intro i
  rw [List.getElem?_map]
  cases hi : L[i]? with
  | none => simp [eraN, List.getElem?_mapIdx, hi]
  | some y =>
    have := (List.getElem?_eq_some_iff.1 hi).1
    rw [eraN_at hi, if_pos this]; rfl
theorem rise_at {l : List UInt8} {a : List Tk} (h : toks l 0 = .inl a) {i : Nat} {x y : Tk} (hx : a[i]? = some x) (hy : a[i + 1]? = some y) : x.pos < y.pos := by
  have h1 := (toks_rise l.length l 0 a (Nat.le_refl _) h).2
  rw [List.pairwise_iff_getElem] at h1
  obtain ⟨hi, rfl⟩ := List.getElem?_eq_some_iff.1 hx
  obtain ⟨hj, rfl⟩ := List.getElem?_eq_some_iff.1 hy
  exact h1 i (i + 1) hi hj (by omega)
theorem pos_le {l : List UInt8} {a : List Tk} (h : toks l 0 = .inl a) {i : Nat} {x : Tk} (hx : a[i]? = some x) : x.pos ≤ l.length := by
  have h1 := ((toks_rise l.length l 0 a (Nat.le_refl _) h).1 x (List.mem_of_getElem? hx)).2
  omega
theorem space_toks {l : List UInt8} {a : List Tk} (h : toks l 0 = .inl a) {k : Nat} {x : Tk} (hx : a[k]? = some x) : ∃ b, toks (l.take x.pos ++ 32 :: l.drop x.pos) 0 = .inl b ∧ b.map eraZ = a.map eraZ := by
  have h1 := toks_space l.length l 0 a k x (Nat.le_refl _) h hx
  exact h1
end Go.Proofs.YtclhpedecimicaaDoor
