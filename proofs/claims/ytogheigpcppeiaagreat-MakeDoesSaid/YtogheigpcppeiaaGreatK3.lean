/-
  Trees that a call has made: their inodes lie in one block of the call's own, each directory's names in a block of its own.
  path's names: an iterator over a path's names: each in its order, each once; it stops where the loop is left.
  Rows of texts that lie anywhere in a block: read, cut, appended to; the block of a way, and what its calls leave as it was.
  A region that draws its order, in a round of a range over a function: what is shown for it as for any code (whatever the order) holds in the round.
  The law of a range over a function whose rounds change what the iterator goes by: a state of one's own in the place of the list of what was handed out.
  slices.Backward over a row of texts: each with its place, the last one first.
  The reference's there, dir, May, step, begin and bad, walked.
  The reference's step, begin and bad, walked.
  The reference's way, walked.
  The reference's bad, Walk and Parent, walked.
-/
import Derived.Test.YtogheigpcppeiaaGreatK1
import Derived.OneCell
import Derived.Laws.IdiomCopy
import Derived.RangeFuncBox
import Derived.RangeFuncLeaves
import Derived.RangeFuncNested
import Derived.RangeFuncBound
import Derived.RangeFuncCalls
import Derived.Shelf.Abstract
import Derived.WalkKit
import Derived.OwnWalkIn
import Derived.TacticsInMore
import Derived.LoopNIn
import Derived.LoopIn
import Derived.Maps.AppendAt
import Derived.Test.YtogheigpcppeiaaGreatK2
import Derived.Deep.AppendSrc
import Derived.RangeFuncWrites
import Derived.Lib.Hide
import Derived.OrdersIn
import Derived.Orders
import Derived.Deep.Quiet
import Derived.OrdersHeld
import Derived.Scope
import Derived.WalkMore
import Derived.Test.YtogheigpcppeiaaGreatProg
import Derived.Deep.QuietTactic
import Derived.BigQuiet
namespace Go.Proofs.YtogheigpcppeiaaGreat
set_option maxRecDepth 100000
open Go Go.RowKit

theorem blk_cell {W : World} {k : Nat} {cs : Array Value} {t : TypeId} (h : W.heap[k]? = some (.cells cs t (0, 0))) (j : Nat) : W.cell? ⟨k, j, none⟩ = cs[j]? := cell_of_row W k j cs t (0, 0) h
theorem blk_free {W : World} {k : Nat} {cs : Array Value} {t : TypeId} (h : W.heap[k]? = some (.cells cs t (0, 0))) (j : Nat) : W.frozen? ⟨k, j, none⟩ = false := by simp [World.frozen?, h]
theorem blk_set {W : World} {k : Nat} {cs : Array Value} {t : TypeId} (h : W.heap[k]? = some (.cells cs t (0, 0))) (j : Nat) (u : Value) : (W.setCell ⟨k, j, none⟩ u).heap[k]? = some (.cells (cs.setIfInBounds j u) t (0, 0)) := by
  have hlt := lt_of_block h
  have h' : W.heap[k] = .cells cs t (0, 0) := by simpa [Array.getElem?_eq_getElem hlt] using h
  show (W.heap.modify k _)[k]? = _
  rw [Array.getElem?_eq_getElem (by simpa using hlt), Array.getElem_modify_self, h']
  rfl
/-- A tree is stored in a block of three. -/
def put3 (W : World) (k : Nat) (x y z : Value) : World := ((W.setCell ⟨k, 0, none⟩ x).setCell ⟨k, 1, none⟩ y).setCell ⟨k, 2, none⟩ z
theorem put3_block {W : World} {k : Nat} {a b c : Value} {t : TypeId} (h : W.heap[k]? = some (.cells #[a, b, c] t (0, 0))) (x y z : Value) : (put3 W k x y z).heap[k]? = some (.cells #[x, y, z] t (0, 0)) := blk_set (blk_set (blk_set h 0 x) 1 y) 2 z
theorem put3_cells {W : World} {k : Nat} {a b c : Value} {t : TypeId} (h : W.heap[k]? = some (.cells #[a, b, c] t (0, 0))) (x y z : Value) : (put3 W k x y z).cell? ⟨k, 0, none⟩ = some x ∧ (put3 W k x y z).cell? ⟨k, 1, none⟩ = some y ∧ (put3 W k x y z).cell? ⟨k, 2, none⟩ = some z :=
  ⟨blk_cell (put3_block h x y z) 0, blk_cell (put3_block h x y z) 1, blk_cell (put3_block h x y z) 2⟩
theorem put3_other {W : World} {k j : Nat} (h : j ≠ k) (x y z : Value) : (put3 W k x y z).heap[j]? = W.heap[j]? :=
  (Below.heap_setCell _ _ _ _ h).trans ((Below.heap_setCell _ _ _ _ h).trans (Below.heap_setCell _ _ _ _ h))
theorem put3_below {B : Nat} {w W : World} {k : Nat} (h : Below B w W) (hk : B ≤ k) (x y z : Value) : Below B w (put3 W k x y z) := ((h.setCell hk _).setCell hk _).setCell hk _
theorem put3_size (W : World) (k : Nat) (x y z : Value) : (put3 W k x y z).heap.size = W.heap.size := by unfold put3; simp [World.setCell]
/-- Two boxes that are laid one behind the other. -/
theorem two_boxes (w : World) (A B : Array Value) (s t : TypeId) : ∃ w2, w2 = (w.alloc (.cells A s)).alloc (.cells B t) ∧ Below w.heap.size w w2 ∧ w2.heap.size = w.heap.size + 2 ∧ w2.heap[w.heap.size]? = some (.cells A s (0, 0)) ∧ w2.heap[w.heap.size + 1]? = some (.cells B t (0, 0)) := by
  refine ⟨_, rfl, (below_box w _).alloc (by simp) _, by simp, ?_, ?_⟩
  · rw [Below.heap_alloc _ _ _ (by simp)]; exact new_block _ _
  · have := new_block (w.alloc (.cells A s)) (.cells B t)
    rw [World.size_alloc] at this
    exact this
/-- At block g, place o, lies the inode x, whose names' slice is v. -/
structure NodeAt (W : World) (g o : Nat) (x : Ino) (v : Value) : Prop where
  kind : W.cell? ⟨g, o, none⟩ = some (.int .i64 x.kind)
  mode : W.cell? ⟨g, o + 1, none⟩ = some (.int .i64 x.mode)
  links : W.cell? ⟨g, o + 2, none⟩ = some (.int .i64 x.links)
  data : W.cell? ⟨g, o + 3, none⟩ = some (.string ⟨x.data.toArray⟩)
  kids : W.cell? ⟨g, o + 4, none⟩ = some v
  up : W.cell? ⟨g, o + 5, none⟩ = some (.int .i64 x.up)

/-- Block g holds the inodes L, whose names' slices are vs. -/
structure NodesOwn (W : World) (g cap : Nat) (L : List Ino) (vs : List Value) : Prop where
  len : vs.length = L.length
  le : L.length ≤ cap
  max : cap ≤ maxLen
  lt : g < W.heap.size
  free : ∀ j, W.frozen? ⟨g, j, none⟩ = false
  node : ∀ i (hi : i < L.length) (hv : i < vs.length), NodeAt W g (i * 6) L[i] vs[i]

section
variable {W W' : World} {g cap : Nat} {L : List Ino} {vs : List Value}
theorem NodeAt.same {o : Nat} {x : Ino} {v : Value} (h : NodeAt W g o x v) (he : W'.heap[g]? = W.heap[g]?) : NodeAt W' g o x v := by
  have hc : ∀ j, W'.cell? ⟨g, j, none⟩ = W.cell? ⟨g, j, none⟩ := fun j => World.cell?_of_block (a := ⟨g, j, none⟩) he
  exact ⟨(hc _).trans h.kind, (hc _).trans h.mode, (hc _).trans h.links, (hc _).trans h.data, (hc _).trans h.kids, (hc _).trans h.up⟩
theorem lt_of_same (hl : g < W.heap.size) (he : W'.heap[g]? = W.heap[g]?) : g < W'.heap.size := by
  rw [Array.getElem?_eq_getElem hl] at he
  exact (Array.getElem?_eq_some_iff.1 he).1
theorem NodesOwn.same (h : NodesOwn W g cap L vs) (he : W'.heap[g]? = W.heap[g]?) : NodesOwn W' g cap L vs :=
  ⟨h.len, h.le, h.max, lt_of_same h.lt he, fun j => (World.frozen?_of_block (a := ⟨g, j, none⟩) he).trans (h.free j), fun i hi hv => (h.node i hi hv).same he⟩
theorem NodesOwn.below (h : NodesOwn W g cap L vs) (hb : Below W.heap.size W W') : NodesOwn W' g cap L vs := h.same (hb.block g h.lt)
theorem NodesOwn.nodesIn (h : NodesOwn W g cap L vs) (hk : ∀ i (hi : i < L.length) (hv : i < vs.length), KidsIn W vs[i] L[i].kids) : NodesIn W (some ⟨g, 0, none⟩) cap L :=
  ⟨h.le, h.max, fun i hi => ⟨g, 0, rfl, by
    rw [Nat.zero_add]
    have hv : i < vs.length := by rw [h.len]; exact hi
    have hn := h.node i hi hv
    exact ⟨hn.kind, hn.mode, hn.links, hn.data, ⟨_, hn.kids, hk i hi hv⟩, hn.up⟩⟩⟩

/-- One cell of an inode is written. -/
theorem cell_set {a : Nat} {u old : Value} (h : W.cell? ⟨g, a, none⟩ = some old) (j : Nat) : (W.setCell ⟨g, a, none⟩ u).cell? ⟨g, j, none⟩ = if j = a then some u else W.cell? ⟨g, j, none⟩ := by
  by_cases e : j = a
  · subst e
    rw [if_pos rfl]
    exact World.cell?_setCell_same W ⟨g, j, none⟩ u h
  · rw [if_neg e]
    exact World.cell?_setCell_other W ⟨g, a, none⟩ ⟨g, j, none⟩ u (fun e2 => e (Addr.mk.inj e2).2.1.symm)
theorem size_set (a : Addr) (u : Value) : (W.setCell a u).heap.size = W.heap.size := by simp [World.setCell]

/-- What is written of an inode: of the six cells from i * 6 on. -/
theorem NodesOwn.put (h : NodesOwn W g cap L vs) {i : Nat} (_hi : i < L.length) {x : Ino} {v : Value} (hs : W'.heap.size = W.heap.size) (hf : ∀ j, W'.frozen? ⟨g, j, none⟩ = W.frozen? ⟨g, j, none⟩)
    (hout : ∀ j, j < i * 6 ∨ i * 6 + 6 ≤ j → W'.cell? ⟨g, j, none⟩ = W.cell? ⟨g, j, none⟩) (hin : NodeAt W' g (i * 6) x v) : NodesOwn W' g cap (L.set i x) (vs.set i v) := by
  refine ⟨by rw [List.length_set, List.length_set, h.len], by rw [List.length_set]; exact h.le, h.max, by rw [hs]; exact h.lt, fun j => (hf j).trans (h.free j), fun j hj hv => ?_⟩
  rw [List.length_set] at hj hv
  by_cases e : i = j
  · subst e
    rw [List.getElem_set_self, List.getElem_set_self]
    exact hin
  · rw [List.getElem_set_ne e, List.getElem_set_ne e]
    have hn := h.node j hj hv
    have ho : ∀ t, t < 6 → W'.cell? ⟨g, j * 6 + t, none⟩ = W.cell? ⟨g, j * 6 + t, none⟩ := fun t ht => hout _ (by omega)
    exact ⟨(ho 0 (by decide)).trans hn.kind, (ho 1 (by decide)).trans hn.mode, (ho 2 (by decide)).trans hn.links, (ho 3 (by decide)).trans hn.data, (ho 4 (by decide)).trans hn.kids, (ho 5 (by decide)).trans hn.up⟩

theorem NodesOwn.setKids (h : NodesOwn W g cap L vs) {i : Nat} (hi : i < L.length) (hv : i < vs.length) (v : Value) (M : List (List UInt8 × Int)) : NodesOwn (W.setCell ⟨g, i * 6 + 4, none⟩ v) g cap (L.set i { L[i] with kids := M }) (vs.set i v) := by
  have hn := h.node i hi hv
  have hc := cell_set (u := v) hn.kids
  refine h.put hi (size_set _ _) (fun j => World.frozen?_setCell ..) (fun j hj => by rw [hc, if_neg (by omega)]) ⟨?_, ?_, ?_, ?_, ?_, ?_⟩
  · rw [hc, if_neg (by omega)]; exact hn.kind
  · rw [hc, if_neg (by omega)]; exact hn.mode
  · rw [hc, if_neg (by omega)]; exact hn.links
  · rw [hc, if_neg (by omega)]; exact hn.data
  · rw [hc, if_pos rfl]
  · rw [hc, if_neg (by omega)]; exact hn.up
theorem NodesOwn.setLinks (h : NodesOwn W g cap L vs) {i : Nat} (hi : i < L.length) (hv : i < vs.length) (z : Int) : NodesOwn (W.setCell ⟨g, i * 6 + 2, none⟩ (.int .i64 z)) g cap (L.set i { L[i] with links := z }) (vs.set i vs[i]) := by
  have hn := h.node i hi hv
  have hc := cell_set (u := .int .i64 z) hn.links
  refine h.put hi (size_set _ _) (fun j => World.frozen?_setCell ..) (fun j hj => by rw [hc, if_neg (by omega)]) ⟨?_, ?_, ?_, ?_, ?_, ?_⟩
  · rw [hc, if_neg (by omega)]; exact hn.kind
  · rw [hc, if_neg (by omega)]; exact hn.mode
  · rw [hc, if_pos rfl]
  · rw [hc, if_neg (by omega)]; exact hn.data
  · rw [hc, if_neg (by omega)]; exact hn.kids
  · rw [hc, if_neg (by omega)]; exact hn.up
theorem NodesOwn.setMode (h : NodesOwn W g cap L vs) {i : Nat} (hi : i < L.length) (hv : i < vs.length) (z : Int) : NodesOwn (W.setCell ⟨g, i * 6 + 1, none⟩ (.int .i64 z)) g cap (L.set i { L[i] with mode := z }) (vs.set i vs[i]) := by
  have hn := h.node i hi hv
  have hc := cell_set (u := .int .i64 z) hn.mode
  refine h.put hi (size_set _ _) (fun j => World.frozen?_setCell ..) (fun j hj => by rw [hc, if_neg (by omega)]) ⟨?_, ?_, ?_, ?_, ?_, ?_⟩
  · rw [hc, if_neg (by omega)]; exact hn.kind
  · rw [hc, if_pos rfl]
  · rw [hc, if_neg (by omega)]; exact hn.links
  · rw [hc, if_neg (by omega)]; exact hn.data
  · rw [hc, if_neg (by omega)]; exact hn.kids
  · rw [hc, if_neg (by omega)]; exact hn.up
def inoC (x : Ino) (v : Value) : List Value := [.int .i64 x.kind, .int .i64 x.mode, .int .i64 x.links, .string ⟨x.data.toArray⟩, v, .int .i64 x.up]
theorem size_sets (b : Nat) : ∀ (l : List Value) (o : Nat) (w : World), (w.setCells b o l).heap.size = w.heap.size
  | [], _, _ => rfl
  | v :: r, o, w => by
    show ((w.setCell ⟨b, o, none⟩ v).setCells b (o + 1) r).heap.size = _
    rw [size_sets b r, size_set]
theorem NodesOwn.setNode (h : NodesOwn W g cap L vs) {i : Nat} (hi : i < L.length) (hv : i < vs.length) (x : Ino) (v : Value) : NodesOwn (W.setCells g (i * 6) (inoC x v)) g cap (L.set i x) (vs.set i v) := by
  have hn := h.node i hi hv
  have hin := World.cell?_setCells_in g (inoC x v) (i * 6) W (fun j hj => by
    have hj' : j < 6 := hj
    match j, hj' with
    | 0, _ => exact Option.isSome_of_eq_some hn.kind
    | 1, _ => exact Option.isSome_of_eq_some hn.mode
    | 2, _ => exact Option.isSome_of_eq_some hn.links
    | 3, _ => exact Option.isSome_of_eq_some hn.data
    | 4, _ => exact Option.isSome_of_eq_some hn.kids
    | 5, _ => exact Option.isSome_of_eq_some hn.up)
  refine h.put hi (size_sets _ _ _ _) (fun j => World.frozen?_setCells ..) (fun j hj => World.cell?_setCells_out _ _ _ _ _ (fun _ _ => hj)) ⟨?_, ?_, ?_, ?_, ?_, ?_⟩
  · exact hin 0 (show 0 < 6 by decide)
  · exact hin 1 (show 1 < 6 by decide)
  · exact hin 2 (show 2 < 6 by decide)
  · exact hin 3 (show 3 < 6 by decide)
  · exact hin 4 (show 4 < 6 by decide)
  · exact hin 5 (show 5 < 6 by decide)
end

/-! ### Names in a block of the call's own -/

def kidC : List (List UInt8 × Int) → List Value
  | [] => []
  | e :: r => .string ⟨e.1.toArray⟩ :: .int .i64 e.2 :: kidC r
theorem kidC_len : ∀ K, (kidC K).length = K.length * 2
  | [] => rfl
  | e :: r => by simp only [kidC, List.length_cons, kidC_len r]; omega
theorem kidC_app : ∀ A B, kidC (A ++ B) = kidC A ++ kidC B
  | [], B => rfl
  | e :: r, B => by simp only [List.cons_append, kidC, kidC_app r B]
theorem kidC_get0 : ∀ (K : List (List UInt8 × Int)) (i : Nat) (h : i < K.length), (kidC K)[i * 2]? = some (.string ⟨K[i].1.toArray⟩)
  | e :: r, 0, _ => rfl
  | e :: r, i + 1, h => by
    have := kidC_get0 r i (Nat.lt_of_succ_lt_succ h)
    rw [show (i + 1) * 2 = i * 2 + 1 + 1 by omega, kidC, List.getElem?_cons_succ, List.getElem?_cons_succ, this]
    rfl
theorem kidC_get1 : ∀ (K : List (List UInt8 × Int)) (i : Nat) (h : i < K.length), (kidC K)[i * 2 + 1]? = some (.int .i64 K[i].2)
  | e :: r, 0, _ => rfl
  | e :: r, i + 1, h => by
    have := kidC_get1 r i (Nat.lt_of_succ_lt_succ h)
    rw [show (i + 1) * 2 + 1 = i * 2 + 1 + 1 + 1 by omega, kidC, List.getElem?_cons_succ, List.getElem?_cons_succ, this]
    rfl
theorem kidC_one : ∀ (K : List (List UInt8 × Int)), ∀ u ∈ kidC K, u.oneCell' = true
  | [], _, h => by cases h
  | e :: r, u, h => by
    rcases List.mem_cons.1 h with rfl | h
    · rfl
    · rcases List.mem_cons.1 h with rfl | h
      · rfl
      · exact kidC_one r u h
/-- Names as they lie, cell by cell. -/
theorem kidC_cells {W : World} {K : List (List UInt8 × Int)} {b o : Nat} (h : ∀ i (hi : i < K.length), W.cell? ⟨b, o + i * 2, none⟩ = some (.string ⟨K[i].1.toArray⟩) ∧ W.cell? ⟨b, o + i * 2 + 1, none⟩ = some (.int .i64 K[i].2)) (j : Nat) (u : Value) (hu : (kidC K)[j]? = some u) : W.cell? ⟨b, o + j, none⟩ = some u := by
  have hj : j < K.length * 2 := by rw [← kidC_len]; exact (List.getElem?_eq_some_iff.1 hu).1
  have hi : j / 2 < K.length := by omega
  rcases Nat.mod_two_eq_zero_or_one j with e | e
  · obtain ⟨i, rfl⟩ : ∃ i, j = i * 2 := ⟨j / 2, by omega⟩
    have hi' : i < K.length := by omega
    rw [kidC_get0 K i hi'] at hu
    cases hu
    exact (h i hi').1
  · obtain ⟨i, rfl⟩ : ∃ i, j = i * 2 + 1 := ⟨j / 2, by omega⟩
    have hi' : i < K.length := by omega
    rw [kidC_get1 K i hi'] at hu
    cases hu
    rw [← Nat.add_assoc]
    exact (h i hi').2
def KidsOwn (W : World) (base : Nat) (v : Value) (K : List (List UInt8 × Int)) : Prop := W.ownsRow base 58 2 v K.length (kidC K)
theorem zero_add_addr (g j : Nat) : (⟨g, 0, none⟩ : Addr).add j = ⟨g, j, none⟩ := by
  unfold Addr.add
  split
  · rename_i h; rw [h]
  · show (⟨g, 0 + j, none⟩ : Addr) = _; rw [Nat.zero_add]
theorem KidsOwn.kidsIn {W : World} {base : Nat} {v : Value} {K : List (List UInt8 × Int)} (h : KidsOwn W base v K) : KidsIn W v K := by
  rcases h.2 with ⟨rfl, h0⟩ | ⟨g, cap, cur, rfl, hb, hg, hn, hc, hs, ht⟩
  · have e : K = [] := List.length_eq_zero_iff.1 h0
    subst e
    exact ⟨none, 0, rfl, Nat.le_refl _, Nat.zero_le _, fun i hi => absurd hi (Nat.not_lt_zero _)⟩
  · refine ⟨some ⟨g, 0, none⟩, cap, rfl, hn, hc, fun i hi => ⟨g, 0, rfl, ?_, ?_⟩⟩
    · have := h.cells rfl _ _ (kidC_get0 K i hi)
      rw [zero_add_addr] at this
      rw [Nat.zero_add]
      exact this
    · have := h.cells rfl _ _ (kidC_get1 K i hi)
      rw [zero_add_addr] at this
      rw [Nat.zero_add]
      exact this
theorem KidsOwn.form {W : World} {B : Nat} {v : Value} {K : List (List UInt8 × Int)} (h : KidsOwn W B v K) : ∃ a c, v = .slice a K.length c := by
  rcases h.2 with ⟨rfl, h0⟩ | ⟨g, cap, cur, e, -⟩
  · exact ⟨none, 0, by rw [h0]⟩
  · exact ⟨_, _, e⟩
theorem KidsOwn.lower {W : World} {B B' : Nat} {v : Value} {K : List (List UInt8 × Int)} (h : KidsOwn W B v K) (hb : B' ≤ B) : KidsOwn W B' v K := by
  refine ⟨h.1, ?_⟩
  rcases h.2 with hn | ⟨g, cap, cur, e, hg, rest⟩
  · exact .inl hn
  · exact .inr ⟨g, cap, cur, e, Nat.le_trans hb hg, rest⟩
theorem KidsOwn.nil (W : World) (base : Nat) : KidsOwn W base (.slice none 0 0) [] := World.ownsRow_nil W base _ 2
theorem KidsOwn.same {W W' : World} {base : Nat} {v : Value} {K : List (List UInt8 × Int)} (h : KidsOwn W base v K) (he : ∀ k, v.ownBlock = some k → W'.heap[k]? = W.heap[k]?) : KidsOwn W' base v K := by
  refine ⟨h.1, ?_⟩
  rcases h.2 with hn | ⟨g, cap, cur, rfl, hb, hg, rest⟩
  · exact .inl hn
  · exact .inr ⟨g, cap, cur, rfl, hb, (he g rfl).trans hg, rest⟩

/-- A tree that is the call's own from block base on. -/
structure OwnT (W : World) (base g cap : Nat) (L : List Ino) (vs : List Value) : Prop where
  nodes : NodesOwn W g cap L vs
  hbase : base ≤ g
  kids : ∀ i (hi : i < L.length) (hv : i < vs.length), KidsOwn W base vs[i] L[i].kids
  apart : ∀ i j (hi : i < vs.length) (hj : j < vs.length), i ≠ j → vs[i].ownBlock = none ∨ vs[i].ownBlock ≠ vs[j].ownBlock
  off : ∀ i (hi : i < vs.length), vs[i].ownBlock ≠ some g
section
variable {W W' : World} {base g cap : Nat} {L : List Ino} {vs : List Value}
theorem OwnT.nodesIn (h : OwnT W base g cap L vs) : NodesIn W (some ⟨g, 0, none⟩) cap L := h.nodes.nodesIn fun i hi hv => (h.kids i hi hv).kidsIn
theorem OwnT.below (h : OwnT W base g cap L vs) (hb : Below W.heap.size W W') : OwnT W' base g cap L vs :=
  ⟨h.nodes.below hb, h.hbase, fun i hi hv => (h.kids i hi hv).same fun k hk => hb.block k ((h.kids i hi hv).lt k hk).2, h.apart, h.off⟩
/-- What lies below base may change. -/
theorem OwnT.low (h : OwnT W base g cap L vs) (hb : ∀ k, base ≤ k → W'.heap[k]? = W.heap[k]?) : OwnT W' base g cap L vs :=
  ⟨h.nodes.same (hb g h.hbase), h.hbase, fun i hi hv => (h.kids i hi hv).same fun k hk => hb k ((h.kids i hi hv).lt k hk).1, h.apart, h.off⟩
theorem OwnT.lower {base' : Nat} (h : OwnT W base g cap L vs) (hb : base' ≤ base) : OwnT W base' g cap L vs :=
  ⟨h.nodes, Nat.le_trans hb h.hbase, fun i hi hv => (h.kids i hi hv).lower hb, h.apart, h.off⟩
/-- Names of one directory are others: in its own block, or in a new one; the rest stays. -/
theorem OwnT.setKids (h : OwnT W base g cap L vs) {d : Nat} (hd : d < L.length) (hv : d < vs.length) {v : Value} {M : List (List UInt8 × Int)} (hg : W.grownBy W' vs[d].ownBlock) (ho : KidsOwn W' base v M) (hb : ∀ k, v.ownBlock = some k → vs[d].ownBlock = some k ∨ W.heap.size ≤ k) :
    OwnT (W'.setCell ⟨g, d * 6 + 4, none⟩ v) base g cap (L.set d { L[d] with kids := M }) (vs.set d v) := by
  have hsame : W'.heap[g]? = W.heap[g]? := hg.block g h.nodes.lt (fun e => h.off d hv e.symm)
  have hN := (h.nodes.same hsame).setKids hd hv v M
  have hoff : ∀ k, v.ownBlock = some k → k ≠ g := fun k hk e => by
    subst e
    rcases hb k hk with h1 | h1
    · exact h.off d hv h1
    · have := h.nodes.lt; omega
  have hap : ∀ j (hj : j < vs.length), j ≠ d → ∀ k, vs[j].ownBlock = some k → v.ownBlock ≠ some k := fun j hj hjd k hk e => by
    rcases hb k e with h1 | h1
    · rcases h.apart j d hj hv hjd with h2 | h2
      · rw [h2] at hk; cases hk
      · exact h2 (hk.trans h1.symm)
    · have := ((h.kids j (by rw [← h.nodes.len]; exact hj) hj).lt k hk).2
      omega
  have hst : ∀ k, k ≠ g → (W'.setCell ⟨g, d * 6 + 4, none⟩ v).heap[k]? = W'.heap[k]? := fun k hk => Below.heap_setCell _ _ _ _ hk
  refine ⟨hN, h.hbase, fun i hi hvi => ?_, fun i j hi hj hij => ?_, fun i hi => ?_⟩
  · rw [List.length_set] at hi hvi
    by_cases e : d = i
    · subst e
      rw [List.getElem_set_self]
      have e2 : (L.set d { L[d] with kids := M })[d]'(by rw [List.length_set]; exact hi) = { L[d] with kids := M } := List.getElem_set_self ..
      rw [e2]
      exact ho.same fun k hk => hst k (hoff k hk)
    · rw [List.getElem_set_ne e, List.getElem_set_ne e]
      have hki := h.kids i hi hvi
      refine hki.same fun k hk => ?_
      rw [hst k (fun e3 => h.off i hvi (e3 ▸ hk))]
      refine hg.block k (hki.lt k hk).2 (fun e3 => ?_)
      rcases h.apart i d hvi hv (fun e4 => e e4.symm) with h2 | h2
      · rw [h2] at hk; cases hk
      · exact h2 (hk.trans e3)
  · rw [List.length_set] at hi hj
    rw [List.getElem_set, List.getElem_set]
    by_cases e1 : d = i
    · rw [if_pos e1]
      rw [if_neg (fun e2 => hij (e1.symm.trans e2))]
      cases hq : v.ownBlock with
      | none => exact Or.inl rfl
      | some k => exact Or.inr fun e3 => hap j hj (fun e2 => hij (e1.symm.trans e2.symm)) k e3.symm hq
    · rw [if_neg e1]
      by_cases e2 : d = j
      · rw [if_pos e2]
        cases hq : vs[i].ownBlock with
        | none => exact Or.inl rfl
        | some k => exact Or.inr fun e3 => hap i hi (fun e4 => e1 e4.symm) k hq e3.symm
      · rw [if_neg e2]
        exact h.apart i j hi hj hij
  · rw [List.length_set] at hi
    rw [List.getElem_set]
    by_cases e : d = i
    · rw [if_pos e]
      exact fun e3 => hoff g e3 rfl
    · rw [if_neg e]
      exact h.off i hi
theorem set_self {vs : List Value} {i : Nat} (hi : i < vs.length) : vs.set i vs[i] = vs := List.set_getElem_self ..
theorem OwnT.setLinks (h : OwnT W base g cap L vs) {i : Nat} (hi : i < L.length) (z : Int) : OwnT (W.setCell ⟨g, i * 6 + 2, none⟩ (.int .i64 z)) base g cap (L.set i { L[i] with links := z }) vs := by
  have hv : i < vs.length := by rw [h.nodes.len]; exact hi
  have hN := h.nodes.setLinks hi hv z
  rw [set_self] at hN
  refine ⟨hN, h.hbase, fun j hj hvj => ?_, h.apart, h.off⟩
  rw [List.length_set] at hj
  have hk := (h.kids j hj hvj).same (W' := W.setCell ⟨g, i * 6 + 2, none⟩ (.int .i64 z)) fun k hk => Below.heap_setCell _ _ _ _ (fun e => h.off j hvj (hk.trans (congrArg some (show k = g from e))))
  rw [List.getElem_set]
  split
  · rename_i e; subst e; exact hk
  · exact hk
theorem OwnT.setMode (h : OwnT W base g cap L vs) {i : Nat} (hi : i < L.length) (z : Int) : OwnT (W.setCell ⟨g, i * 6 + 1, none⟩ (.int .i64 z)) base g cap (L.set i { L[i] with mode := z }) vs := by
  have hv : i < vs.length := by rw [h.nodes.len]; exact hi
  have hN := h.nodes.setMode hi hv z
  rw [set_self] at hN
  refine ⟨hN, h.hbase, fun j hj hvj => ?_, h.apart, h.off⟩
  rw [List.length_set] at hj
  have hk := (h.kids j hj hvj).same (W' := W.setCell ⟨g, i * 6 + 1, none⟩ (.int .i64 z)) fun k hk => Below.heap_setCell _ _ _ _ (fun e => h.off j hvj (hk.trans (congrArg some (show k = g from e))))
  rw [List.getElem_set]
  split
  · rename_i e; subst e; exact hk
  · exact hk
theorem heap_sets (b : Nat) : ∀ (l : List Value) (o : Nat) (w : World) (k : Nat), k ≠ b → (w.setCells b o l).heap[k]? = w.heap[k]?
  | [], _, _, _, _ => rfl
  | v :: r, o, w, k, h => by
    show ((w.setCell ⟨b, o, none⟩ v).setCells b (o + 1) r).heap[k]? = _
    rw [heap_sets b r _ _ k h]
    exact Below.heap_setCell _ _ _ _ h
/-- An inode without names is laid in the place of another one. -/
theorem OwnT.setNode (h : OwnT W base g cap L vs) {i : Nat} (hi : i < L.length) (x : Ino) (hx : x.kids = []) : OwnT (W.setCells g (i * 6) (inoC x (.slice none 0 0))) base g cap (L.set i x) (vs.set i (.slice none 0 0)) := by
  have hv : i < vs.length := by rw [h.nodes.len]; exact hi
  refine ⟨h.nodes.setNode hi hv x _, h.hbase, fun j hj hvj => ?_, fun j k hj hk hjk => ?_, fun j hj => ?_⟩
  · rw [List.length_set] at hj hvj
    by_cases e : i = j
    · subst e
      rw [List.getElem_set_self, List.getElem_set_self, hx]
      exact KidsOwn.nil _ _
    · rw [List.getElem_set_ne e, List.getElem_set_ne e]
      exact (h.kids j hj hvj).same fun k hk => heap_sets _ _ _ _ _ (fun e => h.off j hvj (e ▸ hk))
  · rw [List.length_set] at hj hk
    rw [List.getElem_set, List.getElem_set]
    by_cases e1 : i = j
    · rw [if_pos e1]
      exact Or.inl rfl
    · rw [if_neg e1]
      by_cases e2 : i = k
      · rw [if_pos e2]
        cases hq : vs[j].ownBlock with
        | none => exact Or.inl rfl
        | some k => exact Or.inr fun e3 => by cases e3
      · rw [if_neg e2]
        exact h.apart j k hj hk hjk
  · rw [List.length_set] at hj
    rw [List.getElem_set]
    split
    · exact fun e => by cases e
    · exact h.off j hj
end
end Go.Proofs.YtogheigpcppeiaaGreat

namespace Go.Proofs.YtogheigpcppeiaaGreat
set_option maxRecDepth 100000
open Go Go.RowKit Go.Shelf

attribute [local go_sem] Oper.semAt_some

/-- Block Bn stands as it stood. -/
def KeepB (Bn : Nat) (W W' : World) : Prop := W'.heap[Bn]? = W.heap[Bn]?
theorem keepB_t {Bn : Nat} {A B C : World} (h : KeepB Bn A B) (k : KeepB Bn B C) : KeepB Bn A C := Eq.trans k h
theorem keepB_b {Bn : Nat} {w : World} (hb : Bn < w.heap.size) (W : World) (l : Nat) (o o' : Obj) (hl : w.heap.size ≤ l) (_ : W.heap[l]? = some o) (_ : o.isCells = false) (_ : o.isWalk = false) : KeepB Bn W (W.putObj l o') :=
  by
  show (W.putObj l o').heap[Bn]? = W.heap[Bn]?
  simp only [World.putObj]
  rw [Array.getElem?_setIfInBounds_ne (by omega)]

/-- The names D are done, the rest r stands before us. -/
def Rest (s : List UInt8) (D : List (List UInt8)) (r : List UInt8) : Prop := r.length ≤ s.length ∧ partsL s = D ++ partsL r
theorem Rest.start (s : List UInt8) : Rest s [] s := ⟨Nat.le_refl _, rfl⟩
theorem Rest.skip {s r : List UInt8} {D : List (List UInt8)} (h : Rest s D r) (hh : headL r = []) : Rest s D (tailL r) := by
  refine ⟨Nat.le_trans (tail_len r) h.1, ?_⟩
  rw [h.2, parts_step r, if_pos hh, List.nil_append]
theorem Rest.takes {s r : List UInt8} {D : List (List UInt8)} (h : Rest s D r) (hh : headL r ≠ []) : Rest s (D ++ [headL r]) (tailL r) := by
  refine ⟨Nat.le_trans (tail_len r) h.1, ?_⟩
  rw [h.2, parts_step r, if_neg hh, List.append_assoc]
theorem Rest.done {s : List UInt8} {D : List (List UInt8)} (h : Rest s D []) : D = partsL s := by
  rw [h.2]
  simp [partsL, partsGo]
theorem Rest.pre {s r : List UInt8} {D : List (List UInt8)} (h : Rest s D r) : D <+: partsL s := ⟨partsL r, h.2.symm⟩

def IRel (s : ByteArray) (Bn : Nat) (J : List (List UInt8) → World → Prop) (r : Value) (wr : World) : Prop :=
  ∃ (l : List UInt8) (D : List (List UInt8)), r = .string ⟨l.toArray⟩ ∧ Rest s.data.toList D l ∧ J D wr ∧ wr.cell? ⟨Bn, 0, none⟩ = some (.string s)

def lenOf : Value → Nat
  | .string b => b.size
  | _ => 0

theorem list_empty (l : List UInt8) : ((⟨l.toArray⟩ : ByteArray).toList.isEmpty) = l.isEmpty := by rw [ByteArray.toList_eq]

theorem cut_list (l : List UInt8) (hs : l.length ≤ 1073741824) (w : World) :
    Calls Tryz.prog 96 #[.string ⟨l.toArray⟩, .string ⟨#[47]⟩] w fun e w' => (∃ b, e = .returned (.tuple #[.string ⟨(headL l).toArray⟩, .string ⟨(tailL l).toArray⟩, .bool b])) ∧ Drawn w w' :=
  cut_any ⟨l.toArray⟩ (by show l.toArray.size ≤ _; simpa using hs) w

/-- A fence that shuts nothing out. -/
structure Open (F : Fence) : Prop where
  fn : ∀ f, F.fn f
  ro : F.round = none
  calls : ∀ {n : Nat} {P : Program} {f : FuncId} {args : Array Value} {w : World} {R : Ending → World → Prop}, Calls P f args w R → CallsIn F n P f args w R
theorem open_wide : Open Fence.wide := ⟨fun _ => trivial, rfl, fun h => callsIn_wide.2 h⟩

set_option maxRecDepth 100000 in
set_option maxHeartbeats 2000000 in
theorem names1_in (F : Fence) (hF : Open F) (n : Nat) (hn : 1 ≤ n) (l Bn : Nat) (s : ByteArray) (hs : s.size ≤ 1073741824) (J Jx : List (List UInt8) → World → Prop) (hdr : ∀ pre W m, J pre W → J pre (W.drewN m))
    (hY : ∀ pre x W, J pre W → pre.length < (partsL s.data.toList).length → YieldAt F (n - 1) Tryz.prog l #[.string ⟨x.toArray⟩] W fun e W' =>
      (e = .returned (.bool true) ∧ J (pre ++ [x]) W' ∧ KeepB Bn W W') ∨ (e = .returned (.bool false) ∧ Jx (pre ++ [x]) W'))
    (W : World) (hBn : W.cell? ⟨Bn, 0, none⟩ = some (.string s)) (h0 : J [] W) :
    CallsIn F n Tryz.prog 95 #[.func (.yield l) #[] #[], .pointer (some ⟨Bn, 0, none⟩)] W fun e W' => (∃ v, e = .returned v) ∧
      ((∃ ys, ys = partsL s.data.toList ∧ J ys W') ∨ (∃ pre, pre <+: partsL s.data.toList ∧ Jx pre W')) := by
  have hsl := size_list s
  have hro : F.round = none := hF.ro
  have hfc : F.fn 96 := hF.fn _
  refine callsIn_of_wp Tryz.func95 rfl (hF.fn _) ?_ hro
  simp only [Tryz.ntmps95, List.size_toArray, List.length_cons, List.length_nil, Nat.reduceAdd, Nat.reduceSub, Array.replicate_succ, Array.replicate_zero, List.push_toArray, List.append_toArray, List.nil_append, List.cons_append]
  gi_wp2
  gi_loopw [3, 4] (fun r _ wr => IRel s Bn J r wr) (fun r _ _ => lenOf r)
  case atStart => exact ⟨s.data.toList, [], rfl, Rest.start _, h0, hBn⟩
  case round =>
    obtain ⟨r, D, rfl, hrest, hJ, hcell⟩ := hrel
    have HR := Lib.hid hrest
    have HJ := Lib.hid hJ
    clear hrest hJ
    have he := list_empty r
    cases hr : r.isEmpty with
    | true =>
      obtain rfl : r = [] := by simpa using hr
      have hfin := Lib.hid (Rest.done HR.out)
      gi_wp2
      go_end0
      exact ⟨⟨_, rfl⟩, .inl ⟨D, hfin.out, HJ.out⟩⟩
    | false =>
      have hrl : r.length ≤ 1073741824 := by have := HR.out.1; omega
      have hrn : r ≠ [] := fun e => by rw [e] at hr; cases hr
      have htl := tail_less r hrn
      have HT := Lib.hid htl
      clear htl hrn
      have he2 := list_empty (headL r)
      cases hh : (headL r).isEmpty with
      | true =>
        have hnext := Lib.hid (HR.out.skip (by simpa using hh))
        gi_wp2_with (gi_at_call 96; refine (hF.calls (cut_list r hrl _)).mono ?_; rintro e w' ⟨⟨b, rfl⟩, m, rfl⟩)
        refine ⟨fun _ h => (by cases h), ?_⟩
        gi_wp2
        go_roundw
        case rel => exact ⟨tailL r, D, rfl, hnext.out, hdr _ _ _ HJ.out, hcell⟩
        case measure => exact HT.out
      | false =>
        have hnext := Lib.hid (HR.out.takes (by simpa using hh))
        have hlen : D.length < (partsL s.data.toList).length := by
          have := (Rest.pre hnext.out).length_le
          simp at this
          omega
        gi_wp2_with (gi_at_call 96; refine (hF.calls (cut_list r hrl _)).mono ?_; rintro e w' ⟨⟨b, rfl⟩, m, rfl⟩; obtain ⟨fn, tmps, assign, body, hy, hR⟩ := hY D (headL r) _ (hdr _ _ m HJ.out) hlen)
        refine hR.mono ?_
        rintro e W3 (⟨rfl, hJ3, hk3⟩ | ⟨rfl, hJx3⟩)
        · have hcell3 : W3.cell? ⟨Bn, 0, none⟩ = some (.string s) := (World.cell?_of_block (w := wr.drewN m) (a := ⟨Bn, 0, none⟩) (show W3.heap[Bn]? = (wr.drewN m).heap[Bn]? from hk3)).trans hcell
          gi_wp2
          go_roundw
          case rel => exact ⟨tailL r, D ++ [headL r], rfl, hnext.out, hJ3, hcell3⟩
          case measure => exact HT.out
        · have hpre := Rest.pre hnext.out
          gi_wp2
          refine bodyPost_ret (results_none rfl _ _ _) rfl ?_
          exact ⟨⟨_, rfl⟩, .inr ⟨D ++ [headL r], hpre, hJx3⟩⟩

theorem names_in (F : Fence) (hF : Open F) (n : Nat) (s : ByteArray) (w : World) :
    CallsIn F n Tryz.prog 89 #[.string s] w fun e w' => e = .returned (.func (.func 95) #[] #[.pointer (some ⟨w.heap.size, 0, none⟩)]) ∧ w' = w.alloc (.cells #[.string s] 9) := by
  have hro : F.round = none := hF.ro
  refine callsIn_of_wp Tryz.func89 rfl (hF.fn _) ?_ hro
  simp only [Tryz.ntmps89, List.size_toArray, List.length_cons, List.length_nil, Nat.reduceAdd, Nat.reduceSub, Array.replicate_succ, Array.replicate_zero, List.push_toArray, List.append_toArray, List.nil_append, List.cons_append]
  gi_wp2
  go_ret
  exact ⟨rfl, rfl⟩

theorem drewN_grownBy (W : World) (m : Nat) : W.grownBy (W.drewN m) none := ⟨rfl, rfl, rfl, Nat.le_refl _, fun _ _ _ => rfl⟩

theorem names_stops (F : Fence) (hF : Open F) (n : Nat) (hn : 1 ≤ n) (Bn : Nat) (s : ByteArray) (hs : s.size ≤ 1073741824) (w : World) (hBn : Bn < w.heap.size)
    (hc : w.cell? ⟨Bn, 0, none⟩ = some (.string s)) :
    SeqStopsK F n Tryz.prog 95 #[.pointer (some ⟨Bn, 0, none⟩)] (fun x : List UInt8 => #[Value.string ⟨x.toArray⟩]) (KeepB Bn) (fun ys => ys = partsL s.data.toList) (fun pre => pre <+: partsL s.data.toList) (partsL s.data.toList).length w := fun l J Jx W hW hJ _ hY h0 =>
  names1_in F hF n hn l Bn s hs J Jx (fun pre W m h => hJ pre W _ none h (drewN_grownBy W m) (fun _ e => by cases e)) hY W ((hW.cell (p := ⟨Bn, 0, none⟩) hBn).trans hc) h0
end Go.Proofs.YtogheigpcppeiaaGreat

namespace Go.Proofs.YtogheigpcppeiaaGreat
set_option maxRecDepth 100000
open Go Go.RowKit

/-- The slice v reads as the texts L. -/
def View (w : World) (v : Value) (L : List (List UInt8)) : Prop :=
  ∃ a cap, v = .slice a L.length cap ∧ L.length ≤ cap ∧ cap ≤ maxLen ∧ ∀ i (hi : i < L.length), ∃ b o, a = some ⟨b, o, none⟩ ∧ w.cell? ⟨b, o + i, none⟩ = some (strv L[i])
/-- The slice v holds the texts L in a row of one's own, from block B on. -/
def Held (B : Nat) (w : World) (v : Value) (L : List (List UInt8)) : Prop :=
  (v = .slice none 0 0 ∧ L = []) ∨ ∃ g o cap cur, v = .slice (some ⟨g, o, none⟩) L.length cap ∧ B ≤ g ∧ L.length ≤ cap ∧ cap ≤ maxLen ∧ w.heap[g]? = some (.cells cur 9 (0, 0)) ∧ o + cap ≤ cur.size ∧ ∀ i (hi : i < L.length), cur[o + i]? = some (strv L[i])

theorem cell_in {w : World} {g i : Nat} {cur : Array Value} {t : TypeId} {fr : Nat × Nat} {u : Value} (h : w.heap[g]? = some (.cells cur t fr)) (hi : cur[i]? = some u) : w.cell? ⟨g, i, none⟩ = some u := by
  simp only [World.cell?, h]
  simpa using hi

theorem Held.view {B : Nat} {w : World} {v : Value} {L : List (List UInt8)} (h : Held B w v L) : View w v L := by
  rcases h with ⟨rfl, rfl⟩ | ⟨g, o, cap, cur, rfl, -, h2, h3, h4, -, h6⟩
  · exact ⟨none, 0, rfl, Nat.le_refl _, Nat.zero_le _, fun i hi => absurd hi (Nat.not_lt_zero _)⟩
  · exact ⟨_, cap, rfl, h2, h3, fun i hi => ⟨g, o, rfl, cell_in h4 (h6 i hi)⟩⟩
theorem Texts.held {B : Nat} {w : World} {v : Value} {L : List (List UInt8)} (h : Texts B w v L) : Held B w v L := by
  obtain ⟨h1, h2 | ⟨g, cap, cur, rfl, hg, hh, hn, hm, hs, ht⟩⟩ := h
  · obtain ⟨rfl, hn⟩ := h2
    exact Or.inl ⟨rfl, List.length_eq_zero_iff.1 hn⟩
  · refine Or.inr ⟨g, 0, cap, cur, rfl, hg, hn, hm, hh, by omega, fun i hi => ?_⟩
    have e1 : (cur.toList.take (L.length * 1))[i]? = (L.map strv)[i]? := by rw [ht]
    rw [List.getElem?_take, if_pos (by omega), List.getElem?_map, List.getElem?_eq_getElem hi] at e1
    rw [Nat.zero_add, ← Array.getElem?_toList]
    exact e1
theorem Texts.view {B : Nat} {w : World} {v : Value} {L : List (List UInt8)} (h : Texts B w v L) : View w v L := h.held.view
theorem View.below {w w' : World} {v : Value} {L : List (List UInt8)} (h : View w v L) (hb : Below w.heap.size w w') : View w' v L := by
  obtain ⟨a, cap, h1, h2, h3, h4⟩ := h
  refine ⟨a, cap, h1, h2, h3, fun i hi => ?_⟩
  obtain ⟨b, o, e1, e2⟩ := h4 i hi
  exact ⟨b, o, e1, cell_below hb e2⟩
theorem Held.kept {B : Nat} {w w' : World} {v : Value} {L : List (List UInt8)} (h : Held B w v L) (hk : ∀ g, v.ownBlock = some g → w'.heap[g]? = w.heap[g]?) : Held B w' v L := by
  rcases h with h | ⟨g, o, cap, cur, rfl, h1, h2, h3, h4, h5, h6⟩
  · exact Or.inl h
  · exact Or.inr ⟨g, o, cap, cur, rfl, h1, h2, h3, (hk g rfl).trans h4, h5, h6⟩
theorem Held.less {B B' : Nat} {w : World} {v : Value} {L : List (List UInt8)} (h : Held B w v L) (hB : B' ≤ B) : Held B' w v L := by
  rcases h with h | ⟨g, o, cap, cur, rfl, h1, h2⟩
  · exact Or.inl h
  · exact Or.inr ⟨g, o, cap, cur, rfl, by omega, h2⟩
theorem Held.own {B : Nat} {w : World} {v : Value} {L : List (List UInt8)} (h : Held B w v L) {g : Nat} (hg : v.ownBlock = some g) : B ≤ g ∧ ∃ cur, w.heap[g]? = some (.cells cur 9 (0, 0)) := by
  rcases h with ⟨rfl, -⟩ | ⟨g', o, cap, cur, rfl, h1, -, -, h4, -⟩
  · cases hg
  · obtain rfl : g' = g := by simpa [Value.ownBlock] using hg
    exact ⟨h1, cur, h4⟩
/-- The first or the last one is cut off. -/
theorem Held.tail {B : Nat} {w : World} {x : List UInt8} {L : List (List UInt8)} {g o cap : Nat} (h : Held B w (.slice (some ⟨g, o, none⟩) (L.length + 1) cap) (x :: L)) : Held B w (.slice (if cap = 1 then some ⟨g, o, none⟩ else some ⟨g, o + 1, none⟩) L.length (cap - 1)) L := by
  rcases h with ⟨h, -⟩ | ⟨g', o', cap', cur, e, h1, h2, h3, h4, h5, h6⟩
  · cases h
  · simp only [Value.slice.injEq, Option.some.injEq, Addr.mk.injEq, List.length_cons] at e h2
    obtain ⟨⟨rfl, rfl, -⟩, -, rfl⟩ := e
    by_cases hc : cap = 1
    · rw [if_pos hc]
      have h0 : L = [] := List.length_eq_zero_iff.1 (by omega)
      subst h0
      exact Or.inr ⟨g, o, cap - 1, cur, rfl, h1, by simp, by unfold maxLen at *; omega, h4, by omega, fun i hi => absurd hi (Nat.not_lt_zero _)⟩
    · rw [if_neg hc]
      refine Or.inr ⟨g, o + 1, cap - 1, cur, rfl, h1, by omega, by unfold maxLen at *; omega, h4, by omega, fun i hi => ?_⟩
      have := h6 (i + 1) (by simp only [List.length_cons]; omega)
      rw [show o + 1 + i = o + (i + 1) by omega, this]
      rfl
theorem Held.init {B : Nat} {w : World} {x : List UInt8} {L : List (List UInt8)} {g o cap : Nat} (h : Held B w (.slice (some ⟨g, o, none⟩) (L.length + 1) cap) (L ++ [x])) : Held B w (.slice (some ⟨g, o, none⟩) L.length cap) L := by
  rcases h with ⟨h, -⟩ | ⟨g', o', cap', cur, e, h1, h2, h3, h4, h5, h6⟩
  · cases h
  · simp only [Value.slice.injEq, Option.some.injEq, Addr.mk.injEq, List.length_append, List.length_cons, List.length_nil] at e h2
    obtain ⟨⟨rfl, rfl, -⟩, -, rfl⟩ := e
    refine Or.inr ⟨g, o, cap, cur, rfl, h1, by omega, h3, h4, h5, fun i hi => ?_⟩
    have := h6 i (by simp only [List.length_append, List.length_cons, List.length_nil]; omega)
    rw [this, List.getElem_append_left hi]
theorem View.tail {w : World} {x : List UInt8} {L : List (List UInt8)} {b o cap : Nat} (h : View w (.slice (some ⟨b, o, none⟩) (L.length + 1) cap) (x :: L)) : View w (.slice (if cap = 1 then some ⟨b, o, none⟩ else some ⟨b, o + 1, none⟩) L.length (cap - 1)) L := by
  obtain ⟨a, cap', e, h1, h2, h3⟩ := h
  simp only [Value.slice.injEq, List.length_cons] at e h1
  obtain ⟨rfl, -, rfl⟩ := e
  refine ⟨_, cap - 1, rfl, by omega, by unfold maxLen at *; omega, fun i hi => ?_⟩
  obtain ⟨b', o', e1, e2⟩ := h3 (i + 1) (by simp only [List.length_cons]; omega)
  simp only [Option.some.injEq, Addr.mk.injEq] at e1
  obtain ⟨rfl, rfl, -⟩ := e1
  refine ⟨b, o + 1, by rw [if_neg (by omega)], ?_⟩
  rw [show o + 1 + i = o + (i + 1) by omega, e2]
  rfl
theorem View.init {w : World} {x : List UInt8} {L : List (List UInt8)} {b o cap : Nat} (h : View w (.slice (some ⟨b, o, none⟩) (L.length + 1) cap) (L ++ [x])) : View w (.slice (some ⟨b, o, none⟩) L.length cap) L := by
  obtain ⟨a, cap', e, h1, h2, h3⟩ := h
  simp only [Value.slice.injEq, List.length_append, List.length_cons, List.length_nil] at e h1
  obtain ⟨rfl, -, rfl⟩ := e
  refine ⟨_, cap, rfl, by omega, h2, fun i hi => ?_⟩
  obtain ⟨b', o', e1, e2⟩ := h3 i (by simp only [List.length_append, List.length_cons, List.length_nil]; omega)
  refine ⟨b', o', e1, ?_⟩
  rw [e2, List.getElem_append_left hi]

theorem add_n (b o n : Nat) : (⟨b, o, none⟩ : Addr).add n = ⟨b, o + n, none⟩ := by
  unfold Addr.add
  split
  · rename_i h
    rw [h]
    rfl
  · rfl
theorem View.src {w : World} {x : Value} {L : List (List UInt8)} (h : View w x L) : Src Tryz.prog 1 42 x L.length (L.map strv) w := by
  obtain ⟨a, cap, rfl, h1, h2, h3⟩ := h
  cases a with
  | none =>
    have h0 : L = [] := by
      cases L with
      | nil => rfl
      | cons y r =>
        obtain ⟨b, o, e, -⟩ := h3 0 (by simp)
        cases e
    subst h0
    exact Src.ofNil w Tryz.underlying42 cap
  | some a =>
    refine Src.ofSlice w Tryz.underlying42 a L.length cap _ (by simp) (fun j u hu => ?_) (fun u hu => ?_)
    · rw [List.getElem?_map] at hu
      by_cases hj : j < L.length
      · rw [List.getElem?_eq_getElem hj] at hu
        obtain ⟨b, o, e, hc⟩ := h3 j hj
        simp only [Option.some.injEq] at e
        subst e
        rw [add_n, hc]
        exact hu
      · rw [List.getElem?_eq_none (by omega)] at hu
        cases hu
    · obtain ⟨z, -, rfl⟩ := List.mem_map.1 hu
      rfl

theorem info_str : ∃ i, Tryz.prog.info? 9 = some i ∧ i.zero = some (.string ByteArray.empty) ∧ i.size = 1 ∧ i.bytes = 16 := info_parts infoS

/-- append. -/
theorem run_append_held {B : Nat} {w : World} {v x : Value} {L L2 : List (List UInt8)} (h : Held B w v L) (hx : View w x L2) (hn : L.length + L2.length ≤ 1048576) (hB : B ≤ w.heap.size) (ty : TypeId) :
    ∃ v' w', (Builtin.append_ #[42, 42] ty #[v, x]).run Tryz.prog w = .ok v' w' ∧ Held B w' v' (L ++ L2) ∧ w.grownBy w' v.ownBlock ∧ ∀ k, v'.ownBlock = some k → v.ownBlock = some k ∨ w.heap.size ≤ k := by
  obtain ⟨i0, hi, hz0, hz1, hz2⟩ := info_str
  have hs := hx.src
  rw [← hz1] at hs
  have hlen : (L2.map strv).length = L2.length := by simp
  have hcell : ∀ i (hi : i < (L ++ L2).length), (L.map strv ++ L2.map strv)[i]? = some (strv (L ++ L2)[i]) := fun i hi => by
    rw [← List.map_append, List.getElem?_map, List.getElem?_eq_getElem hi]
    rfl
  -- a new row
  have grow : ∀ (base : Option Addr) (sCap : Nat) (row : Option Nat), sCap < L.length + L2.length → (Builtin.firstCells i0.size L.length (.slice base L.length sCap)).run Tryz.prog w.drew = .ok (L.map strv).toArray w.drew →
      ∃ v' w', (Builtin.append_ #[42, 42] ty #[.slice base L.length sCap, x]).run Tryz.prog w = .ok v' w' ∧ Held B w' v' (L ++ L2) ∧ w.grownBy w' row ∧ ∀ k, v'.ownBlock = some k → row = some k ∨ w.heap.size ≤ k := by
    intro base sCap row hlt hold
    have hr := run_append_grow_src w 42 42 ty 9 i0 (.string ByteArray.empty) Tryz.underlying42 hi hz0 base L.length sCap (L.map strv) hold x L2.length (L2.map strv) hs hlt (by omega) (growslice_fits (by omega) (by rw [hz2]; omega))
    refine ⟨_, _, hr, Or.inr ⟨w.heap.size, 0, _, _, by rw [List.length_append], hB, ?_, ?_, heap_alloc_new w.drew _, ?_, fun i hi => ?_⟩, ⟨rfl, rfl, rfl, by simp, fun k hk _ => Below.heap_alloc w.drew _ k hk⟩, fun k hk => Or.inr (by simp only [Value.ownBlock, Option.some.injEq] at hk; omega)⟩
    · rw [List.length_append]; exact grownCap_ge w _ sCap _
    · exact grownCap_le_maxLen w _ sCap _ (by unfold maxLen; omega)
    · have hge := grownCap_ge w (L.length + L2.length) sCap 9
      simp only [Array.size_append, List.size_toArray, List.length_append, List.length_map, size_zeroCells]
      show _ ≤ _ + _ * 1
      omega
    · have h1 := hcell i hi
      have hi' : i < (L.map strv ++ L2.map strv).length := by simpa using hi
      rw [Nat.zero_add, Array.getElem?_append_left (by simpa using hi')]
      rw [List.getElem?_toArray]
      exact h1
  rcases h with ⟨rfl, rfl⟩ | ⟨g, o, cap, cur, rfl, h1, h2, h3, h4, h5, h6⟩
  · by_cases hm : L2 = []
    · subst hm
      refine ⟨.slice none 0 0, w, ?_, Or.inl ⟨rfl, rfl⟩, ⟨rfl, rfl, rfl, Nat.le_refl _, fun _ _ _ => rfl⟩, fun k hk => by cases hk⟩
      have hc := hs.cells
      have hl := hs.len
      simp only [List.length_nil, List.map_nil] at hc hl
      have hl0 : ∀ w', (Builtin.lenOf (.slice none 0 0)).run Tryz.prog w' = .ok 0 w' := fun _ => rfl
      simp [Builtin.append_, run_underlying Tryz.underlying42, sizeOf, typeInfo, hi, hl, hc]
    · have hpos : 0 < L2.length := by
        cases L2 with
        | nil => exact absurd rfl hm
        | cons y r => simp
      exact grow none 0 _ (by simpa using hpos) (run_firstCells_none w.drew i0.size 0 0 0)
  · by_cases hroom : L.length + L2.length ≤ cap
    · have hst := run_storeCells_at Tryz.prog g (o + L.length) 9 (L2.map strv) 0 cur w h4 (by rw [hlen]; omega) hs.one
      simp only [Nat.add_zero] at hst
      have hc := hs.cells
      have hl := hs.len
      have hrun : (Builtin.append_ #[42, 42] ty #[.slice (some ⟨g, o, none⟩) L.length cap, x]).run Tryz.prog w = .ok (.slice (some ⟨g, o, none⟩) (L.length + L2.length) cap)
          (w.setRow g (cur.toList.take (o + L.length) ++ L2.map strv ++ cur.toList.drop (o + L.length + (L2.map strv).length)).toArray) := by
        rw [hz1] at hc
        simp [Builtin.append_, run_underlying Tryz.underlying42, sizeOf, typeInfo, hi, hz1, hl, hc, hroom, Addr.add_lit, hst]
      refine ⟨_, _, hrun, Or.inr ⟨g, o, cap, _, by rw [List.length_append], h1, by rw [List.length_append]; omega, h3, setRow_heap w g cur _ 9 _ h4, ?_, fun i hi => ?_⟩, ⟨rfl, rfl, rfl, by simp, fun k _ hk => setRow_other w g k _ (fun e => hk (by simp [Value.ownBlock, e]))⟩, fun k hk => Or.inl hk⟩
      · simp only [List.size_toArray, List.length_append, List.length_take, List.length_drop, List.length_map, Array.length_toList]
        omega
      · have hci := hcell i hi
        rw [List.length_append] at hi
        rw [List.getElem?_toArray]
        have hz : (cur.toList.take (o + L.length)).length = o + L.length := by
          rw [List.length_take, Array.length_toList]
          exact Nat.min_eq_left (show o + L.length ≤ cur.size by omega)
        by_cases hiL : i < L.length
        · have hlt : o + i < (cur.toList.take (o + L.length)).length := by omega
          rw [List.append_assoc, List.getElem?_append_left hlt, List.getElem?_take, if_pos (show o + i < o + L.length by omega), Array.getElem?_toList, h6 i hiL, List.getElem_append_left hiL]
        · have hge : (cur.toList.take (o + L.length)).length ≤ o + i := by omega
          have hlt : i - L.length < (L2.map strv).length := by omega
          rw [List.append_assoc, List.getElem?_append_right hge, hz, show o + i - (o + L.length) = i - L.length by omega, List.getElem?_append_left hlt]
          rw [List.getElem?_append_right (by rw [List.length_map]; omega), List.length_map] at hci
          exact hci
    · refine grow _ cap _ (by omega) ?_
      have hf := run_firstCells_some (P := Tryz.prog) w.drew i0.size L.length ⟨g, o, none⟩ L.length cap (L.map strv) (by rw [hz1]; simp) (fun j u hu => by
        rw [List.getElem?_map] at hu
        by_cases hj : j < L.length
        · rw [List.getElem?_eq_getElem hj] at hu
          rw [add_n]
          show w.cell? ⟨g, o + j, none⟩ = some u
          rw [cell_in h4 (h6 j hj)]
          exact hu
        · rw [List.getElem?_eq_none (by omega)] at hu
          cases hu)
      exact hf

theorem append_held {B : Nat} {w : World} {v x : Value} {L L2 : List (List UInt8)} (hT : Held B w v L) (hS : View w x L2) (hn : L.length + L2.length ≤ 1048576) (hB : B ≤ w.heap.size)
    {ops : Array Oper} {rest : List Oper} {o : Oper} {a : Act} {Q : Exit → Act → World → Prop} (hgd : o.guard = none) (s y : Operand)
    (ho : o.op = .call { callee := .builtin .append, args := #[s, y], argTypes := #[42, 42] }) (hs : a.eval s = v) (hx : a.eval y = x)
    (h : ∀ v' w', Held B w' v' (L ++ L2) → w.grownBy w' v.ownBlock → wpList Tryz.prog ops Q rest (a.put o.dst v') w') : wpList Tryz.prog ops Q (o :: rest) a w := by
  obtain ⟨v', w', hrun, h1, h2, -⟩ := run_append_held hT hS hn hB o.type
  refine wpList_plain hgd fun K hK => ?_
  unfold Oper.wp
  simp [execOp, ho, resolve, invoke, builtin, hs, hx, hrun, Result.andThen]
  exact hK _ _ (h v' w' h1 h2)

theorem step_append_held {B : Nat} {w : World} {v x : Value} {L L2 : List (List UInt8)} (hT : Held B w v L) (hS : View w x L2) (hn : L.length + L2.length ≤ 1048576) (hB : B ≤ w.heap.size)
    {ops : Array Oper} {o : Oper} {a : Act} {K : Act → World → Prop} {Q : Exit → Act → World → Prop} {E : Prop} (hgd : o.guard = none) (s y : Operand)
    (ho : o.op = Op.call { callee := Callee.builtin Builtin.append, args := #[s, y], argTypes := #[42, 42] }) (hs : a.eval s = v) (hx : a.eval y = x)
    (hK : ∀ v' w', Held B w' v' (L ++ L2) → w.grownBy w' v.ownBlock → (∀ k, v'.ownBlock = some k → v.ownBlock = some k ∨ w.heap.size ≤ k) → K (a.put o.dst v') w') :
    if Region.wanted o (yielded ops a.tmps) = true then Oper.wp Tryz.prog o a w K Q else E := by
  have hw : Region.wanted o (yielded ops a.tmps) = true := by simp [Region.wanted, hgd]
  rw [if_pos hw]
  obtain ⟨v', w', hrun, h1, h2, h3⟩ := run_append_held hT hS hn hB o.type
  unfold Oper.wp
  simp [execOp, ho, resolve, invoke, builtin, hs, hx, hrun, Result.andThen]
  exact hK _ _ h1 h2 h3

/-- No row of texts. -/
def notText : Obj → Bool
  | .cells _ t _ => t != 9
  | _ => true
/-- The way's block. -/
def WayAt (n₀ g : Nat) (T : Value × Value × Value) (W : World) (p : Int) (st : List (List UInt8)) (links : Int) : Prop :=
  g < n₀ ∧ ∃ v, W.heap[g]? = some (.cells #[T.1, T.2.1, T.2.2, .int .i64 p, v, .int .i64 links] 84 (0, 0)) ∧ Held n₀ W v st
/-- What a call on a way leaves as it was. -/
structure Moved (g : Nat) (W W' : World) : Prop where
  below : Below g W W'
  kept : ∀ (k : Nat) (o : Obj), W.heap[k]? = some o → k ≠ g → notText o = true → W'.heap[k]? = some o
theorem Moved.refl (g : Nat) (W : World) : Moved g W W := ⟨Below.refl _ _, fun _ _ h _ _ => h⟩
theorem Moved.trans {g : Nat} {A B C : World} (h : Moved g A B) (k : Moved g B C) : Moved g A C := ⟨h.below.trans k.below, fun i o hi hg ho => k.kept i o (h.kept i o hi hg ho) hg ho⟩
theorem Moved.of_below {g : Nat} {W W' : World} (h : Below W.heap.size W W') (hg : g ≤ W.heap.size) : Moved g W W' := ⟨h.mono hg, fun k _o hk _ _ => (h.block k (Array.getElem?_eq_some_iff.1 hk).1).trans hk⟩
theorem not_text {o : Obj} (h : o.isCells = false) : notText o = true := by cases o <;> first | rfl | cases h
theorem Moved.set {g : Nat} (W : World) (i : Nat) (u : Value) : Moved g W (W.setCell ⟨g, i, none⟩ u) :=
  ⟨(Below.refl _ _).setCell (p := ⟨g, i, none⟩) (Nat.le_refl _) _, fun k _o hk hg _ => (Below.heap_setCell W ⟨g, i, none⟩ u k hg).trans hk⟩
theorem Moved.grown {n₀ g : Nat} {W W' : World} {v : Value} {st : List (List UInt8)} (hg : W.grownBy W' v.ownBlock) (hv : Held n₀ W v st) (hn : g < n₀) (hs : g ≤ W.heap.size) : Moved g W W' := by
  refine ⟨(Below.refl _ _).grown hg hs (fun k hk => by have := (hv.own hk).1; omega), fun k o hk _ ho => ?_⟩
  refine (hg.block k (Array.getElem?_eq_some_iff.1 hk).1 (fun e => ?_)).trans hk
  obtain ⟨-, cur, hc⟩ := hv.own e.symm
  rw [hc] at hk
  cases hk
  cases ho

theorem set_heap {W : World} {g : Nat} {cs : Array Value} {t : TypeId} {fr : Nat × Nat} (h : W.heap[g]? = some (.cells cs t fr)) (i : Nat) (u : Value) : (W.setCell ⟨g, i, none⟩ u).heap[g]? = some (.cells (cs.setIfInBounds i u) t fr) := by
  obtain ⟨hlt, hk⟩ := Array.getElem?_eq_some_iff.1 h
  show (W.heap.modify g _)[g]? = _
  rw [Array.getElem?_eq_getElem (by rw [Array.size_modify]; exact hlt), Array.getElem_modify_self, hk]
  rfl
theorem held_set {n₀ g : Nat} {W : World} {v : Value} {st : List (List UInt8)} (h : Held n₀ W v st) (hg : g < n₀) (i : Nat) (u : Value) : Held n₀ (W.setCell ⟨g, i, none⟩ u) v st :=
  h.kept fun k hk => Below.heap_setCell W ⟨g, i, none⟩ u k (by have := (h.own hk).1; show k ≠ g; omega)
theorem WayAt.lt {n₀ g : Nat} {T : Value × Value × Value} {W : World} {p : Int} {st : List (List UInt8)} {links : Int} (h : WayAt n₀ g T W p st links) : g < W.heap.size := by
  obtain ⟨_, v, h, -⟩ := h
  exact (Array.getElem?_eq_some_iff.1 h).1
theorem WayAt.below {n₀ g : Nat} {T : Value × Value × Value} {W W' : World} {p : Int} {st : List (List UInt8)} {links : Int} (h : WayAt n₀ g T W p st links) (hb : Below W.heap.size W W') : WayAt n₀ g T W' p st links := by
  have hlt := h.lt
  obtain ⟨hg, v, h1, h2⟩ := h
  refine ⟨hg, v, (hb.block g hlt).trans h1, h2.kept fun k hk => ?_⟩
  obtain ⟨-, cur, hc⟩ := h2.own hk
  exact hb.block k (Array.getElem?_eq_some_iff.1 hc).1
theorem WayAt.drew {n₀ g : Nat} {T : Value × Value × Value} {W : World} {p : Int} {st : List (List UInt8)} {links : Int} (h : WayAt n₀ g T W p st links) : WayAt n₀ g T W.drew p st links := h
/-- What turns no cells leaves a way. -/
theorem WayAt.own {n₀ g : Nat} {T : Value × Value × Value} {W W' : World} {p : Int} {st : List (List UInt8)} {links : Int} (h : WayAt n₀ g T W p st links) {row : Option Nat} (hg : W.grownBy W' row) (hr : ∀ r, row = some r → ∃ o : Obj, W.heap[r]? = some o ∧ o.isCells = false) : WayAt n₀ g T W' p st links := by
  obtain ⟨h0, v, h1, h2⟩ := h
  refine ⟨h0, v, (grownBy_keeps_cells hg hr h1 rfl).trans h1, h2.kept fun k hk => ?_⟩
  obtain ⟨-, cur, hc⟩ := h2.own hk
  exact grownBy_keeps_cells hg hr hc rfl
end Go.Proofs.YtogheigpcppeiaaGreat

namespace Go.Proofs.YtogheigpcppeiaaGreat
set_option maxRecDepth 100000
open Go Go.RowKit

/-- No operation defers a call. -/
def noDefers (ops : Array Oper) : Bool := ops.toList.all fun o => match o.op with | .defer _ => false | _ => true
theorem noDefers_spec {ops : Array Oper} (h : noDefers ops = true) {i : Nat} {o : Oper} (ho : ops[i]? = some o) : ∀ c, o.op ≠ .defer c := by
  intro c hc
  have h1 := List.all_eq_true.1 h o (by
    obtain ⟨hi, rfl⟩ := Array.getElem?_eq_some_iff.1 ho
    simp)
  rw [hc] at h1
  cases h1

/-- The end of a region that neither panics nor leaves. -/
def onlyN (K : Act → World → Prop) (e : Exit) (a : Act) (w : World) : Prop := e = .normal ∧ K a w

theorem oper_in {ro : Option Nat} {n : Nat} {P : Program} {o : Oper} {a : Act} {w : World} {K K' R : Act → World → Prop} {Q : Exit → Act → World → Prop} (hd : ∀ c, o.op ≠ .defer c)
    (h : o.wp P a w K (onlyN R)) (hK : ∀ a w, K a w → K' a w) : o.wpIn { Fence.wide with round := ro } n P a w K' Q := by
  refine ⟨fun _ _ => trivial, ?_⟩
  rw [Oper.semAt_eq _ _ _ hd]
  unfold Oper.wp at h
  generalize (execOp a.eval o).run P w = r at h ⊢
  cases r with
  | ok x w' =>
    cases x with
    | value v => exact hK _ _ h
    | skip => exact hK _ _ h
    | defer d => exact hK _ _ h
    | enter f args =>
      refine ⟨fun h0 => (by cases h0), ?_⟩
      refine (show CallsIn Fence.wide (n - 1) P f args w' _ from callsIn_wide.2 (Calls.mono h fun e w'' he => ?_))
      cases e with
      | returned v => exact hK _ _ he
      | panicked c => exact absurd he.1 (by simp)
      | outgrown => obtain ⟨_, _, h1, _⟩ := he; cases h1
    | row row args =>
      refine ⟨fun h0 => (by cases h0), ?_⟩
      intro c cs _
      obtain ⟨v, w'', hr, hs⟩ := h c cs
      exact ⟨v, w'', hK _ _ hr, stepsIn_wide.2 hs⟩
    | _ => exact h.elim
  | halt x w' =>
    cases x with
    | panic v => exact absurd h.1 (by simp)
    | _ => exact h.elim

theorem op_in {ro : Option Nat} {n : Nat} {P : Program} {ops : Array Oper} {i : Nat} {a : Act} {w : World} {K K' R : Act → World → Prop} {Q : Exit → Act → World → Prop} (hd : noDefers ops = true)
    (h : wpOp P ops (onlyN R) i K a w) (hK : ∀ a w, K a w → K' a w) : wpOpIn { Fence.wide with round := ro } n P ops Q i K' a w := by
  unfold wpOp at h
  unfold wpOpIn
  cases ho : ops[i]? with
  | none => simp only [ho] at h ⊢; exact hK _ _ h
  | some o =>
    simp only [ho] at h ⊢
    split
    · rename_i hw
      rw [if_pos hw] at h
      rcases h with h | ⟨_, _, _, h1, _⟩
      · exact oper_in (noDefers_spec hd ho) h hK
      · cases h1
    · rename_i hw
      rw [if_neg hw] at h
      exact ⟨fun _ _ => trivial, hK _ _ h⟩

theorem any_in {ro : Option Nat} {n : Nat} {P : Program} {md : Region.Mode} {ops : Array Oper} {R : Act → World → Prop} {Q : Exit → Act → World → Prop} (hd : noDefers ops = true) (hQ : ∀ a w, R a w → Q .normal a w) :
    ∀ (fuel : Nat) (listed : Array Bool) (a : Act) (w : World), wpAny P md ops (onlyN R) fuel listed a w → wpAnyIn { Fence.wide with round := ro } n P md ops Q fuel listed a w
  | 0, _, _, _, h => ⟨h.1, hQ _ _ h.2.2⟩
  | fuel + 1, _listed, _a, _w, h => ⟨fun h0 => hQ _ _ (h.1 h0).2, fun i hi => op_in hd (h.2 i hi) fun a' w' h' => any_in hd hQ fuel _ a' w' h'⟩

/-- A region in a round, whatever its order. -/
theorem region_in {ro : Option Nat} {n : Nat} {P : Program} {id : Nat} {ops : Array Oper} {Q : Exit → Act → World → Prop} {a : Act} {w : World} (hm : P.follows .mixedOrders = true) (hd : noDefers ops = true)
    (h : wpAny P .any ops (onlyN (Q .normal)) ops.size (Array.replicate ops.size false) a w.drew) : (Code.region id ops true).wpIn { Fence.wide with round := ro } n P Q a w :=
  wpIn_region_any hm (any_in hd (fun _ _ h => h) _ _ _ _ h)

/-- A quiet region in a round. -/
theorem region_in_quiet {ro : Option Nat} {n : Nat} {P : Program} {id : Nat} {ops : List Oper} {C : World → Prop} {Q : Exit → Act → World → Prop} {a : Act} {w : World} (hm : P.follows .mixedOrders = true) (hd : noDefers ops.toArray = true)
    (hB : Region.lexB .any ops.toArray = true) (hC : C w.drew)
    (h : wpQuiet P ops.toArray C (fun a' => ∀ w', C w' → Q .normal a' w') ops a) : (Code.region id ops.toArray true).wpIn { Fence.wide with round := ro } n P Q a w := by
  refine region_in hm hd ?_
  simp only [Region.lexB, Bool.and_eq_true] at hB
  refine wpAny_of_quiet (Q := fun a' => ∀ w', C w' → Q .normal a' w') (fun _ w' hw' h => ⟨rfl, h w' hw'⟩) _ _ _ _ hC ?_
  have := wpAnyQ_lex (C := C) (md := .any) hB.1 ops 0 (Array.replicate ops.toArray.size false) a (by simp) (by simpa using hB.2) (by simpa using h)
  simpa using this

/-- A region with held cells in a round. -/
theorem region_in_held {ro : Option Nat} {n : Nat} {P : Program} {id : Nat} {ops : Array Oper} {S : World → Prop} {Q : Exit → Act → World → Prop} {a : Act} {w : World} (hm : P.follows .mixedOrders = true) (hd : noDefers ops = true)
    (h : wpAnyH P .any ops (onlyN (Q .normal)) S ops.size (Array.replicate ops.size false) a w.drew) : (Code.region id ops true).wpIn { Fence.wide with round := ro } n P Q a w :=
  region_in hm hd (wpAny_of_held _ _ _ _ h)

/-! ### A function that holds a label -/

theorem stepR_scope {P : Program} {b : Frame} {a : Act} {k : List Item} {cs : List Frame} {w : World} {c : Code} : step P (lone (b.atR a (.code (.scope c) :: k)) cs w) = .next (lone (b.atR a (.code c :: .inScope c :: k)) cs w) :=
  step_lone_go (by simp [stepG, stepG.exec, Frame.atR])
theorem stepR_inScope {P : Program} {b : Frame} {a : Act} {k : List Item} {cs : List Frame} {w : World} {c : Code} : step P (lone (b.atR a (.inScope c :: k)) cs w) = .next (lone (b.atR a k) cs w) :=
  step_lone_go (by simp [stepG, stepG.exec, Frame.atR])
theorem scope_in {F : Fence} {n : Nat} {P : Program} {Q : Exit → Act → World → Prop} {a : Act} {w : World} {c : Code} (hro : F.round = none) (h : c.wpIn F n P (Exit.noGoto Q) a w) : (Code.scope c).wpIn F n P Q a w := by
  intro b k cs hb0 hb hr
  have h0 : (lone (b.atR a (.code (.scope c) :: k)) cs w).fenced P F := fenced_calm hb hr rfl
  have hbn : b.roundOf = none := hb0.trans hro
  obtain ⟨e, a₁, w₁, hq, harr⟩ := h b (.inScope c :: k) cs hb0 hb hr
  cases e with
  | normal => exact ⟨.normal, a₁, w₁, hq, .head h0 stepR_scope (StepsIn.trans harr (.one (fenced_calm hb hr rfl) stepR_inScope))⟩
  | exit id => exact ⟨.exit id, a₁, w₁, hq, fun k' hk => .head h0 stepR_scope (harr.1 k' (by simp [exitTo, hk])), fun hs => (by rw [hbn] at hs; cases hs)⟩
  | goto l => exact hq.elim
  | ret => exact ⟨_, a₁, w₁, hq, .of_steps (.one h0 stepR_scope) harr⟩
  | panic ch => exact ⟨_, a₁, w₁, hq, .of_steps (.one h0 stepR_scope) harr⟩
  | outgrown => exact ⟨_, a₁, w₁, hq, .of_steps (.one h0 stepR_scope) harr⟩
theorem label_in {F : Fence} {n : Nat} {P : Program} {Q : Exit → Act → World → Prop} {a : Act} {w : World} {l : Nat} {c : Code} (h : c.wpIn F n P Q a w) : (Code.seq (.label l) c).wpIn F n P Q a w := wpIn_seq (wpIn_label h)

/-! ### A range over a function whose rounds change what the iterator goes by -/

/-- How the body of a round may be left. -/
def stPost {σ : Type} (B : Nat) (T : σ → Prop) (I : σ → World → Prop) (Ix : Code → World → Prop) (W : World) : Exit → Act → World → Prop
  | .normal, _, W' => KeepsFrom B W W' ∧ ∃ s', T s' ∧ I s' W'
  | .ret, _, W' => KeepsFrom B W W' ∧ Ix .ret W'
  | .exit id, _, W' => KeepsFrom B W W' ∧ Ix (.exit id) W'
  | .goto t, _, W' => KeepsFrom B W W' ∧ Ix (.goto t) W'
  | .panic _, _, _ => False
  | .outgrown, _, _ => False

/-- What an iterator owes a caller that keeps a state. -/
def SeqSt {σ : Type} (F : Fence) (n : Nat) (P : Program) (g : Nat) (lb : Array Value) (E : σ → Array Value) (I Ip : σ → World → Prop) (Nx : σ → σ → Prop) (S : World → Prop) (s0 : σ) : Prop :=
  ∀ (l : Nat) (G Jx : World → Prop) (W : World), (∀ A B, G A → KeepsOthers A B → G B) →
    (∀ s W1, Ip s W1 → G W1 → YieldAt F (n - 1) P l (E s) W1 fun e W' => (e = .returned (.bool true) ∧ ∃ s', Nx s s' ∧ I s' W' ∧ G W') ∨ (e = .returned (.bool false) ∧ Jx W')) →
    I s0 W → G W →
    CallsIn F n P g (#[.func (.yield l) #[] #[]] ++ lb) W fun e W' => (∃ v, e = .returned v) ∧ ((S W' ∧ G W') ∨ Jx W')

theorem range_st {σ : Type} {F : Fence} {n : Nat} {P : Program} {g : Operand} {ps : Array Tmp} {assign body : Code} {Q : Exit → Act → World → Prop} {a : Act} {w : World}
    (hro : F.round = none) (h1 : 1 ≤ n) {gf : Nat} {lb : Array Value} (hg : a.eval g = .func (.func gf) #[] lb) (hFg : F.fn gf) (eg : ∀ args w, (callFunc gf args).run P w = .ok (.enter gf args) w)
    {E : σ → Array Value} {I Ip : σ → World → Prop} {Nx : σ → σ → Prop} {S : World → Prop} {s0 : σ} (hseq : SeqSt F (n - 1) P gf lb E I Ip Nx S s0) (hps : ∀ s, (E s).size = ps.size)
    (Ix : Code → World → Prop) (hI : OwnFrom w.heap.size I) (hIp : OwnFrom w.heap.size Ip) (hIx : ∀ c, OwnFrom w.heap.size (fun (_ : Unit) W => Ix c W)) (hS : OwnFrom w.heap.size (fun (_ : Unit) W => S W)) (h0 : I s0 w) (a₁ : σ → Act)
    (hassign : ∀ (l : Nat) (s : σ) (W : World) (K : Act → World → Prop), K (a₁ s) W →
      assign.wpIn (F.inRound l) (n - 1 - 1) P (Exit.then K (fun _ _ _ => False)) { tmps := (ps.zip (E s)).foldl (fun t (p, v) => t.setIfInBounds p v) a.tmps, defers := [] } W)
    (hbody : ∀ (l : Nat) (s : σ) (W : World), Ip s W → body.wpIn (F.inRound l) (n - 1 - 1) P (stPost w.heap.size (Nx s) I Ix W) (a₁ s) W)
    (hdone : ∀ (D : Nat) (W : World), w.heap.size ≤ D → S W → W.heap[D]? = some (.deferred (some [])) → Q .normal { a with defers := { target := .collected D, args := #[] } :: a.defers } W)
    (hstop : ∀ (D : Nat) (c : Code) (W : World), w.heap.size ≤ D → Ix c W → W.heap[D]? = some (.deferred (some [])) → c.wpIn F n P Q { a with defers := { target := .collected D, args := #[] } :: a.defers } W) :
    (Code.rangeFunc g ps assign body).wpIn F n P Q a w := by
  refine wpIn_rangeFunc ?_
  intro fn hfn
  rw [hro]
  obtain ⟨rc, hrc⟩ : ∃ rc : LoopState → Option Code → Loop, rc = fun st pe => { state := st, pending := pe, fn, tmps := a.tmps, params := ps, assign, body, defers := w.heap.size } := ⟨_, rfl⟩
  obtain ⟨V, hV⟩ : ∃ V, V = (w.alloc (.deferred (some []))).alloc (.loop (rc .ready none)) := ⟨_, rfl⟩
  have hVl : V.heap[w.heap.size + 1]? = some (.loop (rc .ready none)) := by
    have h := World.alloc_heap_new (w.alloc (.deferred (some []))) (.loop (rc .ready none))
    rw [World.size_alloc, ← hV] at h
    exact h
  have hVk : V.heap[w.heap.size]? = some (.deferred (some [])) := by
    rw [hV]
    exact (Below.heap_alloc _ _ _ (by simp)).trans (World.alloc_heap_new w _)
  have hVI : I s0 V := by rw [hV]; exact hI.alloc _ (hI.alloc _ h0)
  refine ⟨w.heap.size + 1, [{ target := .collected w.heap.size, args := #[] }], V, { target := .fn (.func gf) lb, args := #[.func (.yield (w.heap.size + 1)) #[] #[]] }, V, gf, #[.func (.yield (w.heap.size + 1)) #[] #[]] ++ lb, V, ?_, ?_, ?_, ?_, fun _ => h1, ?_⟩
  · rw [hV, hrc]
    exact run_enterLoop_outer _ _ _ _ _
  · simp only [resolve, hg]
    simp [go_sem]
  · intro f' hf'
    simp [Target.leads] at hf'
    subst hf'
    exact hFg
  · simp [invoke, go_sem, eg]
  · refine (hseq (w.heap.size + 1) (fun W => W.heap[w.heap.size + 1]? = some (.loop (rc .ready none)) ∧ W.heap[w.heap.size]? = some (.deferred (some [])))
      (fun W => ∃ c, Ix c W ∧ W.heap[w.heap.size + 1]? = some (.loop (rc .done (some c))) ∧ W.heap[w.heap.size]? = some (.deferred (some []))) V
      (fun A B h hk => ⟨hk.same _ _ h.1 rfl, hk.same _ _ h.2 rfl⟩) ?_ hVI ⟨hVl, hVk⟩).mono ?_
    · rintro s W hi ⟨hl, hk⟩
      have hlt : w.heap.size + 1 < W.heap.size := (Array.getElem?_eq_some_iff.1 hl).1
      have hy := run_yield (P := P) (args := E s) hl (by rw [hrc]; exact hps s)
      rw [hrc] at hy
      have hbeg := run_beginRound (P := P) hl (by rw [hrc])
      refine ⟨fn, _, assign, body, hy, roundIn_of_wpIn hfn (hassign _ s W _ ⟨_, hbeg, ?_⟩)⟩
      obtain ⟨U, hU⟩ : ∃ U, U = W.putObj (w.heap.size + 1) (.loop { rc .ready none with state := .busy }) := ⟨_, rfl⟩
      have hUl : U.heap[w.heap.size + 1]? = some (.loop { rc .ready none with state := .busy }) := by rw [hU]; exact World.putObj_heap_same hlt
      have hUk : U.heap[w.heap.size]? = some (.deferred (some [])) := by rw [hU]; exact (World.putObj_heap_other (by omega)).trans hk
      have hUI : Ip s U := by rw [hU]; exact hIp.putObj _ hi (by omega) hl rfl
      rw [← hU]
      have fin : ∀ (jump : Option Code) (W3 : World), KeepsFrom w.heap.size U W3 →
          (Instr.endRound (w.heap.size + 1) jump).run P W3 = .ok (.bool jump.isNone) (W3.putObj (w.heap.size + 1) (.loop (rc (if jump.isNone then .ready else .done) jump))) ∧
          W3.heap[w.heap.size + 1]? = some (.loop { rc .ready none with state := .busy }) ∧
          (W3.putObj (w.heap.size + 1) (.loop (rc (if jump.isNone then .ready else .done) jump))).heap[w.heap.size + 1]? = some (.loop (rc (if jump.isNone then .ready else .done) jump)) ∧
          (W3.putObj (w.heap.size + 1) (.loop (rc (if jump.isNone then .ready else .done) jump))).heap[w.heap.size]? = some (.deferred (some [])) := fun jump W3 hk3 => by
        have hl3 := hk3.same _ _ (by omega) hUl rfl
        have := run_endRound (P := P) jump hl3
        rw [hrc] at this ⊢
        exact ⟨this, by rw [hrc] at hl3; exact hl3, World.putObj_heap_same (Array.getElem?_eq_some_iff.1 hl3).1, (World.putObj_heap_other (by omega)).trans (hk3.same _ _ (Nat.le_refl _) hUk rfl)⟩
      refine wpIn_mono (hbody _ s U hUI) ?_
      rintro e a3 W3 hp
      cases e with
      | normal =>
        obtain ⟨hk3, s', hn3, hi3⟩ := hp
        obtain ⟨hr, hl3, hl4, hk4⟩ := fin none W3 hk3
        exact ⟨_, _, hr, .inl ⟨rfl, s', hn3, hI.putObj _ hi3 (by omega) hl3 rfl, hl4, hk4⟩⟩
      | ret =>
        obtain ⟨hk3, hi3⟩ := hp
        obtain ⟨hr, hl3, hl4, hk4⟩ := fin (some .ret) W3 hk3
        exact ⟨_, _, hr, .inr ⟨rfl, .ret, (hIx _).putObj (s := ()) _ hi3 (by omega) hl3 rfl, hl4, hk4⟩⟩
      | exit id =>
        obtain ⟨hk3, hi3⟩ := hp
        obtain ⟨hr, hl3, hl4, hk4⟩ := fin (some (.exit id)) W3 hk3
        exact ⟨_, _, hr, .inr ⟨rfl, .exit id, (hIx _).putObj (s := ()) _ hi3 (by omega) hl3 rfl, hl4, hk4⟩⟩
      | goto t =>
        obtain ⟨hk3, hi3⟩ := hp
        obtain ⟨hr, hl3, hl4, hk4⟩ := fin (some (.goto t)) W3 hk3
        exact ⟨_, _, hr, .inr ⟨rfl, .goto t, (hIx _).putObj (s := ()) _ hi3 (by omega) hl3 rfl, hl4, hk4⟩⟩
      | panic ch => exact hp.elim
      | outgrown => exact hp.elim
    · rintro e W2 ⟨⟨v, rfl⟩, (⟨hi, hl, hk⟩ | ⟨c, hi, hl, hk⟩)⟩
      · exact ⟨none, _, by have := run_endLoop (P := P) hl (by rw [hrc]; simp); rw [hrc] at this; exact this, hdone _ _ (Nat.le_refl _) (hS.putObj (s := ()) _ hi (by omega) hl rfl) ((World.putObj_heap_other (by omega)).trans hk)⟩
      · exact ⟨some c, _, by have := run_endLoop (P := P) hl (by rw [hrc]; simp); rw [hrc] at this; exact this, hstop _ c _ (Nat.le_refl _) ((hIx c).putObj (s := ()) _ hi (by omega) hl rfl) ((World.putObj_heap_other (by omega)).trans hk)⟩
end Go.Proofs.YtogheigpcppeiaaGreat

namespace Go.Proofs.YtogheigpcppeiaaGreat
set_option maxRecDepth 100000
open Go Go.RowKit Go.Shelf

attribute [local go_sem] Oper.semAt_some

/-- The box and the row stand as they stood. -/
def KeepR (Bx : Nat) (v : Value) (W W' : World) : Prop := W'.heap[Bx]? = W.heap[Bx]? ∧ ∀ k, v.ownBlock = some k → W'.heap[k]? = W.heap[k]?
theorem keepR_t {Bx : Nat} {v : Value} {A B C : World} (h : KeepR Bx v A B) (k : KeepR Bx v B C) : KeepR Bx v A C := ⟨k.1.trans h.1, fun i hi => (k.2 i hi).trans (h.2 i hi)⟩
theorem keepR_b {Bx : Nat} {v : Value} {w : World} (hb : Bx < w.heap.size) (hv : ∀ k, v.ownBlock = some k → k < w.heap.size) (W : World) (l : Nat) (o o' : Obj) (hl : w.heap.size ≤ l) (_ : W.heap[l]? = some o) (_ : o.isCells = false) (_ : o.isWalk = false) : KeepR Bx v W (W.putObj l o') :=
  ⟨World.putObj_heap_other (by omega), fun k hk => World.putObj_heap_other (by have := hv k hk; omega)⟩

theorem drewN_grown (W : World) (m : Nat) : W.grownBy (W.drewN m) none := ⟨rfl, rfl, rfl, Nat.le_refl _, fun _ _ _ => rfl⟩

/-- The row and its box as they stand in a world. -/
def RowIn (Bx : Nat) (v : Value) (B : Nat) (N : List (List UInt8)) (W : World) : Prop := W.cell? ⟨Bx, 0, none⟩ = some v ∧ Held B W v N
theorem RowIn.kept {Bx B : Nat} {v : Value} {N : List (List UInt8)} {W W' : World} (h : RowIn Bx v B N W) (hk : KeepR Bx v W W') : RowIn Bx v B N W' :=
  ⟨(World.cell?_of_block (w := W) (a := ⟨Bx, 0, none⟩) hk.1).trans h.1, h.2.kept hk.2⟩

set_option maxRecDepth 100000 in
set_option maxHeartbeats 4000000 in
theorem back1_in (F : Fence) (hF : Open F) (n : Nat) (hn : 1 ≤ n) (l Bx B : Nat) (v : Value) (N : List (List UInt8)) (hN : N.length ≤ 1048576) (J Jx : List (Nat × List UInt8) → World → Prop)
    (_hdr : ∀ pre W m, J pre W → J pre (W.drewN m))
    (hY : ∀ pre x W, J pre W → pre.length < N.length → YieldAt F (n - 1) Tryz.prog l #[.int .i64 (x.1 : Nat), .string ⟨x.2.toArray⟩] W fun e W' =>
      (e = .returned (.bool true) ∧ J (pre ++ [x]) W' ∧ KeepR Bx v W W') ∨ (e = .returned (.bool false) ∧ Jx (pre ++ [x]) W'))
    (W : World) (hR : RowIn Bx v B N W) (h0 : J [] W) :
    CallsIn F n Tryz.prog 91 #[.func (.yield l) #[] #[], .pointer (some ⟨Bx, 0, none⟩)] W fun e W' => (∃ u, e = .returned u) ∧
      ((∃ ys, ys.map Prod.snd = N.reverse ∧ J ys W') ∨ (∃ pre, True ∧ Jx pre W')) := by
  have hro : F.round = none := hF.ro
  obtain ⟨hc, hheld⟩ := hR
  obtain ⟨na, nc, rfl, hc1, hc2, -⟩ := hheld.view
  have HR := Lib.hid (show RowIn Bx (.slice na N.length nc) B N W from ⟨hc, hheld⟩)
  unfold maxLen at hc2
  refine callsIn_of_wp Tryz.func91 rfl (hF.fn _) ?_ hro
  simp only [Tryz.ntmps91, List.size_toArray, List.length_cons, List.length_nil, Nat.reduceAdd, Nat.reduceSub, Array.replicate_succ, Array.replicate_zero, List.push_toArray, List.append_toArray, List.nil_append, List.cons_append]
  gi_wp2
  gi_loopw [3] (fun iv wr => ∃ (k : Nat) (D : List (Nat × List UInt8)), k ≤ N.length ∧ iv = .int .i64 ((k : Int) - 1) ∧ Hid (D.map Prod.snd = (N.drop k).reverse) ∧ D.length + k = N.length ∧ Hid (J D wr) ∧ Hid (RowIn Bx (.slice na N.length nc) B N wr)) (fun iv _ => (intOf iv + 1).toNat)
  case atStart => exact ⟨N.length, [], Nat.le_refl _, by go_num, by simp [Hid], by simp, h0, HR.out⟩
  case round =>
    obtain ⟨k, D, hk, rfl, hD, hDl, hJ, hrow⟩ := hrel
    have HROW := Lib.hid hrow.out
    have hcr := hrow.out.1
    cases k with
    | zero =>
      have hfin := Lib.hid (show D.map Prod.snd = N.reverse by have := hD.out; simpa using this)
      clear hcr
      gi_wp2
      go_end0
      exact ⟨⟨_, rfl⟩, .inl ⟨D, hfin.out, hJ.out⟩⟩
    | succ k =>
      obtain ⟨na', nc', e, -, -, hcell⟩ := HROW.out.2.view
      simp only [Value.slice.injEq] at e
      obtain ⟨rfl, -, rfl⟩ := e
      obtain ⟨nb, no, rfl, hx⟩ := hcell k (by omega)
      unfold strv at hx
      have hk0 : (0 : Int) ≤ (k : Int) := by omega
      have hk1 : (k : Int) < (N.length : Int) := by omega
      have hnum : ((k + 1 : Nat) : Int) - 1 = (k : Int) := by omega
      rw [hnum]
      have HY := Lib.hid (hY D (k, N[k]) wr hJ.out (by omega))
      have hdrop := Lib.hid (show (D ++ [(k, N[k])]).map Prod.snd = (N.drop k).reverse by
        rw [List.map_append, hD.out, List.drop_eq_getElem_cons (show k < N.length by omega), List.reverse_cons]
        rfl)
      clear hcell hnum hY hD
      obtain ⟨fn, tmps, assign, body, hy, hR⟩ := HY.out
      have hy' : (Instr.yield l #[.int .i64 (k : Int), .string ⟨N[k].toArray⟩]).run Tryz.prog wr = .ok (.round l fn tmps assign body) wr := hy
      clear hy
      gi_wp2
      refine hR.mono ?_
      rintro e W3 (⟨rfl, hJ3, hk3⟩ | ⟨rfl, hJx3⟩)
      · have hrow3 := HROW.out.kept hk3
        have hc3 := hrow3.1
        have HR3 := Lib.hid hrow3
        have HJ3 := Lib.hid hJ3
        clear hrow3 hk3 hJ3 hcr hx
        gi_wp2
        go_roundw
        case rel => exact ⟨k, D ++ [(k, N[k])], by omega, by go_num, hdrop, by simp only [List.length_append, List.length_cons, List.length_nil]; omega, HJ3, HR3⟩
        case measure => simp [intOf] <;> omega
      · have HJX := Lib.hid hJx3
        clear hJx3 hcr hx
        gi_wp2
        refine bodyPost_ret (results_none rfl _ _ _) rfl ?_
        exact ⟨⟨_, rfl⟩, .inr ⟨_, trivial, HJX.out⟩⟩

theorem back_in (F : Fence) (hF : Open F) (n : Nat) (a : Option Addr) (len cap : Nat) (w : World) :
    CallsIn F n Tryz.prog 77 #[.slice a len cap] w fun e w' => e = .returned (.func (.func 91) #[] #[.pointer (some ⟨w.heap.size, 0, none⟩)]) ∧ w' = w.alloc (.cells #[.slice a len cap] 42) := by
  have hro : F.round = none := hF.ro
  refine callsIn_of_wp Tryz.func77 rfl (hF.fn _) ?_ hro
  simp only [Tryz.ntmps77, List.size_toArray, List.length_cons, List.length_nil, Nat.reduceAdd, Nat.reduceSub, Array.replicate_succ, Array.replicate_zero, List.push_toArray, List.append_toArray, List.nil_append, List.cons_append]
  gi_wp2
  go_ret
  exact ⟨rfl, rfl⟩

theorem rowIn_below {Bx B : Nat} {v : Value} {N : List (List UInt8)} {w W : World} (hb : Bx < w.heap.size) (hv : ∀ k, v.ownBlock = some k → k < w.heap.size) (hW : Below w.heap.size w W) (h : RowIn Bx v B N w) : RowIn Bx v B N W :=
  h.kept ⟨hW.block _ hb, fun k hk => hW.block _ (hv k hk)⟩

theorem back_stops (F : Fence) (hF : Open F) (n : Nat) (hn : 1 ≤ n) (Bx B : Nat) (v : Value) (N : List (List UInt8)) (hN : N.length ≤ 1048576) (w : World) (hb : Bx < w.heap.size) (hv : ∀ k, v.ownBlock = some k → k < w.heap.size) (hR : RowIn Bx v B N w) :
    SeqStopsK F n Tryz.prog 91 #[.pointer (some ⟨Bx, 0, none⟩)] (fun x : Nat × List UInt8 => #[Value.int .i64 (x.1 : Nat), Value.string ⟨x.2.toArray⟩]) (KeepR Bx v) (fun ys => ys.map Prod.snd = N.reverse) (fun _ => True) N.length w := fun l J Jx W hW hJ _ hY h0 =>
  back1_in F hF n hn l Bx B v N hN J Jx (fun pre W m h => hJ pre W _ none h (drewN_grown W m) (fun _ e => by cases e)) hY W (rowIn_below hb hv hW hR) h0
end Go.Proofs.YtogheigpcppeiaaGreat

namespace Go.Proofs.YtogheigpcppeiaaGreat
set_option maxRecDepth 100000
open Go Go.RowKit

theorem live_nat {L : List Ino} {n : Nat} (hn : n < L.length) : liveB L (n : Int) = (L[n].kind != 0) := by
  unfold liveB
  rw [there_of L n hn, node_nat L n hn, Bool.true_and]

set_option maxHeartbeats 1000000 in
theorem there4_known (a : Option Addr) (cap : Nat) (m b k : Int) (L : List Ino) (v : Bool) (hv : liveB L k = v) (w : World) (hN : NodesIn w a cap L) :
    Calls Tryz.prog 70 #[.agg #[.slice a L.length cap, .int .i64 m, .int .i64 b], .int .i64 k] w fun e w' => e = .returned (.bool v) ∧ Below w.heap.size w w' := by
  subst hv
  have hb1 := below_box w (.cells #[.slice a L.length cap, .int .i64 m, .int .i64 b] 24)
  have HB1 := Lib.hid hb1
  have hcap := hN.1
  have hmax := hN.2.1
  unfold maxLen at hmax
  cases ht : thereB L k with
  | true =>
    obtain ⟨n, rfl, hn⟩ := there_nat ht
    obtain ⟨bb, o, rfl, hx⟩ := (hN.below hb1).2.2 n hn
    have h1 := hx.kind
    have hd0 : (0 : Int) ≤ (n : Int) := by omega
    have hd1 : (n : Int) < (L.length : Int) := by omega
    have HV := Lib.hid (live_nat (L := L) hn)
    clear hN hb1 ht hx
    cases hk : (L[n].kind != 0)
    all_goals
      have HK := Lib.hid hk
      go_enter Tryz.func70, Tryz.ntmps70
      go_wp2_with fail
      go_ret
      exact ⟨by rw [HV.out, HK.out]; rfl, HB1.out⟩
  | false =>
    have hv : liveB L k = false := by unfold liveB; rw [ht]; rfl
    have HV := Lib.hid hv
    rcases there_not ht with h | h
    · clear hN hb1 ht hv
      go_enter Tryz.func70, Tryz.ntmps70
      go_wp2_with fail
      go_ret
      exact ⟨by rw [HV.out]; rfl, HB1.out⟩
    · have h0 : (0 : Int) ≤ k := by omega
      have h1 : ¬ k < (L.length : Int) := by omega
      have h2 : decide (k < (L.length : Int)) = false := decide_eq_false h1
      clear hN hb1 ht hv
      go_enter Tryz.func70, Tryz.ntmps70
      go_wp2_with fail
      go_ret
      exact ⟨by rw [HV.out]; rfl, HB1.out⟩

theorem dir_live (L : List Ino) (k : Int) : dirB L k = (liveB L k && (nodeAt L k).kind == 2) := by
  unfold dirB liveB
  cases thereB L k with
  | false => rfl
  | true =>
    rw [Bool.true_and, Bool.true_and]
    by_cases h : (nodeAt L k).kind = 2
    · rw [h]; rfl
    · have : ((nodeAt L k).kind == 2) = false := by simpa using h
      rw [this, Bool.and_false]

set_option maxHeartbeats 1000000 in
theorem dir4_known (a : Option Addr) (cap : Nat) (m b k : Int) (L : List Ino) (v : Bool) (hv : dirB L k = v) (w : World) (hN : NodesIn w a cap L) :
    Calls Tryz.prog 68 #[.agg #[.slice a L.length cap, .int .i64 m, .int .i64 b], .int .i64 k] w fun e w' => e = .returned (.bool v) ∧ Below w.heap.size w w' := by
  subst hv
  have hb1 := below_box w (.cells #[.slice a L.length cap, .int .i64 m, .int .i64 b] 24)
  have HB1 := Lib.hid hb1
  have hcap := hN.1
  have hmax := hN.2.1
  unfold maxLen at hmax
  have HM := Lib.hid (hN.below hb1)
  have HD := Lib.hid (dir_live L k)
  cases hl : liveB L k with
  | false =>
    have HL := Lib.hid hl
    have HV := Lib.hid (show dirB L k = false by rw [HD.out, hl]; rfl)
    clear hN hb1 hl
    go_enter Tryz.func68, Tryz.ntmps68
    go_wp2_with (first | (go_at_call 70; refine (there4_known _ _ _ _ _ L _ HL.out _ HM.out).mono ?_; rintro e w2 ⟨rfl, hb2⟩) | fail)
    go_ret
    exact ⟨by rw [HV.out]; rfl, HB1.out.trans (hb2.mono (by simp))⟩
  | true =>
    obtain ⟨n, rfl, hn⟩ := there_nat (live_there hl)
    have HL := Lib.hid hl
    obtain ⟨bb, o, rfl, hx⟩ := HM.out.2.2 n hn
    have h1 := hx.kind
    have hd0 : (0 : Int) ≤ (n : Int) := by omega
    have hd1 : (n : Int) < (L.length : Int) := by omega
    have HV := Lib.hid (show dirB L (n : Int) = (L[n].kind == 2) by rw [HD.out, hl, Bool.true_and, node_nat L n hn])
    clear hN hb1 hl hx
    cases hk : (L[n].kind == 2)
    all_goals
      have HK := Lib.hid hk
      go_enter Tryz.func68, Tryz.ntmps68
      go_wp2_with (first | (go_at_call 70; refine (there4_known _ _ _ _ _ L _ HL.out _ HM.out).mono ?_; rintro e w2 ⟨rfl, hb2⟩; obtain ⟨q0, q1, q2⟩ := box3 hb2; have h2 := cell_below hb2 h1) | fail)
      go_ret
      exact ⟨by rw [HV.out, HK.out]; rfl, HB1.out.trans (hb2.mono (by simp))⟩

/-- The reference's May, where what is asked for is out of its range. -/
theorem may4_out (a : Option Addr) (cap : Nat) (m b k what : Int) (L : List Ino) (h : what < 0 ∨ 7 < what) (w : World) :
    Calls Tryz.prog 49 #[.agg #[.slice a L.length cap, .int .i64 m, .int .i64 b], .int .i64 k, .int .i64 what] w fun e w' => e = .returned (.bool false) ∧ Below w.heap.size w w' := by
  have HB1 := Lib.hid (below_box w (.cells #[.slice a L.length cap, .int .i64 m, .int .i64 b] 24))
  rcases h with h | h
  · go_enter Tryz.func49, Tryz.ntmps49
    go_wp2_with fail
    go_ret
    exact ⟨rfl, HB1.out⟩
  · have h0 : ¬ what < 0 := by omega
    go_enter Tryz.func49, Tryz.ntmps49
    go_wp2_with fail
    go_ret
    exact ⟨rfl, HB1.out⟩

set_option maxHeartbeats 2000000 in
theorem may4_known (a : Option Addr) (cap : Nat) (m b k what : Int) (L : List Ino) (hw1 : 0 ≤ what) (hw2 : what ≤ 7) (hI : AllFit L) (w : World) (hN : NodesIn w a cap L) :
    Calls Tryz.prog 49 #[.agg #[.slice a L.length cap, .int .i64 m, .int .i64 b], .int .i64 k, .int .i64 what] w fun e w' => e = .returned (.bool (mayL L k what)) ∧ Below w.heap.size w w' := by
  have hb1 := below_box w (.cells #[.slice a L.length cap, .int .i64 m, .int .i64 b] 24)
  have HB1 := Lib.hid hb1
  have hcap := hN.1
  have hmax := hN.2.1
  unfold maxLen at hmax
  have HM := Lib.hid (hN.below hb1)
  cases hl : liveB L k with
  | false =>
    have HL := Lib.hid hl
    have HV := Lib.hid (show mayL L k what = false by unfold mayL; rw [hl]; simp)
    clear hN hb1 hl
    go_enter Tryz.func49, Tryz.ntmps49
    go_wp2_with (first | (go_at_call 70; refine (there4_known _ _ _ _ _ L _ HL.out _ HM.out).mono ?_; rintro e w2 ⟨rfl, hb2⟩) | fail)
    go_ret
    exact ⟨by rw [HV.out]; rfl, HB1.out.trans (hb2.mono (by simp))⟩
  | true =>
    obtain ⟨n, rfl, hn⟩ := there_nat (live_there hl)
    have HL := Lib.hid hl
    obtain ⟨bb, o, rfl, hx⟩ := HM.out.2.2 n hn
    have h1 := hx.mode
    have hd0 : (0 : Int) ≤ (n : Int) := by omega
    have hd1 : (n : Int) < (L.length : Int) := by omega
    have HV := Lib.hid (show mayL L (n : Int) what = bitsB L[n].mode what by unfold mayL; rw [hl, node_nat L n hn, decide_eq_true hw1, decide_eq_true hw2]; rfl)
    have hmr := mode_range hI (there_of L n hn)
    rw [node_nat L n hn] at hmr
    obtain ⟨q, hq⟩ : ∃ q, q = L[n].mode := ⟨_, rfl⟩
    rw [← hq] at h1 HV hmr
    obtain ⟨hq1, hq2⟩ := hmr
    rw [HV.out]
    have HB2 := Lib.hid (show ∀ w2, Below (w.alloc (.cells #[.slice (some ⟨bb, o, none⟩) L.length cap, .int .i64 m, .int .i64 b] 24)).heap.size (w.alloc (.cells #[.slice (some ⟨bb, o, none⟩) L.length cap, .int .i64 m, .int .i64 b] 24)) w2 → Below w.heap.size w w2 from fun w2 h => HB1.out.trans (h.mono (by simp)))
    clear hN hb1 hl hx hq hI
    go_enter Tryz.func49, Tryz.ntmps49
    go_wp2_with (first | (go_at_call 70; refine (there4_known _ _ _ _ _ L _ HL.out _ HM.out).mono ?_; rintro e w2 ⟨rfl, hb2⟩; obtain ⟨q0, q1, q2⟩ := box3 hb2; have h2 := cell_below hb2 h1) | fail)
    all_goals
      go_ret
      refine ⟨?_, HB2.out _ hb2⟩
      show Ending.returned (Value.bool _) = Ending.returned (Value.bool _)
      congr 2
      unfold bitsB
      simp [*]
end Go.Proofs.YtogheigpcppeiaaGreat

namespace Go.Proofs.YtogheigpcppeiaaGreat
set_option maxRecDepth 100000
open Go Go.RowKit

theorem may4_at (a : Option Addr) (cap : Nat) (m b k what : Int) (L : List Ino) (hI : AllFit L) (v : Bool) (hv : mayL L k what = v) (w : World) (hN : NodesIn w a cap L) :
    Calls Tryz.prog 49 #[.agg #[.slice a L.length cap, .int .i64 m, .int .i64 b], .int .i64 k, .int .i64 what] w fun e w' => e = .returned (.bool v) ∧ Below w.heap.size w w' := by
  subst hv
  by_cases h : 0 ≤ what ∧ what ≤ 7
  · exact may4_known a cap m b k what L h.1 h.2 hI w hN
  · have e : mayL L k what = false := by
      unfold mayL
      by_cases h1 : 0 ≤ what
      · rw [decide_eq_false (show ¬ what ≤ 7 from fun h2 => h ⟨h1, h2⟩)]
        simp
      · rw [decide_eq_false h1]
        rfl
    rw [e]
    exact may4_out a cap m b k what L (by omega) w
theorem rkid_known (a : Option Addr) (cap : Nat) (m b d : Int) (nm : List UInt8) (L : List Ino) (z : Int) (hz : kidL L d nm = z) (w : World) (hN : NodesIn w a cap L) :
    Calls Tryz.prog 47 #[.agg #[.slice a L.length cap, .int .i64 m, .int .i64 b], .int .i64 d, .string ⟨nm.toArray⟩] w fun e w' => e = .returned (.int .i64 z) ∧ Below w.heap.size w w' := by
  subst hz
  exact rkid_any a cap m b d nm L w hN

theorem str_dot (x : List UInt8) : (((⟨x.toArray⟩ : ByteArray)).toList == [46]) = (x == [46]) := by rw [ByteArray.toList_eq]
set_option maxRecDepth 100000 in
set_option maxHeartbeats 4000000 in
theorem step4_any (a : Option Addr) (cap : Nat) (m b p : Int) (x : List UInt8) (L : List Ino) (hI : AllFit L) (w : World) (hN : NodesIn w a cap L) :
    Calls Tryz.prog 86 #[.agg #[.slice a L.length cap, .int .i64 m, .int .i64 b], .int .i64 p, .string ⟨x.toArray⟩] w fun e w' => e = .returned (.tuple #[.int .i64 (stepW L p x).1, .int .i64 (stepW L p x).2]) ∧ Below w.heap.size w w' := by
  obtain ⟨w1, hw1⟩ : ∃ w1, w1 = w.alloc (.cells #[.slice a L.length cap, .int .i64 m, .int .i64 b] 24) := ⟨_, rfl⟩
  have hb1 := below_box w (.cells #[.slice a L.length cap, .int .i64 m, .int .i64 b] 24)
  have hM := hN.below hb1
  have hsz : w1.heap.size = w.heap.size + 1 := by rw [hw1]; simp
  have hbox : ∀ W', Below w1.heap.size w1 W' → W'.cell? ⟨w.heap.size, 0, none⟩ = some (.slice a L.length cap) ∧ W'.cell? ⟨w.heap.size, 1, none⟩ = some (.int .i64 m) ∧ W'.cell? ⟨w.heap.size, 2, none⟩ = some (.int .i64 b) := fun W' h => box3 (by rw [← hw1]; exact h)
  rw [← hw1] at hM hb1
  have HM := Lib.hid hM
  have HB := Lib.hid hb1
  have HX := Lib.hid hbox
  have HEND := Lib.hid (show ∀ W', Below w1.heap.size w1 W' → Below w.heap.size w W' from fun W' h => HB.out.trans (h.mono (by rw [hsz]; omega)))
  have hcap := hN.1
  have hmax := hN.2.1
  unfold maxLen at hmax
  have HI := Lib.hid hI
  obtain ⟨F, hF⟩ : ∃ F, F = stepW L p x := ⟨_, rfl⟩
  rw [← hF]
  have HF := Lib.hid hF
  clear hM hN hb1 hbox hsz hI hF
  cases hd : dirB L p with
  | false =>
    have HD := Lib.hid hd
    have HV := Lib.hid (show F = (0, 20) by rw [HF.out]; unfold stepW; rw [hd, if_pos rfl])
    clear hd
    go_enter Tryz.func86, Tryz.ntmps86
    go_wp2_with fail
    rw [← hw1]
    refine (dir4_known _ _ _ _ _ L _ HD.out _ HM.out).mono ?_
    rintro e w2 ⟨rfl, hb2⟩
    go_wp2_with fail
    go_ret2
    exact ⟨by rw [HV.out]; rfl, HEND.out _ hb2⟩
  | true =>
    obtain ⟨n, rfl, hn⟩ := dir_lt hd
    obtain ⟨bb, o, rfl, hx⟩ := HM.out.2.2 n hn
    have h5' := hx.up
    have HD := Lib.hid hd
    have hd0 : (0 : Int) ≤ (n : Int) := by omega
    have hd1 : (n : Int) < (L.length : Int) := by omega
    clear hx hd
    cases hm : mayL L (n : Int) 1 with
    | false =>
      have HMY := Lib.hid hm
      have HV := Lib.hid (show F = (0, 13) by rw [HF.out]; unfold stepW; rw [HD.out, hm, if_neg (by simp), if_pos rfl])
      clear hm
      go_enter Tryz.func86, Tryz.ntmps86
      go_wp2_with fail
      rw [← hw1]
      refine (dir4_known _ _ _ _ _ L _ HD.out _ HM.out).mono ?_
      rintro e w2 ⟨rfl, hb2⟩
      have HB2 := Lib.hid hb2
      obtain ⟨q0, q1, q2⟩ := HX.out _ hb2
      clear hb2 h5'
      go_wp2_with fail
      refine (may4_at _ _ _ _ _ _ L HI.out _ HMY.out _ (HM.out.below HB2.out)).mono ?_
      rintro e w3 ⟨rfl, hb3⟩
      have HB3 := Lib.hid (HB2.out.trans (hb3.mono HB2.out.size))
      clear hb3 q0 q1 q2
      go_wp2_with fail
      go_ret2
      exact ⟨by rw [HV.out]; rfl, HEND.out _ HB3.out⟩
    | true =>
      have HMY := Lib.hid hm
      have HV := Lib.hid (show F = if x = [46] then ((n : Int), 0) else if x = [46, 46] then ((nodeAt L (n : Int)).up, 0) else if kidL L (n : Int) x < 0 then (0, 2) else (kidL L (n : Int) x, 0) by rw [HF.out]; unfold stepW; rw [HD.out, hm, if_neg (by simp), if_neg (by simp)])
      clear hm
      go_enter Tryz.func86, Tryz.ntmps86
      go_wp2_with fail
      rw [← hw1]
      refine (dir4_known _ _ _ _ _ L _ HD.out _ HM.out).mono ?_
      rintro e w2 ⟨rfl, hb2⟩
      have HB2 := Lib.hid hb2
      obtain ⟨q0, q1, q2⟩ := HX.out _ hb2
      have h5'' := cell_below hb2 h5'
      clear hb2 h5' hw1
      go_wp2_with fail
      refine (may4_at _ _ _ _ _ _ L HI.out _ HMY.out _ (HM.out.below HB2.out)).mono ?_
      rintro e w3 ⟨rfl, hb3⟩
      have HB3 := Lib.hid (HB2.out.trans (hb3.mono HB2.out.size))
      have h5 := cell_below hb3 h5''
      clear hb3 q0 q1 q2 h5''
      obtain ⟨q0, q1, q2⟩ := HX.out _ HB3.out
      cases hx1 : (x == [46]) with
      | true =>
        have HW := Lib.hid (show F = ((n : Int), 0) by rw [HV.out, if_pos (by simpa using hx1)])
        go_wp2_with fail
        go_ret2
        exact ⟨by rw [HW.out]; rfl, HEND.out _ HB3.out⟩
      | false =>
        have hne1 : ¬ x = [46] := by simpa using hx1
        cases hx2 : (x == [46, 46]) with
        | true =>
          have HW := Lib.hid (show F = (L[n].up, 0) by rw [HV.out, if_neg hne1, if_pos (by simpa using hx2), node_nat L n hn])
          clear hne1
          go_wp2_with fail
          go_ret2
          exact ⟨by rw [HW.out]; rfl, HEND.out _ HB3.out⟩
        | false =>
          have hne2 : ¬ x = [46, 46] := by simpa using hx2
          obtain ⟨z, hz⟩ : ∃ z, kidL L (n : Int) x = z := ⟨_, rfl⟩
          have HZ := Lib.hid hz
          have HW := Lib.hid (show F = if z < 0 then (0, 2) else (z, 0) by rw [HV.out, if_neg hne1, if_neg hne2, hz])
          clear hne1 hne2 hz
          go_wp2_with fail
          refine (rkid_known _ _ _ _ _ _ L z HZ.out _ (HM.out.below HB3.out)).mono ?_
          rintro e w4 ⟨rfl, hb4⟩
          have HB4 := Lib.hid (HB3.out.trans (hb4.mono HB3.out.size))
          clear hb4 q0 q1 q2 h5
          by_cases hz0 : z < 0
          · have HW2 := Lib.hid (show F = (0, 2) by rw [HW.out, if_pos hz0])
            go_wp2_with fail
            go_ret2
            exact ⟨by rw [HW2.out]; rfl, HEND.out _ HB4.out⟩
          · have HW2 := Lib.hid (show F = (z, 0) by rw [HW.out, if_neg hz0])
            have hz1 : 0 ≤ z := by omega
            clear hz0
            go_wp2_with fail
            go_ret2
            exact ⟨by rw [HW2.out]; rfl, HEND.out _ HB4.out⟩

set_option maxHeartbeats 1000000 in
theorem begin4_any (cwd : Int) (p : List UInt8) (w : World) :
    Calls Tryz.prog 66 #[.int .i64 cwd, .string ⟨p.toArray⟩] w fun e w' => e = .returned (.int .i64 (beginW cwd p)) ∧ w = w' := by
  cases h : wholeL p
  all_goals
    have HV := Lib.hid h
    have hw := rwhole_any ⟨p.toArray⟩ w
    have e1 : (⟨p.toArray⟩ : ByteArray).data.toList = p := rfl
    rw [e1, h] at hw
    have HW := Lib.hid hw
    clear hw h e1
    go_enter Tryz.func66, Tryz.ntmps66
    go_wp2_with (first | (go_at_call 87; refine HW.out.mono ?_; rintro e w' ⟨rfl, rfl⟩) | fail)
    go_ret
    exact ⟨by unfold beginW; rw [HV.out]; rfl, rfl⟩
end Go.Proofs.YtogheigpcppeiaaGreat

namespace Go.Proofs.YtogheigpcppeiaaGreat
set_option maxRecDepth 100000
open Go Go.RowKit

def sliceLen : Value → Nat
  | .slice _ n _ => n
  | _ => 0

def WRel (L : List Ino) (last : Bool) (R : Int × Int) (w1 : World) (pv nv lv : Value) (wr : World) : Prop :=
  ∃ (n k : Nat) (N : List (List UInt8)) (p : Int), k + n = 8 ∧ pv = .int .i64 p ∧ lv = .int .i64 k ∧ N.length ≤ 5000 + k * 2000 ∧ Hid (View wr nv N) ∧ Hid (R = wayW L last n N p) ∧ Below w1.heap.size w1 wr

theorem wrel_view {wr : World} {nv : Value} {x : List UInt8} {r : List (List UInt8)} (h : View wr nv (x :: r)) : ∃ b o cap, nv = .slice (some ⟨b, o, none⟩) (r.length + 1) cap ∧ r.length + 1 ≤ cap ∧ cap ≤ maxLen ∧ wr.cell? ⟨b, o, none⟩ = some (.string ⟨x.toArray⟩) := by
  obtain ⟨a, cap, rfl, h1, h2, h3⟩ := h
  obtain ⟨b, o, e, hc⟩ := h3 0 (by simp)
  subst e
  exact ⟨b, o, cap, rfl, h1, h2, hc⟩

set_option maxRecDepth 100000 in
set_option maxHeartbeats 8000000 in
theorem way4_any (a : Option Addr) (cap : Nat) (m b p0 : Int) (last : Bool) (N0 : List (List UInt8)) (hN0 : N0.length ≤ 5000) (v0 : Value) (L : List Ino) (hF : FitP L m b) (w : World) (hN : NodesIn w a cap L) (hV : View w v0 N0) :
    Calls Tryz.prog 65 #[.agg #[.slice a L.length cap, .int .i64 m, .int .i64 b], .int .i64 p0, v0, .bool last] w fun e w' => e = .returned (.tuple #[.int .i64 (wayW L last 8 N0 p0).1, .int .i64 (wayW L last 8 N0 p0).2]) ∧ Below w.heap.size w w' := by
  obtain ⟨w1, hw1⟩ : ∃ w1, w1 = w.alloc (.cells #[.slice a L.length cap, .int .i64 m, .int .i64 b] 24) := ⟨_, rfl⟩
  have hb1 := below_box w (.cells #[.slice a L.length cap, .int .i64 m, .int .i64 b] 24)
  have hM := hN.below hb1
  have hVM := hV.below hb1
  have hsz : w1.heap.size = w.heap.size + 1 := by rw [hw1]; simp
  have hbox : ∀ W', Below w1.heap.size w1 W' → W'.cell? ⟨w.heap.size, 0, none⟩ = some (.slice a L.length cap) ∧ W'.cell? ⟨w.heap.size, 1, none⟩ = some (.int .i64 m) ∧ W'.cell? ⟨w.heap.size, 2, none⟩ = some (.int .i64 b) := fun W' h => box3 (by rw [← hw1]; exact h)
  rw [← hw1] at hM hb1 hVM
  have HM := Lib.hid hM
  have HB := Lib.hid hb1
  have HX := Lib.hid hbox
  have HEND := Lib.hid (show ∀ W', Below w1.heap.size w1 W' → Below w.heap.size w W' from fun W' h => HB.out.trans (h.mono (by rw [hsz]; omega)))
  have hcap := hN.1
  have hmax := hN.2.1
  unfold maxLen at hmax
  have HF := Lib.hid hF
  have HVM := Lib.hid hVM
  have hgw : w.heap.size < w1.heap.size := by omega
  obtain ⟨R, hR⟩ : ∃ R, R = wayW L last 8 N0 p0 := ⟨_, rfl⟩
  rw [← hR]
  have HR := Lib.hid hR
  clear hM hN hV hVM hb1 hbox hsz hF hR
  go_enter Tryz.func65, Tryz.ntmps65
  go_wp2_with fail
  rw [← hw1]
  clear hw1
  go_loopw [1, 2, 10, 11, 12, 13, 14] (fun pv nv lv _ _ _ _ wr => WRel L last R w1 pv nv lv wr) (fun _ nv lv _ _ _ _ _ => (8 - (intOf lv).toNat) * 30000 + sliceLen nv)
  case atStart => exact ⟨8, 0, N0, p0, rfl, rfl, rfl, by omega, HVM, HR, Below.refl _ _⟩
  case round =>
    obtain ⟨n, k, N, p, hkn, rfl, rfl, hNl, hview, hgoal, hbr⟩ := hrel
    have HVW := Lib.hid hview.out
    have HG := Lib.hid hgoal.out
    have HBR := Lib.hid hbr
    have hszr := hbr.size
    obtain ⟨q0, q1, q2⟩ := HX.out _ hbr
    clear hview hgoal hbr
    cases N with
    | nil =>
      obtain ⟨na, ncap, rfl, -, -, -⟩ := HVW.out
      have HW := Lib.hid (show R = (p, 0) by rw [HG.out, wayW_nil])
      clear q0 q1 q2
      go_wp2_with fail
      go_ret2
      exact ⟨by rw [HW.out]; rfl, HEND.out _ HBR.out⟩
    | cons x r =>
      obtain ⟨nb, no, ncap, rfl, hc1, hc2, hx0⟩ := wrel_view HVW.out
      unfold maxLen at hc2
      simp only [List.length_cons] at hNl
      obtain ⟨z, hz⟩ : ∃ z, z = (stepW L p x).1 := ⟨_, rfl⟩
      obtain ⟨er, her⟩ : ∃ er, er = (stepW L p x).2 := ⟨_, rfl⟩
      have HST := Lib.hid (show stepW L p x = (z, er) by rw [hz, her])
      have H1 := Lib.hid (grown_call (wb := wr) (fun W hW => by
        have h := step4_any a cap m b p x L HF.out.ins W (HM.out.below (HBR.out.trans (hW.mono hszr)))
        rw [HST.out] at h
        exact h))
      have f0 := grown_cell q0
      have f1 := grown_cell q1
      have f2 := grown_cell q2
      have f3 := grown_cell hx0
      have hi1 : (1 : Int) ≤ ((r.length : Int) + 1) := by omega
      have hi2 : ((r.length : Int) + 1) ≤ (ncap : Int) := by omega
      have hi3 : (0 : Int) < ((r.length : Int) + 1) := by omega
      have hpos : (0 : Int) < ((r.length + 1 : Nat) : Int) := by omega
      clear hz her q0 q1 q2 hx0
      go_wp2_with fail
      refine wp_region_grown (by kernel_rfl) (by kernel_rfl) ?_
      repeat (first | go_big_quiet_skip | (go_big_quiet_want; go_big_quiet_op; (first | go_big_quiet_on | (refine ⟨_, H1.out, ?_⟩; go_big_quiet_on))))
      refine wpQuiet_nil ?_
      intro w8 hw8
      have hbg : Below wr.heap.size wr w8 := by obtain ⟨x, rfl⟩ := hw8; exact x.below
      have HB8 := Lib.hid (HBR.out.trans (hbg.mono hszr))
      have HV8 := Lib.hid (HVW.out.below hbg)
      obtain ⟨q0, q1, q2⟩ := HX.out _ HB8.out
      have hs8 := HB8.out.size
      clear hw8 hbg f0 f1 f2 f3 H1
      cases he : (er != 0) with
      | true =>
        have HW := Lib.hid (show R = (0, er) by rw [HG.out, wayW_err _ _ _ _ _ _ (by rw [HST.out]; simpa using he), HST.out])
        go_wp2_with fail
        go_ret2
        exact ⟨by rw [HW.out]; rfl, HEND.out _ HB8.out⟩
      | false =>
        have he0 : er = 0 := by simpa using he
        subst he0
        have hlive := step_ok HF.out (show (stepW L p x).2 = 0 by rw [HST.out])
        rw [HST.out] at hlive
        obtain ⟨u, hu, hul⟩ := there_nat (live_there hlive)
        have hzu : z = (u : Int) := hu
        subst hzu
        obtain ⟨bb, o, rfl, hx⟩ := (HM.out.below HB8.out).2.2 u hul
        have x0 := hx.kind
        have x3 := hx.data
        have hd0 : (0 : Int) ≤ (u : Int) := by omega
        have hd1 : (u : Int) < (L.length : Int) := by omega
        obtain ⟨ta, hta⟩ : ∃ ta, (if ncap = 1 then (some ⟨nb, no, none⟩ : Option Addr) else some ⟨nb, no + 1, none⟩) = ta := ⟨_, rfl⟩
        have htl := HV8.out.tail
        rw [hta] at htl
        have HTL := Lib.hid htl
        have HND := Lib.hid (node_nat L u hul)
        clear hx hlive hu he htl
        cases hk3 : (L[u].kind != 3) with
        | true =>
          have HGO := Lib.hid (show R = wayW L last n r (u : Int) by rw [HG.out, wayW_on _ _ _ _ _ _ _ HST.out (Or.inl (by rw [HND.out]; simpa using hk3))])
          clear x3
          go_wp2_with fail
          go_roundw
          case rel => exact ⟨n, k, r, (u : Int), hkn, rfl, rfl, by omega, HTL, HGO, HB8.out⟩
          case measure => simp [intOf, sliceLen] <;> omega
        | false =>
          have hk3' : L[u].kind = 3 := by simpa using hk3
          by_cases hlast : r = [] ∧ last = false
          · obtain ⟨rfl, rfl⟩ := hlast
            have HGO := Lib.hid (show R = wayW L false n [] (u : Int) by rw [HG.out, wayW_on _ _ _ _ _ _ _ HST.out (Or.inr ⟨rfl, rfl⟩)])
            clear x3
            go_wp2_with fail
            go_roundw
            case rel => exact ⟨n, k, [], (u : Int), hkn, rfl, rfl, by simp, HTL, HGO, HB8.out⟩
            case measure => simp [intOf, sliceLen] <;> omega
          · have HNL := Lib.hid (show ¬ ((nodeAt L (u : Int)).kind ≠ 3 ∨ (r = [] ∧ last = false)) from fun h => by
              rcases h with h | h
              · exact h (by rw [HND.out]; exact hk3')
              · exact hlast h)
            obtain ⟨hd1024, -⟩ := link_data HF.out.ins (there_of L u hul) (by rw [HND.out]; exact hk3')
            rw [HND.out] at hd1024
            obtain ⟨d, hde⟩ : ∃ d, d = L[u].data := ⟨_, rfl⟩
            rw [← hde] at x3 hd1024
            have HDE := Lib.hid (show (nodeAt L (u : Int)).data = d by rw [HND.out, hde])
            have HTLV := Lib.hid HTL.out
            cases n with
            | zero =>
              obtain rfl : k = 8 := by omega
              have HW := Lib.hid (show R = (0, 40) by rw [HG.out, wayW_loop _ _ _ _ _ _ HST.out HNL.out])
              clear hde x3
              by_cases hr0 : r = []
              · subst hr0
                obtain rfl : last = true := by
                  cases last with
                  | true => rfl
                  | false => exact absurd ⟨rfl, rfl⟩ hlast
                go_wp2_with fail
                go_ret2
                exact ⟨by rw [HW.out]; rfl, HEND.out _ HB8.out⟩
              · have hrl : ((r.length : Int) == 0) = false := by
                  rw [beq_eq_false_iff_ne]
                  exact fun e => hr0 (List.length_eq_zero_iff.1 (by omega))
                clear hr0
                go_wp2_with fail
                go_ret2
                exact ⟨by rw [HW.out]; rfl, HEND.out _ HB8.out⟩
            | succ n =>
              have hk8 : (k : Int) < 8 := by omega
              have HP := Lib.hid (show (partsL d).length ≤ 1025 by have := count_parts d; omega)
              have HGO := Lib.hid (show R = wayW L last n (partsL d ++ r) (if wholeL d then 0 else p) by rw [HG.out, wayW_link _ _ _ _ _ _ _ HST.out HNL.out, HDE.out])
              have hwh := rwhole_any ⟨d.toArray⟩
              have e1 : (⟨d.toArray⟩ : ByteArray).data.toList = d := rfl
              rw [e1] at hwh
              have HWH := Lib.hid hwh
              have hpa := rparts_any ⟨d.toArray⟩ (by show d.toArray.size ≤ _; simp; omega)
              rw [e1] at hpa
              have HPA := Lib.hid hpa
              have HRL := Lib.hid (show r.length ≤ 5000 + k * 2000 by omega)
              clear hde hwh hpa e1 HTL
              have hcase : (((r.length : Int) == 0) = true ∧ last = true) ∨ ((r.length : Int) == 0) = false := by
                by_cases hr0 : r = []
                · subst hr0
                  cases last with
                  | true => exact Or.inl ⟨by simp, rfl⟩
                  | false => exact absurd ⟨rfl, rfl⟩ hlast
                · refine Or.inr ?_
                  rw [beq_eq_false_iff_ne]
                  exact fun e => hr0 (List.length_eq_zero_iff.1 (by omega))
              clear hlast
              rcases hcase with ⟨hrl, rfl⟩ | hrl
              all_goals
                cases hw : wholeL d
                all_goals
                  have HW := Lib.hid hw
                  rw [hw] at HWH HGO
                  clear hw
                  go_wp2_with (first | (go_at_call 87; refine (HWH.out _).mono ?_; rintro e w' ⟨rfl, rfl⟩) | (go_at_call 67; refine (HPA.out _).mono ?_; rintro e w9 ⟨v9, rfl, hT9, hb9⟩; have HV9 := Lib.hid hT9.view; have HB9 := Lib.hid (HB8.out.trans (hb9.mono hs8)); have HTL9 := Lib.hid (HTLV.out.below hb9); have HP2 := Lib.hid HP.out; clear hT9 hb9 HPA) | (at_builtin; refine append_held (B := w9.heap.size) (L := []) (Or.inl ⟨rfl, rfl⟩) HV9.out (by have := HP2.out; simp only [List.length_nil]; omega) (Nat.le_refl _) rfl _ _ rfl rfl rfl ?_; intro v10 w10 hH10 hg10; rw [List.nil_append] at hH10; have hB10 : Below w9.heap.size w9 w10 := (Below.refl _ _).grown hg10 (Nat.le_refl _) (fun k hk => by cases hk); have HTL10 := Lib.hid (HTL9.out.below hB10); have HH10 := Lib.hid hH10; have hs10 := hB10.size; have HB10 := Lib.hid hB10; clear hH10 hg10 hB10 HP2) | (at_builtin; refine append_held HH10.out HTL10.out (by have := HP.out; have := HRL.out; omega) hs10 rfl _ _ rfl rfl rfl ?_; intro v11 w11 hH11 hg11; have HB11 := Lib.hid (HB9.out.trans ((HB10.out.trans ((Below.refl _ _).grown hg11 hs10 (fun k hk => (HH10.out.own hk).1))).mono HB9.out.size)); (obtain ⟨N2, hN2⟩ : ∃ N2, N2 = partsL d ++ r := ⟨_, rfl⟩); rw [← hN2] at hH11; have HN2 := Lib.hid hN2; have HV11 := Lib.hid hH11.view; (obtain ⟨na, nc, hv11⟩ : ∃ na nc, v11 = .slice na N2.length nc := (by obtain ⟨na, nc, e, -⟩ := HV11.out; exact ⟨na, nc, e⟩)); clear hH11 hg11 hN2; subst hv11) | fail)
                  go_roundw
                  case rel => exact ⟨n, k + 1, N2, _, by omega, rfl, by go_num, by have := HP.out; have := HRL.out; rw [HN2.out, List.length_append]; omega, HV11, by rw [HN2.out]; exact HGO, HB11.out⟩
                  case measure =>
                    have := HP.out
                    have := HRL.out
                    have h2 : N2.length = (partsL d).length + r.length := by rw [HN2.out, List.length_append]
                    simp only [intOf, sliceLen]
                    omega
end Go.Proofs.YtogheigpcppeiaaGreat

namespace Go.Proofs.YtogheigpcppeiaaGreat
set_option maxRecDepth 100000
open Go Go.RowKit

theorem longB_of (p : List UInt8) (h : p.length ≤ 1024) : longB p = (partsL p).any fun x => decide (64 < x.length) := by
  unfold longB
  rw [decide_eq_false (by omega), Bool.false_or]

set_option maxRecDepth 100000 in
set_option maxHeartbeats 4000000 in
theorem bad4_any (a : Option Addr) (cap : Nat) (m b cwd : Int) (p : List UInt8) (hp : p.length ≤ 1073741824) (L : List Ino) (w : World) (hN : NodesIn w a cap L) :
    Calls Tryz.prog 64 #[.agg #[.slice a L.length cap, .int .i64 m, .int .i64 b], .int .i64 cwd, .string ⟨p.toArray⟩] w fun e w' => e = .returned (.int .i64 (badW L cwd p)) ∧ Below w.heap.size w w' := by
  have hb1 := below_box w (.cells #[.slice a L.length cap, .int .i64 m, .int .i64 b] 24)
  have HM := Lib.hid (hN.below hb1)
  have HB1 := Lib.hid hb1
  have hs := str_len p
  obtain ⟨R, hR⟩ : ∃ R, R = badW L cwd p := ⟨_, rfl⟩
  rw [← hR]
  have HR := Lib.hid hR
  clear hN hb1 hR
  by_cases hp0 : p = []
  · subst hp0
    have HW := Lib.hid (show R = 2 by rw [HR.out]; unfold badW; rw [if_pos (Or.inl rfl)])
    go_enter Tryz.func64, Tryz.ntmps64
    go_wp2_with fail
    go_ret
    exact ⟨by rw [HW.out]; rfl, HB1.out⟩
  · have hpb : (p == []) = false := by simpa using hp0
    cases hd : dirB L cwd with
    | false =>
      have HD := Lib.hid hd
      have HW := Lib.hid (show R = 2 by rw [HR.out]; unfold badW; rw [if_pos (Or.inr hd)])
      clear hd hp0
      go_enter Tryz.func64, Tryz.ntmps64
      go_wp2_with (first | (go_at_call 68; refine (dir4_known _ _ _ _ _ L _ HD.out _ HM.out).mono ?_; rintro e w2 ⟨rfl, hb2⟩) | fail)
      go_ret
      exact ⟨by rw [HW.out]; rfl, HB1.out.trans (hb2.mono (by simp))⟩
    | true =>
      have HD := Lib.hid hd
      have HW := Lib.hid (show R = if longB p then 36 else 0 by rw [HR.out]; unfold badW; rw [if_neg (by simp [hp0, hd])])
      clear hd hp0
      by_cases hl : 1024 < p.length
      · have HW2 := Lib.hid (show R = 36 by rw [HW.out]; unfold longB; rw [decide_eq_true hl]; rfl)
        go_enter Tryz.func64, Tryz.ntmps64
        go_wp2_with (first | (go_at_call 68; refine (dir4_known _ _ _ _ _ L _ HD.out _ HM.out).mono ?_; rintro e w2 ⟨rfl, hb2⟩) | fail)
        go_ret
        exact ⟨by rw [HW2.out]; rfl, HB1.out.trans (hb2.mono (by simp))⟩
      · have HW2 := Lib.hid (show R = if (partsL p).any fun x => decide (64 < x.length) then 36 else 0 by rw [HW.out, longB_of p (by omega)])
        have hpa := rparts_any ⟨p.toArray⟩ (by rw [hs]; exact hp)
        have e1 : (⟨p.toArray⟩ : ByteArray).data.toList = p := rfl
        rw [e1] at hpa
        have HPA := Lib.hid hpa
        have HCL := Lib.hid (count_parts p)
        obtain ⟨N, hNe⟩ : ∃ N, N = partsL p := ⟨_, rfl⟩
        rw [← hNe] at HPA HW2 HCL
        have hl1 : p.length ≤ 1024 := by omega
        clear hpa e1 hNe hl HW
        go_enter Tryz.func64, Tryz.ntmps64
        go_wp2_with fail
        refine (dir4_known _ _ _ _ _ L _ HD.out _ HM.out).mono ?_
        rintro e w2 ⟨rfl, hb2⟩
        have HB2 := Lib.hid (HB1.out.trans (hb2.mono (by simp)))
        have hs2 := HB2.out.size
        clear hb2
        go_wp2_with fail
        refine (HPA.out _).mono ?_
        rintro e w3 ⟨v3, rfl, hT3, hb3⟩
        obtain ⟨na, ncap, rfl, hc1, hc2, hcell⟩ := hT3.view
        have HC := Lib.hid hcell
        have HB3 := Lib.hid (HB2.out.trans (hb3.mono hs2))
        have hN1 : N.length ≤ 1025 := by have := HCL.out; omega
        unfold maxLen at hc2
        clear hT3 hb3 hcell HPA
        go_wp2_with fail
        go_loop [8] (fun iv => ∃ k : Nat, k ≤ N.length ∧ iv = .int .i64 k ∧ Hid (∀ j (hj : j < N.length), j < k → N[j].length ≤ 64)) (fun iv => N.length - (intOf iv).toNat)
        case atStart => exact ⟨0, by omega, rfl, fun _ _ h => absurd h (Nat.not_lt_zero _)⟩
        case round =>
          obtain ⟨k, hk, rfl, hok⟩ := hrel
          by_cases hlt : k < N.length
          · obtain ⟨nb, no, rfl, hx⟩ := HC.out k hlt
            unfold strv at hx
            have hsx := str_len N[k]
            have hk0 : (0 : Int) ≤ (k : Int) := by omega
            by_cases h64 : 64 < N[k].length
            · have HW3 := Lib.hid (show R = 36 by
                rw [HW2.out, if_pos]
                rw [List.any_eq_true]
                exact ⟨N[k], List.getElem_mem _, decide_eq_true h64⟩)
              go_wp2_with fail
              go_ret
              exact ⟨by rw [HW3.out]; rfl, HB3.out⟩
            · have HOK := Lib.hid (show ∀ j (hj : j < N.length), j < k + 1 → N[j].length ≤ 64 from fun j hj hjk => by
                by_cases e : j = k
                · subst e; omega
                · exact hok.out j hj (by omega))
              go_wp2_with fail
              go_round
              case rel => exact ⟨k + 1, by omega, by go_num, HOK⟩
              case measure => simp [intOf] <;> omega
          · have HW3 := Lib.hid (show R = 0 by
              rw [HW2.out, if_neg]
              rw [List.any_eq_true]
              rintro ⟨x, hx, h⟩
              obtain ⟨j, hj, rfl⟩ := List.getElem_of_mem hx
              have h1 := hok.out j hj (by omega)
              have h2 := of_decide_eq_true h
              omega)
            go_wp2_with fail
            go_ret
            exact ⟨by rw [HW3.out]; rfl, HB3.out⟩
end Go.Proofs.YtogheigpcppeiaaGreat
