/-
  Trees that a call has made: their inodes lie in one block of the call's own, each directory's names in a block of its own.
-/
import Derived.Test.YtblmlgpajmaliaaTrees
import Derived.OneCell
import Derived.Laws.IdiomCopy
namespace Go.Proofs.Ytblmlgpajmaliaa
set_option maxRecDepth 100000
open Go Go.RowKit

theorem blk_cell {W : World} {k : Nat} {cs : Array Value} {t : TypeId} (h : W.heap[k]? = some (.cells cs t (0, 0))) (j : Nat) : W.cell? ⟨k, j, none⟩ = cs[j]? := cell_of_row W k j cs t (0, 0) h
theorem blk_free {W : World} {k : Nat} {cs : Array Value} {t : TypeId} (h : W.heap[k]? = some (.cells cs t (0, 0))) (j : Nat) : W.frozen? ⟨k, j, none⟩ = false := by simp [World.frozen?, h]
theorem blk_set {W : World} {k : Nat} {cs : Array Value} {t : TypeId} (h : W.heap[k]? = some (.cells cs t (0, 0))) (j : Nat) (u : Value) : (W.setCell ⟨k, j, none⟩ u).heap[k]? = some (.cells (cs.setIfInBounds j u) t (0, 0)) := by
  have hlt := lt_of_block h
  have h' : W.heap[k] = .cells cs t (0, 0) := by simpa [Array.getElem?_eq_getElem hlt] using h
  show (W.heap.modify k _)[k]? = _
  rw [Array.getElem?_eq_getElem (by simpa using hlt), Array.getElem_modify_self, h']
  rfl
/-- A tree is stored in a block of three. -/
def put3 (W : World) (k : Nat) (x y z : Value) : World := ((W.setCell ⟨k, 0, none⟩ x).setCell ⟨k, 1, none⟩ y).setCell ⟨k, 2, none⟩ z
theorem put3_block {W : World} {k : Nat} {a b c : Value} {t : TypeId} (h : W.heap[k]? = some (.cells #[a, b, c] t (0, 0))) (x y z : Value) : (put3 W k x y z).heap[k]? = some (.cells #[x, y, z] t (0, 0)) := blk_set (blk_set (blk_set h 0 x) 1 y) 2 z
theorem put3_cells {W : World} {k : Nat} {a b c : Value} {t : TypeId} (h : W.heap[k]? = some (.cells #[a, b, c] t (0, 0))) (x y z : Value) : (put3 W k x y z).cell? ⟨k, 0, none⟩ = some x ∧ (put3 W k x y z).cell? ⟨k, 1, none⟩ = some y ∧ (put3 W k x y z).cell? ⟨k, 2, none⟩ = some z :=
  ⟨blk_cell (put3_block h x y z) 0, blk_cell (put3_block h x y z) 1, blk_cell (put3_block h x y z) 2⟩
theorem put3_other {W : World} {k j : Nat} (h : j ≠ k) (x y z : Value) : (put3 W k x y z).heap[j]? = W.heap[j]? :=
  (Below.heap_setCell _ _ _ _ h).trans ((Below.heap_setCell _ _ _ _ h).trans (Below.heap_setCell _ _ _ _ h))
theorem put3_below {B : Nat} {w W : World} {k : Nat} (h : Below B w W) (hk : B ≤ k) (x y z : Value) : Below B w (put3 W k x y z) := ((h.setCell hk _).setCell hk _).setCell hk _
theorem put3_size (W : World) (k : Nat) (x y z : Value) : (put3 W k x y z).heap.size = W.heap.size := by unfold put3; simp [World.setCell]
/-- Two boxes that are laid one behind the other. -/
theorem two_boxes (w : World) (A B : Array Value) (s t : TypeId) : ∃ w2, w2 = (w.alloc (.cells A s)).alloc (.cells B t) ∧ Below w.heap.size w w2 ∧ w2.heap.size = w.heap.size + 2 ∧ w2.heap[w.heap.size]? = some (.cells A s (0, 0)) ∧ w2.heap[w.heap.size + 1]? = some (.cells B t (0, 0)) := by
  refine ⟨_, rfl, (below_box w _).alloc (by simp) _, by simp, ?_, ?_⟩
  · rw [Below.heap_alloc _ _ _ (by simp)]; exact new_block _ _
  · have := new_block (w.alloc (.cells A s)) (.cells B t)
    rw [World.size_alloc] at this
    exact this
/-- At block g, place o, lies the inode x, whose names' slice is v. -/
structure NodeAt (W : World) (g o : Nat) (x : Ino) (v : Value) : Prop where
  kind : W.cell? ⟨g, o, none⟩ = some (.int .i64 x.kind)
  mode : W.cell? ⟨g, o + 1, none⟩ = some (.int .i64 x.mode)
  links : W.cell? ⟨g, o + 2, none⟩ = some (.int .i64 x.links)
  data : W.cell? ⟨g, o + 3, none⟩ = some (.string ⟨x.data.toArray⟩)
  kids : W.cell? ⟨g, o + 4, none⟩ = some v
  up : W.cell? ⟨g, o + 5, none⟩ = some (.int .i64 x.up)

/-- Block g holds the inodes L, whose names' slices are vs. -/
structure NodesOwn (W : World) (g cap : Nat) (L : List Ino) (vs : List Value) : Prop where
  len : vs.length = L.length
  le : L.length ≤ cap
  max : cap ≤ maxLen
  lt : g < W.heap.size
  free : ∀ j, W.frozen? ⟨g, j, none⟩ = false
  node : ∀ i (hi : i < L.length) (hv : i < vs.length), NodeAt W g (i * 6) L[i] vs[i]

section
variable {W W' : World} {g cap : Nat} {L : List Ino} {vs : List Value}
theorem NodeAt.same {o : Nat} {x : Ino} {v : Value} (h : NodeAt W g o x v) (he : W'.heap[g]? = W.heap[g]?) : NodeAt W' g o x v := by
  have hc : ∀ j, W'.cell? ⟨g, j, none⟩ = W.cell? ⟨g, j, none⟩ := fun j => World.cell?_of_block (a := ⟨g, j, none⟩) he
  exact ⟨(hc _).trans h.kind, (hc _).trans h.mode, (hc _).trans h.links, (hc _).trans h.data, (hc _).trans h.kids, (hc _).trans h.up⟩
theorem lt_of_same (hl : g < W.heap.size) (he : W'.heap[g]? = W.heap[g]?) : g < W'.heap.size := by
  rw [Array.getElem?_eq_getElem hl] at he
  exact (Array.getElem?_eq_some_iff.1 he).1
theorem NodesOwn.same (h : NodesOwn W g cap L vs) (he : W'.heap[g]? = W.heap[g]?) : NodesOwn W' g cap L vs :=
  ⟨h.len, h.le, h.max, lt_of_same h.lt he, fun j => (World.frozen?_of_block (a := ⟨g, j, none⟩) he).trans (h.free j), fun i hi hv => (h.node i hi hv).same he⟩
theorem NodesOwn.below (h : NodesOwn W g cap L vs) (hb : Below W.heap.size W W') : NodesOwn W' g cap L vs := h.same (hb.block g h.lt)
theorem NodesOwn.nodesIn (h : NodesOwn W g cap L vs) (hk : ∀ i (hi : i < L.length) (hv : i < vs.length), KidsIn W vs[i] L[i].kids) : NodesIn W (some ⟨g, 0, none⟩) cap L :=
  ⟨h.le, h.max, fun i hi => ⟨g, 0, rfl, by
    rw [Nat.zero_add]
    have hv : i < vs.length := by rw [h.len]; exact hi
    have hn := h.node i hi hv
    exact ⟨hn.kind, hn.mode, hn.links, hn.data, ⟨_, hn.kids, hk i hi hv⟩, hn.up⟩⟩⟩

/-- One cell of an inode is written. -/
theorem cell_set {a : Nat} {u old : Value} (h : W.cell? ⟨g, a, none⟩ = some old) (j : Nat) : (W.setCell ⟨g, a, none⟩ u).cell? ⟨g, j, none⟩ = if j = a then some u else W.cell? ⟨g, j, none⟩ := by
  by_cases e : j = a
  · subst e
    rw [if_pos rfl]
    exact World.cell?_setCell_same W ⟨g, j, none⟩ u h
  · rw [if_neg e]
    exact World.cell?_setCell_other W ⟨g, a, none⟩ ⟨g, j, none⟩ u (fun e2 => e (Addr.mk.inj e2).2.1.symm)
theorem size_set (a : Addr) (u : Value) : (W.setCell a u).heap.size = W.heap.size := by simp [World.setCell]

/-- What is written of an inode: of the six cells from i * 6 on. -/
theorem NodesOwn.put (h : NodesOwn W g cap L vs) {i : Nat} (_hi : i < L.length) {x : Ino} {v : Value} (hs : W'.heap.size = W.heap.size) (hf : ∀ j, W'.frozen? ⟨g, j, none⟩ = W.frozen? ⟨g, j, none⟩)
    (hout : ∀ j, j < i * 6 ∨ i * 6 + 6 ≤ j → W'.cell? ⟨g, j, none⟩ = W.cell? ⟨g, j, none⟩) (hin : NodeAt W' g (i * 6) x v) : NodesOwn W' g cap (L.set i x) (vs.set i v) := by
  refine ⟨by rw [List.length_set, List.length_set, h.len], by rw [List.length_set]; exact h.le, h.max, by rw [hs]; exact h.lt, fun j => (hf j).trans (h.free j), fun j hj hv => ?_⟩
  rw [List.length_set] at hj hv
  by_cases e : i = j
  · subst e
    rw [List.getElem_set_self, List.getElem_set_self]
    exact hin
  · rw [List.getElem_set_ne e, List.getElem_set_ne e]
    have hn := h.node j hj hv
    have ho : ∀ t, t < 6 → W'.cell? ⟨g, j * 6 + t, none⟩ = W.cell? ⟨g, j * 6 + t, none⟩ := fun t ht => hout _ (by omega)
    exact ⟨(ho 0 (by decide)).trans hn.kind, (ho 1 (by decide)).trans hn.mode, (ho 2 (by decide)).trans hn.links, (ho 3 (by decide)).trans hn.data, (ho 4 (by decide)).trans hn.kids, (ho 5 (by decide)).trans hn.up⟩

theorem NodesOwn.setKids (h : NodesOwn W g cap L vs) {i : Nat} (hi : i < L.length) (hv : i < vs.length) (v : Value) (M : List (List UInt8 × Int)) : NodesOwn (W.setCell ⟨g, i * 6 + 4, none⟩ v) g cap (L.set i { L[i] with kids := M }) (vs.set i v) := by
  have hn := h.node i hi hv
  have hc := cell_set (u := v) hn.kids
  refine h.put hi (size_set _ _) (fun j => World.frozen?_setCell ..) (fun j hj => by rw [hc, if_neg (by omega)]) ⟨?_, ?_, ?_, ?_, ?_, ?_⟩
  · rw [hc, if_neg (by omega)]; exact hn.kind
  · rw [hc, if_neg (by omega)]; exact hn.mode
  · rw [hc, if_neg (by omega)]; exact hn.links
  · rw [hc, if_neg (by omega)]; exact hn.data
  · rw [hc, if_pos rfl]
  · rw [hc, if_neg (by omega)]; exact hn.up
theorem NodesOwn.setLinks (h : NodesOwn W g cap L vs) {i : Nat} (hi : i < L.length) (hv : i < vs.length) (z : Int) : NodesOwn (W.setCell ⟨g, i * 6 + 2, none⟩ (.int .i64 z)) g cap (L.set i { L[i] with links := z }) (vs.set i vs[i]) := by
  have hn := h.node i hi hv
  have hc := cell_set (u := .int .i64 z) hn.links
  refine h.put hi (size_set _ _) (fun j => World.frozen?_setCell ..) (fun j hj => by rw [hc, if_neg (by omega)]) ⟨?_, ?_, ?_, ?_, ?_, ?_⟩
  · rw [hc, if_neg (by omega)]; exact hn.kind
  · rw [hc, if_neg (by omega)]; exact hn.mode
  · rw [hc, if_pos rfl]
  · rw [hc, if_neg (by omega)]; exact hn.data
  · rw [hc, if_neg (by omega)]; exact hn.kids
  · rw [hc, if_neg (by omega)]; exact hn.up
theorem NodesOwn.setMode (h : NodesOwn W g cap L vs) {i : Nat} (hi : i < L.length) (hv : i < vs.length) (z : Int) : NodesOwn (W.setCell ⟨g, i * 6 + 1, none⟩ (.int .i64 z)) g cap (L.set i { L[i] with mode := z }) (vs.set i vs[i]) := by
  have hn := h.node i hi hv
  have hc := cell_set (u := .int .i64 z) hn.mode
  refine h.put hi (size_set _ _) (fun j => World.frozen?_setCell ..) (fun j hj => by rw [hc, if_neg (by omega)]) ⟨?_, ?_, ?_, ?_, ?_, ?_⟩
  · rw [hc, if_neg (by omega)]; exact hn.kind
  · rw [hc, if_pos rfl]
  · rw [hc, if_neg (by omega)]; exact hn.links
  · rw [hc, if_neg (by omega)]; exact hn.data
  · rw [hc, if_neg (by omega)]; exact hn.kids
  · rw [hc, if_neg (by omega)]; exact hn.up
def inoC (x : Ino) (v : Value) : List Value := [.int .i64 x.kind, .int .i64 x.mode, .int .i64 x.links, .string ⟨x.data.toArray⟩, v, .int .i64 x.up]
theorem size_sets (b : Nat) : ∀ (l : List Value) (o : Nat) (w : World), (w.setCells b o l).heap.size = w.heap.size
  | [], _, _ => rfl
  | v :: r, o, w => by
    show ((w.setCell ⟨b, o, none⟩ v).setCells b (o + 1) r).heap.size = _
    rw [size_sets b r, size_set]
theorem NodesOwn.setNode (h : NodesOwn W g cap L vs) {i : Nat} (hi : i < L.length) (hv : i < vs.length) (x : Ino) (v : Value) : NodesOwn (W.setCells g (i * 6) (inoC x v)) g cap (L.set i x) (vs.set i v) := by
  have hn := h.node i hi hv
  have hin := World.cell?_setCells_in g (inoC x v) (i * 6) W (fun j hj => by
    have hj' : j < 6 := hj
    match j, hj' with
    | 0, _ => exact Option.isSome_of_eq_some hn.kind
    | 1, _ => exact Option.isSome_of_eq_some hn.mode
    | 2, _ => exact Option.isSome_of_eq_some hn.links
    | 3, _ => exact Option.isSome_of_eq_some hn.data
    | 4, _ => exact Option.isSome_of_eq_some hn.kids
    | 5, _ => exact Option.isSome_of_eq_some hn.up)
  refine h.put hi (size_sets _ _ _ _) (fun j => World.frozen?_setCells ..) (fun j hj => World.cell?_setCells_out _ _ _ _ _ (fun _ _ => hj)) ⟨?_, ?_, ?_, ?_, ?_, ?_⟩
  · exact hin 0 (show 0 < 6 by decide)
  · exact hin 1 (show 1 < 6 by decide)
  · exact hin 2 (show 2 < 6 by decide)
  · exact hin 3 (show 3 < 6 by decide)
  · exact hin 4 (show 4 < 6 by decide)
  · exact hin 5 (show 5 < 6 by decide)
end

/-! ### Names in a block of the call's own -/

def kidC : List (List UInt8 × Int) → List Value
  | [] => []
  | e :: r => .string ⟨e.1.toArray⟩ :: .int .i64 e.2 :: kidC r
theorem kidC_len : ∀ K, (kidC K).length = K.length * 2
  | [] => rfl
  | e :: r => by simp only [kidC, List.length_cons, kidC_len r]; omega
theorem kidC_app : ∀ A B, kidC (A ++ B) = kidC A ++ kidC B
  | [], B => rfl
  | e :: r, B => by simp only [List.cons_append, kidC, kidC_app r B]
theorem kidC_get0 : ∀ (K : List (List UInt8 × Int)) (i : Nat) (h : i < K.length), (kidC K)[i * 2]? = some (.string ⟨K[i].1.toArray⟩)
  | e :: r, 0, _ => rfl
  | e :: r, i + 1, h => by
    have := kidC_get0 r i (Nat.lt_of_succ_lt_succ h)
    rw [show (i + 1) * 2 = i * 2 + 1 + 1 by omega, kidC, List.getElem?_cons_succ, List.getElem?_cons_succ, this]
    rfl
theorem kidC_get1 : ∀ (K : List (List UInt8 × Int)) (i : Nat) (h : i < K.length), (kidC K)[i * 2 + 1]? = some (.int .i64 K[i].2)
  | e :: r, 0, _ => rfl
  | e :: r, i + 1, h => by
    have := kidC_get1 r i (Nat.lt_of_succ_lt_succ h)
    rw [show (i + 1) * 2 + 1 = i * 2 + 1 + 1 + 1 by omega, kidC, List.getElem?_cons_succ, List.getElem?_cons_succ, this]
    rfl
theorem kidC_one : ∀ (K : List (List UInt8 × Int)), ∀ u ∈ kidC K, u.oneCell' = true
  | [], _, h => by cases h
  | e :: r, u, h => by
    rcases List.mem_cons.1 h with rfl | h
    · rfl
    · rcases List.mem_cons.1 h with rfl | h
      · rfl
      · exact kidC_one r u h
/-- Names as they lie, cell by cell. -/
theorem kidC_cells {W : World} {K : List (List UInt8 × Int)} {b o : Nat} (h : ∀ i (hi : i < K.length), W.cell? ⟨b, o + i * 2, none⟩ = some (.string ⟨K[i].1.toArray⟩) ∧ W.cell? ⟨b, o + i * 2 + 1, none⟩ = some (.int .i64 K[i].2)) (j : Nat) (u : Value) (hu : (kidC K)[j]? = some u) : W.cell? ⟨b, o + j, none⟩ = some u := by
  have hj : j < K.length * 2 := by rw [← kidC_len]; exact (List.getElem?_eq_some_iff.1 hu).1
  have hi : j / 2 < K.length := by omega
  rcases Nat.mod_two_eq_zero_or_one j with e | e
  · obtain ⟨i, rfl⟩ : ∃ i, j = i * 2 := ⟨j / 2, by omega⟩
    have hi' : i < K.length := by omega
    rw [kidC_get0 K i hi'] at hu
    cases hu
    exact (h i hi').1
  · obtain ⟨i, rfl⟩ : ∃ i, j = i * 2 + 1 := ⟨j / 2, by omega⟩
    have hi' : i < K.length := by omega
    rw [kidC_get1 K i hi'] at hu
    cases hu
    rw [← Nat.add_assoc]
    exact (h i hi').2
def KidsOwn (W : World) (base : Nat) (v : Value) (K : List (List UInt8 × Int)) : Prop := W.ownsRow base 50 2 v K.length (kidC K)
theorem zero_add_addr (g j : Nat) : (⟨g, 0, none⟩ : Addr).add j = ⟨g, j, none⟩ := by
  unfold Addr.add
  split
  · rename_i h; rw [h]
  · show (⟨g, 0 + j, none⟩ : Addr) = _; rw [Nat.zero_add]
theorem KidsOwn.kidsIn {W : World} {base : Nat} {v : Value} {K : List (List UInt8 × Int)} (h : KidsOwn W base v K) : KidsIn W v K := by
  rcases h.2 with ⟨rfl, h0⟩ | ⟨g, cap, cur, rfl, hb, hg, hn, hc, hs, ht⟩
  · have e : K = [] := List.length_eq_zero_iff.1 h0
    subst e
    exact ⟨none, 0, rfl, Nat.le_refl _, Nat.zero_le _, fun i hi => absurd hi (Nat.not_lt_zero _)⟩
  · refine ⟨some ⟨g, 0, none⟩, cap, rfl, hn, hc, fun i hi => ⟨g, 0, rfl, ?_, ?_⟩⟩
    · have := h.cells rfl _ _ (kidC_get0 K i hi)
      rw [zero_add_addr] at this
      rw [Nat.zero_add]
      exact this
    · have := h.cells rfl _ _ (kidC_get1 K i hi)
      rw [zero_add_addr] at this
      rw [Nat.zero_add]
      exact this
theorem KidsOwn.form {W : World} {B : Nat} {v : Value} {K : List (List UInt8 × Int)} (h : KidsOwn W B v K) : ∃ a c, v = .slice a K.length c := by
  rcases h.2 with ⟨rfl, h0⟩ | ⟨g, cap, cur, e, -⟩
  · exact ⟨none, 0, by rw [h0]⟩
  · exact ⟨_, _, e⟩
theorem KidsOwn.lower {W : World} {B B' : Nat} {v : Value} {K : List (List UInt8 × Int)} (h : KidsOwn W B v K) (hb : B' ≤ B) : KidsOwn W B' v K := by
  refine ⟨h.1, ?_⟩
  rcases h.2 with hn | ⟨g, cap, cur, e, hg, rest⟩
  · exact .inl hn
  · exact .inr ⟨g, cap, cur, e, Nat.le_trans hb hg, rest⟩
theorem KidsOwn.nil (W : World) (base : Nat) : KidsOwn W base (.slice none 0 0) [] := World.ownsRow_nil W base _ 2
theorem KidsOwn.same {W W' : World} {base : Nat} {v : Value} {K : List (List UInt8 × Int)} (h : KidsOwn W base v K) (he : ∀ k, v.ownBlock = some k → W'.heap[k]? = W.heap[k]?) : KidsOwn W' base v K := by
  refine ⟨h.1, ?_⟩
  rcases h.2 with hn | ⟨g, cap, cur, rfl, hb, hg, rest⟩
  · exact .inl hn
  · exact .inr ⟨g, cap, cur, rfl, hb, (he g rfl).trans hg, rest⟩

/-- A tree that is the call's own from block base on. -/
structure OwnT (W : World) (base g cap : Nat) (L : List Ino) (vs : List Value) : Prop where
  nodes : NodesOwn W g cap L vs
  hbase : base ≤ g
  kids : ∀ i (hi : i < L.length) (hv : i < vs.length), KidsOwn W base vs[i] L[i].kids
  apart : ∀ i j (hi : i < vs.length) (hj : j < vs.length), i ≠ j → vs[i].ownBlock = none ∨ vs[i].ownBlock ≠ vs[j].ownBlock
  off : ∀ i (hi : i < vs.length), vs[i].ownBlock ≠ some g
section
variable {W W' : World} {base g cap : Nat} {L : List Ino} {vs : List Value}
theorem OwnT.nodesIn (h : OwnT W base g cap L vs) : NodesIn W (some ⟨g, 0, none⟩) cap L := h.nodes.nodesIn fun i hi hv => (h.kids i hi hv).kidsIn
theorem OwnT.below (h : OwnT W base g cap L vs) (hb : Below W.heap.size W W') : OwnT W' base g cap L vs :=
  ⟨h.nodes.below hb, h.hbase, fun i hi hv => (h.kids i hi hv).same fun k hk => hb.block k ((h.kids i hi hv).lt k hk).2, h.apart, h.off⟩
/-- What lies below base may change. -/
theorem OwnT.low (h : OwnT W base g cap L vs) (hb : ∀ k, base ≤ k → W'.heap[k]? = W.heap[k]?) : OwnT W' base g cap L vs :=
  ⟨h.nodes.same (hb g h.hbase), h.hbase, fun i hi hv => (h.kids i hi hv).same fun k hk => hb k ((h.kids i hi hv).lt k hk).1, h.apart, h.off⟩
theorem OwnT.lower {base' : Nat} (h : OwnT W base g cap L vs) (hb : base' ≤ base) : OwnT W base' g cap L vs :=
  ⟨h.nodes, Nat.le_trans hb h.hbase, fun i hi hv => (h.kids i hi hv).lower hb, h.apart, h.off⟩
/-- Names of one directory are others: in its own block, or in a new one; the rest stays. -/
theorem OwnT.setKids (h : OwnT W base g cap L vs) {d : Nat} (hd : d < L.length) (hv : d < vs.length) {v : Value} {M : List (List UInt8 × Int)} (hg : W.grownBy W' vs[d].ownBlock) (ho : KidsOwn W' base v M) (hb : ∀ k, v.ownBlock = some k → vs[d].ownBlock = some k ∨ W.heap.size ≤ k) :
    OwnT (W'.setCell ⟨g, d * 6 + 4, none⟩ v) base g cap (L.set d { L[d] with kids := M }) (vs.set d v) := by
  have hsame : W'.heap[g]? = W.heap[g]? := hg.block g h.nodes.lt (fun e => h.off d hv e.symm)
  have hN := (h.nodes.same hsame).setKids hd hv v M
  have hoff : ∀ k, v.ownBlock = some k → k ≠ g := fun k hk e => by
    subst e
    rcases hb k hk with h1 | h1
    · exact h.off d hv h1
    · have := h.nodes.lt; omega
  have hap : ∀ j (hj : j < vs.length), j ≠ d → ∀ k, vs[j].ownBlock = some k → v.ownBlock ≠ some k := fun j hj hjd k hk e => by
    rcases hb k e with h1 | h1
    · rcases h.apart j d hj hv hjd with h2 | h2
      · rw [h2] at hk; cases hk
      · exact h2 (hk.trans h1.symm)
    · have := ((h.kids j (by rw [← h.nodes.len]; exact hj) hj).lt k hk).2
      omega
  have hst : ∀ k, k ≠ g → (W'.setCell ⟨g, d * 6 + 4, none⟩ v).heap[k]? = W'.heap[k]? := fun k hk => Below.heap_setCell _ _ _ _ hk
  refine ⟨hN, h.hbase, fun i hi hvi => ?_, fun i j hi hj hij => ?_, fun i hi => ?_⟩
  · rw [List.length_set] at hi hvi
    by_cases e : d = i
    · subst e
      rw [List.getElem_set_self]
      have e2 : (L.set d { L[d] with kids := M })[d]'(by rw [List.length_set]; exact hi) = { L[d] with kids := M } := List.getElem_set_self ..
      rw [e2]
      exact ho.same fun k hk => hst k (hoff k hk)
    · rw [List.getElem_set_ne e, List.getElem_set_ne e]
      have hki := h.kids i hi hvi
      refine hki.same fun k hk => ?_
      rw [hst k (fun e3 => h.off i hvi (e3 ▸ hk))]
      refine hg.block k (hki.lt k hk).2 (fun e3 => ?_)
      rcases h.apart i d hvi hv (fun e4 => e e4.symm) with h2 | h2
      · rw [h2] at hk; cases hk
      · exact h2 (hk.trans e3)
  · rw [List.length_set] at hi hj
    rw [List.getElem_set, List.getElem_set]
    by_cases e1 : d = i
    · rw [if_pos e1]
      rw [if_neg (fun e2 => hij (e1.symm.trans e2))]
      cases hq : v.ownBlock with
      | none => exact Or.inl rfl
      | some k => exact Or.inr fun e3 => hap j hj (fun e2 => hij (e1.symm.trans e2.symm)) k e3.symm hq
    · rw [if_neg e1]
      by_cases e2 : d = j
      · rw [if_pos e2]
        cases hq : vs[i].ownBlock with
        | none => exact Or.inl rfl
        | some k => exact Or.inr fun e3 => hap i hi (fun e4 => e1 e4.symm) k hq e3.symm
      · rw [if_neg e2]
        exact h.apart i j hi hj hij
  · rw [List.length_set] at hi
    rw [List.getElem_set]
    by_cases e : d = i
    · rw [if_pos e]
      exact fun e3 => hoff g e3 rfl
    · rw [if_neg e]
      exact h.off i hi
theorem set_self {vs : List Value} {i : Nat} (hi : i < vs.length) : vs.set i vs[i] = vs := List.set_getElem_self ..
theorem OwnT.setLinks (h : OwnT W base g cap L vs) {i : Nat} (hi : i < L.length) (z : Int) : OwnT (W.setCell ⟨g, i * 6 + 2, none⟩ (.int .i64 z)) base g cap (L.set i { L[i] with links := z }) vs := by
  have hv : i < vs.length := by rw [h.nodes.len]; exact hi
  have hN := h.nodes.setLinks hi hv z
  rw [set_self] at hN
  refine ⟨hN, h.hbase, fun j hj hvj => ?_, h.apart, h.off⟩
  rw [List.length_set] at hj
  have hk := (h.kids j hj hvj).same (W' := W.setCell ⟨g, i * 6 + 2, none⟩ (.int .i64 z)) fun k hk => Below.heap_setCell _ _ _ _ (fun e => h.off j hvj (hk.trans (congrArg some (show k = g from e))))
  rw [List.getElem_set]
  split
  · rename_i e; subst e; exact hk
  · exact hk
theorem OwnT.setMode (h : OwnT W base g cap L vs) {i : Nat} (hi : i < L.length) (z : Int) : OwnT (W.setCell ⟨g, i * 6 + 1, none⟩ (.int .i64 z)) base g cap (L.set i { L[i] with mode := z }) vs := by
  have hv : i < vs.length := by rw [h.nodes.len]; exact hi
  have hN := h.nodes.setMode hi hv z
  rw [set_self] at hN
  refine ⟨hN, h.hbase, fun j hj hvj => ?_, h.apart, h.off⟩
  rw [List.length_set] at hj
  have hk := (h.kids j hj hvj).same (W' := W.setCell ⟨g, i * 6 + 1, none⟩ (.int .i64 z)) fun k hk => Below.heap_setCell _ _ _ _ (fun e => h.off j hvj (hk.trans (congrArg some (show k = g from e))))
  rw [List.getElem_set]
  split
  · rename_i e; subst e; exact hk
  · exact hk
theorem heap_sets (b : Nat) : ∀ (l : List Value) (o : Nat) (w : World) (k : Nat), k ≠ b → (w.setCells b o l).heap[k]? = w.heap[k]?
  | [], _, _, _, _ => rfl
  | v :: r, o, w, k, h => by
    show ((w.setCell ⟨b, o, none⟩ v).setCells b (o + 1) r).heap[k]? = _
    rw [heap_sets b r _ _ k h]
    exact Below.heap_setCell _ _ _ _ h
/-- An inode without names is laid in the place of another one. -/
theorem OwnT.setNode (h : OwnT W base g cap L vs) {i : Nat} (hi : i < L.length) (x : Ino) (hx : x.kids = []) : OwnT (W.setCells g (i * 6) (inoC x (.slice none 0 0))) base g cap (L.set i x) (vs.set i (.slice none 0 0)) := by
  have hv : i < vs.length := by rw [h.nodes.len]; exact hi
  refine ⟨h.nodes.setNode hi hv x _, h.hbase, fun j hj hvj => ?_, fun j k hj hk hjk => ?_, fun j hj => ?_⟩
  · rw [List.length_set] at hj hvj
    by_cases e : i = j
    · subst e
      rw [List.getElem_set_self, List.getElem_set_self, hx]
      exact KidsOwn.nil _ _
    · rw [List.getElem_set_ne e, List.getElem_set_ne e]
      exact (h.kids j hj hvj).same fun k hk => heap_sets _ _ _ _ _ (fun e => h.off j hvj (e ▸ hk))
  · rw [List.length_set] at hj hk
    rw [List.getElem_set, List.getElem_set]
    by_cases e1 : i = j
    · rw [if_pos e1]
      exact Or.inl rfl
    · rw [if_neg e1]
      by_cases e2 : i = k
      · rw [if_pos e2]
        cases hq : vs[j].ownBlock with
        | none => exact Or.inl rfl
        | some k => exact Or.inr fun e3 => by cases e3
      · rw [if_neg e2]
        exact h.apart j k hj hk hjk
  · rw [List.length_set] at hj
    rw [List.getElem_set]
    split
    · exact fun e => by cases e
    · exact h.off j hj
end
end Go.Proofs.Ytblmlgpajmaliaa
