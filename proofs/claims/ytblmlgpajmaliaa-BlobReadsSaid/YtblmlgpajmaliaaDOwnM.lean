/-
  What is written into trees that lie in one block; trees behind stores into boxes; what a call of the reference leaves.
-/
import Derived.Test.YtblmlgpajmaliaaDOwn
namespace Go.Proofs.Ytblmlgpajmaliaa
set_option maxRecDepth 100000
open Go Go.RowKit

/-- What a call of the reference leaves: a tree that can be read. -/
def RefAns (w : World) (m b : Int) (L' : List Ino) (rest : List Value) (e : Ending) (w' : World) : Prop :=
  (∃ a' cap', e = .returned (.tuple (#[.agg #[.slice a' L'.length cap', .int .i64 m, .int .i64 b]] ++ rest.toArray)) ∧ NodesIn w' a' cap' L') ∧ Below w.heap.size w w'
/-- A result's box that is still empty is no part of a tree. -/
theorem nodes_put3 {W : World} {c : Nat} {t : TypeId} {a : Option Addr} {cap : Nat} {L : List Ino} (h : NodesIn W a cap L) (hc : W.heap[c]? = some (.cells #[.slice none 0 0, .int .i64 0, .int .i64 0] t (0, 0))) (x y z : Value) : NodesIn (put3 W c x y z) a cap L := by
  have hcell : ∀ j u, W.cell? ⟨c, j, none⟩ = some u → (∀ s, u ≠ .string s) ∧ j < 3 := fun j u hu => by
    rw [blk_cell hc j] at hu
    match j, hu with
    | 0, hu => have h := Option.some.inj hu; subst h; exact ⟨(fun s e => by cases e), by omega⟩
    | 1, hu => have h := Option.some.inj hu; subst h; exact ⟨(fun s e => by cases e), by omega⟩
    | 2, hu => have h := Option.some.inj hu; subst h; exact ⟨(fun s e => by cases e), by omega⟩
    | j + 3, hu => simp at hu
  have hsame : ∀ b j, b ≠ c → (put3 W c x y z).cell? ⟨b, j, none⟩ = W.cell? ⟨b, j, none⟩ := fun b j hb => World.cell?_of_block (a := ⟨b, j, none⟩) (put3_other hb x y z)
  refine ⟨h.1, h.2.1, fun i hi => ?_⟩
  obtain ⟨b, o, e, hn⟩ := h.2.2 i hi
  have hb : b ≠ c := fun e => by
    subst e
    have := (hcell _ _ hn.up).2
    omega
  obtain ⟨v, hv, ka, kc, rfl, h1, h2, h3⟩ := hn.kids
  exact ⟨b, o, e, ⟨(hsame b _ hb).trans hn.kind, (hsame b _ hb).trans hn.mode, (hsame b _ hb).trans hn.links, (hsame b _ hb).trans hn.data, ⟨_, (hsame b _ hb).trans hv, ka, kc, rfl, h1, h2, fun j hj => by
    obtain ⟨b', o', e', c0, c1⟩ := h3 j hj
    have hb' : b' ≠ c := fun e => by
      subst e
      exact (hcell _ _ c0).1 _ rfl
    exact ⟨b', o', e', (hsame b' _ hb').trans c0, (hsame b' _ hb').trans c1⟩⟩, (hsame b _ hb).trans hn.up⟩⟩
theorem RefT.setK {W w5 : World} {g cap : Nat} {L : List Ino} {vs : List Value} (h : RefT W g cap L vs) {d : Nat} (hd : d < L.length) {v : Value} {M : List (List UInt8 × Int)} (hb : Below W.heap.size W w5)
    (hk : ∀ W', (∀ j, j ≠ g → j < w5.heap.size → W'.heap[j]? = w5.heap[j]?) → KidsIn W' v M) : RefT (w5.setCell ⟨g, d * 6 + 4, none⟩ v) g cap (L.set d { L[d] with kids := M }) (vs.set d v) := by
  have hv : d < vs.length := by rw [h.nodes.len]; exact hd
  refine ⟨(h.nodes.below hb).setKids hd hv v M, fun i hi hvi W' hw => ?_⟩
  have hw5 : ∀ j, j ≠ g → j < w5.heap.size → W'.heap[j]? = w5.heap[j]? := fun j hj hl => (hw j hj (by simpa [World.setCell] using hl)).trans (Below.heap_setCell _ _ _ _ hj)
  by_cases e : d = i
  · subst e
    rw [List.getElem_set_self, List.getElem_set_self]
    exact hk W' hw5
  · rw [List.length_set] at hi hvi
    rw [List.getElem_set_ne e, List.getElem_set_ne e]
    exact h.kids i hi hvi W' fun j hj hl => (hw5 j hj (Nat.lt_of_lt_of_le hl hb.size)).trans (hb.block j hl)
theorem RefT.setN {W w5 : World} {g cap : Nat} {L : List Ino} {vs : List Value} (h : RefT W g cap L vs) {d : Nat} (hd : d < L.length) (x : Ino) {v : Value} (hb : Below W.heap.size W w5)
    (hk : ∀ W', (∀ j, j ≠ g → j < w5.heap.size → W'.heap[j]? = w5.heap[j]?) → KidsIn W' v x.kids) : RefT (w5.setCells g (d * 6) (inoC x v)) g cap (L.set d x) (vs.set d v) := by
  have hv : d < vs.length := by rw [h.nodes.len]; exact hd
  refine ⟨(h.nodes.below hb).setNode hd hv x v, fun i hi hvi W' hw => ?_⟩
  have hw5 : ∀ j, j ≠ g → j < w5.heap.size → W'.heap[j]? = w5.heap[j]? := fun j hj hl => (hw j hj (by rw [size_sets]; exact hl)).trans (heap_sets _ _ _ _ _ hj)
  by_cases e : d = i
  · subst e
    rw [List.getElem_set_self, List.getElem_set_self]
    exact hk W' hw5
  · rw [List.length_set] at hi hvi
    rw [List.getElem_set_ne e, List.getElem_set_ne e]
    exact h.kids i hi hvi W' fun j hj hl => (hw5 j hj (Nat.lt_of_lt_of_le hl hb.size)).trans (hb.block j hl)
theorem RefT.bare {W W' : World} {g cap : Nat} {L : List Ino} {vs : List Value} (h : RefT W g cap L vs) (h0 : ∀ x ∈ L, x.kids = []) (hg : W'.heap[g]? = W.heap[g]?) : RefT W' g cap L vs := by
  refine ⟨h.nodes.same hg, fun i hi hv W'' _ => ?_⟩
  have h1 := h.kids i hi hv W fun _ _ _ => rfl
  rw [h0 _ (List.getElem_mem hi)] at h1 ⊢
  obtain ⟨a, c, e, h2, h3, -⟩ := h1
  exact ⟨a, c, e, h2, h3, fun i hi => absurd hi (Nat.not_lt_zero _)⟩
theorem sets_alloc (g : Nat) (obj : Obj) : ∀ (l : List Value) (o : Nat) (W : World), g < W.heap.size → (W.setCells g o l).alloc obj = (W.alloc obj).setCells g o l
  | [], _, _, _ => rfl
  | v :: r, o, W, h => by
    show ((W.setCell ⟨g, o, none⟩ v).setCells g (o + 1) r).alloc obj = ((W.alloc obj).setCell ⟨g, o, none⟩ v).setCells g (o + 1) r
    rw [sets_alloc g obj r (o + 1) _ (by simpa [World.setCell] using h), World.setCell_alloc_past (w := W) obj g o v h]
theorem below_sets {B : Nat} {w W : World} (h : Below B w W) {g : Nat} (hg : B ≤ g) (o : Nat) (l : List Value) : Below B w (W.setCells g o l) := by
  induction l generalizing o W with
  | nil => exact h
  | cons v r ih => exact ih (h.setCell hg _) (o + 1)
theorem nodes_tree {W : World} {c : Nat} {t : TypeId} {a a0 : Option Addr} {cap n0 c0 : Nat} {z1 z2 : Int} {L : List Ino} (h : NodesIn W a cap L) (hc : W.heap[c]? = some (.cells #[.slice a0 n0 c0, .int .i64 z1, .int .i64 z2] t (0, 0))) (x y z : Value) : NodesIn (put3 W c x y z) a cap L := by
  have hcell : ∀ j u, W.cell? ⟨c, j, none⟩ = some u → (∀ s, u ≠ .string s) ∧ j < 3 := fun j u hu => by
    rw [blk_cell hc j] at hu
    match j, hu with
    | 0, hu => have h := Option.some.inj hu; subst h; exact ⟨(fun s e => by cases e), by omega⟩
    | 1, hu => have h := Option.some.inj hu; subst h; exact ⟨(fun s e => by cases e), by omega⟩
    | 2, hu => have h := Option.some.inj hu; subst h; exact ⟨(fun s e => by cases e), by omega⟩
    | j + 3, hu => simp at hu
  have hsame : ∀ b j, b ≠ c → (put3 W c x y z).cell? ⟨b, j, none⟩ = W.cell? ⟨b, j, none⟩ := fun b j hb => World.cell?_of_block (a := ⟨b, j, none⟩) (put3_other hb x y z)
  refine ⟨h.1, h.2.1, fun i hi => ?_⟩
  obtain ⟨b, o, e, hn⟩ := h.2.2 i hi
  have hb : b ≠ c := fun e => by
    subst e
    have := (hcell _ _ hn.up).2
    omega
  obtain ⟨v, hv, ka, kc, rfl, h1, h2, h3⟩ := hn.kids
  exact ⟨b, o, e, ⟨(hsame b _ hb).trans hn.kind, (hsame b _ hb).trans hn.mode, (hsame b _ hb).trans hn.links, (hsame b _ hb).trans hn.data, ⟨_, (hsame b _ hb).trans hv, ka, kc, rfl, h1, h2, fun j hj => by
    obtain ⟨b', o', e', c0, c1⟩ := h3 j hj
    have hb' : b' ≠ c := fun e => by
      subst e
      exact (hcell _ _ c0).1 _ rfl
    exact ⟨b', o', e', (hsame b' _ hb').trans c0, (hsame b' _ hb').trans c1⟩⟩, (hsame b _ hb).trans hn.up⟩⟩
theorem set_sizes (W : World) (a : Addr) (v : Value) : (W.setCell a v).heap.size = W.heap.size := by simp [World.setCell]
/-- What the walk asks of an inode that is written. -/
theorem RefT.cells {W : World} {g cap : Nat} {L : List Ino} {vs : List Value} (h : RefT W g cap L vs) {i : Nat} (hi : i < L.length) (j : Nat) (hj : j < 6) : (∃ u, W.cell? ⟨g, i * 6 + j, none⟩ = some u) ∧ W.frozen? ⟨g, i * 6 + j, none⟩ = false := by
  obtain ⟨v, hn, -, hf⟩ := h.node hi
  refine ⟨?_, hf _⟩
  match j, hj with
  | 0, _ => exact ⟨_, hn.kind⟩
  | 1, _ => exact ⟨_, hn.mode⟩
  | 2, _ => exact ⟨_, hn.links⟩
  | 3, _ => exact ⟨_, hn.data⟩
  | 4, _ => exact ⟨_, hn.kids⟩
  | 5, _ => exact ⟨_, hn.up⟩
theorem kids_just {w5 : World} {g B : Nat} {t : TypeId} {s : List UInt8} {k : Int} (hB : w5.heap[B]? = some (.cells #[.string ⟨s.toArray⟩, .int .i64 k] t (0, 0))) (hne : B ≠ g) (W' : World) (h : ∀ j, j ≠ g → j < w5.heap.size → W'.heap[j]? = w5.heap[j]?) : KidsIn W' (.slice (some ⟨B, 0, none⟩) 1 1) [(s, k)] := by
  have h1 := (h B hne (lt_of_block hB)).trans hB
  refine ⟨_, 1, rfl, Nat.le_refl _, by unfold maxLen; decide, fun i hi => ⟨B, 0, rfl, ?_⟩⟩
  have hi' : i < 1 := hi
  obtain rfl : i = 0 := by omega
  exact ⟨blk_cell h1 0, blk_cell h1 1⟩
end Go.Proofs.Ytblmlgpajmaliaa
