/-
  Trees whose inodes lie in one block that may be written, whatever their names' slices are: for both sides of drop.
-/
import Derived.Test.YtblmlgpajmaliaaMkOwn
import Derived.Test.YtblmlgpajmaliaaMkPlain
namespace Go.Proofs.Ytblmlgpajmaliaa
set_option maxRecDepth 100000
open Go Go.RowKit

theorem sets_keep : ∀ (l : List Value) (b o : Nat) (W : World), (W.setCells b o l).os = W.os ∧ (W.setCells b o l).tape = W.tape ∧ (W.setCells b o l).output = W.output
  | [], _, _, _ => ⟨rfl, rfl, rfl⟩
  | v :: r, b, o, W => sets_keep r b (o + 1) (W.setCell ⟨b, o, none⟩ v)

/-- All that was there but block g is as it was. -/
structure Off (g : Nat) (w w' : World) : Prop where
  os : w'.os = w.os
  tape : w'.tape = w.tape
  output : w'.output = w.output
  size : w.heap.size ≤ w'.heap.size
  block : ∀ j, j ≠ g → j < w.heap.size → w'.heap[j]? = w.heap[j]?
section
variable {g : Nat} {w w' w'' : World}
theorem Off.refl (g : Nat) (w : World) : Off g w w := ⟨rfl, rfl, rfl, Nat.le_refl _, fun _ _ _ => rfl⟩
theorem Off.trans (h : Off g w w') (k : Off g w' w'') : Off g w w'' := ⟨k.os.trans h.os, k.tape.trans h.tape, k.output.trans h.output, Nat.le_trans h.size k.size, fun j hj hl => (k.block j hj (Nat.lt_of_lt_of_le hl h.size)).trans (h.block j hj hl)⟩
theorem Off.of_below (h : Below w.heap.size w w') : Off g w w' := ⟨h.os, h.tape, h.output, h.size, fun j _ hl => h.block j hl⟩
theorem Off.below (h : Off g w w') {B : Nat} (hg : B ≤ g) (hB : B ≤ w.heap.size) : Below B w w' := ⟨h.os, h.tape, h.output, h.size, fun j hj => h.block j (by omega) (by omega)⟩
theorem Off.set (h : Off g w w') (o : Nat) (v : Value) : Off g w (w'.setCell ⟨g, o, none⟩ v) := ⟨h.os, h.tape, h.output, by simpa [World.setCell] using h.size, fun j hj hl => (Below.heap_setCell _ _ _ _ hj).trans (h.block j hj hl)⟩
theorem Off.sets (h : Off g w w') (o : Nat) (l : List Value) : Off g w (w'.setCells g o l) := by
  obtain ⟨h1, h2, h3⟩ := sets_keep l g o w'
  exact ⟨h1.trans h.os, h2.trans h.tape, h3.trans h.output, by rw [size_sets]; exact h.size, fun j hj hl => (heap_sets _ _ _ _ _ hj).trans (h.block j hj hl)⟩
end

theorem KidsIn.cells {W W' : World} {v : Value} {K : List (List UInt8 × Int)} (h : KidsIn W v K) (hb : ∀ j, j < W.heap.size → W'.heap[j]? = W.heap[j]?) : KidsIn W' v K := by
  obtain ⟨a, cap, h1, h2, h3, h4⟩ := h
  refine ⟨a, cap, h1, h2, h3, fun i hi => ?_⟩
  obtain ⟨b, o, e1, e2, e3⟩ := h4 i hi
  have hl := cell_lt e2
  exact ⟨b, o, e1, (World.cell?_of_block (a := ⟨b, o + i * 2, none⟩) (hb b hl)).trans e2, (World.cell?_of_block (a := ⟨b, o + i * 2 + 1, none⟩) (hb b hl)).trans e3⟩

/-- Block g holds the inodes L, whose names' slices are vs and lie elsewhere. -/
structure RefT (W : World) (g cap : Nat) (L : List Ino) (vs : List Value) : Prop where
  nodes : NodesOwn W g cap L vs
  kids : ∀ i (hi : i < L.length) (hv : i < vs.length) (W' : World), (∀ j, j ≠ g → j < W.heap.size → W'.heap[j]? = W.heap[j]?) → KidsIn W' vs[i] L[i].kids
section
variable {W W' : World} {base g cap : Nat} {L : List Ino} {vs : List Value}
theorem RefT.nodesIn (h : RefT W g cap L vs) : NodesIn W (some ⟨g, 0, none⟩) cap L := h.nodes.nodesIn fun i hi hv => h.kids i hi hv W fun _ _ _ => rfl
theorem RefT.stay (h : RefT W g cap L vs) (hs : W.heap.size ≤ W'.heap.size) (hb : ∀ j, j < W.heap.size → W'.heap[j]? = W.heap[j]?) : RefT W' g cap L vs :=
  ⟨h.nodes.same (hb g h.nodes.lt), fun i hi hv W'' hw => h.kids i hi hv W'' fun j hj hl => (hw j hj (Nat.lt_of_lt_of_le hl hs)).trans (hb j hl)⟩
theorem RefT.below (h : RefT W g cap L vs) (hb : Below W.heap.size W W') : RefT W' g cap L vs := h.stay hb.size hb.block
theorem OwnT.refT (h : OwnT W base g cap L vs) : RefT W g cap L vs :=
  ⟨h.nodes, fun i hi hv _W' hw => ((h.kids i hi hv).same fun k hk => hw k (fun e => h.off i hv (e ▸ hk)) ((h.kids i hi hv).lt k hk).2).kidsIn⟩
/-- The reference's copy: the names' slices are those of before. -/
theorem RefT.of_kids {w : World} (hN : NodesOwn W g cap L vs) (hk : ∀ i (hi : i < L.length) (hv : i < vs.length), KidsIn w vs[i] L[i].kids) (hg : w.heap.size ≤ g) (hs : w.heap.size ≤ W.heap.size) (hb : ∀ j, j < w.heap.size → W.heap[j]? = w.heap[j]?) : RefT W g cap L vs :=
  ⟨hN, fun i hi hv _ hw => (hk i hi hv).cells fun j hj => (hw j (by omega) (by omega)).trans (hb j hj)⟩
theorem RefT.setKids (h : RefT W g cap L vs) {d : Nat} (hd : d < L.length) (hv : d < vs.length) {w5 : World} {v : Value} {M : List (List UInt8 × Int)} (hk : KidsOwn w5 W.heap.size v M) (hb : Below W.heap.size W w5) :
    RefT (w5.setCell ⟨g, d * 6 + 4, none⟩ v) g cap (L.set d { L[d] with kids := M }) (vs.set d v) := by
  refine ⟨(h.nodes.below hb).setKids hd hv v M, fun i hi hvi W' hw => ?_⟩
  have hw5 : ∀ j, j ≠ g → j < w5.heap.size → W'.heap[j]? = w5.heap[j]? := fun j hj hl => (hw j hj (by simpa [World.setCell] using hl)).trans (Below.heap_setCell _ _ _ _ hj)
  have hgl := h.nodes.lt
  by_cases e : d = i
  · subst e
    rw [List.getElem_set_self, List.getElem_set_self]
    exact (hk.same fun j hj => by
      have := hk.lt j hj
      exact hw5 j (by omega) this.2).kidsIn
  · rw [List.length_set] at hi hvi
    rw [List.getElem_set_ne e, List.getElem_set_ne e]
    exact h.kids i hi hvi W' fun j hj hl => (hw5 j hj (Nat.lt_of_lt_of_le hl hb.size)).trans (hb.block j hl)
/-- What is written of the block of the inodes alone. -/
theorem RefT.turn (h : RefT W g cap L vs) {L' : List Ino} {vs' : List Value} (hN : NodesOwn W' g cap L' vs') (hl : L'.length = L.length) (hs : W'.heap.size = W.heap.size) (hb : ∀ j, j ≠ g → W'.heap[j]? = W.heap[j]?)
    (hk : ∀ i (hi : i < L'.length) (hv : i < vs'.length) (hi2 : i < L.length) (hv2 : i < vs.length), (L'[i].kids = L[i].kids ∧ vs'[i] = vs[i]) ∨ (L'[i].kids = [] ∧ vs'[i] = .slice none 0 0)) : RefT W' g cap L' vs' := by
  refine ⟨hN, fun i hi hv W'' hw => ?_⟩
  have hi2 : i < L.length := by rw [← hl]; exact hi
  rcases hk i hi hv hi2 (by rw [h.nodes.len]; exact hi2) with ⟨e1, e2⟩ | ⟨e1, e2⟩
  · rw [e1, e2]
    exact h.kids i hi2 _ W'' fun j hj hjl => (hw j hj (by rw [hs]; exact hjl)).trans (hb j hj)
  · rw [e1, e2]
    exact ⟨none, 0, rfl, Nat.le_refl _, Nat.zero_le _, fun i hi => absurd hi (Nat.not_lt_zero _)⟩
theorem RefT.setLinks (h : RefT W g cap L vs) {i : Nat} (hi : i < L.length) (z : Int) : RefT (W.setCell ⟨g, i * 6 + 2, none⟩ (.int .i64 z)) g cap (L.set i { L[i] with links := z }) vs := by
  have hv : i < vs.length := by rw [h.nodes.len]; exact hi
  have hN := h.nodes.setLinks hi hv z
  rw [set_self] at hN
  refine h.turn hN (List.length_set ..) (size_set _ _) (fun j hj => Below.heap_setCell _ _ _ _ hj) fun j hj _ hj2 _ => .inl ⟨?_, rfl⟩
  rw [List.getElem_set]
  split
  · rename_i e; subst e; rfl
  · rfl
theorem NodesOwn.setUp (h : NodesOwn W g cap L vs) {i : Nat} (hi : i < L.length) (hv : i < vs.length) (z : Int) : NodesOwn (W.setCell ⟨g, i * 6 + 5, none⟩ (.int .i64 z)) g cap (L.set i { L[i] with up := z }) (vs.set i vs[i]) := by
  have hn := h.node i hi hv
  have hc := cell_set (u := .int .i64 z) hn.up
  refine h.put hi (size_set _ _) (fun j => World.frozen?_setCell ..) (fun j hj => by rw [hc, if_neg (by omega)]) ⟨?_, ?_, ?_, ?_, ?_, ?_⟩
  · rw [hc, if_neg (by omega)]; exact hn.kind
  · rw [hc, if_neg (by omega)]; exact hn.mode
  · rw [hc, if_neg (by omega)]; exact hn.links
  · rw [hc, if_neg (by omega)]; exact hn.data
  · rw [hc, if_neg (by omega)]; exact hn.kids
  · rw [hc, if_pos rfl]
theorem RefT.setUp (h : RefT W g cap L vs) {i : Nat} (hi : i < L.length) (z : Int) : RefT (W.setCell ⟨g, i * 6 + 5, none⟩ (.int .i64 z)) g cap (L.set i { L[i] with up := z }) vs := by
  have hv : i < vs.length := by rw [h.nodes.len]; exact hi
  have hN := h.nodes.setUp hi hv z
  rw [set_self] at hN
  refine h.turn hN (List.length_set ..) (size_set _ _) (fun j hj => Below.heap_setCell _ _ _ _ hj) fun j hj _ hj2 _ => .inl ⟨?_, rfl⟩
  rw [List.getElem_set]
  split
  · rename_i e; subst e; rfl
  · rfl
theorem RefT.setNode (h : RefT W g cap L vs) {i : Nat} (hi : i < L.length) (x : Ino) (hx : x.kids = []) : RefT (W.setCells g (i * 6) (inoC x (.slice none 0 0))) g cap (L.set i x) (vs.set i (.slice none 0 0)) := by
  have hv : i < vs.length := by rw [h.nodes.len]; exact hi
  refine h.turn (h.nodes.setNode hi hv x _) (List.length_set ..) (size_sets _ _ _ _) (fun j hj => heap_sets _ _ _ _ _ hj) fun j hj hvj _ _ => ?_
  rw [List.getElem_set, List.getElem_set]
  by_cases e : i = j
  · rw [if_pos e, if_pos e]; exact .inr ⟨hx, rfl⟩
  · rw [if_neg e, if_neg e]; exact .inl ⟨rfl, rfl⟩
theorem RefT.node (h : RefT W g cap L vs) {i : Nat} (hi : i < L.length) : ∃ v, NodeAt W g (i * 6) L[i] v ∧ KidsIn W v L[i].kids ∧ ∀ j, W.frozen? ⟨g, j, none⟩ = false := by
  have hv : i < vs.length := by rw [h.nodes.len]; exact hi
  exact ⟨vs[i], h.nodes.node i hi hv, h.kids i hi hv W fun _ _ _ => rfl, h.nodes.free⟩
end

/-- What is there behind the names of a directory were written. -/
structure Named1 (g cap d k : Nat) (M : List (List UInt8 × Int)) (L : List Ino) (w W : World) (vs : List Value) : Prop where
  ref : RefT W g cap (L.set d (withKids (nodeAt L d) M)) vs
  off : Off g w W
theorem Named1.links {g cap d k : Nat} {M : List (List UInt8 × Int)} {L : List Ino} {w W : World} {vs : List Value} (h : Named1 g cap d k M L w W vs) (hk : k < L.length) (hdk : d ≠ k) (z : Int) :
    RefT (W.setCell ⟨g, k * 6 + 2, none⟩ (.int .i64 z)) g cap ((L.set d (withKids (nodeAt L d) M)).set k { L[k] with links := z }) vs ∧ Off g w (W.setCell ⟨g, k * 6 + 2, none⟩ (.int .i64 z)) := by
  have hk' : k < (L.set d (withKids (nodeAt L d) M)).length := by rw [List.length_set]; exact hk
  have h1 := h.ref.setLinks hk' z
  rw [List.getElem_set_ne hdk] at h1
  exact ⟨h1, h.off.set _ _⟩
/-- What a change of a tree in its own block leaves. -/
def TurnAns (g cap : Nat) (L' : List Ino) (w : World) (e : Ending) (w' : World) : Prop := e = .returned (.tuple #[]) ∧ (∃ vs', RefT w' g cap L' vs') ∧ Off g w w'
end Go.Proofs.Ytblmlgpajmaliaa
