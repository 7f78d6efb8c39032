/-
  A file's bytes are written in a tree that lies in one block.
-/
import Derived.Test.YtblmlgpajmaliaaDOwnM
import Derived.Test.YtblmlgpajmaliaaBPlain
namespace Go.Proofs.Ytblmlgpajmaliaa
set_option maxRecDepth 100000
open Go Go.RowKit

section
variable {W W' : World} {base g cap : Nat} {L : List Ino} {vs : List Value}
theorem NodesOwn.setData (h : NodesOwn W g cap L vs) {i : Nat} (hi : i < L.length) (hv : i < vs.length) (d : List UInt8) : NodesOwn (W.setCell ⟨g, i * 6 + 3, none⟩ (.string ⟨d.toArray⟩)) g cap (L.set i { L[i] with data := d }) (vs.set i vs[i]) := by
  have hn := h.node i hi hv
  have hc := cell_set (u := .string ⟨d.toArray⟩) hn.data
  refine h.put hi (size_set _ _) (fun j => World.frozen?_setCell ..) (fun j hj => by rw [hc, if_neg (by omega)]) ⟨?_, ?_, ?_, ?_, ?_, ?_⟩
  · rw [hc, if_neg (by omega)]; exact hn.kind
  · rw [hc, if_neg (by omega)]; exact hn.mode
  · rw [hc, if_neg (by omega)]; exact hn.links
  · rw [hc, if_pos rfl]
  · rw [hc, if_neg (by omega)]; exact hn.kids
  · rw [hc, if_neg (by omega)]; exact hn.up
theorem RefT.setData (h : RefT W g cap L vs) {i : Nat} (hi : i < L.length) (d : List UInt8) : RefT (W.setCell ⟨g, i * 6 + 3, none⟩ (.string ⟨d.toArray⟩)) g cap (dataL L i d) vs := by
  have hv : i < vs.length := by rw [h.nodes.len]; exact hi
  have hN := h.nodes.setData hi hv d
  rw [set_self] at hN
  unfold dataL
  rw [node_nat L i hi]
  refine h.turn hN (List.length_set ..) (size_set _ _) (fun j hj => Below.heap_setCell _ _ _ _ hj) fun j hj _ hj2 _ => .inl ⟨?_, rfl⟩
  rw [List.getElem_set]
  split
  · rename_i e; subst e; rfl
  · rfl
end
end Go.Proofs.Ytblmlgpajmaliaa
