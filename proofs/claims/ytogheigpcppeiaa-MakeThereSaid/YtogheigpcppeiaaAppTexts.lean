/-
  append of one row of texts onto another that the call itself made; nil or not.
-/
import Derived.Test.YtogheigpcppeiaaK1
import Derived.Laws.OwnMore
import Derived.Laws.AppendOwnNone
namespace Go.Proofs.Ytogheigpcppeiaa
open Go Go.RowKit

theorem append_texts {B B2 : Nat} {w : World} {v x : Value} {L L2 : List (List UInt8)} (hT : Texts B w v L) (hS : Texts B2 w x L2) (hn : L.length + L2.length ≤ 1048576) (hB : B ≤ w.heap.size)
    {ops : Array Oper} {rest : List Oper} {o : Oper} {a : Act} {Q : Exit → Act → World → Prop} (hgd : o.guard = none) (s y : Operand)
    (ho : o.op = .call { callee := .builtin .append, args := #[s, y], argTypes := #[42, 42] }) (hs : a.eval s = v) (hx : a.eval y = x)
    (h : ∀ v' w', Texts B w' v' (L ++ L2) → Below B w w' → wpList Try.prog ops Q rest (a.put o.dst v') w') : wpList Try.prog ops Q (o :: rest) a w := by
  obtain ⟨i0, hi, hz0, hz1, hz2⟩ := info_parts infoS
  rcases hS.forms with ⟨rfl, rfl⟩ | ⟨g, cap, rfl, -, -, -, -, hcell⟩
  · refine wpList_append_own_none hgd s y 42 ho B 9 i0 1 Try.underlying42 hi v L.length (L.map strv) hs hT hx ?_
    exact h v w (by rw [List.append_nil]; exact hT) (Below.refl _ _)
  · refine wpList_append_own w hgd s y 42 ho B 9 i0 (.string ByteArray.empty) 1 16 Try.underlying42 hi hz0 hz1 hz2 rfl (by decide) v L.length (L.map strv) hs hT ⟨g, 0, none⟩ L2.length cap (L2.map strv) hx (by simp) ?_ ?_ (by unfold maxLen; omega) (by omega) hB ?_
    · intro j u hu
      rw [List.getElem?_map] at hu
      by_cases hj : j < L2.length
      · rw [List.getElem?_eq_getElem hj] at hu
        have e : (⟨g, 0, none⟩ : Addr).add j = ⟨g, j, none⟩ := by unfold Addr.add; split <;> simp_all
        rw [e, hcell j hj]
        exact hu
      · rw [List.getElem?_eq_none (by omega)] at hu
        cases hu
    · intro u hu
      obtain ⟨z, -, rfl⟩ := List.mem_map.1 hu
      rfl
    · intro v' w' hown hgrow _
      refine h v' w' ?_ ((Below.refl B w).grown hgrow hB (fun r hr => (World.ownsRow.lt (show w.ownsRow B 9 1 v L.length (L.map strv) from hT) r hr).1))
      unfold Texts
      rw [List.length_append, List.map_append]
      exact hown

theorem texts_empty (B : Nat) (w : World) (hB : B ≤ w.heap.size) : Texts B (w.alloc (.cells #[] 9)) (.slice (some ⟨w.heap.size, 0, none⟩) 0 0) [] :=
  World.ownsRow_lit w #[] 0 hB (by decide) rfl
end Go.Proofs.Ytogheigpcppeiaa
