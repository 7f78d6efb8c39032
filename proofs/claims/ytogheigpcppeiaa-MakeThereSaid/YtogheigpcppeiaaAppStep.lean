/-
  append of one row of texts onto another, as one step of a region that draws its order.
-/
import Derived.Deep.RegionLaw
import Derived.Test.YtogheigpcppeiaaAppTexts
namespace Go.Proofs.Ytogheigpcppeiaa
set_option maxRecDepth 100000
open Go Go.RowKit

theorem step_append_texts {B B2 : Nat} {w : World} {v x : Value} {L L2 : List (List UInt8)} (hT : Texts B w v L) (hS : Texts B2 w x L2) (hn : L.length + L2.length ≤ 1048576) (hB : B ≤ w.heap.size)
    {ops : Array Oper} {o : Oper} {a : Act} {K : Act → World → Prop} {Q : Exit → Act → World → Prop} {E : Prop} (hgd : o.guard = none) (s y : Operand)
    (ho : o.op = Op.call { callee := Callee.builtin Builtin.append, args := #[s, y], argTypes := #[42, 42] }) (hs : a.eval s = v) (hx : a.eval y = x)
    (hK : ∀ v' w', Texts B w' v' (L ++ L2) → Below B w w' → K (a.put o.dst v') w') :
    if Region.wanted o (yielded ops a.tmps) = true then Oper.wp Try.prog o a w K Q else E := by
  have hw : Region.wanted o (yielded ops a.tmps) = true := by simp [Region.wanted, hgd]
  rw [if_pos hw]
  obtain ⟨i0, hi, hz0, hz1, hz2⟩ := info_parts infoS
  have hown : w.ownsRow B 9 1 v L.length (L.map strv) := hT
  rcases hS.forms with ⟨rfl, rfl⟩ | ⟨g, cap, rfl, -, -, -, -, hcell⟩
  · have hrun := run_append_owned_none (P := Try.prog) (w := w) B 42 o.type 9 i0 1 Try.underlying42 hi v L.length (L.map strv) hown
    unfold Oper.wp
    simp [execOp, ho, resolve, invoke, builtin, hs, hx, hrun, Result.andThen]
    exact hK v w (by rw [List.append_nil]; exact hT) (Below.refl _ _)
  · obtain ⟨v', w', hrun, r1, r2, _⟩ := run_append_own (P := Try.prog) w B 42 o.type 9 i0 (.string ByteArray.empty) 1 16 Try.underlying42 hi hz0 hz1 hz2 rfl (by decide) v L.length (L.map strv) hown ⟨g, 0, none⟩ L2.length cap (L2.map strv) (by simp) (by
      intro j u hu
      rw [List.getElem?_map] at hu
      by_cases hj : j < L2.length
      · rw [List.getElem?_eq_getElem hj] at hu
        have e : (⟨g, 0, none⟩ : Addr).add j = ⟨g, j, none⟩ := by unfold Addr.add; split <;> simp_all
        rw [e, hcell j hj]
        exact hu
      · rw [List.getElem?_eq_none (by omega)] at hu
        cases hu) (by
      intro u hu
      obtain ⟨z, -, rfl⟩ := List.mem_map.1 hu
      rfl) (by unfold maxLen; omega) (by omega) hB
    unfold Oper.wp
    simp [execOp, ho, resolve, invoke, builtin, hs, hx, hrun, Result.andThen]
    refine hK v' w' ?_ ((Below.refl B w).grown r2 hB (fun r hr => (World.ownsRow.lt hown r hr).1))
    unfold Texts
    rw [List.length_append, List.map_append]
    exact r1
end Go.Proofs.Ytogheigpcppeiaa
