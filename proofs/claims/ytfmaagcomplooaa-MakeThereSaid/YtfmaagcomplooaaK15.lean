/-
  append of one row of texts onto another that the call itself made; nil or not.
  append of one row of texts onto another, as one step of a region that draws its order.
  Plain words for the reference's list: all paths beneath a directory.
-/
import Derived.Test.YtfmaagcomplooaaK1
import Derived.Laws.OwnMore
import Derived.Laws.AppendOwnNone
import Derived.Deep.RegionLaw
import Derived.BigRegion
import Derived.Deep.Draws
import Derived.Test.YtfmaagcomplooaaK3
namespace Go.Proofs.Ytfmaagcomplooaa
set_option maxRecDepth 100000
open Go Go.RowKit

theorem append_texts {B B2 : Nat} {w : World} {v x : Value} {L L2 : List (List UInt8)} (hT : Texts B w v L) (hS : Texts B2 w x L2) (hn : L.length + L2.length ≤ 1048576) (hB : B ≤ w.heap.size)
    {ops : Array Oper} {rest : List Oper} {o : Oper} {a : Act} {Q : Exit → Act → World → Prop} (hgd : o.guard = none) (s y : Operand)
    (ho : o.op = .call { callee := .builtin .append, args := #[s, y], argTypes := #[42, 42] }) (hs : a.eval s = v) (hx : a.eval y = x)
    (h : ∀ v' w', Texts B w' v' (L ++ L2) → Below B w w' → wpList Try.prog ops Q rest (a.put o.dst v') w') : wpList Try.prog ops Q (o :: rest) a w := by
  obtain ⟨i0, hi, hz0, hz1, hz2⟩ := info_parts infoS
  rcases hS.forms with ⟨rfl, rfl⟩ | ⟨g, cap, rfl, -, -, -, -, hcell⟩
  · refine wpList_append_own_none hgd s y 42 ho B 9 i0 1 Try.underlying42 hi v L.length (L.map strv) hs hT hx ?_
    exact h v w (by rw [List.append_nil]; exact hT) (Below.refl _ _)
  · refine wpList_append_own w hgd s y 42 ho B 9 i0 (.string ByteArray.empty) 1 16 Try.underlying42 hi hz0 hz1 hz2 rfl (by decide) v L.length (L.map strv) hs hT ⟨g, 0, none⟩ L2.length cap (L2.map strv) hx (by simp) ?_ ?_ (by unfold maxLen; omega) (by omega) hB ?_
    · intro j u hu
      rw [List.getElem?_map] at hu
      by_cases hj : j < L2.length
      · rw [List.getElem?_eq_getElem hj] at hu
        have e : (⟨g, 0, none⟩ : Addr).add j = ⟨g, j, none⟩ := by unfold Addr.add; split <;> simp_all
        rw [e, hcell j hj]
        exact hu
      · rw [List.getElem?_eq_none (by omega)] at hu
        cases hu
    · intro u hu
      obtain ⟨z, -, rfl⟩ := List.mem_map.1 hu
      rfl
    · intro v' w' hown hgrow _
      refine h v' w' ?_ ((Below.refl B w).grown hgrow hB (fun r hr => (World.ownsRow.lt (show w.ownsRow B 9 1 v L.length (L.map strv) from hT) r hr).1))
      unfold Texts
      rw [List.length_append, List.map_append]
      exact hown

theorem texts_empty (B : Nat) (w : World) (hB : B ≤ w.heap.size) : Texts B (w.alloc (.cells #[] 9)) (.slice (some ⟨w.heap.size, 0, none⟩) 0 0) [] :=
  World.ownsRow_lit w #[] 0 hB (by decide) rfl
end Go.Proofs.Ytfmaagcomplooaa

namespace Go.Proofs.Ytfmaagcomplooaa
set_option maxRecDepth 100000
open Go Go.RowKit

theorem step_append_texts {B B2 : Nat} {w : World} {v x : Value} {L L2 : List (List UInt8)} (hT : Texts B w v L) (hS : Texts B2 w x L2) (hn : L.length + L2.length ≤ 1048576) (hB : B ≤ w.heap.size)
    {ops : Array Oper} {o : Oper} {a : Act} {K : Act → World → Prop} {Q : Exit → Act → World → Prop} {E : Prop} (hgd : o.guard = none) (s y : Operand)
    (ho : o.op = Op.call { callee := Callee.builtin Builtin.append, args := #[s, y], argTypes := #[42, 42] }) (hs : a.eval s = v) (hx : a.eval y = x)
    (hK : ∀ v' w', Texts B w' v' (L ++ L2) → Below B w w' → K (a.put o.dst v') w') :
    if Region.wanted o (yielded ops a.tmps) = true then Oper.wp Try.prog o a w K Q else E := by
  have hw : Region.wanted o (yielded ops a.tmps) = true := by simp [Region.wanted, hgd]
  rw [if_pos hw]
  obtain ⟨i0, hi, hz0, hz1, hz2⟩ := info_parts infoS
  have hown : w.ownsRow B 9 1 v L.length (L.map strv) := hT
  rcases hS.forms with ⟨rfl, rfl⟩ | ⟨g, cap, rfl, -, -, -, -, hcell⟩
  · have hrun := run_append_owned_none (P := Try.prog) (w := w) B 42 o.type 9 i0 1 Try.underlying42 hi v L.length (L.map strv) hown
    unfold Oper.wp
    simp [execOp, ho, resolve, invoke, builtin, hs, hx, hrun, Result.andThen]
    exact hK v w (by rw [List.append_nil]; exact hT) (Below.refl _ _)
  · obtain ⟨v', w', hrun, r1, r2, _⟩ := run_append_own (P := Try.prog) w B 42 o.type 9 i0 (.string ByteArray.empty) 1 16 Try.underlying42 hi hz0 hz1 hz2 rfl (by decide) v L.length (L.map strv) hown ⟨g, 0, none⟩ L2.length cap (L2.map strv) (by simp) (by
      intro j u hu
      rw [List.getElem?_map] at hu
      by_cases hj : j < L2.length
      · rw [List.getElem?_eq_getElem hj] at hu
        have e : (⟨g, 0, none⟩ : Addr).add j = ⟨g, j, none⟩ := by unfold Addr.add; split <;> simp_all
        rw [e, hcell j hj]
        exact hu
      · rw [List.getElem?_eq_none (by omega)] at hu
        cases hu) (by
      intro u hu
      obtain ⟨z, -, rfl⟩ := List.mem_map.1 hu
      rfl) (by unfold maxLen; omega) (by omega) hB
    unfold Oper.wp
    simp [execOp, ho, resolve, invoke, builtin, hs, hx, hrun, Result.andThen]
    refine hK v' w' ?_ ((Below.refl B w).grown r2 hB (fun r hr => (World.ownsRow.lt hown r hr).1))
    unfold Texts
    rw [List.length_append, List.map_append]
    exact r1
end Go.Proofs.Ytfmaagcomplooaa

namespace Go.Proofs.Ytfmaagcomplooaa
set_option maxRecDepth 100000
open Go Go.RowKit

theorem own_less3 {w : World} {b b' : Nat} {v : Value} {L : List (List UInt8)} (h : Texts b w v L) (hb : b' ≤ b) : Texts b' w v L := by
  obtain ⟨h1, h2 | ⟨g, cap, cur, hv, hg, r⟩⟩ := h
  · exact ⟨h1, Or.inl h2⟩
  · exact ⟨h1, Or.inr ⟨g, cap, cur, hv, by omega, r⟩⟩

def listGo (L : List Ino) : Nat → Int → List UInt8 → List (List UInt8)
  | 0, _, _ => []
  | n + 1, d, p => (nodeAt L d).kids.flatMap fun e => (p ++ 47 :: e.1) :: (if (nodeAt L e.2).kind = 2 then listGo L n e.2 (p ++ 47 :: e.1) else [])
/-- One name's paths. -/
def listOne (L : List Ino) (n : Nat) (p : List UInt8) (e : List UInt8 × Int) : List (List UInt8) := (p ++ 47 :: e.1) :: (if (nodeAt L e.2).kind = 2 then listGo L n e.2 (p ++ 47 :: e.1) else [])
theorem list_succ (L : List Ino) (n : Nat) (d : Int) (p : List UInt8) : listGo L (n + 1) d p = (nodeAt L d).kids.flatMap (listOne L n p) := rfl

/-- What going down asks of a tree: each name's inode is there, and no name is too long. -/
def Falls (L : List Ino) : Prop := ∀ k (h : k < L.length), ∀ e ∈ L[k].kids, thereB L e.2 = true ∧ e.1.length ≤ 64

theorem flat_take {α β : Type} (M : List α) (f : α → List β) (k : Nat) (hk : k < M.length) : (M.take (k + 1)).flatMap f = (M.take k).flatMap f ++ f M[k] := by
  rw [List.take_succ_eq_append_getElem hk, List.flatMap_append]
  simp
theorem flat_len {α β : Type} (M : List α) (f : α → List β) (k : Nat) : ((M.take k).flatMap f).length ≤ (M.flatMap f).length := by
  have h := congrArg (fun l => (l.flatMap f).length) (List.take_append_drop k M)
  simp only [List.flatMap_append, List.length_append] at h
  omega

theorem cat_slash (p x : List UInt8) : ((⟨p.toArray⟩ : ByteArray) ++ (⟨#[47]⟩ : ByteArray)) ++ (⟨x.toArray⟩ : ByteArray) = ⟨(p ++ 47 :: x).toArray⟩ := by
  rw [show (⟨#[47]⟩ : ByteArray) = ⟨[47].toArray⟩ from rfl, ByteArray.mk_append_mk, ByteArray.mk_append_mk, List.append_assoc]
  rfl

end Go.Proofs.Ytfmaagcomplooaa
