/-
  The reference's set.
-/
import Derived.Test.YtfldhggmgepcjaaEClass
import Derived.Test.YtfldhggmgepcjaaQLaws
import Derived.Test.YtfldhggmgepcjaaQSuffix
import Derived.Deep.MidRow
namespace Go.Proofs.Ytfldhggmgepcjaa
set_option maxRecDepth 100000
open Go Go.RowKit

def setC (f : UInt8 → Bool) : List Value := (List.range 256).map fun j => Value.bool (f (UInt8.ofNat j))
theorem setC_len (f : UInt8 → Bool) : (setC f).length = 256 := by simp [setC]
theorem setC_get (f : UInt8 → Bool) (c : UInt8) : (setC f)[c.toNat]? = some (.bool (f c)) := by
  unfold setC
  have h := c.toNat_lt
  rw [List.getElem?_map, List.getElem?_range (by omega), Option.map_some, UInt8.ofNat_toNat]
theorem setC_at (f : UInt8 → Bool) (j : Nat) (hj : j < 256) : (setC f)[j]? = some (.bool (f (UInt8.ofNat j))) := by
  unfold setC
  rw [List.getElem?_map, List.getElem?_range hj]; rfl
theorem ofNat_val (j : Nat) (hj : j < 256) : (UInt8.ofNat j).toNat = j := by
  rw [UInt8.toNat_ofNat']; omega
theorem setC_set (f : UInt8 → Bool) (j : Nat) (hj : j < 256) (v : Bool) : (setC f).set j (.bool v) = setC (fun d => if d = UInt8.ofNat j then v else f d) := by
  apply List.ext_getElem?
  intro i
  rw [List.getElem?_set]
  by_cases hi : i < 256
  · rw [setC_at _ i hi, setC_at _ i hi, setC_len]
    by_cases e : j = i
    · subst e; rw [if_pos rfl, if_pos hj, if_pos rfl]
    · rw [if_neg e, if_neg]
      intro h
      have := congrArg UInt8.toNat h
      rw [ofNat_val i hi, ofNat_val j hj] at this
      exact e this.symm
  · rw [if_neg (by omega), List.getElem?_eq_none (by rw [setC_len]; omega), List.getElem?_eq_none (by rw [setC_len]; omega)]
theorem setC_one (f : UInt8 → Bool) : (setC f).toArray.all (·.oneCell') = true := by
  rw [List.all_toArray, List.all_eq_true]
  intro v hv
  obtain ⟨j, -, rfl⟩ := List.mem_map.1 hv
  rfl
theorem setC_congr {f g : UInt8 → Bool} (h : ∀ c, f c = g c) : setC f = setC g := by
  have : f = g := funext h
  rw [this]
def noneC : List Value := List.replicate 256 (.bool false)
theorem noneC_eq : noneC = setC (fun _ => false) := by
  apply List.ext_getElem?
  intro i
  unfold noneC
  by_cases hi : i < 256
  · rw [setC_at _ i hi, List.getElem?_replicate, if_pos hi]
  · rw [List.getElem?_eq_none (by simp; omega), List.getElem?_eq_none (by rw [setC_len]; omega)]
def zeroS : Array Value := noneC.toArray
theorem alloc_set (W : World) : (Instr.alloc 56 true (.tuple #[])).run Try.prog W = .ok (.pointer (some ⟨W.heap.size, 0, none⟩)) (W.alloc (.cells zeroS 56)) := by kernel_rfl
theorem wpList_alloc_set {ops : Array Oper} {rest : List Oper} {o : Oper} {a : Act} {w : World} {Q : Exit → Act → World → Prop} (hg : o.guard = none) (ho : o.op = .alloc 56)
    (h : wpList Try.prog ops Q rest (a.put o.dst (.pointer (some ⟨w.heap.size, 0, none⟩))) (w.alloc (.cells zeroS 56))) : wpList Try.prog ops Q (o :: rest) a w := by
  refine wpList_plain hg fun K hK => ?_
  unfold Oper.wp execOp
  simp only [ho, alloc_set, Sem.run_bind, Sem.run_pure, Result.andThen_ok]
  exact hK _ _ h
theorem set_info (c : Nat) (hc : c = 256) : (Try.prog.info? 56).map (·.size) = some c := by
  subst hc
  kernel_rfl
/-- How the members of a set are told so far. -/
def SetH (L : Pl) (i p : Nat) (t : Bool) (ms : List Mb) : Prop := setP (L.drop i) = (match clE (L.drop p) with | some k => some (t, ms ++ mbs (L.drop p), p + k + 1 - i) | none => none)
theorem setH_first {L : Pl} {i q : Nat} (hq : q = i + bang (L.drop i)) (h : q < L.length) : SetH L i (q + mbN (L.drop q)) (isP L i 33) [mbF (L.drop q)] := by
  unfold SetH
  cases hk : clE (L.drop (q + mbN (L.drop q))) with
  | none => rw [setP_none hq (Or.inr hk)]
  | some k => rw [setP_some hq h hk]; rfl
theorem setH_next {L : Pl} {i p : Nat} {t : Bool} {ms : List Mb} (h : SetH L i p t ms) (hp : p < L.length) (h93 : isP L p 93 = false) : SetH L i (p + mbN (L.drop p)) t (ms ++ [mbF (L.drop p)]) := by
  have hL : L.drop p ≠ [] := by
    intro e
    have := congrArg List.length e
    rw [List.length_drop] at this
    simp at this; omega
  have h0 : isP (L.drop p) 0 93 = false := by rw [isP_drop, Nat.add_zero]; exact h93
  unfold SetH at h ⊢
  rw [clE_more hL h0, mbs_more hL h0, List.drop_drop] at h
  rw [h]
  cases hk : clE (L.drop (p + mbN (L.drop p))) with
  | none => rfl
  | some k =>
    simp only [Option.map_some, List.append_assoc, List.singleton_append]
    congr 3
    omega
theorem setH_yes {L : Pl} {i p : Nat} {t : Bool} {ms : List Mb} (h : SetH L i p t ms) (h93 : isP L p 93 = true) : setP (L.drop i) = some (t, ms, p + 1 - i) := by
  unfold SetH at h
  have h0 : isP (L.drop p) 0 93 = true := by rw [isP_drop, Nat.add_zero]; exact h93
  rw [clE_yes h0, mbs_yes h0] at h
  simpa using h
theorem setH_no {L : Pl} {i p : Nat} {t : Bool} {ms : List Mb} (h : SetH L i p t ms) (hp : ¬ p < L.length) : setP (L.drop i) = none := by
  have e : L.drop p = [] := List.drop_eq_nil_of_le (by omega)
  unfold SetH at h
  rw [e, clE_nil] at h
  exact h

/-- What the reference's set answers. -/
def RSetAns (w : World) (i : Nat) : Option (Bool × List Mb × Nat) → Ending → World → Prop
  | none, e, w' => (∃ f, e = .returned (.tuple #[.agg (setC f).toArray, .int .i64 0])) ∧ Below w.heap.size w w'
  | some (t, l, n), e, w' => e = .returned (.tuple #[.agg (setC (Wt.set t l).tk).toArray, .int .i64 ((i + n : Nat) : Int)]) ∧ Below w.heap.size w w'
/-- The two rows of set. -/
structure SRow (w W : World) (f : UInt8 → Bool) : Prop where
  low : Below w.heap.size w W
  out : RowAt W w.heap.size noneC 56
  row : RowAt W (w.heap.size + 1) (setC f) 56
theorem SRow.put {w W : World} {f : UInt8 → Bool} (h : SRow w W f) (j : Nat) (hj : j < 256) (v : Bool) : SRow w (W.setCell ⟨w.heap.size + 1, j, none⟩ (.bool v)) (fun d => if d = UInt8.ofNat j then v else f d) :=
  ⟨h.low.setCell (show w.heap.size ≤ w.heap.size + 1 by omega) _, h.out.other (by omega) j _, by rw [← setC_set f j hj]; exact h.row.set j _⟩
theorem SRow.congr {w W : World} {f g : UInt8 → Bool} (h : SRow w W f) (e : ∀ c, f c = g c) : SRow w W g := ⟨h.low, h.out, by rw [← setC_congr e]; exact h.row⟩
end Go.Proofs.Ytfldhggmgepcjaa
