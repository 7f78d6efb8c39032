/-
  A law for a region that draws its order: an invariant that each operation keeps, whatever has come before it, holds at the region's end, whatever the order. No program stands here.
-/
import Derived.WalkKit
import Derived.Orders
import Derived.Lib.Hide
namespace Go.Proofs.Ytfldhggmgepcjaa
set_option maxRecDepth 100000
open Go

section
variable {P : Program} {ops : Array Oper} {Q : Exit → Act → World → Prop} {md : Region.Mode}

theorem ready_spec {listed : Array Bool} {i : Nat} (h : i ∈ Region.ready md ops listed) :
    i < ops.size ∧ listed.getD i true = false ∧ ∃ o, ops[i]? = some o ∧ ∀ e ∈ o.after, Region.binds md e = true → listed.getD e.on false = true := by
  unfold Region.ready at h
  rw [List.mem_filter] at h
  obtain ⟨h1, h2⟩ := h
  rw [List.mem_range] at h1
  rw [Bool.and_eq_true] at h2
  obtain ⟨h2, h3⟩ := h2
  refine ⟨h1, by simpa using h2, ops[i], Array.getElem?_eq_getElem h1, fun e he hb => ?_⟩
  rw [Array.getElem?_eq_getElem h1] at h3
  simp only [Option.map_some, Option.getD_some] at h3
  rw [Array.all_eq_true'] at h3
  have := h3 e he
  simpa [hb] using this

theorem ready_mk {listed : Array Bool} {i : Nat} {o : Oper} (hi : i < ops.size) (hl : listed.getD i true = false) (ho : ops[i]? = some o)
    (hd : ∀ e ∈ o.after, Region.binds md e = true → listed.getD e.on false = true) : i ∈ Region.ready md ops listed := by
  unfold Region.ready
  rw [List.mem_filter, List.mem_range, Bool.and_eq_true]
  refine ⟨hi, by simpa using hl, ?_⟩
  rw [ho]
  simp only [Option.map_some, Option.getD_some]
  rw [Array.all_eq_true']
  intro e he
  cases hb : Region.binds md e with
  | false => simp
  | true => simpa using hd e he hb

/-- Each edge leads back: no operation waits for a later one. -/
def leadsBack (md : Region.Mode) (ops : Array Oper) : Bool :=
  (List.range ops.size).all fun i => ((ops[i]?).map fun o => o.after.all fun e => !Region.binds md e || decide (e.on < i)).getD true

theorem all_listed (hb : leadsBack md ops = true) {listed : Array Bool} (hs : listed.size = ops.size) (hr : Region.ready md ops listed = []) :
    ∀ i, i < ops.size → listed.getD i false = true := by
  intro i
  induction i using Nat.strongRecOn with
  | _ i ih =>
    intro hi
    cases hc : listed.getD i false with
    | true => rfl
    | false =>
      exfalso
      have hl : listed.getD i true = false := by
        simp only [Array.getD_eq_getD_getElem?] at hc ⊢
        rw [Array.getElem?_eq_getElem (by omega)] at hc ⊢
        simpa using hc
      have hmem : i ∈ Region.ready md ops listed := by
        refine ready_mk hi hl (Array.getElem?_eq_getElem hi) fun e he heb => ?_
        have h1 := List.all_eq_true.1 hb i (List.mem_range.2 hi)
        rw [Array.getElem?_eq_getElem hi] at h1
        simp only [Option.map_some, Option.getD_some] at h1
        rw [Array.all_eq_true'] at h1
        have h2 := h1 e he
        simp [heb] at h2
        exact ih e.on h2 (by omega)
      rw [hr] at hmem
      cases hmem

/-- AN INVARIANT OF A REGION THAT DRAWS ITS ORDER. -/
theorem wpAny_inv (Inv : Array Bool → Act → World → Prop) (hb : leadsBack md ops = true)
    (hstep : ∀ listed a w i o, listed.size = ops.size → ops[i]? = some o → i < ops.size → listed.getD i true = false →
      (∀ e ∈ o.after, Region.binds md e = true → listed.getD e.on false = true) → Inv listed a w →
      wpOp P ops Q i (fun a' w' => Inv (listed.setIfInBounds i true) a' w') a w)
    (hend : ∀ listed a w, listed.size = ops.size → (∀ i, i < ops.size → listed.getD i false = true) → Inv listed a w → Q .normal a w) :
    ∀ fuel (listed : Array Bool) a w, listed.size = ops.size → listed.toList.countP (fun b => !b) ≤ fuel → Inv listed a w → wpAny P md ops Q fuel listed a w := by
  intro fuel
  induction fuel with
  | zero =>
    intro listed a w hs hc hI
    have hall : ∀ i, i < ops.size → listed.getD i true = true := by
      intro i hi
      have h0 : listed.toList.countP (fun b => !b) = 0 := Nat.le_zero.1 hc
      rw [List.countP_eq_zero] at h0
      have hm : listed[i]'(by omega) ∈ listed.toList := by simp
      have := h0 _ hm
      simp only [Array.getD_eq_getD_getElem?]
      rw [Array.getElem?_eq_getElem (by omega)]
      simpa using this
    have hr : Region.ready md ops listed = [] := by
      refine List.eq_nil_iff_forall_not_mem.2 fun i hi => ?_
      obtain ⟨h1, h2, _⟩ := ready_spec hi
      rw [hall i h1] at h2
      cases h2
    exact ⟨hr, hend listed a w hs (all_listed hb hs hr) hI⟩
  | succ fuel ih =>
    intro listed a w hs hc hI
    refine ⟨fun hr => hend listed a w hs (all_listed hb hs hr) hI, fun i hi => ?_⟩
    obtain ⟨h1, h2, o, ho, hd⟩ := ready_spec hi
    refine wpOp_mono (fun a' w' hI' => ?_) (hstep listed a w i o hs ho h1 h2 hd hI)
    refine ih _ a' w' (by simpa using hs) ?_ hI'
    have hlt : i < listed.toList.length := by simpa [hs] using h1
    have hf : listed.toList[i] = false := by
      simp only [Array.getD_eq_getD_getElem?] at h2
      rw [Array.getElem?_eq_getElem (by omega)] at h2
      simpa using h2
    rw [Array.toList_setIfInBounds, List.countP_set hlt]
    simp only [hf]
    simp at hc ⊢
    omega

theorem wp_region_inv {id : Nat} {a : Act} {w : World} (hm : P.follows .mixedOrders = true) (Inv : Array Bool → Act → World → Prop) (hb : leadsBack .any ops = true)
    (hstep : ∀ listed a w i o, listed.size = ops.size → ops[i]? = some o → i < ops.size → listed.getD i true = false →
      (∀ e ∈ o.after, Region.binds .any e = true → listed.getD e.on false = true) → Inv listed a w →
      wpOp P ops Q i (fun a' w' => Inv (listed.setIfInBounds i true) a' w') a w)
    (hend : ∀ listed a w, listed.size = ops.size → (∀ i, i < ops.size → listed.getD i false = true) → Inv listed a w → Q .normal a w)
    (hI : Inv (Array.replicate ops.size false) a w.drew) : (Code.region id ops true).wp P Q a w := by
  refine wp_region_any hm ?_
  refine wpAny_inv Inv hb hstep hend _ _ _ _ (by simp) ?_ hI
  rw [Array.toList_replicate, List.countP_replicate]
  simp

theorem wpOp_mk {i : Nat} {o : Oper} {a : Act} {w : World} {K : Act → World → Prop} (ho : ops[i]? = some o) (hg : o.guard = none) (h : o.wp P a w K Q) : wpOp P ops Q i K a w := by
  unfold wpOp
  rw [ho]
  simp only [Region.wanted, hg]
  exact Or.inl h

theorem step_move {i : Nat} {d : Nat} {x : Operand} {ty : TypeId} {pos : String} {after : Array Edge} {a : Act} {w : World} {K : Act → World → Prop}
    (ho : ops[i]? = some ⟨some d, .move x, ty, pos, after, none⟩) (h : K (a.put (some d) (a.eval x)) w) : wpOp P ops Q i K a w :=
  wpOp_mk ho rfl h
theorem step_assign {i : Nat} {d : Nat} {x : Operand} {ty : TypeId} {pos : String} {after : Array Edge} {a : Act} {w : World} {K : Act → World → Prop}
    (ho : ops[i]? = some ⟨some d, .assign x, ty, pos, after, none⟩) (h : K (a.put (some d) (a.eval x)) w) : wpOp P ops Q i K a w :=
  wpOp_mk ho rfl h
theorem step_makeFunc {i : Nat} {d : Nat} {fn : Fn} {xs ys : Array Operand} {ty : TypeId} {pos : String} {after : Array Edge} {a : Act} {w : World} {K : Act → World → Prop}
    {us vs : Array Value} (ho : ops[i]? = some ⟨some d, .makeFunc fn xs ys, ty, pos, after, none⟩) (hx : xs.map a.eval = us) (hy : ys.map a.eval = vs) (h : K (a.put (some d) (.func fn us vs)) w) : wpOp P ops Q i K a w := by
  subst hx
  subst hy
  exact wpOp_mk ho rfl h
theorem step_makeMap {i : Nat} {d : Nat} {t : TypeId} {ty : TypeId} {pos : String} {after : Array Edge} {a : Act} {w : World} {K : Act → World → Prop}
    (ho : ops[i]? = some ⟨some d, .makeMap t none, ty, pos, after, none⟩) (h : K (a.put (some d) (.map (some w.heap.size))) (w.alloc (.map #[] 0))) : wpOp P ops Q i K a w :=
  wpOp_mk ho rfl h
theorem step_load {i : Nat} {d : Nat} {t : TypeId} {x : Operand} {ty : TypeId} {pos : String} {after : Array Edge} {a : Act} {w : World} {K : Act → World → Prop} {v : Value}
    (ho : ops[i]? = some ⟨some d, .load t x, ty, pos, after, none⟩) (hr : (Instr.loadAt t (a.eval x)).run P w = .ok v w) (h : K (a.put (some d) v) w) : wpOp P ops Q i K a w := by
  refine wpOp_mk ho rfl ?_
  unfold Oper.wp
  simp [execOp, hr, Result.andThen, Oper.upon]
  exact h
theorem step_insert {i : Nat} {t : TypeId} {m k x : Operand} {ty : TypeId} {pos : String} {after : Array Edge} {a : Act} {w w' : World} {K : Act → World → Prop}
    (ho : ops[i]? = some ⟨none, .insert t m k x, ty, pos, after, none⟩) (hr : (Instr.mapUpdate t (a.eval m) (a.eval k) (a.eval x)).run P w = .ok () w') (h : K a w') : wpOp P ops Q i K a w := by
  refine wpOp_mk ho rfl ?_
  unfold Oper.wp
  simp [execOp, hr, Result.andThen, Oper.upon]
  exact h
theorem step_call {i : Nat} {d : Nat} {f : FuncId} {xs : Array Operand} {ats : Array TypeId} {ty : TypeId} {pos : String} {after : Array Edge} {a : Act} {w : World} {K : Act → World → Prop}
    (ho : ops[i]? = some ⟨some d, .call { callee := .value (.func f), args := xs, argTypes := ats }, ty, pos, after, none⟩)
    (hent : ∀ (args : Array Value) (W : World), (callFunc f args).run P W = .ok (.enter f args) W)
    {args : Array Value} (hargs : xs.map a.eval = args) (h : Calls P f args w fun e w' => ∃ v, e = .returned v ∧ K (a.put (some d) v) w') : wpOp P ops Q i K a w := by
  subst hargs
  refine wpOp_mk ho rfl ?_
  unfold Oper.wp
  have hx : (execOp a.eval ⟨some d, .call { callee := .value (.func f), args := xs, argTypes := ats }, ty, pos, after, none⟩).run P w = .ok (.enter f (xs.map a.eval)) w := by
    have h1 := hent (#[] ++ xs.map a.eval ++ #[]) w
    rw [show (execOp a.eval ⟨some d, .call { callee := .value (.func f), args := xs, argTypes := ats }, ty, pos, after, none⟩) = callFunc f (#[] ++ xs.map a.eval ++ #[]) from rfl, h1]
    simp
  rw [hx, Oper.upon_enter]
  refine h.mono ?_
  rintro e w' ⟨v, rfl, hK⟩
  exact hK
end
end Go.Proofs.Ytfldhggmgepcjaa
