/-
  A law for a region that draws its order: an invariant that each operation keeps, whatever has come before it, holds at the region's end, whatever the order. No program stands here.
  What a member of a class is: a function value that answers, of each byte, whether it is of the class; span, either and the class of the signs make such values out of such values.
  A map from texts to members: what a store into it leaves, what a look-up finds.
  The table of the classes: whatever the order in which Go makes it, each of the twelve names leads to a member that means its class, and no other name leads anywhere.
  chars.classes(): called, it hands back a new map in which each of the twelve names leads to a member that means its class, and no other name leads anywhere; what was there before stands as it stood.
  chars.Class: of each name and each byte it answers as the class of that name does, and false of an unknown name.
  Chapter 10 in plain words: patterns as rows of wants, what a row of wants wants.
  Chapter 10 in plain words: how a pattern is read.
-/
import Derived.WalkKit
import Derived.Orders
import Derived.Lib.Hide
import Derived.Test.YtclhpedecimicaaGreatK2
import Derived.OneCell
import Derived.StringKeys
import Derived.Maps.Own
import Derived.Laws.EntriesVeiled
namespace Go.Proofs.YtclhpedecimicaaGreat
set_option maxRecDepth 100000
open Go

section
variable {P : Program} {ops : Array Oper} {Q : Exit → Act → World → Prop} {md : Region.Mode}

theorem ready_spec {listed : Array Bool} {i : Nat} (h : i ∈ Region.ready md ops listed) :
    i < ops.size ∧ listed.getD i true = false ∧ ∃ o, ops[i]? = some o ∧ ∀ e ∈ o.after, Region.binds md e = true → listed.getD e.on false = true := by
  unfold Region.ready at h
  rw [List.mem_filter] at h
  obtain ⟨h1, h2⟩ := h
  rw [List.mem_range] at h1
  rw [Bool.and_eq_true] at h2
  obtain ⟨h2, h3⟩ := h2
  refine ⟨h1, by simpa using h2, ops[i], Array.getElem?_eq_getElem h1, fun e he hb => ?_⟩
  rw [Array.getElem?_eq_getElem h1] at h3
  simp only [Option.map_some, Option.getD_some] at h3
  rw [Array.all_eq_true'] at h3
  have := h3 e he
  simpa [hb] using this

theorem ready_mk {listed : Array Bool} {i : Nat} {o : Oper} (hi : i < ops.size) (hl : listed.getD i true = false) (ho : ops[i]? = some o)
    (hd : ∀ e ∈ o.after, Region.binds md e = true → listed.getD e.on false = true) : i ∈ Region.ready md ops listed := by
  unfold Region.ready
  rw [List.mem_filter, List.mem_range, Bool.and_eq_true]
  refine ⟨hi, by simpa using hl, ?_⟩
  rw [ho]
  simp only [Option.map_some, Option.getD_some]
  rw [Array.all_eq_true']
  intro e he
  cases hb : Region.binds md e with
  | false => simp
  | true => simpa using hd e he hb

/-- Each edge leads back: no operation waits for a later one. -/
def leadsBack (md : Region.Mode) (ops : Array Oper) : Bool :=
  (List.range ops.size).all fun i => ((ops[i]?).map fun o => o.after.all fun e => !Region.binds md e || decide (e.on < i)).getD true

theorem all_listed (hb : leadsBack md ops = true) {listed : Array Bool} (hs : listed.size = ops.size) (hr : Region.ready md ops listed = []) :
    ∀ i, i < ops.size → listed.getD i false = true := by
  intro i
  induction i using Nat.strongRecOn with
  | _ i ih =>
    intro hi
    cases hc : listed.getD i false with
    | true => rfl
    | false =>
      exfalso
      have hl : listed.getD i true = false := by
        simp only [Array.getD_eq_getD_getElem?] at hc ⊢
        rw [Array.getElem?_eq_getElem (by omega)] at hc ⊢
        simpa using hc
      have hmem : i ∈ Region.ready md ops listed := by
        refine ready_mk hi hl (Array.getElem?_eq_getElem hi) fun e he heb => ?_
        have h1 := List.all_eq_true.1 hb i (List.mem_range.2 hi)
        rw [Array.getElem?_eq_getElem hi] at h1
        simp only [Option.map_some, Option.getD_some] at h1
        rw [Array.all_eq_true'] at h1
        have h2 := h1 e he
        simp [heb] at h2
        exact ih e.on h2 (by omega)
      rw [hr] at hmem
      cases hmem

/-- AN INVARIANT OF A REGION THAT DRAWS ITS ORDER. -/
theorem wpAny_inv (Inv : Array Bool → Act → World → Prop) (hb : leadsBack md ops = true)
    (hstep : ∀ listed a w i o, listed.size = ops.size → ops[i]? = some o → i < ops.size → listed.getD i true = false →
      (∀ e ∈ o.after, Region.binds md e = true → listed.getD e.on false = true) → Inv listed a w →
      wpOp P ops Q i (fun a' w' => Inv (listed.setIfInBounds i true) a' w') a w)
    (hend : ∀ listed a w, listed.size = ops.size → (∀ i, i < ops.size → listed.getD i false = true) → Inv listed a w → Q .normal a w) :
    ∀ fuel (listed : Array Bool) a w, listed.size = ops.size → listed.toList.countP (fun b => !b) ≤ fuel → Inv listed a w → wpAny P md ops Q fuel listed a w := by
  intro fuel
  induction fuel with
  | zero =>
    intro listed a w hs hc hI
    have hall : ∀ i, i < ops.size → listed.getD i true = true := by
      intro i hi
      have h0 : listed.toList.countP (fun b => !b) = 0 := Nat.le_zero.1 hc
      rw [List.countP_eq_zero] at h0
      have hm : listed[i]'(by omega) ∈ listed.toList := by simp
      have := h0 _ hm
      simp only [Array.getD_eq_getD_getElem?]
      rw [Array.getElem?_eq_getElem (by omega)]
      simpa using this
    have hr : Region.ready md ops listed = [] := by
      refine List.eq_nil_iff_forall_not_mem.2 fun i hi => ?_
      obtain ⟨h1, h2, _⟩ := ready_spec hi
      rw [hall i h1] at h2
      cases h2
    exact ⟨hr, hend listed a w hs (all_listed hb hs hr) hI⟩
  | succ fuel ih =>
    intro listed a w hs hc hI
    refine ⟨fun hr => hend listed a w hs (all_listed hb hs hr) hI, fun i hi => ?_⟩
    obtain ⟨h1, h2, o, ho, hd⟩ := ready_spec hi
    refine wpOp_mono (fun a' w' hI' => ?_) (hstep listed a w i o hs ho h1 h2 hd hI)
    refine ih _ a' w' (by simpa using hs) ?_ hI'
    have hlt : i < listed.toList.length := by simpa [hs] using h1
    have hf : listed.toList[i] = false := by
      simp only [Array.getD_eq_getD_getElem?] at h2
      rw [Array.getElem?_eq_getElem (by omega)] at h2
      simpa using h2
    rw [Array.toList_setIfInBounds, List.countP_set hlt]
    simp only [hf]
    simp at hc ⊢
    omega

theorem wp_region_inv {id : Nat} {a : Act} {w : World} (hm : P.follows .mixedOrders = true) (Inv : Array Bool → Act → World → Prop) (hb : leadsBack .any ops = true)
    (hstep : ∀ listed a w i o, listed.size = ops.size → ops[i]? = some o → i < ops.size → listed.getD i true = false →
      (∀ e ∈ o.after, Region.binds .any e = true → listed.getD e.on false = true) → Inv listed a w →
      wpOp P ops Q i (fun a' w' => Inv (listed.setIfInBounds i true) a' w') a w)
    (hend : ∀ listed a w, listed.size = ops.size → (∀ i, i < ops.size → listed.getD i false = true) → Inv listed a w → Q .normal a w)
    (hI : Inv (Array.replicate ops.size false) a w.drew) : (Code.region id ops true).wp P Q a w := by
  refine wp_region_any hm ?_
  refine wpAny_inv Inv hb hstep hend _ _ _ _ (by simp) ?_ hI
  rw [Array.toList_replicate, List.countP_replicate]
  simp

theorem wpOp_mk {i : Nat} {o : Oper} {a : Act} {w : World} {K : Act → World → Prop} (ho : ops[i]? = some o) (hg : o.guard = none) (h : o.wp P a w K Q) : wpOp P ops Q i K a w := by
  unfold wpOp
  rw [ho]
  simp only [Region.wanted, hg]
  exact Or.inl h

theorem step_move {i : Nat} {d : Nat} {x : Operand} {ty : TypeId} {pos : String} {after : Array Edge} {a : Act} {w : World} {K : Act → World → Prop}
    (ho : ops[i]? = some ⟨some d, .move x, ty, pos, after, none⟩) (h : K (a.put (some d) (a.eval x)) w) : wpOp P ops Q i K a w :=
  wpOp_mk ho rfl h
theorem step_assign {i : Nat} {d : Nat} {x : Operand} {ty : TypeId} {pos : String} {after : Array Edge} {a : Act} {w : World} {K : Act → World → Prop}
    (ho : ops[i]? = some ⟨some d, .assign x, ty, pos, after, none⟩) (h : K (a.put (some d) (a.eval x)) w) : wpOp P ops Q i K a w :=
  wpOp_mk ho rfl h
theorem step_makeFunc {i : Nat} {d : Nat} {fn : Fn} {xs ys : Array Operand} {ty : TypeId} {pos : String} {after : Array Edge} {a : Act} {w : World} {K : Act → World → Prop}
    {us vs : Array Value} (ho : ops[i]? = some ⟨some d, .makeFunc fn xs ys, ty, pos, after, none⟩) (hx : xs.map a.eval = us) (hy : ys.map a.eval = vs) (h : K (a.put (some d) (.func fn us vs)) w) : wpOp P ops Q i K a w := by
  subst hx
  subst hy
  exact wpOp_mk ho rfl h
theorem step_makeMap {i : Nat} {d : Nat} {t : TypeId} {ty : TypeId} {pos : String} {after : Array Edge} {a : Act} {w : World} {K : Act → World → Prop}
    (ho : ops[i]? = some ⟨some d, .makeMap t none, ty, pos, after, none⟩) (h : K (a.put (some d) (.map (some w.heap.size))) (w.alloc (.map #[] 0))) : wpOp P ops Q i K a w :=
  wpOp_mk ho rfl h
theorem step_load {i : Nat} {d : Nat} {t : TypeId} {x : Operand} {ty : TypeId} {pos : String} {after : Array Edge} {a : Act} {w : World} {K : Act → World → Prop} {v : Value}
    (ho : ops[i]? = some ⟨some d, .load t x, ty, pos, after, none⟩) (hr : (Instr.loadAt t (a.eval x)).run P w = .ok v w) (h : K (a.put (some d) v) w) : wpOp P ops Q i K a w := by
  refine wpOp_mk ho rfl ?_
  unfold Oper.wp
  simp [execOp, hr, Result.andThen, Oper.upon]
  exact h
theorem step_insert {i : Nat} {t : TypeId} {m k x : Operand} {ty : TypeId} {pos : String} {after : Array Edge} {a : Act} {w w' : World} {K : Act → World → Prop}
    (ho : ops[i]? = some ⟨none, .insert t m k x, ty, pos, after, none⟩) (hr : (Instr.mapUpdate t (a.eval m) (a.eval k) (a.eval x)).run P w = .ok () w') (h : K a w') : wpOp P ops Q i K a w := by
  refine wpOp_mk ho rfl ?_
  unfold Oper.wp
  simp [execOp, hr, Result.andThen, Oper.upon]
  exact h
theorem step_call {i : Nat} {d : Nat} {f : FuncId} {xs : Array Operand} {ats : Array TypeId} {ty : TypeId} {pos : String} {after : Array Edge} {a : Act} {w : World} {K : Act → World → Prop}
    (ho : ops[i]? = some ⟨some d, .call { callee := .value (.func f), args := xs, argTypes := ats }, ty, pos, after, none⟩)
    (hent : ∀ (args : Array Value) (W : World), (callFunc f args).run P W = .ok (.enter f args) W)
    {args : Array Value} (hargs : xs.map a.eval = args) (h : Calls P f args w fun e w' => ∃ v, e = .returned v ∧ K (a.put (some d) v) w') : wpOp P ops Q i K a w := by
  subst hargs
  refine wpOp_mk ho rfl ?_
  unfold Oper.wp
  have hx : (execOp a.eval ⟨some d, .call { callee := .value (.func f), args := xs, argTypes := ats }, ty, pos, after, none⟩).run P w = .ok (.enter f (xs.map a.eval)) w := by
    have h1 := hent (#[] ++ xs.map a.eval ++ #[]) w
    rw [show (execOp a.eval ⟨some d, .call { callee := .value (.func f), args := xs, argTypes := ats }, ty, pos, after, none⟩) = callFunc f (#[] ++ xs.map a.eval ++ #[]) from rfl, h1]
    simp
  rw [hx, Oper.upon_enter]
  refine h.mono ?_
  rintro e w' ⟨v, rfl, hK⟩
  exact hK
end
end Go.Proofs.YtclhpedecimicaaGreat

namespace Go.Proofs.YtclhpedecimicaaGreat
set_option maxRecDepth 100000
open Go Go.RowKit

/-- A block of cells. -/
def IsCells (o : Obj) : Prop := ∃ cs t fz, o = .cells cs t fz
/-- Every block of cells stands as it stood. -/
def Keeps (w w' : World) : Prop := ∀ (b : Nat) (o : Obj), IsCells o → w.heap[b]? = some o → w'.heap[b]? = some o
theorem Keeps.refl (w : World) : Keeps w w := fun _ _ _ h => h
theorem Keeps.trans {a b c : World} (h : Keeps a b) (k : Keeps b c) : Keeps a c := fun i o ho hi => k i o ho (h i o ho hi)
theorem Keeps.alloc (w : World) (o : Obj) : Keeps w (w.alloc o) := fun b x _ h => by
  rw [Below.heap_alloc _ _ _ (lt_of_block h)]; exact h
theorem Keeps.drew (w : World) : Keeps w w.drew := fun _ _ _ h => h
theorem Keeps.of_below {w w' : World} (h : Below w.heap.size w w') : Keeps w w' := fun b o _ hb => by
  rw [h.block b (lt_of_block hb)]; exact hb

/-- The value v is a function of Go's that, called with a byte n, answers f n, wherever the blocks that it looks at stand as they stand in w. -/
def Means (w : World) (v : Value) (f : Int → Bool) : Prop :=
  ∃ (k : Nat) (cap : Array Value) (L : List (Nat × Obj)), v = .func (.func k) #[] cap ∧ (∀ (args : Array Value) (W : World), (callFunc k args).run Tryz.prog W = .ok (.enter k args) W) ∧
    (∀ p ∈ L, IsCells p.2 ∧ w.heap[p.1]? = some p.2) ∧
    ∀ (n : Int) (W : World), (∀ p ∈ L, W.heap[p.1]? = some p.2) → Calls Tryz.prog k (#[.int .u8 n] ++ cap) W fun e W' => e = .returned (.bool (f n)) ∧ W = W'

theorem Means.keeps {w w' : World} {v : Value} {f : Int → Bool} (h : Means w v f) (hk : Keeps w w') : Means w' v f := by
  obtain ⟨k, cap, L, h1, h2, h3, h4⟩ := h
  exact ⟨k, cap, L, h1, h2, fun p hp => ⟨(h3 p hp).1, hk _ _ (h3 p hp).1 (h3 p hp).2⟩, h4⟩

theorem enters (k : Nat) (fn : Func) (hf : Tryz.prog.funcs[k]? = some fn) (hn : ¬ fn.name = "runtime.NumGoroutine") (hb : ¬ fn.body = none) :
    ∀ (args : Array Value) (W : World), (callFunc k args).run Tryz.prog W = .ok (.enter k args) W := by
  intro args W
  simp [callFunc, hf, hn, hb]

/-- A function of the program's own, without captured variables. -/
theorem Means.plain (w : World) (k : Nat) (fn : Func) (hf : Tryz.prog.funcs[k]? = some fn) (hn : ¬ fn.name = "runtime.NumGoroutine") (hb : ¬ fn.body = none) (f : Int → Bool)
    (h : ∀ (n : Int) (W : World), Calls Tryz.prog k #[.int .u8 n] W fun e W' => e = .returned (.bool (f n)) ∧ W = W') : Means w (.func (.func k) #[] #[]) f :=
  ⟨k, #[], [], rfl, enters k fn hf hn hb, fun _ hp => (List.not_mem_nil hp).elim, fun n W _ => h n W⟩

theorem digit_means (w : World) : Means w (.func (.func 171) #[] #[]) digB :=
  Means.plain w 171 Tryz.f171 Tryz.func171 (by decide) (by intro h; cases h) digB digit_any
theorem blank_means (w : World) : Means w (.func (.func 172) #[] #[]) blaB :=
  Means.plain w 172 Tryz.f172 Tryz.func172 (by decide) (by intro h; cases h) blaB blank_any

/-- span's function value: its two bounds lie in two blocks. -/
theorem span1 (n l h : Int) (a b : Nat) (W : World) (ha : W.heap[a]? = some (.cells #[.int .u8 l] 5 (0, 0))) (hb : W.heap[b]? = some (.cells #[.int .u8 h] 5 (0, 0))) :
    Calls Tryz.prog 174 #[.int .u8 n, .pointer (some ⟨a, 0, none⟩), .pointer (some ⟨b, 0, none⟩)] W fun e W' => e = .returned (.bool (decide (l ≤ n) && decide (n ≤ h))) ∧ W = W' := by
  have ca := cell_of_one ha
  have cb := cell_of_one hb
  clear ha hb
  by_cases h1 : l ≤ n <;> by_cases h2 : n ≤ h <;> go_enter Tryz.func174, Tryz.ntmps174 <;> go_wp2 <;> go_ret <;> exact ⟨by simp [h1, h2], rfl⟩

theorem either1 (n : Int) (a b : Nat) (W : World) (va vb : Value) (f g : Int → Bool) (ha : W.heap[a]? = some (.cells #[va] 215 (0, 0))) (hb : W.heap[b]? = some (.cells #[vb] 215 (0, 0)))
    (ma : Means W va f) (mb : Means W vb g) :
    Calls Tryz.prog 175 #[.int .u8 n, .pointer (some ⟨a, 0, none⟩), .pointer (some ⟨b, 0, none⟩)] W fun e W' => e = .returned (.bool (f n || g n)) ∧ W = W' := by
  have ca := cell_of_one ha
  have cb := cell_of_one hb
  clear ha hb
  obtain ⟨ka, capa, La, rfl, ea, la, ma⟩ := ma
  obtain ⟨kb, capb, Lb, rfl, eb, lb, mb⟩ := mb
  have Ma := Lib.hid (ma n W fun p hp => (la p hp).2)
  have Mb := Lib.hid (mb n W fun p hp => (lb p hp).2)
  clear ma mb la lb
  cases hf : f n with
  | true =>
    rw [hf] at Ma
    go_enter Tryz.func175, Tryz.ntmps175
    go_wp2_with fail
    refine Ma.out.mono ?_
    rintro e w' ⟨rfl, rfl⟩
    go_wp2_with fail
    go_ret
    exact ⟨rfl, rfl⟩
  | false =>
    rw [hf] at Ma
    go_enter Tryz.func175, Tryz.ntmps175
    go_wp2_with fail
    refine Ma.out.mono ?_
    rintro e w' ⟨rfl, rfl⟩
    go_wp2_with fail
    refine Mb.out.mono ?_
    rintro e w' ⟨rfl, rfl⟩
    go_wp2_with fail
    go_ret
    exact ⟨by simp, rfl⟩

/-- The class of the signs: of the one class (graph), not of the other (alnum). -/
theorem punct1 (n : Int) (a b : Nat) (W : World) (va vb : Value) (f g : Int → Bool) (ha : W.heap[a]? = some (.cells #[va] 215 (0, 0))) (hb : W.heap[b]? = some (.cells #[vb] 215 (0, 0)))
    (ma : Means W va f) (mb : Means W vb g) :
    Calls Tryz.prog 173 #[.int .u8 n, .pointer (some ⟨a, 0, none⟩), .pointer (some ⟨b, 0, none⟩)] W fun e W' => e = .returned (.bool (f n && !g n)) ∧ W = W' := by
  have ca := cell_of_one ha
  have cb := cell_of_one hb
  clear ha hb
  obtain ⟨ka, capa, La, rfl, ea, la, ma⟩ := ma
  obtain ⟨kb, capb, Lb, rfl, eb, lb, mb⟩ := mb
  have Ma := Lib.hid (ma n W fun p hp => (la p hp).2)
  have Mb := Lib.hid (mb n W fun p hp => (lb p hp).2)
  clear ma mb la lb
  cases hf : f n with
  | false =>
    rw [hf] at Ma
    go_enter Tryz.func173, Tryz.ntmps173
    go_wp2_with fail
    refine Ma.out.mono ?_
    rintro e w' ⟨rfl, rfl⟩
    go_wp2_with fail
    go_ret
    exact ⟨rfl, rfl⟩
  | true =>
    rw [hf] at Ma
    go_enter Tryz.func173, Tryz.ntmps173
    go_wp2_with fail
    refine Ma.out.mono ?_
    rintro e w' ⟨rfl, rfl⟩
    go_wp2_with fail
    refine Mb.out.mono ?_
    rintro e w' ⟨rfl, rfl⟩
    go_wp2_with fail
    go_ret
    exact ⟨by simp, rfl⟩

theorem heap_last (w : World) (o : Obj) : (w.alloc o).heap[w.heap.size]? = some o := (MapKept.heap_alloc w o).1
theorem heap_old (w : World) (o : Obj) {b : Nat} {x : Obj} (h : w.heap[b]? = some x) : (w.alloc o).heap[b]? = some x := by
  rw [Below.heap_alloc _ _ _ (lt_of_block h)]; exact h

theorem heap_last1 (w : World) (x y : Obj) : ((w.alloc x).alloc y).heap[w.heap.size + 1]? = some y := by
  have h := heap_last (w.alloc x) y
  rwa [show (w.alloc x).heap.size = w.heap.size + 1 by simp] at h

theorem span_means (w : World) (l h : Int) (a b : Nat) (ha : w.heap[a]? = some (.cells #[.int .u8 l] 5 (0, 0))) (hb : w.heap[b]? = some (.cells #[.int .u8 h] 5 (0, 0))) :
    Means w (.func (.func 174) #[] #[.pointer (some ⟨a, 0, none⟩), .pointer (some ⟨b, 0, none⟩)]) (fun n => decide (l ≤ n) && decide (n ≤ h)) := by
  refine ⟨_, _, [(a, .cells #[.int .u8 l] 5 (0, 0)), (b, .cells #[.int .u8 h] 5 (0, 0))], rfl, enters _ _ Tryz.func174 (by decide) (by intro h; cases h), fun p hp => ?_, fun n W hW => ?_⟩
  · simp only [List.mem_cons, List.not_mem_nil, or_false] at hp
    rcases hp with rfl | rfl
    · exact ⟨⟨_, _, _, rfl⟩, ha⟩
    · exact ⟨⟨_, _, _, rfl⟩, hb⟩
  · exact span1 n l h a b W (hW _ (List.mem_cons_self ..)) (hW _ (List.mem_cons_of_mem _ (List.mem_cons_self ..)))

/-- A function value made of two others that lie in two blocks. -/
theorem two_means (k : Nat) (fn : Func) (hk : Tryz.prog.funcs[k]? = some fn) (hn : ¬ fn.name = "runtime.NumGoroutine") (hbd : ¬ fn.body = none) (op : Bool → Bool → Bool)
    (hc : ∀ (n : Int) (a b : Nat) (W : World) (va vb : Value) (f g : Int → Bool), W.heap[a]? = some (.cells #[va] 215 (0, 0)) → W.heap[b]? = some (.cells #[vb] 215 (0, 0)) → Means W va f → Means W vb g →
      Calls Tryz.prog k #[.int .u8 n, .pointer (some ⟨a, 0, none⟩), .pointer (some ⟨b, 0, none⟩)] W fun e W' => e = .returned (.bool (op (f n) (g n))) ∧ W = W')
    (w : World) (a b : Nat) (va vb : Value) (f g : Int → Bool) (ha : w.heap[a]? = some (.cells #[va] 215 (0, 0))) (hb : w.heap[b]? = some (.cells #[vb] 215 (0, 0)))
    (ma : Means w va f) (mb : Means w vb g) :
    Means w (.func (.func k) #[] #[.pointer (some ⟨a, 0, none⟩), .pointer (some ⟨b, 0, none⟩)]) (fun n => op (f n) (g n)) := by
  obtain ⟨ka, capa, La, ea, na, la, wa⟩ := ma
  obtain ⟨kb, capb, Lb, eb, nb, lb, wb⟩ := mb
  refine ⟨k, _, (a, .cells #[va] 215 (0, 0)) :: (b, .cells #[vb] 215 (0, 0)) :: (La ++ Lb), rfl, enters _ _ hk hn hbd, fun p hp => ?_, fun n W hW => ?_⟩
  · simp only [List.mem_cons, List.mem_append] at hp
    rcases hp with rfl | rfl | hp | hp
    · exact ⟨⟨_, _, _, rfl⟩, ha⟩
    · exact ⟨⟨_, _, _, rfl⟩, hb⟩
    · exact la p hp
    · exact lb p hp
  · have h1 : ∀ p ∈ La, W.heap[p.1]? = some p.2 := fun p hp => hW p (by simp [hp])
    have h2 : ∀ p ∈ Lb, W.heap[p.1]? = some p.2 := fun p hp => hW p (by simp [hp])
    exact hc n a b W va vb f g (hW _ (List.mem_cons_self ..)) (hW _ (List.mem_cons_of_mem _ (List.mem_cons_self ..)))
      ⟨ka, capa, La, ea, na, fun p hp => ⟨(la p hp).1, h1 p hp⟩, wa⟩ ⟨kb, capb, Lb, eb, nb, fun p hp => ⟨(lb p hp).1, h2 p hp⟩, wb⟩

/-- What a call that makes a member leaves. -/
def Makes (w : World) (f : Int → Bool) (e : Ending) (w' : World) : Prop := ∃ (k : Nat) (cap : Array Value), e = .returned (.func (.func k) #[] cap) ∧ Means w' (.func (.func k) #[] cap) f ∧ Below w.heap.size w w'

theorem span_any (l h : Int) (w : World) : Calls Tryz.prog 169 #[.int .u8 l, .int .u8 h] w (Makes w fun n => decide (l ≤ n) && decide (n ≤ h)) := by
  go_enter Tryz.func169, Tryz.ntmps169
  go_wp2
  go_ret
  exact ⟨_, _, rfl, span_means _ l h _ _ (heap_old _ _ (heap_last _ _)) (heap_last1 _ _ _), ((Below.refl _ _).alloc (Nat.le_refl _) _).alloc (by simp) _⟩

theorem either_any (va vb : Value) (f g : Int → Bool) (w : World) (ma : Means w va f) (mb : Means w vb g) : Calls Tryz.prog 170 #[va, vb] w (Makes w fun n => f n || g n) := by
  have h1 := Lib.hid ma
  have h2 := Lib.hid mb
  obtain ⟨ka, capa, La, ea, -, -, -⟩ := ma
  obtain ⟨kb, capb, Lb, eb, -, -, -⟩ := mb
  subst ea
  subst eb
  go_enter Tryz.func170, Tryz.ntmps170
  go_wp2
  go_ret
  have hk : ∀ x y : Obj, Keeps w ((w.alloc x).alloc y) := fun x y => (Keeps.alloc _ _).trans (Keeps.alloc _ _)
  exact ⟨_, _, rfl, two_means 175 _ Tryz.func175 (by decide) (by intro h; cases h) (fun x y => x || y) either1 _ _ _ _ _ f g (heap_old _ _ (heap_last _ _)) (heap_last1 _ _ _) (h1.out.keeps (hk _ _)) (h2.out.keeps (hk _ _)),
    ((Below.refl _ _).alloc (Nat.le_refl _) _).alloc (by simp) _⟩
end Go.Proofs.YtclhpedecimicaaGreat

namespace Go.Proofs.YtclhpedecimicaaGreat
set_option maxRecDepth 100000
open Go Go.RowKit Go.WideElems Go.MapKept Go.ChangeMaps Go.WideMaps

theorem strLaw : WideMaps.KeyLaw Tryz.prog 9 := WideMaps.string_law Tryz.underlying9

/-- Every entry's key is a text that fits. -/
def StrKeys (es : Array MapEntry) : Prop := ∀ e ∈ es.toList, ∃ s : ByteArray, e.key = .string s ∧ s.size ≤ maxLen

theorem StrKeys.fits {es : Array MapEntry} (h : StrKeys es) : ∀ e ∈ es.toList, ∃ l, keyOf Tryz.prog 9 e.key = some l := fun e he => by
  obtain ⟨s, h1, h2⟩ := h e he
  rw [h1]
  exact ⟨_, keyOf_string_mk Tryz.underlying9 h2⟩

theorem run_insert (w : World) (m : Nat) (es : Array MapEntry) (clock : Nat) (hb : w.heap[m]? = some (.map es clock)) (hk : StrKeys es) (key : ByteArray) (hkey : key.size ≤ maxLen) (val : Value) :
    ∃ es' clock', (Instr.mapUpdate 217 (.map (some m)) (.string key) val).run Tryz.prog w = .ok () (setBlock w m (.map es' clock')) ∧ StrKeys es' ∧
      (∀ x ∈ es'.toList, x ∈ es.toList ∨ (x.key = .string key ∧ x.val = val)) ∧ (∃ x ∈ es'.toList, x.key = .string key) ∧
      (∀ k', (∃ x ∈ es.toList, x.key = .string k') → ∃ x ∈ es'.toList, x.key = .string k') := by
  have hkl := keyOf_string_mk Tryz.underlying9 hkey
  rcases strLaw.find w hkl es.toList hk.fits with ⟨h1, h2⟩ | ⟨j, e0, h1, h2, h3⟩
  · refine ⟨es.push ⟨.string key, val, clock⟩, clock + 1, ?_, ?_, ?_, ?_, ?_⟩
    · simp [Instr.mapUpdate, run_underlying Tryz.underlying217, MapKept.run_getObj_map hb, strLaw.check w false hkl, h1, MapKept.run_setObj_map _ hb, Result.andThen, setBlock]
    · intro e he
      simp only [Array.toList_push, List.mem_append, List.mem_singleton] at he
      rcases he with he | rfl
      · exact hk e he
      · exact ⟨key, rfl, hkey⟩
    · intro e he
      simp only [Array.toList_push, List.mem_append, List.mem_singleton] at he
      rcases he with he | rfl
      · exact Or.inl he
      · exact Or.inr ⟨rfl, rfl⟩
    · exact ⟨⟨.string key, val, clock⟩, by simp, rfl⟩
    · rintro k' ⟨x, hx, hxk⟩
      exact ⟨x, by simp only [Array.toList_push, List.mem_append]; exact Or.inl hx, hxk⟩
  · have hj : j < es.size := by
      have := (List.getElem?_eq_some_iff.1 h2).1
      simpa using this
    have hjA : es[j]? = some e0 := by rw [← Array.getElem?_toList]; exact h2
    have hmem : ∀ e ∈ (es.modify j fun e => { e with key := .string key, val := val }).toList, e ∈ es.toList ∨ (e.key = .string key ∧ e.val = val) := by
      intro e he
      obtain ⟨i, hi, rfl⟩ := List.getElem_of_mem he
      have hi' : i < es.size := by simpa using hi
      rw [Array.getElem_toList, Array.getElem_modify]
      split
      · exact Or.inr ⟨rfl, rfl⟩
      · exact Or.inl (by simp)
    have hnew : ∃ x ∈ (es.modify j fun e => { e with key := .string key, val := val }).toList, x.key = .string key := by
      refine ⟨(es.modify j fun e => { e with key := .string key, val := val })[j]'(by simpa using hj), Array.mem_toList_iff.2 (Array.getElem_mem _), ?_⟩
      rw [Array.getElem_modify_self]
    refine ⟨_, clock, ?_, fun e he => ?_, hmem, hnew, ?_⟩
    · simp [Instr.mapUpdate, run_underlying Tryz.underlying217, MapKept.run_getObj_map hb, strLaw.check w false hkl, h1, hjA, h3, strLaw.stays w hkl, MapKept.run_setObj_map _ hb, Result.andThen, setBlock]
    · rcases hmem e he with h | ⟨h, _⟩
      · exact hk e h
      · exact ⟨key, h, hkey⟩
    · rintro k' ⟨x, hx, hxk⟩
      obtain ⟨i, hi, rfl⟩ := List.getElem_of_mem hx
      have hi' : i < es.size := by simpa using hi
      by_cases hij : j = i
      · subst hij
        rw [Array.getElem_toList] at hxk
        have e1 : es[j] = e0 := by rw [Array.getElem?_eq_getElem hj] at hjA; exact Option.some.inj hjA
        rw [e1, h3] at hxk
        rw [← hxk]
        exact hnew
      · refine ⟨(es.modify j fun e => { e with key := .string key, val := val })[i]'(by simpa using hi'), Array.mem_toList_iff.2 (Array.getElem_mem _), ?_⟩
        rw [Array.getElem_modify, if_neg hij]
        simpa using hxk

theorem run_find (w : World) (m : Nat) (es : Array MapEntry) (clock : Nat) (hb : w.heap[m]? = some (.map es clock)) (hk : StrKeys es) (key : ByteArray) (hkey : key.size ≤ maxLen) :
    ((Instr.lookup 217 (.map (some m)) (.string key) true).run Tryz.prog w = .ok (.tuple #[.nilFunc, .bool false]) w ∧ ∀ e ∈ es.toList, e.key ≠ .string key) ∨
    ∃ e ∈ es.toList, e.key = .string key ∧ (Instr.lookup 217 (.map (some m)) (.string key) true).run Tryz.prog w = .ok (.tuple #[e.val, .bool true]) w := by
  have hkl := keyOf_string_mk Tryz.underlying9 hkey
  have hz : (zeroValue 215).run Tryz.prog w = .ok .nilFunc w := by kernel_rfl
  rcases strLaw.find w hkl es.toList hk.fits with ⟨h1, h2⟩ | ⟨j, e0, h1, h2, h3⟩
  · exact Or.inl ⟨by simp [Instr.lookup, run_underlying Tryz.underlying217, MapKept.run_getObj_map hb, strLaw.check w _ hkl, h1, hz, Result.andThen], h2⟩
  · exact Or.inr ⟨e0, List.mem_of_getElem? h2, h3, by simp [Instr.lookup, run_underlying Tryz.underlying217, MapKept.run_getObj_map hb, strLaw.check w _ hkl, h1, Result.andThen]⟩
end Go.Proofs.YtclhpedecimicaaGreat

namespace Go.Proofs.YtclhpedecimicaaGreat
set_option maxRecDepth 100000
open Go Go.RowKit Go.ChangeMaps

def rangeB (l h : Int) (n : Int) : Bool := decide (l ≤ n) && decide (n ≤ h)
/-- The classes, and what is made on the way to them. -/
def clsF : Nat → Int → Bool
  | 0 => fun n => rangeB 65 90 n || rangeB 97 122 n
  | 1 => digB
  | 2 => fun n => (rangeB 65 90 n || rangeB 97 122 n) || digB n
  | 3 => rangeB 65 90
  | 4 => rangeB 97 122
  | 5 => fun n => rangeB 9 13 n || rangeB 32 32 n
  | 6 => blaB
  | 7 => fun n => rangeB 33 126 n && !((rangeB 65 90 n || rangeB 97 122 n) || digB n)
  | 8 => rangeB 32 126
  | 9 => rangeB 33 126
  | 10 => fun n => rangeB 0 31 n || rangeB 127 127 n
  | 11 => fun n => digB n || (rangeB 65 70 n || rangeB 97 102 n)
  | 12 => rangeB 9 13
  | 13 => rangeB 32 32
  | 14 => rangeB 0 31
  | 15 => rangeB 127 127
  | 16 => rangeB 65 70
  | 17 => rangeB 97 102
  | _ => fun n => rangeB 65 70 n || rangeB 97 102 n

/-- Operation, slot, class: the operations of the region that make a member. -/
def valRows : List (Nat × Nat × Nat) := [(1, 15, 0), (4, 16, 2), (6, 17, 3), (8, 18, 4), (10, 19, 12), (11, 20, 13), (12, 21, 5), (15, 22, 7), (17, 23, 8), (19, 24, 9), (21, 25, 14), (22, 26, 15), (23, 27, 10), (25, 28, 16), (26, 29, 17), (27, 30, 18), (28, 31, 11)]
/-- Operation, name, class: the operations of the region that lay an entry. -/
def insRows : List (Nat × ByteArray × Nat) := [(2, ⟨#[97, 108, 112, 104, 97]⟩, 0), (3, ⟨#[100, 105, 103, 105, 116]⟩, 1), (5, ⟨#[97, 108, 110, 117, 109]⟩, 2), (7, ⟨#[117, 112, 112, 101, 114]⟩, 3), (9, ⟨#[108, 111, 119, 101, 114]⟩, 4), (13, ⟨#[115, 112, 97, 99, 101]⟩, 5), (14, ⟨#[98, 108, 97, 110, 107]⟩, 6), (16, ⟨#[112, 117, 110, 99, 116]⟩, 7), (18, ⟨#[112, 114, 105, 110, 116]⟩, 8), (20, ⟨#[103, 114, 97, 112, 104]⟩, 9), (24, ⟨#[99, 110, 116, 114, 108]⟩, 10), (29, ⟨#[120, 100, 105, 103, 105, 116]⟩, 11)]

def insOf : Nat → Nat × ByteArray × Nat
  | 2 => (2, ⟨#[97, 108, 112, 104, 97]⟩, 0)
  | 3 => (3, ⟨#[100, 105, 103, 105, 116]⟩, 1)
  | 5 => (5, ⟨#[97, 108, 110, 117, 109]⟩, 2)
  | 7 => (7, ⟨#[117, 112, 112, 101, 114]⟩, 3)
  | 9 => (9, ⟨#[108, 111, 119, 101, 114]⟩, 4)
  | 13 => (13, ⟨#[115, 112, 97, 99, 101]⟩, 5)
  | 14 => (14, ⟨#[98, 108, 97, 110, 107]⟩, 6)
  | 16 => (16, ⟨#[112, 117, 110, 99, 116]⟩, 7)
  | 18 => (18, ⟨#[112, 114, 105, 110, 116]⟩, 8)
  | 20 => (20, ⟨#[103, 114, 97, 112, 104]⟩, 9)
  | 24 => (24, ⟨#[99, 110, 116, 114, 108]⟩, 10)
  | 29 => (29, ⟨#[120, 100, 105, 103, 105, 116]⟩, 11)
  | _ => (2, ⟨#[97, 108, 112, 104, 97]⟩, 0)
theorem insOf_eq : ∀ r ∈ insRows, r = insOf r.1 := by
  intro r hr
  simp only [insRows, List.mem_cons, List.not_mem_nil, or_false] at hr
  rcases hr with rfl | rfl | rfl | rfl | rfl | rfl | rfl | rfl | rfl | rfl | rfl | rfl <;> rfl

/-- What the map holds when some of the entries have been laid. -/
structure MapOk (listed : Array Bool) (es : Array MapEntry) (w : World) : Prop where
  keys : StrKeys es
  means : ∀ e ∈ es.toList, ∃ r ∈ insRows, e.key = .string r.2.1 ∧ Means w e.val (clsF r.2.2)
  has : ∀ r ∈ insRows, listed.getD r.1 false = true → ∃ e ∈ es.toList, e.key = .string r.2.1

/-- What holds when some of the region's operations have been carried out. -/
structure Inv (w0 : World) (v1 v2 v3 v4 v5 : Value) (p4 p5 : Nat) (listed : Array Bool) (a : Act) (w : World) : Prop where
  below : Below w0.heap.size w0 w
  size : a.tmps.size = 33
  defers : a.defers = []
  s1 : a.tmps[1]? = some v1
  s2 : a.tmps[2]? = some v2
  s3 : a.tmps[3]? = some v3
  s4 : a.tmps[4]? = some (.pointer (some ⟨p4, 0, none⟩))
  s5 : a.tmps[5]? = some (.pointer (some ⟨p5, 0, none⟩))
  h4 : w.heap[p4]? = some (.cells #[v4] 215 (0, 0))
  h5 : w.heap[p5]? = some (.cells #[v5] 215 (0, 0))
  m1 : Means w v1 (clsF 3)
  m2 : Means w v2 (clsF 4)
  m3 : Means w v3 (clsF 0)
  m4 : Means w v4 (clsF 2)
  m5 : Means w v5 (clsF 9)
  vals : ∀ r ∈ valRows, listed.getD r.1 false = true → ∃ v, a.tmps[r.2.1]? = some v ∧ Means w v (clsF r.2.2)
  first : ∀ r ∈ insRows, listed.getD r.1 false = true → listed.getD 0 false = true
  map : listed.getD 0 false = true → ∃ m es clock, a.tmps[14]? = some (.map (some m)) ∧ w0.heap.size ≤ m ∧ w.heap[m]? = some (.map es clock) ∧ MapOk listed es w
  late30 : listed.getD 30 false = true → listed.getD 0 false = true
  late31 : listed.getD 31 false = true → listed.getD 30 false = true
  s32 : listed.getD 30 false = true → a.tmps[32]? = a.tmps[14]?
  s0 : listed.getD 31 false = true → a.tmps[0]? = a.tmps[14]?

theorem getD_set (listed : Array Bool) (i j : Nat) (hi : i < listed.size) : (listed.setIfInBounds i true).getD j false = if j = i then true else listed.getD j false := by
  simp only [Array.getD_eq_getD_getElem?, Array.getElem?_setIfInBounds]
  by_cases h : i = j
  · subst h; simp [hi]
  · have h' : ¬ j = i := fun e => h e.symm
    simp [h, h']

theorem put_same (a : Act) (d : Nat) (v : Value) (hd : d < a.tmps.size) : (a.put (some d) v).tmps[d]? = some v := by
  simp [Act.put, hd]
theorem put_other (a : Act) (d e : Nat) (v : Value) (h : d ≠ e) : (a.put (some d) v).tmps[e]? = a.tmps[e]? := by
  simp [Act.put, h]
theorem put_size (a : Act) (d : Nat) (v : Value) : (a.put (some d) v).tmps.size = a.tmps.size := by
  simp [Act.put]

theorem MapOk.keeps {listed : Array Bool} {es : Array MapEntry} {w w' : World} (h : MapOk listed es w) (hk : Keeps w w') : MapOk listed es w' :=
  ⟨h.keys, fun e he => by obtain ⟨r, h1, h2, h3⟩ := h.means e he; exact ⟨r, h1, h2, h3.keeps hk⟩, h.has⟩

section
variable {w0 w w' : World} {v1 v2 v3 v4 v5 : Value} {p4 p5 : Nat} {listed : Array Bool} {a : Act}

/-- An operation that makes a member and puts it into its slot. -/
theorem Inv.val (h : Inv w0 v1 v2 v3 v4 v5 p4 p5 listed a w) (hl : listed.size = 32) (i d c : Nat) (hi : i < 32) (v : Value)
    (hm : Means w' v (clsF c)) (hb : Below w.heap.size w w')
    (hd : d < 33) (hd2 : d ∉ [0, 1, 2, 3, 4, 5, 14, 32]) (hr : ∀ r ∈ valRows, (r.2.1 = d → r = (i, d, c)) ∧ (r.1 = i → r = (i, d, c))) (hn : ∀ r ∈ insRows, r.1 ≠ i) (h0 : i ≠ 0) (h30 : i ≠ 30) (h31 : i ≠ 31) :
    Inv w0 v1 v2 v3 v4 v5 p4 p5 (listed.setIfInBounds i true) (a.put (some d) v) w' := by
  have hk : Keeps w w' := Keeps.of_below hb
  simp only [List.mem_cons, List.not_mem_nil, or_false, not_or] at hd2
  obtain ⟨e0, e1, e2, e3, e4, e5, e14, e32⟩ := hd2
  have hin : i < listed.size := by omega
  refine ⟨h.below.trans (hb.mono h.below.size), by rw [put_size]; exact h.size, h.defers, ?_, ?_, ?_, ?_, ?_, hk _ _ ⟨_, _, _, rfl⟩ h.h4, hk _ _ ⟨_, _, _, rfl⟩ h.h5, h.m1.keeps hk, h.m2.keeps hk, h.m3.keeps hk, h.m4.keeps hk, h.m5.keeps hk, ?_, ?_, ?_, ?_, ?_, ?_, ?_⟩
  · rw [put_other _ _ _ _ e1]; exact h.s1
  · rw [put_other _ _ _ _ e2]; exact h.s2
  · rw [put_other _ _ _ _ e3]; exact h.s3
  · rw [put_other _ _ _ _ e4]; exact h.s4
  · rw [put_other _ _ _ _ e5]; exact h.s5
  · intro r hrm hrl
    rw [getD_set _ _ _ hin] at hrl
    by_cases e : r.1 = i
    · have := (hr r hrm).2 e
      subst this
      exact ⟨v, put_same _ _ _ (by rw [h.size]; exact hd), hm⟩
    · rw [if_neg e] at hrl
      obtain ⟨u, hu, hmu⟩ := h.vals r hrm hrl
      have hne : d ≠ r.2.1 := fun e' => e (by rw [(hr r hrm).1 e'.symm])
      exact ⟨u, by rw [put_other _ _ _ _ hne]; exact hu, hmu.keeps hk⟩
  · intro r hrm hrl
    rw [getD_set _ _ _ hin, if_neg (hn r hrm)] at hrl
    rw [getD_set _ _ _ hin, if_neg (Ne.symm h0)]
    exact h.first r hrm hrl
  · intro hl0
    rw [getD_set _ _ _ hin, if_neg (Ne.symm h0)] at hl0
    obtain ⟨m, es, clock, g1, g2, g3, g4⟩ := h.map hl0
    refine ⟨m, es, clock, by rw [put_other _ _ _ _ e14]; exact g1, g2, by rw [hb.block m (lt_of_block g3)]; exact g3, (g4.keeps hk).keys, (g4.keeps hk).means, ?_⟩
    intro r hrm hrl
    rw [getD_set _ _ _ hin, if_neg (hn r hrm)] at hrl
    exact g4.has r hrm hrl
  · intro hl0
    rw [getD_set _ _ _ hin, if_neg (Ne.symm h30)] at hl0
    rw [getD_set _ _ _ hin, if_neg (Ne.symm h0)]
    exact h.late30 hl0
  · intro hl0
    rw [getD_set _ _ _ hin, if_neg (Ne.symm h31)] at hl0
    rw [getD_set _ _ _ hin, if_neg (Ne.symm h30)]
    exact h.late31 hl0
  · intro hl0
    rw [getD_set _ _ _ hin, if_neg (Ne.symm h30)] at hl0
    rw [put_other _ _ _ _ e32, put_other _ _ _ _ e14]
    exact h.s32 hl0
  · intro hl0
    rw [getD_set _ _ _ hin, if_neg (Ne.symm h31)] at hl0
    rw [put_other _ _ _ _ e0, put_other _ _ _ _ e14]
    exact h.s0 hl0

/-- The operation that makes the map. -/
theorem Inv.made (h : Inv w0 v1 v2 v3 v4 v5 p4 p5 listed a w) (hl : listed.size = 32) (hn : listed.getD 0 false = false) :
    Inv w0 v1 v2 v3 v4 v5 p4 p5 (listed.setIfInBounds 0 true) (a.put (some 14) (.map (some w.heap.size))) (w.alloc (.map #[] 0)) := by
  have hk : Keeps w (w.alloc (.map #[] 0)) := Keeps.alloc _ _
  have hin : 0 < listed.size := by omega
  refine ⟨h.below.alloc h.below.size _, by rw [put_size]; exact h.size, h.defers, ?_, ?_, ?_, ?_, ?_, hk _ _ ⟨_, _, _, rfl⟩ h.h4, hk _ _ ⟨_, _, _, rfl⟩ h.h5, h.m1.keeps hk, h.m2.keeps hk, h.m3.keeps hk, h.m4.keeps hk, h.m5.keeps hk, ?_, ?_, ?_, ?_, ?_, ?_, ?_⟩
  · rw [put_other _ _ _ _ (by decide)]; exact h.s1
  · rw [put_other _ _ _ _ (by decide)]; exact h.s2
  · rw [put_other _ _ _ _ (by decide)]; exact h.s3
  · rw [put_other _ _ _ _ (by decide)]; exact h.s4
  · rw [put_other _ _ _ _ (by decide)]; exact h.s5
  · intro r hrm hrl
    have e : ∀ r ∈ valRows, r.1 ≠ 0 ∧ 14 ≠ r.2.1 := by decide
    rw [getD_set _ _ _ hin, if_neg (e r hrm).1] at hrl
    obtain ⟨u, hu, hmu⟩ := h.vals r hrm hrl
    exact ⟨u, by rw [put_other _ _ _ _ (e r hrm).2]; exact hu, hmu.keeps hk⟩
  · intro r _ _
    rw [getD_set _ _ _ hin, if_pos rfl]
  · intro _
    refine ⟨w.heap.size, #[], 0, put_same _ _ _ (by rw [h.size]; decide), h.below.size, heap_last w _, fun e he => ?_, fun e he => ?_, fun r hrm hrl => ?_⟩
    · simp at he
    · simp at he
    · exfalso
      have e : ∀ r ∈ insRows, r.1 ≠ 0 := by decide
      rw [getD_set _ _ _ hin, if_neg (e r hrm)] at hrl
      rw [h.first r hrm hrl] at hn
      cases hn
  · intro _
    rw [getD_set _ _ _ hin, if_pos rfl]
  · intro hl0
    rw [getD_set _ _ _ hin, if_neg (by decide)] at hl0
    rw [getD_set _ _ _ hin, if_neg (by decide)]
    exact h.late31 hl0
  · intro hl0
    exfalso
    rw [getD_set _ _ _ hin, if_neg (by decide)] at hl0
    rw [h.late30 hl0] at hn
    cases hn
  · intro hl0
    exfalso
    rw [getD_set _ _ _ hin, if_neg (by decide)] at hl0
    rw [h.late30 (h.late31 hl0)] at hn
    cases hn

theorem eval_tmp {a : Act} {t : Nat} {v : Value} (h : a.tmps[t]? = some v) : a.eval (.tmp t) = v := by
  simp [Act.eval, Array.getD_eq_getD_getElem?, h]

theorem keeps_set (w : World) (m : Nat) (es es' : Array MapEntry) (c c' : Nat) (hb : w.heap[m]? = some (.map es c)) : Keeps w (setBlock w m (.map es' c')) := by
  intro b o ho hbo
  by_cases e : b = m
  · subst e
    rw [hb] at hbo
    obtain ⟨cs, t, fz, rfl⟩ := ho
    cases hbo
  · rw [heap_setBlock_other hb _ e]
    exact hbo

theorem insSize : ∀ r ∈ insRows, r.2.1.size ≤ maxLen := by
  intro r hr
  simp only [insRows, List.mem_cons, List.not_mem_nil, or_false] at hr
  rcases hr with rfl | rfl | rfl | rfl | rfl | rfl | rfl | rfl | rfl | rfl | rfl | rfl <;> decide

/-- An operation that lays an entry. -/
theorem Inv.ins (h : Inv w0 v1 v2 v3 v4 v5 p4 p5 listed a w) (hl : listed.size = 32) (i : Nat) (key : ByteArray) (c : Nat) (hi : i < 32) (hrow : (i, key, c) ∈ insRows) (v : Value)
    (hm : Means w v (clsF c)) (hl0 : listed.getD 0 false = true) (hr : ∀ r ∈ valRows, r.1 ≠ i) (h0 : i ≠ 0) (h30 : i ≠ 30) (h31 : i ≠ 31) :
    ∃ w', (Instr.mapUpdate 217 (a.eval (.tmp 14)) (.string key) v).run Tryz.prog w = .ok () w' ∧ Inv w0 v1 v2 v3 v4 v5 p4 p5 (listed.setIfInBounds i true) a w' := by
  have hin : i < listed.size := by omega
  obtain ⟨m, es, clock, g1, g2, g3, g4⟩ := h.map hl0
  obtain ⟨es', clock', hrun, k1, k2, k3, k4⟩ := run_insert w m es clock g3 g4.keys key (insSize _ hrow) v
  have hk : Keeps w (setBlock w m (.map es' clock')) := keeps_set w m es es' clock clock' g3
  refine ⟨_, by rw [eval_tmp g1]; exact hrun, ?_⟩
  refine ⟨h.below.trans ⟨rfl, rfl, rfl, by simp [setBlock], fun k hk => heap_setBlock_other g3 _ (by omega)⟩, h.size, h.defers, h.s1, h.s2, h.s3, h.s4, h.s5, hk _ _ ⟨_, _, _, rfl⟩ h.h4, hk _ _ ⟨_, _, _, rfl⟩ h.h5, h.m1.keeps hk, h.m2.keeps hk, h.m3.keeps hk, h.m4.keeps hk, h.m5.keeps hk, ?_, ?_, ?_, ?_, ?_, ?_, ?_⟩
  · intro r hrm hrl
    rw [getD_set _ _ _ hin, if_neg (hr r hrm)] at hrl
    obtain ⟨u, hu, hmu⟩ := h.vals r hrm hrl
    exact ⟨u, hu, hmu.keeps hk⟩
  · intro r _ _
    rw [getD_set _ _ _ hin, if_neg (Ne.symm h0)]
    exact hl0
  · intro _
    refine ⟨m, es', clock', g1, g2, heap_setBlock_same g3 _, k1, fun e he => ?_, fun r hrm hrl => ?_⟩
    · rcases k2 e he with he | ⟨he1, he2⟩
      · obtain ⟨r, q1, q2, q3⟩ := g4.means e he
        exact ⟨r, q1, q2, q3.keeps hk⟩
      · exact ⟨_, hrow, he1, by rw [he2]; exact hm.keeps hk⟩
    · rw [getD_set _ _ _ hin] at hrl
      by_cases e : r.1 = i
      · have e1 := insOf_eq r hrm
        have e2 := insOf_eq _ hrow
        rw [e] at e1
        rw [e1, ← e2]
        exact k3
      · rw [if_neg e] at hrl
        exact k4 _ (g4.has r hrm hrl)
  · intro hl1
    rw [getD_set _ _ _ hin, if_neg (Ne.symm h30)] at hl1
    rw [getD_set _ _ _ hin, if_neg (Ne.symm h0)]
    exact h.late30 hl1
  · intro hl1
    rw [getD_set _ _ _ hin, if_neg (Ne.symm h31)] at hl1
    rw [getD_set _ _ _ hin, if_neg (Ne.symm h30)]
    exact h.late31 hl1
  · intro hl1
    rw [getD_set _ _ _ hin, if_neg (Ne.symm h30)] at hl1
    exact h.s32 hl1
  · intro hl1
    rw [getD_set _ _ _ hin, if_neg (Ne.symm h31)] at hl1
    exact h.s0 hl1

/-- The two operations at the end: the map goes into its slots. -/
theorem Inv.last (h : Inv w0 v1 v2 v3 v4 v5 p4 p5 listed a w) (hl : listed.size = 32) (hl0 : listed.getD 0 false = true) :
    Inv w0 v1 v2 v3 v4 v5 p4 p5 (listed.setIfInBounds 30 true) (a.put (some 32) (a.eval (.tmp 14))) w := by
  have hin : 30 < listed.size := by omega
  refine ⟨h.below, by rw [put_size]; exact h.size, h.defers, ?_, ?_, ?_, ?_, ?_, h.h4, h.h5, h.m1, h.m2, h.m3, h.m4, h.m5, ?_, ?_, ?_, ?_, ?_, ?_, ?_⟩
  · rw [put_other _ _ _ _ (by decide)]; exact h.s1
  · rw [put_other _ _ _ _ (by decide)]; exact h.s2
  · rw [put_other _ _ _ _ (by decide)]; exact h.s3
  · rw [put_other _ _ _ _ (by decide)]; exact h.s4
  · rw [put_other _ _ _ _ (by decide)]; exact h.s5
  · intro r hrm hrl
    have e : ∀ r ∈ valRows, r.1 ≠ 30 ∧ 32 ≠ r.2.1 := by decide
    rw [getD_set _ _ _ hin, if_neg (e r hrm).1] at hrl
    obtain ⟨u, hu, hmu⟩ := h.vals r hrm hrl
    exact ⟨u, by rw [put_other _ _ _ _ (e r hrm).2]; exact hu, hmu⟩
  · intro r _ _
    rw [getD_set _ _ _ hin, if_neg (by decide)]
    exact hl0
  · intro _
    obtain ⟨m, es, clock, g1, g2, g3, g4⟩ := h.map hl0
    refine ⟨m, es, clock, by rw [put_other _ _ _ _ (by decide)]; exact g1, g2, g3, g4.keys, g4.means, fun r hrm hrl => ?_⟩
    have e : ∀ r ∈ insRows, r.1 ≠ 30 := by decide
    rw [getD_set _ _ _ hin, if_neg (e r hrm)] at hrl
    exact g4.has r hrm hrl
  · intro _
    rw [getD_set _ _ _ hin, if_neg (by decide)]
    exact hl0
  · intro _
    rw [getD_set _ _ _ hin, if_pos rfl]
  · intro _
    obtain ⟨m, es, clock, g1, g2, g3, g4⟩ := h.map hl0
    rw [put_same _ _ _ (by rw [h.size]; decide), put_other _ _ _ _ (by decide), eval_tmp g1, g1]
  · intro hl1
    rw [getD_set _ _ _ hin, if_neg (by decide)] at hl1
    rw [put_other _ _ _ _ (by decide), put_other _ _ _ _ (by decide)]
    exact h.s0 hl1

theorem Inv.told (h : Inv w0 v1 v2 v3 v4 v5 p4 p5 listed a w) (hl : listed.size = 32) (hl30 : listed.getD 30 false = true) :
    Inv w0 v1 v2 v3 v4 v5 p4 p5 (listed.setIfInBounds 31 true) (a.put (some 0) (a.eval (.tmp 32))) w := by
  have hin : 31 < listed.size := by omega
  have hl0 := h.late30 hl30
  refine ⟨h.below, by rw [put_size]; exact h.size, h.defers, ?_, ?_, ?_, ?_, ?_, h.h4, h.h5, h.m1, h.m2, h.m3, h.m4, h.m5, ?_, ?_, ?_, ?_, ?_, ?_, ?_⟩
  · rw [put_other _ _ _ _ (by decide)]; exact h.s1
  · rw [put_other _ _ _ _ (by decide)]; exact h.s2
  · rw [put_other _ _ _ _ (by decide)]; exact h.s3
  · rw [put_other _ _ _ _ (by decide)]; exact h.s4
  · rw [put_other _ _ _ _ (by decide)]; exact h.s5
  · intro r hrm hrl
    have e : ∀ r ∈ valRows, r.1 ≠ 31 ∧ 0 ≠ r.2.1 := by decide
    rw [getD_set _ _ _ hin, if_neg (e r hrm).1] at hrl
    obtain ⟨u, hu, hmu⟩ := h.vals r hrm hrl
    exact ⟨u, by rw [put_other _ _ _ _ (e r hrm).2]; exact hu, hmu⟩
  · intro r _ _
    rw [getD_set _ _ _ hin, if_neg (by decide)]
    exact hl0
  · intro _
    obtain ⟨m, es, clock, g1, g2, g3, g4⟩ := h.map hl0
    refine ⟨m, es, clock, by rw [put_other _ _ _ _ (by decide)]; exact g1, g2, g3, g4.keys, g4.means, fun r hrm hrl => ?_⟩
    have e : ∀ r ∈ insRows, r.1 ≠ 31 := by decide
    rw [getD_set _ _ _ hin, if_neg (e r hrm)] at hrl
    exact g4.has r hrm hrl
  · intro _
    rw [getD_set _ _ _ hin, if_neg (by decide)]
    exact hl0
  · intro _
    rw [getD_set _ _ _ hin, if_neg (by decide)]
    exact hl30
  · intro _
    rw [put_other _ _ _ _ (by decide), put_other _ _ _ _ (by decide)]
    exact h.s32 hl30
  · intro _
    obtain ⟨m, es, clock, g1, g2, g3, g4⟩ := h.map hl0
    have e32 := h.s32 hl30
    rw [g1] at e32
    rw [put_same _ _ _ (by rw [h.size]; decide), put_other _ _ _ _ (by decide), eval_tmp e32, g1]
end
end Go.Proofs.YtclhpedecimicaaGreat

namespace Go.Proofs.YtclhpedecimicaaGreat
set_option maxRecDepth 100000
open Go Go.RowKit Go.ChangeMaps

/-- What a call of classes() leaves. -/
def Table (w0 : World) (e : Ending) (w : World) : Prop :=
  ∃ m es clock, e = .returned (.map (some m)) ∧ w.heap[m]? = some (.map es clock) ∧ StrKeys es ∧ (∀ x ∈ es.toList, ∃ r ∈ insRows, x.key = .string r.2.1 ∧ Means w x.val (clsF r.2.2)) ∧
    (∀ r ∈ insRows, ∃ x ∈ es.toList, x.key = .string r.2.1) ∧ Below w0.heap.size w0 w

theorem spanEnters : ∀ (args : Array Value) (W : World), (callFunc 169 args).run Tryz.prog W = .ok (.enter 169 args) W :=
  enters _ _ Tryz.func169 (by decide) (by intro h; cases h)
theorem eitherEnters : ∀ (args : Array Value) (W : World), (callFunc 170 args).run Tryz.prog W = .ok (.enter 170 args) W :=
  enters _ _ Tryz.func170 (by decide) (by intro h; cases h)

theorem none_listed (n i : Nat) : (Array.replicate n false).getD i false = false := by
  simp only [Array.getD_eq_getD_getElem?, Array.getElem?_replicate]
  split <;> rfl

set_option maxHeartbeats 4000000 in
set_option maxRecDepth 100000 in
theorem classes_any (w : World) : Calls Tryz.prog 168 #[] w (Table w) := by
  go_enter Tryz.func168, Tryz.ntmps168
  go_wp2_with fail
  refine (span_any _ _ _).mono ?_
  rintro e w1 ⟨k1, c1, rfl, m1, b1⟩
  have M1 := Lib.hid m1; clear m1
  go_wp2_with fail
  refine (span_any _ _ _).mono ?_
  rintro e w2 ⟨k2, c2, rfl, m2, b2⟩
  have M2 := Lib.hid m2; clear m2
  go_wp2_with fail
  refine (either_any _ _ _ _ _ (M1.out.keeps (Keeps.of_below b2)) M2.out).mono ?_
  rintro e w3 ⟨k3, c3, rfl, m3, b3⟩
  have M3 := Lib.hid m3; clear m3
  go_wp2_with fail
  refine (either_any _ _ _ _ _ M3.out (digit_means _)).mono ?_
  rintro e w4 ⟨k4, c4, rfl, m4, b4⟩
  have M4 := Lib.hid m4; clear m4
  go_wp2_with fail
  refine (span_any _ _ _).mono ?_
  rintro e w5 ⟨k5, c5, rfl, m5, b5⟩
  have M5 := Lib.hid m5; clear m5
  go_wp2_with fail
  have q1 : w.heap.size ≤ w1.heap.size := b1.size
  have q2 : w1.heap.size ≤ w2.heap.size := b2.size
  have q3 : w2.heap.size ≤ w3.heap.size := b3.size
  have q4 : w3.heap.size ≤ w4.heap.size := b4.size
  have q5 : (w4.alloc (.cells #[.func (.func k4) #[] c4] 215)).heap.size ≤ w5.heap.size := b5.size
  have q5' : w4.heap.size + 1 ≤ w5.heap.size := by simpa using q5
  have kE : Keeps w5 (w5.alloc (.cells #[.func (.func k5) #[] c5] 215)).drew := (Keeps.alloc _ _).trans (Keeps.drew _)
  have kD : Keeps w4 (w5.alloc (.cells #[.func (.func k5) #[] c5] 215)).drew := ((Keeps.alloc _ _).trans (Keeps.of_below b5)).trans kE
  have kC : Keeps w3 (w5.alloc (.cells #[.func (.func k5) #[] c5] 215)).drew := (Keeps.of_below b4).trans kD
  have kB : Keeps w2 (w5.alloc (.cells #[.func (.func k5) #[] c5] 215)).drew := (Keeps.of_below b3).trans kC
  have kA : Keeps w1 (w5.alloc (.cells #[.func (.func k5) #[] c5] 215)).drew := (Keeps.of_below b2).trans kB
  have hall : Below w.heap.size w (w5.alloc (.cells #[.func (.func k5) #[] c5] 215)).drew :=
    ((((((b1.trans (b2.mono q1)).trans (b3.mono (by omega))).trans (b4.mono (by omega))).alloc (by omega) _).trans (b5.mono (by simp; omega))).alloc (by omega) _).drew
  refine wp_region_inv (by kernel_rfl) (Inv w (.func (.func k1) #[] c1) (.func (.func k2) #[] c2) (.func (.func k3) #[] c3) (.func (.func k4) #[] c4) (.func (.func k5) #[] c5) w4.heap.size w5.heap.size) (by kernel_rfl) ?_ ?_ ?_
  · intro listed a w i o hs ho hi hf hd hI
    have hi' : i < 32 := hi
    have hl : listed.size = 32 := hs
    have hcases : i = 0 ∨ i = 1 ∨ i = 2 ∨ i = 3 ∨ i = 4 ∨ i = 5 ∨ i = 6 ∨ i = 7 ∨ i = 8 ∨ i = 9 ∨ i = 10 ∨ i = 11 ∨ i = 12 ∨ i = 13 ∨ i = 14 ∨ i = 15 ∨ i = 16 ∨ i = 17 ∨ i = 18 ∨ i = 19 ∨ i = 20 ∨ i = 21 ∨ i = 22 ∨ i = 23 ∨ i = 24 ∨ i = 25 ∨ i = 26 ∨ i = 27 ∨ i = 28 ∨ i = 29 ∨ i = 30 ∨ i = 31 := by omega
    clear hs hi hi'
    rcases hcases with rfl | rfl | rfl | rfl | rfl | rfl | rfl | rfl | rfl | rfl | rfl | rfl | rfl | rfl | rfl | rfl | rfl | rfl | rfl | rfl | rfl | rfl | rfl | rfl | rfl | rfl | rfl | rfl | rfl | rfl | rfl | rfl
    · -- 0
      obtain rfl := Option.some.inj ho
      exact step_makeMap rfl (hI.made hl (by simpa [Array.getD_eq_getD_getElem?, hl] using hf))
    · -- 1
      obtain rfl := Option.some.inj ho
      exact step_move rfl (hI.val hl 1 15 0 (by decide) _ (by rw [eval_tmp hI.s3]; exact hI.m3) (Below.refl _ _) (by decide) (by decide) (by decide) (by decide) (by decide) (by decide) (by decide))
    · -- 2
      obtain rfl := Option.some.inj ho
      obtain ⟨u0, hu0, hm0⟩ := hI.vals (1, 15, 0) (by decide) (hd ⟨1, .data⟩ (by simp) rfl)
      obtain ⟨w', hrun, hI'⟩ := hI.ins hl 2 ⟨#[97, 108, 112, 104, 97]⟩ 0 (by decide) (by simp [insRows]) u0 hm0 (hd ⟨0, .data⟩ (by simp) rfl) (by decide) (by decide) (by decide) (by decide)
      exact step_insert rfl (by rw [eval_tmp hu0]; exact hrun) hI'
    · -- 3
      obtain rfl := Option.some.inj ho
      obtain ⟨w', hrun, hI'⟩ := hI.ins hl 3 ⟨#[100, 105, 103, 105, 116]⟩ 1 (by decide) (by simp [insRows]) _ (digit_means _) (hd ⟨0, .data⟩ (by simp) rfl) (by decide) (by decide) (by decide) (by decide)
      exact step_insert rfl hrun hI'
    · -- 4
      obtain rfl := Option.some.inj ho
      exact step_load rfl (by rw [eval_tmp hI.s4]; have cx := cell_of_one hI.h4; go_simp) (hI.val hl 4 16 2 (by decide) _ hI.m4 (Below.refl _ _) (by decide) (by decide) (by decide) (by decide) (by decide) (by decide) (by decide))
    · -- 5
      obtain rfl := Option.some.inj ho
      obtain ⟨u0, hu0, hm0⟩ := hI.vals (4, 16, 2) (by decide) (hd ⟨4, .data⟩ (by simp) rfl)
      obtain ⟨w', hrun, hI'⟩ := hI.ins hl 5 ⟨#[97, 108, 110, 117, 109]⟩ 2 (by decide) (by simp [insRows]) u0 hm0 (hd ⟨0, .data⟩ (by simp) rfl) (by decide) (by decide) (by decide) (by decide)
      exact step_insert rfl (by rw [eval_tmp hu0]; exact hrun) hI'
    · -- 6
      obtain rfl := Option.some.inj ho
      exact step_move rfl (hI.val hl 6 17 3 (by decide) _ (by rw [eval_tmp hI.s1]; exact hI.m1) (Below.refl _ _) (by decide) (by decide) (by decide) (by decide) (by decide) (by decide) (by decide))
    · -- 7
      obtain rfl := Option.some.inj ho
      obtain ⟨u0, hu0, hm0⟩ := hI.vals (6, 17, 3) (by decide) (hd ⟨6, .data⟩ (by simp) rfl)
      obtain ⟨w', hrun, hI'⟩ := hI.ins hl 7 ⟨#[117, 112, 112, 101, 114]⟩ 3 (by decide) (by simp [insRows]) u0 hm0 (hd ⟨0, .data⟩ (by simp) rfl) (by decide) (by decide) (by decide) (by decide)
      exact step_insert rfl (by rw [eval_tmp hu0]; exact hrun) hI'
    · -- 8
      obtain rfl := Option.some.inj ho
      exact step_move rfl (hI.val hl 8 18 4 (by decide) _ (by rw [eval_tmp hI.s2]; exact hI.m2) (Below.refl _ _) (by decide) (by decide) (by decide) (by decide) (by decide) (by decide) (by decide))
    · -- 9
      obtain rfl := Option.some.inj ho
      obtain ⟨u0, hu0, hm0⟩ := hI.vals (8, 18, 4) (by decide) (hd ⟨8, .data⟩ (by simp) rfl)
      obtain ⟨w', hrun, hI'⟩ := hI.ins hl 9 ⟨#[108, 111, 119, 101, 114]⟩ 4 (by decide) (by simp [insRows]) u0 hm0 (hd ⟨0, .data⟩ (by simp) rfl) (by decide) (by decide) (by decide) (by decide)
      exact step_insert rfl (by rw [eval_tmp hu0]; exact hrun) hI'
    · -- 10
      obtain rfl := Option.some.inj ho
      exact step_call rfl spanEnters (by simp [Act.eval]) ((span_any 9 13 _).mono fun e w' ⟨k, cap, he, hm, hb⟩ => ⟨_, he, hI.val hl 10 19 12 (by decide) _ hm hb (by decide) (by decide) (by decide) (by decide) (by decide) (by decide) (by decide)⟩)
    · -- 11
      obtain rfl := Option.some.inj ho
      exact step_call rfl spanEnters (by simp [Act.eval]) ((span_any 32 32 _).mono fun e w' ⟨k, cap, he, hm, hb⟩ => ⟨_, he, hI.val hl 11 20 13 (by decide) _ hm hb (by decide) (by decide) (by decide) (by decide) (by decide) (by decide) (by decide)⟩)
    · -- 12
      obtain rfl := Option.some.inj ho
      obtain ⟨u0, hu0, hm0⟩ := hI.vals (10, 19, 12) (by decide) (hd ⟨10, .data⟩ (by simp) rfl)
      obtain ⟨u1, hu1, hm1⟩ := hI.vals (11, 20, 13) (by decide) (hd ⟨11, .data⟩ (by simp) rfl)
      exact step_call rfl eitherEnters (by simp [eval_tmp hu0, eval_tmp hu1]) ((either_any _ _ _ _ _ hm0 hm1).mono fun e w' ⟨k, cap, he, hm, hb⟩ => ⟨_, he, hI.val hl 12 21 5 (by decide) _ hm hb (by decide) (by decide) (by decide) (by decide) (by decide) (by decide) (by decide)⟩)
    · -- 13
      obtain rfl := Option.some.inj ho
      obtain ⟨u0, hu0, hm0⟩ := hI.vals (12, 21, 5) (by decide) (hd ⟨12, .data⟩ (by simp) rfl)
      obtain ⟨w', hrun, hI'⟩ := hI.ins hl 13 ⟨#[115, 112, 97, 99, 101]⟩ 5 (by decide) (by simp [insRows]) u0 hm0 (hd ⟨0, .data⟩ (by simp) rfl) (by decide) (by decide) (by decide) (by decide)
      exact step_insert rfl (by rw [eval_tmp hu0]; exact hrun) hI'
    · -- 14
      obtain rfl := Option.some.inj ho
      obtain ⟨w', hrun, hI'⟩ := hI.ins hl 14 ⟨#[98, 108, 97, 110, 107]⟩ 6 (by decide) (by simp [insRows]) _ (blank_means _) (hd ⟨0, .data⟩ (by simp) rfl) (by decide) (by decide) (by decide) (by decide)
      exact step_insert rfl hrun hI'
    · -- 15
      obtain rfl := Option.some.inj ho
      exact step_makeFunc rfl (by simp) (by simp [eval_tmp hI.s5, eval_tmp hI.s4]) (hI.val hl 15 22 7 (by decide) _ (two_means 173 _ Tryz.func173 (by decide) (by intro h; cases h) (fun x y => x && !y) punct1 _ _ _ _ _ _ _ hI.h5 hI.h4 hI.m5 hI.m4) (Below.refl _ _) (by decide) (by decide) (by decide) (by decide) (by decide) (by decide) (by decide))
    · -- 16
      obtain rfl := Option.some.inj ho
      obtain ⟨u0, hu0, hm0⟩ := hI.vals (15, 22, 7) (by decide) (hd ⟨15, .data⟩ (by simp) rfl)
      obtain ⟨w', hrun, hI'⟩ := hI.ins hl 16 ⟨#[112, 117, 110, 99, 116]⟩ 7 (by decide) (by simp [insRows]) u0 hm0 (hd ⟨0, .data⟩ (by simp) rfl) (by decide) (by decide) (by decide) (by decide)
      exact step_insert rfl (by rw [eval_tmp hu0]; exact hrun) hI'
    · -- 17
      obtain rfl := Option.some.inj ho
      exact step_call rfl spanEnters (by simp [Act.eval]) ((span_any 32 126 _).mono fun e w' ⟨k, cap, he, hm, hb⟩ => ⟨_, he, hI.val hl 17 23 8 (by decide) _ hm hb (by decide) (by decide) (by decide) (by decide) (by decide) (by decide) (by decide)⟩)
    · -- 18
      obtain rfl := Option.some.inj ho
      obtain ⟨u0, hu0, hm0⟩ := hI.vals (17, 23, 8) (by decide) (hd ⟨17, .data⟩ (by simp) rfl)
      obtain ⟨w', hrun, hI'⟩ := hI.ins hl 18 ⟨#[112, 114, 105, 110, 116]⟩ 8 (by decide) (by simp [insRows]) u0 hm0 (hd ⟨0, .data⟩ (by simp) rfl) (by decide) (by decide) (by decide) (by decide)
      exact step_insert rfl (by rw [eval_tmp hu0]; exact hrun) hI'
    · -- 19
      obtain rfl := Option.some.inj ho
      exact step_load rfl (by rw [eval_tmp hI.s5]; have cx := cell_of_one hI.h5; go_simp) (hI.val hl 19 24 9 (by decide) _ hI.m5 (Below.refl _ _) (by decide) (by decide) (by decide) (by decide) (by decide) (by decide) (by decide))
    · -- 20
      obtain rfl := Option.some.inj ho
      obtain ⟨u0, hu0, hm0⟩ := hI.vals (19, 24, 9) (by decide) (hd ⟨19, .data⟩ (by simp) rfl)
      obtain ⟨w', hrun, hI'⟩ := hI.ins hl 20 ⟨#[103, 114, 97, 112, 104]⟩ 9 (by decide) (by simp [insRows]) u0 hm0 (hd ⟨0, .data⟩ (by simp) rfl) (by decide) (by decide) (by decide) (by decide)
      exact step_insert rfl (by rw [eval_tmp hu0]; exact hrun) hI'
    · -- 21
      obtain rfl := Option.some.inj ho
      exact step_call rfl spanEnters (by simp [Act.eval]) ((span_any 0 31 _).mono fun e w' ⟨k, cap, he, hm, hb⟩ => ⟨_, he, hI.val hl 21 25 14 (by decide) _ hm hb (by decide) (by decide) (by decide) (by decide) (by decide) (by decide) (by decide)⟩)
    · -- 22
      obtain rfl := Option.some.inj ho
      exact step_call rfl spanEnters (by simp [Act.eval]) ((span_any 127 127 _).mono fun e w' ⟨k, cap, he, hm, hb⟩ => ⟨_, he, hI.val hl 22 26 15 (by decide) _ hm hb (by decide) (by decide) (by decide) (by decide) (by decide) (by decide) (by decide)⟩)
    · -- 23
      obtain rfl := Option.some.inj ho
      obtain ⟨u0, hu0, hm0⟩ := hI.vals (21, 25, 14) (by decide) (hd ⟨21, .data⟩ (by simp) rfl)
      obtain ⟨u1, hu1, hm1⟩ := hI.vals (22, 26, 15) (by decide) (hd ⟨22, .data⟩ (by simp) rfl)
      exact step_call rfl eitherEnters (by simp [eval_tmp hu0, eval_tmp hu1]) ((either_any _ _ _ _ _ hm0 hm1).mono fun e w' ⟨k, cap, he, hm, hb⟩ => ⟨_, he, hI.val hl 23 27 10 (by decide) _ hm hb (by decide) (by decide) (by decide) (by decide) (by decide) (by decide) (by decide)⟩)
    · -- 24
      obtain rfl := Option.some.inj ho
      obtain ⟨u0, hu0, hm0⟩ := hI.vals (23, 27, 10) (by decide) (hd ⟨23, .data⟩ (by simp) rfl)
      obtain ⟨w', hrun, hI'⟩ := hI.ins hl 24 ⟨#[99, 110, 116, 114, 108]⟩ 10 (by decide) (by simp [insRows]) u0 hm0 (hd ⟨0, .data⟩ (by simp) rfl) (by decide) (by decide) (by decide) (by decide)
      exact step_insert rfl (by rw [eval_tmp hu0]; exact hrun) hI'
    · -- 25
      obtain rfl := Option.some.inj ho
      exact step_call rfl spanEnters (by simp [Act.eval]) ((span_any 65 70 _).mono fun e w' ⟨k, cap, he, hm, hb⟩ => ⟨_, he, hI.val hl 25 28 16 (by decide) _ hm hb (by decide) (by decide) (by decide) (by decide) (by decide) (by decide) (by decide)⟩)
    · -- 26
      obtain rfl := Option.some.inj ho
      exact step_call rfl spanEnters (by simp [Act.eval]) ((span_any 97 102 _).mono fun e w' ⟨k, cap, he, hm, hb⟩ => ⟨_, he, hI.val hl 26 29 17 (by decide) _ hm hb (by decide) (by decide) (by decide) (by decide) (by decide) (by decide) (by decide)⟩)
    · -- 27
      obtain rfl := Option.some.inj ho
      obtain ⟨u0, hu0, hm0⟩ := hI.vals (25, 28, 16) (by decide) (hd ⟨25, .data⟩ (by simp) rfl)
      obtain ⟨u1, hu1, hm1⟩ := hI.vals (26, 29, 17) (by decide) (hd ⟨26, .data⟩ (by simp) rfl)
      exact step_call rfl eitherEnters (by simp [eval_tmp hu0, eval_tmp hu1]) ((either_any _ _ _ _ _ hm0 hm1).mono fun e w' ⟨k, cap, he, hm, hb⟩ => ⟨_, he, hI.val hl 27 30 18 (by decide) _ hm hb (by decide) (by decide) (by decide) (by decide) (by decide) (by decide) (by decide)⟩)
    · -- 28
      obtain rfl := Option.some.inj ho
      obtain ⟨u0, hu0, hm0⟩ := hI.vals (27, 30, 18) (by decide) (hd ⟨27, .data⟩ (by simp) rfl)
      exact step_call rfl eitherEnters (by simp [eval_tmp hu0]; rfl) ((either_any _ _ _ _ _ (digit_means _) hm0).mono fun e w' ⟨k, cap, he, hm, hb⟩ => ⟨_, he, hI.val hl 28 31 11 (by decide) _ hm hb (by decide) (by decide) (by decide) (by decide) (by decide) (by decide) (by decide)⟩)
    · -- 29
      obtain rfl := Option.some.inj ho
      obtain ⟨u0, hu0, hm0⟩ := hI.vals (28, 31, 11) (by decide) (hd ⟨28, .data⟩ (by simp) rfl)
      obtain ⟨w', hrun, hI'⟩ := hI.ins hl 29 ⟨#[120, 100, 105, 103, 105, 116]⟩ 11 (by decide) (by simp [insRows]) u0 hm0 (hd ⟨0, .data⟩ (by simp) rfl) (by decide) (by decide) (by decide) (by decide)
      exact step_insert rfl (by rw [eval_tmp hu0]; exact hrun) hI'
    · -- 30
      obtain rfl := Option.some.inj ho
      exact step_move rfl (hI.last hl (hd ⟨0, .data⟩ (by simp) rfl))
    · -- 31
      obtain rfl := Option.some.inj ho
      exact step_assign rfl (hI.told hl (hd ⟨30, .data⟩ (by simp) rfl))
  · intro listed a wE hs hd hI
    obtain ⟨m, es, clock, g1, g2, g3, g4⟩ := hI.map (hd 0 (by decide))
    have e0 := hI.s0 (hd 31 (by decide))
    rw [g1] at e0
    have hT : Table w (.returned (.map (some m))) wE :=
      ⟨m, es, clock, rfl, g3, g4.keys, g4.means, fun r hr => g4.has r hr (hd r.1 ((by decide : ∀ r ∈ insRows, r.1 < 32) r hr)), hI.below⟩
    have hdf := hI.defers
    have hre : (results Tryz.f168 a.tmps).run Tryz.prog wE = .ok (.map (some m)) wE := by
      simp [results, Tryz.results168, go_sem, e0]
    clear hd hI g1 g2 g3 g4 e0 hs M1 M2 M3 M4 M5 kA kB kC kD kE hall b1 b2 b3 b4 b5
    obtain ⟨tmps, defers⟩ := a
    go_wp2
    exact bodyPost_ret hre rfl hT
  · refine ⟨hall, by simp, rfl, by simp, by simp, by simp, by simp, by simp, ?_, ?_, ?_, ?_, ?_, ?_, ?_, ?_, ?_, ?_, ?_, ?_, ?_, ?_⟩
    · exact kE _ _ ⟨_, _, _, rfl⟩ (by rw [b5.block _ (by simp)]; exact heap_last _ _)
    · exact (Keeps.drew _) _ _ ⟨_, _, _, rfl⟩ (heap_last _ _)
    · exact M1.out.keeps kA
    · exact M2.out.keeps kB
    · exact M3.out.keeps kC
    · exact M4.out.keeps kD
    · exact M5.out.keeps kE
    all_goals first | exact fun r _ hl => absurd hl (by rw [none_listed]; decide) | exact fun hl => absurd hl (by rw [none_listed]; decide)
end Go.Proofs.YtclhpedecimicaaGreat

namespace Go.Proofs.YtclhpedecimicaaGreat
set_option maxRecDepth 100000
open Go Go.RowKit Go.ChangeMaps

/-- b tells whether byte n is of the class named s. -/
def IsClass (s : ByteArray) (n : Int) (b : Bool) : Prop :=
  (∃ r ∈ insRows, s = r.2.1 ∧ b = clsF r.2.2 n) ∨ ((∀ r ∈ insRows, s ≠ r.2.1) ∧ b = false)

def Tells (s : ByteArray) (n : Int) (w : World) (e : Ending) (w' : World) : Prop := ∃ b, e = .returned (.bool b) ∧ IsClass s n b ∧ Below w.heap.size w w'

set_option maxHeartbeats 1000000 in
theorem class_any (s : ByteArray) (hs : s.size ≤ maxLen) (n : Int) (w : World) : Calls Tryz.prog 167 #[.string s, .int .u8 n] w (Tells s n w) := by
  go_enter Tryz.func167, Tryz.ntmps167
  go_wp2_with fail
  refine (classes_any _).mono ?_
  rintro e w1 ⟨m, es, clock, rfl, hm, hk, hmean, hhas, hb⟩
  rcases run_find w1 m es clock hm hk s hs with ⟨hrun, hno⟩ | ⟨x, hx, hkey, hrun⟩
  · have hT : Tells s n w (.returned (.bool false)) w1 := by
      refine ⟨false, rfl, Or.inr ⟨fun r hr e => ?_, rfl⟩, hb⟩
      obtain ⟨x, hx, hxk⟩ := hhas r hr
      exact hno x hx (by rw [hxk, e])
    have HT := Lib.hid hT
    clear hT hmean hhas hk hno hm hb
    go_wp2_with fail
    go_ret
    exact HT.out
  · obtain ⟨r, hr, hrk, hM⟩ := hmean x hx
    have es1 : s = r.2.1 := by
      rw [hkey] at hrk
      exact Value.string.inj hrk
    have hT : Tells s n w (.returned (.bool (clsF r.2.2 n))) w1 := ⟨_, rfl, Or.inl ⟨r, hr, es1, rfl⟩, hb⟩
    have HT := Lib.hid hT
    obtain ⟨k, cap, L, hv, hent, hL, hc⟩ := hM
    have HC := Lib.hid (hc n w1 fun p hp => (hL p hp).2)
    rw [hv] at hrun
    clear hT hmean hhas hk hm hb hkey hrk hv hL hc hx hr es1
    cases hf : clsF r.2.2 n <;> rw [hf] at HT HC
    all_goals
      clear hf
      go_wp2_with fail
      refine HC.out.mono ?_
      rintro e w' ⟨rfl, rfl⟩
      go_wp2_with fail
      go_ret
      exact HT.out
end Go.Proofs.YtclhpedecimicaaGreat

namespace Go.Proofs.YtclhpedecimicaaGreat
set_option maxRecDepth 100000
open Go Go.RowKit

/-- Whether a byte is of a class, by its name. -/
def clsB (s : List UInt8) (c : Int) : Bool := match insRows.find? (fun r => r.2.1.data.toList == s) with | some r => clsF r.2.2 c | none => false
theorem cls_of {s : ByteArray} {n : Int} {b : Bool} (h : IsClass s n b) : b = clsB s.data.toList n := by
  rcases h with ⟨r, hr, rfl, rfl⟩ | ⟨h, rfl⟩
  · simp only [insRows, List.mem_cons, List.not_mem_nil, or_false] at hr
    rcases hr with rfl | rfl | rfl | rfl | rfl | rfl | rfl | rfl | rfl | rfl | rfl | rfl <;> rfl
  · have h2 : insRows.find? (fun r => r.2.1.data.toList == s.data.toList) = none := by
      rw [List.find?_eq_none]
      intro r hr e
      refine h r hr ?_
      have e2 : r.2.1.data.toList = s.data.toList := by simpa using e
      have e3 : r.2.1.data = s.data := Array.toList_inj.1 e2
      obtain ⟨_, q, _⟩ := r
      cases s; cases q
      simp_all
    unfold clsB
    rw [h2]

/-- A member of a set; a want. -/
inductive Mb where
  | span (a b : UInt8)
  | cls (s : List UInt8)
inductive Wt where
  | one
  | many
  | span (a b : UInt8)
  | set (t : Bool) (l : List Mb)

def Mb.tk : Mb → UInt8 → Bool
  | .span a b, c => decide (a.toNat ≤ c.toNat) && decide (c.toNat ≤ b.toNat)
  | .cls s, c => clsB s c.toNat
def Wt.tk : Wt → UInt8 → Bool
  | .one, _ => true
  | .many, _ => true
  | .span a b, c => decide (a.toNat ≤ c.toNat) && decide (c.toNat ≤ b.toNat)
  | .set t l, c => (l.any fun m => m.tk c) != t
def Wt.rep : Wt → Bool
  | .many => true
  | _ => false
theorem rep_tk {x : Wt} (h : x.rep = true) (c : UInt8) : x.tk c = true := by cases x <;> simp_all [Wt.rep, Wt.tk]

/-- What one want takes; what a row of wants wants. -/
def TkL (x : Wt) (t : List UInt8) : Prop := x.rep = true ∨ ∃ c, t = [c] ∧ x.tk c = true
def Mat : List Wt → List UInt8 → Prop
  | [], s => s = []
  | x :: r, s => ∃ a b, s = a ++ b ∧ TkL x a ∧ Mat r b
theorem mat_append : ∀ (r1 r2 : List Wt) (s : List UInt8), Mat (r1 ++ r2) s ↔ ∃ a b, s = a ++ b ∧ Mat r1 a ∧ Mat r2 b
  | [], r2, s => by
    constructor
    · intro h; exact ⟨[], s, rfl, rfl, h⟩
    · rintro ⟨a, b, rfl, h1, h2⟩
      simp only [Mat] at h1
      subst h1; exact h2
  | x :: r1, r2, s => by
    constructor
    · rintro ⟨a, b, rfl, h1, h2⟩
      obtain ⟨c, d, rfl, h3, h4⟩ := (mat_append r1 r2 b).1 h2
      exact ⟨a ++ c, d, by simp, ⟨a, c, rfl, h1, h3⟩, h4⟩
    · rintro ⟨a, b, rfl, ⟨c, d, rfl, h1, h2⟩, h3⟩
      exact ⟨c, d ++ b, by simp, h1, (mat_append r1 r2 _).2 ⟨d, b, rfl, h2, h3⟩⟩
theorem mat_one (x : Wt) (s : List UInt8) : Mat [x] s ↔ TkL x s := by
  constructor
  · rintro ⟨a, b, rfl, h, hb⟩
    simp only [Mat] at hb
    subst hb; simpa using h
  · intro h; exact ⟨s, [], by simp, h, rfl⟩
theorem mat_snoc (r : List Wt) (x : Wt) (s : List UInt8) : Mat (r ++ [x]) s ↔ ∃ a b, s = a ++ b ∧ Mat r a ∧ TkL x b := by
  rw [mat_append]
  constructor
  · rintro ⟨a, b, h, h1, h2⟩; exact ⟨a, b, h, h1, (mat_one x b).1 h2⟩
  · rintro ⟨a, b, h, h1, h2⟩; exact ⟨a, b, h, h1, (mat_one x b).2 h2⟩
theorem tk_rev (x : Wt) (t : List UInt8) : TkL x t.reverse ↔ TkL x t := by
  unfold TkL
  constructor
  · rintro (h | ⟨c, h, hc⟩)
    · exact Or.inl h
    · exact Or.inr ⟨c, by rw [← List.reverse_reverse t, h]; rfl, hc⟩
  · rintro (h | ⟨c, rfl, hc⟩)
    · exact Or.inl h
    · exact Or.inr ⟨c, rfl, hc⟩
theorem mat_rev : ∀ (r : List Wt) (s : List UInt8), Mat r.reverse s.reverse ↔ Mat r s
  | [], s => by simp [Mat]
  | x :: r, s => by
    rw [List.reverse_cons, mat_snoc]
    constructor
    · rintro ⟨a, b, h, h1, h2⟩
      refine ⟨b.reverse, a.reverse, ?_, (tk_rev x b).2 h2, ?_⟩
      · have := congrArg List.reverse h
        simpa using this
      · rw [← mat_rev r, List.reverse_reverse]; exact h1
    · rintro ⟨a, b, rfl, h1, h2⟩
      exact ⟨b.reverse, a.reverse, by simp, (mat_rev r b).2 h2, (tk_rev x a).2 h1⟩

/-- It can be decided. -/
def matB : List Wt → List UInt8 → Bool
  | [], s => s.isEmpty
  | x :: r, s => if x.rep then (List.range (s.length + 1)).any (fun k => matB r (s.drop k)) else match s with | [] => false | c :: t => x.tk c && matB r t
theorem mat_iff : ∀ (r : List Wt) (s : List UInt8), matB r s = true ↔ Mat r s
  | [], s => by simp [matB, Mat, List.isEmpty_iff]
  | x :: r, s => by
    unfold matB
    cases hx : x.rep with
    | true =>
      rw [if_pos rfl, List.any_eq_true]
      constructor
      · rintro ⟨k, -, h⟩
        exact ⟨s.take k, s.drop k, (List.take_append_drop k s).symm, Or.inl hx, (mat_iff r _).1 h⟩
      · rintro ⟨a, b, rfl, -, h⟩
        exact ⟨a.length, by simp; omega, by rw [List.drop_left]; exact (mat_iff r b).2 h⟩
    | false =>
      rw [if_neg (by simp)]
      constructor
      · intro h
        cases s with
        | nil => cases h
        | cons c t =>
          rw [Bool.and_eq_true] at h
          exact ⟨[c], t, rfl, Or.inr ⟨c, rfl, h.1⟩, (mat_iff r t).1 h.2⟩
      · rintro ⟨a, b, rfl, h1 | ⟨c, rfl, h1⟩, h2⟩
        · rw [hx] at h1; cases h1
        · show (x.tk c && matB r b) = true
          rw [h1, (mat_iff r b).2 h2]; rfl
instance (r : List Wt) (s : List UInt8) : Decidable (Mat r s) := decidable_of_iff _ (mat_iff r s)

theorem tk_rep {x : Wt} (h : x.rep = true) (t : List UInt8) : TkL x t := Or.inl h
theorem tk_not {x : Wt} (h : x.rep = false) (t : List UInt8) : TkL x t ↔ ∃ c, t = [c] ∧ x.tk c = true := by simp [TkL, h]

/-- One byte more. -/
theorem mat_rep_nil (r : List Wt) {x : Wt} (h : x.rep = true) : Mat (r ++ [x]) [] ↔ Mat r [] := by
  rw [mat_snoc]
  constructor
  · rintro ⟨a, b, e, h1, -⟩
    obtain ⟨rfl, rfl⟩ := List.append_eq_nil_iff.1 e.symm
    exact h1
  · intro h1; exact ⟨[], [], rfl, h1, tk_rep h _⟩
theorem mat_not_nil (r : List Wt) {x : Wt} (h : x.rep = false) : ¬ Mat (r ++ [x]) [] := by
  rw [mat_snoc]
  rintro ⟨a, b, e, -, h2⟩
  obtain ⟨rfl, rfl⟩ := List.append_eq_nil_iff.1 e.symm
  obtain ⟨c, e2, -⟩ := (tk_not h _).1 h2
  cases e2
theorem mat_rep_snoc (r : List Wt) {x : Wt} (h : x.rep = true) (t : List UInt8) (c : UInt8) : Mat (r ++ [x]) (t ++ [c]) ↔ Mat r (t ++ [c]) ∨ Mat (r ++ [x]) t := by
  rw [mat_snoc, mat_snoc]
  constructor
  · rintro ⟨a, b, e, h1, -⟩
    rcases List.eq_nil_or_concat b with rfl | ⟨b', d, rfl⟩
    · exact Or.inl (by rw [e, List.append_nil]; exact h1)
    · have e2 : t ++ [c] = (a ++ b') ++ [d] := by rw [e]; simp
      obtain ⟨e3, -⟩ := List.append_inj' e2 rfl
      exact Or.inr ⟨a, b', e3, h1, tk_rep h _⟩
  · rintro (h1 | ⟨a, b, rfl, h1, -⟩)
    · exact ⟨t ++ [c], [], by simp, h1, tk_rep h _⟩
    · exact ⟨a, b ++ [c], by simp, h1, tk_rep h _⟩
theorem mat_not_snoc (r : List Wt) {x : Wt} (h : x.rep = false) (t : List UInt8) (c : UInt8) : Mat (r ++ [x]) (t ++ [c]) ↔ Mat r t ∧ x.tk c = true := by
  rw [mat_snoc]
  constructor
  · rintro ⟨a, b, e, h1, h2⟩
    obtain ⟨d, rfl, h3⟩ := (tk_not h _).1 h2
    obtain ⟨rfl, e4⟩ := List.append_inj' e rfl
    cases e4
    exact ⟨h1, h3⟩
  · rintro ⟨h1, h2⟩
    exact ⟨t, [c], rfl, h1, (tk_not h _).2 ⟨c, rfl, h2⟩⟩

/-- Wants that repeat, one behind the other, are one. -/
def pushW (r : List Wt) (x : Wt) : List Wt := if r ≠ [] ∧ x.rep = true ∧ (r.getLast?.map Wt.rep) = some true then r else r ++ [x]
theorem mat_push (r : List Wt) (x : Wt) (s : List UInt8) : Mat (pushW r x) s ↔ Mat (r ++ [x]) s := by
  unfold pushW
  split
  · rename_i h
    obtain ⟨hne, hx, hl⟩ := h
    rcases List.eq_nil_or_concat r with rfl | ⟨q, y, rfl⟩
    · exact absurd rfl hne
    · have hy : y.rep = true := by simpa using hl
      rw [List.concat_eq_append, mat_snoc, mat_snoc]
      constructor
      · rintro ⟨a, b, rfl, h1, h2⟩
        exact ⟨a ++ b, [], by simp, (mat_snoc _ _ _).2 ⟨a, b, rfl, h1, h2⟩, tk_rep hx _⟩
      · rintro ⟨a, b, rfl, h1, h2⟩
        obtain ⟨a1, a2, rfl, h3, h4⟩ := (mat_snoc _ _ _).1 h1
        exact ⟨a1, a2 ++ b, by simp, h3, tk_rep hy _⟩
  · rfl
theorem mat_fold (l : List Wt) : ∀ (r : List Wt) (s : List UInt8), Mat (l.foldl pushW r) s ↔ Mat (r ++ l) s := by
  induction l with
  | nil => intro r s; simp
  | cons x l ih =>
    intro r s
    rw [List.foldl_cons, ih, mat_append, show r ++ x :: l = (r ++ [x]) ++ l by simp, mat_append]
    constructor
    · rintro ⟨a, b, e, h1, h2⟩; exact ⟨a, b, e, (mat_push r x a).1 h1, h2⟩
    · rintro ⟨a, b, e, h1, h2⟩; exact ⟨a, b, e, (mat_push r x a).2 h1, h2⟩
/-- No two wants that repeat stand side by side. -/
def Alone (r : List Wt) : Prop := ∀ i x y, r[i]? = some x → r[i + 1]? = some y → x.rep = true → y.rep = false
theorem alone_push {r : List Wt} (h : Alone r) (x : Wt) : Alone (pushW r x) := by
  unfold pushW
  split
  · exact h
  · rename_i hc
    intro i a b ha hb hr
    rw [List.getElem?_append] at ha hb
    by_cases h1 : i + 1 < r.length
    · rw [if_pos (by omega)] at ha
      rw [if_pos h1] at hb
      exact h i a b ha hb hr
    · rw [if_neg h1] at hb
      by_cases h2 : i < r.length
      · rw [if_pos h2] at ha
        have h3 : i + 1 = r.length := by omega
        rw [show i + 1 - r.length = 0 by omega] at hb
        simp only [List.getElem?_cons_zero, Option.some.injEq] at hb
        subst hb
        cases hx : x.rep with
        | false => rfl
        | true =>
          exfalso
          refine hc ⟨by intro e; subst e; simp at h2, hx, ?_⟩
          rw [List.getLast?_eq_getElem?, show r.length - 1 = i by omega, ha]
          simp [hr]
      · rw [if_neg h2] at ha
        rw [List.getElem?_eq_none (by simp; omega)] at hb
        cases hb
theorem alone_fold (l : List Wt) : ∀ {r : List Wt}, Alone r → Alone (l.foldl pushW r) := by
  induction l with
  | nil => intro r h; exact h
  | cons x l ih => intro r h; exact ih (alone_push h x)
theorem alone_nil : Alone [] := by intro i x y h; cases h
theorem alone_rev {r : List Wt} (h : Alone r) : Alone r.reverse := by
  intro i x y hx hy hr
  have hi : i + 1 < r.length := by
    obtain ⟨h1, -⟩ := List.getElem?_eq_some_iff.1 hy
    simpa using h1
  rw [List.getElem?_reverse (by omega)] at hx
  rw [List.getElem?_reverse hi] at hy
  cases hy2 : y.rep with
  | false => rfl
  | true =>
    have := h (r.length - 1 - (i + 1)) y x hy (by rw [show r.length - 1 - (i + 1) + 1 = r.length - 1 - i by omega]; exact hx) hy2
    rw [hr] at this; cases this
end Go.Proofs.YtclhpedecimicaaGreat

namespace Go.Proofs.YtclhpedecimicaaGreat
set_option maxRecDepth 100000
open Go Go.RowKit

/-- A pattern's bytes, and which of them are plain. -/
def plL : List UInt8 → List UInt8 → List (UInt8 × Bool)
  | [], _ => []
  | a :: p, [] => (a, true) :: plL p []
  | a :: p, b :: q => (a, b != 49) :: plL p q
abbrev Pl := List (UInt8 × Bool)
def isP (L : Pl) (i : Nat) (c : UInt8) : Bool := L[i]? == some (c, true)
theorem pl_len : ∀ (p q : List UInt8), (plL p q).length = p.length
  | [], _ => rfl
  | a :: p, [] => by simp [plL, pl_len p []]
  | a :: p, b :: q => by simp [plL, pl_len p q]
theorem pl_nil : ∀ (p : List UInt8) (i : Nat), (plL p [])[i]? = p[i]?.map fun a => (a, true)
  | [], i => rfl
  | a :: p, 0 => rfl
  | a :: p, i + 1 => by simp only [plL, List.getElem?_cons_succ]; exact pl_nil p i
def flg (q : List UInt8) (i : Nat) : Bool := match q[i]? with | some b => b != 49 | none => true
theorem pl_get : ∀ (p q : List UInt8) (i : Nat), (plL p q)[i]? = p[i]?.map fun a => (a, flg q i)
  | [], _, i => rfl
  | a :: p, [], i => by rw [pl_nil]; rfl
  | a :: p, b :: q, 0 => rfl
  | a :: p, b :: q, i + 1 => by simp only [plL, List.getElem?_cons_succ]; exact pl_get p q i
theorem isP_drop (L : Pl) (k i : Nat) (c : UInt8) : isP (L.drop k) i c = isP L (k + i) c := by unfold isP; rw [List.getElem?_drop]
theorem isP_lt {L : Pl} {i : Nat} {c : UInt8} (h : isP L i c = true) : i < L.length := by
  unfold isP at h
  have : L[i]? = some (c, true) := by simpa using h
  exact (List.getElem?_eq_some_iff.1 this).1
theorem isP_two {L : Pl} {i : Nat} {c d : UInt8} (h : isP L i c = true) (hd : c ≠ d) : isP L i d = false := by
  unfold isP at h ⊢
  have : L[i]? = some (c, true) := by simpa using h
  rw [this]
  simp [hd]
theorem isP_no {L : Pl} {i : Nat} (h : L.length ≤ i) (c : UInt8) : isP L i c = false := by
  unfold isP; rw [List.getElem?_eq_none h]; rfl

/-- A class's name. -/
def low (x : UInt8 × Bool) : Bool := x.2 && (decide (97 ≤ x.1.toNat) && decide (x.1.toNat ≤ 122))
def nameL (L : Pl) : Pl := (L.drop 2).takeWhile low
def clsE (L : Pl) : Option Nat := if isP L 0 91 = true ∧ isP L 1 58 = true ∧ isP L (2 + (nameL L).length) 58 = true ∧ isP L (3 + (nameL L).length) 93 = true then some (nameL L).length else none
def rngB (L : Pl) : Bool := isP L 1 45 && (decide (2 < L.length) && !isP L 2 93)
def byteAt (L : Pl) (i : Nat) : UInt8 := match L[i]? with | some x => x.1 | none => 0
/-- A member, and how many bytes it has. -/
def mbN (L : Pl) : Nat := match clsE L with | some k => k + 4 | none => if rngB L = true then 3 else 1
def mbF (L : Pl) : Mb := match clsE L with | some k => .cls (((L.drop 2).take k).map Prod.fst) | none => if rngB L = true then .span (byteAt L 0) (byteAt L 2) else .span (byteAt L 0) (byteAt L 0)
theorem mbN_pos (L : Pl) : 1 ≤ mbN L := by
  unfold mbN
  split
  · omega
  · split <;> omega
theorem clsE_some {L : Pl} {k : Nat} (h : clsE L = some k) : k = (nameL L).length ∧ isP L 0 91 = true ∧ isP L 1 58 = true ∧ isP L (2 + k) 58 = true ∧ isP L (3 + k) 93 = true := by
  unfold clsE at h
  split at h
  · rename_i hc
    obtain rfl := Option.some.inj h
    exact ⟨rfl, hc⟩
  · cases h
theorem mbN_le {L : Pl} (hL : L ≠ []) : mbN L ≤ L.length := by
  unfold mbN
  split
  · rename_i k hk
    have := isP_lt (clsE_some hk).2.2.2.2
    omega
  · split
    · rename_i h
      unfold rngB at h
      simp only [Bool.and_eq_true, decide_eq_true_eq] at h
      omega
    · have := List.length_pos_iff.2 hL
      omega

/-- Where members end: how many bytes on stands the ] that closes; the members up to it. -/
def clF : Nat → Pl → Option Nat
  | 0, _ => none
  | f + 1, L => if L = [] then none else if isP L 0 93 = true then some 0 else (clF f (L.drop (mbN L))).map (· + mbN L)
def clE (L : Pl) : Option Nat := clF (L.length + 1) L
def mbsF : Nat → Pl → List Mb
  | 0, _ => []
  | f + 1, L => if L = [] then [] else if isP L 0 93 = true then [] else mbF L :: mbsF f (L.drop (mbN L))
def mbs (L : Pl) : List Mb := mbsF (L.length + 1) L
theorem clF_more : ∀ (f g : Nat) (L : Pl), L.length < f → L.length < g → clF f L = clF g L
  | 0, _, _, h, _ => by omega
  | _ + 1, 0, _, _, h => by omega
  | f + 1, g + 1, L, h1, h2 => by
    unfold clF
    by_cases hL : L = []
    · rw [if_pos hL, if_pos hL]
    · rw [if_neg hL, if_neg hL]
      have h3 := mbN_pos L
      have h4 := List.length_pos_iff.2 hL
      rw [clF_more f g (L.drop (mbN L)) (by rw [List.length_drop]; omega) (by rw [List.length_drop]; omega)]
theorem mbsF_more : ∀ (f g : Nat) (L : Pl), L.length < f → L.length < g → mbsF f L = mbsF g L
  | 0, _, _, h, _ => by omega
  | _ + 1, 0, _, _, h => by omega
  | f + 1, g + 1, L, h1, h2 => by
    unfold mbsF
    by_cases hL : L = []
    · rw [if_pos hL, if_pos hL]
    · rw [if_neg hL, if_neg hL]
      have h3 := mbN_pos L
      have h4 := List.length_pos_iff.2 hL
      rw [mbsF_more f g (L.drop (mbN L)) (by rw [List.length_drop]; omega) (by rw [List.length_drop]; omega)]
theorem clE_nil : clE [] = none := rfl
theorem clE_yes {L : Pl} (h : isP L 0 93 = true) : clE L = some 0 := by
  have hL : L ≠ [] := by intro e; subst e; cases h
  unfold clE clF
  rw [if_neg hL, if_pos h]
theorem clE_more {L : Pl} (hL : L ≠ []) (h : isP L 0 93 = false) : clE L = (clE (L.drop (mbN L))).map (· + mbN L) := by
  have h3 := mbN_pos L
  have h4 := List.length_pos_iff.2 hL
  unfold clE
  rw [clF, if_neg hL, if_neg (by simp [h]), clF_more L.length ((L.drop (mbN L)).length + 1) _ (by rw [List.length_drop]; omega) (by omega)]
theorem mbs_nil : mbs [] = [] := rfl
theorem mbs_yes {L : Pl} (h : isP L 0 93 = true) : mbs L = [] := by
  have hL : L ≠ [] := by intro e; subst e; cases h
  unfold mbs mbsF
  rw [if_neg hL, if_pos h]
theorem mbs_more {L : Pl} (hL : L ≠ []) (h : isP L 0 93 = false) : mbs L = mbF L :: mbs (L.drop (mbN L)) := by
  have h3 := mbN_pos L
  have h4 := List.length_pos_iff.2 hL
  unfold mbs
  rw [mbsF, if_neg hL, if_neg (by simp [h]), mbsF_more L.length ((L.drop (mbN L)).length + 1) _ (by rw [List.length_drop]; omega) (by omega)]
theorem clE_lt : ∀ (n : Nat) (L : Pl), L.length ≤ n → ∀ k, clE L = some k → k < L.length ∧ isP L k 93 = true
  | 0, L, h, k, hk => by
    obtain rfl := List.length_eq_zero_iff.1 (Nat.le_zero.1 h)
    cases hk
  | n + 1, L, h, k, hk => by
    by_cases hL : L = []
    · subst hL; cases hk
    · cases hp : isP L 0 93 with
      | true =>
        rw [clE_yes hp] at hk
        obtain rfl := Option.some.inj hk
        exact ⟨List.length_pos_iff.2 hL, hp⟩
      | false =>
        rw [clE_more hL hp] at hk
        have h3 := mbN_pos L
        have h4 := mbN_le hL
        cases hc : clE (L.drop (mbN L)) with
        | none => rw [hc] at hk; cases hk
        | some j =>
          rw [hc] at hk
          obtain rfl : j + mbN L = k := Option.some.inj hk
          obtain ⟨h1, h2⟩ := clE_lt n (L.drop (mbN L)) (by rw [List.length_drop]; omega) j hc
          rw [List.length_drop] at h1
          rw [isP_drop] at h2
          exact ⟨by omega, by rw [Nat.add_comm]; exact h2⟩

/-- A set behind its [: whether it is turned, its members, how many bytes it has. -/
def bang (L : Pl) : Nat := if isP L 0 33 = true then 1 else 0
def setP (L : Pl) : Option (Bool × List Mb × Nat) :=
  if L.drop (bang L) = [] then none else
  match clE ((L.drop (bang L)).drop (mbN (L.drop (bang L)))) with
  | none => none
  | some k => some (isP L 0 33, mbF (L.drop (bang L)) :: mbs ((L.drop (bang L)).drop (mbN (L.drop (bang L)))), bang L + mbN (L.drop (bang L)) + k + 1)
theorem setP_le {L : Pl} {t : Bool} {l : List Mb} {n : Nat} (h : setP L = some (t, l, n)) : 1 ≤ n ∧ n ≤ L.length := by
  unfold setP at h
  split at h
  · cases h
  · rename_i hL
    split at h
    · cases h
    · rename_i k hk
      have := (clE_lt _ _ (Nat.le_refl _) k hk).1
      have h4 := mbN_le hL
      have h5 : 0 < (L.drop (bang L)).length := List.length_pos_iff.2 hL
      simp only [List.length_drop] at this h4 h5
      cases h
      omega
/-- A want, and how many bytes it has. -/
def wt1 (L : Pl) : Wt × Nat :=
  if isP L 0 63 = true then (.one, 1) else if isP L 0 42 = true then (.many, 1) else
  if isP L 0 91 = true then match setP (L.drop 1) with | some (t, l, n) => (.set t l, n + 1) | none => (.span (byteAt L 0) (byteAt L 0), 1)
  else (.span (byteAt L 0) (byteAt L 0), 1)
theorem wt1_pos (L : Pl) : 1 ≤ (wt1 L).2 := by
  unfold wt1
  split
  · exact Nat.le_refl _
  · split
    · exact Nat.le_refl _
    · split
      · split
        · show 1 ≤ _ + 1; omega
        · exact Nat.le_refl _
      · exact Nat.le_refl _
theorem wt1_le {L : Pl} (hL : L ≠ []) : (wt1 L).2 ≤ L.length := by
  have h0 := List.length_pos_iff.2 hL
  unfold wt1
  split
  · exact h0
  · split
    · exact h0
    · split
      · split
        · rename_i t l n hs
          have := (setP_le hs).2
          rw [List.length_drop] at this
          show n + 1 ≤ _
          omega
        · exact h0
      · exact h0
def rawF : Nat → Pl → List Wt
  | 0, _ => []
  | f + 1, L => if L = [] then [] else (wt1 L).1 :: rawF f (L.drop (wt1 L).2)
def raw (L : Pl) : List Wt := rawF L.length L
theorem rawF_more : ∀ (f g : Nat) (L : Pl), L.length ≤ f → L.length ≤ g → rawF f L = rawF g L
  | 0, 0, _, _, _ => rfl
  | 0, g + 1, L, h, _ => by
    obtain rfl := List.length_eq_zero_iff.1 (Nat.le_zero.1 h)
    rfl
  | f + 1, 0, L, _, h => by
    obtain rfl := List.length_eq_zero_iff.1 (Nat.le_zero.1 h)
    rfl
  | f + 1, g + 1, L, h1, h2 => by
    unfold rawF
    by_cases hL : L = []
    · rw [if_pos hL, if_pos hL]
    · rw [if_neg hL, if_neg hL]
      have h3 := wt1_pos L
      have h4 := List.length_pos_iff.2 hL
      rw [rawF_more f g (L.drop (wt1 L).2) (by rw [List.length_drop]; omega) (by rw [List.length_drop]; omega)]
theorem raw_nil : raw [] = [] := rfl
theorem raw_more {L : Pl} (hL : L ≠ []) : raw L = (wt1 L).1 :: raw (L.drop (wt1 L).2) := by
  have h3 := wt1_pos L
  have h4 := List.length_pos_iff.2 hL
  unfold raw
  rw [rawF_more L.length (L.length + 1) L (Nat.le_refl _) (by omega), rawF, if_neg hL, rawF_more L.length (L.drop (wt1 L).2).length _ (by rw [List.length_drop]; omega) (Nat.le_refl _)]
/-- The row that the landed code makes; what Match answers. -/
def rowP (p q : List UInt8) : List Wt := (raw (plL p q)).foldl pushW []
theorem rowP_alone (p q : List UInt8) : Alone (rowP p q) := alone_fold _ alone_nil
theorem rowP_mat (p q s : List UInt8) : Mat (rowP p q) s ↔ Mat (raw (plL p q)) s := by
  unfold rowP; rw [mat_fold]; rfl
theorem fold_len (l : List Wt) : ∀ r, (l.foldl pushW r).length ≤ r.length + l.length := by
  induction l with
  | nil => intro r; simp
  | cons x l ih =>
    intro r
    rw [List.foldl_cons]
    refine Nat.le_trans (ih _) ?_
    have : (pushW r x).length ≤ r.length + 1 := by unfold pushW; split <;> simp
    simp only [List.length_cons]; omega
theorem rawF_len : ∀ (f : Nat) (L : Pl), (rawF f L).length ≤ f
  | 0, _ => by simp [rawF]
  | f + 1, L => by
    unfold rawF
    split
    · simp
    · simp [rawF_len f]
theorem rowP_len (p q : List UInt8) : (rowP p q).length ≤ p.length := by
  refine Nat.le_trans (fold_len _ _) ?_
  have := rawF_len (plL p q).length (plL p q)
  rw [pl_len] at this
  simp only [List.length_nil, Nat.zero_add]
  unfold raw; rw [pl_len]; exact this
end Go.Proofs.YtclhpedecimicaaGreat
