/-
  The reference's rows of wants.
-/
import Derived.Test.YtfldhggmgepcjaaERset
import Derived.Deep.AppendLies
namespace Go.Proofs.Ytfldhggmgepcjaa
set_option maxRecDepth 100000
open Go Go.RowKit

def Wt.st (x : Wt) : UInt8 → Bool := if x.rep = true then fun _ => false else x.tk
def wantC (b : Bool) (f : UInt8 → Bool) : List Value := .bool b :: setC f
def wC (x : Wt) : List Value := wantC x.rep x.st
theorem wantC_len (b : Bool) (f : UInt8 → Bool) : (wantC b f).length = 257 := by simp [wantC, setC_len]
theorem wantC_one (b : Bool) (f : UInt8 → Bool) : ∀ v ∈ wantC b f, v.oneCell' = true := by
  intro v hv
  rcases List.mem_cons.1 hv with rfl | hv
  · rfl
  · obtain ⟨j, -, rfl⟩ := List.mem_map.1 hv
    rfl
theorem wantC_get (b : Bool) (f : UInt8 → Bool) (c : UInt8) : (wantC b f)[1 + c.toNat]? = some (.bool (f c)) := by
  unfold wantC
  rw [Nat.add_comm, List.getElem?_cons_succ]; exact setC_get f c
theorem wantC_at (b : Bool) (f : UInt8 → Bool) (j : Nat) (hj : j < 256) : (wantC b f)[1 + j]? = some (.bool (f (UInt8.ofNat j))) := by
  unfold wantC
  rw [Nat.add_comm, List.getElem?_cons_succ]; exact setC_at f j hj
theorem wantC_set (b : Bool) (f : UInt8 → Bool) (j : Nat) (hj : j < 256) (v : Bool) : (wantC b f).set (1 + j) (.bool v) = wantC b (fun d => if d = UInt8.ofNat j then v else f d) := by
  unfold wantC
  rw [Nat.add_comm, List.set_cons_succ, setC_set f j hj]
theorem wantC_congr {b : Bool} {f g : UInt8 → Bool} (h : ∀ c, f c = g c) : wantC b f = wantC b g := by
  have : f = g := funext h
  rw [this]
def zeroWt : Array Value := (List.replicate 257 (.bool false)).toArray
theorem zeroWt_eq : zeroWt = (wantC false (fun _ => false)).toArray := by
  unfold zeroWt wantC
  rw [← noneC_eq]; rfl
theorem alloc_want (W : World) : (Instr.alloc 58 true (.tuple #[])).run Try.prog W = .ok (.pointer (some ⟨W.heap.size, 0, none⟩)) (W.alloc (.cells zeroWt 58)) := by kernel_rfl
theorem wpList_alloc_want {ops : Array Oper} {rest : List Oper} {o : Oper} {a : Act} {w : World} {Q : Exit → Act → World → Prop} (hg : o.guard = none) (ho : o.op = .alloc 58)
    (h : wpList Try.prog ops Q rest (a.put o.dst (.pointer (some ⟨w.heap.size, 0, none⟩))) (w.alloc (.cells zeroWt 58))) : wpList Try.prog ops Q (o :: rest) a w := by
  refine wpList_plain hg fun K hK => ?_
  unfold Oper.wp execOp
  simp only [ho, alloc_want, Sem.run_bind, Sem.run_pure, Result.andThen_ok]
  exact hK _ _ h
theorem built_want : Try.prog.built 58 [] = some zeroWt := by kernel_rfl
theorem built_set : Try.prog.built 56 [] = some zeroS := by kernel_rfl
theorem wpList_build_want {ops : Array Oper} {rest : List Oper} {o : Oper} {act : Act} {w : World} {Q : Exit → Act → World → Prop} (hg : o.guard = none) (ho : o.op = .build 58 #[])
    (h : wpList Try.prog ops Q rest (act.put o.dst (.agg zeroWt)) w) : wpList Try.prog ops Q (o :: rest) act w := by
  have e : Try.prog.built 58 ((#[] : Array (Nat × Operand)).map fun (i, x) => (i, act.eval x)).toList = some zeroWt := by simpa using built_want
  refine wpList_build hg 58 _ ho (by rw [e]; rfl) ?_
  rw [e]
  exact h
theorem wpList_build_set {ops : Array Oper} {rest : List Oper} {o : Oper} {act : Act} {w : World} {Q : Exit → Act → World → Prop} (hg : o.guard = none) (ho : o.op = .build 56 #[])
    (h : wpList Try.prog ops Q rest (act.put o.dst (.agg zeroS)) w) : wpList Try.prog ops Q (o :: rest) act w := by
  have e : Try.prog.built 56 ((#[] : Array (Nat × Operand)).map fun (i, x) => (i, act.eval x)).toList = some zeroS := by simpa using built_set
  refine wpList_build hg 56 _ ho (by rw [e]; rfl) ?_
  rw [e]
  exact h
theorem build_one (b : Bool) (f : UInt8 → Bool) (W : World) : (Instr.buildSlice 34 1 #[(0, .agg (wantC b f).toArray)]).run Try.prog W = .ok (.slice (some ⟨W.heap.size, 0, none⟩) 1 1) (W.alloc (.cells (wantC b f).toArray 58)) := by kernel_rfl
theorem wpList_build_one {ops : Array Oper} {rest : List Oper} {o : Oper} {act : Act} {w : World} {Q : Exit → Act → World → Prop} (hg : o.guard = none) (x : Operand) (ho : o.op = .buildSlice 34 1 #[(0, x)]) (b : Bool) (f : UInt8 → Bool) (hx : act.eval x = .agg (wantC b f).toArray)
    (h : wpList Try.prog ops Q rest (act.put o.dst (.slice (some ⟨w.heap.size, 0, none⟩) 1 1)) (w.alloc (.cells (wantC b f).toArray 58))) : wpList Try.prog ops Q (o :: rest) act w := by
  refine wpList_plain hg fun K hK => ?_
  unfold Oper.wp execOp
  simp only [ho, List.map_toArray, List.map_cons, List.map_nil, hx, build_one, Sem.run_bind, Sem.run_pure, Result.andThen_ok]
  exact hK _ _ h
theorem want_parts : (Try.prog.info? 58).map (fun i => (i.zero, i.size, i.bytes)) = some (some (.agg zeroWt), 257, 257) := by kernel_rfl
theorem want_info (c : Nat) (hc : c = 257) : (Try.prog.info? 58).map (·.size) = some c := by
  subst hc
  kernel_rfl

/-- The cells of a row of wants. -/
def flatW (r : List Wt) : List Value := (r.map wC).flatten
theorem flatW_len (r : List Wt) : (flatW r).length = r.length * 257 := by
  induction r with
  | nil => rfl
  | cons x r ih => simp only [flatW, List.map_cons, List.flatten_cons, List.length_append, List.length_cons] at ih ⊢; rw [ih]; simp only [wC, wantC_len]; omega
theorem flatW_more (r : List Wt) (x : Wt) : flatW (r ++ [x]) = flatW r ++ wC x := by simp [flatW]
theorem flatW_get : ∀ (r : List Wt) (i j : Nat) (x : Wt), r[i]? = some x → j < 257 → (flatW r)[i * 257 + j]? = (wC x)[j]?
  | [], i, j, x, h, _ => by simp at h
  | y :: r, 0, j, x, h, hj => by
    simp at h; subst h
    simp only [flatW, List.map_cons, List.flatten_cons]
    rw [Nat.zero_mul, Nat.zero_add, List.getElem?_append, if_pos (by simp only [wC, wantC_len]; exact hj)]
  | y :: r, i + 1, j, x, h, hj => by
    have h2 : r[i]? = some x := by simpa using h
    have h3 := flatW_get r i j x h2 hj
    simp only [flatW, List.map_cons, List.flatten_cons] at h3 ⊢
    rw [List.getElem?_append, if_neg (by simp only [wC, wantC_len]; omega), ← h3]
    congr 1
    simp only [wC, wantC_len]; omega
/-- Cells set one by one. -/
theorem row_setCells {T : TypeId} {K : Nat} : ∀ (new old pre : List Value) (W : World), old.length = new.length → RowAt W K (pre ++ old) T → RowAt (W.setCells K pre.length new) K (pre ++ new) T
  | [], old, pre, W, hl, h => by
    have : old = [] := List.length_eq_zero_iff.1 (by simpa using hl)
    subst this; exact h
  | v :: new, old, pre, W, hl, h => by
    cases old with
    | nil => simp at hl
    | cons u old =>
      have h2 := h.set pre.length v
      rw [List.set_append_right _ _ (Nat.le_refl _), Nat.sub_self, List.set_cons_zero] at h2
      have h3 := row_setCells new old (pre ++ [v]) _ (by simpa using hl) (by rw [List.append_assoc]; exact h2)
      rw [List.length_append, List.append_assoc] at h3
      exact h3
theorem below_setCells {B K : Nat} {w : World} (hK : B ≤ K) : ∀ (new : List Value) (o : Nat) (W : World), Below B w W → Below B w (W.setCells K o new)
  | [], _, _, h => h
  | _ :: new, o, _, h => below_setCells hK new (o + 1) _ (h.setCell hK _)
theorem size_setCells {K : Nat} : ∀ (new : List Value) (o : Nat) (W : World), (W.setCells K o new).heap.size = W.heap.size
  | [], _, _ => rfl
  | v :: new, o, W => by rw [World.setCells, size_setCells new (o + 1), set_size]
theorem other_setCells {K k : Nat} (hk : k ≠ K) : ∀ (new : List Value) (o : Nat) (W : World), (W.setCells K o new).heap[k]? = W.heap[k]?
  | [], _, _ => rfl
  | v :: new, o, W => by rw [World.setCells, other_setCells hk new (o + 1)]; exact Below.heap_setCell _ _ _ _ hk
end Go.Proofs.Ytfldhggmgepcjaa
