/-
  An argument that is a pipe.
-/
import Derived.Test.YtopgmboilimlhaaAOpen
namespace Go.Proofs.Ytopgmboilimlhaa
set_option maxRecDepth 100000
open Go.ChangeShapes Go.WideShapes Go.Deep Go.Joins
open Go Go.RowKit

section
variable {H : Type} {enc : TypeId × Value → H} {w : World} {base : Nat} {held : Bool}
theorem pipe_fields : ∃ f0 f1 f2 f3 : Field, Try.prog.underlying 23 = some (.struct #[f0, f1, f2, f3]) ∧ oneCellFields Try.prog #[f0, f1, f2, f3] = true ∧ f0.type = 9 ∧ f1.type = 3 ∧ f2.type = 3 ∧ f3.type = 3 :=
  ⟨_, _, _, _, Try.underlying23, by kernel_rfl, rfl, rfl, rfl, rfl⟩
theorem four_pipe : Try.prog.cellsOf 23 = 4 := by kernel_rfl
theorem open_pip {r : Go.Reach} {b0 : Nat} {v : Value} {d : DataW H} {p : List MemPlace} (hv : Value.okWide Try.prog w r b0 23 v) (h : DataW.Trod enc Try.prog w base (fun _ => true) held 23 v d p)
    (R : Nat) (hR : ∀ z ∈ d.weights Try.prog 23, z ≤ R) :
    ∃ (s : ByteArray) (q1 q2 q3 : Int), v = .agg #[.string s, .int .i64 q1, .int .i64 q2, .int .i64 q3] ∧ s.size ≤ R ∧ (Lit.int .i64 q1).wf = true ∧ (Lit.int .i64 q2).wf = true ∧ (Lit.int .i64 q3).wf = true := by
  obtain ⟨f0, f1, f2, f3, hu, hone, t0, t1, t2, t3⟩ := pipe_fields
  obtain ⟨v0, v1, v2, v3, y0, y1, y2, y3, n, rfl, rfl, rfl, g0, g1, g2, g3⟩ := open_agg4 hu hone four_pipe hv h
  rw [t0] at g0
  rw [t1] at g1
  rw [t2] at g2
  rw [t3] at g3
  obtain ⟨s, e0, rfl, hs⟩ := DataW.trod_string Try.underlying9 g0
  obtain ⟨q1, e1, rfl, w1⟩ := DataW.trod_int Try.underlying3 g1
  obtain ⟨q2, e2, rfl, w2⟩ := DataW.trod_int Try.underlying3 g2
  obtain ⟨q3, e3, rfl, w3⟩ := DataW.trod_int Try.underlying3 g3
  simp only [List.cons.injEq, and_true] at e0 e1 e2 e3
  subst e0 e1 e2 e3
  refine ⟨s, q1, q2, q3, rfl, ?_, w1, w2, w3⟩
  have h4 := hR s.data.toList.length (by
    unfold DataW.weights
    rw [hu]
    show _ ∈ DataW.weightsEach Try.prog [f0.type, f1.type, f2.type, f3.type] [_, _, _, _]
    rw [t0]
    simp only [DataW.weightsEach, List.mem_append]
    exact Or.inl (by simp [DataW.weights]))
  rw [Array.length_toList] at h4
  exact h4
end
end Go.Proofs.Ytopgmboilimlhaa
