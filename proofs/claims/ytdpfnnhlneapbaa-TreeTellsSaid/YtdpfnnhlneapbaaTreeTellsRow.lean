/-
  PROVED: new trees, which trees can be, and which are the same, is the document's: any trees, any numbers (the law TreeTells of windlasslaw03, at the landed commit that COMMIT names).
  ITS CONDITIONS: those of the given row alone: each argument can be read; the form's own reach.
-/
import Derived.Test.YtdpfnnhlneapbaaTOpen
import Derived.Test.YtdpfnnhlneapbaaTTellsLaw
import Derived.Test.YtdpfnnhlneapbaaRows
import Derived.ProofKit
import Derived.HandedShaped
import Derived.Carry
import Derived.ChangeOld
namespace Go.Proofs.Ytdpfnnhlneapbaa
open Go.ChangeShapes Go.WideShapes Go.ChangeAt Go.RowKit
open Go.ChangeMaps (open_string shut_string)
open Go

theorem treeTells_own : ownKnob Try.prog.godebug = none := by kernel_rfl
theorem treeTells_laid : laidOutB Try.prog = true := by kernel_rfl

set_option maxRecDepth 100000 in
theorem treeTells_lifted (os : Os) (started : os.Started) (H : Type) (enc : TypeId × Value → H) :
    ReturnsInHanded {} Try.checked os 3 .any (Rows.treeTellsSpec.pre6 enc Try.prog Try.f3 Rows.treeTellsRow.domain false) (Rows.treeTellsSpec.post enc Try.prog Try.f3 false true false false) := by
  refine returnsInHanded_of_change_shaped (C := Try.checked) treeTells_own started (by kernel_rfl) Try.func3
    (ChangeSpec.witness6 (enc := enc) (C := Try.checked) false ⟨#[], #[.agg #[.slice none 0 0, .int .i64 0, .int .i64 0], .agg #[.slice none 0 0, .int .i64 0, .int .i64 0], .int .i64 0, .int .i64 0], []⟩ 8 (by kernel_rfl) (by kernel_rfl) (by kernel_rfl) (by kernel_rfl)) ?_
  intro W base args ds gs before hval0 hW _ hsz0 _ _
  have hsz : (DataW.weightsEach Try.prog (Try.f3.params.toList ++ Rows.treeTellsSpec.plain.varTypes Try.prog) (ds ++ gs)).all (· ≤ reachBytes) = true := hsz0
  clear hsz0
  have hval : ∀ (j : Nat) t v, Try.f3.params[j]? = some t → args[j]? = some v → Value.okWide Try.prog W .any base t v := hval0
  have hW' := hW
  obtain ⟨p, q, hA0, hV, rfl, _, _⟩ := hW
  have hA : DataW.TrodAll enc Try.prog W 0 (fun _ => true) true Try.f3.params.toList args.toList ds p := hA0
  rw [Try.params3] at hA hval hsz
  obtain ⟨v0, v1, v2, v3, d0, d1, d2, d3, p0, p1, p2, p3, rfl, rfl, rfl, h0, h1, h2, h3⟩ := trodAll_four hA
  obtain ⟨rfl, rfl⟩ := trodVars_none hV
  have hw0 : ∀ z ∈ d0.weights Try.prog 24, z ≤ reachBytes := fun z hz => by
    have h1 := List.all_eq_true.1 hsz z (DataW.weights_mem_each (j := 0) rfl rfl z hz)
    simpa using h1
  have hlt0 : ∀ x ∈ p0, x.block < W.heap.size := fun x hx => by
    obtain ⟨n0, hf⟩ := h0
    exact DataW.trod_lt n0 _ _ _ hf x hx
  obtain ⟨Lt, at_, cap_t, m_t, b_t, rfl, Nt, Rt⟩ := open_tree (hval 0 24 v0 rfl rfl) h0 reachBytes (by decide) hw0
  have hw1 : ∀ z ∈ d1.weights Try.prog 24, z ≤ reachBytes := fun z hz => by
    have h1 := List.all_eq_true.1 hsz z (DataW.weights_mem_each (j := 1) rfl rfl z hz)
    simpa using h1
  have hlt1 : ∀ x ∈ p1, x.block < W.heap.size := fun x hx => by
    obtain ⟨n0, hf⟩ := h1
    exact DataW.trod_lt n0 _ _ _ hf x hx
  obtain ⟨Lu, au_, cap_u, m_u, b_u, rfl, Nu, Ru⟩ := open_tree (hval 1 24 v1 rfl rfl) h1 reachBytes (by decide) hw1
  obtain ⟨n, rfl, rfl, rfl, wn⟩ := open_int Try.underlying3 (hval 2 3 v2 rfl rfl) h2
  obtain ⟨c, rfl, rfl, rfl, wc⟩ := open_int Try.underlying3 (hval 3 3 v3 rfl rfl) h3
  clear hA0 hval0
  simp only [List.append_nil] at hW'
  refine (ttells_walk at_ au_ cap_t cap_u m_t b_t m_u b_u n c Lt Lu Rt Ru W Nt Nu).mono fun e W' ⟨he, hnx⟩ => ?_
  subst he
  refine ⟨_, rfl, _, _, _, [], (p0 ++ (p1 ++ ([] ++ []))), [], hW', ?_, ?_, rfl, hnx.frame _, fun h => by cases h⟩
  · exact trodAll_mk1 (shut_bool Try.underlying4 true)
  · exact trodAll_mk4 (Below.trod treeTells_laid (by kernel_rfl) (of_decide_eq_true (by kernel_rfl)) h0 hnx hlt0) (Below.trod treeTells_laid (by kernel_rfl) (of_decide_eq_true (by kernel_rfl)) h1 hnx hlt1) (shut_int Try.underlying3 wn) (shut_int Try.underlying3 wc)

theorem treeTells_holds : Rows.TreeTellsSaid :=
  OpenClaim.holds_of_wide 3 Try.f3 rfl rfl rfl rfl rfl rfl rfl ⟨rfl, rfl, rfl, rfl, rfl⟩ rfl rfl rfl rfl rfl (by kernel_rfl) Try.func3 (by kernel_rfl)
    (of_decide_eq_true (by kernel_rfl)) (by unfold Func.isWrapper; first | (rw [if_pos (by decide +kernel)]; kernel_rfl) | (rw [if_neg (by decide +kernel)]; exact ⟨rfl, rfl⟩))
    (fun os started H enc _ => treeTells_lifted os started H enc)
#print axioms treeTells_holds
end Go.Proofs.Ytdpfnnhlneapbaa
