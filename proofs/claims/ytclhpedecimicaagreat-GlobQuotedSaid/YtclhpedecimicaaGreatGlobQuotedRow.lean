/-
  PROVED: a pattern all of whose bytes are quoted tells nothing; bytes quoted behind its end play no part: any fit tree of few names, any directory, any pattern of few parts (the law GlobQuoted of windlasslaw11, at the landed commit that COMMIT names).
  ITS CONDITIONS: those of the given row alone: each argument can be read; the form's own reach.
-/
import Derived.Test.YtclhpedecimicaaGreatTOpen
import Derived.Test.YtclhpedecimicaaGreatGQuot
import Derived.Test.YtclhpedecimicaaGreatRows
import Derived.ProofKit
import Derived.HandedShaped
import Derived.Carry
import Derived.ChangeOld
namespace Go.Proofs.YtclhpedecimicaaGreat
open Go.ChangeShapes Go.WideShapes Go.ChangeAt Go.RowKit
open Go.ChangeMaps (open_string shut_string)
open Go

theorem globQuoted_own : ownKnob Tryz.prog.godebug = none := by kernel_rfl
theorem globQuoted_laid : laidOutB Tryz.prog = true := by kernel_rfl

set_option maxRecDepth 100000 in
theorem globQuoted_lifted (os : Os) (started : os.Started) (H : Type) (enc : TypeId × Value → H) :
    ReturnsInHanded {} Tryz.checked os 5 .any (Rows.globQuotedSpec.pre6 enc Tryz.prog Tryz.f5 Rows.globQuotedRow.domain false) (Rows.globQuotedSpec.post enc Tryz.prog Tryz.f5 false true false false) := by
  refine returnsInHanded_of_change_shaped (C := Tryz.checked) globQuoted_own started (by kernel_rfl) Tryz.func5
    (ChangeSpec.witness6 (enc := enc) (C := Tryz.checked) false ⟨#[], #[.agg #[.slice none 0 0, .int .i64 0, .int .i64 0], .int .i64 0, .string ⟨#[]⟩], []⟩ 8 (by kernel_rfl) (by kernel_rfl) (by kernel_rfl) (by kernel_rfl)) ?_
  intro W base args ds gs before hval0 hW _ hsz0 _ _
  have hsz : (DataW.weightsEach Tryz.prog (Tryz.f5.params.toList ++ Rows.globQuotedSpec.plain.varTypes Tryz.prog) (ds ++ gs)).all (· ≤ reachBytes) = true := hsz0
  clear hsz0
  have hval : ∀ (j : Nat) t v, Tryz.f5.params[j]? = some t → args[j]? = some v → Value.okWide Tryz.prog W .any base t v := hval0
  have hW' := hW
  obtain ⟨p, q, hA0, hV, rfl, _, _⟩ := hW
  have hA : DataW.TrodAll enc Tryz.prog W 0 (fun _ => true) true Tryz.f5.params.toList args.toList ds p := hA0
  rw [Tryz.params5] at hA hval hsz
  obtain ⟨v0, v1, v2, d0, d1, d2, p0, p1, p2, rfl, rfl, rfl, h0, h1, h2⟩ := trodAll_three hA
  obtain ⟨rfl, rfl⟩ := trodVars_none hV
  have hw0 : ∀ z ∈ d0.weights Tryz.prog 24, z ≤ reachBytes := fun z hz => by
    have h1 := List.all_eq_true.1 hsz z (DataW.weights_mem_each (j := 0) rfl rfl z hz)
    simpa using h1
  have hlt0 : ∀ x ∈ p0, x.block < W.heap.size := fun x hx => by
    obtain ⟨n0, hf⟩ := h0
    exact DataW.trod_lt n0 _ _ _ hf x hx
  obtain ⟨Lt, at_, cap_t, m_t, b_t, rfl, Nt, Rt⟩ := open_tree (hval 0 24 v0 rfl rfl) h0 reachBytes (by decide) hw0
  obtain ⟨n, rfl, rfl, rfl, wn⟩ := open_int Tryz.underlying3 (hval 1 3 v1 rfl rfl) h1
  obtain ⟨s, rfl, rfl, rfl, ws⟩ := open_string Tryz.underlying9 (hval 2 9 v2 rfl rfl) h2
  have ls : s.size ≤ 281474976710656 := by
    have h1 := sized_string hsz (j := 2) (t := 9) rfl rfl
    have h2 := reachBytes_lt
    have e1 : s.size = s.data.size := rfl
    have e2 : s.data.toList.length = s.data.size := Array.length_toList
    have e3 : (2 : Nat) ^ 47 = 140737488355328 := by decide
    omega
  clear hA0 hval0
  simp only [List.append_nil] at hW'
  refine (gquot_walk at_ cap_t m_t b_t n s ls Lt Rt.texts Rt.nodes Rt.kids W Nt).mono fun e W' ⟨he, hnx⟩ => ?_
  subst he
  refine ⟨_, rfl, _, _, _, [], (p0 ++ ([] ++ [])), [], hW', ?_, ?_, rfl, hnx.frame _, fun h => by cases h⟩
  · exact trodAll_mk1 (shut_bool Tryz.underlying4 true)
  · exact trodAll_mk3 (Below.trod globQuoted_laid (by kernel_rfl) (of_decide_eq_true (by kernel_rfl)) h0 hnx hlt0) (shut_int Tryz.underlying3 wn) (shut_string Tryz.underlying9 ws)

theorem globQuoted_holds : Rows.GlobQuotedSaid :=
  OpenClaim.holds_of_wide 5 Tryz.f5 rfl rfl rfl rfl rfl rfl rfl ⟨rfl, rfl, rfl, rfl, rfl⟩ rfl rfl rfl rfl rfl (by kernel_rfl) Tryz.func5 (by kernel_rfl)
    (of_decide_eq_true (by kernel_rfl)) (by unfold Func.isWrapper; first | (rw [if_pos (by decide +kernel)]; kernel_rfl) | (rw [if_neg (by decide +kernel)]; exact ⟨rfl, rfl⟩))
    (fun os started H enc _ => globQuoted_lifted os started H enc)
#print axioms globQuoted_holds
end Go.Proofs.YtclhpedecimicaaGreat
