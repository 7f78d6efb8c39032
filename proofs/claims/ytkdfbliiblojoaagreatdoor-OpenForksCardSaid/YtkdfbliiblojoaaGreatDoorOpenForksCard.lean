/-
  PROVED: the same descriptors once more, and all of these closed, leave all as it was; behind all are closed a pipe that only they wrote tells its end, without the document's answers: any fit kernel and descriptors, any descriptor (the law OpenForks of windlasslaw09, at the landed commit that COMMIT names).
  ITS CONDITIONS: those of the given row alone: the table of ways that it lists stands as the program's text lays it (the card ties it to that text); each argument can be read; the form's own reach.
-/
import Derived.Test.YtkdfbliiblojoaaGreatDoorK48
import Derived.Test.YtkdfbliiblojoaaGreatDoorK49
import Derived.Test.YtkdfbliiblojoaaGreatDoorCards
import Derived.SevenTiedAt
namespace Go.Proofs.YtkdfbliiblojoaaGreatDoor
open Go.ChangeShapes Go.WideShapes Go.ChangeAt Go.RowKit
open Go.ChangeMaps (open_string shut_string)
open Go

theorem openForks_laid : laidOutB Tryz.prog = true := by kernel_rfl

set_option maxRecDepth 100000 in
theorem openForks_lifted (os : Os) (started : os.Started) (H : Type) (enc : TypeId × Value → H) :
    ReturnsInHanded {} Tryz.checked os 7 .any (fun w args => (Rows.openForksSpec.pre enc Tryz.prog Tryz.f7 [] false w args ∧ laidMetH Tryz.prog Al9 w) ∧ sizedMet enc Tryz.prog Tryz.f7 (OpenSpec.ofChange Rows.openForksSpec) false w args)
      (Rows.openForksSpec.post enc Tryz.prog Tryz.f7 false true false false) := by
  refine returnsInHanded_of_change_and (C := Tryz.checked) (X := fun w _ => laidMetH Tryz.prog Al9 w) (fun _ _ _ hh h => h.of_heap hh) own9 started (by kernel_rfl) Tryz.func7
    (ChangeSpec.witness_shaped (enc := enc) (C := Tryz.checked) (os := os) (X := fun w _ => laidMetH Tryz.prog Al9 w) false (World.doorLaid Tryz.prog 400 os) #[.agg #[.slice none 0 0, .int .i64 0, .int .i64 0, .slice none 0 0, .slice none 0 0, .string ⟨#[]⟩, .string ⟨#[]⟩], .agg #[.int .i64 0, .int .i64 0, .int .i64 0, .int .i64 0, .int .i64 0, .int .i64 0, .int .i64 0, .int .i64 0, .int .i64 0, .int .i64 0], .int .i64 0] 8 rfl (World.shaped_of_RefB (by kernel_rfl) (by kernel_rfl)) (by kernel_rfl) (by kernel_rfl) (by kernel_rfl) (Ar0 os _)) ?_
  intro W base args ds gs before hval0 hW _ hsz0 hL _
  have hsz : (DataW.weightsEach Tryz.prog (Tryz.f7.params.toList ++ Rows.openForksSpec.plain.varTypes Tryz.prog) (ds ++ gs)).all (· ≤ reachBytes) = true := hsz0
  clear hsz0
  have hval : ∀ (j : Nat) t v, Tryz.f7.params[j]? = some t → args[j]? = some v → Value.okWide Tryz.prog W .any base t v := hval0
  have hW' := hW
  obtain ⟨p, q, hA0, hV, rfl, _, _⟩ := hW
  have hA : DataW.TrodAll enc Tryz.prog W 0 (fun _ => true) true Tryz.f7.params.toList args.toList ds p := hA0
  rw [Tryz.params7] at hA hval hsz
  obtain ⟨v0, v1, v2, d0, d1, d2, p0, p1, p2, rfl, rfl, rfl, h0, h1, h2⟩ := trodAll_three hA
  obtain ⟨rfl, rfl⟩ := trodVars_none hV
  have hlt0 : ∀ x ∈ p0, x.block < W.heap.size := fun x hx => by
    obtain ⟨n0, hf⟩ := h0
    exact DataW.trod_lt n0 _ _ _ hf x hx
  have hw0 : ∀ z ∈ d0.weights Tryz.prog 29, z ≤ reachBytes := fun z hz => by
    have h1 := List.all_eq_true.1 hsz z (DataW.weights_mem_each (j := 0) rfl rfl z hz)
    simpa using h1
  obtain ⟨Kk, Ak, rfl, Nk, Rk⟩ := Auw (hval 0 29 v0 rfl rfl) h0 reachBytes (by decide) hw0
  have hlt1 : ∀ x ∈ p1, x.block < W.heap.size := fun x hx => by
    obtain ⟨n0, hf⟩ := h1
    exact DataW.trod_lt n0 _ _ _ hf x hx
  obtain ⟨Ff, Lf, rfl⟩ := Awf (hval 1 31 v1 rfl rfl) h1
  obtain ⟨n, rfl, rfl, rfl, wn⟩ := open_int Tryz.underlying3 (hval 2 3 v2 rfl rfl) h2
  clear hA0 hval0
  simp only [List.append_nil] at hW'
  refine (Anj Ak Kk Ff n Lf Rk.tree.texts (by have := Rk.tree.nodes; omega) (by have := Rk.pipes; omega) (by have := Rk.opens; omega) W Nk (Av6 hL)).mono fun e W' ⟨he, hnx⟩ => ?_
  subst he
  refine ⟨_, rfl, _, _, _, [], (p0 ++ (p1 ++ [])), [], hW', ?_, ?_, rfl, hnx.frame _, fun h => by cases h⟩
  · exact trodAll_mk1 (shut_bool Tryz.underlying4 true)
  · exact trodAll_mk3 (Below.trod openForks_laid (by kernel_rfl) (of_decide_eq_true (by kernel_rfl)) h0 hnx hlt0) (Below.trod openForks_laid (by kernel_rfl) (of_decide_eq_true (by kernel_rfl)) h1 hnx hlt1) (shut_int Tryz.underlying3 wn)

theorem openForks_row_holds : Rows.OpenForksSaid :=
  OpenClaim.holds_of_wide 7 Tryz.f7 rfl rfl rfl rfl rfl rfl rfl ⟨rfl, rfl, rfl, rfl, rfl⟩ rfl rfl rfl rfl rfl (by kernel_rfl) Tryz.func7 (by kernel_rfl)
    (of_decide_eq_true (by kernel_rfl)) (by unfold Func.isWrapper; first | (rw [if_pos (by decide +kernel)]; kernel_rfl) | (rw [if_neg (by decide +kernel)]; exact ⟨rfl, rfl⟩))
    (fun os started H enc _ => openForks_lifted os started H enc)

theorem openForks_card_holds : Rows.OpenForksCardSaid :=
  Claim7.holds_tied_plain_at .later [] [.data] true Rows.openForksCard.stood.harness false
    openForks_row_holds (fun _ h => by cases h) (by kernel_rfl) (fun _ h => by cases h) openForks_row_tie rfl ⟨rfl, rfl⟩ (by kernel_rfl) rfl
    (fun f fn hf hfn => by
      obtain rfl : f = 7 := Option.some.inj ((show Tryz.prog.funcNamed "windlass/windlasslaw09.OpenForks" = some 7 by kernel_rfl).symm.trans hf) |>.symm
      obtain rfl : fn = Tryz.f7 := (Option.some.inj (Tryz.func7.symm.trans hfn)).symm
      exact ⟨by kernel_rfl, fun j t ht => by
        rw [Tryz.params7] at ht
        have hm : t ∈ [29, 31, 3] := by simpa using Array.mem_of_getElem? ht
        have hall : ([29, 31, 3].all fun u => !Tryz.prog.wantsStandIn u) = true := by kernel_rfl
        exact (show Tryz.prog.wantsStandIn t = false by simpa using List.all_eq_true.1 hall t hm)⟩)
    (by kernel_rfl)
#print axioms openForks_card_holds
end Go.Proofs.YtkdfbliiblojoaaGreatDoor
