/-
  PROVED: what is written into a file, piece by piece, is read out of it, piece by piece, and stands in it, without the document's answers: any fit tree, any path, any texts (the law OpenFile of windlasslaw09, at the landed commit that COMMIT names).
  ITS CONDITIONS: those of the given row alone: the table of ways that it lists stands as the program's text lays it (the card ties it to that text); each argument can be read; the form's own reach.
-/
import Derived.Test.YtkdfbliiblojoaaGreatDoorM2
import Derived.Test.YtkdfbliiblojoaaGreatDoorK49
import Derived.Test.YtkdfbliiblojoaaGreatDoorCards
import Derived.SevenTiedAt
import Derived.Test.YtkdfbliiblojoaaGreatDoorM1
namespace Go.Proofs.YtkdfbliiblojoaaGreatDoor
open Go.ChangeShapes Go.WideShapes Go.ChangeAt Go.RowKit
open Go.ChangeMaps (open_string shut_string)
open Go

theorem openFile_laid : laidOutB Tryz.prog = true := by kernel_rfl

set_option maxRecDepth 100000 in
theorem openFile_lifted (os : Os) (started : os.Started) (H : Type) (enc : TypeId × Value → H) :
    ReturnsInHanded {} Tryz.checked os 6 .any (fun w args => (Rows.openFileSpec.pre enc Tryz.prog Tryz.f6 [] false w args ∧ laidMetH Tryz.prog Al9 w) ∧ sizedMet enc Tryz.prog Tryz.f6 (OpenSpec.ofChange Rows.openFileSpec) false w args)
      (Rows.openFileSpec.post enc Tryz.prog Tryz.f6 false true false false) := by
  refine returnsInHanded_of_change_and (C := Tryz.checked) (X := fun w _ => laidMetH Tryz.prog Al9 w) (fun _ _ _ hh h => h.of_heap hh) own9 started (by kernel_rfl) Tryz.func6
    (ChangeSpec.witness_shaped (enc := enc) (C := Tryz.checked) (os := os) (X := fun w _ => laidMetH Tryz.prog Al9 w) false (World.doorLaid Tryz.prog 400 os) #[.agg #[.slice none 0 0, .int .i64 0, .int .i64 0], .string ⟨#[]⟩, .slice none 0 0] 8 rfl (World.shaped_of_RefB (by kernel_rfl) (by kernel_rfl)) (by kernel_rfl) (by kernel_rfl) (by kernel_rfl) (Ar0 os _)) ?_
  intro W base args ds gs before hval0 hW _ hsz0 hL _
  have hsz : (DataW.weightsEach Tryz.prog (Tryz.f6.params.toList ++ Rows.openFileSpec.plain.varTypes Tryz.prog) (ds ++ gs)).all (· ≤ reachBytes) = true := hsz0
  clear hsz0
  have hval : ∀ (j : Nat) t v, Tryz.f6.params[j]? = some t → args[j]? = some v → Value.okWide Tryz.prog W .any base t v := hval0
  have hW' := hW
  obtain ⟨p, q, hA0, hV, rfl, _, _⟩ := hW
  have hA : DataW.TrodAll enc Tryz.prog W 0 (fun _ => true) true Tryz.f6.params.toList args.toList ds p := hA0
  rw [Tryz.params6] at hA hval hsz
  obtain ⟨v0, v1, v2, d0, d1, d2, p0, p1, p2, rfl, rfl, rfl, h0, h1, h2⟩ := trodAll_three hA
  obtain ⟨rfl, rfl⟩ := trodVars_none hV
  have hlt0 : ∀ x ∈ p0, x.block < W.heap.size := fun x hx => by
    obtain ⟨n0, hf⟩ := h0
    exact DataW.trod_lt n0 _ _ _ hf x hx
  have hw0 : ∀ z ∈ d0.weights Tryz.prog 24, z ≤ reachBytes := fun z hz => by
    have h1 := List.all_eq_true.1 hsz z (DataW.weights_mem_each (j := 0) rfl rfl z hz)
    simpa using h1
  obtain ⟨Lt, at_, cap_t, m_t, b_t, rfl, Nt, Rt⟩ := open_tree (hval 0 24 v0 rfl rfl) h0 reachBytes (by decide) hw0
  obtain ⟨p, rfl, rfl, rfl, wp⟩ := open_string Tryz.underlying9 (hval 1 9 v1 rfl rfl) h1
  have lp : p.size ≤ 281474976710656 := by
    have h1 := sized_string hsz (j := 1) (t := 9) rfl rfl
    have h2 := reachBytes_lt
    have e1 : p.size = p.data.size := rfl
    have e2 : p.data.toList.length = p.data.size := Array.length_toList
    have e3 : (2 : Nat) ^ 47 = 140737488355328 := by decide
    omega
  have hlt2 : ∀ x ∈ p2, x.block < W.heap.size := fun x hx => by
    obtain ⟨n0, hf⟩ := h2
    exact DataW.trod_lt n0 _ _ _ hf x hx
  have hw2 : ∀ z ∈ d2.weights Tryz.prog 61, z ≤ reachBytes := fun z hz => by
    have h1 := List.all_eq_true.1 hsz z (DataW.weights_mem_each (j := 2) rfl rfl z hz)
    simpa using h1
  obtain ⟨Xl, Tl, Bl⟩ := open_texts (hval 2 61 v2 rfl rfl) h2 reachBytes hw2
  clear hA0 hval0
  simp only [List.append_nil] at hW'
  refine (ofile_walk at_ cap_t m_t b_t Lt Rt p lp v2 Xl (fun s hs => Nat.le_trans (Bl s hs) (by decide)) W Nt Tl (Av6 hL)).mono fun e W' ⟨he, hnx⟩ => ?_
  subst he
  refine ⟨_, rfl, _, _, _, [], (p0 ++ ([] ++ p2)), [], hW', ?_, ?_, rfl, hnx.frame _, fun h => by cases h⟩
  · exact trodAll_mk1 (shut_bool Tryz.underlying4 true)
  · exact trodAll_mk3 (Below.trod openFile_laid (by kernel_rfl) (of_decide_eq_true (by kernel_rfl)) h0 hnx hlt0) (shut_string Tryz.underlying9 wp) (Below.trod openFile_laid (by kernel_rfl) (of_decide_eq_true (by kernel_rfl)) h2 hnx hlt2)

theorem openFile_row_holds : Rows.OpenFileSaid :=
  OpenClaim.holds_of_wide 6 Tryz.f6 rfl rfl rfl rfl rfl rfl rfl ⟨rfl, rfl, rfl, rfl, rfl⟩ rfl rfl rfl rfl rfl (by kernel_rfl) Tryz.func6 (by kernel_rfl)
    (of_decide_eq_true (by kernel_rfl)) (by unfold Func.isWrapper; first | (rw [if_pos (by decide +kernel)]; kernel_rfl) | (rw [if_neg (by decide +kernel)]; exact ⟨rfl, rfl⟩))
    (fun os started H enc _ => openFile_lifted os started H enc)

theorem openFile_card_holds : Rows.OpenFileCardSaid :=
  Claim7.holds_tied_plain_at .later [] [.data] true Rows.openFileCard.stood.harness false
    openFile_row_holds (fun _ h => by cases h) (by kernel_rfl) (fun _ h => by cases h) openFile_row_tie rfl ⟨rfl, rfl⟩ (by kernel_rfl) rfl
    (fun f fn hf hfn => by
      obtain rfl : f = 6 := Option.some.inj ((show Tryz.prog.funcNamed "windlass/windlasslaw09.OpenFile" = some 6 by kernel_rfl).symm.trans hf) |>.symm
      obtain rfl : fn = Tryz.f6 := (Option.some.inj (Tryz.func6.symm.trans hfn)).symm
      exact ⟨by kernel_rfl, fun j t ht => by
        rw [Tryz.params6] at ht
        have hm : t ∈ [24, 9, 61] := by simpa using Array.mem_of_getElem? ht
        have hall : ([24, 9, 61].all fun u => !Tryz.prog.wantsStandIn u) = true := by kernel_rfl
        exact (show Tryz.prog.wantsStandIn t = false by simpa using List.all_eq_true.1 hall t hm)⟩)
    (by kernel_rfl)
#print axioms openFile_card_holds
end Go.Proofs.YtkdfbliiblojoaaGreatDoor
