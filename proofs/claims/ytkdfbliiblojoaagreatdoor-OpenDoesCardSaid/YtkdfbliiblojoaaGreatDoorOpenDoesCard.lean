/-
  PROVED: a kernel in which a file is opened answers as the reference does, in the kernel, the descriptors and the answer, and stays fit: any fit kernel and descriptors, any numbers, any path (the law OpenDoes of windlasslaw09, at the landed commit that COMMIT names).
  ITS CONDITIONS: those of the given row alone: the table of ways that it lists stands as the program's text lays it (the card ties it to that text); each argument can be read; the form's own reach.
-/
import Derived.Test.YtkdfbliiblojoaaGreatDoorK50
import Derived.Test.YtkdfbliiblojoaaGreatDoorK46
import Derived.Test.YtkdfbliiblojoaaGreatDoorK47
import Derived.Test.YtkdfbliiblojoaaGreatDoorCards
import Derived.SevenTiedAt
namespace Go.Proofs.YtkdfbliiblojoaaGreatDoor
open Go.ChangeShapes Go.WideShapes Go.ChangeAt Go.RowKit
open Go.ChangeMaps (open_string shut_string)
open Go

section
variable {H : Type} {enc : TypeId × Value → H} {P : Program} {w : World} {base : Nat} {spare : Nat → Bool} {held : Bool}
theorem trodAll_mk5 {t t' t2 t3 t4 : TypeId} {v v' v2 v3 v4 : Value} {d d' d2 d3 d4 : DataW H} {p p' p2 p3 p4 : List MemPlace} (h : DataW.Trod enc P w base spare held t v d p) (h' : DataW.Trod enc P w base spare held t' v' d' p')
    (h2 : DataW.Trod enc P w base spare held t2 v2 d2 p2) (h3 : DataW.Trod enc P w base spare held t3 v3 d3 p3) (h4 : DataW.Trod enc P w base spare held t4 v4 d4 p4) : DataW.TrodAll enc P w base spare held [t, t', t2, t3, t4] [v, v', v2, v3, v4] [d, d', d2, d3, d4] (p ++ (p' ++ (p2 ++ (p3 ++ p4)))) := ⟨p, p' ++ (p2 ++ (p3 ++ p4)), h, trodAll_mk4 h' h2 h3 h4, rfl⟩
theorem trodAll_six {t t' t2 t3 t4 t5 : TypeId} {args : Array Value} {ds : List (DataW H)} {ps : List MemPlace} (h : DataW.TrodAll enc P w base spare held [t, t', t2, t3, t4, t5] args.toList ds ps) :
    ∃ v v' v2 v3 v4 v5 d d' d2 d3 d4 d5 p p' p2 p3 p4 p5, args = #[v, v', v2, v3, v4, v5] ∧ ds = [d, d', d2, d3, d4, d5] ∧ ps = p ++ p' ++ p2 ++ p3 ++ p4 ++ p5 ∧ DataW.Trod enc P w base spare held t v d p ∧ DataW.Trod enc P w base spare held t' v' d' p' ∧ DataW.Trod enc P w base spare held t2 v2 d2 p2 ∧ DataW.Trod enc P w base spare held t3 v3 d3 p3 ∧ DataW.Trod enc P w base spare held t4 v4 d4 p4 ∧ DataW.Trod enc P w base spare held t5 v5 d5 p5 := by
  obtain ⟨v, vs, d, ds', p, q, hargs, rfl, rfl, hd, hrest⟩ := trodAll_cons h
  obtain ⟨v', vs', d', ds1, p', q', rfl, rfl, rfl, hd', hrest'⟩ := trodAll_cons hrest
  obtain ⟨v2, vs2, d2, ds2, p2, q2, rfl, rfl, rfl, hd2, hrest2⟩ := trodAll_cons hrest'
  obtain ⟨v3, vs3, d3, ds3, p3, q3, rfl, rfl, rfl, hd3, hrest3⟩ := trodAll_cons hrest2
  obtain ⟨v4, vs4, d4, ds4, p4, q4, rfl, rfl, rfl, hd4, hrest4⟩ := trodAll_cons hrest3
  obtain ⟨v5, vs5, d5, ds5, p5, q5, rfl, rfl, rfl, hd5, hrest5⟩ := trodAll_cons hrest4
  obtain ⟨rfl, rfl, rfl⟩ := trodAll_nil hrest5
  exact ⟨v, v', v2, v3, v4, v5, d, d', d2, d3, d4, d5, p, p', p2, p3, p4, p5, by cases args; simp_all, rfl, by simp, hd, hd', hd2, hd3, hd4, hd5⟩
theorem trodAll_mk6 {t t' t2 t3 t4 t5 : TypeId} {v v' v2 v3 v4 v5 : Value} {d d' d2 d3 d4 d5 : DataW H} {p p' p2 p3 p4 p5 : List MemPlace} (h : DataW.Trod enc P w base spare held t v d p) (h' : DataW.Trod enc P w base spare held t' v' d' p')
    (h2 : DataW.Trod enc P w base spare held t2 v2 d2 p2) (h3 : DataW.Trod enc P w base spare held t3 v3 d3 p3) (h4 : DataW.Trod enc P w base spare held t4 v4 d4 p4) (h5 : DataW.Trod enc P w base spare held t5 v5 d5 p5) : DataW.TrodAll enc P w base spare held [t, t', t2, t3, t4, t5] [v, v', v2, v3, v4, v5] [d, d', d2, d3, d4, d5] (p ++ (p' ++ (p2 ++ (p3 ++ (p4 ++ p5))))) := ⟨p, p' ++ (p2 ++ (p3 ++ (p4 ++ p5))), h, trodAll_mk5 h' h2 h3 h4 h5, rfl⟩
end

theorem openDoes_laid : laidOutB Tryz.prog = true := by kernel_rfl

set_option maxRecDepth 100000 in
theorem openDoes_lifted (os : Os) (started : os.Started) (H : Type) (enc : TypeId × Value → H) :
    ReturnsInHanded {} Tryz.checked os 3 .any (fun w args => (Rows.openDoesSpec.pre enc Tryz.prog Tryz.f3 [] false w args ∧ laidMetH Tryz.prog Amp w) ∧ sizedMet enc Tryz.prog Tryz.f3 (OpenSpec.ofChange Rows.openDoesSpec) false w args)
      (Rows.openDoesSpec.post enc Tryz.prog Tryz.f3 false true false false) := by
  refine returnsInHanded_of_change_and (C := Tryz.checked) (X := fun w _ => laidMetH Tryz.prog Amp w) (fun _ _ _ hh h => h.of_heap hh) own9 started (by kernel_rfl) Tryz.func3
    (ChangeSpec.witness_shaped (enc := enc) (C := Tryz.checked) (os := os) (X := fun w _ => laidMetH Tryz.prog Amp w) false (World.doorLaid Tryz.prog 400 os) #[.agg #[.slice none 0 0, .int .i64 0, .int .i64 0, .slice none 0 0, .slice none 0 0, .string ⟨#[]⟩, .string ⟨#[]⟩], .agg #[.int .i64 0, .int .i64 0, .int .i64 0, .int .i64 0, .int .i64 0, .int .i64 0, .int .i64 0, .int .i64 0, .int .i64 0, .int .i64 0], .int .i64 0, .int .i64 0, .string ⟨#[]⟩, .int .i64 0] 8 rfl (World.shaped_of_RefB (by kernel_rfl) (by kernel_rfl)) (by kernel_rfl) (by kernel_rfl) (by kernel_rfl) (Ass os _)) ?_
  intro W base args ds gs before hval0 hW _ hsz0 hL _
  have hsz : (DataW.weightsEach Tryz.prog (Tryz.f3.params.toList ++ Rows.openDoesSpec.plain.varTypes Tryz.prog) (ds ++ gs)).all (· ≤ reachBytes) = true := hsz0
  clear hsz0
  have hval : ∀ (j : Nat) t v, Tryz.f3.params[j]? = some t → args[j]? = some v → Value.okWide Tryz.prog W .any base t v := hval0
  have hW' := hW
  obtain ⟨p, q, hA0, hV, rfl, _, _⟩ := hW
  have hA : DataW.TrodAll enc Tryz.prog W 0 (fun _ => true) true Tryz.f3.params.toList args.toList ds p := hA0
  rw [Tryz.params3] at hA hval hsz
  obtain ⟨v0, v1, v2, v3, v4, v5, d0, d1, d2, d3, d4, d5, p0, p1, p2, p3, p4, p5, rfl, rfl, rfl, h0, h1, h2, h3, h4, h5⟩ := trodAll_six hA
  obtain ⟨rfl, rfl⟩ := trodVars_none hV
  have hlt0 : ∀ x ∈ p0, x.block < W.heap.size := fun x hx => by
    obtain ⟨n0, hf⟩ := h0
    exact DataW.trod_lt n0 _ _ _ hf x hx
  have hw0 : ∀ z ∈ d0.weights Tryz.prog 29, z ≤ reachBytes := fun z hz => by
    have h1 := List.all_eq_true.1 hsz z (DataW.weights_mem_each (j := 0) rfl rfl z hz)
    simpa using h1
  obtain ⟨Kk, Ak, rfl, Nk, Rk⟩ := Auf (hval 0 29 v0 rfl rfl) h0 reachBytes (by decide) hw0
  have hlt1 : ∀ x ∈ p1, x.block < W.heap.size := fun x hx => by
    obtain ⟨n0, hf⟩ := h1
    exact DataW.trod_lt n0 _ _ _ hf x hx
  obtain ⟨Ff, Lf, rfl⟩ := Axg (hval 1 31 v1 rfl rfl) h1
  obtain ⟨fd, rfl, rfl, rfl, wfd⟩ := open_int Tryz.underlying3 (hval 2 3 v2 rfl rfl) h2
  obtain ⟨cwd, rfl, rfl, rfl, wcwd⟩ := open_int Tryz.underlying3 (hval 3 3 v3 rfl rfl) h3
  obtain ⟨pt, rfl, rfl, rfl, wpt⟩ := open_string Tryz.underlying9 (hval 4 9 v4 rfl rfl) h4
  have lpt : pt.size ≤ 281474976710656 := by
    have h1 := sized_string hsz (j := 4) (t := 9) rfl rfl
    have h2 := reachBytes_lt
    have e1 : pt.size = pt.data.size := rfl
    have e2 : pt.data.toList.length = pt.data.size := Array.length_toList
    have e3 : (2 : Nat) ^ 47 = 140737488355328 := by decide
    omega
  obtain ⟨how, rfl, rfl, rfl, whow⟩ := open_int Tryz.underlying3 (hval 5 3 v5 rfl rfl) h5
  clear hA0 hval0
  simp only [List.append_nil] at hW'
  refine (Arg Ak Kk Ff fd cwd pt how Lf Rk.tree.texts (by have := Rk.tree.nodes; omega) (by have := Rk.pipes; omega) (by have := Rk.opens; omega) W Nk (Axc hL)).mono fun e W' ⟨he, hnx⟩ => ?_
  subst he
  refine ⟨_, rfl, _, _, _, [], (p0 ++ (p1 ++ ([] ++ ([] ++ ([] ++ []))))), [], hW', ?_, ?_, rfl, hnx.frame _, fun h => by cases h⟩
  · exact trodAll_mk1 (shut_bool Tryz.underlying4 true)
  · exact trodAll_mk6 (Below.trod openDoes_laid (by kernel_rfl) (of_decide_eq_true (by kernel_rfl)) h0 hnx hlt0) (Below.trod openDoes_laid (by kernel_rfl) (of_decide_eq_true (by kernel_rfl)) h1 hnx hlt1) (shut_int Tryz.underlying3 wfd) (shut_int Tryz.underlying3 wcwd) (shut_string Tryz.underlying9 wpt) (shut_int Tryz.underlying3 whow)

theorem openDoes_row_holds : Rows.OpenDoesSaid :=
  OpenClaim.holds_of_wide 3 Tryz.f3 rfl rfl rfl rfl rfl rfl rfl ⟨rfl, rfl, rfl, rfl, rfl⟩ rfl rfl rfl rfl rfl (by kernel_rfl) Tryz.func3 (by kernel_rfl)
    (of_decide_eq_true (by kernel_rfl)) (by unfold Func.isWrapper; first | (rw [if_pos (by decide +kernel)]; kernel_rfl) | (rw [if_neg (by decide +kernel)]; exact ⟨rfl, rfl⟩))
    (fun os started H enc _ => openDoes_lifted os started H enc)

theorem openDoes_card_holds : Rows.OpenDoesCardSaid :=
  Claim7.holds_tied_plain_at .later [] [.data] true Rows.openDoesCard.stood.harness false
    openDoes_row_holds (fun _ h => by cases h) (by kernel_rfl) (fun _ h => by cases h) openDoes_row_tie rfl ⟨rfl, rfl⟩ (by kernel_rfl) rfl
    (fun f fn hf hfn => by
      obtain rfl : f = 3 := Option.some.inj ((show Tryz.prog.funcNamed "windlass/windlasslaw09.OpenDoes" = some 3 by kernel_rfl).symm.trans hf) |>.symm
      obtain rfl : fn = Tryz.f3 := (Option.some.inj (Tryz.func3.symm.trans hfn)).symm
      exact ⟨by kernel_rfl, fun j t ht => by
        rw [Tryz.params3] at ht
        have hm : t ∈ [29, 31, 3, 9, 3] := by simpa using Array.mem_of_getElem? ht
        have hall : ([29, 31, 3, 9, 3].all fun u => !Tryz.prog.wantsStandIn u) = true := by kernel_rfl
        exact (show Tryz.prog.wantsStandIn t = false by simpa using List.all_eq_true.1 hall t hm)⟩)
    (by kernel_rfl)
#print axioms openDoes_card_holds
end Go.Proofs.YtkdfbliiblojoaaGreatDoor
