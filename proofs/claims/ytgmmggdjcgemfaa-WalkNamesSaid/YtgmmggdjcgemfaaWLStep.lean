/-
  walk's step, of the landed code.
-/
import Derived.Deep.QuietTactic
import Derived.BigQuiet
import Derived.Test.YtgmmggdjcgemfaaWLRef
import Derived.Test.YtgmmggdjcgemfaaTLKid
import Derived.Test.YtgmmggdjcgemfaaGrown
namespace Go.Proofs.Ytgmmggdjcgemfaa
open Go Go.RowKit

theorem way_cells {n₀ g : Nat} {T : Value × Value × Value} {W : World} {p : Int} {st : List (List UInt8)} {links : Int} (h : WayAt n₀ g T W p st links) :
    W.cell? ⟨g, 0, none⟩ = some T.1 ∧ W.cell? ⟨g, 1, none⟩ = some T.2.1 ∧ W.cell? ⟨g, 2, none⟩ = some T.2.2 ∧ W.cell? ⟨g, 3, none⟩ = some (.int .i64 p) ∧ (∃ v, W.cell? ⟨g, 4, none⟩ = some v ∧ Held n₀ W v st) ∧ W.cell? ⟨g, 5, none⟩ = some (.int .i64 links) := by
  obtain ⟨_, v, h1, h2⟩ := h
  exact ⟨cell_in h1 rfl, cell_in h1 rfl, cell_in h1 rfl, cell_in h1 rfl, ⟨v, cell_in h1 rfl, h2⟩, cell_in h1 rfl⟩

theorem way_frozen {n₀ g : Nat} {T : Value × Value × Value} {W : World} {p : Int} {st : List (List UInt8)} {links : Int} (h : WayAt n₀ g T W p st links) (i : Nat) : W.frozen? ⟨g, i, none⟩ = false := by
  obtain ⟨_, v, h1, -⟩ := h
  simp only [World.frozen?, h1]
  simp

set_option maxRecDepth 100000 in
set_option maxHeartbeats 8000000 in
theorem lstep_any (n₀ g : Nat) (a : Option Addr) (cap : Nat) (m b p links : Int) (st : List (List UInt8)) (x : List UInt8) (L : List Ino) (hF : FitP L m b) (w : World) (hN : NodesIn w a cap L) (hW : WayAt n₀ g (.slice a L.length cap, .int .i64 m, .int .i64 b) w p st links) :
    Calls Try.prog 44 #[.pointer (some ⟨g, 0, none⟩), .string ⟨x.toArray⟩] w fun e w' => e = .returned (.tuple #[.int .i64 (stepW L p x).1, .int .i64 (stepW L p x).2]) ∧ Below w.heap.size w w' := by
  obtain ⟨c0, c1, c2, c3, -, -⟩ := way_cells hW
  have hg := hW.lt
  have HN := Lib.hid hN
  have HF := Lib.hid hF
  have HI := Lib.hid hF.ins
  have hcap := hN.1
  have hmax := hN.2.1
  unfold maxLen at hmax
  obtain ⟨F, hFe⟩ : ∃ F, F = stepW L p x := ⟨_, rfl⟩
  rw [← hFe]
  have HFE := Lib.hid hFe
  obtain ⟨z, hz⟩ : ∃ z, kindL L p = z := ⟨_, rfl⟩
  have HZ := Lib.hid hz
  have hzd := kind_dir (L := L) (k := p)
  rw [hz] at hzd
  have H1 := Lib.hid (grown_call (wb := w) (fun W hW => kind_known a cap m b p L z HZ.out W (HN.out.below hW)))
  have f0 := grown_cell c0
  have f1 := grown_cell c1
  have f2 := grown_cell c2
  have f3 := grown_cell c3
  try simp only at f0 f1 f2
  clear hN hF hFe hz hW
  cases hd : dirB L p with
  | false =>
    rw [hd] at hzd
    have HV := Lib.hid (show F = (0, 20) by rw [HFE.out]; unfold stepW; rw [hd, if_pos rfl])
    simp only [Bool.not_false] at hzd
    clear hd
    go_enter Try.func44, Try.ntmps44
    go_wp2_with fail
    refine wp_region_grown (by kernel_rfl) (by kernel_rfl) ?_
    repeat (first | go_big_quiet_skip | (go_big_quiet_want; go_big_quiet_op; (first | go_big_quiet_on | (refine ⟨_, H1.out, ?_⟩; go_big_quiet_on))))
    refine wpQuiet_nil ?_
    intro w8 hw8
    have HB8 := Lib.hid (show Below w.heap.size w w8 from by obtain ⟨x, rfl⟩ := hw8; exact x.below)
    clear hw8 f0 f1 f2 f3 H1
    go_wp2_with fail
    go_ret2
    exact ⟨by rw [HV.out]; rfl, HB8.out⟩
  | true =>
    rw [hd] at hzd
    simp only [Bool.not_true] at hzd
    obtain ⟨n, rfl, hn⟩ := dir_lt hd
    have HD := Lib.hid hd
    obtain ⟨my, hmy⟩ : ∃ my, mayL L (n : Int) 1 = my := ⟨_, rfl⟩
    have HMY := Lib.hid hmy
    clear hd hmy
    go_enter Try.func44, Try.ntmps44
    go_wp2_with fail
    refine wp_region_grown (by kernel_rfl) (by kernel_rfl) ?_
    repeat (first | go_big_quiet_skip | (go_big_quiet_want; go_big_quiet_op; (first | go_big_quiet_on | (refine ⟨_, H1.out, ?_⟩; go_big_quiet_on))))
    refine wpQuiet_nil ?_
    intro w1 hw1
    have HB1 := Lib.hid (show Below w.heap.size w w1 from by obtain ⟨x, rfl⟩ := hw1; exact x.below)
    clear hw1 f0 f1 f2 f3 H1
    have d0 := cell_below HB1.out c0
    have d1 := cell_below HB1.out c1
    have d2 := cell_below HB1.out c2
    have d3 := cell_below HB1.out c3
    try simp only at d0 d1 d2
    have H2 := Lib.hid (grown_call (wb := w1) (fun W hW => lmayw_known a cap m b (n : Int) 1 L HI.out my HMY.out W (HN.out.below (HB1.out.trans (hW.mono HB1.out.size)))))
    have f0 := grown_cell d0
    have f1 := grown_cell d1
    have f2 := grown_cell d2
    have f3 := grown_cell d3
    clear d0 d1 d2 d3
    go_wp2_with fail
    refine wp_region_grown (by kernel_rfl) (by kernel_rfl) ?_
    repeat (first | go_big_quiet_skip | (go_big_quiet_want; go_big_quiet_op; (first | go_big_quiet_on | (refine ⟨_, H2.out, ?_⟩; go_big_quiet_on))))
    refine wpQuiet_nil ?_
    intro w2 hw2
    have hb12 : Below w1.heap.size w1 w2 := by obtain ⟨x, rfl⟩ := hw2; exact x.below
    have HB2 := Lib.hid (HB1.out.trans (hb12.mono HB1.out.size))
    have HN2 := Lib.hid (HN.out.below HB2.out)
    clear hw2 f0 f1 f2 f3 H2 hb12
    have d0 := cell_below HB2.out c0
    have d1 := cell_below HB2.out c1
    have d2 := cell_below HB2.out c2
    have d3 := cell_below HB2.out c3
    try simp only at d0 d1 d2
    clear c0 c1 c2 c3
    cases my with
    | false =>
      have HV := Lib.hid (show F = (0, 13) by rw [HFE.out]; unfold stepW; rw [HD.out, HMY.out, if_neg (by simp), if_pos rfl])
      go_wp2_with fail
      go_ret2
      exact ⟨by rw [HV.out]; rfl, HB2.out⟩
    | true =>
      have HV := Lib.hid (show F = if x = [46] then ((n : Int), 0) else if x = [46, 46] then ((nodeAt L (n : Int)).up, 0) else if kidL L (n : Int) x < 0 then (0, 2) else (kidL L (n : Int) x, 0) by rw [HFE.out]; unfold stepW; rw [HD.out, HMY.out, if_neg (by simp), if_neg (by simp)])
      have hlive : ∀ k, liveB L k = true → ∃ ku, kindL L k = ku ∧ (ku == 0) = false := fun k hk => ⟨_, rfl, by have h := kind_live (L := L) (k := k); rw [hk] at h; exact h⟩
      have HLV := Lib.hid hlive
      clear hlive
      cases hx1 : (x == [46]) with
      | true =>
        have HW := Lib.hid (show F = ((n : Int), 0) by rw [HV.out, if_pos (by simpa using hx1)])
        obtain ⟨ku, hku, hku0⟩ := HLV.out (n : Int) (live_of_dir HD.out)
        have HKU := Lib.hid hku
        clear hku
        go_wp2_with fail
        refine (kind_known a cap m b (n : Int) L ku HKU.out _ HN2.out).mono ?_
        rintro e w9 ⟨rfl, hb9⟩
        have HB9 := Lib.hid (HB2.out.trans (hb9.mono HB2.out.size))
        clear hb9
        go_wp2_with fail
        go_ret2
        exact ⟨by rw [HW.out]; rfl, HB9.out⟩
      | false =>
        have hne1 : ¬ x = [46] := by simpa using hx1
        cases hx2 : (x == [46, 46]) with
        | true =>
          have HW := Lib.hid (show F = (L[n].up, 0) by rw [HV.out, if_neg hne1, if_pos (by simpa using hx2), node_nat L n hn])
          have hud := up_dir HF.out HD.out
          rw [node_nat L n hn] at hud
          obtain ⟨ku, hku, hku0⟩ := HLV.out L[n].up (live_of_dir hud)
          have HKU := Lib.hid hku
          obtain ⟨bb, o, rfl, hxx⟩ := HN2.out.2.2 n hn
          have f0 := grown_cell d0
          have f1 := grown_cell d1
          have f2 := grown_cell d2
          have f3 := grown_cell d3
          have f5 := grown_cell hxx.up
          have hd0 : (0 : Int) ≤ (n : Int) := by omega
          have hd1 : (n : Int) < (L.length : Int) := by omega
          clear hku hud hne1 hxx
          go_wp2_with fail
          refine wp_region_grown (by kernel_rfl) (by kernel_rfl) ?_
          repeat (first | go_big_quiet_skip | (go_big_quiet_want; go_big_quiet_op; go_big_quiet_on))
          refine wpQuiet_nil ?_
          intro w3 hw3
          have hb3 : Below w2.heap.size w2 w3 := by obtain ⟨x, rfl⟩ := hw3; exact x.below
          have e0 := cell_below hb3 d0
          have e1 := cell_below hb3 d1
          have e2 := cell_below hb3 d2
          have HB3 := Lib.hid (HB2.out.trans (hb3.mono HB2.out.size))
          have HN3 := Lib.hid (HN2.out.below hb3)
          clear hw3 hb3 f0 f1 f2 f3 f5 d0 d1 d2 d3
          go_wp2_with fail
          refine (kind_known _ cap m b L[n].up L ku HKU.out _ HN3.out).mono ?_
          rintro e w9 ⟨rfl, hb9⟩
          have HB9 := Lib.hid (HB3.out.trans (hb9.mono HB3.out.size))
          clear hb9
          go_wp2_with fail
          go_ret2
          exact ⟨by rw [HW.out]; rfl, HB9.out⟩
        | false =>
          have hne2 : ¬ x = [46, 46] := by simpa using hx2
          obtain ⟨kz, hkz⟩ : ∃ kz, kidL L (n : Int) x = kz := ⟨_, rfl⟩
          have HKZ := Lib.hid hkz
          have HW := Lib.hid (show F = if kz < 0 then (0, 2) else (kz, 0) by rw [HV.out, if_neg hne1, if_neg hne2, hkz])
          have hdec : (kz < 0 ∧ kindL L kz = 0) ∨ (0 ≤ kz ∧ ∃ ku, kindL L kz = ku ∧ (ku == 0) = false) := by
            by_cases h : kz < 0
            · refine Or.inl ⟨h, ?_⟩
              unfold kindL thereB
              rw [decide_eq_false (by omega)]
              rfl
            · refine Or.inr ⟨by omega, HLV.out _ ?_⟩
              rw [← hkz]
              exact kid_live HF.out (by omega)
          have H3 := Lib.hid (grown_call (wb := w2) (fun W hW => lkid_known a cap m b (n : Int) x L (kids_rise HI.out) kz HKZ.out W (HN2.out.below hW)))
          have f0 := grown_cell d0
          have f1 := grown_cell d1
          have f2 := grown_cell d2
          have f3 := grown_cell d3
          clear hkz hne1 hne2
          go_wp2_with fail
          refine wp_region_grown (by kernel_rfl) (by kernel_rfl) ?_
          repeat (first | go_big_quiet_skip | (go_big_quiet_want; go_big_quiet_op; (first | go_big_quiet_on | (refine ⟨_, H3.out, ?_⟩; go_big_quiet_on))))
          refine wpQuiet_nil ?_
          intro w3 hw3
          have hb3 : Below w2.heap.size w2 w3 := by obtain ⟨x, rfl⟩ := hw3; exact x.below
          have e0 := cell_below hb3 d0
          have e1 := cell_below hb3 d1
          have e2 := cell_below hb3 d2
          have HB3 := Lib.hid (HB2.out.trans (hb3.mono HB2.out.size))
          have HN3 := Lib.hid (HN2.out.below hb3)
          clear hw3 hb3 f0 f1 f2 f3 d0 d1 d2 d3 H3
          rcases hdec with ⟨hk0, hku⟩ | ⟨hk0, ku, hku, hku0⟩
          · have HKU := Lib.hid hku
            have HW2 := Lib.hid (show F = (0, 2) by rw [HW.out, if_pos hk0])
            clear hku
            go_wp2_with fail
            refine (kind_known _ cap m b kz L 0 HKU.out _ HN3.out).mono ?_
            rintro e w9 ⟨rfl, hb9⟩
            have HB9 := Lib.hid (HB3.out.trans (hb9.mono HB3.out.size))
            clear hb9
            go_wp2_with fail
            go_ret2
            exact ⟨by rw [HW2.out]; rfl, HB9.out⟩
          · have HKU := Lib.hid hku
            have HW2 := Lib.hid (show F = (kz, 0) by rw [HW.out, if_neg (by omega)])
            clear hku
            go_wp2_with fail
            refine (kind_known _ cap m b kz L ku HKU.out _ HN3.out).mono ?_
            rintro e w9 ⟨rfl, hb9⟩
            have HB9 := Lib.hid (HB3.out.trans (hb9.mono HB3.out.size))
            clear hb9
            go_wp2_with fail
            go_ret2
            exact ⟨by rw [HW2.out]; rfl, HB9.out⟩
end Go.Proofs.Ytgmmggdjcgemfaa
