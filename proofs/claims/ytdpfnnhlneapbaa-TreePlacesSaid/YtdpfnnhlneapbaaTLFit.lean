/-
  tree's Fit, of the landed code: it tells whether a tree can be.
-/
import Derived.Test.YtdpfnnhlneapbaaTPlain1
import Derived.Test.YtdpfnnhlneapbaaTLNames2
namespace Go.Proofs.Ytdpfnnhlneapbaa
open Go Go.RowKit

set_option maxRecDepth 100000 in
set_option maxHeartbeats 4000000 in
theorem lfit_any (a : Option Addr) (cap : Nat) (m b : Int) (L : List Ino) (hL : L.length ≤ 1000) (hS : Sized L) (hB : usedB L ≤ 4611686018427387904) (w : World) (hN : NodesIn w a cap L) :
    Calls Try.prog 13 #[.agg #[.slice a L.length cap, .int .i64 m, .int .i64 b]] w fun e w' => TellsP (FitP L m b) e ∧ Below w.heap.size w w' := by
  have hb1 := below_box w (.cells #[.slice a L.length cap, .int .i64 m, .int .i64 b] 24)
  obtain ⟨w1, hw1⟩ : ∃ w1, w1 = w.alloc (.cells #[.slice a L.length cap, .int .i64 m, .int .i64 b] 24) := ⟨_, rfl⟩
  have hM := hN.below hb1
  have hsz : w1.heap.size = w.heap.size + 1 := by rw [hw1]; simp
  have hbox : ∀ W', Below w1.heap.size w1 W' → W'.cell? ⟨w.heap.size, 0, none⟩ = some (.slice a L.length cap) ∧ W'.cell? ⟨w.heap.size, 1, none⟩ = some (.int .i64 m) ∧ W'.cell? ⟨w.heap.size, 2, none⟩ = some (.int .i64 b) := fun W' h => box3 (by rw [← hw1]; exact h)
  rw [← hw1] at hM hb1
  have HM := Lib.hid hM
  have HB := Lib.hid hb1
  have HX := Lib.hid hbox
  have HS := Lib.hid hS
  have HEND := Lib.hid (show ∀ W', Below w1.heap.size w1 W' → Below w.heap.size w W' from fun W' h => HB.out.trans (h.mono (by rw [hsz]; omega)))
  clear hM hN hb1 hbox hsz hS
  go_enter Try.func13, Try.ntmps13
  go_wp2_with fail
  rw [← hw1]
  clear hw1
  refine (llimits_any _ _ _ _ L hL hB _ HM.out).mono ?_
  rintro e w2 ⟨⟨v, rfl, hv⟩, hb2⟩
  have HV := Lib.hid hv
  have HB2 := Lib.hid hb2
  obtain ⟨q0, q1, q2⟩ := HX.out _ hb2
  clear hv hb2
  cases v with
  | false =>
    have hno := Lib.hid (show ¬ FitP L m b from fun h => by have h1 := HV.out.2 h.limits; cases h1)
    go_wp2_with fail
    go_ret
    exact ⟨TellsP.no rfl hno.out, HEND.out _ HB2.out⟩
  | true =>
    have HLIM := Lib.hid (HV.out.1 (by simp))
    clear HV
    go_wp2_with fail
    obtain ⟨rt, hrt⟩ : ∃ rt, dirB L (0 : Int) = rt := ⟨_, rfl⟩
    have HRT := Lib.hid hrt
    clear hrt
    refine (lisdir_known _ _ _ _ _ L _ HRT.out _ (HM.out.below HB2.out)).mono ?_
    rintro e w3 ⟨rfl, hb3⟩
    have HB3 := Lib.hid (HB2.out.trans (hb3.mono HB2.out.size))
    clear hb3 q0 q1 q2
    obtain ⟨q0, q1, q2⟩ := HX.out _ HB3.out
    cases rt with
    | false =>
      have hno := Lib.hid (show ¬ FitP L m b from fun h => by have h1 := h.root; rw [HRT.out] at h1; cases h1)
      go_wp2_with fail
      go_ret
      exact ⟨TellsP.no rfl hno.out, HEND.out _ HB3.out⟩
    | true =>
      have hlen : 0 < L.length := by have := HLIM.out.1; omega
      obtain ⟨bb, o, rfl, hx⟩ := HM.out.2.2 0 hlen
      have x5 := cell_below HB3.out hx.up
      rw [Nat.zero_mul, Nat.add_zero] at x5
      have HN0 := Lib.hid (show nodeAt L 0 = L[0] from node_nat L 0 hlen)
      clear hx
      have hlen' : (0 : Int) < (L.length : Int) := by omega
      by_cases hu : L[0].up = 0
      · have hub : (L[0].up == 0) = true := by simpa using hu
        have HU := Lib.hid hu
        clear hu
        go_wp2_with fail
        refine (linodes_any _ _ _ _ L hL HS.out _ (HM.out.below HB3.out)).mono ?_
        rintro e w4 ⟨⟨v, rfl, hv⟩, hb4⟩
        have HV := Lib.hid hv
        have HB4 := Lib.hid (HB3.out.trans (hb4.mono HB3.out.size))
        clear hv hb4 q0 q1 q2 x5
        obtain ⟨q0, q1, q2⟩ := HX.out _ HB4.out
        cases v with
        | false =>
          have hno := Lib.hid (show ¬ FitP L m b from fun h => by have h1 := HV.out.2 h.ins; cases h1)
          go_wp2_with fail
          go_ret
          exact ⟨TellsP.no rfl hno.out, HEND.out _ HB4.out⟩
        | true =>
          have HINS := Lib.hid (HV.out.1 (by simp))
          clear HV
          go_wp2_with fail
          refine (lnames_any _ _ _ _ L hL (kids_there HINS.out) _ (HM.out.below HB4.out)).mono ?_
          rintro e w5 ⟨⟨v, rfl, hv⟩, hb5⟩
          have HV := Lib.hid hv
          have HB5 := Lib.hid (HB4.out.trans (hb5.mono HB4.out.size))
          clear hv hb5 q0 q1 q2
          obtain ⟨q0, q1, q2⟩ := HX.out _ HB5.out
          cases v with
          | false =>
            have hno := Lib.hid (show ¬ FitP L m b from fun h => by have h1 := HV.out.2 h.names; cases h1)
            go_wp2_with fail
            go_ret
            exact ⟨TellsP.no rfl hno.out, HEND.out _ HB5.out⟩
          | true =>
            have HNAM := Lib.hid (HV.out.1 (by simp))
            clear HV
            have HUPS := Lib.hid (ups_in HRT.out (by rw [HN0.out]; exact HU.out) HINS.out HNAM.out)
            go_wp2_with fail
            refine (lups_any _ _ _ _ L hL HUPS.out _ (HM.out.below HB5.out)).mono ?_
            rintro e w6 ⟨⟨v, rfl, hv⟩, hb6⟩
            have HV := Lib.hid (show v = true ↔ FitP L m b from hv.trans ⟨fun h => ⟨HLIM.out, HRT.out, by rw [HN0.out]; exact HU.out, HINS.out, HNAM.out, h⟩, fun h => h.leads⟩)
            have HB6 := Lib.hid (HB5.out.trans (hb6.mono HB5.out.size))
            clear hv hb6 q0 q1 q2
            go_wp2_with fail
            go_ret
            exact ⟨TellsP.of rfl HV.out, HEND.out _ HB6.out⟩
      · have hub : (L[0].up == 0) = false := by simpa using hu
        have hno := Lib.hid (show ¬ FitP L m b from fun h => hu (by have h1 := h.rootUp; rw [HN0.out] at h1; exact h1))
        clear hu
        go_wp2_with fail
        go_ret
        exact ⟨TellsP.no rfl hno.out, HEND.out _ HB3.out⟩
end Go.Proofs.Ytdpfnnhlneapbaa
