/-
  The reference's Fit, walked.
-/
import Derived.Test.YtclhpedecimicaaGreatK15
namespace Go.Proofs.YtclhpedecimicaaGreat
set_option maxRecDepth 100000
open Go Go.RowKit

theorem rrooted_known (a : Option Addr) (cap : Nat) (m b : Int) (L : List Ino) (hL : L.length ≤ 1000) (n : Nat) (hn : n < L.length) (v : Bool) (hv : rootedB L (n : Int) = v) (w : World) (hN : NodesIn w a cap L) :
    Calls Tryz.prog 31 #[.agg #[.slice a L.length cap, .int .i64 m, .int .i64 b], .int .i64 n] w fun e w' => e = .returned (.bool v) ∧ Below w.heap.size w w' := by
  subst hv
  exact rrooted_any a cap m b L hL n hn w hN

set_option maxRecDepth 100000 in
set_option maxHeartbeats 16000000 in
theorem rfit_any (a : Option Addr) (cap : Nat) (m b : Int) (L : List Ino) (hL : L.length ≤ 300) (hS : Sized L) (w : World) (hN : NodesIn w a cap L) :
    Calls Tryz.prog 14 #[.agg #[.slice a L.length cap, .int .i64 m, .int .i64 b]] w fun e w' => TellsP (RFitP L m b) e ∧ Below w.heap.size w w' := by
  by_cases hh : RHead L m b
  case neg => exact rfit_head a cap m b L (by omega) hh w hN
  obtain ⟨h1, h2, h3, h4, h5, h6, h7⟩ := hh
  have HH := Lib.hid (show RHead L m b from ⟨h1, h2, h3, h4, h5, h6, h7⟩)
  obtain ⟨i0, hi, hz0, hz1, hz2⟩ := info_parts infoInt
  have hb1 := below_box w (.cells #[.slice a L.length cap, .int .i64 m, .int .i64 b] 24)
  obtain ⟨w1, hw1⟩ : ∃ w1, w1 = w.alloc (.cells #[.slice a L.length cap, .int .i64 m, .int .i64 b] 24) := ⟨_, rfl⟩
  have hM := hN.below hb1
  have hsz : w1.heap.size = w.heap.size + 1 := by rw [hw1]; simp
  have hbox : ∀ W', Below w1.heap.size w1 W' → W'.cell? ⟨w.heap.size, 0, none⟩ = some (.slice a L.length cap) ∧ W'.cell? ⟨w.heap.size, 1, none⟩ = some (.int .i64 m) ∧ W'.cell? ⟨w.heap.size, 2, none⟩ = some (.int .i64 b) := fun W' h => box3 (by rw [← hw1]; exact h)
  have hmk : (Instr.makeSlice 69 (.int .i64 (L.length : Int)) (.int .i64 (L.length : Int))).run Tryz.prog (w.alloc (.cells #[.slice a L.length cap, .int .i64 m, .int .i64 b] 24)) =
      .ok (.slice (some ⟨w.heap.size + 1, 0, none⟩) L.length L.length) ((w.alloc (.cells #[.slice a L.length cap, .int .i64 m, .int .i64 b] 24)).alloc (.cells ((zeros L.length).map intv).toArray 3)) := by
    have h := run_makeSlice (P := Tryz.prog) (w.alloc (.cells #[.slice a L.length cap, .int .i64 m, .int .i64 b] 24)) 69 3 i0 (.int .i64 0) Tryz.underlying69 hi hz0 .i64 .i64 (L.length : Int) (L.length : Int) (by omega) (Int.le_refl _) (by rw [hz1]; simp; omega) (by rw [hz2]; omega) (by omega)
    rw [hz1, World.size_alloc, Int.toNat_natCast, made_int] at h
    exact h
  rw [← hw1] at hM hb1
  have HM := Lib.hid hM
  have HB := Lib.hid hb1
  have HX := Lib.hid hbox
  have HS := Lib.hid hS
  have HEND := Lib.hid (show ∀ W', Below w1.heap.size w1 W' → Below w.heap.size w W' from fun W' h => HB.out.trans (h.mono (by rw [hsz]; omega)))
  obtain ⟨w2, hw2⟩ : ∃ w2, w2 = w1.alloc (.cells ((zeros L.length).map intv).toArray 3) := ⟨_, rfl⟩
  have hcnt0 : CountIn w2 (w.heap.size + 1) (zeros L.length) := by rw [hw2, ← hsz]; exact new_block _ _
  have hb12 : Below w1.heap.size w1 w2 := by rw [hw2]; exact below_box _ _
  have HC0 := Lib.hid hcnt0
  have HB12 := Lib.hid hb12
  have HSZ := Lib.hid hsz
  obtain ⟨bb, o, rfl, hx⟩ := HM.out.2.2 0 (by omega)
  have HN0 := Lib.hid (show nodeAt L 0 = L[0] from node_nat L 0 (by omega))
  rw [HN0.out] at h6 h7
  have x0 := hx.kind
  have x5 := hx.up
  rw [Nat.zero_mul, Nat.add_zero, hw1] at x0 x5
  rw [h6] at x0
  rw [h7] at x5
  have hlen : (0 : Int) < (L.length : Int) := by omega
  obtain ⟨R, hR⟩ : ∃ R, R = RFitP L m b := ⟨_, rfl⟩
  have HR := Lib.hid hR
  rw [← hR]
  clear hM hN hb1 hS hbox hsz hcnt0 hb12 hi hz0 hz1 hz2 hx h6 h7 hR
  go_enter Tryz.func14, Tryz.ntmps14
  go_wp2_with fail
  rw [← hw1, ← hw2]
  clear hw1 hw2 hmk x0 x5
  go_loopw [5, 6] (fun bv iv wr => RF1 L (w.heap.size + 1) w1 bv iv wr) (fun _ iv _ => L.length - (intOf iv).toNat)
  case atStart => exact ⟨0, by omega, rfl, rfl, fun _ _ h => absurd h (Nat.not_lt_zero _), HC0.out, HB12.out⟩
  case round =>
    obtain ⟨k, hk, rfl, rfl, hok, hcnt, hbr⟩ := hrel
    have HOK := Lib.hid hok.out
    have HCNT := Lib.hid hcnt
    have HBR := Lib.hid hbr
    have hszr := hbr.size
    obtain ⟨q0, q1, q2⟩ := HX.out _ hbr
    clear hok hcnt hbr
    by_cases hlt : k < L.length
    · obtain ⟨b2, o2, e2, hx⟩ := HM.out.2.2 k hlt
      obtain ⟨rfl, rfl⟩ : b2 = bb ∧ o2 = o := by simpa [eq_comm] using e2
      have x0 := cell_below HBR.out hx.kind
      have x1 := cell_below HBR.out hx.mode
      have x2 := cell_below HBR.out hx.links
      have x3 := cell_below HBR.out hx.data
      obtain ⟨kv, x4', hks⟩ := hx.kids
      have x4 := cell_below HBR.out x4'
      have x5 := cell_below HBR.out hx.up
      obtain ⟨ka, kcap, rfl, -, -, -⟩ := hks
      have gb : b2 < wr.heap.size := cell_lt x0
      have gw : w.heap.size < wr.heap.size := by have := HSZ.out; omega
      have HBX := Lib.hid (show ∀ o, Below wr.heap.size wr (wr.alloc o) from fun o => below_box wr o)
      have hk0 : (0 : Int) ≤ (k : Int) := by omega
      have hkl : (k : Int) < (L.length : Int) := by omega
      have HSK := Lib.hid (HS.out k hlt)
      have hss := str_len L[k].data
      have hbt : usedB (L.take k) ≤ k * 65536 := by
        have h := usedB_le 65536 (L.take k) (fun j hj => by
          have hj' : j < k := by simp at hj; omega
          have h2 := (HOK.out j (by omega) hj').data
          simpa using h2)
        simp only [List.length_take] at h
        have h3 : min k L.length = k := by omega
        rw [h3] at h
        exact h
      have hbt2 : usedB (L.take k) ≤ 19660800 := by omega
      have HUB := Lib.hid (show usedB (L.take (k + 1)) = usedB (L.take k) + L[k].data.length by rw [List.take_succ_eq_append_getElem hlt, usedB_snoc])
      clear e2 hx x4' hbt
      go_wp2_with fail
      refine (ralone_any _ _ _ _ _ (by have := HSK.out.1; omega) _ _ _ _).mono ?_
      rintro e w3 ⟨he, hb3⟩
      obtain ⟨al, hal⟩ : ∃ al, al = aloneB L[k] := ⟨_, rfl⟩
      rw [show aloneB ⟨L[k].kind, L[k].mode, L[k].links, L[k].data, L[k].kids, L[k].up⟩ = aloneB L[k] from rfl, ← hal] at he
      subst he
      have HAL := Lib.hid hal
      obtain ⟨p0, p1, p2, p3, p4, p5⟩ := box6 hb3
      have hb3' : Below wr.heap.size wr w3 := (HBX.out _).trans (hb3.mono (by simp))
      have HB3 := Lib.hid (HBR.out.trans (hb3'.mono hszr))
      have HC3 := Lib.hid (HCNT.out.below hb3')
      obtain ⟨r0, r1, r2⟩ := HX.out _ HB3.out
      have hs3 := HB3.out.size
      have gr3 : wr.heap.size < w3.heap.size := by have := hb3.size; rw [World.size_alloc] at this; omega
      clear hb3 hb3' hal q0 q1 q2 x0 x1 x2 x3 x4 x5
      cases al with
      | false =>
        have hno := Lib.hid (show ¬ R from fun h => by rw [HR.out] at h; have h1 := (h.ins k hlt).alone; rw [← HAL.out] at h1; cases h1)
        go_wp2_with fail
        go_ret
        exact ⟨TellsP.no rfl hno.out, HEND.out _ HB3.out⟩
      | true =>
        by_cases hdl : L[k].data.length ≤ 65536
        · by_cases hk2 : L[k].kind = 2
          · have hk2b : (L[k].kind == 2) = true := by simpa using hk2
            have HK2 := Lib.hid hk2
            clear hk2
            cases hth : thereB L L[k].up with
            | false =>
              have HTH := Lib.hid hth
              have hno := Lib.hid (show ¬ R from fun h => by rw [HR.out] at h; have h1 := ((h.ins k hlt).dir HK2.out).1; rw [hth] at h1; cases h1)
              clear hth
              go_wp2_with fail
              refine (rthere_known _ _ _ _ _ L _ HTH.out _).mono ?_
              rintro e w4 ⟨rfl, hb4⟩
              have HB4 := Lib.hid (HB3.out.trans (hb4.mono hs3))
              clear hb4
              go_wp2_with fail
              go_ret
              exact ⟨TellsP.no rfl hno.out, HEND.out _ HB4.out⟩
            | true =>
              have HTH := Lib.hid hth
              clear hth
              go_wp2_with fail
              refine (rthere_known _ _ _ _ _ L _ HTH.out _).mono ?_
              rintro e w4 ⟨rfl, hb4⟩
              have HB4 := Lib.hid (HB3.out.trans (hb4.mono hs3))
              have HC4 := Lib.hid (HC3.out.below hb4)
              have s4 := cell_below hb4 p4
              obtain ⟨q0, q1, q2⟩ := HX.out _ HB4.out
              clear hb4 p0 p1 p2 p3 p4 p5 r0 r1 r2
              by_cases hkl2 : L[k].kids.length ≤ 1024
              · have hkl3 : ¬ (1024 : Int) < (L[k].kids.length : Int) := by omega
                have HLOW := Lib.hid (show Low (bump (zeros L.length) (kidsOf (L.take k))) 307200 from fun z hz => by
                  have h1 := low_bump (kidsOf (L.take k)) (zeros L.length) 0 (Int.le_refl _) (low_zeros _) z hz
                  have h2 := kidsOf_len 1024 (L.take k) (fun j hj => by
                    have hj' : j < k := by simp at hj; omega
                    have h3 := HOK.out j (by omega) hj'
                    by_cases h4 : (L[j]'(by omega)).kind = 2
                    · have h5 := (h3.dir h4).2.1
                      simpa using h5
                    · have h5 := no_kids h3.alone h4
                      simp [h5])
                  simp only [List.length_take] at h2
                  omega)
                have HCALL := Lib.hid (rkids_any (w.heap.size + 1) b2 o2 k cap L.length m b L hL hlt hkl2 (fun e he => by have := HSK.out.2 e he; omega) (bump (zeros L.length) (kidsOf (L.take k))) (by rw [bump_len]; simp [zeros]) 307200 (by omega) (by omega) HLOW.out
                  w1 w4 HM.out HB4.out (by rw [HSZ.out]; exact Nat.le_refl _) HC4.out (Nat.le_refl _) (by unfold maxLen; omega))
                go_wp2_with fail
                refine HCALL.out.mono ?_
                rintro e w5 ⟨v, rfl, hb5, hy, hn⟩
                have HB5 := Lib.hid (HB4.out.trans (show Below w1.heap.size w4 w5 by rw [HSZ.out]; exact hb5))
                have HY := Lib.hid hy
                have HNN := Lib.hid hn
                clear hb5 hy hn s4 q0 q1 q2
                cases v with
                | false =>
                  have hno := Lib.hid (show ¬ R from fun h => by rw [HR.out] at h; exact HNN.out (by simp) ((h.ins k hlt).dir HK2.out).2.2)
                  go_wp2_with fail
                  go_ret
                  exact ⟨TellsP.no rfl hno.out, HEND.out _ HB5.out⟩
                | true =>
                  have hnext := Lib.hid (show ∀ j (h : j < L.length), j < k + 1 → RA L j h from fun j h hj => by
                    by_cases e : j = k
                    · subst e
                      exact ⟨HAL.out.symm, hdl, fun _ => ⟨HTH.out, hkl2, (HY.out (by simp)).1⟩⟩
                    · exact HOK.out j h (by omega))
                  have HCN := Lib.hid (show CountIn w5 (w.heap.size + 1) (bump (zeros L.length) (kidsOf (L.take (k + 1)))) by
                    rw [kidsOf_take L k hlt, bump_app]
                    exact (HY.out (by simp)).2)
                  go_wp2_with fail
                  go_roundw
                  case rel => exact ⟨k + 1, by omega, by go_num, by rw [HUB.out]; go_num, hnext, HCN.out, HB5.out⟩
                  case measure => simp [intOf] <;> omega
              · have hkl3 : (1024 : Int) < (L[k].kids.length : Int) := by omega
                have hno := Lib.hid (show ¬ R from fun h => by rw [HR.out] at h; exact hkl2 ((h.ins k hlt).dir HK2.out).2.1)
                clear hkl2
                go_wp2_with fail
                go_ret
                exact ⟨TellsP.no rfl hno.out, HEND.out _ HB4.out⟩
          · have hk2b : (L[k].kind == 2) = false := by simpa using hk2
            have hnext := Lib.hid (show ∀ j (h : j < L.length), j < k + 1 → RA L j h from fun j h hj => by
              by_cases e : j = k
              · subst e
                exact ⟨HAL.out.symm, hdl, fun h2 => absurd h2 hk2⟩
              · exact HOK.out j h (by omega))
            have HCN := Lib.hid (show CountIn w3 (w.heap.size + 1) (bump (zeros L.length) (kidsOf (L.take (k + 1)))) by
              rw [kidsOf_take L k hlt, no_kids HAL.out.symm hk2, List.append_nil]
              exact HC3.out)
            clear hk2
            go_wp2_with fail
            go_roundw
            case rel => exact ⟨k + 1, by omega, by go_num, by rw [HUB.out]; go_num, hnext, HCN.out, HB3.out⟩
            case measure => simp [intOf] <;> omega
        · have hno := Lib.hid (show ¬ R from fun h => by rw [HR.out] at h; exact hdl (h.ins k hlt).data)
          have hdl' : 65536 < L[k].data.length := by omega
          clear hdl
          go_wp2_with fail
          go_ret
          exact ⟨TellsP.no rfl hno.out, HEND.out _ HB3.out⟩
    · have HA := Lib.hid (show ∀ j (h : j < L.length), RA L j h from fun j h => HOK.out j h (by omega))
      have HC3 := Lib.hid (show CountIn wr (w.heap.size + 1) (countL L) by
        have h := HCNT.out
        rw [List.take_of_length_le (show L.length ≤ k by omega)] at h
        exact h)
      have hub : L.take k = L := List.take_of_length_le (by omega)
      rw [hub]
      have HUB := Lib.hid (show usedB L ≤ 19660800 by
        have h := usedB_le 65536 L (fun j hj => (HA.out j hj).data)
        omega)
      clear hub HCNT HOK q0 q1 q2
      go_wp2_with fail
      have HBR0 := Lib.hid HBR.out
      clear HBR hszr
      go_loopw [8] (fun iv W => RF2 L (w.heap.size + 1) w1 iv W) (fun iv _ => L.length - (intOf iv).toNat)
      case atStart => exact ⟨0, by omega, rfl, fun _ _ h => absurd h (Nat.not_lt_zero _), HC3.out, HBR0.out⟩
      case round =>
        obtain ⟨k, hk, rfl, hok, hcnt, hbr⟩ := hrel
        have HOK := Lib.hid hok.out
        have HCNT := Lib.hid hcnt
        have HBR := Lib.hid hbr
        have hszr := hbr.size
        obtain ⟨q0, q1, q2⟩ := HX.out _ hbr
        clear hok hcnt hbr HC3 HBR0
        by_cases hlt : k < L.length
        · obtain ⟨b2, o2, e2, hx⟩ := HM.out.2.2 k hlt
          obtain ⟨rfl, rfl⟩ : b2 = bb ∧ o2 = o := by simpa [eq_comm] using e2
          have x0 := cell_below HBR.out hx.kind
          have x1 := cell_below HBR.out hx.mode
          have x2 := cell_below HBR.out hx.links
          have x3 := cell_below HBR.out hx.data
          obtain ⟨kv, x4', hks⟩ := hx.kids
          have x4 := cell_below HBR.out x4'
          have x5 := cell_below HBR.out hx.up
          obtain ⟨ka, kcap, rfl, -, -, -⟩ := hks
          have gb : b2 < wr.heap.size := cell_lt x0
          have hk0 : (0 : Int) ≤ (k : Int) := by omega
          have hkl : (k : Int) < (L.length : Int) := by omega
          clear e2 hx x4'
          go_wp2_with fail
          obtain ⟨wq, hwq⟩ : ∃ wq, wq = wr.alloc (.cells #[.int .i64 L[k].kind, .int .i64 L[k].mode, .int .i64 L[k].links, .string ⟨L[k].data.toArray⟩, .slice ka L[k].kids.length kcap, .int .i64 L[k].up] 36) := ⟨_, rfl⟩
          rw [← hwq]
          have hbq : Below wr.heap.size wr wq := by rw [hwq]; exact below_box _ _
          have HBQ := Lib.hid (HBR.out.trans (hbq.mono hszr))
          have HCQ := Lib.hid (HCNT.out.below hbq)
          obtain ⟨p0, -, p2, -, -, -⟩ := box6 (W' := wq) (w := wr) (x0 := .int .i64 L[k].kind) (x1 := .int .i64 L[k].mode) (x2 := .int .i64 L[k].links) (x3 := .string ⟨L[k].data.toArray⟩) (x4 := .slice ka L[k].kids.length kcap) (x5 := .int .i64 L[k].up) (t := 36) (by rw [hwq]; exact Below.refl _ _)
          have hcu := HCQ.out.cell k (by rw [countL_len]; exact hlt)
          obtain ⟨z, hz⟩ : ∃ z, z = (countL L)[k]'(by rw [countL_len]; exact hlt) := ⟨_, rfl⟩
          obtain ⟨rt, hrt0⟩ : ∃ rt, rootedB L (k : Int) = rt := ⟨_, rfl⟩
          have HRT := Lib.hid hrt0
          rw [← hz] at hcu
          have HNEXT := Lib.hid (show (L[k].links = z ∧ ¬ (L[k].kind ≠ 0 ∧ 0 < k ∧ z = 0) ∧ ¬ (L[k].kind = 2 ∧ (rt = false ∨ 0 < k ∧ z ≠ 1))) → ∀ j (h : j < L.length), j < k + 1 → RB L j h from fun h1 j h hj => by
            by_cases e : j = k
            · subst e
              unfold RB
              rw [← hz, hrt0]
              exact h1
            · exact HOK.out j h (by omega))
          have HNOT := Lib.hid (show ¬ (L[k].links = z ∧ ¬ (L[k].kind ≠ 0 ∧ 0 < k ∧ z = 0) ∧ ¬ (L[k].kind = 2 ∧ (rt = false ∨ 0 < k ∧ z ≠ 1))) → ¬ R from fun h1 h => h1 (by
            rw [HR.out] at h
            have h2 := h.nam k hlt
            unfold RB at h2
            rw [← hz, hrt0] at h2
            exact h2))
          have f0 := grown_cell p0
          have f1 := grown_cell p2
          have f2 := grown_cell hcu
          obtain ⟨t0, t1, t2⟩ := HX.out _ HBQ.out
          have f3 := grown_cell t0
          have f4 := grown_cell t1
          have f5 := grown_cell t2
          clear hwq hbq p0 p2 hcu hz hrt0 t0 t1 t2 x0 x1 x2 x3 x4 x5 q0 q1 q2
          by_cases c1 : L[k].links = z
          · have c1b : (L[k].links != z) = false := by simpa using c1
            by_cases c2 : L[k].kind = 0
            · have c2b : (L[k].kind != 0) = false := by simpa using c2
              have c2c : (L[k].kind == 2) = false := by rw [c2]; rfl
              have hy : (L[k].links = z ∧ ¬ (L[k].kind ≠ 0 ∧ 0 < k ∧ z = 0) ∧ ¬ (L[k].kind = 2 ∧ (rt = false ∨ 0 < k ∧ z ≠ 1))) := ⟨c1, fun h => h.1 c2, fun h => by have := h.1; omega⟩
              have HY := Lib.hid hy
              clear hy c1 c2
              have hnext := Lib.hid (HNEXT.out HY.out)
              refine wp_region_grown (by kernel_rfl) (by kernel_rfl) ?_
              repeat (first | go_big_quiet_skip | (go_big_quiet_want; go_big_quiet_op; (first | go_big_quiet_on | (refine ⟨_, grown_call (fun W hW => rrooted_known _ _ _ _ L (by omega) k hlt _ HRT.out W (HM.out.below (HBQ.out.trans (hW.mono HBQ.out.size)))), ?_⟩; go_big_quiet_on))))
              refine wpQuiet_nil ?_
              intro w4 hw4
              have hbg : Below wq.heap.size wq w4 := by obtain ⟨x, rfl⟩ := hw4; exact x.below
              have HB4 := Lib.hid (HBQ.out.trans (hbg.mono HBQ.out.size))
              have HC4 := Lib.hid (HCQ.out.below hbg)
              clear hw4 hbg f0 f1 f2 f3 f4 f5
              go_wp2_with fail
              go_roundw
              case rel => exact ⟨k + 1, by omega, by go_num, hnext.out, HC4.out, HB4.out⟩
              case measure => simp [intOf] <;> omega
            · have c2b : (L[k].kind != 0) = true := by simpa using c2
              by_cases c3 : 0 < k
              · by_cases c4 : z = 0
                · have c4b : (z == 0) = true := by simpa using c4
                  have HN := Lib.hid (show ¬ (L[k].links = z ∧ ¬ (L[k].kind ≠ 0 ∧ 0 < k ∧ z = 0) ∧ ¬ (L[k].kind = 2 ∧ (rt = false ∨ 0 < k ∧ z ≠ 1))) from fun h => h.2.1 ⟨c2, c3, c4⟩)
                  clear c1 c2 c4
                  have hno := Lib.hid (HNOT.out HN.out)
                  refine wp_region_grown (by kernel_rfl) (by kernel_rfl) ?_
                  repeat (first | go_big_quiet_skip | (go_big_quiet_want; go_big_quiet_op; (first | go_big_quiet_on | (refine ⟨_, grown_call (fun W hW => rrooted_known _ _ _ _ L (by omega) k hlt _ HRT.out W (HM.out.below (HBQ.out.trans (hW.mono HBQ.out.size)))), ?_⟩; go_big_quiet_on))))
                  refine wpQuiet_nil ?_
                  intro w4 hw4
                  have hbg : Below wq.heap.size wq w4 := by obtain ⟨x, rfl⟩ := hw4; exact x.below
                  have HB4 := Lib.hid (HBQ.out.trans (hbg.mono HBQ.out.size))
                  have HC4 := Lib.hid (HCQ.out.below hbg)
                  clear hw4 hbg f0 f1 f2 f3 f4 f5
                  go_wp2_with fail
                  go_ret
                  exact ⟨TellsP.no rfl hno.out, HEND.out _ HB4.out⟩
                · have c4b : (z == 0) = false := by simpa using c4
                  by_cases c5 : L[k].kind = 2
                  · have c5b : (L[k].kind == 2) = true := by simpa using c5
                    cases hrt : rt with
                    | false =>
                      have HN := Lib.hid (show ¬ (L[k].links = z ∧ ¬ (L[k].kind ≠ 0 ∧ 0 < k ∧ z = 0) ∧ ¬ (L[k].kind = 2 ∧ (rt = false ∨ 0 < k ∧ z ≠ 1))) from fun h => h.2.2 ⟨c5, Or.inl hrt⟩)
                      subst hrt
                      clear c1 c2 c4 c5
                      have hno := Lib.hid (HNOT.out HN.out)
                      refine wp_region_grown (by kernel_rfl) (by kernel_rfl) ?_
                      repeat (first | go_big_quiet_skip | (go_big_quiet_want; go_big_quiet_op; (first | go_big_quiet_on | (refine ⟨_, grown_call (fun W hW => rrooted_known _ _ _ _ L (by omega) k hlt _ HRT.out W (HM.out.below (HBQ.out.trans (hW.mono HBQ.out.size)))), ?_⟩; go_big_quiet_on))))
                      refine wpQuiet_nil ?_
                      intro w4 hw4
                      have hbg : Below wq.heap.size wq w4 := by obtain ⟨x, rfl⟩ := hw4; exact x.below
                      have HB4 := Lib.hid (HBQ.out.trans (hbg.mono HBQ.out.size))
                      have HC4 := Lib.hid (HCQ.out.below hbg)
                      clear hw4 hbg f0 f1 f2 f3 f4 f5
                      go_wp2_with fail
                      go_ret
                      exact ⟨TellsP.no rfl hno.out, HEND.out _ HB4.out⟩
                    | true =>
                      by_cases c6 : z = 1
                      · have c6b : (z != 1) = false := by simpa using c6
                        have HY := Lib.hid (show (L[k].links = z ∧ ¬ (L[k].kind ≠ 0 ∧ 0 < k ∧ z = 0) ∧ ¬ (L[k].kind = 2 ∧ (rt = false ∨ 0 < k ∧ z ≠ 1))) from ⟨c1, fun h => c4 h.2.2, fun h => by rcases h.2 with h2 | ⟨-, h2⟩; rw [hrt] at h2; cases h2; exact h2 c6⟩)
                        subst hrt
                        clear c1 c2 c4 c5 c6
                        have hnext := Lib.hid (HNEXT.out HY.out)
                        refine wp_region_grown (by kernel_rfl) (by kernel_rfl) ?_
                        repeat (first | go_big_quiet_skip | (go_big_quiet_want; go_big_quiet_op; (first | go_big_quiet_on | (refine ⟨_, grown_call (fun W hW => rrooted_known _ _ _ _ L (by omega) k hlt _ HRT.out W (HM.out.below (HBQ.out.trans (hW.mono HBQ.out.size)))), ?_⟩; go_big_quiet_on))))
                        refine wpQuiet_nil ?_
                        intro w4 hw4
                        have hbg : Below wq.heap.size wq w4 := by obtain ⟨x, rfl⟩ := hw4; exact x.below
                        have HB4 := Lib.hid (HBQ.out.trans (hbg.mono HBQ.out.size))
                        have HC4 := Lib.hid (HCQ.out.below hbg)
                        clear hw4 hbg f0 f1 f2 f3 f4 f5
                        go_wp2_with fail
                        go_roundw
                        case rel => exact ⟨k + 1, by omega, by go_num, hnext.out, HC4.out, HB4.out⟩
                        case measure => simp [intOf] <;> omega
                      · have c6b : (z != 1) = true := by simpa using c6
                        have HN := Lib.hid (show ¬ (L[k].links = z ∧ ¬ (L[k].kind ≠ 0 ∧ 0 < k ∧ z = 0) ∧ ¬ (L[k].kind = 2 ∧ (rt = false ∨ 0 < k ∧ z ≠ 1))) from fun h => h.2.2 ⟨c5, Or.inr ⟨c3, c6⟩⟩)
                        subst hrt
                        clear c1 c2 c4 c5 c6
                        have hno := Lib.hid (HNOT.out HN.out)
                        refine wp_region_grown (by kernel_rfl) (by kernel_rfl) ?_
                        repeat (first | go_big_quiet_skip | (go_big_quiet_want; go_big_quiet_op; (first | go_big_quiet_on | (refine ⟨_, grown_call (fun W hW => rrooted_known _ _ _ _ L (by omega) k hlt _ HRT.out W (HM.out.below (HBQ.out.trans (hW.mono HBQ.out.size)))), ?_⟩; go_big_quiet_on))))
                        refine wpQuiet_nil ?_
                        intro w4 hw4
                        have hbg : Below wq.heap.size wq w4 := by obtain ⟨x, rfl⟩ := hw4; exact x.below
                        have HB4 := Lib.hid (HBQ.out.trans (hbg.mono HBQ.out.size))
                        have HC4 := Lib.hid (HCQ.out.below hbg)
                        clear hw4 hbg f0 f1 f2 f3 f4 f5
                        go_wp2_with fail
                        go_ret
                        exact ⟨TellsP.no rfl hno.out, HEND.out _ HB4.out⟩
                  · have c5b : (L[k].kind == 2) = false := by simpa using c5
                    have HY := Lib.hid (show (L[k].links = z ∧ ¬ (L[k].kind ≠ 0 ∧ 0 < k ∧ z = 0) ∧ ¬ (L[k].kind = 2 ∧ (rt = false ∨ 0 < k ∧ z ≠ 1))) from ⟨c1, fun h => c4 h.2.2, fun h => c5 h.1⟩)
                    clear c1 c2 c4 c5
                    have hnext := Lib.hid (HNEXT.out HY.out)
                    refine wp_region_grown (by kernel_rfl) (by kernel_rfl) ?_
                    repeat (first | go_big_quiet_skip | (go_big_quiet_want; go_big_quiet_op; (first | go_big_quiet_on | (refine ⟨_, grown_call (fun W hW => rrooted_known _ _ _ _ L (by omega) k hlt _ HRT.out W (HM.out.below (HBQ.out.trans (hW.mono HBQ.out.size)))), ?_⟩; go_big_quiet_on))))
                    refine wpQuiet_nil ?_
                    intro w4 hw4
                    have hbg : Below wq.heap.size wq w4 := by obtain ⟨x, rfl⟩ := hw4; exact x.below
                    have HB4 := Lib.hid (HBQ.out.trans (hbg.mono HBQ.out.size))
                    have HC4 := Lib.hid (HCQ.out.below hbg)
                    clear hw4 hbg f0 f1 f2 f3 f4 f5
                    go_wp2_with fail
                    go_roundw
                    case rel => exact ⟨k + 1, by omega, by go_num, hnext.out, HC4.out, HB4.out⟩
                    case measure => simp [intOf] <;> omega
              · have c3b : decide (0 < k) = false := decide_eq_false c3
                by_cases c5 : L[k].kind = 2
                · have c5b : (L[k].kind == 2) = true := by simpa using c5
                  cases hrt : rt with
                  | false =>
                    have HN := Lib.hid (show ¬ (L[k].links = z ∧ ¬ (L[k].kind ≠ 0 ∧ 0 < k ∧ z = 0) ∧ ¬ (L[k].kind = 2 ∧ (rt = false ∨ 0 < k ∧ z ≠ 1))) from fun h => h.2.2 ⟨c5, Or.inl hrt⟩)
                    subst hrt
                    clear c1 c2 c3 c5
                    have hno := Lib.hid (HNOT.out HN.out)
                    refine wp_region_grown (by kernel_rfl) (by kernel_rfl) ?_
                    repeat (first | go_big_quiet_skip | (go_big_quiet_want; go_big_quiet_op; (first | go_big_quiet_on | (refine ⟨_, grown_call (fun W hW => rrooted_known _ _ _ _ L (by omega) k hlt _ HRT.out W (HM.out.below (HBQ.out.trans (hW.mono HBQ.out.size)))), ?_⟩; go_big_quiet_on))))
                    refine wpQuiet_nil ?_
                    intro w4 hw4
                    have hbg : Below wq.heap.size wq w4 := by obtain ⟨x, rfl⟩ := hw4; exact x.below
                    have HB4 := Lib.hid (HBQ.out.trans (hbg.mono HBQ.out.size))
                    have HC4 := Lib.hid (HCQ.out.below hbg)
                    clear hw4 hbg f0 f1 f2 f3 f4 f5
                    go_wp2_with fail
                    go_ret
                    exact ⟨TellsP.no rfl hno.out, HEND.out _ HB4.out⟩
                  | true =>
                    have HY := Lib.hid (show (L[k].links = z ∧ ¬ (L[k].kind ≠ 0 ∧ 0 < k ∧ z = 0) ∧ ¬ (L[k].kind = 2 ∧ (rt = false ∨ 0 < k ∧ z ≠ 1))) from ⟨c1, fun h => c3 h.2.1, fun h => by rcases h.2 with h2 | ⟨h2, -⟩; rw [hrt] at h2; cases h2; exact c3 h2⟩)
                    subst hrt
                    clear c1 c2 c3 c5
                    have hnext := Lib.hid (HNEXT.out HY.out)
                    refine wp_region_grown (by kernel_rfl) (by kernel_rfl) ?_
                    repeat (first | go_big_quiet_skip | (go_big_quiet_want; go_big_quiet_op; (first | go_big_quiet_on | (refine ⟨_, grown_call (fun W hW => rrooted_known _ _ _ _ L (by omega) k hlt _ HRT.out W (HM.out.below (HBQ.out.trans (hW.mono HBQ.out.size)))), ?_⟩; go_big_quiet_on))))
                    refine wpQuiet_nil ?_
                    intro w4 hw4
                    have hbg : Below wq.heap.size wq w4 := by obtain ⟨x, rfl⟩ := hw4; exact x.below
                    have HB4 := Lib.hid (HBQ.out.trans (hbg.mono HBQ.out.size))
                    have HC4 := Lib.hid (HCQ.out.below hbg)
                    clear hw4 hbg f0 f1 f2 f3 f4 f5
                    go_wp2_with fail
                    go_roundw
                    case rel => exact ⟨k + 1, by omega, by go_num, hnext.out, HC4.out, HB4.out⟩
                    case measure => simp [intOf] <;> omega
                · have c5b : (L[k].kind == 2) = false := by simpa using c5
                  have HY := Lib.hid (show (L[k].links = z ∧ ¬ (L[k].kind ≠ 0 ∧ 0 < k ∧ z = 0) ∧ ¬ (L[k].kind = 2 ∧ (rt = false ∨ 0 < k ∧ z ≠ 1))) from ⟨c1, fun h => c3 h.2.1, fun h => c5 h.1⟩)
                  clear c1 c2 c3 c5
                  have hnext := Lib.hid (HNEXT.out HY.out)
                  refine wp_region_grown (by kernel_rfl) (by kernel_rfl) ?_
                  repeat (first | go_big_quiet_skip | (go_big_quiet_want; go_big_quiet_op; (first | go_big_quiet_on | (refine ⟨_, grown_call (fun W hW => rrooted_known _ _ _ _ L (by omega) k hlt _ HRT.out W (HM.out.below (HBQ.out.trans (hW.mono HBQ.out.size)))), ?_⟩; go_big_quiet_on))))
                  refine wpQuiet_nil ?_
                  intro w4 hw4
                  have hbg : Below wq.heap.size wq w4 := by obtain ⟨x, rfl⟩ := hw4; exact x.below
                  have HB4 := Lib.hid (HBQ.out.trans (hbg.mono HBQ.out.size))
                  have HC4 := Lib.hid (HCQ.out.below hbg)
                  clear hw4 hbg f0 f1 f2 f3 f4 f5
                  go_wp2_with fail
                  go_roundw
                  case rel => exact ⟨k + 1, by omega, by go_num, hnext.out, HC4.out, HB4.out⟩
                  case measure => simp [intOf] <;> omega
          · have c1b : (L[k].links != z) = true := by simpa using c1
            have HN := Lib.hid (show ¬ (L[k].links = z ∧ ¬ (L[k].kind ≠ 0 ∧ 0 < k ∧ z = 0) ∧ ¬ (L[k].kind = 2 ∧ (rt = false ∨ 0 < k ∧ z ≠ 1))) from fun h => c1 h.1)
            clear c1
            have hno := Lib.hid (HNOT.out HN.out)
            refine wp_region_grown (by kernel_rfl) (by kernel_rfl) ?_
            repeat (first | go_big_quiet_skip | (go_big_quiet_want; go_big_quiet_op; (first | go_big_quiet_on | (refine ⟨_, grown_call (fun W hW => rrooted_known _ _ _ _ L (by omega) k hlt _ HRT.out W (HM.out.below (HBQ.out.trans (hW.mono HBQ.out.size)))), ?_⟩; go_big_quiet_on))))
            refine wpQuiet_nil ?_
            intro w4 hw4
            have hbg : Below wq.heap.size wq w4 := by obtain ⟨x, rfl⟩ := hw4; exact x.below
            have HB4 := Lib.hid (HBQ.out.trans (hbg.mono HBQ.out.size))
            have HC4 := Lib.hid (HCQ.out.below hbg)
            clear hw4 hbg f0 f1 f2 f3 f4 f5
            go_wp2_with fail
            go_ret
            exact ⟨TellsP.no rfl hno.out, HEND.out _ HB4.out⟩
        · have hall := Lib.hid (show R ↔ (usedB L : Int) ≤ b by
            rw [HR.out]
            exact ⟨fun h => h.bytes, fun h => ⟨HH.out, HA.out, fun j h => HOK.out j h (by omega), h⟩⟩)
          have hub := HUB.out
          go_wp2_with fail
          go_ret
          exact ⟨TellsP.of rfl (by rw [hall.out]; simp), HEND.out _ HBR.out⟩
end Go.Proofs.YtclhpedecimicaaGreat
