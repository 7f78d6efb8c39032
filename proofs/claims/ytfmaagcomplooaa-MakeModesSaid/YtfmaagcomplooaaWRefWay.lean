/-
  The reference's way, walked.
-/
import Derived.Deep.QuietTactic
import Derived.BigQuiet
import Derived.Test.YtfmaagcomplooaaK7
import Derived.Test.YtfmaagcomplooaaK1
namespace Go.Proofs.Ytfmaagcomplooaa
set_option maxRecDepth 100000
open Go Go.RowKit

def sliceLen : Value → Nat
  | .slice _ n _ => n
  | _ => 0

def WRel (L : List Ino) (last : Bool) (R : Int × Int) (w1 : World) (pv nv lv : Value) (wr : World) : Prop :=
  ∃ (n k : Nat) (N : List (List UInt8)) (p : Int), k + n = 8 ∧ pv = .int .i64 p ∧ lv = .int .i64 k ∧ N.length ≤ 5000 + k * 2000 ∧ Hid (View wr nv N) ∧ Hid (R = wayW L last n N p) ∧ Below w1.heap.size w1 wr

theorem wrel_view {wr : World} {nv : Value} {x : List UInt8} {r : List (List UInt8)} (h : View wr nv (x :: r)) : ∃ b o cap, nv = .slice (some ⟨b, o, none⟩) (r.length + 1) cap ∧ r.length + 1 ≤ cap ∧ cap ≤ maxLen ∧ wr.cell? ⟨b, o, none⟩ = some (.string ⟨x.toArray⟩) := by
  obtain ⟨a, cap, rfl, h1, h2, h3⟩ := h
  obtain ⟨b, o, e, hc⟩ := h3 0 (by simp)
  subst e
  exact ⟨b, o, cap, rfl, h1, h2, hc⟩

set_option maxRecDepth 100000 in
set_option maxHeartbeats 8000000 in
theorem way4_any (a : Option Addr) (cap : Nat) (m b p0 : Int) (last : Bool) (N0 : List (List UInt8)) (hN0 : N0.length ≤ 5000) (v0 : Value) (L : List Ino) (hF : FitP L m b) (w : World) (hN : NodesIn w a cap L) (hV : View w v0 N0) :
    Calls Try.prog 34 #[.agg #[.slice a L.length cap, .int .i64 m, .int .i64 b], .int .i64 p0, v0, .bool last] w fun e w' => e = .returned (.tuple #[.int .i64 (wayW L last 8 N0 p0).1, .int .i64 (wayW L last 8 N0 p0).2]) ∧ Below w.heap.size w w' := by
  obtain ⟨w1, hw1⟩ : ∃ w1, w1 = w.alloc (.cells #[.slice a L.length cap, .int .i64 m, .int .i64 b] 24) := ⟨_, rfl⟩
  have hb1 := below_box w (.cells #[.slice a L.length cap, .int .i64 m, .int .i64 b] 24)
  have hM := hN.below hb1
  have hVM := hV.below hb1
  have hsz : w1.heap.size = w.heap.size + 1 := by rw [hw1]; simp
  have hbox : ∀ W', Below w1.heap.size w1 W' → W'.cell? ⟨w.heap.size, 0, none⟩ = some (.slice a L.length cap) ∧ W'.cell? ⟨w.heap.size, 1, none⟩ = some (.int .i64 m) ∧ W'.cell? ⟨w.heap.size, 2, none⟩ = some (.int .i64 b) := fun W' h => box3 (by rw [← hw1]; exact h)
  rw [← hw1] at hM hb1 hVM
  have HM := Lib.hid hM
  have HB := Lib.hid hb1
  have HX := Lib.hid hbox
  have HEND := Lib.hid (show ∀ W', Below w1.heap.size w1 W' → Below w.heap.size w W' from fun W' h => HB.out.trans (h.mono (by rw [hsz]; omega)))
  have hcap := hN.1
  have hmax := hN.2.1
  unfold maxLen at hmax
  have HF := Lib.hid hF
  have HVM := Lib.hid hVM
  have hgw : w.heap.size < w1.heap.size := by omega
  obtain ⟨R, hR⟩ : ∃ R, R = wayW L last 8 N0 p0 := ⟨_, rfl⟩
  rw [← hR]
  have HR := Lib.hid hR
  clear hM hN hV hVM hb1 hbox hsz hF hR
  go_enter Try.func34, Try.ntmps34
  go_wp2_with fail
  rw [← hw1]
  clear hw1
  go_loopw [1, 2, 10, 11, 12, 13, 14] (fun pv nv lv _ _ _ _ wr => WRel L last R w1 pv nv lv wr) (fun _ nv lv _ _ _ _ _ => (8 - (intOf lv).toNat) * 30000 + sliceLen nv)
  case atStart => exact ⟨8, 0, N0, p0, rfl, rfl, rfl, by omega, HVM, HR, Below.refl _ _⟩
  case round =>
    obtain ⟨n, k, N, p, hkn, rfl, rfl, hNl, hview, hgoal, hbr⟩ := hrel
    have HVW := Lib.hid hview.out
    have HG := Lib.hid hgoal.out
    have HBR := Lib.hid hbr
    have hszr := hbr.size
    obtain ⟨q0, q1, q2⟩ := HX.out _ hbr
    clear hview hgoal hbr
    cases N with
    | nil =>
      obtain ⟨na, ncap, rfl, -, -, -⟩ := HVW.out
      have HW := Lib.hid (show R = (p, 0) by rw [HG.out, wayW_nil])
      clear q0 q1 q2
      go_wp2_with fail
      go_ret2
      exact ⟨by rw [HW.out]; rfl, HEND.out _ HBR.out⟩
    | cons x r =>
      obtain ⟨nb, no, ncap, rfl, hc1, hc2, hx0⟩ := wrel_view HVW.out
      unfold maxLen at hc2
      simp only [List.length_cons] at hNl
      obtain ⟨z, hz⟩ : ∃ z, z = (stepW L p x).1 := ⟨_, rfl⟩
      obtain ⟨er, her⟩ : ∃ er, er = (stepW L p x).2 := ⟨_, rfl⟩
      have HST := Lib.hid (show stepW L p x = (z, er) by rw [hz, her])
      have H1 := Lib.hid (grown_call (wb := wr) (fun W hW => by
        have h := step4_any a cap m b p x L HF.out.ins W (HM.out.below (HBR.out.trans (hW.mono hszr)))
        rw [HST.out] at h
        exact h))
      have f0 := grown_cell q0
      have f1 := grown_cell q1
      have f2 := grown_cell q2
      have f3 := grown_cell hx0
      have hi1 : (1 : Int) ≤ ((r.length : Int) + 1) := by omega
      have hi2 : ((r.length : Int) + 1) ≤ (ncap : Int) := by omega
      have hi3 : (0 : Int) < ((r.length : Int) + 1) := by omega
      have hpos : (0 : Int) < ((r.length + 1 : Nat) : Int) := by omega
      clear hz her q0 q1 q2 hx0
      go_wp2_with fail
      refine wp_region_grown (by kernel_rfl) (by kernel_rfl) ?_
      repeat (first | go_big_quiet_skip | (go_big_quiet_want; go_big_quiet_op; (first | go_big_quiet_on | (refine ⟨_, H1.out, ?_⟩; go_big_quiet_on))))
      refine wpQuiet_nil ?_
      intro w8 hw8
      have hbg : Below wr.heap.size wr w8 := by obtain ⟨x, rfl⟩ := hw8; exact x.below
      have HB8 := Lib.hid (HBR.out.trans (hbg.mono hszr))
      have HV8 := Lib.hid (HVW.out.below hbg)
      obtain ⟨q0, q1, q2⟩ := HX.out _ HB8.out
      have hs8 := HB8.out.size
      clear hw8 hbg f0 f1 f2 f3 H1
      cases he : (er != 0) with
      | true =>
        have HW := Lib.hid (show R = (0, er) by rw [HG.out, wayW_err _ _ _ _ _ _ (by rw [HST.out]; simpa using he), HST.out])
        go_wp2_with fail
        go_ret2
        exact ⟨by rw [HW.out]; rfl, HEND.out _ HB8.out⟩
      | false =>
        have he0 : er = 0 := by simpa using he
        subst he0
        have hlive := step_ok HF.out (show (stepW L p x).2 = 0 by rw [HST.out])
        rw [HST.out] at hlive
        obtain ⟨u, hu, hul⟩ := there_nat (live_there hlive)
        have hzu : z = (u : Int) := hu
        subst hzu
        obtain ⟨bb, o, rfl, hx⟩ := (HM.out.below HB8.out).2.2 u hul
        have x0 := hx.kind
        have x3 := hx.data
        have hd0 : (0 : Int) ≤ (u : Int) := by omega
        have hd1 : (u : Int) < (L.length : Int) := by omega
        obtain ⟨ta, hta⟩ : ∃ ta, (if ncap = 1 then (some ⟨nb, no, none⟩ : Option Addr) else some ⟨nb, no + 1, none⟩) = ta := ⟨_, rfl⟩
        have htl := HV8.out.tail
        rw [hta] at htl
        have HTL := Lib.hid htl
        have HND := Lib.hid (node_nat L u hul)
        clear hx hlive hu he htl
        cases hk3 : (L[u].kind != 3) with
        | true =>
          have HGO := Lib.hid (show R = wayW L last n r (u : Int) by rw [HG.out, wayW_on _ _ _ _ _ _ _ HST.out (Or.inl (by rw [HND.out]; simpa using hk3))])
          clear x3
          go_wp2_with fail
          go_roundw
          case rel => exact ⟨n, k, r, (u : Int), hkn, rfl, rfl, by omega, HTL, HGO, HB8.out⟩
          case measure => simp [intOf, sliceLen] <;> omega
        | false =>
          have hk3' : L[u].kind = 3 := by simpa using hk3
          by_cases hlast : r = [] ∧ last = false
          · obtain ⟨rfl, rfl⟩ := hlast
            have HGO := Lib.hid (show R = wayW L false n [] (u : Int) by rw [HG.out, wayW_on _ _ _ _ _ _ _ HST.out (Or.inr ⟨rfl, rfl⟩)])
            clear x3
            go_wp2_with fail
            go_roundw
            case rel => exact ⟨n, k, [], (u : Int), hkn, rfl, rfl, by simp, HTL, HGO, HB8.out⟩
            case measure => simp [intOf, sliceLen] <;> omega
          · have HNL := Lib.hid (show ¬ ((nodeAt L (u : Int)).kind ≠ 3 ∨ (r = [] ∧ last = false)) from fun h => by
              rcases h with h | h
              · exact h (by rw [HND.out]; exact hk3')
              · exact hlast h)
            obtain ⟨hd1024, -⟩ := link_data HF.out.ins (there_of L u hul) (by rw [HND.out]; exact hk3')
            rw [HND.out] at hd1024
            obtain ⟨d, hde⟩ : ∃ d, d = L[u].data := ⟨_, rfl⟩
            rw [← hde] at x3 hd1024
            have HDE := Lib.hid (show (nodeAt L (u : Int)).data = d by rw [HND.out, hde])
            have HTLV := Lib.hid HTL.out
            cases n with
            | zero =>
              obtain rfl : k = 8 := by omega
              have HW := Lib.hid (show R = (0, 40) by rw [HG.out, wayW_loop _ _ _ _ _ _ HST.out HNL.out])
              clear hde x3
              by_cases hr0 : r = []
              · subst hr0
                obtain rfl : last = true := by
                  cases last with
                  | true => rfl
                  | false => exact absurd ⟨rfl, rfl⟩ hlast
                go_wp2_with fail
                go_ret2
                exact ⟨by rw [HW.out]; rfl, HEND.out _ HB8.out⟩
              · have hrl : ((r.length : Int) == 0) = false := by
                  rw [beq_eq_false_iff_ne]
                  exact fun e => hr0 (List.length_eq_zero_iff.1 (by omega))
                clear hr0
                go_wp2_with fail
                go_ret2
                exact ⟨by rw [HW.out]; rfl, HEND.out _ HB8.out⟩
            | succ n =>
              have hk8 : (k : Int) < 8 := by omega
              have HP := Lib.hid (show (partsL d).length ≤ 1025 by have := count_parts d; omega)
              have HGO := Lib.hid (show R = wayW L last n (partsL d ++ r) (if wholeL d then 0 else p) by rw [HG.out, wayW_link _ _ _ _ _ _ _ HST.out HNL.out, HDE.out])
              have hwh := rwhole_any ⟨d.toArray⟩
              have e1 : (⟨d.toArray⟩ : ByteArray).data.toList = d := rfl
              rw [e1] at hwh
              have HWH := Lib.hid hwh
              have hpa := rparts_any ⟨d.toArray⟩ (by show d.toArray.size ≤ _; simp; omega)
              rw [e1] at hpa
              have HPA := Lib.hid hpa
              have HRL := Lib.hid (show r.length ≤ 5000 + k * 2000 by omega)
              clear hde hwh hpa e1 HTL
              have hcase : (((r.length : Int) == 0) = true ∧ last = true) ∨ ((r.length : Int) == 0) = false := by
                by_cases hr0 : r = []
                · subst hr0
                  cases last with
                  | true => exact Or.inl ⟨by simp, rfl⟩
                  | false => exact absurd ⟨rfl, rfl⟩ hlast
                · refine Or.inr ?_
                  rw [beq_eq_false_iff_ne]
                  exact fun e => hr0 (List.length_eq_zero_iff.1 (by omega))
              clear hlast
              rcases hcase with ⟨hrl, rfl⟩ | hrl
              all_goals
                cases hw : wholeL d
                all_goals
                  have HW := Lib.hid hw
                  rw [hw] at HWH HGO
                  clear hw
                  go_wp2_with (first | (go_at_call 53; refine (HWH.out _).mono ?_; rintro e w' ⟨rfl, rfl⟩) | (go_at_call 33; refine (HPA.out _).mono ?_; rintro e w9 ⟨v9, rfl, hT9, hb9⟩; have HV9 := Lib.hid hT9.view; have HB9 := Lib.hid (HB8.out.trans (hb9.mono hs8)); have HTL9 := Lib.hid (HTLV.out.below hb9); have HP2 := Lib.hid HP.out; clear hT9 hb9 HPA) | (at_builtin; refine append_held (B := w9.heap.size) (L := []) (Or.inl ⟨rfl, rfl⟩) HV9.out (by have := HP2.out; simp only [List.length_nil]; omega) (Nat.le_refl _) rfl _ _ rfl rfl rfl ?_; intro v10 w10 hH10 hg10; rw [List.nil_append] at hH10; have hB10 : Below w9.heap.size w9 w10 := (Below.refl _ _).grown hg10 (Nat.le_refl _) (fun k hk => by cases hk); have HTL10 := Lib.hid (HTL9.out.below hB10); have HH10 := Lib.hid hH10; have hs10 := hB10.size; have HB10 := Lib.hid hB10; clear hH10 hg10 hB10 HP2) | (at_builtin; refine append_held HH10.out HTL10.out (by have := HP.out; have := HRL.out; omega) hs10 rfl _ _ rfl rfl rfl ?_; intro v11 w11 hH11 hg11; have HB11 := Lib.hid (HB9.out.trans ((HB10.out.trans ((Below.refl _ _).grown hg11 hs10 (fun k hk => (HH10.out.own hk).1))).mono HB9.out.size)); (obtain ⟨N2, hN2⟩ : ∃ N2, N2 = partsL d ++ r := ⟨_, rfl⟩); rw [← hN2] at hH11; have HN2 := Lib.hid hN2; have HV11 := Lib.hid hH11.view; (obtain ⟨na, nc, hv11⟩ : ∃ na nc, v11 = .slice na N2.length nc := (by obtain ⟨na, nc, e, -⟩ := HV11.out; exact ⟨na, nc, e⟩)); clear hH11 hg11 hN2; subst hv11) | fail)
                  go_roundw
                  case rel => exact ⟨n, k + 1, N2, _, by omega, rfl, by go_num, by have := HP.out; have := HRL.out; rw [HN2.out, List.length_append]; omega, HV11, by rw [HN2.out]; exact HGO, HB11.out⟩
                  case measure =>
                    have := HP.out
                    have := HRL.out
                    have h2 : N2.length = (partsL d).length + r.length := by rw [HN2.out, List.length_append]
                    simp only [intOf, sliceLen]
                    omega
end Go.Proofs.Ytfmaagcomplooaa
