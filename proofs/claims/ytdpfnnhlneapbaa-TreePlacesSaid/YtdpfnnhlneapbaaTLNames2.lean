/-
  tree's namesFit, walked.
-/
import Derived.Test.YtdpfnnhlneapbaaTLNames
namespace Go.Proofs.Ytdpfnnhlneapbaa
open Go Go.RowKit

theorem lmay_yes (kind ino n : Int) (h : MayHave kind ino n) (w : World) : Calls Try.prog 50 #[.int .i64 kind, .int .i64 ino, .int .i64 n] w fun e w' => e = .returned (.bool true) ∧ w' = w :=
  (lmay_any kind ino n w).mono fun e w' h' => by
    obtain ⟨⟨v, h1, h2⟩, h3⟩ := h'
    rw [h1, h2.2 h]
    exact ⟨rfl, h3⟩
theorem lmay_no (kind ino n : Int) (h : ¬ MayHave kind ino n) (w : World) : Calls Try.prog 50 #[.int .i64 kind, .int .i64 ino, .int .i64 n] w fun e w' => e = .returned (.bool false) ∧ w' = w :=
  (lmay_any kind ino n w).mono fun e w' h' => by
    obtain ⟨⟨v, h1, h2⟩, h3⟩ := h'
    have hv : v = false := by
      cases v with
      | false => rfl
      | true => exact absurd (h2.1 rfl) h
    rw [h1, hv]
    exact ⟨rfl, h3⟩

set_option maxRecDepth 100000 in
set_option maxHeartbeats 8000000 in
theorem lnames_any (a : Option Addr) (cap : Nat) (m b : Int) (L : List Ino) (hL : L.length ≤ 1000) (hT : KidsThere L) (w : World) (hN : NodesIn w a cap L) :
    Calls Try.prog 29 #[.agg #[.slice a L.length cap, .int .i64 m, .int .i64 b]] w fun e w' => TellsP (NamesFit L) e ∧ Below w.heap.size w w' := by
  obtain ⟨i0, hi, hz0, hz1, hz2⟩ := info_parts infoInt
  have hb1 := below_box w (.cells #[.slice a L.length cap, .int .i64 m, .int .i64 b] 24)
  obtain ⟨w1, hw1⟩ : ∃ w1, w1 = w.alloc (.cells #[.slice a L.length cap, .int .i64 m, .int .i64 b] 24) := ⟨_, rfl⟩
  have hM := hN.below hb1
  have hsz : w1.heap.size = w.heap.size + 1 := by rw [hw1]; simp
  have hbox : ∀ W', Below w1.heap.size w1 W' → W'.cell? ⟨w.heap.size, 0, none⟩ = some (.slice a L.length cap) ∧ W'.cell? ⟨w.heap.size, 1, none⟩ = some (.int .i64 m) ∧ W'.cell? ⟨w.heap.size, 2, none⟩ = some (.int .i64 b) := fun W' h => box3 (by rw [← hw1]; exact h)
  have hmk : (Instr.makeSlice 51 (.int .i64 (L.length : Int)) (.int .i64 (L.length : Int))).run Try.prog (w.alloc (.cells #[.slice a L.length cap, .int .i64 m, .int .i64 b] 24)) =
      .ok (.slice (some ⟨w.heap.size + 1, 0, none⟩) L.length L.length) ((w.alloc (.cells #[.slice a L.length cap, .int .i64 m, .int .i64 b] 24)).alloc (.cells ((zeros L.length).map intv).toArray 3)) := by
    have h := run_makeSlice (P := Try.prog) (w.alloc (.cells #[.slice a L.length cap, .int .i64 m, .int .i64 b] 24)) 51 3 i0 (.int .i64 0) Try.underlying51 hi hz0 .i64 .i64 (L.length : Int) (L.length : Int) (by omega) (Int.le_refl _) (by rw [hz1]; simp; omega) (by rw [hz2]; omega) (by omega)
    rw [hz1, World.size_alloc, Int.toNat_natCast, made_int] at h
    exact h
  rw [← hw1] at hM hb1
  have HM := Lib.hid hM
  have HB := Lib.hid hb1
  have HT := Lib.hid hT
  have HX := Lib.hid hbox
  have HEND := Lib.hid (show ∀ W', Below w1.heap.size w1 W' → Below w.heap.size w W' from fun W' h => HB.out.trans (h.mono (by rw [hsz]; omega)))
  obtain ⟨w2, hw2⟩ : ∃ w2, w2 = w1.alloc (.cells ((zeros L.length).map intv).toArray 3) := ⟨_, rfl⟩
  have hcnt0 : CountIn w2 (w.heap.size + 1) (zeros L.length) := by rw [hw2, ← hsz]; exact new_block _ _
  have hb12 : Below w1.heap.size w1 w2 := by rw [hw2]; exact below_box _ _
  have HC0 := Lib.hid hcnt0
  have HB12 := Lib.hid hb12
  have HSZ := Lib.hid hsz
  clear hM hN hb1 hT hbox hsz hcnt0 hb12 hi hz0 hz1 hz2
  go_enter Try.func29, Try.ntmps29
  go_wp2_with fail
  rw [← hw1, ← hw2]
  clear hw1 hw2 hmk
  go_loopw [4, 17] (fun _ i wr => NRel L (w.heap.size + 1) w1 i wr) (fun _ i _ => L.length - (intOf i).toNat)
  case atStart => exact ⟨0, by omega, rfl, fun _ _ h => absurd h (Nat.not_lt_zero _), HC0.out, HB12.out⟩
  case round =>
    obtain ⟨d, hd, rfl, hok, hcnt, hbr⟩ := hrel
    have HOK := Lib.hid hok.out
    have HCNT := Lib.hid hcnt
    have HBR := Lib.hid hbr
    have hszr := hbr.size
    obtain ⟨q0, q1, q2⟩ := HX.out _ hbr
    clear hok hcnt hbr
    by_cases hlt : d < L.length
    · obtain ⟨bb, o, rfl, hx⟩ := HM.out.2.2 d hlt
      have x0 := cell_below HBR.out hx.kind
      have x1 := cell_below HBR.out hx.mode
      have x2 := cell_below HBR.out hx.links
      have x3 := cell_below HBR.out hx.data
      obtain ⟨kv, x4', hks⟩ := hx.kids
      have x4 := cell_below HBR.out x4'
      have x5 := cell_below HBR.out hx.up
      have HGB := Lib.hid (cell_lt hx.kind)
      clear x4'
      obtain ⟨M, hMe⟩ : ∃ M, M = L[d].kids := ⟨_, rfl⟩
      rw [← hMe] at hks
      have HTD := Lib.hid (show M.length ≤ 1024 ∧ ∀ e ∈ M, thereB L e.2 = true by rw [hMe]; exact HT.out d hlt)
      have HME := Lib.hid hMe
      obtain ⟨ka, kcap, rfl, hk1, hk2, hk3⟩ := hks
      have HKX := Lib.hid hk3
      have HBA := Lib.hid (show ∀ o, Below w1.heap.size w1 (wr.alloc o) from fun o => HBR.out.alloc hszr o)
      have HBX := Lib.hid (show ∀ o, Below wr.heap.size wr (wr.alloc o) from fun o => below_box wr o)
      unfold maxLen at hk2
      have HKL := Lib.hid (show (kidsOf (L.take d) ++ M).length ≤ 1024000 by
        have h := kidsOf_len 1024 L (fun k h => (HT.out k h).1)
        have h2 := kidsOf_take L d hlt
        rw [← hMe] at h2
        rw [← h2]
        have h3 : (kidsOf (L.take (d + 1))).length ≤ (kidsOf L).length := by
          have h4 := congrArg (fun l => (kidsOf l).length) (List.take_append_drop (d + 1) L)
          simp only [kidsOf, List.flatMap_append, List.length_append] at h4
          unfold kidsOf
          omega
        omega)
      clear hx hMe hk3
      have hd0 : (0 : Int) ≤ (d : Int) := by omega
      go_wp2_with fail
      have HWN := Lib.hid (HBX.out (.cells #[.int .i64 L[d].kind, .int .i64 L[d].mode, .int .i64 L[d].links, .string ⟨L[d].data.toArray⟩, .slice ka M.length kcap, .int .i64 L[d].up] 45))
      have HW1N := Lib.hid (HBA.out (.cells #[.int .i64 L[d].kind, .int .i64 L[d].mode, .int .i64 L[d].links, .string ⟨L[d].data.toArray⟩, .slice ka M.length kcap, .int .i64 L[d].up] 45))
      obtain ⟨wn, hwn⟩ : ∃ wn, wn = wr.alloc (.cells #[.int .i64 L[d].kind, .int .i64 L[d].mode, .int .i64 L[d].links, .string ⟨L[d].data.toArray⟩, .slice ka M.length kcap, .int .i64 L[d].up] 45) := ⟨_, rfl⟩
      rw [← hwn] at HWN HW1N
      rw [← hwn]
      have HCN := Lib.hid (show CountIn wn (w.heap.size + 1) (bump (zeros L.length) (kidsOf (L.take d))) by rw [hwn]; exact HCNT.out.below (below_box _ _))
      clear hwn x0 x1 x2 x3 x4 x5 q0 q1 q2
      go_loopw [25] (fun i W => NRel2 L (w.heap.size + 1) d M w1 wn i W) (fun i _ => M.length - (intOf i).toNat)
      case atStart => exact ⟨0, by omega, rfl, fun _ _ h => absurd h (Nat.not_lt_zero _), by rw [List.take_zero, List.append_nil]; exact HCN.out, HW1N.out, Nat.le_refl _⟩
      case round =>
        obtain ⟨j, hj, rfl, hok2, hcnt2, hbr2, hszn⟩ := hrel
        have HOK2 := Lib.hid hok2.out
        have HCNT2 := Lib.hid hcnt2
        have HBR2 := Lib.hid hbr2
        have hszr2 := hbr2.size
        clear hok2 hcnt2 hbr2
        by_cases hjl : j < M.length
        · obtain ⟨c1, p1, rfl, y0', y1'⟩ := HKX.out j hjl
          have gc : c1 < w.heap.size + 1 := by have h := cell_lt y0'; have h2 := HSZ.out; show c1 < _; rw [h2] at h; exact h
          have y0 := cell_below HBR2.out y0'
          have y1 := cell_below HBR2.out y1'
          obtain ⟨u, hu1, hu2⟩ := there_nat (HTD.out.2 M[j] (List.getElem_mem _))
          rw [hu1] at y1
          have HU1 := Lib.hid hu1
          have hclen : (bump (zeros L.length) (kidsOf (L.take d) ++ M.take j)).length = L.length := by rw [bump_len]; simp [zeros]
          have hcu := HCNT2.out.cell u (by rw [hclen]; exact hu2)
          have hcf := HCNT2.out.frozen u
          obtain ⟨z, hz⟩ : ∃ z, z = (bump (zeros L.length) (kidsOf (L.take d) ++ M.take j))[u]'(by rw [hclen]; exact hu2) := ⟨_, rfl⟩
          rw [← hz] at hcu
          have hzl : 0 ≤ z ∧ z ≤ 1024000 := by
            have h := low_bump (kidsOf (L.take d) ++ M.take j) (zeros L.length) 0 (Int.le_refl _) (low_zeros _) z (by rw [hz]; exact List.getElem_mem _)
            have h2 := HKL.out
            simp only [List.length_append, List.length_take] at h h2
            omega
          obtain ⟨hzl0, hzl1⟩ := hzl
          have HBUMP := Lib.hid (show (bump (zeros L.length) (kidsOf (L.take d) ++ M.take j)).set u (z + 1) = bump (zeros L.length) (kidsOf (L.take d) ++ M.take (j + 1)) by
            rw [List.take_succ_eq_append_getElem hjl, ← List.append_assoc, bump_app _ [M[j]]]
            show _ = bump1 _ _
            unfold bump1
            rw [hu1, Int.toNat_natCast, List.getD_eq_getElem?_getD, List.getElem?_eq_getElem (by rw [hclen]; exact hu2), ← hz]
            rfl)
          have HBS := Lib.hid (show ∀ o v, Below w1.heap.size w1 ((wr.setCell ⟨w.heap.size + 1, u, none⟩ v).alloc o) from fun o v => (HBR2.out.setCell (p := ⟨w.heap.size + 1, u, none⟩) (by rw [HSZ.out]; exact Nat.le_refl _) v).alloc (by simpa [World.setCell] using hszr2) o)
          have gC : w.heap.size + 1 < wr.heap.size := (Array.getElem?_eq_some_iff.1 HCNT2.out).1
          have gc2 : c1 < wr.heap.size := by omega
          obtain ⟨q0, q1, q2⟩ := HX.out _ HBR2.out
          have gw : w.heap.size < wr.heap.size := by omega
          have hu0 : (0 : Int) ≤ (u : Int) := by omega
          have hul : (u : Int) < (L.length : Int) := by omega
          obtain ⟨b2, o2, e2, hy⟩ := HM.out.2.2 u hu2
          obtain ⟨rfl, rfl⟩ : b2 = bb ∧ o2 = o := by simpa [eq_comm] using e2
          have HXU := Lib.hid hy.up
          have HCS := Lib.hid (show ∀ o, CountIn ((wr.setCell ⟨w.heap.size + 1, u, none⟩ (.int .i64 (z + 1))).alloc o) (w.heap.size + 1) (bump (zeros L.length) (kidsOf (L.take d) ++ M.take (j + 1))) by intro o; rw [← HBUMP.out]; exact (HCNT2.out.set u (z + 1)).below (below_box _ o))
          have HNODE := Lib.hid (show nodeAt L M[j].2 = L[u] by rw [hu1, node_nat L u hu2])
          clear e2 hy hu1 hz hclen y0' y1'
          go_wp2_with fail
          obtain ⟨Wc, hWc⟩ : ∃ Wc, Wc = (wr.setCell ⟨w.heap.size + 1, u, none⟩ (.int .i64 (z + 1))).alloc (.cells #[.string ⟨M[j].1.toArray⟩, .int .i64 u] 49) := ⟨_, rfl⟩
          rw [← hWc]
          have HBC := Lib.hid (show Below w1.heap.size w1 Wc by rw [hWc]; exact HBS.out _ _)
          have HCC := Lib.hid (show CountIn Wc (w.heap.size + 1) (bump (zeros L.length) (kidsOf (L.take d) ++ M.take (j + 1))) by rw [hWc]; exact HCS.out _)
          have hss : (wr.setCell ⟨w.heap.size + 1, u, none⟩ (.int .i64 (z + 1))).heap.size = wr.heap.size := by simp [World.setCell]
          have HEC := Lib.hid (show Wc.cell? ⟨wr.heap.size, 1, none⟩ = some (.int .i64 u) by
            rw [hWc, ← hss]
            exact (by simp only [World.cell?, new_block]; rfl))
          have HSC := Lib.hid (show wr.heap.size < Wc.heap.size by rw [hWc]; simp [World.setCell])
          clear hWc hss y0 y1 q0 q1 q2 hcu hcf
          cases hdu : dirB L (u : Int) with
          | false =>
            have HD := Lib.hid hdu
            have hnext := Lib.hid (show ∀ i (h : i < M.length), i < j + 1 → dirB L M[i].2 = true → (nodeAt L M[i].2).up = d from fun i h hi hdi => by
              by_cases e : i = j
              · subst e
                rw [HU1.out, hdu] at hdi
                cases hdi
              · exact HOK2.out i h (by omega) hdi)
            clear hdu
            refine (lisdir_known _ _ _ _ _ L _ HD.out _ (HM.out.below HBC.out)).mono ?_
            rintro e w3 ⟨rfl, hb3⟩
            have HB3 := Lib.hid (HBC.out.trans (hb3.mono HBC.out.size))
            have HC3 := Lib.hid (HCC.out.below hb3)
            have hs3 : wn.heap.size ≤ w3.heap.size := by have := hb3.size; have := HSC.out; omega
            clear hb3
            go_wp2_with fail
            go_roundw
            case rel => exact ⟨j + 1, by omega, by go_num, hnext, HC3.out, HB3.out, hs3⟩
            case measure => simp [intOf] <;> omega
          | true =>
            have HD := Lib.hid hdu
            clear hdu
            refine (lisdir_known _ _ _ _ _ L _ HD.out _ (HM.out.below HBC.out)).mono ?_
            rintro e w3 ⟨rfl, hb3⟩
            have HB3 := Lib.hid (HBC.out.trans (hb3.mono HBC.out.size))
            have HC3 := Lib.hid (HCC.out.below hb3)
            have hs3 : wn.heap.size ≤ w3.heap.size := by have := hb3.size; have := HSC.out; omega
            have e1 := cell_below hb3 HEC.out
            obtain ⟨q0, q1, q2⟩ := HX.out _ HB3.out
            have xu := cell_below HB3.out HXU.out
            clear hb3
            by_cases hud : L[u].up = (d : Int)
            · have hnext := Lib.hid (show ∀ i (h : i < M.length), i < j + 1 → dirB L M[i].2 = true → (nodeAt L M[i].2).up = d from fun i h hi hdi => by
                by_cases e : i = j
                · subst e
                  rw [HNODE.out]
                  exact hud
                · exact HOK2.out i h (by omega) hdi)
              have hudb : (L[u].up != (d : Int)) = false := by simpa using hud
              clear hud
              go_wp2_with fail
              go_roundw
              case rel => exact ⟨j + 1, by omega, by go_num, hnext, HC3.out, HB3.out, hs3⟩
              case measure => simp [intOf] <;> omega
            · have hno := Lib.hid (show ¬ NamesFit L from fun h => hud (by
                have h1 := h.1 d hlt M[j] (by rw [← HME.out]; exact List.getElem_mem _) (by rw [HU1.out]; exact HD.out)
                rw [HNODE.out] at h1
                exact h1))
              have hudb : (L[u].up != (d : Int)) = true := by simpa using hud
              clear hud
              go_wp2_with fail
              go_ret
              exact ⟨TellsP.no rfl hno.out, HEND.out _ HB3.out⟩
        · have hnext := Lib.hid (show ∀ d' (h : d' < L.length), d' < d + 1 → ∀ e ∈ L[d'].kids, dirB L e.2 = true → (nodeAt L e.2).up = d' from fun d' h hd' e he hde => by
            by_cases ed : d' = d
            · subst ed
              rw [← HME.out] at he
              obtain ⟨i, hi, rfl⟩ := List.getElem_of_mem he
              exact HOK2.out i hi (by omega) hde
            · exact HOK.out d' h (by omega) e he hde)
          have HC3 := Lib.hid (show CountIn wr (w.heap.size + 1) (bump (zeros L.length) (kidsOf (L.take (d + 1)))) by
            rw [kidsOf_take L d hlt, ← HME.out]
            have h := HCNT2.out
            rw [List.take_of_length_le (show M.length ≤ j by omega)] at h
            exact h)
          go_wp2_with fail
          go_roundw
          case rel => exact ⟨d + 1, by omega, by go_num, hnext, HC3.out, HBR2.out⟩
          case measure => simp [intOf] <;> omega
    · have HUP := Lib.hid (show UpFits L from fun d' h => HOK.out d' h (by omega))
      have HC3 := Lib.hid (show CountIn wr (w.heap.size + 1) (countL L) by
        have h := HCNT.out
        rw [List.take_of_length_le (show L.length ≤ d by omega)] at h
        exact h)
      clear HCNT HOK
      go_wp2_with fail
      have HBR0 := Lib.hid HBR.out
      clear HBR hszr
      go_loopw [8, 56] (fun _ i W => NRel3 L (w.heap.size + 1) w1 i W) (fun _ i _ => L.length - (intOf i).toNat)
      case atStart => exact ⟨0, by omega, rfl, fun _ _ h => absurd h (Nat.not_lt_zero _), HC3.out, HBR0.out⟩
      case round =>
        obtain ⟨i, hi, rfl, hok, hcnt, hbr⟩ := hrel
        have HOK := Lib.hid hok.out
        have HCNT := Lib.hid hcnt
        have HBR := Lib.hid hbr
        have hszr := hbr.size
        clear hok hcnt hbr HC3
        by_cases hlt' : i < L.length
        · obtain ⟨bb, o, rfl, hx⟩ := HM.out.2.2 i hlt'
          have x0 := cell_below HBR.out hx.kind
          have x1 := cell_below HBR.out hx.mode
          have x2 := cell_below HBR.out hx.links
          have x3 := cell_below HBR.out hx.data
          obtain ⟨kv, x4', hks⟩ := hx.kids
          have x4 := cell_below HBR.out x4'
          have x5 := cell_below HBR.out hx.up
          obtain ⟨ka, kcap, rfl, -, -, -⟩ := hks
          have hcu := HCNT.out.cell i (by rw [countL_len]; exact hlt')
          obtain ⟨z, hz⟩ : ∃ z, z = (countL L)[i]'(by rw [countL_len]; exact hlt') := ⟨_, rfl⟩
          rw [← hz] at hcu
          have HZ := Lib.hid hz
          have gC : w.heap.size + 1 < wr.heap.size := (Array.getElem?_eq_some_iff.1 HCNT.out).1
          have hi0 : (0 : Int) ≤ (i : Int) := by omega
          have hil : (i : Int) < (L.length : Int) := by omega
          have HBA := Lib.hid (show ∀ o n, Below w1.heap.size w1 ((wr.alloc o).drewN n) from fun o n => (by have h := HBR.out.alloc hszr o; exact ⟨h.os, h.tape, h.output, h.size, h.block⟩))
          have HCA := Lib.hid (show ∀ o n, CountIn ((wr.alloc o).drewN n) (w.heap.size + 1) (countL L) from fun o n => (show CountIn (wr.alloc o) (w.heap.size + 1) (countL L) from HCNT.out.below (below_box wr o)))
          clear hx x4' hz
          by_cases hlk : L[i].links = z
          · have hlb : (L[i].links != z) = false := by simpa using hlk
            have HLK := Lib.hid hlk
            clear hlk
            by_cases hmay : MayHave L[i].kind (i : Int) z
            · have HMY := Lib.hid hmay
              have hnext := Lib.hid (show ∀ k (h : k < L.length), k < i + 1 → L[k].links = (countL L)[k]'(by rw [countL_len]; exact h) ∧ MayHave L[k].kind k ((countL L)[k]'(by rw [countL_len]; exact h)) from fun k h hk => by
                by_cases e : k = i
                · subst e
                  rw [← HZ.out]
                  exact ⟨HLK.out, HMY.out⟩
                · exact HOK.out k h (by omega))
              clear hmay
              go_wp2_with fail
              go_quiet ((go_at_call 50; exact Calls.quiet_of_same (lmay_yes _ _ _ HMY.out _)))
              go_wp2_with fail
              go_roundw
              case rel => exact ⟨i + 1, by omega, by go_num, hnext, HCA.out _ _, HBA.out _ _⟩
              case measure => simp [intOf] <;> omega
            · have HMY := Lib.hid hmay
              have hno := Lib.hid (show ¬ NamesFit L from fun h => hmay (by rw [HZ.out]; exact (h.2 i hlt').2))
              clear hmay
              go_wp2_with fail
              go_quiet ((go_at_call 50; exact Calls.quiet_of_same (lmay_no _ _ _ HMY.out _)))
              go_wp2_with fail
              go_ret
              exact ⟨TellsP.no rfl hno.out, HEND.out _ (HBA.out _ _)⟩
          · have hlb : (L[i].links != z) = true := by simpa using hlk
            have hno := Lib.hid (show ¬ NamesFit L from fun h => hlk (by rw [HZ.out]; exact (h.2 i hlt').1))
            clear hlk
            go_wp2_with fail
            go_quiet (fail)
            go_wp2_with fail
            go_ret
            exact ⟨TellsP.no rfl hno.out, HEND.out _ (HBA.out _ _)⟩
        · have hall := Lib.hid (show NamesFit L from ⟨HUP.out, fun k h => HOK.out k h (by omega)⟩)
          go_wp2_with fail
          go_ret
          exact ⟨TellsP.yes rfl hall.out, HEND.out _ HBR.out⟩
end Go.Proofs.Ytdpfnnhlneapbaa
