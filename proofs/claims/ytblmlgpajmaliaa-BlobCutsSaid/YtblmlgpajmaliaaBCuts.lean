/-
  The law BlobCuts, walked.
-/
import Derived.BigQuiet
import Derived.Lib.OthersKept
import Derived.Laws.RangeAny
import Derived.Test.YtblmlgpajmaliaaBAwake
import Derived.Test.YtblmlgpajmaliaaBGood
import Derived.Test.YtblmlgpajmaliaaDFit
import Derived.Test.YtblmlgpajmaliaaDSame
import Derived.Test.YtblmlgpajmaliaaBLaw
namespace Go.Proofs.Ytblmlgpajmaliaa
set_option maxRecDepth 100000
open Go Go.RowKit

theorem wide_pos (s : ByteArray) (i : Nat) : 1 ≤ (Utf8.decode s i).2 := by
  unfold Utf8.decode
  simp only
  repeat' split
  all_goals simp
theorem byte_at {s : ByteArray} {l : List UInt8} (h : s.data.toList = l) {i : Nat} (hi : i < s.size) {x : UInt8} (hx : l[i]? = some x) : s[i] = x := by
  subst h
  have h2 : s.data.toList[i]? = some s[i] := by
    rw [List.getElem?_eq_getElem (by rw [Array.length_toList]; exact hi)]
    rfl
  rw [h2] at hx
  exact Option.some.inj hx
theorem own_byte {s : ByteArray} {l : List UInt8} (h : s.data.toList = l) {i : Nat} (hi : i < s.size) : l[i]? = some s[i] := by
  subst h
  rw [List.getElem?_eq_getElem (by rw [Array.length_toList]; exact hi)]
  rfl
/-- An iterator that has not come to the text's end; all that was there is as it was. -/
def IterAt (B : Nat) (E : ByteArray) (wk wr : World) : Prop := (∃ pos, wr.heap[B]? = some (.stringIter E pos)) ∧ Below B wk wr

set_option maxHeartbeats 16000000 in
theorem bcuts_walk (a : Option Addr) (cap : Nat) (m b ino n : Int) (L : List Ino) (hS : Sized L) (w : World) (hN : NodesIn w a cap L) :
    Calls Try.prog 6 #[.agg #[.slice a L.length cap, .int .i64 m, .int .i64 b], .int .i64 ino, .int .i64 n] w fun e w' => e = .returned (.bool true) ∧ Below w.heap.size w w' := by
  obtain ⟨w1, hw1⟩ : ∃ w1, w1 = w.alloc (.cells #[.slice a L.length cap, .int .i64 m, .int .i64 b] 24) := ⟨_, rfl⟩
  have hb1 : Below w.heap.size w w1 := by rw [hw1]; exact below_box w _
  have hX : w1.heap[w.heap.size]? = some (.cells #[.slice a L.length cap, .int .i64 m, .int .i64 b] 24 (0, 0)) := by rw [hw1]; exact new_block w _
  have hs1 : w1.heap.size = w.heap.size + 1 := by rw [hw1]; simp
  have HX := Lib.hid (show ∀ W, Below w1.heap.size w1 W → W.cell? ⟨w.heap.size, 0, none⟩ = some (.slice a L.length cap) ∧ W.cell? ⟨w.heap.size, 1, none⟩ = some (.int .i64 m) ∧ W.cell? ⟨w.heap.size, 2, none⟩ = some (.int .i64 b) from fun W hW => by
    have h := (hW.block w.heap.size (by omega)).trans hX
    exact ⟨blk_cell h 0, blk_cell h 1, blk_cell h 2⟩)
  have HEND := Lib.hid (show ∀ W', Below w1.heap.size w1 W' → Below w.heap.size w W' from fun W' h => hb1.trans (h.mono (by omega)))
  have HM := Lib.hid (show ∀ W', Below w1.heap.size w1 W' → NodesIn W' a cap L from fun W' h => hN.below (hb1.trans (h.mono (by omega))))
  have HS := Lib.hid hS
  have hsw : w.heap.size ≤ w1.heap.size := by omega
  clear hN hb1 hX hS hs1
  go_enter Try.func6, Try.ntmps6
  go_wp2_with fail
  rw [← hw1]
  clear hw1
  refine (good7_any a cap m b L HS.out _ (HM.out _ (Below.refl _ _))).mono ?_
  rintro e w3 ⟨⟨v, rfl, hv⟩, hb3⟩
  have HV := Lib.hid hv
  have HB3 := Lib.hid hb3
  have hs3 := hb3.size
  obtain ⟨q0, q1, q2⟩ := HX.out _ hb3
  have hq := cell_lt q0
  clear hv hb3
  cases v with
  | false =>
    clear q0 q1 q2 hq
    go_wp2_with fail
    refine (awake7 _).mono ?_
    rintro e wz ⟨rfl, hbz⟩
    have HBZ := Lib.hid (HB3.out.trans (hbz.mono HB3.out.size))
    clear hbz
    go_wp2_with fail
    go_ret
    exact ⟨rfl, HEND.out _ HBZ.out⟩

  | true =>
    obtain ⟨hl, hF⟩ := HV.out rfl
    have HF := Lib.hid hF
    have hL0 : 0 < L.length := by have := hF.limits; obtain ⟨_, _, _, _, _⟩ := this; omega
    clear hF HV HS
    obtain ⟨⟨La, ea⟩, hza⟩ : ∃ r, cutW L b ino n = r := ⟨_, rfl⟩
    have HLA := Lib.hid (cut_len HF.out hza)
    have HFA := Lib.hid (cut_fit HF.out hza)
    have HOA := Lib.hid (show ea ≠ 0 → La = L from (cut_ok HF.out hza).2)
    have HOK := Lib.hid (show ea = 0 → _ from (cut_ok HF.out hza).1)
    have HZA := Lib.hid hza
    clear hza
    go_wp2_with fail
    clear q0 q1 q2 hq
    refine (lcut7 _ _ _ _ ino n L HF.out La ea HZA.out _ (HM.out _ HB3.out)).mono ?_
    rintro e w4 ⟨⟨gA, cA, he, hN5⟩, hb⟩
    have he' : e = .returned (.tuple #[.agg #[.slice gA La.length cA, .int .i64 m, .int .i64 b], .int .i64 ea]) := he
    subst he'
    have NDA' := Lib.hid hN5
    have HB4 := Lib.hid (HB3.out.trans (hb.mono HB3.out.size))
    have hs4 := hb.size
    clear he hN5 hb
    have NDA := NDA'
    clear NDA'
    obtain ⟨q0, q1, q2⟩ := HX.out _ HB4.out
    have hq := cell_lt q0
    obtain ⟨w5, hw⟩ : ∃ p, p = w4.alloc (.cells #[.slice gA La.length cA, .int .i64 m, .int .i64 b] 24) := ⟨_, rfl⟩
    have hb : Below w4.heap.size w4 w5 := by rw [hw]; exact below_box w4 _
    have hz5 : w4.heap.size + 1 ≤ w5.heap.size ∧ w5.heap.size ≤ w4.heap.size + 1 := by rw [hw, World.size_alloc]; exact ⟨Nat.le_refl _, Nat.le_refl _⟩
    have KBA' := Lib.hid (show w5.heap[w4.heap.size]? = some (.cells #[.slice gA La.length cA, .int .i64 m, .int .i64 b] 24 (0, 0)) by rw [hw]; exact new_block w4 _)
    have HB5 := Lib.hid (HB4.out.trans (hb.mono HB4.out.size))
    have hs5 := hb.size
    replace NDA := Lib.hid (NDA.out.below hb)
    clear hb
    have KBA := KBA'
    clear KBA'
    go_upto_region 4 with fail
    rw [← hw]
    clear hw q0 q1 q2 hq
    obtain ⟨q0, q1, q2⟩ := HX.out _ HB5.out
    have hq := cell_lt q0
    by_cases h0 : ea = 0
    · subst h0
      have u0 := blk_cell KBA.out 0
      have u1 := blk_cell KBA.out 1
      have u2 := blk_cell KBA.out 2
      have ul := lt_of_block KBA.out
      obtain ⟨k, o1, hk, rfl, rfl, hk1, ho1, hLa, -⟩ := HOK.out rfl
      have hLa2 : La.length ≤ 300 := by rw [HLA.out]; exact hl
      have hka : k < La.length := by rw [HLA.out]; exact hk
      have hdat : La[k].data = cutL L[k].data o1 := by
        have h3 := data_get hk (cutL L[k].data o1) (by rw [data_len]; exact hk)
        subst hLa
        rw [h3]
      have HDAT := Lib.hid hdat
      clear hdat
      have hk0 : (0 : Int) ≤ (k : Int) := by omega
      have hkl : (k : Int) < (L.length : Int) := by omega
      have hkla : (k : Int) < (La.length : Int) := by omega
      have hk0d : decide ((k : Int) < 0) = false := decide_eq_false (by omega)
      have hkld : decide ((L.length : Int) ≤ (k : Int)) = false := decide_eq_false (by omega)
      have ho0d : decide ((o1 : Int) < 0) = false := decide_eq_false (by omega)
      have HLE := Lib.hid hLa
      clear hLa
      have HBC := Lib.hid (Below.refl w5.heap.size w5)
      have HXW := Lib.hid (show ∀ W, Below w5.heap.size w5 W → (W.cell? ⟨w.heap.size, 0, none⟩ = some (.slice a L.length cap) ∧ W.cell? ⟨w.heap.size, 1, none⟩ = some (.int .i64 m) ∧ W.cell? ⟨w.heap.size, 2, none⟩ = some (.int .i64 b)) ∧ (W.cell? ⟨w4.heap.size, 0, none⟩ = some (.slice gA La.length cA) ∧ W.cell? ⟨w4.heap.size, 1, none⟩ = some (.int .i64 m) ∧ W.cell? ⟨w4.heap.size, 2, none⟩ = some (.int .i64 b)) ∧ NodesIn W a cap L ∧ NodesIn W gA cA La from fun W hW => by
        have h := (hW.block _ (lt_of_block KBA.out)).trans KBA.out
        exact ⟨HX.out W (HB5.out.trans (hW.mono HB5.out.size)), ⟨blk_cell h 0, blk_cell h 1, blk_cell h 2⟩, HM.out W (HB5.out.trans (hW.mono HB5.out.size)), NDA.out.below hW⟩)
      go_wp2_with (first | (go_at_call 17; refine (rfit_yes6 gA cA m b La hLa2 HFA.out _ NDA.out).mono ?_; rintro e w6 ⟨rfl, hb⟩; have HBC := Lib.hid (HBC.out.trans (hb.mono HBC.out.size)); have hs6 := hb.size; clear hb q0 q1 q2 hq u0 u1 u2 ul; obtain ⟨⟨q0, q1, q2⟩, ⟨u0, u1, u2⟩, -, -⟩ := HXW.out _ HBC.out; have hq := cell_lt q0; have ul := cell_lt u0) | fail)
      obtain ⟨-, -, hN6, hNA6⟩ := HXW.out _ HBC.out
      obtain ⟨bb, o, ha, hx⟩ := hN6.2.2 k hk
      obtain ⟨bb2, o2, ha2, hy⟩ := hNA6.2.2 k hka
      subst ha ha2
      have x3 := hx.data
      have y3 := hy.data
      have hxl := cell_lt x3
      have hyl := cell_lt y3
      obtain ⟨D, hD⟩ : ∃ D : ByteArray, D = ⟨L[k].data.toArray⟩ := ⟨_, rfl⟩
      obtain ⟨E, hE⟩ : ∃ E : ByteArray, E = ⟨La[k].data.toArray⟩ := ⟨_, rfl⟩
      rw [← hD] at x3
      rw [← hE] at y3
      have hDl : D.data.toList = L[k].data := by rw [hD]
      have hEl : E.data.toList = cutL L[k].data o1 := by rw [hE, ← HDAT.out]
      have hEs : E.size = o1 := by
        have h : E.size = (cutL L[k].data o1).length := by rw [← hEl]; exact Array.length_toList.symm
        rw [h, cutL_len]
      have hDs : D.size = L[k].data.length := by rw [← hDl]; exact Array.length_toList.symm
      subst hEs
      have HDL := Lib.hid hDl
      have HEL := Lib.hid hEl
      have HDS := Lib.hid hDs
      clear hx hy hN6 hNA6 hD hE hDl hEl hDs
      go_quiet (fail)
      obtain ⟨wq, hwq⟩ : ∃ p, p = w6.drewN nq := ⟨_, rfl⟩
      have hbq : Below w6.heap.size w6 wq := by rw [hwq]; exact ⟨rfl, rfl, rfl, Nat.le_refl _, fun _ _ => rfl⟩
      rw [← hwq]
      have HBC := Lib.hid (HBC.out.trans (hbq.mono HBC.out.size))
      have hsq := hbq.size
      clear hwq hbq x3 y3 hxl hyl q0 q1 q2 hq u0 u1 u2 ul
      go_wp2_with fail
      go_loopw [11] (fun _ wr => IterAt wq.heap.size E wq wr) (fun _ wr => E.size - wr.iterPos wq.heap.size)
      case atStart => exact ⟨⟨0, World.iter_heap _ _ _⟩, (Below.refl _ _).alloc (Nat.le_refl _) _⟩
      case round =>
        obtain ⟨⟨pos, hit⟩, hbr⟩ := hrel
        have HBR := Lib.hid hbr
        have hzr : wq.heap.size < wr.heap.size := lt_of_block hit
        by_cases hp : pos < E.size
        · have hnx : ∀ ty, (Instr.next (.pointer (some ⟨wq.heap.size, 0, none⟩)) true ty).run Try.prog wr = _ := fun ty => Lib.run_next_any_at wr wq.heap.size E pos ty hit hp
          have hwd := wide_pos E pos
          obtain ⟨wd, hwde⟩ : ∃ wd, wd = (Utf8.decode E pos).2 := ⟨_, rfl⟩
          rw [← hwde] at hnx hwd
          have HIT := Lib.hid (Lib.iterAt_heap wr wq.heap.size E pos (pos + wd) hit)
          have HBI := Lib.hid (Lib.below_iterAt hbr (k := wq.heap.size) (Nat.le_refl _) E (pos + wd))
          have HPO := Lib.hid hit
          have hp0 : (0 : Int) ≤ (pos : Int) := by omega
          have hp1 : (pos : Int) < (E.size : Int) := by omega
          clear hit hbr hwde
          by_cases hd : pos < D.size
          · have hd1 : (pos : Int) < (D.size : Int) := by omega
            have hd1d : decide ((pos : Int) < (D.size : Int)) = true := decide_eq_true hd1
            have hd2d : decide ((D.size : Int) ≤ (pos : Int)) = false := decide_eq_false (by omega)
            have hd3d : decide (D.size ≤ pos) = false := decide_eq_false (by omega)
            have hd4d : decide (pos < D.size) = true := decide_eq_true hd
            have hbyte : E[pos] = D[pos] := byte_at HEL.out hp (by rw [cutL_get, if_pos hp, if_pos (by rw [← HDS.out]; exact hd)]; exact own_byte HDL.out hd)
            go_wp2_with fail
            go_quiet (fail)
            obtain ⟨wy, hwy⟩ : ∃ p, p = (wr.iterAt wq.heap.size E (pos + wd)).drewN nq := ⟨_, rfl⟩
            rw [← hwy]
            have hiy : wy.heap[wq.heap.size]? = some (.stringIter E (pos + wd)) := by rw [hwy]; exact HIT.out
            have hby : Below wq.heap.size wq wy := by rw [hwy]; exact HBI.out.trans ⟨rfl, rfl, rfl, Nat.le_refl _, fun _ _ => rfl⟩
            have HIY := Lib.hid hiy
            have HBY := Lib.hid hby
            clear hwy hiy hby
            go_wp2_with fail
            go_roundw
            case rel => exact ⟨⟨_, HIY.out⟩, HBY.out⟩
            case measure =>
              simp only [World.iterPos, HIY.out, HPO.out]
              omega
          · have hd1d : decide ((pos : Int) < (D.size : Int)) = false := decide_eq_false (by omega)
            have hd2d : decide ((D.size : Int) ≤ (pos : Int)) = true := decide_eq_true (by omega)
            have hd3d : decide (D.size ≤ pos) = true := decide_eq_true (by omega)
            have hd4d : decide (pos < D.size) = false := decide_eq_false hd
            have hbyte : E[pos] = 0 := byte_at HEL.out hp (by rw [cutL_get, if_pos hp, if_neg (by rw [← HDS.out]; exact hd)])
            go_wp2_with fail
            go_quiet (fail)
            obtain ⟨wy, hwy⟩ : ∃ p, p = (wr.iterAt wq.heap.size E (pos + wd)).drewN nq := ⟨_, rfl⟩
            rw [← hwy]
            have hiy : wy.heap[wq.heap.size]? = some (.stringIter E (pos + wd)) := by rw [hwy]; exact HIT.out
            have hby : Below wq.heap.size wq wy := by rw [hwy]; exact HBI.out.trans ⟨rfl, rfl, rfl, Nat.le_refl _, fun _ _ => rfl⟩
            have HIY := Lib.hid hiy
            have HBY := Lib.hid hby
            clear hwy hiy hby
            go_wp2_with fail
            go_roundw
            case rel => exact ⟨⟨_, HIY.out⟩, HBY.out⟩
            case measure =>
              simp only [World.iterPos, HIY.out, HPO.out]
              omega
        · have hnx : ∀ ty, (Instr.next (.pointer (some ⟨wq.heap.size, 0, none⟩)) true ty).run Try.prog wr = _ := fun ty => Lib.run_next_end_at wr wq.heap.size E pos ty hit hp
          have HBC := Lib.hid (HBC.out.trans (HBR.out.mono HBC.out.size))
          obtain ⟨⟨q0, q1, q2⟩, -, -, -⟩ := HXW.out _ HBC.out
          have hq := cell_lt q0
          clear hbr hit
          have HSELF := Lib.hid (show cutW L b (k : Int) (D.size : Int) = (L, 0) by
            rw [HDS.out]
            refine cut_self HF.out hk hk1 ?_
            have h1 := (fit_small HF.out).2.1
            have h2 := used_ge L k hk
            omega)
          go_wp2_with fail
          refine (lcut7 _ cap m b k D.size L HF.out L 0 HSELF.out _ (HXW.out _ HBC.out).2.2.1).mono ?_
          rintro e w8 ⟨⟨gV, cV, he, hN5⟩, hb⟩
          have he' : e = .returned (.tuple #[.agg #[.slice gV L.length cV, .int .i64 m, .int .i64 b], .int .i64 0]) := he
          subst he'
          have NDV := Lib.hid hN5
          have HBC := Lib.hid (HBC.out.trans (hb.mono HBC.out.size))
          clear he hN5 hb q0 q1 q2 hq
          obtain ⟨w9, hw⟩ : ∃ p, p = w8.alloc (.cells #[.slice gV L.length cV, .int .i64 m, .int .i64 b] 24) := ⟨_, rfl⟩
          have hb : Below w8.heap.size w8 w9 := by rw [hw]; exact below_box w8 _
          have KBV := Lib.hid (show w9.heap[w8.heap.size]? = some (.cells #[.slice gV L.length cV, .int .i64 m, .int .i64 b] 24 (0, 0)) by rw [hw]; exact new_block w8 _)
          have HBC := Lib.hid (HBC.out.trans (hb.mono HBC.out.size))
          have NDV := Lib.hid (NDV.out.below hb)
          clear hb
          go_upto_region 17 with fail
          rw [← hw]
          clear hw
          obtain ⟨⟨q0, q1, q2⟩, -, -, -⟩ := HXW.out _ HBC.out
          have hq := cell_lt q0
          have v0 := blk_cell KBV.out 0
          have v1 := blk_cell KBV.out 1
          have v2 := blk_cell KBV.out 2
          have vl := lt_of_block KBV.out

          have hLl : L.length ≤ 1000 := by omega
          go_wp2_with (first | (go_at_call 16; refine (rsame6 _ gV cap cV m b L hLl _ (HXW.out _ HBC.out).2.2.1 NDV.out).mono ?_; rintro e wz ⟨rfl, hb⟩; have HBC := Lib.hid (HBC.out.trans (hb.mono HBC.out.size)); clear hb) | (go_at_call 9; refine (awake7 _).mono ?_; rintro e wz ⟨rfl, hb⟩; have HBC := Lib.hid (HBC.out.trans (hb.mono HBC.out.size)); clear hb) | fail)
          go_ret
          exact ⟨by rfl, HEND.out _ (HB5.out.trans (HBC.out.mono HB5.out.size))⟩

    · have he := HOA.out h0
      subst he
      have h0b : (ea != 0) = true := by simpa using h0
      have HBC := Lib.hid (Below.refl w5.heap.size w5)
      have u0 := blk_cell KBA.out 0
      have u1 := blk_cell KBA.out 1
      have u2 := blk_cell KBA.out 2
      have ul := lt_of_block KBA.out

      have hLb : La.length ≤ 1000 := by omega
      go_wp2_with (first | (go_at_call 16; refine (rsame6 a gA cap cA m b La hLb _ (HM.out _ HB5.out) NDA.out).mono ?_; rintro e wz ⟨rfl, hb⟩; have HBC := Lib.hid (HBC.out.trans (hb.mono HBC.out.size)); clear hb) | (go_at_call 9; refine (awake7 _).mono ?_; rintro e wz ⟨rfl, hb⟩; have HBC := Lib.hid (HBC.out.trans (hb.mono HBC.out.size)); clear hb) | fail)
      go_ret
      exact ⟨by rfl, HEND.out _ (HB5.out.trans (HBC.out.mono HB5.out.size))⟩

end Go.Proofs.Ytblmlgpajmaliaa
