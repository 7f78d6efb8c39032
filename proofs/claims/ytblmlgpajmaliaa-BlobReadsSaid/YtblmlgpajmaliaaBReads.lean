/-
  The law BlobReads, walked.
-/
import Derived.Test.YtblmlgpajmaliaaBCuts
import Derived.Test.YtblmlgpajmaliaaBData
namespace Go.Proofs.Ytblmlgpajmaliaa
set_option maxRecDepth 100000
open Go Go.RowKit

theorem write_nil {L : List Ino} {b k off : Int} {L' : List Ino} {e : Int} (hz : writeW L b k off [] = (L', e)) : L' = L := by
  unfold writeW at hz
  by_cases h0 : fileW L k = 0
  · rw [if_neg (by simpa using h0)] at hz
    by_cases h1 : off < 0
    · rw [if_pos h1] at hz
      exact (Prod.mk.inj hz).1.symm
    · rw [if_neg h1, if_pos rfl] at hz
      exact (Prod.mk.inj hz).1.symm
  · rw [if_pos h0] at hz
    exact (Prod.mk.inj hz).1.symm
theorem laid_same {old s : List UInt8} {o i : Nat} (hout : ¬ (o ≤ i ∧ i < o + s.length)) (hi : i < old.length) : (laidL old o s)[i]? = old[i]? := by
  rw [laid_get]
  by_cases h1 : i < o
  · rw [if_pos h1, if_pos hi]
  · rw [if_neg h1, if_neg (by omega)]
theorem laid_zero {old s : List UInt8} {o i : Nat} (hi : i < o) (hd : ¬ i < old.length) : (laidL old o s)[i]? = some 0 := by
  rw [laid_get, if_pos hi, if_neg hd]

set_option maxHeartbeats 16000000 in
theorem breads_walk (a : Option Addr) (cap : Nat) (m b ino off : Int) (sb : ByteArray) (_hsb : sb.size ≤ 281474976710656) (L : List Ino) (hS : Sized L) (w : World) (hN : NodesIn w a cap L) :
    Calls Try.prog 4 #[.agg #[.slice a L.length cap, .int .i64 m, .int .i64 b], .int .i64 ino, .int .i64 off, .string sb] w fun e w' => e = .returned (.bool true) ∧ Below w.heap.size w w' := by
  obtain ⟨w1, hw1⟩ : ∃ w1, w1 = w.alloc (.cells #[.slice a L.length cap, .int .i64 m, .int .i64 b] 24) := ⟨_, rfl⟩
  have hb1 : Below w.heap.size w w1 := by rw [hw1]; exact below_box w _
  have hX : w1.heap[w.heap.size]? = some (.cells #[.slice a L.length cap, .int .i64 m, .int .i64 b] 24 (0, 0)) := by rw [hw1]; exact new_block w _
  have hs1 : w1.heap.size = w.heap.size + 1 := by rw [hw1]; simp
  have HX := Lib.hid (show ∀ W, Below w1.heap.size w1 W → W.cell? ⟨w.heap.size, 0, none⟩ = some (.slice a L.length cap) ∧ W.cell? ⟨w.heap.size, 1, none⟩ = some (.int .i64 m) ∧ W.cell? ⟨w.heap.size, 2, none⟩ = some (.int .i64 b) from fun W hW => by
    have h := (hW.block w.heap.size (by omega)).trans hX
    exact ⟨blk_cell h 0, blk_cell h 1, blk_cell h 2⟩)
  have HEND := Lib.hid (show ∀ W', Below w1.heap.size w1 W' → Below w.heap.size w W' from fun W' h => hb1.trans (h.mono (by omega)))
  have HM := Lib.hid (show ∀ W', Below w1.heap.size w1 W' → NodesIn W' a cap L from fun W' h => hN.below (hb1.trans (h.mono (by omega))))
  have HS := Lib.hid hS
  have hsw : w.heap.size ≤ w1.heap.size := by omega
  clear hN hb1 hX hS hs1
  go_enter Try.func4, Try.ntmps4
  go_wp2_with fail
  rw [← hw1]
  clear hw1
  refine (good7_any a cap m b L HS.out _ (HM.out _ (Below.refl _ _))).mono ?_
  rintro e w3 ⟨⟨v, rfl, hv⟩, hb3⟩
  have HV := Lib.hid hv
  have HB3 := Lib.hid hb3
  have hs3 := hb3.size
  obtain ⟨q0, q1, q2⟩ := HX.out _ hb3
  have hq := cell_lt q0
  clear hv hb3
  cases v with
  | false =>
    clear q0 q1 q2 hq
    go_wp2_with fail
    refine (awake7 _).mono ?_
    rintro e wz ⟨rfl, hbz⟩
    have HBZ := Lib.hid (HB3.out.trans (hbz.mono HB3.out.size))
    clear hbz
    go_wp2_with fail
    go_ret
    exact ⟨rfl, HEND.out _ HBZ.out⟩

  | true =>
    obtain ⟨hl, hF⟩ := HV.out rfl
    have HF := Lib.hid hF
    have hL0 : 0 < L.length := by have := hF.limits; obtain ⟨_, _, _, _, _⟩ := this; omega
    clear hF HV HS
    by_cases hgs : (100000 : Int) < (sb.size : Int)
    · have hgd : decide ((100000 : Int) < (sb.size : Int)) = true := decide_eq_true hgs

      clear q0 q1 q2 hq
      go_wp2_with fail
      refine (awake7 _).mono ?_
      rintro e wz ⟨rfl, hbz⟩
      have HBZ := Lib.hid (HB3.out.trans (hbz.mono HB3.out.size))
      clear hbz
      go_wp2_with fail
      go_ret
      exact ⟨rfl, HEND.out _ HBZ.out⟩
    have hgd : decide ((100000 : Int) < (sb.size : Int)) = false := decide_eq_false hgs
    have hsb3 : sb.size ≤ 1000000 := by omega

    obtain ⟨⟨La, ea⟩, hza⟩ : ∃ r, writeW L b ino off sb.data.toList = r := ⟨_, rfl⟩
    have HLA := Lib.hid (write_len HF.out hza)
    have HFA := Lib.hid (write_fit HF.out hza)
    have HOA := Lib.hid (show ea ≠ 0 → La = L from (write_ok HF.out hza).2)
    have HOK := Lib.hid (show ea = 0 → _ from (write_ok HF.out hza).1)
    have HZA := Lib.hid hza
    clear hza
    go_wp2_with fail
    clear q0 q1 q2 hq
    refine (lwrite7 _ _ _ _ ino off sb hsb3 L HF.out La ea HZA.out _ (HM.out _ HB3.out)).mono ?_
    rintro e w4 ⟨⟨gA, cA, he, hN5⟩, hb⟩
    have he' : e = .returned (.tuple #[.agg #[.slice gA La.length cA, .int .i64 m, .int .i64 b], .int .i64 ea]) := he
    subst he'
    have NDA' := Lib.hid hN5
    have HB4 := Lib.hid (HB3.out.trans (hb.mono HB3.out.size))
    have hs4 := hb.size
    clear he hN5 hb
    have NDA := NDA'
    clear NDA'
    obtain ⟨q0, q1, q2⟩ := HX.out _ HB4.out
    have hq := cell_lt q0
    obtain ⟨w5, hw⟩ : ∃ p, p = w4.alloc (.cells #[.slice gA La.length cA, .int .i64 m, .int .i64 b] 24) := ⟨_, rfl⟩
    have hb : Below w4.heap.size w4 w5 := by rw [hw]; exact below_box w4 _
    have hz5 : w4.heap.size + 1 ≤ w5.heap.size ∧ w5.heap.size ≤ w4.heap.size + 1 := by rw [hw, World.size_alloc]; exact ⟨Nat.le_refl _, Nat.le_refl _⟩
    have KBA' := Lib.hid (show w5.heap[w4.heap.size]? = some (.cells #[.slice gA La.length cA, .int .i64 m, .int .i64 b] 24 (0, 0)) by rw [hw]; exact new_block w4 _)
    have HB5 := Lib.hid (HB4.out.trans (hb.mono HB4.out.size))
    have hs5 := hb.size
    replace NDA := Lib.hid (NDA.out.below hb)
    clear hb
    have KBA := KBA'
    clear KBA'
    go_upto_region 4 with fail
    rw [← hw]
    clear hw q0 q1 q2 hq
    obtain ⟨q0, q1, q2⟩ := HX.out _ HB5.out
    have hq := cell_lt q0
    by_cases h0 : ea = 0
    · subst h0
      by_cases he : sb.data.toList = []
      · have he' := text_nil he
        subst he'
        have he2 : La = L := write_nil HZA.out
        subst he2
        clear he
        have HBC := Lib.hid (Below.refl w5.heap.size w5)
        have u0 := blk_cell KBA.out 0
        have u1 := blk_cell KBA.out 1
        have u2 := blk_cell KBA.out 2
        have ul := lt_of_block KBA.out
        have hLb : La.length ≤ 1000 := by omega
        go_wp2_with (first | (go_at_call 16; refine (rsame6 a gA cap cA m b La hLb _ (HM.out _ HB5.out) NDA.out).mono ?_; rintro e wz ⟨rfl, hb⟩; have HBC := Lib.hid (HBC.out.trans (hb.mono HBC.out.size)); clear hb) | (go_at_call 9; refine (awake7 _).mono ?_; rintro e wz ⟨rfl, hb⟩; have HBC := Lib.hid (HBC.out.trans (hb.mono HBC.out.size)); clear hb) | fail)
        go_ret
        exact ⟨by rfl, HEND.out _ (HB5.out.trans (HBC.out.mono HB5.out.size))⟩

      have hpl : (sb.data.toList == []) = false := by
        cases h : sb.data.toList with
        | nil => exact absurd h he
        | cons c r => rfl
      have hpe : sb.toList.isEmpty = false := by
        rw [ByteArray.toList_eq]
        cases h : sb.data.toList with
        | nil => exact absurd h he
        | cons c r => rfl
      have u0 := blk_cell KBA.out 0
      have u1 := blk_cell KBA.out 1
      have u2 := blk_cell KBA.out 2
      have ul := lt_of_block KBA.out
      obtain ⟨k, o1, hk, rfl, rfl, hk1, ho1, hLa, -⟩ : ∃ n o : Nat, ∃ hn : n < L.length, ino = (n : Int) ∧ off = (o : Int) ∧ L[n].kind = 1 ∧ o + sb.data.toList.length ≤ 65536 ∧ La = dataL L n (laidL L[n].data o sb.data.toList) ∧ FitP La m b := by
        rcases HOK.out rfl with ⟨h, -⟩ | h
        · exact absurd h he
        · exact h
      have hsl : sb.data.toList.length = sb.size := Array.length_toList
      rw [hsl] at ho1
      have HSL := Lib.hid hsl
      clear he hsl
      have hLa2 : La.length ≤ 300 := by rw [HLA.out]; exact hl
      have hka : k < La.length := by rw [HLA.out]; exact hk
      have hdat : La[k].data = laidL L[k].data o1 sb.data.toList := by
        have h3 := data_get hk (laidL L[k].data o1 sb.data.toList) (by rw [data_len]; exact hk)
        subst hLa
        rw [h3]
      have HDAT := Lib.hid hdat
      have HRD := Lib.hid (show readW La (k : Int) (o1 : Int) (sb.size : Int) = (sb.data.toList, 0) by
        have h := read_back hk hk1 o1 sb.data.toList
        rw [← hLa, HSL.out] at h
        exact h)
      have HBK := Lib.hid (show dataL La k L[k].data = L by rw [hLa]; exact data_back hk _)
      clear hdat
      have hk0 : (0 : Int) ≤ (k : Int) := by omega
      have hkl : (k : Int) < (L.length : Int) := by omega
      have hkla : (k : Int) < (La.length : Int) := by omega
      have hk0d : decide ((k : Int) < 0) = false := decide_eq_false (by omega)
      have hkld : decide ((L.length : Int) ≤ (k : Int)) = false := decide_eq_false (by omega)
      have hwr : IntKind.i64.wrap ((o1 : Int) + (sb.size : Int)) = (o1 : Int) + (sb.size : Int) := by rw [IntKind.wrap_i64]; omega
      have HLE := Lib.hid hLa
      clear hLa
      have HBC := Lib.hid (Below.refl w5.heap.size w5)
      have HXW := Lib.hid (show ∀ W, Below w5.heap.size w5 W → (W.cell? ⟨w.heap.size, 0, none⟩ = some (.slice a L.length cap) ∧ W.cell? ⟨w.heap.size, 1, none⟩ = some (.int .i64 m) ∧ W.cell? ⟨w.heap.size, 2, none⟩ = some (.int .i64 b)) ∧ (W.cell? ⟨w4.heap.size, 0, none⟩ = some (.slice gA La.length cA) ∧ W.cell? ⟨w4.heap.size, 1, none⟩ = some (.int .i64 m) ∧ W.cell? ⟨w4.heap.size, 2, none⟩ = some (.int .i64 b)) ∧ NodesIn W a cap L ∧ NodesIn W gA cA La from fun W hW => by
        have h := (hW.block _ (lt_of_block KBA.out)).trans KBA.out
        exact ⟨HX.out W (HB5.out.trans (hW.mono HB5.out.size)), ⟨blk_cell h 0, blk_cell h 1, blk_cell h 2⟩, HM.out W (HB5.out.trans (hW.mono HB5.out.size)), NDA.out.below hW⟩)
      go_wp2_with (first | (go_at_call 17; refine (rfit_yes6 gA cA m b La hLa2 HFA.out _ NDA.out).mono ?_; rintro e w6 ⟨rfl, hb⟩; have HBC := Lib.hid (HBC.out.trans (hb.mono HBC.out.size)); have hs6 := hb.size; clear hb q0 q1 q2 hq u0 u1 u2 ul; obtain ⟨⟨q0, q1, q2⟩, ⟨u0, u1, u2⟩, -, -⟩ := HXW.out _ HBC.out; have hq := cell_lt q0; have ul := cell_lt u0) | fail)
      obtain ⟨-, -, hN6, hNA6⟩ := HXW.out _ HBC.out
      obtain ⟨bb, o, ha, hx⟩ := hN6.2.2 k hk
      obtain ⟨bb2, o2, ha2, hy⟩ := hNA6.2.2 k hka
      subst ha ha2
      have x3 := hx.data
      have y3 := hy.data
      have hxl := cell_lt x3
      have hyl := cell_lt y3
      obtain ⟨D, hD⟩ : ∃ D : ByteArray, D = ⟨L[k].data.toArray⟩ := ⟨_, rfl⟩
      obtain ⟨E, hE⟩ : ∃ E : ByteArray, E = ⟨La[k].data.toArray⟩ := ⟨_, rfl⟩
      rw [← hD] at x3
      rw [← hE] at y3
      have hDl : D.data.toList = L[k].data := by rw [hD]
      have hEl : E.data.toList = laidL L[k].data o1 sb.data.toList := by rw [hE, ← HDAT.out]
      have hDs : D.size = L[k].data.length := by rw [← hDl]; exact Array.length_toList.symm
      have hEs : E.size = max D.size (o1 + sb.size) := by
        have h : E.size = (laidL L[k].data o1 sb.data.toList).length := by rw [← hEl]; exact Array.length_toList.symm
        rw [h, laid_len, HSL.out, hDs]
        omega
      have HDL := Lib.hid hDl
      have HEL := Lib.hid hEl
      have HDS := Lib.hid hDs
      have HES := Lib.hid hEs
      clear hx hy hN6 hNA6 hD hE hDl hEl hDs
      have hbn1 : ((E.size : Int) != max (D.size : Int) ((o1 : Int) + (sb.size : Int))) = false := by
        have : (E.size : Int) = max (D.size : Int) ((o1 : Int) + (sb.size : Int)) := by rw [hEs]; omega
        rw [this]
        simp
      clear hEs
      go_quiet (fail)
      obtain ⟨wq, hwq⟩ : ∃ p, p = w6.drewN nq := ⟨_, rfl⟩
      have hbq : Below w6.heap.size w6 wq := by rw [hwq]; exact ⟨rfl, rfl, rfl, Nat.le_refl _, fun _ _ => rfl⟩
      rw [← hwq]
      have HBC := Lib.hid (HBC.out.trans (hbq.mono HBC.out.size))
      have hsq := hbq.size
      clear hwq hbq x3 y3 hxl hyl q0 q1 q2 hq u0 u1 u2 ul
      obtain ⟨⟨q0, q1, q2⟩, ⟨u0, u1, u2⟩, -, -⟩ := HXW.out _ HBC.out
      have hq := cell_lt q0
      have ul := cell_lt u0
      go_wp2_with fail
      clear q0 q1 q2 hq u0 u1 u2 ul
      refine (lread7 _ cA m b k o1 sb.size La HFA.out sb.data.toList 0 HRD.out _ (HXW.out _ HBC.out).2.2.2).mono ?_
      rintro e w7 ⟨he, hb⟩
      rw [text_self] at he
      subst he
      have HBC := Lib.hid (HBC.out.trans (hb.mono HBC.out.size))
      have hs7 := hb.size
      clear hb
      go_wp2_with fail
      go_loopw [15, 16] (fun _ _ wr => IterAt w7.heap.size E w7 wr) (fun _ _ wr => E.size - wr.iterPos w7.heap.size)
      case atStart => exact ⟨⟨0, World.iter_heap _ _ _⟩, (Below.refl _ _).alloc (Nat.le_refl _) _⟩
      case round =>
        obtain ⟨⟨pos, hit⟩, hbr⟩ := hrel
        have HBR := Lib.hid hbr
        have hzr : w7.heap.size < wr.heap.size := lt_of_block hit
        by_cases hp : pos < E.size
        · have hnx : ∀ ty, (Instr.next (.pointer (some ⟨w7.heap.size, 0, none⟩)) true ty).run Try.prog wr = _ := fun ty => Lib.run_next_any_at wr w7.heap.size E pos ty hit hp
          have hwd := wide_pos E pos
          obtain ⟨wd, hwde⟩ : ∃ wd, wd = (Utf8.decode E pos).2 := ⟨_, rfl⟩
          rw [← hwde] at hnx hwd
          have HIT := Lib.hid (Lib.iterAt_heap wr w7.heap.size E pos (pos + wd) hit)
          have HBI := Lib.hid (Lib.below_iterAt hbr (k := w7.heap.size) (Nat.le_refl _) E (pos + wd))
          have HPO := Lib.hid hit
          have hp0 : (0 : Int) ≤ (pos : Int) := by omega
          have hp1 : (pos : Int) < (E.size : Int) := by omega
          clear hit hbr hwde
          by_cases c1 : pos < o1
          · by_cases hd : pos < D.size
            · have e1d : decide ((o1 : Int) ≤ (pos : Int)) = false := decide_eq_false (by omega)
              have e2d : decide (o1 ≤ pos) = false := decide_eq_false (by omega)
              have hd1d : decide ((pos : Int) < (D.size : Int)) = true := decide_eq_true (by omega)
              have hd2d : decide ((D.size : Int) ≤ (pos : Int)) = false := decide_eq_false (by omega)
              have hd3d : decide (D.size ≤ pos) = false := decide_eq_false (by omega)
              have hd4d : decide (pos < D.size) = true := decide_eq_true hd
              have hd1 : (pos : Int) < (D.size : Int) := by omega
              have hbyte : E[pos] = D[pos] := byte_at HEL.out hp (by rw [laid_same (by rw [HSL.out]; omega) (by rw [← HDS.out]; exact hd)]; exact own_byte HDL.out hd)
              go_wp2_with fail
              go_quiet (fail)
              obtain ⟨wy, hwy⟩ : ∃ p, p = (wr.iterAt w7.heap.size E (pos + wd)).drewN nq := ⟨_, rfl⟩
              rw [← hwy]
              have hiy : wy.heap[w7.heap.size]? = some (.stringIter E (pos + wd)) := by rw [hwy]; exact HIT.out
              have hby : Below w7.heap.size w7 wy := by rw [hwy]; exact HBI.out.trans ⟨rfl, rfl, rfl, Nat.le_refl _, fun _ _ => rfl⟩
              have HIY := Lib.hid hiy
              have HBY := Lib.hid hby
              clear hwy hiy hby
              go_wp2_with fail
              go_roundw
              case rel => exact ⟨⟨_, HIY.out⟩, HBY.out⟩
              case measure =>
                simp only [World.iterPos, HIY.out, HPO.out]
                omega

            · have e1d : decide ((o1 : Int) ≤ (pos : Int)) = false := decide_eq_false (by omega)
              have e2d : decide (o1 ≤ pos) = false := decide_eq_false (by omega)
              have hd1d : decide ((pos : Int) < (D.size : Int)) = false := decide_eq_false (by omega)
              have hd2d : decide ((D.size : Int) ≤ (pos : Int)) = true := decide_eq_true (by omega)
              have hd3d : decide (D.size ≤ pos) = true := decide_eq_true (by omega)
              have hd4d : decide (pos < D.size) = false := decide_eq_false hd
              have hbyte : E[pos] = 0 := byte_at HEL.out hp (laid_zero c1 (by rw [← HDS.out]; exact hd))
              go_wp2_with fail
              go_quiet (fail)
              obtain ⟨wy, hwy⟩ : ∃ p, p = (wr.iterAt w7.heap.size E (pos + wd)).drewN nq := ⟨_, rfl⟩
              rw [← hwy]
              have hiy : wy.heap[w7.heap.size]? = some (.stringIter E (pos + wd)) := by rw [hwy]; exact HIT.out
              have hby : Below w7.heap.size w7 wy := by rw [hwy]; exact HBI.out.trans ⟨rfl, rfl, rfl, Nat.le_refl _, fun _ _ => rfl⟩
              have HIY := Lib.hid hiy
              have HBY := Lib.hid hby
              clear hwy hiy hby
              go_wp2_with fail
              go_roundw
              case rel => exact ⟨⟨_, HIY.out⟩, HBY.out⟩
              case measure =>
                simp only [World.iterPos, HIY.out, HPO.out]
                omega

          · by_cases c2 : pos < o1 + sb.size
            · have e1d : decide ((o1 : Int) ≤ (pos : Int)) = true := decide_eq_true (by omega)
              have e2d : decide (o1 ≤ pos) = true := decide_eq_true (by omega)
              have e3d : decide ((pos : Int) < (o1 : Int) + (sb.size : Int)) = true := decide_eq_true (by omega)
              have e4d : decide (pos < o1 + sb.size) = true := decide_eq_true (by omega)
              go_wp2_with fail
              go_quiet (fail)
              obtain ⟨wy, hwy⟩ : ∃ p, p = (wr.iterAt w7.heap.size E (pos + wd)).drewN nq := ⟨_, rfl⟩
              rw [← hwy]
              have hiy : wy.heap[w7.heap.size]? = some (.stringIter E (pos + wd)) := by rw [hwy]; exact HIT.out
              have hby : Below w7.heap.size w7 wy := by rw [hwy]; exact HBI.out.trans ⟨rfl, rfl, rfl, Nat.le_refl _, fun _ _ => rfl⟩
              have HIY := Lib.hid hiy
              have HBY := Lib.hid hby
              clear hwy hiy hby
              go_wp2_with fail
              go_roundw
              case rel => exact ⟨⟨_, HIY.out⟩, HBY.out⟩
              case measure =>
                simp only [World.iterPos, HIY.out, HPO.out]
                omega

            · have hd : pos < D.size := by have := HES.out; omega
              have e1d : decide ((o1 : Int) ≤ (pos : Int)) = true := decide_eq_true (by omega)
              have e2d : decide (o1 ≤ pos) = true := decide_eq_true (by omega)
              have e3d : decide ((pos : Int) < (o1 : Int) + (sb.size : Int)) = false := decide_eq_false (by omega)
              have e4d : decide (pos < o1 + sb.size) = false := decide_eq_false (by omega)
              have hd1d : decide ((pos : Int) < (D.size : Int)) = true := decide_eq_true (by omega)
              have hd2d : decide ((D.size : Int) ≤ (pos : Int)) = false := decide_eq_false (by omega)
              have hd3d : decide (D.size ≤ pos) = false := decide_eq_false (by omega)
              have hd4d : decide (pos < D.size) = true := decide_eq_true hd
              have hd1 : (pos : Int) < (D.size : Int) := by omega
              have hbyte : E[pos] = D[pos] := byte_at HEL.out hp (by rw [laid_same (by rw [HSL.out]; omega) (by rw [← HDS.out]; exact hd)]; exact own_byte HDL.out hd)
              go_wp2_with fail
              go_quiet (fail)
              obtain ⟨wy, hwy⟩ : ∃ p, p = (wr.iterAt w7.heap.size E (pos + wd)).drewN nq := ⟨_, rfl⟩
              rw [← hwy]
              have hiy : wy.heap[w7.heap.size]? = some (.stringIter E (pos + wd)) := by rw [hwy]; exact HIT.out
              have hby : Below w7.heap.size w7 wy := by rw [hwy]; exact HBI.out.trans ⟨rfl, rfl, rfl, Nat.le_refl _, fun _ _ => rfl⟩
              have HIY := Lib.hid hiy
              have HBY := Lib.hid hby
              clear hwy hiy hby
              go_wp2_with fail
              go_roundw
              case rel => exact ⟨⟨_, HIY.out⟩, HBY.out⟩
              case measure =>
                simp only [World.iterPos, HIY.out, HPO.out]
                omega

        · have hnx : ∀ ty, (Instr.next (.pointer (some ⟨w7.heap.size, 0, none⟩)) true ty).run Try.prog wr = _ := fun ty => Lib.run_next_end_at wr w7.heap.size E pos ty hit hp
          have HBC := Lib.hid (HBC.out.trans (HBR.out.mono HBC.out.size))
          obtain ⟨⟨q0, q1, q2⟩, ⟨u0, u1, u2⟩, -, -⟩ := HXW.out _ HBC.out
          have hq := cell_lt q0
          have ul := cell_lt u0
          clear hbr hit
          go_wp2_with fail
          clear q0 q1 q2 hq u0 u1 u2 ul
          refine (rown6 _ cA m b La HFA.out _ (HXW.out _ HBC.out).2.2.2).mono ?_
          rintro e w8 ⟨g, cV, vs, he, hR8, hg8, hb⟩
          rw [HLA.out] at he
          subst he
          have HR8 := Lib.hid hR8
          have hgl := hR8.nodes.lt
          have hs8 := hb.size
          have hsz1 : w5.heap.size ≤ wr.heap.size := HBC.out.size
          have HBC := Lib.hid (HBC.out.trans (hb.mono HBC.out.size))
          clear hR8 hb
          obtain ⟨w9, hw⟩ : ∃ p, p = w8.alloc (.cells #[.slice (some ⟨g, 0, none⟩) L.length cV, .int .i64 m, .int .i64 b] 24) := ⟨_, rfl⟩
          have hb : Below w8.heap.size w8 w9 := by rw [hw]; exact below_box w8 _
          have KBV := Lib.hid (show w9.heap[w8.heap.size]? = some (.cells #[.slice (some ⟨g, 0, none⟩) L.length cV, .int .i64 m, .int .i64 b] 24 (0, 0)) by rw [hw]; exact new_block w8 _)
          have HBC := Lib.hid (HBC.out.trans (hb.mono HBC.out.size))
          have HR9 := Lib.hid (HR8.out.below hb)
          have hsz9 : w8.heap.size ≤ w9.heap.size := hb.size
          clear hb
          go_upto_region 21 with fail
          rw [← hw]
          clear hw
          have v0 := blk_cell KBV.out 0
          have v1 := blk_cell KBV.out 1
          have v2 := blk_cell KBV.out 2
          have vl := lt_of_block KBV.out

          obtain ⟨⟨d3, n3⟩, f3⟩ := HR9.out.cells hka 3 (by omega)
          have hgl9 := HR9.out.nodes.lt
          obtain ⟨wf, hwf⟩ : ∃ p, p = w9.setCell ⟨g, k * 6 + 3, none⟩ (.string D) := ⟨_, rfl⟩
          have hRf : RefT wf g cV L vs := by
            have h := HR9.out.setData hka L[k].data
            rw [← HDL.out, text_self, HDL.out, HBK.out, ← hwf] at h
            exact h
          have NDV := Lib.hid hRf.nodesIn
          have KBW := Lib.hid (show wf.heap[w8.heap.size]? = some (.cells #[.slice (some ⟨g, 0, none⟩) L.length cV, .int .i64 m, .int .i64 b] 24 (0, 0)) by rw [hwf]; exact (Below.heap_setCell _ _ _ _ (by show w8.heap.size ≠ g; omega)).trans KBV.out)
          have hg1 : w5.heap.size ≤ g := by omega
          have HBC := Lib.hid (show Below w5.heap.size w5 wf by rw [hwf]; exact HBC.out.setCell hg1 _)
          clear hRf
          go_upto_region 22 with fail
          rw [← hwf]
          clear hwf n3 f3 v0 v1 v2 vl KBV
          obtain ⟨⟨q0, q1, q2⟩, -, -, -⟩ := HXW.out _ HBC.out
          have hq := cell_lt q0
          have v0 := blk_cell KBW.out 0
          have v1 := blk_cell KBW.out 1
          have v2 := blk_cell KBW.out 2
          have vl := lt_of_block KBW.out

          have hLl : L.length ≤ 1000 := by omega
          go_wp2_with (first | (go_at_call 16; refine (rsame6 _ (some ⟨g, 0, none⟩) cap cV m b L hLl _ (HXW.out _ HBC.out).2.2.1 NDV.out).mono ?_; rintro e wz ⟨rfl, hb⟩; have HBC := Lib.hid (HBC.out.trans (hb.mono HBC.out.size)); clear hb) | (go_at_call 9; refine (awake7 _).mono ?_; rintro e wz ⟨rfl, hb⟩; have HBC := Lib.hid (HBC.out.trans (hb.mono HBC.out.size)); clear hb) | fail)
          go_ret
          exact ⟨by rfl, HEND.out _ (HB5.out.trans (HBC.out.mono HB5.out.size))⟩

    · have he := HOA.out h0
      subst he
      have h0b : (ea != 0) = true := by simpa using h0
      have HBC := Lib.hid (Below.refl w5.heap.size w5)
      have u0 := blk_cell KBA.out 0
      have u1 := blk_cell KBA.out 1
      have u2 := blk_cell KBA.out 2
      have ul := lt_of_block KBA.out
      have hLb : La.length ≤ 1000 := by omega
      go_wp2_with (first | (go_at_call 16; refine (rsame6 a gA cap cA m b La hLb _ (HM.out _ HB5.out) NDA.out).mono ?_; rintro e wz ⟨rfl, hb⟩; have HBC := Lib.hid (HBC.out.trans (hb.mono HBC.out.size)); clear hb) | (go_at_call 9; refine (awake7 _).mono ?_; rintro e wz ⟨rfl, hb⟩; have HBC := Lib.hid (HBC.out.trans (hb.mono HBC.out.size)); clear hb) | fail)
      go_ret
      exact ⟨by rfl, HEND.out _ (HB5.out.trans (HBC.out.mono HB5.out.size))⟩

end Go.Proofs.Ytblmlgpajmaliaa
