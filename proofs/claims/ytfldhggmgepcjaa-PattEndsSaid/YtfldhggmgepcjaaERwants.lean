/-
  The reference's wants, walked.
-/
import Derived.Deep.CutRange
import Derived.Deep.CutBlock
import Derived.Test.YtfldhggmgepcjaaERows
namespace Go.Proofs.Ytfldhggmgepcjaa
set_option maxRecDepth 100000
open Go Go.RowKit

theorem grown_own {B : Nat} {t : TypeId} {c : Nat} {w W : World} {v : Value} {n : Nat} {xs : List Value} (h : w.ownsRow B t c v n xs) (hb : Below w.heap.size w W) : W.ownsRow B t c v n xs :=
  h.kept (row := none) ⟨hb.os, hb.tape, hb.output, hb.size, fun k hk _ => hb.block k hk⟩ (by
    cases hv : v.ownBlock with
    | none => exact Or.inl rfl
    | some k => exact Or.inr (by simp))
/-- What wants answers. -/
def RWantsAns (w : World) (r : List Wt) (e : Ending) (w' : World) : Prop := ∃ oa oc, e = .returned (.slice oa r.length oc) ∧ w'.ownsRow w.heap.size 58 257 (.slice oa r.length oc) r.length (flatW r) ∧ Below w.heap.size w w'
theorem span_st (b : UInt8) (d : UInt8) : (if d = UInt8.ofNat b.toNat then true else (fun _ => false) d) = (Wt.span b b).st d := by
  have e0 : (Wt.span b b).st d = (decide (b.toNat ≤ d.toNat) && decide (d.toNat ≤ b.toNat)) := rfl
  rw [UInt8.ofNat_toNat, e0]
  by_cases e : d = b
  · rw [if_pos e, e]; simp
  · rw [if_neg e]
    symm
    rw [← Bool.not_eq_true, Bool.and_eq_true, decide_eq_true_eq, decide_eq_true_eq]
    rintro ⟨h1, h2⟩
    exact e (UInt8.toNat_inj.1 (by omega))
theorem own_off {B K : Nat} {t : TypeId} {c : Nat} {w W : World} {v : Value} {n : Nat} {xs : List Value} (h : w.ownsRow B t c v n xs) (hv : ∀ k, v.ownBlock = some k → k ≠ K) (h1 : W.os = w.os) (h2 : W.tape = w.tape) (h3 : W.output = w.output) (h4 : w.heap.size ≤ W.heap.size) (h5 : ∀ k, k ≠ K → W.heap[k]? = w.heap[k]?) : W.ownsRow B t c v n xs :=
  h.kept (row := some K) ⟨h1, h2, h3, h4, fun k _ hne => h5 k fun e => hne (by rw [e])⟩ (by
    cases hb : v.ownBlock with
    | none => exact Or.inl rfl
    | some k => exact Or.inr fun e => hv k hb (Option.some.inj e))
theorem but_setCells {K : Nat} : ∀ (new : List Value) (o : Nat) (W : World), (W.setCells K o new).os = W.os ∧ (W.setCells K o new).tape = W.tape ∧ (W.setCells K o new).output = W.output
  | [], _, _ => ⟨rfl, rfl, rfl⟩
  | v :: new, o, W => but_setCells new (o + 1) (W.setCell ⟨K, o, none⟩ v)
theorem own_cell {B K j : Nat} {t : TypeId} {c : Nat} {w : World} {v u : Value} {n : Nat} {xs : List Value} (h : w.ownsRow B t c v n xs) (hv : ∀ k, v.ownBlock = some k → k ≠ K) : (w.setCell ⟨K, j, none⟩ u).ownsRow B t c v n xs :=
  own_off h hv rfl rfl rfl (by rw [set_size]; exact Nat.le_refl _) fun _ hk => Below.heap_setCell _ _ _ _ hk
theorem own_cells {B K o : Nat} {t : TypeId} {c : Nat} {w : World} {v : Value} {n : Nat} {xs : List Value} (new : List Value) (h : w.ownsRow B t c v n xs) (hv : ∀ k, v.ownBlock = some k → k ≠ K) : (w.setCells K o new).ownsRow B t c v n xs :=
  own_off h hv (but_setCells new o w).1 (but_setCells new o w).2.1 (but_setCells new o w).2.2 (by rw [size_setCells]; exact Nat.le_refl _) fun _ hk => other_setCells hk new o w
theorem row_range {W : World} {K : Nat} {l : List Value} {T : TypeId} (h : RowAt W K l T) : W.rangeAt K 0 l := fun j v hv => by rw [Nat.zero_add]; exact h.cell hv
theorem row_there {W : World} {K o n : Nat} {l : List Value} {T : TypeId} (h : RowAt W K l T) (hn : o + n ≤ l.length) : W.there K o n := fun j hj => ⟨by rw [h.cell (List.getElem?_eq_getElem (show o + j < l.length by omega))]; rfl, h.free _⟩
theorem row_set3 {W : World} {K : Nat} {b : Bool} {f g : UInt8 → Bool} {T : TypeId} (h : RowAt W K (wantC b f) T) : RowAt (W.setCells K 1 (setC g)) K (wantC b g) T :=
  row_setCells (setC g) (setC f) [.bool b] W (by rw [setC_len, setC_len]) h
theorem zeroS_list : zeroS.toList = setC (fun _ => false) := by rw [← noneC_eq]; rfl

theorem single_eq {a b : UInt8} (h : a = b) : (Wt.span a a, 1) = (Wt.span b b, 1) := by rw [h]

set_option maxHeartbeats 16000000 in
theorem rwants10 (P Q : ByteArray) (hP : P.size ≤ 100000) (w : World) : Calls Try.prog 15 #[.string P, .string Q] w (RWantsAns w (raw (plL P.data.toList Q.data.toList))) := by
  have HK := Lib.hid (fun j c x y hx hy W => rat P Q j c x y hx hy W)
  have HS := Lib.hid (fun j hj x hx W => rset P Q hP j hj x hx W)
  have HPL := Lib.hid (fun (j : Nat) (h : j < P.size) => byte_pl P Q j 0 h)
  obtain ⟨L, hL⟩ : ∃ L, L = plL P.data.toList Q.data.toList := ⟨_, rfl⟩
  have HLP := Lib.hid (show L.length = P.size by rw [hL, pl_len, size_data])
  rw [← hL] at HK HS HPL ⊢
  obtain ⟨i0, hi0, hz0, hz1, hz2⟩ := info_parts want_parts
  clear hL
  go_enter Try.func15, Try.ntmps15
  go_wp2_with fail
  go_loopw [5, 6] (fun v5 v6 wr => ∃ (p : Nat) (oa : Option Addr) (oc : Nat) (r : List Wt), v5 = .slice oa r.length oc ∧ v6 = .int .i64 ((p : Nat) : Int) ∧ p ≤ P.size ∧ r.length ≤ p ∧ Hid (wr.ownsRow w.heap.size 58 257 (.slice oa r.length oc) r.length (flatW r)) ∧ Hid (raw L = r ++ raw (L.drop p)) ∧ Hid (Below w.heap.size w wr)) (fun _ v6 _ => P.size - (intOf v6).toNat)
  case atStart => exact ⟨0, none, 0, [], rfl, rfl, Nat.zero_le _, Nat.le_refl _, ⟨rfl, Or.inl ⟨rfl, rfl⟩⟩, (show raw L = [] ++ raw (L.drop 0) from rfl), Below.refl _ _⟩
  case round =>
    obtain ⟨p, oa, oc, r, rfl, rfl, hp, hrp, HO, HRW, HB⟩ := hrel
    by_cases hlt : p < P.size
    · have hpi : (p : Int) < (P.size : Int) := by omega
      have hp0 : (0 : Int) ≤ (p : Int) := by omega
      have C42 := HK.out p 42 (p : Int) 42 rfl rfl
      have C63 := HK.out p 63 (p : Int) 63 rfl rfl
      have C91 := HK.out p 91 (p : Int) 91 rfl rfl
      have HL0 := Lib.hid (show L.drop p ≠ [] from fun e => by have := congrArg List.length e; rw [List.length_drop, HLP.out] at this; simp at this; omega)
      have HR1 := Lib.hid (show raw L = (r ++ [(wt1 (L.drop p)).1]) ++ raw (L.drop (p + (wt1 (L.drop p)).2)) by rw [HRW.out, raw_more HL0.out, List.drop_drop]; simp)
      have HWL := Lib.hid (show p + (wt1 (L.drop p)).2 ≤ P.size by have h := wt1_le HL0.out; rw [List.length_drop, HLP.out] at h; omega)
      have HI := Lib.hid (fun c => isP_drop L p 0 c)
      obtain ⟨n, hn⟩ : ∃ n, n = r.length := ⟨_, rfl⟩
      rw [← hn] at HO hrp ⊢
      have HN := Lib.hid hn
      clear hn
      obtain ⟨K, hK⟩ : ∃ K, K = wr.heap.size := ⟨_, rfl⟩
      have hrow : RowAt (wr.alloc (.cells zeroWt 58)) K (wantC false fun _ => false) 58 := by
        rw [hK]; unfold RowAt; rw [← zeroWt_eq]; exact new_block _ _
      have hstay : (wr.alloc (.cells zeroWt 58)).setRow K zeroWt = wr.alloc (.cells zeroWt 58) := setRow_self _ _ _ _ _ (by rw [hK]; exact new_block _ _)
      have ho1 := grown_own HO.out (below_box wr (.cells zeroWt 58))
      have hb1 := below_two HB.out (below_box wr (.cells zeroWt 58))
      have hblk : (wr.alloc (.cells zeroWt 58)).heap[K]? = some (.cells zeroWt 58 (0, 0)) := by rw [hK]; exact new_block _ _
      obtain ⟨W1, hW1⟩ : ∃ W1, W1 = wr.alloc (.cells zeroWt 58) := ⟨_, rfl⟩
      rw [← hW1] at hrow hstay ho1 hb1 hblk
      have hOK : ∀ k, (Value.slice oa n oc).ownBlock = some k → k ≠ K := fun k hk => by
        have := (HO.out.lt k hk).2; rw [hK]; omega
      have hKB : w.heap.size ≤ K := by rw [hK]; exact HB.out.size
      have HRT := Lib.hid hrow
      have HST := Lib.hid hstay
      have HO1 := Lib.hid ho1
      have HB1 := Lib.hid hb1
      have HBK := Lib.hid hblk
      have HOK := Lib.hid hOK
      have HW1 := Lib.hid hW1
      have HKE := Lib.hid hK
      have HKB := Lib.hid hKB
      clear hrow hstay ho1 hb1 hblk hOK hW1 hK hKB HO HB HRW
      go_upto_block 2 with (first | (refine wpList_alloc_want rfl rfl ?_; rw [← HW1.out, ← HKE.out]) | (refine wpList_build_want rfl rfl ?_) | (refine wpList_store_row rfl _ _ _ rfl K zeroWt rfl rfl _ _ HBK.out (want_info _ (by simp [zeroWt])) (by rfl) (by rw [zeroWt_eq, List.all_toArray, List.all_eq_true]; exact wantC_one _ _) ?_; rw [HST.out]) | fail)
      obtain ⟨X, N, hXN⟩ : ∃ X N, wt1 (L.drop p) = (X, N) := ⟨_, _, rfl⟩
      rw [hXN] at HR1 HWL
      have HXN := Lib.hid hXN
      clear hXN
      go_cut [8] from 11 to 58 (fun c wx => c = .int .i64 ((p + N : Nat) : Int) ∧ RowAt wx K (wantC X.rep X.st) 58 ∧ wx.ownsRow w.heap.size 58 257 (.slice oa n oc) n (flatW r) ∧ Below w.heap.size w wx)
      case first =>
        cases h42 : isP L p 42 with
        | true =>
          have HXE := Lib.hid (show X = .many ∧ N = 1 from by have h := HXN.out; unfold wt1 at h; rw [HI.out 63, HI.out 42, Nat.add_zero, isP_two h42 (by decide), h42] at h; cases h; exact ⟨rfl, rfl⟩)
          rw [h42] at C42
          have hc0 := HRT.out.cell (show (wantC false fun _ => false)[0]? = some (.bool false) from rfl)
          have hf0 := HRT.out.free 0
          have hlk := HRT.out.lt
          have HRC := Lib.hid (show RowAt (W1.setCell ⟨K, 0, none⟩ (.bool true)) K (wantC X.rep X.st) 58 by rw [HXE.out.1]; exact HRT.out.set 0 (.bool true))
          have HOF := Lib.hid (own_cell (j := 0) (u := .bool true) HO1.out HOK.out)
          have HBF := Lib.hid (show Below w.heap.size w (W1.setCell ⟨K, 0, none⟩ (.bool true)) from HB1.out.setCell (show w.heap.size ≤ K from HKB.out) _)
          have HNE := Lib.hid (show ((p : Int) + 1) = ((p + N : Nat) : Int) by rw [HXE.out.2]; omega)
          clear h42 HXE
          go_wp2_with fail
          refine (C42 _).mono ?_
          rintro e w2 ⟨rfl, rfl⟩
          go_wp2_with fail
          go_meet
          exact ⟨by first | rfl | (rw [HNE.out]), HRC.out, HOF.out, HBF.out⟩
        | false =>
          rw [h42] at C42
          cases h63 : isP L p 63 with
          | true =>
            have HXE := Lib.hid (show X = .one ∧ N = 1 from by have h := HXN.out; unfold wt1 at h; rw [HI.out 63, Nat.add_zero, h63] at h; cases h; exact ⟨rfl, rfl⟩)
            rw [h63] at C63
            have HNE := Lib.hid (show ((p : Int) + 1) = ((p + N : Nat) : Int) by rw [HXE.out.2]; omega)
            clear h42 h63
            go_wp2_with fail
            refine (C42 _).mono ?_
            rintro e w2 ⟨rfl, rfl⟩
            go_wp2_with fail
            refine (C63 _).mono ?_
            rintro e w3 ⟨rfl, rfl⟩
            go_wp2_with fail
            go_loopw [9] (fun v9 wy => ∃ (c : Nat) (f : UInt8 → Bool), v9 = .int .i64 ((c : Nat) : Int) ∧ c ≤ 256 ∧ Hid (∀ d : UInt8, f d = decide (d.toNat < c)) ∧ Hid (RowAt wy K (wantC false f) 58) ∧ Hid (wy.ownsRow w.heap.size 58 257 (.slice oa n oc) n (flatW r)) ∧ Hid (Below w.heap.size w wy)) (fun v9 _ => 256 - (intOf v9).toNat)
            case atStart => exact ⟨0, _, rfl, by omega, (fun d => (decide_eq_false (by omega)).symm : ∀ d : UInt8, (fun _ => false) d = decide (d.toNat < 0)), HRT, HO1, HB1⟩
            case round =>
              obtain ⟨c, f, rfl, hc, HF, HRC, HOC, HBC⟩ := hrel
              by_cases hc2 : c < 256
              · have hci : (c : Int) < 256 := by omega
                have hc0 : (0 : Int) ≤ (c : Int) := by omega
                have hcc := HRC.out.cell (wantC_at false f c hc2)
                have hcf := HRC.out.free (1 + c)
                have hlk := HRC.out.lt
                have HRN2 := Lib.hid (HRC.out.set (1 + c) (.bool true))
                have HON2 := Lib.hid (own_cell (j := 1 + c) (u := .bool true) HOC.out HOK.out)
                have HBN2 := Lib.hid (show Below w.heap.size w (wr.setCell ⟨K, 1 + c, none⟩ (.bool true)) from HBC.out.setCell (show w.heap.size ≤ K from HKB.out) _)
                have HFN := Lib.hid (show ∀ d : UInt8, (if d = UInt8.ofNat c then true else f d) = decide (d.toNat < c + 1) from fun d => by
                  by_cases e : d = UInt8.ofNat c
                  · rw [if_pos e, e, ofNat_val c hc2, decide_eq_true (by omega)]
                  · rw [if_neg e, HF.out d]
                    have hne : d.toNat ≠ c := fun h => e (by rw [← h, UInt8.ofNat_toNat])
                    rw [decide_eq_decide]; omega)
                go_wp2_with fail
                go_roundw
                case rel => exact ⟨c + 1, _, by simp, by omega, HFN.out, by have h := HRN2.out; rw [wantC_set false f c hc2] at h; exact h, HON2.out, HBN2.out⟩
                case measure => simp only [intOf]; omega
              · have hci : ¬ (c : Int) < 256 := by omega
                have HRX := Lib.hid (show RowAt wr K (wantC X.rep X.st) 58 by
                  rw [HXE.out.1, show wantC (Wt.one).rep (Wt.one).st = wantC false f from (wantC_congr fun d => by rw [HF.out d, decide_eq_true (by have := d.toNat_lt; omega)]; rfl).symm]; exact HRC.out)
                clear HXE
                go_wp2_with fail
                go_meet
                exact ⟨by first | rfl | (rw [HNE.out]), HRX.out, HOC.out, HBC.out⟩
          | false =>
            rw [h63] at C63
            cases h91 : isP L p 91 with
            | true =>
              rw [h91] at C91
              have C4 := HS.out (p + 1) (by omega) ((p : Int) + 1) (by omega)
              cases hset : setP (L.drop (p + 1)) with
              | some s =>
                obtain ⟨t, l, m⟩ := s
                rw [hset] at C4
                have HXE := Lib.hid (show X = .set t l ∧ N = m + 1 from by have h := HXN.out; unfold wt1 at h; rw [HI.out 63, HI.out 42, HI.out 91, Nat.add_zero, h63, h42, h91, List.drop_drop, hset] at h; cases h; exact ⟨rfl, rfl⟩)
                obtain ⟨q, hq⟩ : ∃ q, q = p + 1 + m := ⟨_, rfl⟩
                have hk0 : (0 : Int) < (q : Int) := by omega
                have HQQ := Lib.hid hq
                have HNE := Lib.hid (show q = p + N by rw [HXE.out.2]; omega)
                clear h42 h63 h91 hset hq
                go_wp2_with fail
                refine (C42 _).mono ?_
                rintro e w2 ⟨rfl, rfl⟩
                go_wp2_with fail
                refine (C63 _).mono ?_
                rintro e w3 ⟨rfl, rfl⟩
                go_wp2_with fail
                refine (C91 _).mono ?_
                rintro e w4 ⟨rfl, rfl⟩
                go_wp2_with fail
                refine (C4 _).mono ?_
                rintro e w5 ⟨rfl, hb5⟩
                rw [← HQQ.out]
                have HRC := Lib.hid (HRT.out.below hb5)
                have HO5 := Lib.hid (grown_own HO1.out hb5)
                have HB5 := Lib.hid (below_two HB1.out hb5)
                clear hb5
                obtain ⟨FT, hFT⟩ : ∃ FT, FT = (Wt.set t l).tk := ⟨_, rfl⟩
                rw [← hFT]
                have HFT := Lib.hid hFT
                clear hFT
                obtain ⟨AG, hAG⟩ : ∃ AG, AG = (setC FT).toArray := ⟨_, rfl⟩
                rw [← hAG]
                have HAG := Lib.hid hAG
                clear hAG
                have HRF := Lib.hid (show RowAt (w5.setCells K 1 (setC FT)) K (wantC X.rep X.st) 58 from by
                  have h := row_set3 (g := FT) HRC.out
                  rw [HXE.out.1, show wantC (Wt.set t l).rep (Wt.set t l).st = wantC false FT by rw [HFT.out]; rfl]; exact h)
                have HOF := Lib.hid (own_cells (o := 1) (setC FT) HO5.out HOK.out)
                have HBF := Lib.hid (below_setCells HKB.out (setC FT) 1 _ HB5.out)
                clear HXE
                obtain ⟨WF, hWF⟩ : ∃ WF, WF = w5.setCells K 1 (setC FT) := ⟨_, rfl⟩
                rw [← hWF] at HRF HOF HBF
                have HWF := Lib.hid hWF
                clear hWF
                go_wp2_with (first | (refine wpList_store_mid rfl _ _ _ rfl K 1 AG rfl rfl (row_there HRC.out (by rw [HAG.out, List.size_toArray, setC_len, wantC_len]; decide)) (set_info _ (by rw [HAG.out, List.size_toArray, setC_len])) (by rw [HAG.out]; exact setC_one _) ?_; rw [HAG.out]; rw [List.toList_toArray]; rw [← HWF.out]) | fail)
                go_meet
                exact ⟨by rw [HNE.out], HRF.out, HOF.out, HBF.out⟩
              | none =>
                rw [hset] at C4
                have HXE := Lib.hid (show X = .span P[p] P[p] ∧ N = 1 from by have h := HXN.out; unfold wt1 at h; rw [HI.out 63, HI.out 42, HI.out 91, Nat.add_zero, h63, h42, h91, List.drop_drop, hset] at h; cases h; exact ⟨by rw [HPL.out p hlt]; rfl, rfl⟩)
                clear h42 h63 h91 hset
                go_wp2_with fail
                refine (C42 _).mono ?_
                rintro e w2 ⟨rfl, rfl⟩
                go_wp2_with fail
                refine (C63 _).mono ?_
                rintro e w3 ⟨rfl, rfl⟩
                go_wp2_with fail
                refine (C91 _).mono ?_
                rintro e w4 ⟨rfl, rfl⟩
                go_wp2_with fail
                refine (C4 _).mono ?_
                rintro e w5 ⟨⟨f5, rfl⟩, hb5⟩
                obtain ⟨AG, hAG⟩ : ∃ AG, AG = (setC f5).toArray := ⟨_, rfl⟩
                rw [← hAG]
                have HAG := Lib.hid hAG
                clear hAG
                have HRC := Lib.hid (HRT.out.below hb5)
                have HO5 := Lib.hid (grown_own HO1.out hb5)
                have HB5 := Lib.hid (below_two HB1.out hb5)
                clear hb5
                have HRA := Lib.hid (show RowAt (w5.setCells K 1 (setC f5)) K (wantC false f5) 58 from row_set3 HRC.out)
                have HOA := Lib.hid (own_cells (o := 1) (setC f5) HO5.out HOK.out)
                have HBA := Lib.hid (below_setCells HKB.out (setC f5) 1 _ HB5.out)
                obtain ⟨WA, hWA⟩ : ∃ WA, WA = w5.setCells K 1 (setC f5) := ⟨_, rfl⟩
                rw [← hWA] at HRA HOA HBA
                have HWA := Lib.hid hWA
                clear hWA
                go_upto_region 9 with (first | (refine wpList_store_mid rfl _ _ _ rfl K 1 AG rfl rfl (row_there HRC.out (by rw [HAG.out, List.size_toArray, setC_len, wantC_len]; decide)) (set_info _ (by rw [HAG.out, List.size_toArray, setC_len])) (by rw [HAG.out]; exact setC_one _) ?_; rw [HAG.out]; rw [List.toList_toArray]; rw [← HWA.out]) | fail)
                go_upto_region 12 with (first | (refine wpList_build_set rfl rfl ?_) | (refine wpList_store_mid rfl _ _ _ rfl K 1 zeroS rfl rfl (row_there HRA.out (by rw [wantC_len]; decide)) (set_info _ (by rfl)) (by rw [show zeroS = (setC fun _ => false).toArray by rw [← noneC_eq]; rfl]; exact setC_one _) ?_) | fail)
                rw [zeroS_list]
                have HRZ := Lib.hid (show RowAt (WA.setCells K 1 (setC fun _ => false)) K (wantC false fun _ => false) 58 from row_set3 HRA.out)
                have HOZ := Lib.hid (own_cells (o := 1) (setC fun _ => false) HOA.out HOK.out)
                have HBZ := Lib.hid (below_setCells HKB.out (setC fun _ => false) 1 _ HBA.out)
                obtain ⟨WZ, hWZ⟩ : ∃ WZ, WZ = WA.setCells K 1 (setC fun _ => false) := ⟨_, rfl⟩
                rw [← hWZ] at HRZ HOZ HBZ ⊢
                clear hWZ
                have hcc : WZ.cell? ⟨K, 1 + P[p].toNat, none⟩ = some (.bool false) := HRZ.out.cell (wantC_at false (fun _ => false) P[p].toNat P[p].toNat_lt)
                have hcf : WZ.frozen? ⟨K, 1 + P[p].toNat, none⟩ = false := HRZ.out.free (1 + P[p].toNat)
                have hlk := HRZ.out.lt
                have hpl : (P[p].toNat : Int) < 256 := by have := P[p].toNat_lt; omega
                have HRC2 := Lib.hid (show RowAt (WZ.setCell ⟨K, 1 + P[p].toNat, none⟩ (.bool true)) K (wantC X.rep X.st) 58 by
                  have h := HRZ.out.set (1 + P[p].toNat) (.bool true)
                  rw [wantC_set false _ P[p].toNat P[p].toNat_lt, wantC_congr (span_st P[p])] at h
                  rw [HXE.out.1]; exact h)
                have HOF := Lib.hid (own_cell (j := 1 + P[p].toNat) (u := .bool true) HOZ.out HOK.out)
                have HBF := Lib.hid (show Below w.heap.size w (WZ.setCell ⟨K, 1 + P[p].toNat, none⟩ (.bool true)) from HBZ.out.setCell (show w.heap.size ≤ K from HKB.out) _)
                have HNE := Lib.hid (show ((p : Int) + 1) = ((p + N : Nat) : Int) by rw [HXE.out.2]; omega)
                clear HXE
                go_wp2_with fail
                go_meet
                exact ⟨by first | rfl | (rw [HNE.out]) | (rw [← HNE.out]; rfl), HRC2.out, HOF.out, HBF.out⟩
            | false =>
              rw [h91] at C91
              have HXE := Lib.hid (show X = .span P[p] P[p] ∧ N = 1 from by have h := HXN.out; unfold wt1 at h; rw [HI.out 63, HI.out 42, HI.out 91, Nat.add_zero, h63, h42, h91] at h; cases h; exact ⟨by rw [HPL.out p hlt]; rfl, rfl⟩)
              clear h42 h63 h91
              go_wp2_with fail
              refine (C42 _).mono ?_
              rintro e w2 ⟨rfl, rfl⟩
              go_wp2_with fail
              refine (C63 _).mono ?_
              rintro e w3 ⟨rfl, rfl⟩
              go_wp2_with fail
              refine (C91 _).mono ?_
              rintro e w4 ⟨rfl, rfl⟩
              obtain ⟨WA, hWA⟩ : ∃ WA, WA = W1 := ⟨_, rfl⟩
              have HRA := HRT
              have HOA := HO1
              have HBA := HB1
              rw [← hWA] at HRA HOA HBA ⊢
              clear hWA
              go_upto_region 12 with (first | (refine wpList_build_set rfl rfl ?_) | (refine wpList_store_mid rfl _ _ _ rfl K 1 zeroS rfl rfl (row_there HRA.out (by rw [wantC_len]; decide)) (set_info _ (by rfl)) (by rw [show zeroS = (setC fun _ => false).toArray by rw [← noneC_eq]; rfl]; exact setC_one _) ?_) | fail)
              rw [zeroS_list]
              have HRZ := Lib.hid (show RowAt (WA.setCells K 1 (setC fun _ => false)) K (wantC false fun _ => false) 58 from row_set3 HRA.out)
              have HOZ := Lib.hid (own_cells (o := 1) (setC fun _ => false) HOA.out HOK.out)
              have HBZ := Lib.hid (below_setCells HKB.out (setC fun _ => false) 1 _ HBA.out)
              obtain ⟨WZ, hWZ⟩ : ∃ WZ, WZ = WA.setCells K 1 (setC fun _ => false) := ⟨_, rfl⟩
              rw [← hWZ] at HRZ HOZ HBZ ⊢
              clear hWZ
              have hcc : WZ.cell? ⟨K, 1 + P[p].toNat, none⟩ = some (.bool false) := HRZ.out.cell (wantC_at false (fun _ => false) P[p].toNat P[p].toNat_lt)
              have hcf : WZ.frozen? ⟨K, 1 + P[p].toNat, none⟩ = false := HRZ.out.free (1 + P[p].toNat)
              have hlk := HRZ.out.lt
              have hpl : (P[p].toNat : Int) < 256 := by have := P[p].toNat_lt; omega
              have HRC2 := Lib.hid (show RowAt (WZ.setCell ⟨K, 1 + P[p].toNat, none⟩ (.bool true)) K (wantC X.rep X.st) 58 by
                have h := HRZ.out.set (1 + P[p].toNat) (.bool true)
                rw [wantC_set false _ P[p].toNat P[p].toNat_lt, wantC_congr (span_st P[p])] at h
                rw [HXE.out.1]; exact h)
              have HOF := Lib.hid (own_cell (j := 1 + P[p].toNat) (u := .bool true) HOZ.out HOK.out)
              have HBF := Lib.hid (show Below w.heap.size w (WZ.setCell ⟨K, 1 + P[p].toNat, none⟩ (.bool true)) from HBZ.out.setCell (show w.heap.size ≤ K from HKB.out) _)
              have HNE := Lib.hid (show ((p : Int) + 1) = ((p + N : Nat) : Int) by rw [HXE.out.2]; omega)
              clear HXE
              go_wp2_with fail
              go_meet
              exact ⟨by first | rfl | (rw [HNE.out]) | (rw [← HNE.out]; rfl), HRC2.out, HOF.out, HBF.out⟩
      case rest =>
        obtain ⟨rfl, hRC, hOF, hBF⟩ := hcut
        have HOF := Lib.hid hOF
        have HBF := Lib.hid hBF
        have HLD := Lib.hid (row_range hRC)
        have HXC := Lib.hid (show wC X = wantC X.rep X.st from rfl)
        obtain ⟨f, hf⟩ : ∃ f, f = X.st := ⟨_, rfl⟩
        obtain ⟨bX, hbX⟩ : ∃ b, b = X.rep := ⟨_, rfl⟩
        rw [← hf, ← hbX] at HLD HXC
        have hwc : wc.heap.size = wc.heap.size := rfl
        clear hRC hOF hBF hf hbX hwc
        go_wp2_with (first | (refine wpList_load_mid rfl _ _ rfl K 0 rfl (wantC bX f) _ HLD.out Try.underlying58 rfl (want_info _ (wantC_len _ _)) ?_) | (refine wpList_build_one rfl _ rfl bX f rfl ?_) | (at_builtin; refine wpList_append_lies _ rfl _ _ 34 rfl w.heap.size 58 i0 _ 257 257 Try.underlying34 hi0 hz0 hz1 hz2 (by rfl) (by decide) (.slice oa n oc) n (flatW r) rfl (HOF.out.alloc _) ⟨wc.heap.size, 0, none⟩ 1 1 (wantC bX f) rfl (wantC_len _ _) (World.news_of_block (cs := (wantC bX f).toArray) (t := 58) (fr := (0, 0)) (heap_alloc_new wc _)) (wantC_one _ _) (by decide) (by unfold maxLen; omega) (by omega) (by have := HBF.out.size; simp; omega) (wc.heap.size + 1) (by simp) ?_) | fail)
        intro gg cap w6 hown hgrow hat hlt6
        have HO6 := Lib.hid (show w6.ownsRow w.heap.size 58 257 (.slice (some ⟨gg, 0, none⟩) (r ++ [X]).length cap) (r ++ [X]).length (flatW (r ++ [X])) by rw [flatW_more, List.length_append, List.length_singleton, ← HN.out, HXC.out]; exact hown)
        have HB6 := Lib.hid ((HBF.out.alloc HBF.out.size _).grown hgrow (by have := HBF.out.size; simp; omega) (fun z hz => (HOF.out.lt z hz).1))
        have HLN := Lib.hid (show ((r ++ [X]).length : Nat) = n + 1 by rw [List.length_append, List.length_singleton, ← HN.out])
        have HNP := Lib.hid (show 1 ≤ N by have h := wt1_pos (L.drop p); rw [HXN.out] at h; exact h)
        clear hown hgrow hat hlt6
        go_wp2_with fail
        go_roundw
        case rel => exact ⟨p + N, some ⟨gg, 0, none⟩, cap, r ++ [X], by rw [HLN.out], rfl, HWL.out, by rw [HLN.out]; have := HNP.out; omega, HO6.out, HR1.out, HB6.out⟩
        case measure => have := HNP.out; have := HWL.out; simp only [intOf]; omega
    · have hpi : ¬ (p : Int) < (P.size : Int) := by omega
      have HE := Lib.hid (show raw L = r by rw [HRW.out, List.drop_eq_nil_of_le (by rw [HLP.out]; omega), raw_nil, List.append_nil])
      go_wp2_with fail
      go_ret
      exact ⟨oa, oc, by rw [HE.out]; rfl, by rw [HE.out]; exact HO.out, HB.out⟩
end Go.Proofs.Ytfldhggmgepcjaa
