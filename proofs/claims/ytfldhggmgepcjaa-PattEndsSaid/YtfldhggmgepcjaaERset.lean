/-
  The reference's set, walked.
-/
import Derived.Test.YtfldhggmgepcjaaESet
import Derived.Laws.CopyOwn
namespace Go.Proofs.Ytfldhggmgepcjaa
set_option maxRecDepth 100000
open Go Go.RowKit

theorem rcl_is (s : ByteArray) (n : Int) : IsClass s n (clsB s.data.toList n) := by
  by_cases h : ∃ r ∈ insRows, s = r.2.1
  · obtain ⟨r, hr, rfl⟩ := h
    have h2 : IsClass r.2.1 n (clsF r.2.2 n) := Or.inl ⟨r, hr, rfl, rfl⟩
    have h3 := cls_of h2
    rw [← h3]; exact h2
  · have h2 : IsClass s n false := Or.inr ⟨fun r hr e => h ⟨r, hr, e⟩, rfl⟩
    have h3 := cls_of h2
    rw [← h3]; exact h2
theorem new_sets (w : World) : SRow w ((w.alloc (.cells zeroS 56)).alloc (.cells zeroS 56)) (fun _ => false) := by
  refine ⟨(below_box w _).alloc (by simp) _, ?_, ?_⟩
  · have h := new_block w (.cells zeroS 56)
    exact kept (below_box _ _) h
  · rw [← noneC_eq]
    have h := new_block (w.alloc (.cells zeroS 56)) (.cells zeroS 56)
    rw [show (w.alloc (.cells zeroS 56)).heap.size = w.heap.size + 1 by simp] at h
    exact h
theorem SRow.row_load {w W : World} {f : UInt8 → Bool} (h : SRow w W f) : W.rangeAt (w.heap.size + 1) 0 (setC f) := fun j v hv => by rw [Nat.zero_add]; exact h.row.cell hv
theorem SRow.done {w W : World} {f : UInt8 → Bool} (h : SRow w W f) : Below w.heap.size w (W.setRow w.heap.size (setC f).toArray) ∧ (loadVar 56 ⟨w.heap.size, 0, none⟩).run Try.prog (W.setRow w.heap.size (setC f).toArray) = .ok (.agg (setC f).toArray) (W.setRow w.heap.size (setC f).toArray) := by
  refine ⟨below_setRow h.low (Nat.le_refl _) _, ?_⟩
  refine run_loadVar_mid _ _ 0 _ (setC f) _ (fun j v hv => ?_) Try.underlying56 rfl (set_info _ (setC_len f))
  rw [Nat.zero_add, cell_setRow_same _ _ _ _ _ _ _ h.out, List.getElem?_toArray]
  exact hv
theorem SRow.at_ {w W : World} {f : UInt8 → Bool} (h : SRow w W f) (j : Nat) (hj : j < 256) : W.cell? ⟨w.heap.size + 1, j, none⟩ = some (.bool (f (UInt8.ofNat j))) ∧ W.frozen? ⟨w.heap.size + 1, j, none⟩ = false := ⟨h.row.cell (setC_at f j hj), h.row.free j⟩
theorem SRow.lt {w W : World} {f : UInt8 → Bool} (h : SRow w W f) : w.heap.size + 1 < W.heap.size := lt_of_block h.row

theorem set_res (tmps : Array Value) (W : World) (k : Nat) (v n : Value) (h6 : tmps.getD 6 undef = .pointer (some ⟨k, 0, none⟩)) (h7 : tmps.getD 7 undef = n) (hl : (loadVar 56 ⟨k, 0, none⟩).run Try.prog W = .ok v W) : (results Try.f26 tmps).run Try.prog W = .ok (.tuple #[v, n]) W := by
  have g6 : tmps[6]?.getD undef = .pointer (some ⟨k, 0, none⟩) := by simpa using h6
  have g7 : tmps[7]?.getD undef = n := by simpa using h7
  simp [results, Try.results26, asAddr, Sem.run_bind]
  rw [g6, g7]
  simp [hl]
set_option maxHeartbeats 16000000 in
theorem rset (P Q : ByteArray) (hP : P.size ≤ 100000) (i : Nat) (hi : i ≤ P.size) (x : Int) (hx : x = (i : Int)) (w : World) : Calls Try.prog 26 #[.string P, .string Q, .int .i64 x] w (RSetAns w i (setP ((plL P.data.toList Q.data.toList).drop i))) := by
  subst hx
  have HK := Lib.hid (fun j c x y hx hy W => rat P Q j c x y hx hy W)
  have HC := Lib.hid (fun j hj x hx W => rclass P Q hP j hj x hx W)
  have HPL := Lib.hid (fun (j : Nat) (_ : j < P.size) => byte_pl P Q j)
  have HNT := Lib.hid (fun (j k : Nat) => name_text P Q j k)
  obtain ⟨L, hL⟩ : ∃ L, L = plL P.data.toList Q.data.toList := ⟨_, rfl⟩
  have HLP := Lib.hid (show L.length = P.size by rw [hL, pl_len, size_data])
  rw [← hL] at HK HC HPL HNT ⊢
  clear hL
  obtain ⟨q, hq⟩ : ∃ q, q = i + bang (L.drop i) := ⟨_, rfl⟩
  have HQ := Lib.hid hq
  rw [bang_at] at hq
  have C1 := HK.out i 33 (i : Int) 33 rfl rfl
  have hq2 : q ≤ P.size := by
    split at hq
    · rename_i h; have := isP_lt h; have := HLP.out; omega
    · omega
  have HW0 := Lib.hid (new_sets w)
  obtain ⟨W0, hW0⟩ : ∃ W0, W0 = (w.alloc (.cells zeroS 56)).alloc (.cells zeroS 56) := ⟨_, rfl⟩
  rw [← hW0] at HW0
  have HW0E := Lib.hid hW0
  clear hW0
  cases hbb : isP L i 33
  case false =>
    rw [hbb] at C1 hq
    have HBB := Lib.hid hbb
    obtain rfl : i = q := by rw [hq, if_neg (by simp)]; rfl
    clear hq hbb
    go_enter Try.func26, Try.ntmps26
    go_wp2_with (first | (refine wpList_alloc_set rfl rfl ?_) | fail)
    rw [← HW0E.out]
    refine (C1 _).mono ?_
    rintro e w1 ⟨rfl, rfl⟩
    go_wp2_with fail
    go_loopw [2, 10] (fun v2 v10 wr => ∃ (p : Nat) (ms : List Mb) (fst : Bool) (f : UInt8 → Bool), v2 = .int .i64 ((p : Nat) : Int) ∧ v10 = .bool fst ∧ p ≤ P.size ∧ Hid ((fst = true → ms = [] ∧ p = i) ∧ (fst = false → SetH L i p false ms)) ∧ Hid (SRow w wr f) ∧ Hid (∀ c, f c = ms.any fun m => m.tk c)) (fun v2 _ _ => P.size - (intOf v2).toNat)
    case atStart => exact ⟨i, [], true, _, rfl, rfl, hq2, ⟨fun _ => ⟨rfl, rfl⟩, fun h => by cases h⟩, HW0, fun _ => rfl⟩
    case round =>
      obtain ⟨p, ms, fst, f, rfl, rfl, hp, HS, HR, HF⟩ := hrel
      by_cases hlt : p < P.size
      · have hpi : (p : Int) < (P.size : Int) := by omega
        have hp0 : (0 : Int) ≤ (p : Int) := by omega
        have hwl := HR.out.lt
        by_cases hcl : fst = false ∧ isP L p 93 = true
        · obtain ⟨rfl, h93⟩ := hcl
          have C93 := HK.out p 93 (p : Int) 93 rfl rfl
          rw [h93] at C93
          have HANS := Lib.hid (setH_yes (HS.out.2 rfl) h93)
          have HN1 := Lib.hid (show i + (p + 1 - i) = p + 1 by have := setP_le HANS.out; omega)
          clear h93
          go_wp2_with fail
          refine (C93 _).mono ?_
          rintro e w2 ⟨rfl, rfl⟩
          obtain ⟨hbd, hlv⟩ := HR.out.done
          have HBD := Lib.hid hbd
          have HLV := Lib.hid hlv
          have HAE := Lib.hid (show setC f = setC (Wt.set false ms).tk from setC_congr fun c => by rw [HF.out c]; simp [Wt.tk])
          clear hbd hlv
          go_wp2_with (first | (refine wpList_load_mid rfl _ _ rfl (w.heap.size + 1) 0 rfl (setC f) _ HR.out.row_load Try.underlying56 rfl (set_info _ (setC_len f)) ?_) | (refine wpList_store_row rfl _ _ _ rfl w.heap.size (setC f).toArray rfl rfl _ _ HR.out.out (set_info _ (by rw [List.size_toArray]; exact setC_len f)) (by simp [noneC, setC_len]) (setC_one f) ?_) | fail)
          obtain ⟨wf, hwf⟩ : ∃ wf, wf = wr.setRow w.heap.size (setC f).toArray := ⟨_, rfl⟩
          rw [← hwf] at HLV HBD ⊢
          clear hwf
          rw [HANS.out]
          exact bodyPost_ret (v := .tuple #[.agg (setC f).toArray, .int .i64 ((p : Int) + 1)]) (set_res _ _ _ _ _ rfl rfl HLV.out) rfl ⟨by rw [HAE.out, HN1.out]; simp, HBD.out⟩
        · have hnx : SetH L i (p + mbN (L.drop p)) false (ms ++ [mbF (L.drop p)]) := by
            cases fst with
            | true => obtain ⟨rfl, rfl⟩ := HS.out.1 rfl; have h := setH_first HQ.out (by rw [HLP.out]; exact hlt); rw [HBB.out] at h; exact h
            | false =>
              refine setH_next (HS.out.2 rfl) (by rw [HLP.out]; exact hlt) ?_
              cases h : isP L p 93 with
              | false => rfl
              | true => exact absurd ⟨rfl, h⟩ hcl
          have hmn : p + mbN (L.drop p) ≤ P.size := by
            have h := mbN_le (show L.drop p ≠ [] from fun e => by have := congrArg List.length e; rw [List.length_drop, HLP.out] at this; simp at this; omega)
            rw [List.length_drop, HLP.out] at h
            omega
          have C93 := HK.out p 93 (p : Int) 93 rfl rfl
          have hf93 : fst = true ∨ fst = false ∧ isP L p 93 = false := by
            cases fst with
            | true => exact Or.inl rfl
            | false =>
              refine Or.inr ⟨rfl, ?_⟩
              cases h : isP L p 93 with
              | false => rfl
              | true => exact absurd ⟨rfl, h⟩ hcl
          have HNX := Lib.hid hnx
          have HMN := Lib.hid hmn
          have C2 := HC.out p (by omega) (p : Int) rfl
          clear hnx hmn hcl HS
          cases hcls : clsE (L.drop p) with
          | some k =>
            have HMB := Lib.hid (show mbN (L.drop p) = k + 4 ∧ mbF (L.drop p) = .cls (P.extract (p + 2) (p + 2 + k)).data.toList from by
              unfold mbN mbF; rw [hcls]; exact ⟨rfl, by rw [show p + 2 + k = p + k + 2 by omega, HNT.out]⟩)
            rw [rclX_some hcls] at C2
            obtain ⟨nm, hnm⟩ : ∃ nm, nm = P.extract (p + 2) (p + 2 + k) := ⟨_, rfl⟩
            rw [← hnm] at HMB C2
            have HK4 := Lib.hid (show ((k + 4 : Nat) : Int) = (k : Int) + 4 by omega)
            rw [HK4.out] at C2
            have hk0 : (0 : Int) < (k : Int) + 4 := by omega
            have C3 := fun (c : Nat) (W : World) => rclass_any nm (c : Int) (by omega) _ (rcl_is nm (c : Int)) W
            clear hnm hcls
            rcases hf93 with rfl | ⟨rfl, h93⟩
            all_goals
              first | rw [h93] at C93 | skip
              go_wp2_with fail
              first | (refine (C93 _).mono ?_; rintro e w2 ⟨rfl, rfl⟩; go_wp2_with fail) | skip
              refine (C2 _).mono ?_
              rintro e w3 ⟨rfl, rfl⟩
              go_wp2_with fail
              have hpk : p + (k + 4) ≤ P.size := by have h := HMN.out; rw [HMB.out.1] at h; exact h
              go_loopw [14] (fun v14 wy => ∃ (c : Nat) (g : UInt8 → Bool), v14 = .int .i64 ((c : Nat) : Int) ∧ c ≤ 256 ∧ Hid (SRow w wy g) ∧ Hid (∀ d : UInt8, g d = (f d || (decide (d.toNat < c) && clsB nm.data.toList d.toNat)))) (fun v14 _ => 256 - (intOf v14).toNat)
              case atStart => exact ⟨0, f, rfl, by omega, HR, fun d => by simp⟩
              case round =>
                obtain ⟨c, g, rfl, hc, HRG, HG⟩ := hrel
                by_cases hc2 : c < 256
                · have hci : (c : Int) < 256 := by omega
                  have hc0 : (0 : Int) ≤ (c : Int) := by omega
                  have hcm : (c : Int) % 256 = (c : Int) := Int.emod_eq_of_lt hc0 hci
                  obtain ⟨hcell, hfree⟩ := HRG.out.at_ c hc2
                  have hwl2 := HRG.out.lt
                  have C4 := C3 c
                  have HGY := Lib.hid (show ∀ v : Bool, clsB nm.data.toList (c : Int) = v → ∀ d : UInt8, (if d = UInt8.ofNat c then (v || g d) else g d) = (f d || (decide (d.toNat < c + 1) && clsB nm.data.toList d.toNat)) from fun v hv d => by
                    by_cases e : d = UInt8.ofNat c
                    · have e2 : d.toNat = c := by rw [e, ofNat_val c hc2]
                      rw [if_pos e, HG.out d, e2, hv]
                      simp [Bool.or_comm]
                    · rw [if_neg e, HG.out d]
                      have hne : d.toNat ≠ c := fun h => e (by rw [← h, UInt8.ofNat_toNat])
                      by_cases h3 : d.toNat < c
                      · rw [decide_eq_true h3, decide_eq_true (show d.toNat < c + 1 by omega)]
                      · rw [decide_eq_false h3, decide_eq_false (show ¬ d.toNat < c + 1 by omega)])
                  have HN := Lib.hid (HRG.out.put c hc2 true)
                  cases hv : clsB nm.data.toList (c : Int) with
                  | true =>
                    rw [hv] at C4
                    have HG2 := Lib.hid (HGY.out true hv)
                    clear hv HGY
                    go_wp2_with fail
                    refine (C4 _).mono ?_
                    rintro e w4 ⟨rfl, rfl⟩
                    go_wp2_with fail
                    go_roundw
                    case rel => exact ⟨c + 1, _, by simp, by omega, HN.out, fun d => by have h := HG2.out d; rw [Bool.true_or] at h; exact h⟩
                    case measure => simp only [intOf]; omega
                  | false =>
                    rw [hv] at C4
                    have HG2 := Lib.hid (HGY.out false hv)
                    clear hv HGY
                    go_wp2_with fail
                    refine (C4 _).mono ?_
                    rintro e w4 ⟨rfl, rfl⟩
                    go_wp2_with fail
                    go_roundw
                    case rel => exact ⟨c + 1, g, by simp, by omega, HRG.out, fun d => by have h := HG2.out d; rw [Bool.false_or, ite_self] at h; exact h⟩
                    case measure => simp only [intOf]; omega
                · have hci : ¬ (c : Int) < 256 := by omega
                  have HGF := Lib.hid (show ∀ d, g d = (ms ++ [mbF (L.drop p)]).any fun m => m.tk d from fun d => by
                    rw [HG.out d, HF.out d, HMB.out.2, List.any_append, decide_eq_true (by have := d.toNat_lt; omega)]
                    simp [Mb.tk])
                  go_wp2_with fail
                  go_roundw
                  case rel => exact ⟨p + (k + 4), ms ++ [mbF (L.drop p)], false, g, by simp, rfl, by have h := HMN.out; rw [HMB.out.1] at h; exact h, ⟨(fun h => by cases h), fun _ => by have h := HNX.out; rw [HMB.out.1] at h; exact h⟩, HRG.out, HGF.out⟩
                  case measure => simp only [intOf]; omega
          | none =>
            rw [rclX_none hcls] at C2
            have hpp := P.size
            have C45 := HK.out (p + 1) 45 ((p : Int) + 1) 45 (by omega) rfl
            have C93b := HK.out (p + 2) 93 ((p : Int) + 2) 93 (by omega) rfl
            have HRN := Lib.hid (show rngB (L.drop p) = (isP L (p + 1) 45 && (decide (p + 2 < P.size) && !isP L (p + 2) 93)) from by
              unfold rngB; rw [isP_drop, isP_drop, List.length_drop, HLP.out]
              congr 2
              rw [decide_eq_decide]; omega)
            cases hr : rngB (L.drop p) with
            | true =>
              have hr2 := HRN.out
              rw [hr] at hr2
              have h45 : isP L (p + 1) 45 = true := by cases h : isP L (p + 1) 45 <;> rw [h] at hr2 <;> simp_all
              have hl2 : p + 2 < P.size := by
                by_cases h : p + 2 < P.size
                · exact h
                · rw [decide_eq_false h] at hr2; simp at hr2
              have h93b : isP L (p + 2) 93 = false := by rw [h45, decide_eq_true hl2] at hr2; simpa using hr2.symm
              have HMB := Lib.hid (show mbN (L.drop p) = 3 ∧ mbF (L.drop p) = .span P[p] P[p + 2] from by
                unfold mbN mbF; rw [hcls, hr]
                exact ⟨rfl, by rw [if_pos rfl, HPL.out p hlt 0 (by omega), HPL.out p hlt 2 (by omega)]; rfl⟩)
              rw [h45] at C45
              rw [h93b] at C93b
              have hp2i : (p : Int) + 2 < (P.size : Int) := by omega
              have hp20 : (0 : Int) ≤ (p : Int) + 2 := by omega
              have hpn : ((p : Int) + 2).toNat = p + 2 := by omega
              obtain ⟨a, ha⟩ : ∃ a, a = P[p] := ⟨_, rfl⟩
              obtain ⟨z, hz⟩ : ∃ z, z = P[p + 2] := ⟨_, rfl⟩
              have hal := a.toNat_lt
              have hzl := z.toNat_lt
              have HMB2 := Lib.hid (show mbF (L.drop p) = .span a z by rw [ha, hz]; exact HMB.out.2)
              have HMB1 := Lib.hid HMB.out.1
              have HZ := Lib.hid hz
              have HA := Lib.hid ha
              clear hr hr2 hcls HMB HRN h45 h93b hpp hz ha
              rcases hf93 with rfl | ⟨rfl, h93⟩
              all_goals
                first | rw [h93] at C93 | skip
                go_wp2_with fail
                first | (refine (C93 _).mono ?_; rintro e w2 ⟨rfl, rfl⟩; go_wp2_with fail) | skip
                refine (C2 _).mono ?_
                rintro e w3 ⟨rfl, rfl⟩
                go_wp2_with fail
                refine (C45 _).mono ?_
                rintro e w4 ⟨rfl, rfl⟩
                go_wp2_with fail
                refine (C93b _).mono ?_
                rintro e w5 ⟨rfl, rfl⟩
                go_wp2_with fail
                go_loopw [15] (fun v15 wy => ∃ (c : Nat) (g : UInt8 → Bool), v15 = .int .i64 ((c : Nat) : Int) ∧ a.toNat ≤ c ∧ (c ≤ z.toNat + 1 ∨ c = a.toNat) ∧ Hid (SRow w wy g) ∧ Hid (∀ d : UInt8, g d = (f d || (decide (a.toNat ≤ d.toNat) && decide (d.toNat < c))))) (fun v15 _ => 256 - (intOf v15).toNat)
                case atStart => exact ⟨a.toNat, f, by rw [← HA.out]; congr 1; unfold wrap64; omega, Nat.le_refl _, Or.inr rfl, HR, fun d => by
                  by_cases h : a.toNat ≤ d.toNat
                  · rw [decide_eq_false (show ¬ d.toNat < a.toNat by omega)]; simp
                  · rw [decide_eq_false h]; simp⟩
                case round =>
                  obtain ⟨c, g, rfl, hc, hc3, HRG, HG⟩ := hrel
                  by_cases hc2 : c ≤ z.toNat
                  · have hci : (c : Int) ≤ (z.toNat : Int) := by omega
                    have hcj : (c : Int) < 256 := by omega
                    have hc0 : (0 : Int) ≤ (c : Int) := by omega
                    obtain ⟨hcell, hfree⟩ := HRG.out.at_ c (by omega)
                    have hwl2 := HRG.out.lt
                    have HN := Lib.hid (HRG.out.put c (by omega) true)
                    have HGY := Lib.hid (show ∀ d : UInt8, (if d = UInt8.ofNat c then true else g d) = (f d || (decide (a.toNat ≤ d.toNat) && decide (d.toNat < c + 1))) from fun d => by
                      by_cases e : d = UInt8.ofNat c
                      · have e2 : d.toNat = c := by rw [e, ofNat_val c (by omega)]
                        rw [if_pos e, e2, decide_eq_true hc, decide_eq_true (show c < c + 1 by omega)]
                        simp
                      · rw [if_neg e, HG.out d]
                        have hne : d.toNat ≠ c := fun h => e (by rw [← h, UInt8.ofNat_toNat])
                        by_cases h3 : d.toNat < c
                        · rw [decide_eq_true h3, decide_eq_true (show d.toNat < c + 1 by omega)]
                        · rw [decide_eq_false h3, decide_eq_false (show ¬ d.toNat < c + 1 by omega)])
                    have hz2 := HZ.out.symm
                    go_wp2_with fail
                    go_roundw
                    case rel => exact ⟨c + 1, _, by simp, by omega, Or.inl (by omega), HN.out, HGY.out⟩
                    case measure => simp only [intOf]; omega
                  · have hci : ¬ (c : Int) ≤ (z.toNat : Int) := by omega
                    have HGF := Lib.hid (show ∀ d, g d = (ms ++ [mbF (L.drop p)]).any fun m => m.tk d from fun d => by
                      rw [HG.out d, HF.out d, HMB2.out, List.any_append]
                      simp only [List.any_cons, List.any_nil, Bool.or_false, Mb.tk]
                      congr 1
                      rw [← Bool.decide_and, ← Bool.decide_and, decide_eq_decide]
                      omega)
                    have hz2 := HZ.out.symm
                    have hmn3 : p + 3 ≤ P.size := by omega
                    go_wp2_with fail
                    go_roundw
                    case rel => exact ⟨p + 3, ms ++ [mbF (L.drop p)], false, g, by simp, rfl, by have h := HMN.out; rw [HMB1.out] at h; exact h, ⟨(fun h => by cases h), fun _ => by have h := HNX.out; rw [HMB1.out] at h; exact h⟩, HRG.out, HGF.out⟩
                    case measure => simp only [intOf]; omega
            | false =>
              have hr2 := HRN.out
              rw [hr] at hr2
              have hst : isP L (p + 1) 45 = false ∨ isP L (p + 1) 45 = true ∧ (¬ ((p : Int) + 2 < (P.size : Int)) ∨ ((p : Int) + 2 < (P.size : Int)) ∧ isP L (p + 2) 93 = true) := by
                cases h : isP L (p + 1) 45 with
                | false => exact Or.inl rfl
                | true =>
                  refine Or.inr ⟨rfl, ?_⟩
                  rw [h] at hr2
                  by_cases h2 : p + 2 < P.size
                  · refine Or.inr ⟨by omega, ?_⟩
                    rw [decide_eq_true h2] at hr2
                    simpa using hr2.symm
                  · exact Or.inl (by omega)
              have HMB := Lib.hid (show mbN (L.drop p) = 1 ∧ mbF (L.drop p) = .span P[p] P[p] from by
                unfold mbN mbF; rw [hcls, hr]
                exact ⟨rfl, by rw [if_neg (by simp), HPL.out p hlt 0 (by omega)]; rfl⟩)
              obtain ⟨a, ha⟩ : ∃ a, a = P[p] := ⟨_, rfl⟩
              have hal := a.toNat_lt
              have HMB2 := Lib.hid (show mbF (L.drop p) = .span a a by rw [ha]; exact HMB.out.2)
              have HMB1 := Lib.hid HMB.out.1
              have HA := Lib.hid ha
              have HN := Lib.hid (HR.out.put a.toNat hal true)
              have HGF := Lib.hid (show ∀ d, (if d = UInt8.ofNat a.toNat then true else f d) = (ms ++ [mbF (L.drop p)]).any fun m => m.tk d from fun d => by
                rw [HMB2.out, List.any_append, ← HF.out d, UInt8.ofNat_toNat]
                simp only [List.any_cons, List.any_nil, Bool.or_false, Mb.tk]
                by_cases e : d = a
                · rw [if_pos e, e]; simp
                · rw [if_neg e]
                  have : (decide (a.toNat ≤ d.toNat) && decide (d.toNat ≤ a.toNat)) = false := by
                    rw [← Bool.not_eq_true, Bool.and_eq_true, decide_eq_true_eq, decide_eq_true_eq]
                    rintro ⟨h1, h2⟩
                    exact e (UInt8.toNat_inj.1 (by omega))
                  rw [this, Bool.or_false])
              obtain ⟨hcell, hfree⟩ := HR.out.at_ a.toNat hal
              have hai : (a.toNat : Int) < 256 := by omega
              rw [ha] at hcell hfree hai HN
              clear hr hr2 hcls HMB HRN ha hal
              rcases hf93 with rfl | ⟨rfl, h93⟩
              all_goals
                first | rw [h93] at C93 | skip
                rcases hst with h45 | ⟨h45, h2 | ⟨h2, h93b⟩⟩
              all_goals
                rw [h45] at C45
                first | rw [h93b] at C93b | skip
                go_wp2_with fail
                first | (refine (C93 _).mono ?_; rintro e w2 ⟨rfl, rfl⟩; go_wp2_with fail) | skip
                refine (C2 _).mono ?_
                rintro e w3 ⟨rfl, rfl⟩
                go_wp2_with fail
                refine (C45 _).mono ?_
                rintro e w4 ⟨rfl, rfl⟩
                go_wp2_with fail
                first | (refine (C93b _).mono ?_; rintro e w5 ⟨rfl, rfl⟩; go_wp2_with fail) | skip
                go_roundw
                case rel => exact ⟨p + 1, ms ++ [mbF (L.drop p)], false, _, by simp, rfl, by omega, ⟨(fun h => by cases h), fun _ => by have h := HNX.out; rw [HMB1.out] at h; exact h⟩, HN.out, by rw [HA.out] at HGF; exact HGF.out⟩
                case measure => simp only [intOf]; omega
      · have hpi : ¬ (p : Int) < (P.size : Int) := by omega
        have HANS := Lib.hid (show setP (L.drop i) = none by
          cases fst with
          | true => obtain ⟨rfl, rfl⟩ := HS.out.1 rfl; exact setP_none HQ.out (Or.inl (by rw [HLP.out]; exact hlt))
          | false => exact setH_no (HS.out.2 rfl) (by rw [HLP.out]; exact hlt))
        have hwl := HR.out.lt
        obtain ⟨hbd, hlv⟩ := HR.out.done
        have HBD := Lib.hid hbd
        have HLV := Lib.hid hlv
        clear hbd hlv
        go_wp2_with (first | (refine wpList_load_mid rfl _ _ rfl (w.heap.size + 1) 0 rfl (setC f) _ HR.out.row_load Try.underlying56 rfl (set_info _ (setC_len f)) ?_) | (refine wpList_store_row rfl _ _ _ rfl w.heap.size (setC f).toArray rfl rfl _ _ HR.out.out (set_info _ (by rw [List.size_toArray]; exact setC_len f)) (by simp [noneC, setC_len]) (setC_one f) ?_) | fail)
        obtain ⟨wf, hwf⟩ : ∃ wf, wf = wr.setRow w.heap.size (setC f).toArray := ⟨_, rfl⟩
        rw [← hwf] at HLV HBD ⊢
        clear hwf
        rw [HANS.out]
        exact bodyPost_ret (v := .tuple #[.agg (setC f).toArray, .int .i64 0]) (set_res _ _ _ _ _ rfl rfl HLV.out) rfl ⟨⟨f, rfl⟩, HBD.out⟩
  case true =>
    rw [hbb] at C1 hq
    have HBB := Lib.hid hbb
    obtain rfl : q = i + 1 := by rw [hq, if_pos rfl]
    clear hq hbb
    go_enter Try.func26, Try.ntmps26
    go_wp2_with (first | (refine wpList_alloc_set rfl rfl ?_) | fail)
    rw [← HW0E.out]
    refine (C1 _).mono ?_
    rintro e w1 ⟨rfl, rfl⟩
    go_wp2_with fail
    go_loopw [2, 10] (fun v2 v10 wr => ∃ (p : Nat) (ms : List Mb) (fst : Bool) (f : UInt8 → Bool), v2 = .int .i64 ((p : Nat) : Int) ∧ v10 = .bool fst ∧ p ≤ P.size ∧ Hid ((fst = true → ms = [] ∧ p = i + 1) ∧ (fst = false → SetH L i p true ms)) ∧ Hid (SRow w wr f) ∧ Hid (∀ c, f c = ms.any fun m => m.tk c)) (fun v2 _ _ => P.size - (intOf v2).toNat)
    case atStart => exact ⟨i + 1, [], true, _, by simp, rfl, hq2, ⟨fun _ => ⟨rfl, rfl⟩, fun h => by cases h⟩, HW0, fun _ => rfl⟩
    case round =>
      obtain ⟨p, ms, fst, f, rfl, rfl, hp, HS, HR, HF⟩ := hrel
      by_cases hlt : p < P.size
      · have hpi : (p : Int) < (P.size : Int) := by omega
        have hp0 : (0 : Int) ≤ (p : Int) := by omega
        have hwl := HR.out.lt
        by_cases hcl : fst = false ∧ isP L p 93 = true
        · obtain ⟨rfl, h93⟩ := hcl
          have C93 := HK.out p 93 (p : Int) 93 rfl rfl
          rw [h93] at C93
          have HANS := Lib.hid (setH_yes (HS.out.2 rfl) h93)
          have HN1 := Lib.hid (show i + (p + 1 - i) = p + 1 by have := setP_le HANS.out; omega)
          clear h93
          go_wp2_with fail
          refine (C93 _).mono ?_
          rintro e w2 ⟨rfl, rfl⟩
          go_wp2_with fail
          go_loopw [11] (fun v11 wy => ∃ (c : Nat) (g : UInt8 → Bool), v11 = .int .i64 ((c : Nat) : Int) ∧ c ≤ 256 ∧ Hid (SRow w wy g) ∧ Hid (∀ d : UInt8, g d = if d.toNat < c then !f d else f d)) (fun v11 _ => 256 - (intOf v11).toNat)
          case atStart => exact ⟨0, f, rfl, by omega, HR, fun d => by rw [if_neg (by omega)]⟩
          case round =>
            obtain ⟨c, g, rfl, hc, HRG, HG⟩ := hrel
            by_cases hc2 : c < 256
            · have hci : (c : Int) < 256 := by omega
              have hc0 : (0 : Int) ≤ (c : Int) := by omega
              obtain ⟨hcell, hfree⟩ := HRG.out.at_ c hc2
              have hwl2 := HRG.out.lt
              have HN := Lib.hid (HRG.out.put c hc2 (!(g (UInt8.ofNat c))))
              have HGN := Lib.hid (show ∀ d : UInt8, (if d = UInt8.ofNat c then !(g (UInt8.ofNat c)) else g d) = if d.toNat < c + 1 then !f d else f d from fun d => by
                have hd := d.toNat_lt
                by_cases e : d = UInt8.ofNat c
                · rw [if_pos e, ← e, HG.out d, e, ofNat_val c hc2, if_neg (by omega), if_pos (by omega)]
                · rw [if_neg e, HG.out d]
                  have hne : d.toNat ≠ c := fun h => e (by rw [← h, UInt8.ofNat_toNat])
                  by_cases h3 : d.toNat < c
                  · rw [if_pos h3, if_pos (by omega)]
                  · rw [if_neg h3, if_neg (by omega)])
              go_wp2_with fail
              go_roundw
              case rel => exact ⟨c + 1, _, by simp, by omega, HN.out, HGN.out⟩
              case measure => simp only [intOf]; omega
            · have hci : ¬ (c : Int) < 256 := by omega
              obtain ⟨hbd, hlv⟩ := HRG.out.done
              have HBD := Lib.hid hbd
              have HLV := Lib.hid hlv
              have HAE := Lib.hid (show setC g = setC (Wt.set true ms).tk from setC_congr fun d => by rw [HG.out d, if_pos (by have := d.toNat_lt; omega), HF.out d]; simp [Wt.tk])
              have hwl2 := HRG.out.lt
              clear hbd hlv
              go_wp2_with (first | (refine wpList_load_mid rfl _ _ rfl (w.heap.size + 1) 0 rfl (setC g) _ HRG.out.row_load Try.underlying56 rfl (set_info _ (setC_len g)) ?_) | (refine wpList_store_row rfl _ _ _ rfl w.heap.size (setC g).toArray rfl rfl _ _ HRG.out.out (set_info _ (by rw [List.size_toArray]; exact setC_len g)) (by simp [noneC, setC_len]) (setC_one g) ?_) | fail)
              obtain ⟨wf, hwf⟩ : ∃ wf, wf = wr.setRow w.heap.size (setC g).toArray := ⟨_, rfl⟩
              rw [← hwf] at HLV HBD ⊢
              clear hwf
              rw [HANS.out]
              exact bodyPost_ret (v := .tuple #[.agg (setC g).toArray, .int .i64 ((p : Int) + 1)]) (set_res _ _ _ _ _ rfl rfl HLV.out) rfl ⟨by rw [HAE.out, HN1.out]; simp, HBD.out⟩
        · have hnx : SetH L i (p + mbN (L.drop p)) true (ms ++ [mbF (L.drop p)]) := by
            cases fst with
            | true => obtain ⟨rfl, rfl⟩ := HS.out.1 rfl; have h := setH_first HQ.out (by rw [HLP.out]; exact hlt); rw [HBB.out] at h; exact h
            | false =>
              refine setH_next (HS.out.2 rfl) (by rw [HLP.out]; exact hlt) ?_
              cases h : isP L p 93 with
              | false => rfl
              | true => exact absurd ⟨rfl, h⟩ hcl
          have hmn : p + mbN (L.drop p) ≤ P.size := by
            have h := mbN_le (show L.drop p ≠ [] from fun e => by have := congrArg List.length e; rw [List.length_drop, HLP.out] at this; simp at this; omega)
            rw [List.length_drop, HLP.out] at h
            omega
          have C93 := HK.out p 93 (p : Int) 93 rfl rfl
          have hf93 : fst = true ∨ fst = false ∧ isP L p 93 = false := by
            cases fst with
            | true => exact Or.inl rfl
            | false =>
              refine Or.inr ⟨rfl, ?_⟩
              cases h : isP L p 93 with
              | false => rfl
              | true => exact absurd ⟨rfl, h⟩ hcl
          have HNX := Lib.hid hnx
          have HMN := Lib.hid hmn
          have C2 := HC.out p (by omega) (p : Int) rfl
          clear hnx hmn hcl HS
          cases hcls : clsE (L.drop p) with
          | some k =>
            have HMB := Lib.hid (show mbN (L.drop p) = k + 4 ∧ mbF (L.drop p) = .cls (P.extract (p + 2) (p + 2 + k)).data.toList from by
              unfold mbN mbF; rw [hcls]; exact ⟨rfl, by rw [show p + 2 + k = p + k + 2 by omega, HNT.out]⟩)
            rw [rclX_some hcls] at C2
            obtain ⟨nm, hnm⟩ : ∃ nm, nm = P.extract (p + 2) (p + 2 + k) := ⟨_, rfl⟩
            rw [← hnm] at HMB C2
            have HK4 := Lib.hid (show ((k + 4 : Nat) : Int) = (k : Int) + 4 by omega)
            rw [HK4.out] at C2
            have hk0 : (0 : Int) < (k : Int) + 4 := by omega
            have C3 := fun (c : Nat) (W : World) => rclass_any nm (c : Int) (by omega) _ (rcl_is nm (c : Int)) W
            clear hnm hcls
            rcases hf93 with rfl | ⟨rfl, h93⟩
            all_goals
              first | rw [h93] at C93 | skip
              go_wp2_with fail
              first | (refine (C93 _).mono ?_; rintro e w2 ⟨rfl, rfl⟩; go_wp2_with fail) | skip
              refine (C2 _).mono ?_
              rintro e w3 ⟨rfl, rfl⟩
              go_wp2_with fail
              have hpk : p + (k + 4) ≤ P.size := by have h := HMN.out; rw [HMB.out.1] at h; exact h
              go_loopw [14] (fun v14 wy => ∃ (c : Nat) (g : UInt8 → Bool), v14 = .int .i64 ((c : Nat) : Int) ∧ c ≤ 256 ∧ Hid (SRow w wy g) ∧ Hid (∀ d : UInt8, g d = (f d || (decide (d.toNat < c) && clsB nm.data.toList d.toNat)))) (fun v14 _ => 256 - (intOf v14).toNat)
              case atStart => exact ⟨0, f, rfl, by omega, HR, fun d => by simp⟩
              case round =>
                obtain ⟨c, g, rfl, hc, HRG, HG⟩ := hrel
                by_cases hc2 : c < 256
                · have hci : (c : Int) < 256 := by omega
                  have hc0 : (0 : Int) ≤ (c : Int) := by omega
                  have hcm : (c : Int) % 256 = (c : Int) := Int.emod_eq_of_lt hc0 hci
                  obtain ⟨hcell, hfree⟩ := HRG.out.at_ c hc2
                  have hwl2 := HRG.out.lt
                  have C4 := C3 c
                  have HGY := Lib.hid (show ∀ v : Bool, clsB nm.data.toList (c : Int) = v → ∀ d : UInt8, (if d = UInt8.ofNat c then (v || g d) else g d) = (f d || (decide (d.toNat < c + 1) && clsB nm.data.toList d.toNat)) from fun v hv d => by
                    by_cases e : d = UInt8.ofNat c
                    · have e2 : d.toNat = c := by rw [e, ofNat_val c hc2]
                      rw [if_pos e, HG.out d, e2, hv]
                      simp [Bool.or_comm]
                    · rw [if_neg e, HG.out d]
                      have hne : d.toNat ≠ c := fun h => e (by rw [← h, UInt8.ofNat_toNat])
                      by_cases h3 : d.toNat < c
                      · rw [decide_eq_true h3, decide_eq_true (show d.toNat < c + 1 by omega)]
                      · rw [decide_eq_false h3, decide_eq_false (show ¬ d.toNat < c + 1 by omega)])
                  have HN := Lib.hid (HRG.out.put c hc2 true)
                  cases hv : clsB nm.data.toList (c : Int) with
                  | true =>
                    rw [hv] at C4
                    have HG2 := Lib.hid (HGY.out true hv)
                    clear hv HGY
                    go_wp2_with fail
                    refine (C4 _).mono ?_
                    rintro e w4 ⟨rfl, rfl⟩
                    go_wp2_with fail
                    go_roundw
                    case rel => exact ⟨c + 1, _, by simp, by omega, HN.out, fun d => by have h := HG2.out d; rw [Bool.true_or] at h; exact h⟩
                    case measure => simp only [intOf]; omega
                  | false =>
                    rw [hv] at C4
                    have HG2 := Lib.hid (HGY.out false hv)
                    clear hv HGY
                    go_wp2_with fail
                    refine (C4 _).mono ?_
                    rintro e w4 ⟨rfl, rfl⟩
                    go_wp2_with fail
                    go_roundw
                    case rel => exact ⟨c + 1, g, by simp, by omega, HRG.out, fun d => by have h := HG2.out d; rw [Bool.false_or, ite_self] at h; exact h⟩
                    case measure => simp only [intOf]; omega
                · have hci : ¬ (c : Int) < 256 := by omega
                  have HGF := Lib.hid (show ∀ d, g d = (ms ++ [mbF (L.drop p)]).any fun m => m.tk d from fun d => by
                    rw [HG.out d, HF.out d, HMB.out.2, List.any_append, decide_eq_true (by have := d.toNat_lt; omega)]
                    simp [Mb.tk])
                  go_wp2_with fail
                  go_roundw
                  case rel => exact ⟨p + (k + 4), ms ++ [mbF (L.drop p)], false, g, by simp, rfl, by have h := HMN.out; rw [HMB.out.1] at h; exact h, ⟨(fun h => by cases h), fun _ => by have h := HNX.out; rw [HMB.out.1] at h; exact h⟩, HRG.out, HGF.out⟩
                  case measure => simp only [intOf]; omega
          | none =>
            rw [rclX_none hcls] at C2
            have hpp := P.size
            have C45 := HK.out (p + 1) 45 ((p : Int) + 1) 45 (by omega) rfl
            have C93b := HK.out (p + 2) 93 ((p : Int) + 2) 93 (by omega) rfl
            have HRN := Lib.hid (show rngB (L.drop p) = (isP L (p + 1) 45 && (decide (p + 2 < P.size) && !isP L (p + 2) 93)) from by
              unfold rngB; rw [isP_drop, isP_drop, List.length_drop, HLP.out]
              congr 2
              rw [decide_eq_decide]; omega)
            cases hr : rngB (L.drop p) with
            | true =>
              have hr2 := HRN.out
              rw [hr] at hr2
              have h45 : isP L (p + 1) 45 = true := by cases h : isP L (p + 1) 45 <;> rw [h] at hr2 <;> simp_all
              have hl2 : p + 2 < P.size := by
                by_cases h : p + 2 < P.size
                · exact h
                · rw [decide_eq_false h] at hr2; simp at hr2
              have h93b : isP L (p + 2) 93 = false := by rw [h45, decide_eq_true hl2] at hr2; simpa using hr2.symm
              have HMB := Lib.hid (show mbN (L.drop p) = 3 ∧ mbF (L.drop p) = .span P[p] P[p + 2] from by
                unfold mbN mbF; rw [hcls, hr]
                exact ⟨rfl, by rw [if_pos rfl, HPL.out p hlt 0 (by omega), HPL.out p hlt 2 (by omega)]; rfl⟩)
              rw [h45] at C45
              rw [h93b] at C93b
              have hp2i : (p : Int) + 2 < (P.size : Int) := by omega
              have hp20 : (0 : Int) ≤ (p : Int) + 2 := by omega
              have hpn : ((p : Int) + 2).toNat = p + 2 := by omega
              obtain ⟨a, ha⟩ : ∃ a, a = P[p] := ⟨_, rfl⟩
              obtain ⟨z, hz⟩ : ∃ z, z = P[p + 2] := ⟨_, rfl⟩
              have hal := a.toNat_lt
              have hzl := z.toNat_lt
              have HMB2 := Lib.hid (show mbF (L.drop p) = .span a z by rw [ha, hz]; exact HMB.out.2)
              have HMB1 := Lib.hid HMB.out.1
              have HZ := Lib.hid hz
              have HA := Lib.hid ha
              clear hr hr2 hcls HMB HRN h45 h93b hpp hz ha
              rcases hf93 with rfl | ⟨rfl, h93⟩
              all_goals
                first | rw [h93] at C93 | skip
                go_wp2_with fail
                first | (refine (C93 _).mono ?_; rintro e w2 ⟨rfl, rfl⟩; go_wp2_with fail) | skip
                refine (C2 _).mono ?_
                rintro e w3 ⟨rfl, rfl⟩
                go_wp2_with fail
                refine (C45 _).mono ?_
                rintro e w4 ⟨rfl, rfl⟩
                go_wp2_with fail
                refine (C93b _).mono ?_
                rintro e w5 ⟨rfl, rfl⟩
                go_wp2_with fail
                go_loopw [15] (fun v15 wy => ∃ (c : Nat) (g : UInt8 → Bool), v15 = .int .i64 ((c : Nat) : Int) ∧ a.toNat ≤ c ∧ (c ≤ z.toNat + 1 ∨ c = a.toNat) ∧ Hid (SRow w wy g) ∧ Hid (∀ d : UInt8, g d = (f d || (decide (a.toNat ≤ d.toNat) && decide (d.toNat < c))))) (fun v15 _ => 256 - (intOf v15).toNat)
                case atStart => exact ⟨a.toNat, f, by rw [← HA.out]; congr 1; unfold wrap64; omega, Nat.le_refl _, Or.inr rfl, HR, fun d => by
                  by_cases h : a.toNat ≤ d.toNat
                  · rw [decide_eq_false (show ¬ d.toNat < a.toNat by omega)]; simp
                  · rw [decide_eq_false h]; simp⟩
                case round =>
                  obtain ⟨c, g, rfl, hc, hc3, HRG, HG⟩ := hrel
                  by_cases hc2 : c ≤ z.toNat
                  · have hci : (c : Int) ≤ (z.toNat : Int) := by omega
                    have hcj : (c : Int) < 256 := by omega
                    have hc0 : (0 : Int) ≤ (c : Int) := by omega
                    obtain ⟨hcell, hfree⟩ := HRG.out.at_ c (by omega)
                    have hwl2 := HRG.out.lt
                    have HN := Lib.hid (HRG.out.put c (by omega) true)
                    have HGY := Lib.hid (show ∀ d : UInt8, (if d = UInt8.ofNat c then true else g d) = (f d || (decide (a.toNat ≤ d.toNat) && decide (d.toNat < c + 1))) from fun d => by
                      by_cases e : d = UInt8.ofNat c
                      · have e2 : d.toNat = c := by rw [e, ofNat_val c (by omega)]
                        rw [if_pos e, e2, decide_eq_true hc, decide_eq_true (show c < c + 1 by omega)]
                        simp
                      · rw [if_neg e, HG.out d]
                        have hne : d.toNat ≠ c := fun h => e (by rw [← h, UInt8.ofNat_toNat])
                        by_cases h3 : d.toNat < c
                        · rw [decide_eq_true h3, decide_eq_true (show d.toNat < c + 1 by omega)]
                        · rw [decide_eq_false h3, decide_eq_false (show ¬ d.toNat < c + 1 by omega)])
                    have hz2 := HZ.out.symm
                    go_wp2_with fail
                    go_roundw
                    case rel => exact ⟨c + 1, _, by simp, by omega, Or.inl (by omega), HN.out, HGY.out⟩
                    case measure => simp only [intOf]; omega
                  · have hci : ¬ (c : Int) ≤ (z.toNat : Int) := by omega
                    have HGF := Lib.hid (show ∀ d, g d = (ms ++ [mbF (L.drop p)]).any fun m => m.tk d from fun d => by
                      rw [HG.out d, HF.out d, HMB2.out, List.any_append]
                      simp only [List.any_cons, List.any_nil, Bool.or_false, Mb.tk]
                      congr 1
                      rw [← Bool.decide_and, ← Bool.decide_and, decide_eq_decide]
                      omega)
                    have hz2 := HZ.out.symm
                    have hmn3 : p + 3 ≤ P.size := by omega
                    go_wp2_with fail
                    go_roundw
                    case rel => exact ⟨p + 3, ms ++ [mbF (L.drop p)], false, g, by simp, rfl, by have h := HMN.out; rw [HMB1.out] at h; exact h, ⟨(fun h => by cases h), fun _ => by have h := HNX.out; rw [HMB1.out] at h; exact h⟩, HRG.out, HGF.out⟩
                    case measure => simp only [intOf]; omega
            | false =>
              have hr2 := HRN.out
              rw [hr] at hr2
              have hst : isP L (p + 1) 45 = false ∨ isP L (p + 1) 45 = true ∧ (¬ ((p : Int) + 2 < (P.size : Int)) ∨ ((p : Int) + 2 < (P.size : Int)) ∧ isP L (p + 2) 93 = true) := by
                cases h : isP L (p + 1) 45 with
                | false => exact Or.inl rfl
                | true =>
                  refine Or.inr ⟨rfl, ?_⟩
                  rw [h] at hr2
                  by_cases h2 : p + 2 < P.size
                  · refine Or.inr ⟨by omega, ?_⟩
                    rw [decide_eq_true h2] at hr2
                    simpa using hr2.symm
                  · exact Or.inl (by omega)
              have HMB := Lib.hid (show mbN (L.drop p) = 1 ∧ mbF (L.drop p) = .span P[p] P[p] from by
                unfold mbN mbF; rw [hcls, hr]
                exact ⟨rfl, by rw [if_neg (by simp), HPL.out p hlt 0 (by omega)]; rfl⟩)
              obtain ⟨a, ha⟩ : ∃ a, a = P[p] := ⟨_, rfl⟩
              have hal := a.toNat_lt
              have HMB2 := Lib.hid (show mbF (L.drop p) = .span a a by rw [ha]; exact HMB.out.2)
              have HMB1 := Lib.hid HMB.out.1
              have HA := Lib.hid ha
              have HN := Lib.hid (HR.out.put a.toNat hal true)
              have HGF := Lib.hid (show ∀ d, (if d = UInt8.ofNat a.toNat then true else f d) = (ms ++ [mbF (L.drop p)]).any fun m => m.tk d from fun d => by
                rw [HMB2.out, List.any_append, ← HF.out d, UInt8.ofNat_toNat]
                simp only [List.any_cons, List.any_nil, Bool.or_false, Mb.tk]
                by_cases e : d = a
                · rw [if_pos e, e]; simp
                · rw [if_neg e]
                  have : (decide (a.toNat ≤ d.toNat) && decide (d.toNat ≤ a.toNat)) = false := by
                    rw [← Bool.not_eq_true, Bool.and_eq_true, decide_eq_true_eq, decide_eq_true_eq]
                    rintro ⟨h1, h2⟩
                    exact e (UInt8.toNat_inj.1 (by omega))
                  rw [this, Bool.or_false])
              obtain ⟨hcell, hfree⟩ := HR.out.at_ a.toNat hal
              have hai : (a.toNat : Int) < 256 := by omega
              rw [ha] at hcell hfree hai HN
              clear hr hr2 hcls HMB HRN ha hal
              rcases hf93 with rfl | ⟨rfl, h93⟩
              all_goals
                first | rw [h93] at C93 | skip
                rcases hst with h45 | ⟨h45, h2 | ⟨h2, h93b⟩⟩
              all_goals
                rw [h45] at C45
                first | rw [h93b] at C93b | skip
                go_wp2_with fail
                first | (refine (C93 _).mono ?_; rintro e w2 ⟨rfl, rfl⟩; go_wp2_with fail) | skip
                refine (C2 _).mono ?_
                rintro e w3 ⟨rfl, rfl⟩
                go_wp2_with fail
                refine (C45 _).mono ?_
                rintro e w4 ⟨rfl, rfl⟩
                go_wp2_with fail
                first | (refine (C93b _).mono ?_; rintro e w5 ⟨rfl, rfl⟩; go_wp2_with fail) | skip
                go_roundw
                case rel => exact ⟨p + 1, ms ++ [mbF (L.drop p)], false, _, by simp, rfl, by omega, ⟨(fun h => by cases h), fun _ => by have h := HNX.out; rw [HMB1.out] at h; exact h⟩, HN.out, by rw [HA.out] at HGF; exact HGF.out⟩
                case measure => simp only [intOf]; omega
      · have hpi : ¬ (p : Int) < (P.size : Int) := by omega
        have HANS := Lib.hid (show setP (L.drop i) = none by
          cases fst with
          | true => obtain ⟨rfl, rfl⟩ := HS.out.1 rfl; exact setP_none HQ.out (Or.inl (by rw [HLP.out]; exact hlt))
          | false => exact setH_no (HS.out.2 rfl) (by rw [HLP.out]; exact hlt))
        have hwl := HR.out.lt
        obtain ⟨hbd, hlv⟩ := HR.out.done
        have HBD := Lib.hid hbd
        have HLV := Lib.hid hlv
        clear hbd hlv
        go_wp2_with (first | (refine wpList_load_mid rfl _ _ rfl (w.heap.size + 1) 0 rfl (setC f) _ HR.out.row_load Try.underlying56 rfl (set_info _ (setC_len f)) ?_) | (refine wpList_store_row rfl _ _ _ rfl w.heap.size (setC f).toArray rfl rfl _ _ HR.out.out (set_info _ (by rw [List.size_toArray]; exact setC_len f)) (by simp [noneC, setC_len]) (setC_one f) ?_) | fail)
        obtain ⟨wf, hwf⟩ : ∃ wf, wf = wr.setRow w.heap.size (setC f).toArray := ⟨_, rfl⟩
        rw [← hwf] at HLV HBD ⊢
        clear hwf
        rw [HANS.out]
        exact bodyPost_ret (v := .tuple #[.agg (setC f).toArray, .int .i64 0]) (set_res _ _ _ _ _ rfl rfl HLV.out) rfl ⟨⟨f, rfl⟩, HBD.out⟩
end Go.Proofs.Ytfldhggmgepcjaa
