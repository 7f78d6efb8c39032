/-
  The reference's Prefix and Suffix, walked.
-/
import Derived.Test.YtfldhggmgepcjaaEEnds
import Derived.Test.YtfldhggmgepcjaaERwants
import Derived.Test.YtfldhggmgepcjaaQSuffix
import Derived.Test.YtfldhggmgepcjaaTextCut
namespace Go.Proofs.Ytfldhggmgepcjaa
set_option maxRecDepth 100000
open Go Go.RowKit

theorem fits_same (p q s : List UInt8) : fitsB (raw (plL p q)) s = fitsB (rowP p q) s := by
  unfold fitsB
  refine List.map_congr_left fun m _ => ?_
  rw [decide_eq_decide]; exact (rowP_mat p q _).symm

set_option maxHeartbeats 4000000 in
theorem rprefix10 (P Q s : ByteArray) (hP : P.size ≤ 100000) (hs : s.size ≤ 100000) (most : Bool) (w : World) : Calls Try.prog 7 #[.string P, .string Q, .string s, .bool most] w fun e w' => e = .returned (.int .i64 (pickL (fitsB (rowP P.data.toList Q.data.toList) s.data.toList) most)) ∧ Below w.heap.size w w' := by
  rw [← fits_same]
  have C1 := fun W => rwants10 P Q hP W
  have HRL := Lib.hid (show (raw (plL P.data.toList Q.data.toList)).length ≤ 100000 by have := rawF_len (plL P.data.toList Q.data.toList).length (plL P.data.toList Q.data.toList); rw [pl_len, size_data] at this; unfold raw; rw [pl_len, size_data]; omega)
  have HSL := Lib.hid (size_data s)
  obtain ⟨r, hr⟩ : ∃ r, r = raw (plL P.data.toList Q.data.toList) := ⟨_, rfl⟩
  rw [← hr] at C1 HRL ⊢
  clear hr
  go_enter Try.func7, Try.ntmps7
  go_wp2_with fail
  refine (C1 _).mono ?_
  rintro e w1 ⟨oa, oc, rfl, hO, hb⟩
  have C2 := rends10 w1 oa oc r HRL.out (want_row hO) s hs
  have HB1 := Lib.hid hb
  clear hO hb
  go_wp2_with fail
  refine C2.mono ?_
  rintro e w2 ⟨g, rfl, hR, hg, hb⟩
  have HB2 := Lib.hid (below_two HB1.out hb)
  rw [HSL.out]
  obtain ⟨l, hl⟩ : ∃ l, l = fitsB r s.data.toList := ⟨_, rfl⟩
  rw [fitsV_eq, ← hl] at hR
  have HLL := Lib.hid (show l.length = s.size + 1 by rw [hl, fitsB_len, HSL.out])
  have HR := Lib.hid hR
  have HLE := Lib.hid hl
  clear hR hg hb C1 C2 hl
  go_wp2_with fail
  go_loopw [10, 11] (fun v10 v11 wr => ∃ (i : Nat) (p : Int), v11 = .int .i64 ((i : Nat) : Int) ∧ v10 = .int .i64 p ∧ i ≤ s.size + 1 ∧ -1 ≤ p ∧ Hid (pickL l most = pickF most (l.drop i) i p) ∧ w2 = wr) (fun _ v11 _ => s.size + 1 - (intOf v11).toNat)
  case atStart => exact ⟨0, -1, rfl, rfl, Nat.zero_le _, Int.le_refl _, (show pickL l most = pickF most (l.drop 0) 0 (-1) from rfl), rfl⟩
  case round =>
    obtain ⟨i, p, rfl, rfl, hi, hp, HF, rfl⟩ := hrel
    by_cases hlt : i < s.size + 1
    · have hii : (i : Int) < (s.size : Int) + 1 := by omega
      have hi0 : (0 : Int) ≤ (i : Int) := by omega
      obtain ⟨b, hb⟩ : ∃ b, l[i]? = some b := ⟨l[i]'(by rw [HLL.out]; exact hlt), List.getElem?_eq_getElem _⟩
      have hcb := HR.out.cell (show (l.map Value.bool)[i]? = some (.bool b) by rw [List.getElem?_map, hb]; rfl)
      have hN : pickL l most = pickF most (l.drop (i + 1)) (i + 1) (if (b && (most || p == -1)) = true then (i : Int) else p) := by
        have h := HF.out
        have e : l.drop i = b :: l.drop (i + 1) := by
          have hil : i < l.length := by rw [HLL.out]; exact hlt
          rw [List.getElem?_eq_getElem hil] at hb
          rw [List.drop_eq_getElem_cons hil, Option.some.inj hb]
        rw [e, pickF] at h
        exact h
      have HY := Lib.hid (fun (h : (b && (most || p == -1)) = true) => show pickL l most = pickF most (l.drop (i + 1)) (i + 1) (i : Int) by rw [hN, if_pos h])
      have HX := Lib.hid (fun (h : (b && (most || p == -1)) = false) => show pickL l most = pickF most (l.drop (i + 1)) (i + 1) p by rw [hN, if_neg (by rw [h]; simp)])
      clear hb hN
      obtain ⟨q, hq⟩ : ∃ q, q = (p == -1) := ⟨_, rfl⟩
      rw [← hq] at HY HX
      have hpq : (q = true ∧ p < 0) ∨ (q = false ∧ ¬ p < 0) := by
        by_cases h : p = -1
        · exact Or.inl ⟨by rw [hq, h]; rfl, by omega⟩
        · exact Or.inr ⟨by rw [hq, beq_eq_false_iff_ne]; exact h, by omega⟩
      clear hq
      cases b with
      | false =>
        have HN := Lib.hid (HX.out rfl)
        go_wp2_with fail
        go_roundw
        case rel => exact ⟨i + 1, p, by simp, rfl, by omega, hp, HN, trivial⟩
        case measure => simp only [intOf]; omega
      | true =>
        cases most with
        | true =>
          have HN := Lib.hid (HY.out rfl)
          go_wp2_with fail
          go_roundw
          case rel => exact ⟨i + 1, (i : Int), by simp, rfl, by omega, by omega, HN, trivial⟩
          case measure => simp only [intOf]; omega
        | false =>
          rcases hpq with ⟨rfl, hpn⟩ | ⟨rfl, hpn⟩
          · have HN := Lib.hid (HY.out rfl)
            go_wp2_with fail
            go_roundw
            case rel => exact ⟨i + 1, (i : Int), by simp, rfl, by omega, by omega, HN, trivial⟩
            case measure => simp only [intOf]; omega
          · have HN := Lib.hid (HX.out rfl)
            go_wp2_with fail
            go_roundw
            case rel => exact ⟨i + 1, p, by simp, rfl, by omega, hp, HN, trivial⟩
            case measure => simp only [intOf]; omega
    · have hii : ¬ (i : Int) < (s.size : Int) + 1 := by omega
      have HE := Lib.hid (show pickL l most = p by
        have h := HF.out
        rw [List.drop_of_length_le (by rw [HLL.out]; omega), pickF] at h
        exact h)
      go_wp2_with fail
      go_ret
      exact ⟨by rw [← HLE.out, HE.out]; rfl, HB2.out⟩

/-- The lengths that fit from the end on. -/
def backB (r : List Wt) (s : List UInt8) : List Bool := fitsB r.reverse s.reverse
theorem back_len (r : List Wt) (s : List UInt8) : (backB r s).length = s.length + 1 := by unfold backB; rw [fitsB_len, List.length_reverse]
theorem back_at (r : List Wt) (s : List UInt8) {j : Nat} (h : j ≤ s.length) : (backB r s)[j]? = some (decide (Mat r (s.drop (s.length - j)))) := by
  unfold backB fitsB
  rw [List.getElem?_map, List.getElem?_range (by rw [List.length_reverse]; omega), Option.map_some]
  congr 1
  rw [decide_eq_decide, List.take_reverse, mat_rev]
def sufN (n : Nat) (p : Int) : Int := if p = -1 then -1 else (n : Int) - p
theorem suf_same (p q s : List UInt8) (most : Bool) : sufI (rowP p q) s most = sufN s.length (pickL (backB (raw (plL p q)) s) most) := by
  have e : backB (raw (plL p q)) s = fitsB (rowP p q).reverse s.reverse := by
    apply List.ext_getElem?
    intro j
    by_cases h : j ≤ s.length
    · rw [back_at _ _ h]
      have h2 := back_at (rowP p q) s h
      unfold backB at h2
      rw [h2]
      congr 1
      rw [decide_eq_decide]; exact (rowP_mat p q _).symm
    · rw [List.getElem?_eq_none (by rw [back_len]; omega), List.getElem?_eq_none (by rw [fitsB_len, List.length_reverse]; omega)]
  unfold sufI sufN
  rw [e]

set_option maxHeartbeats 4000000 in
theorem rsuffix10 (P Q s : ByteArray) (hP : P.size ≤ 100000) (hs : s.size ≤ 100000) (most : Bool) (w : World) : Calls Try.prog 9 #[.string P, .string Q, .string s, .bool most] w fun e w' => e = .returned (.int .i64 (sufI (rowP P.data.toList Q.data.toList) s.data.toList most)) ∧ Below w.heap.size w w' := by
  rw [suf_same, size_data]
  have C1 := fun W => rwants10 P Q hP W
  have HRL := Lib.hid (show (raw (plL P.data.toList Q.data.toList)).length ≤ 100000 by have := rawF_len (plL P.data.toList Q.data.toList).length (plL P.data.toList Q.data.toList); rw [pl_len, size_data] at this; unfold raw; rw [pl_len, size_data]; omega)
  have HSL := Lib.hid (size_data s)
  obtain ⟨r, hr⟩ : ∃ r, r = raw (plL P.data.toList Q.data.toList) := ⟨_, rfl⟩
  rw [← hr] at C1 HRL ⊢
  clear hr
  obtain ⟨l, hl⟩ : ∃ l, l = backB r s.data.toList := ⟨_, rfl⟩
  have HL := Lib.hid (show ∀ j, j ≤ s.size → l[j]? = some (decide (Mat r (s.data.toList.drop (s.size - j)))) from fun j h => by rw [hl, back_at r _ (by rw [HSL.out]; exact h), HSL.out])
  have HLL := Lib.hid (show l.length = s.size + 1 by rw [hl, back_len, HSL.out])
  rw [← hl]
  clear hl
  go_enter Try.func9, Try.ntmps9
  go_wp2_with fail
  refine (C1 _).mono ?_
  rintro e w1 ⟨oa, oc, rfl, hO, hb⟩
  have HWR := Lib.hid (want_row hO)
  have HB1 := Lib.hid hb
  clear hO hb C1
  obtain ⟨rn, hrn⟩ : ∃ rn, rn = r.length := ⟨_, rfl⟩
  rw [← hrn]
  have HRN := Lib.hid hrn
  clear hrn
  go_wp2_with fail
  go_loopw [10, 11] (fun v10 v11 wr => ∃ (k : Nat) (p : Int), v11 = .int .i64 ((k : Int) - 1) ∧ v10 = .int .i64 (sufN s.size p) ∧ k ≤ s.size + 1 ∧ -1 ≤ p ∧ p ≤ s.size ∧ Hid (pickL l most = pickF most (l.drop (s.size + 1 - k)) (s.size + 1 - k) p) ∧ Hid (Below w.heap.size w wr ∧ Below w1.heap.size w1 wr)) (fun _ v11 _ => ((intOf v11) + 1).toNat)
  case atStart => exact ⟨s.size + 1, -1, by congr 1; omega, rfl, Nat.le_refl _, Int.le_refl _, by omega, (show pickL l most = pickF most (l.drop (s.size + 1 - (s.size + 1))) (s.size + 1 - (s.size + 1) : Nat) (-1) by rw [Nat.sub_self]; rfl), HB1.out, Below.refl _ _⟩
  case round =>
    obtain ⟨k, p, rfl, rfl, hk, hp, hpn, HF, HBB⟩ := hrel
    by_cases hk0 : k = 0
    · subst hk0
      have hii : ¬ (0 : Int) ≤ ((0 : Nat) : Int) - 1 := by omega
      have HE := Lib.hid (show pickL l most = p by
        have h := HF.out
        rw [List.drop_of_length_le (by rw [HLL.out]; omega), pickF] at h
        exact h)
      go_wp2_with fail
      go_ret
      exact ⟨by rw [HE.out]; rfl, HBB.out.1⟩
    · obtain ⟨j, rfl⟩ : ∃ j, k = j + 1 := ⟨k - 1, by omega⟩
      have hjn : j ≤ s.size := by omega
      have hii : (0 : Int) ≤ ((j + 1 : Nat) : Int) - 1 := by omega
      have hje : ((j + 1 : Nat) : Int) - 1 = (j : Int) := by omega
      obtain ⟨b, hb⟩ : ∃ b, b = decide (Mat r (s.data.toList.drop j)) := ⟨_, rfl⟩
      have HNX := Lib.hid (show pickL l most = pickF most (l.drop (s.size + 1 - j)) (s.size + 1 - j) (if (b && (most || p == -1)) = true then ((s.size - j : Nat) : Int) else p) by
        have h := HF.out
        have h2 := HL.out (s.size - j) (by omega)
        rw [show s.size - (s.size - j) = j by omega, ← hb] at h2
        have hil : s.size - j < l.length := by rw [HLL.out]; omega
        rw [List.getElem?_eq_getElem hil] at h2
        rw [show s.size + 1 - (j + 1) = s.size - j by omega, List.drop_eq_getElem_cons hil, Option.some.inj h2, pickF, show s.size - j + 1 = s.size + 1 - j by omega] at h
        exact h)
      rw [hje]
      have hj0 : (0 : Int) ≤ (j : Int) := by omega
      have hsl := fun (W : World) => slice_lo s (j : Int) j rfl (hjn) W
      have C2 := fun (W : World) (h : WantRow W oa r) => rends10 W oa oc r HRL.out h ⟨(s.data.toList.drop j).toArray⟩ (by rw [show (⟨(s.data.toList.drop j).toArray⟩ : ByteArray).size = (s.data.toList.drop j).length from by show Array.size _ = _; simp, List.length_drop, HSL.out]; omega)
      rw [← HRN.out] at C2
      have HLD := Lib.hid (show (s.data.toList.drop j).length = s.size - j by rw [List.length_drop, HSL.out])
      clear hje hii
      have HSV := Lib.hid (show sufN s.size ((s.size - j : Nat) : Int) = (j : Int) by unfold sufN; rw [if_neg (by omega)]; omega)
      obtain ⟨z, hz⟩ : ∃ z, z = sufN s.size p := ⟨_, rfl⟩
      rw [← hz]
      have HZ := Lib.hid hz
      have hzc : (p = -1 ∧ z = -1) ∨ (p ≠ -1 ∧ 0 ≤ z) := by
        by_cases h : p = -1
        · exact Or.inl ⟨h, by rw [hz, h]; rfl⟩
        · exact Or.inr ⟨h, by rw [hz]; unfold sufN; rw [if_neg h]; omega⟩
      clear hz
      have HGO := Lib.hid (fun (g : Nat) (w2 : World) (hR : RowAt w2 g (fitsV r (s.data.toList.drop j)) 4) => show w2.cell? ⟨g, s.size - j, none⟩ = some (.bool b) from by
        rw [hb]
        refine hR.cell ?_
        rw [fitsV_eq, List.getElem?_map, ← HLD.out, fitsB_last]; rfl)
      have hto : ((s.size : Int) - (j : Int)).toNat = s.size - j := by omega
      have hnj0 : (0 : Int) ≤ (s.size : Int) - (j : Int) := by omega
      have hnj1 : (s.size : Int) - (j : Int) < ((s.size - j : Nat) : Int) + 1 := by omega
      clear hb
      cases most with
      | true =>
        clear hzc
        rw [Bool.true_or, Bool.and_true] at HNX
        go_wp2_with fail
        refine (C2 _ (HWR.out.below HBB.out.2)).mono ?_
        rintro e w2 ⟨g, rfl, hR, hg, hbw⟩
        have hcb := HGO.out g w2 hR
        have HBN := Lib.hid (show Below w.heap.size w w2 ∧ Below w1.heap.size w1 w2 from ⟨below_two HBB.out.1 hbw, below_two HBB.out.2 hbw⟩)
        rw [HLD.out]
        clear hR hg hbw
        cases b with
        | true =>
          rw [if_pos rfl] at HNX
          go_wp2_with fail
          go_roundw
          case rel => exact ⟨j, ((s.size - j : Nat) : Int), rfl, by rw [HSV.out], by omega, by omega, by omega, HNX, HBN⟩
          case measure => simp only [intOf]; omega
        | false =>
          rw [if_neg (by simp)] at HNX
          go_wp2_with fail
          go_roundw
          case rel => exact ⟨j, p, rfl, by rw [HZ.out], by omega, hp, hpn, HNX, HBN⟩
          case measure => simp only [intOf]; omega
      | false =>
        rcases hzc with ⟨rfl, rfl⟩ | ⟨hpe, hz0⟩
        · rw [show ((false || (-1 : Int) == -1)) = true from rfl, Bool.and_true] at HNX
          go_wp2_with fail
          refine (C2 _ (HWR.out.below HBB.out.2)).mono ?_
          rintro e w2 ⟨g, rfl, hR, hg, hbw⟩
          have hcb := HGO.out g w2 hR
          have HBN := Lib.hid (show Below w.heap.size w w2 ∧ Below w1.heap.size w1 w2 from ⟨below_two HBB.out.1 hbw, below_two HBB.out.2 hbw⟩)
          rw [HLD.out]
          clear hR hg hbw
          cases b with
          | true =>
            rw [if_pos rfl] at HNX
            go_wp2_with fail
            go_roundw
            case rel => exact ⟨j, ((s.size - j : Nat) : Int), rfl, by rw [HSV.out], by omega, by omega, by omega, HNX, HBN⟩
            case measure => simp only [intOf]; omega
          | false =>
            rw [if_neg (by simp)] at HNX
            go_wp2_with fail
            go_roundw
            case rel => exact ⟨j, -1, rfl, rfl, by omega, hp, hpn, HNX, HBN⟩
            case measure => simp only [intOf]; omega
        · rw [show (p == -1) = false from by rw [beq_eq_false_iff_ne]; exact hpe, Bool.or_false, Bool.and_false, if_neg (by simp)] at HNX
          have hzn : ¬ z < 0 := by omega
          go_wp2_with fail
          go_roundw
          case rel => exact ⟨j, p, rfl, by rw [HZ.out], by omega, hp, hpn, HNX, HBB⟩
          case measure => simp only [intOf]; omega
end Go.Proofs.Ytfldhggmgepcjaa
