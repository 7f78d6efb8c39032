/-
  CharsClasses, walked: true: part 2 of the bytes.
-/
import Derived.Test.YtnblegmimemeeaaDoorClsBox
namespace Go.Proofs.YtnblegmimemeeaaDoor
open Go Go.RowKit

set_option maxHeartbeats 2000000 in
set_option maxRecDepth 100000 in
theorem classes_blk (n : Int) (hcase : n = 32) (w : World) (hL : Laid w) :
    Calls Tryd.prog 6 #[.int .u8 n] w fun e w' => e = .returned (.bool true) ∧ Below w.heap.size w w' := by
  have HL := Lib.hid hL
  have v0 := Lib.hid (show clsF 0 n = false by simp only [clsF, rangeB]; first | (simp; omega) | (apply Bool.eq_false_iff.2; simp; omega))
  have v1 := Lib.hid (show clsF 1 n = false by simp only [clsF, digB]; first | (simp; omega) | (apply Bool.eq_false_iff.2; simp; omega))
  have v2 := Lib.hid (show clsF 2 n = false by simp only [clsF, rangeB, digB]; first | (simp; omega) | (apply Bool.eq_false_iff.2; simp; omega))
  have v3 := Lib.hid (show clsF 3 n = false by simp only [clsF, rangeB]; first | (simp; omega) | (apply Bool.eq_false_iff.2; simp; omega))
  have v4 := Lib.hid (show clsF 4 n = false by simp only [clsF, rangeB]; first | (simp; omega) | (apply Bool.eq_false_iff.2; simp; omega))
  have v5 := Lib.hid (show clsF 5 n = true by simp only [clsF, rangeB]; first | (simp; omega) | (apply Bool.eq_false_iff.2; simp; omega))
  have v6 := Lib.hid (show clsF 6 n = true by simp only [clsF, blaB]; first | (simp; omega) | (apply Bool.eq_false_iff.2; simp; omega))
  have v7 := Lib.hid (show clsF 7 n = false by simp only [clsF, rangeB, digB]; first | (simp; omega) | (apply Bool.eq_false_iff.2; simp; omega))
  have v8 := Lib.hid (show clsF 8 n = true by simp only [clsF, rangeB]; first | (simp; omega) | (apply Bool.eq_false_iff.2; simp; omega))
  have v9 := Lib.hid (show clsF 9 n = false by simp only [clsF, rangeB]; first | (simp; omega) | (apply Bool.eq_false_iff.2; simp; omega))
  have v10 := Lib.hid (show clsF 10 n = false by simp only [clsF, rangeB]; first | (simp; omega) | (apply Bool.eq_false_iff.2; simp; omega))
  have h32 : (n == 32) = true := by simp; omega
  clear hL hcase
  go_enter Tryd.func6, Tryd.ntmps6
  go_wp2_with fail
  have B0 : Bx w n (w.alloc (.cells #[.int .u8 n] 5)) := ⟨(Below.refl _ _).alloc (Nat.le_refl _) _, heap_last _ _⟩
  refine (is_any 5 ⟨#[97, 108, 110, 117, 109]⟩ 2 in_alnum false n v2.out w _ B0).mono ?_
  rintro e w1 ⟨rfl, B1⟩
  clear B0
  have cx := cell_of_one B1.box
  go_wp2_with fail
  clear cx
  refine (is_any 2 ⟨#[97, 108, 112, 104, 97]⟩ 0 in_alpha false n v0.out w _ B1).mono ?_
  rintro e w2 ⟨rfl, B2⟩
  clear B1
  have cx := cell_of_one B2.box
  go_wp2_with fail
  clear cx
  refine (is_any 3 ⟨#[100, 105, 103, 105, 116]⟩ 1 in_digit false n v1.out w _ B2).mono ?_
  rintro e w3 ⟨rfl, B3⟩
  clear B2
  have cx := cell_of_one B3.box
  go_wp2_with fail
  clear cx
  refine (is_any 2 ⟨#[97, 108, 112, 104, 97]⟩ 0 in_alpha false n v0.out w _ B3).mono ?_
  rintro e w4 ⟨rfl, B4⟩
  clear B3
  have cx := cell_of_one B4.box
  go_wp2_with fail
  clear cx
  refine (is_any 7 ⟨#[117, 112, 112, 101, 114]⟩ 3 in_upper false n v3.out w _ B4).mono ?_
  rintro e w5 ⟨rfl, B5⟩
  clear B4
  have cx := cell_of_one B5.box
  go_wp2_with fail
  clear cx
  refine (is_any 9 ⟨#[108, 111, 119, 101, 114]⟩ 4 in_lower false n v4.out w _ B5).mono ?_
  rintro e w6 ⟨rfl, B6⟩
  clear B5
  have cx := cell_of_one B6.box
  go_wp2_with fail
  clear cx
  refine (is_any 20 ⟨#[103, 114, 97, 112, 104]⟩ 9 in_graph false n v9.out w _ B6).mono ?_
  rintro e w7 ⟨rfl, B7⟩
  clear B6
  have cx := cell_of_one B7.box
  go_wp2_with fail
  clear cx
  refine (is_any 5 ⟨#[97, 108, 110, 117, 109]⟩ 2 in_alnum false n v2.out w _ B7).mono ?_
  rintro e w8 ⟨rfl, B8⟩
  clear B7
  have cx := cell_of_one B8.box
  go_wp2_with fail
  clear cx
  refine (is_any 16 ⟨#[112, 117, 110, 99, 116]⟩ 7 in_punct false n v7.out w _ B8).mono ?_
  rintro e w9 ⟨rfl, B9⟩
  clear B8
  have cx := cell_of_one B9.box
  go_wp2_with fail
  clear cx
  refine (is_any 18 ⟨#[112, 114, 105, 110, 116]⟩ 8 in_print true n v8.out w _ B9).mono ?_
  rintro e w10 ⟨rfl, B10⟩
  clear B9
  have cx := cell_of_one B10.box
  go_wp2_with fail
  clear cx
  refine (is_any 20 ⟨#[103, 114, 97, 112, 104]⟩ 9 in_graph false n v9.out w _ B10).mono ?_
  rintro e w11 ⟨rfl, B11⟩
  clear B10
  have cx := cell_of_one B11.box
  go_wp2_with fail
  clear cx
  refine (is_any 24 ⟨#[99, 110, 116, 114, 108]⟩ 10 in_cntrl false n v10.out w _ B11).mono ?_
  rintro e w12 ⟨rfl, B12⟩
  clear B11
  have cx := cell_of_one B12.box
  go_wp2_with fail
  clear cx
  refine (is_any 14 ⟨#[98, 108, 97, 110, 107]⟩ 6 in_blank true n v6.out w _ B12).mono ?_
  rintro e w13 ⟨rfl, B13⟩
  clear B12
  have cx := cell_of_one B13.box
  go_wp2_with fail
  clear cx
  refine (is_any 13 ⟨#[115, 112, 97, 99, 101]⟩ 5 in_space true n v5.out w _ B13).mono ?_
  rintro e w14 ⟨rfl, B14⟩
  clear B13
  have cx := cell_of_one B14.box
  go_wp2_with fail
  clear cx
  refine (awake_any _ (HL.out.below B14.below)).mono ?_
  rintro e wz ⟨rfl, bz⟩
  go_wp2_with fail
  go_ret
  exact ⟨rfl, B14.below.trans (bz.mono B14.below.size)⟩

set_option maxHeartbeats 2000000 in
set_option maxRecDepth 100000 in
theorem classes_pun (n : Int) (hcase : ((33 ≤ n ∧ n ≤ 47) ∨ (58 ≤ n ∧ n ≤ 64) ∨ (91 ≤ n ∧ n ≤ 96) ∨ (123 ≤ n ∧ n ≤ 126))) (w : World) (hL : Laid w) :
    Calls Tryd.prog 6 #[.int .u8 n] w fun e w' => e = .returned (.bool true) ∧ Below w.heap.size w w' := by
  have HL := Lib.hid hL
  have v0 := Lib.hid (show clsF 0 n = false by simp only [clsF, rangeB]; first | (simp; omega) | (apply Bool.eq_false_iff.2; simp; omega))
  have v1 := Lib.hid (show clsF 1 n = false by simp only [clsF, digB]; first | (simp; omega) | (apply Bool.eq_false_iff.2; simp; omega))
  have v2 := Lib.hid (show clsF 2 n = false by simp only [clsF, rangeB, digB]; first | (simp; omega) | (apply Bool.eq_false_iff.2; simp; omega))
  have v3 := Lib.hid (show clsF 3 n = false by simp only [clsF, rangeB]; first | (simp; omega) | (apply Bool.eq_false_iff.2; simp; omega))
  have v4 := Lib.hid (show clsF 4 n = false by simp only [clsF, rangeB]; first | (simp; omega) | (apply Bool.eq_false_iff.2; simp; omega))
  have v6 := Lib.hid (show clsF 6 n = false by simp only [clsF, blaB]; first | (simp; omega) | (apply Bool.eq_false_iff.2; simp; omega))
  have v7 := Lib.hid (show clsF 7 n = true by simp only [clsF, rangeB, digB]; first | (simp; omega) | (apply Bool.eq_false_iff.2; simp; omega))
  have v8 := Lib.hid (show clsF 8 n = true by simp only [clsF, rangeB]; first | (simp; omega) | (apply Bool.eq_false_iff.2; simp; omega))
  have v9 := Lib.hid (show clsF 9 n = true by simp only [clsF, rangeB]; first | (simp; omega) | (apply Bool.eq_false_iff.2; simp; omega))
  have v10 := Lib.hid (show clsF 10 n = false by simp only [clsF, rangeB]; first | (simp; omega) | (apply Bool.eq_false_iff.2; simp; omega))
  clear hL hcase
  go_enter Tryd.func6, Tryd.ntmps6
  go_wp2_with fail
  have B0 : Bx w n (w.alloc (.cells #[.int .u8 n] 5)) := ⟨(Below.refl _ _).alloc (Nat.le_refl _) _, heap_last _ _⟩
  refine (is_any 5 ⟨#[97, 108, 110, 117, 109]⟩ 2 in_alnum false n v2.out w _ B0).mono ?_
  rintro e w1 ⟨rfl, B1⟩
  clear B0
  have cx := cell_of_one B1.box
  go_wp2_with fail
  clear cx
  refine (is_any 2 ⟨#[97, 108, 112, 104, 97]⟩ 0 in_alpha false n v0.out w _ B1).mono ?_
  rintro e w2 ⟨rfl, B2⟩
  clear B1
  have cx := cell_of_one B2.box
  go_wp2_with fail
  clear cx
  refine (is_any 3 ⟨#[100, 105, 103, 105, 116]⟩ 1 in_digit false n v1.out w _ B2).mono ?_
  rintro e w3 ⟨rfl, B3⟩
  clear B2
  have cx := cell_of_one B3.box
  go_wp2_with fail
  clear cx
  refine (is_any 2 ⟨#[97, 108, 112, 104, 97]⟩ 0 in_alpha false n v0.out w _ B3).mono ?_
  rintro e w4 ⟨rfl, B4⟩
  clear B3
  have cx := cell_of_one B4.box
  go_wp2_with fail
  clear cx
  refine (is_any 7 ⟨#[117, 112, 112, 101, 114]⟩ 3 in_upper false n v3.out w _ B4).mono ?_
  rintro e w5 ⟨rfl, B5⟩
  clear B4
  have cx := cell_of_one B5.box
  go_wp2_with fail
  clear cx
  refine (is_any 9 ⟨#[108, 111, 119, 101, 114]⟩ 4 in_lower false n v4.out w _ B5).mono ?_
  rintro e w6 ⟨rfl, B6⟩
  clear B5
  have cx := cell_of_one B6.box
  go_wp2_with fail
  clear cx
  refine (is_any 20 ⟨#[103, 114, 97, 112, 104]⟩ 9 in_graph true n v9.out w _ B6).mono ?_
  rintro e w7 ⟨rfl, B7⟩
  clear B6
  have cx := cell_of_one B7.box
  go_wp2_with fail
  clear cx
  refine (is_any 5 ⟨#[97, 108, 110, 117, 109]⟩ 2 in_alnum false n v2.out w _ B7).mono ?_
  rintro e w8 ⟨rfl, B8⟩
  clear B7
  have cx := cell_of_one B8.box
  go_wp2_with fail
  clear cx
  refine (is_any 16 ⟨#[112, 117, 110, 99, 116]⟩ 7 in_punct true n v7.out w _ B8).mono ?_
  rintro e w9 ⟨rfl, B9⟩
  clear B8
  have cx := cell_of_one B9.box
  go_wp2_with fail
  clear cx
  refine (is_any 18 ⟨#[112, 114, 105, 110, 116]⟩ 8 in_print true n v8.out w _ B9).mono ?_
  rintro e w10 ⟨rfl, B10⟩
  clear B9
  have cx := cell_of_one B10.box
  go_wp2_with fail
  clear cx
  refine (is_any 20 ⟨#[103, 114, 97, 112, 104]⟩ 9 in_graph true n v9.out w _ B10).mono ?_
  rintro e w11 ⟨rfl, B11⟩
  clear B10
  have cx := cell_of_one B11.box
  go_wp2_with fail
  clear cx
  refine (is_any 24 ⟨#[99, 110, 116, 114, 108]⟩ 10 in_cntrl false n v10.out w _ B11).mono ?_
  rintro e w12 ⟨rfl, B12⟩
  clear B11
  have cx := cell_of_one B12.box
  go_wp2_with fail
  clear cx
  refine (is_any 14 ⟨#[98, 108, 97, 110, 107]⟩ 6 in_blank false n v6.out w _ B12).mono ?_
  rintro e w13 ⟨rfl, B13⟩
  clear B12
  have cx := cell_of_one B13.box
  go_wp2_with fail
  clear cx
  refine (awake_any _ (HL.out.below B13.below)).mono ?_
  rintro e wz ⟨rfl, bz⟩
  go_wp2_with fail
  go_ret
  exact ⟨rfl, B13.below.trans (bz.mono B13.below.size)⟩
end Go.Proofs.YtnblegmimemeeaaDoor
