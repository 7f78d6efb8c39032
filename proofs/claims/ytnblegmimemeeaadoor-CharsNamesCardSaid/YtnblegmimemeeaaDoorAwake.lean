/-
  awake: chapter 1's examples: true, wherever the library's variables stand as they were laid.
-/
import Derived.Test.YtnblegmimemeeaaDoorNums
import Derived.Test.YtnblegmimemeeaaDoorName
import Derived.Test.YtnblegmimemeeaaDoorClass
namespace Go.Proofs.YtnblegmimemeeaaDoor
open Go Go.RowKit

theorem keys_one : ∀ r ∈ insRows, ∀ q ∈ insRows, r.2.1.data.toList = q.2.1.data.toList → r.1 = q.1 := by decide +kernel
theorem isClass_key {r : Nat × ByteArray × Nat} (hr : r ∈ insRows) {n : Int} {b : Bool} (h : IsClass r.2.1 n b) : b = clsF r.2.2 n := by
  rcases h with ⟨q, hq, he, hb⟩ | ⟨hno, _⟩
  · have h1 := keys_one r hr q hq (by rw [he])
    have h2 : r = q := by rw [insOf_eq r hr, insOf_eq q hq, h1]
    rw [hb, h2]
  · exact absurd rfl (hno r hr)

theorem num_seven (w : World) (hL : Laid w) : Calls Tryd.prog 19 #[.string ⟨#[45, 48, 55]⟩] w fun e w' => e = .returned (.tuple #[.int .i64 (-7), .bool true]) ∧ Below w.heap.size w w' := by
  have h := number_any ⟨#[45, 48, 55]⟩ (by decide) w hL
  have e1 : numV (⟨#[45, 48, 55]⟩ : ByteArray).data.toList = -7 := by decide +kernel
  have e2 : numOk (⟨#[45, 48, 55]⟩ : ByteArray).data.toList = true := by decide +kernel
  rw [e1, e2] at h
  exact h
theorem num_over (w : World) (hL : Laid w) : Calls Tryd.prog 19 #[.string ⟨#[57, 50, 50, 51, 51, 55, 50, 48, 51, 54, 56, 53, 52, 55, 55, 53, 56, 48, 56]⟩] w fun e w' => e = .returned (.tuple #[.int .i64 0, .bool false]) ∧ Below w.heap.size w w' := by
  have h := number_any ⟨#[57, 50, 50, 51, 51, 55, 50, 48, 51, 54, 56, 53, 52, 55, 55, 53, 56, 48, 56]⟩ (by decide) w hL
  have e1 : numV (⟨#[57, 50, 50, 51, 51, 55, 50, 48, 51, 54, 56, 53, 52, 55, 55, 53, 56, 48, 56]⟩ : ByteArray).data.toList = 0 := by decide +kernel
  have e2 : numOk (⟨#[57, 50, 50, 51, 51, 55, 50, 48, 51, 54, 56, 53, 52, 55, 55, 53, 56, 48, 56]⟩ : ByteArray).data.toList = false := by decide +kernel
  rw [e1, e2] at h
  exact h
theorem text_seven (w : World) (hL : Laid w) : Calls Tryd.prog 21 #[.int .i64 (-7)] w fun e w' => e = .returned (.string ⟨#[45, 55]⟩) ∧ Below w.heap.size w w' := by
  have h := text_any (-7) (by decide) (by decide) w hL
  have e1 : Lib.itoa (-7) = [45, 55] := by
    rw [Lib.itoa, if_pos (by decide)]
    show 45 :: Lib.decDigits 7 = _
    rw [Lib.decDigits_one (by decide)]
    rfl
  rw [e1] at h
  exact h
theorem name_good (w : World) : Calls Tryd.prog 14 #[.string ⟨#[95, 97, 49]⟩] w fun e w' => e = .returned (.bool true) ∧ w = w' :=
  name_any ⟨#[95, 97, 49]⟩ w (by decide)
theorem name_bad (w : World) : Calls Tryd.prog 14 #[.string ⟨#[49, 97]⟩] w fun e w' => e = .returned (.bool false) ∧ w = w' :=
  name_any ⟨#[49, 97]⟩ w (by decide)
theorem class_seven (w : World) : Calls Tryd.prog 16 #[.string ⟨#[100, 105, 103, 105, 116]⟩, .int .u8 55] w fun e w' => e = .returned (.bool true) ∧ Below w.heap.size w w' := by
  refine (class_any ⟨#[100, 105, 103, 105, 116]⟩ (by decide) 55 w).mono ?_
  rintro e w' ⟨b, rfl, hb, hB⟩
  have h := isClass_key (r := insOf 3) (by simp [insRows, insOf]) hb
  subst h
  exact ⟨rfl, hB⟩

set_option maxHeartbeats 1000000 in
theorem awake_any (w : World) (hL : Laid w) : Calls Tryd.prog 18 #[] w fun e w' => e = .returned (.bool true) ∧ Below w.heap.size w w' := by
  have HL := Lib.hid hL
  clear hL
  go_enter Tryd.func18, Tryd.ntmps18
  go_wp2_with fail
  refine (num_seven _ HL.out).mono ?_
  rintro e w1 ⟨rfl, b1⟩
  have HL1 := Lib.hid (HL.out.below b1)
  go_wp2_with fail
  refine (num_over _ HL1.out).mono ?_
  rintro e w2 ⟨rfl, b2⟩
  have HL2 := Lib.hid (HL1.out.below b2)
  go_wp2_with fail
  refine (name_good _).mono ?_
  rintro e w' ⟨rfl, rfl⟩
  go_wp2_with fail
  refine (name_bad _).mono ?_
  rintro e w' ⟨rfl, rfl⟩
  go_wp2_with fail
  refine (name_nil _).mono ?_
  rintro e w' ⟨rfl, rfl⟩
  go_wp2_with fail
  refine (text_seven _ HL2.out).mono ?_
  rintro e w3 ⟨rfl, b3⟩
  go_wp2_with fail
  refine (class_seven _).mono ?_
  rintro e w4 ⟨rfl, b4⟩
  go_wp2_with fail
  go_ret
  have s1 := b1.size
  have s2 := b2.size
  have s3 := b3.size
  exact ⟨rfl, ((b1.trans (b2.mono s1)).trans (b3.mono (by omega))).trans (b4.mono (by omega))⟩
end Go.Proofs.YtnblegmimemeeaaDoor
