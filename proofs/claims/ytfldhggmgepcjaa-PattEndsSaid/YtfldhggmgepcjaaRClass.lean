/-
  The reference's Class: the same classes.
-/
import Derived.Test.YtfldhggmgepcjaaClass
namespace Go.Proofs.Ytfldhggmgepcjaa
set_option maxRecDepth 100000
open Go Go.RowKit Go.ChangeMaps

theorem within_range (n l h : Int) (w : World) : Calls Try.prog 40 #[.int .u8 n, .int .u8 l, .int .u8 h] w fun e w' => e = .returned (.bool (rangeB l h n)) ∧ w = w' := within_any n l h w
theorem range_one (a n : Int) : rangeB a a n = decide (n = a) := by
  unfold rangeB
  by_cases h : n = a
  · subst h; simp
  · simp only [h, decide_false]
    by_cases h1 : a ≤ n
    · have : ¬ n ≤ a := by omega
      simp [this]
    · simp [h1]
theorem range_low (n : Int) (h0 : 0 ≤ n) : rangeB 0 31 n = decide (n < 32) := by
  unfold rangeB
  by_cases h : n < 32
  · have : n ≤ 31 := by omega
    simp [h, h0, this]
  · have : ¬ n ≤ 31 := by omega
    simp [h, this]

set_option maxRecDepth 100000 in
set_option maxHeartbeats 1000000 in
theorem rclass_alpha (n : Int) (w : World) : Calls Try.prog 36 #[.string ⟨#[97, 108, 112, 104, 97]⟩, .int .u8 n] w fun e w' => e = .returned (.bool (clsF 0 n)) ∧ w = w' := by
  cases h0 : rangeB 65 90 n <;> cases h1 : rangeB 97 122 n
  all_goals
    go_enter Try.func36, Try.ntmps36
    go_wp2_with (first | (go_at_call 40; refine (within_range _ _ _ _).mono ?_; rintro e w' ⟨rfl, rfl⟩) | (go_at_call 41; refine (rdigit_any _ _).mono ?_; rintro e w' ⟨rfl, rfl⟩) | (go_at_call 42; refine (rblank_any _ _).mono ?_; rintro e w' ⟨rfl, rfl⟩))
    go_ret
    exact ⟨by simp [clsF, h0, h1], rfl⟩

set_option maxRecDepth 100000 in
set_option maxHeartbeats 1000000 in
theorem rclass_digit (n : Int) (w : World) : Calls Try.prog 36 #[.string ⟨#[100, 105, 103, 105, 116]⟩, .int .u8 n] w fun e w' => e = .returned (.bool (clsF 1 n)) ∧ w = w' := by
  go_enter Try.func36, Try.ntmps36
  go_wp2_with (first | (go_at_call 40; refine (within_range _ _ _ _).mono ?_; rintro e w' ⟨rfl, rfl⟩) | (go_at_call 41; refine (rdigit_any _ _).mono ?_; rintro e w' ⟨rfl, rfl⟩) | (go_at_call 42; refine (rblank_any _ _).mono ?_; rintro e w' ⟨rfl, rfl⟩))
  go_ret
  exact ⟨rfl, rfl⟩

set_option maxRecDepth 100000 in
set_option maxHeartbeats 1000000 in
theorem rclass_alnum (n : Int) (w : World) : Calls Try.prog 36 #[.string ⟨#[97, 108, 110, 117, 109]⟩, .int .u8 n] w fun e w' => e = .returned (.bool (clsF 2 n)) ∧ w = w' := by
  cases h0 : rangeB 65 90 n <;> cases h1 : rangeB 97 122 n <;> cases h2 : digB n
  all_goals
    go_enter Try.func36, Try.ntmps36
    go_wp2_with (first | (go_at_call 40; refine (within_range _ _ _ _).mono ?_; rintro e w' ⟨rfl, rfl⟩) | (go_at_call 41; refine (rdigit_any _ _).mono ?_; rintro e w' ⟨rfl, rfl⟩) | (go_at_call 42; refine (rblank_any _ _).mono ?_; rintro e w' ⟨rfl, rfl⟩))
    go_ret
    exact ⟨by simp [clsF, h0, h1, h2], rfl⟩

set_option maxRecDepth 100000 in
set_option maxHeartbeats 1000000 in
theorem rclass_upper (n : Int) (w : World) : Calls Try.prog 36 #[.string ⟨#[117, 112, 112, 101, 114]⟩, .int .u8 n] w fun e w' => e = .returned (.bool (clsF 3 n)) ∧ w = w' := by
  go_enter Try.func36, Try.ntmps36
  go_wp2_with (first | (go_at_call 40; refine (within_range _ _ _ _).mono ?_; rintro e w' ⟨rfl, rfl⟩) | (go_at_call 41; refine (rdigit_any _ _).mono ?_; rintro e w' ⟨rfl, rfl⟩) | (go_at_call 42; refine (rblank_any _ _).mono ?_; rintro e w' ⟨rfl, rfl⟩))
  go_ret
  exact ⟨rfl, rfl⟩

set_option maxRecDepth 100000 in
set_option maxHeartbeats 1000000 in
theorem rclass_lower (n : Int) (w : World) : Calls Try.prog 36 #[.string ⟨#[108, 111, 119, 101, 114]⟩, .int .u8 n] w fun e w' => e = .returned (.bool (clsF 4 n)) ∧ w = w' := by
  go_enter Try.func36, Try.ntmps36
  go_wp2_with (first | (go_at_call 40; refine (within_range _ _ _ _).mono ?_; rintro e w' ⟨rfl, rfl⟩) | (go_at_call 41; refine (rdigit_any _ _).mono ?_; rintro e w' ⟨rfl, rfl⟩) | (go_at_call 42; refine (rblank_any _ _).mono ?_; rintro e w' ⟨rfl, rfl⟩))
  go_ret
  exact ⟨rfl, rfl⟩

set_option maxRecDepth 100000 in
set_option maxHeartbeats 1000000 in
theorem rclass_space (n : Int) (w : World) : Calls Try.prog 36 #[.string ⟨#[115, 112, 97, 99, 101]⟩, .int .u8 n] w fun e w' => e = .returned (.bool (clsF 5 n)) ∧ w = w' := by
  cases h0 : rangeB 9 13 n <;> cases h1 : (n == 32)
  all_goals
    go_enter Try.func36, Try.ntmps36
    go_wp2_with (first | (go_at_call 40; refine (within_range _ _ _ _).mono ?_; rintro e w' ⟨rfl, rfl⟩) | (go_at_call 41; refine (rdigit_any _ _).mono ?_; rintro e w' ⟨rfl, rfl⟩) | (go_at_call 42; refine (rblank_any _ _).mono ?_; rintro e w' ⟨rfl, rfl⟩))
    go_ret
    exact ⟨by simp at h1; simp [clsF, range_one, h0, h1], rfl⟩

set_option maxRecDepth 100000 in
set_option maxHeartbeats 1000000 in
theorem rclass_blank (n : Int) (w : World) : Calls Try.prog 36 #[.string ⟨#[98, 108, 97, 110, 107]⟩, .int .u8 n] w fun e w' => e = .returned (.bool (clsF 6 n)) ∧ w = w' := by
  go_enter Try.func36, Try.ntmps36
  go_wp2_with (first | (go_at_call 40; refine (within_range _ _ _ _).mono ?_; rintro e w' ⟨rfl, rfl⟩) | (go_at_call 41; refine (rdigit_any _ _).mono ?_; rintro e w' ⟨rfl, rfl⟩) | (go_at_call 42; refine (rblank_any _ _).mono ?_; rintro e w' ⟨rfl, rfl⟩))
  go_ret
  exact ⟨rfl, rfl⟩

set_option maxRecDepth 100000 in
set_option maxHeartbeats 1000000 in
theorem rclass_punct (n : Int) (w : World) : Calls Try.prog 36 #[.string ⟨#[112, 117, 110, 99, 116]⟩, .int .u8 n] w fun e w' => e = .returned (.bool (clsF 7 n)) ∧ w = w' := by
  cases h0 : rangeB 33 126 n <;> cases h1 : rangeB 65 90 n <;> cases h2 : rangeB 97 122 n <;> cases h3 : digB n
  all_goals
    go_enter Try.func36, Try.ntmps36
    go_wp2_with (first | (go_at_call 40; refine (within_range _ _ _ _).mono ?_; rintro e w' ⟨rfl, rfl⟩) | (go_at_call 41; refine (rdigit_any _ _).mono ?_; rintro e w' ⟨rfl, rfl⟩) | (go_at_call 42; refine (rblank_any _ _).mono ?_; rintro e w' ⟨rfl, rfl⟩))
    go_ret
    exact ⟨by simp [clsF, h0, h1, h2, h3], rfl⟩

set_option maxRecDepth 100000 in
set_option maxHeartbeats 1000000 in
theorem rclass_print (n : Int) (w : World) : Calls Try.prog 36 #[.string ⟨#[112, 114, 105, 110, 116]⟩, .int .u8 n] w fun e w' => e = .returned (.bool (clsF 8 n)) ∧ w = w' := by
  go_enter Try.func36, Try.ntmps36
  go_wp2_with (first | (go_at_call 40; refine (within_range _ _ _ _).mono ?_; rintro e w' ⟨rfl, rfl⟩) | (go_at_call 41; refine (rdigit_any _ _).mono ?_; rintro e w' ⟨rfl, rfl⟩) | (go_at_call 42; refine (rblank_any _ _).mono ?_; rintro e w' ⟨rfl, rfl⟩))
  go_ret
  exact ⟨rfl, rfl⟩

set_option maxRecDepth 100000 in
set_option maxHeartbeats 1000000 in
theorem rclass_graph (n : Int) (w : World) : Calls Try.prog 36 #[.string ⟨#[103, 114, 97, 112, 104]⟩, .int .u8 n] w fun e w' => e = .returned (.bool (clsF 9 n)) ∧ w = w' := by
  go_enter Try.func36, Try.ntmps36
  go_wp2_with (first | (go_at_call 40; refine (within_range _ _ _ _).mono ?_; rintro e w' ⟨rfl, rfl⟩) | (go_at_call 41; refine (rdigit_any _ _).mono ?_; rintro e w' ⟨rfl, rfl⟩) | (go_at_call 42; refine (rblank_any _ _).mono ?_; rintro e w' ⟨rfl, rfl⟩))
  go_ret
  exact ⟨rfl, rfl⟩

set_option maxRecDepth 100000 in
set_option maxHeartbeats 1000000 in
theorem rclass_cntrl (n : Int) (hn : 0 ≤ n) (w : World) : Calls Try.prog 36 #[.string ⟨#[99, 110, 116, 114, 108]⟩, .int .u8 n] w fun e w' => e = .returned (.bool (clsF 10 n)) ∧ w = w' := by
  by_cases hlt : n < 32 <;> cases h1 : (n == 127)
  all_goals
    go_enter Try.func36, Try.ntmps36
    go_wp2_with (first | (go_at_call 40; refine (within_range _ _ _ _).mono ?_; rintro e w' ⟨rfl, rfl⟩) | (go_at_call 41; refine (rdigit_any _ _).mono ?_; rintro e w' ⟨rfl, rfl⟩) | (go_at_call 42; refine (rblank_any _ _).mono ?_; rintro e w' ⟨rfl, rfl⟩))
    go_ret
    exact ⟨by simp at h1; simp [clsF, range_one, range_low n hn, hlt, h1], rfl⟩

set_option maxRecDepth 100000 in
set_option maxHeartbeats 1000000 in
theorem rclass_xdigit (n : Int) (w : World) : Calls Try.prog 36 #[.string ⟨#[120, 100, 105, 103, 105, 116]⟩, .int .u8 n] w fun e w' => e = .returned (.bool (clsF 11 n)) ∧ w = w' := by
  cases h0 : digB n <;> cases h1 : rangeB 97 102 n <;> cases h2 : rangeB 65 70 n
  all_goals
    go_enter Try.func36, Try.ntmps36
    go_wp2_with (first | (go_at_call 40; refine (within_range _ _ _ _).mono ?_; rintro e w' ⟨rfl, rfl⟩) | (go_at_call 41; refine (rdigit_any _ _).mono ?_; rintro e w' ⟨rfl, rfl⟩) | (go_at_call 42; refine (rblank_any _ _).mono ?_; rintro e w' ⟨rfl, rfl⟩))
    go_ret
    exact ⟨by simp [clsF, h0, h1, h2], rfl⟩

set_option maxRecDepth 100000 in
set_option maxHeartbeats 1000000 in
theorem rclass_none (s : ByteArray) (n : Int) (w : World) (q0 : (s.toList == [97, 108, 112, 104, 97]) = false) (q1 : (s.toList == [100, 105, 103, 105, 116]) = false) (q2 : (s.toList == [97, 108, 110, 117, 109]) = false) (q3 : (s.toList == [117, 112, 112, 101, 114]) = false) (q4 : (s.toList == [108, 111, 119, 101, 114]) = false) (q5 : (s.toList == [115, 112, 97, 99, 101]) = false) (q6 : (s.toList == [98, 108, 97, 110, 107]) = false) (q7 : (s.toList == [112, 117, 110, 99, 116]) = false) (q8 : (s.toList == [112, 114, 105, 110, 116]) = false) (q9 : (s.toList == [103, 114, 97, 112, 104]) = false) (q10 : (s.toList == [99, 110, 116, 114, 108]) = false) (q11 : (s.toList == [120, 100, 105, 103, 105, 116]) = false) : Calls Try.prog 36 #[.string s, .int .u8 n] w fun e w' => e = .returned (.bool false) ∧ w = w' := by
  go_enter Try.func36, Try.ntmps36
  go_wp2_with (first | (go_at_call 40; refine (within_range _ _ _ _).mono ?_; rintro e w' ⟨rfl, rfl⟩) | (go_at_call 41; refine (rdigit_any _ _).mono ?_; rintro e w' ⟨rfl, rfl⟩) | (go_at_call 42; refine (rblank_any _ _).mono ?_; rintro e w' ⟨rfl, rfl⟩))
  go_ret
  exact ⟨rfl, rfl⟩

theorem not_key (s : ByteArray) (l : List UInt8) (h : s ≠ ⟨l.toArray⟩) : (s.toList == l) = false := by
  rw [beq_eq_false_iff_ne]
  intro e
  rw [ByteArray.toList_eq] at e
  refine h ?_
  rcases s with ⟨⟨r⟩⟩
  have e' : r = l := e
  rw [e']

/-- The reference answers as the class does. -/
theorem rclass_any (s : ByteArray) (n : Int) (hn : 0 ≤ n) (b : Bool) (h : IsClass s n b) (w : World) : Calls Try.prog 36 #[.string s, .int .u8 n] w fun e w' => e = .returned (.bool b) ∧ w = w' := by
  rcases h with ⟨r, hr, hs, hb⟩ | ⟨hno, hb⟩
  · subst hs
    subst hb
    simp only [insRows, List.mem_cons, List.not_mem_nil, or_false] at hr
    rcases hr with rfl | rfl | rfl | rfl | rfl | rfl | rfl | rfl | rfl | rfl | rfl | rfl
    · exact rclass_alpha n w
    · exact rclass_digit n w
    · exact rclass_alnum n w
    · exact rclass_upper n w
    · exact rclass_lower n w
    · exact rclass_space n w
    · exact rclass_blank n w
    · exact rclass_punct n w
    · exact rclass_print n w
    · exact rclass_graph n w
    · exact rclass_cntrl n hn w
    · exact rclass_xdigit n w
  · subst hb
    have hk : ∀ r ∈ insRows, (s.toList == r.2.1.data.toList) = false := fun r hr => not_key s _ (hno r hr)
    exact rclass_none s n w (hk (insOf 2) (by simp [insRows, insOf])) (hk (insOf 3) (by simp [insRows, insOf])) (hk (insOf 5) (by simp [insRows, insOf])) (hk (insOf 7) (by simp [insRows, insOf])) (hk (insOf 9) (by simp [insRows, insOf])) (hk (insOf 13) (by simp [insRows, insOf])) (hk (insOf 14) (by simp [insRows, insOf])) (hk (insOf 16) (by simp [insRows, insOf])) (hk (insOf 18) (by simp [insRows, insOf])) (hk (insOf 20) (by simp [insRows, insOf])) (hk (insOf 24) (by simp [insRows, insOf])) (hk (insOf 29) (by simp [insRows, insOf]))
end Go.Proofs.Ytfldhggmgepcjaa
