/-
  The law PattEnds, walked.
-/
import Derived.Test.YtfldhggmgepcjaaQLaws
import Derived.Test.YtfldhggmgepcjaaQAwake
import Derived.Test.YtfldhggmgepcjaaEPick
namespace Go.Proofs.Ytfldhggmgepcjaa
set_option maxRecDepth 100000
open Go Go.RowKit

theorem sum3e {a b c : ByteArray} (h : shB [a, b, c] = true) : a.size + (b.size + c.size) ≤ 400 := by
  unfold shB at h
  rw [decide_eq_true_iff] at h
  simpa [sumS] using h

set_option maxHeartbeats 16000000 in
theorem pends_walk (p q s : ByteArray) (lp : p.size ≤ 281474976710656) (lq : q.size ≤ 281474976710656) (ls : s.size ≤ 281474976710656) (most : Bool) (w : World) : Calls Try.prog 3 #[.string p, .string q, .string s, .bool most] w fun e w' => e = .returned (.bool true) ∧ Below w.heap.size w w' := by
  obtain ⟨w1, hw1⟩ : ∃ w1, w1 = w.alloc (.cells #[.string p, .string q, .string s] 9) := ⟨_, rfl⟩
  have hb1 : Below w.heap.size w w1 := by rw [hw1]; exact below_box _ _
  have hR1 : RowAt w1 w.heap.size ([p, q, s].map Value.string) 9 := by rw [hw1]; exact new_block _ _
  have C1 := lshort [p, q, s] (by simp) (fun x hx => by simp at hx; rcases hx with rfl | rfl | rfl <;> assumption) w.heap.size w1 hR1
  have CA := fun W => lawakeq W
  have HW1 := Lib.hid hw1
  have HB1 := Lib.hid hb1
  clear hw1 hb1 hR1
  cases hsh : shB [p, q, s] with
  | false =>
    rw [hsh] at C1
    go_enter Try.func3, Try.ntmps3
    go_wp2_with fail
    rw [← HW1.out]
    refine C1.mono ?_
    rintro e w2 ⟨rfl, rfl⟩
    go_wp2_with fail
    refine (CA _).mono ?_
    rintro e w3 ⟨rfl, hb⟩
    have HB3 := Lib.hid (below_two HB1.out hb)
    clear hb
    go_wp2_with fail
    go_ret
    exact ⟨rfl, HB3.out⟩
  | true =>
    rw [hsh] at C1
    have h400 := sum3e hsh
    clear hsh
    have M1 := fun W => lprefix p q s (by omega) (by omega) most W
    have M2 := fun W => rprefix10 p q s (by omega) (by omega) most W
    have M3 := fun W => lsuffix p q s (by omega) (by omega) most W
    have M4 := fun W => rsuffix10 p q s (by omega) (by omega) most W
    obtain ⟨a, ha⟩ : ∃ a, a = pickL (fitsB (rowP p.data.toList q.data.toList) s.data.toList) most := ⟨_, rfl⟩
    obtain ⟨b, hb⟩ : ∃ b, b = sufI (rowP p.data.toList q.data.toList) s.data.toList most := ⟨_, rfl⟩
    rw [← ha] at M1 M2
    rw [← hb] at M3 M4
    clear ha hb
    go_enter Try.func3, Try.ntmps3
    go_wp2_with fail
    rw [← HW1.out]
    refine C1.mono ?_
    rintro e w2 ⟨rfl, rfl⟩
    clear C1
    go_wp2_with fail
    refine (M1 _).mono ?_
    rintro e w3 ⟨rfl, hb⟩
    have HB2 := Lib.hid (below_two HB1.out hb)
    clear hb
    go_wp2_with fail
    refine (M2 _).mono ?_
    rintro e w4 ⟨rfl, hb⟩
    have HB3 := Lib.hid (below_two HB2.out hb)
    clear hb
    go_wp2_with fail
    refine (M3 _).mono ?_
    rintro e w5 ⟨rfl, hb⟩
    have HB4 := Lib.hid (below_two HB3.out hb)
    clear hb
    go_wp2_with fail
    refine (M4 _).mono ?_
    rintro e w6 ⟨rfl, hb⟩
    have HB5 := Lib.hid (below_two HB4.out hb)
    clear hb
    go_wp2_with fail
    refine (CA _).mono ?_
    rintro e w7 ⟨rfl, hb⟩
    have HB6 := Lib.hid (below_two HB5.out hb)
    clear hb
    go_wp2_with fail
    go_ret
    exact ⟨rfl, HB6.out⟩
end Go.Proofs.Ytfldhggmgepcjaa
