/-
  Read of both sides.
-/
import Derived.Test.YtopgmboilimlhaaPMem
namespace Go.Proofs.Ytopgmboilimlhaa
set_option maxRecDepth 100000
open Go Go.RowKit

set_option maxHeartbeats 2000000 in
theorem lread8 (p : Pip) (hw0 : 0 ≤ p.wr) (n : Int) (q : Pip) (t : List UInt8) (er : Int) (hz : readPip p n = (q, t, er)) (w : World) :
    Calls Try.prog 12 #[.agg #[.string ⟨p.data.toArray⟩, .int .i64 p.rd, .int .i64 p.wr, .int .i64 p.cap], .int .i64 n] w fun e w' => e = .returned (.tuple #[.agg #[.string ⟨q.data.toArray⟩, .int .i64 q.rd, .int .i64 q.wr, .int .i64 q.cap], .string ⟨t.toArray⟩, .int .i64 er]) ∧ Below w.heap.size w w' := by
  obtain ⟨D, hD⟩ : ∃ D : ByteArray, D = ⟨p.data.toArray⟩ := ⟨_, rfl⟩
  obtain ⟨hDl, hDs⟩ := data_text hD
  have HD := Lib.hid hD
  rw [← hD]
  clear hD
  have HEND := Lib.hid (two_below w)
  unfold readPip at hz
  by_cases h1 : n < 1
  · rw [if_pos h1] at hz
    simp only [Prod.mk.injEq] at hz
    obtain ⟨rfl, rfl, rfl⟩ := hz
    have hd1 : decide (n < 1) = true := decide_eq_true h1
    rw [← HD.out]
    clear hDl hDs
    go_enter Try.func12, Try.ntmps12
    go_wp2_with fail
    exact bodyPost_ret (v := (.tuple #[.agg #[.string D, .int .i64 p.rd, .int .i64 p.wr, .int .i64 p.cap], .string ⟨#[]⟩, .int .i64 22])) (by simp [results, Try.results12, go_sem]) rfl ⟨rfl, HEND.out _ _⟩
  have hd1 : decide (n < 1) = false := decide_eq_false h1
  rw [if_neg h1] at hz
  by_cases he : p.data = []
  · rw [if_pos he] at hz
    have hD0 : D = ⟨#[]⟩ := by rw [HD.out, he]
    subst hD0
    by_cases hr : p.wr = 0
    · rw [if_pos hr] at hz
      simp only [Prod.mk.injEq] at hz
      obtain ⟨rfl, rfl, rfl⟩ := hz
      rw [← HD.out]
      have hd2 : decide (0 < p.wr) = false := decide_eq_false (by omega)
      have hd3 : (p.wr == 0) = true := by simpa using hr
      have hm : min n 0 = 0 := by omega
      clear hr
      clear hDl hDs
      go_enter Try.func12, Try.ntmps12
      go_wp2_with fail
      exact bodyPost_ret (v := (.tuple #[.agg #[.string ⟨#[]⟩, .int .i64 p.rd, .int .i64 p.wr, .int .i64 p.cap], .string ⟨#[]⟩, .int .i64 0])) (by simp [results, Try.results12, go_sem] <;> first | rfl | exact ⟨rfl, rfl⟩) rfl ⟨rfl, HEND.out _ _⟩
    · rw [if_neg hr] at hz
      simp only [Prod.mk.injEq] at hz
      obtain ⟨rfl, rfl, rfl⟩ := hz
      rw [← HD.out]
      have hd2 : decide (0 < p.wr) = true := decide_eq_true (by omega)
      have hd3 : (p.wr == 0) = false := by simpa using hr
      clear hDl hDs
      go_enter Try.func12, Try.ntmps12
      go_wp2_with fail
      exact bodyPost_ret (v := (.tuple #[.agg #[.string ⟨#[]⟩, .int .i64 p.rd, .int .i64 p.wr, .int .i64 p.cap], .string ⟨#[]⟩, .int .i64 11])) (by simp [results, Try.results12, go_sem]) rfl ⟨rfl, HEND.out _ _⟩
  · rw [if_neg he] at hz
    simp only [Prod.mk.injEq] at hz
    obtain ⟨rfl, rfl, rfl⟩ := hz
    obtain ⟨hpl, hpe⟩ := text_no (D := D) (by rw [hDl]; exact he)
    obtain ⟨n1, rfl⟩ : ∃ n1 : Nat, n = (n1 : Int) := ⟨n.toNat, by omega⟩
    obtain ⟨E1, hE1⟩ : ∃ E : ByteArray, E = ⟨(D.data.toList.drop (min n1 D.size)).toArray⟩ := ⟨_, rfl⟩
    obtain ⟨E2, hE2⟩ : ∃ E : ByteArray, E = ⟨(D.data.toList.take (min n1 D.size)).toArray⟩ := ⟨_, rfl⟩
    have c1 := fun W => slice_lo D (min (n1 : Int) (D.size : Int)) (min n1 D.size) (by omega) (by omega) W
    rw [← hE1] at c1
    have c2 := fun W => slice_hi D (min (n1 : Int) (D.size : Int)) (min n1 D.size) (by omega) (by omega) W
    rw [← hE2] at c2
    have hf1 : E1 = ⟨(p.data.drop n1).toArray⟩ := by rw [hE1, hDl, hDs, drop_min]
    have hf2 : E2 = ⟨(p.data.take n1).toArray⟩ := by rw [hE2, hDl, hDs, take_min]
    have HF := Lib.hid (And.intro hf1 hf2)
    clear hDl hDs hE1 hE2 hf1 hf2 he h1
    go_enter Try.func12, Try.ntmps12
    go_wp2_with fail
    exact bodyPost_ret (v := (.tuple #[.agg #[.string E1, .int .i64 p.rd, .int .i64 p.wr, .int .i64 p.cap], .string E2, .int .i64 0])) (by simp [results, Try.results12, go_sem]) rfl ⟨by rw [HF.out.1, HF.out.2]; rfl, HEND.out _ _⟩

set_option maxHeartbeats 2000000 in
theorem rread8 (p : Pip) (hw0 : 0 ≤ p.wr) (n : Int) (q : Pip) (t : List UInt8) (er : Int) (hz : readPip p n = (q, t, er)) (w : World) :
    Calls Try.prog 13 #[.agg #[.string ⟨p.data.toArray⟩, .int .i64 p.rd, .int .i64 p.wr, .int .i64 p.cap], .int .i64 n] w fun e w' => e = .returned (.tuple #[.agg #[.string ⟨q.data.toArray⟩, .int .i64 q.rd, .int .i64 q.wr, .int .i64 q.cap], .string ⟨t.toArray⟩, .int .i64 er]) ∧ Below w.heap.size w w' := by
  obtain ⟨D, hD⟩ : ∃ D : ByteArray, D = ⟨p.data.toArray⟩ := ⟨_, rfl⟩
  obtain ⟨hDl, hDs⟩ := data_text hD
  have HD := Lib.hid hD
  rw [← hD]
  clear hD
  have HEND := Lib.hid (two_below w)
  unfold readPip at hz
  by_cases h1 : n < 1
  · rw [if_pos h1] at hz
    simp only [Prod.mk.injEq] at hz
    obtain ⟨rfl, rfl, rfl⟩ := hz
    have hd1 : decide (n < 1) = true := decide_eq_true h1
    rw [← HD.out]
    clear hDl hDs
    go_enter Try.func13, Try.ntmps13
    go_wp2_with fail
    exact bodyPost_ret (v := (.tuple #[.agg #[.string D, .int .i64 p.rd, .int .i64 p.wr, .int .i64 p.cap], .string ⟨#[]⟩, .int .i64 22])) (by simp [results, Try.results13, go_sem]) rfl ⟨rfl, HEND.out _ _⟩
  have hd1 : decide (n < 1) = false := decide_eq_false h1
  rw [if_neg h1] at hz
  by_cases he : p.data = []
  · rw [if_pos he] at hz
    have hD0 : D = ⟨#[]⟩ := by rw [HD.out, he]
    subst hD0
    by_cases hr : p.wr = 0
    · rw [if_pos hr] at hz
      simp only [Prod.mk.injEq] at hz
      obtain ⟨rfl, rfl, rfl⟩ := hz
      rw [← HD.out]
      have hd2 : decide (0 < p.wr) = false := decide_eq_false (by omega)
      have hd3 : (p.wr == 0) = true := by simpa using hr
      have hm : min n 0 = 0 := by omega
      clear hr
      clear hDl hDs
      go_enter Try.func13, Try.ntmps13
      go_wp2_with fail
      exact bodyPost_ret (v := (.tuple #[.agg #[.string ⟨#[]⟩, .int .i64 p.rd, .int .i64 p.wr, .int .i64 p.cap], .string ⟨#[]⟩, .int .i64 0])) (by simp [results, Try.results13, go_sem] <;> first | rfl | exact ⟨rfl, rfl⟩) rfl ⟨rfl, HEND.out _ _⟩
    · rw [if_neg hr] at hz
      simp only [Prod.mk.injEq] at hz
      obtain ⟨rfl, rfl, rfl⟩ := hz
      rw [← HD.out]
      have hd2 : decide (0 < p.wr) = true := decide_eq_true (by omega)
      have hd3 : (p.wr == 0) = false := by simpa using hr
      clear hDl hDs
      go_enter Try.func13, Try.ntmps13
      go_wp2_with fail
      exact bodyPost_ret (v := (.tuple #[.agg #[.string ⟨#[]⟩, .int .i64 p.rd, .int .i64 p.wr, .int .i64 p.cap], .string ⟨#[]⟩, .int .i64 11])) (by simp [results, Try.results13, go_sem]) rfl ⟨rfl, HEND.out _ _⟩
  · rw [if_neg he] at hz
    simp only [Prod.mk.injEq] at hz
    obtain ⟨rfl, rfl, rfl⟩ := hz
    obtain ⟨hpl, hpe⟩ := text_no (D := D) (by rw [hDl]; exact he)
    obtain ⟨n1, rfl⟩ : ∃ n1 : Nat, n = (n1 : Int) := ⟨n.toNat, by omega⟩
    obtain ⟨E1, hE1⟩ : ∃ E : ByteArray, E = ⟨(D.data.toList.drop (min n1 D.size)).toArray⟩ := ⟨_, rfl⟩
    obtain ⟨E2, hE2⟩ : ∃ E : ByteArray, E = ⟨(D.data.toList.take (min n1 D.size)).toArray⟩ := ⟨_, rfl⟩
    have c1 := fun W => slice_lo D (min (n1 : Int) (D.size : Int)) (min n1 D.size) (by omega) (by omega) W
    rw [← hE1] at c1
    have c2 := fun W => slice_hi D (min (n1 : Int) (D.size : Int)) (min n1 D.size) (by omega) (by omega) W
    rw [← hE2] at c2
    have hf1 : E1 = ⟨(p.data.drop n1).toArray⟩ := by rw [hE1, hDl, hDs, drop_min]
    have hf2 : E2 = ⟨(p.data.take n1).toArray⟩ := by rw [hE2, hDl, hDs, take_min]
    have HF := Lib.hid (And.intro hf1 hf2)
    clear hDl hDs hE1 hE2 hf1 hf2 he h1
    go_enter Try.func13, Try.ntmps13
    go_wp2_with fail
    exact bodyPost_ret (v := (.tuple #[.agg #[.string E1, .int .i64 p.rd, .int .i64 p.wr, .int .i64 p.cap], .string E2, .int .i64 0])) (by simp [results, Try.results13, go_sem]) rfl ⟨by rw [HF.out.1, HF.out.2]; rfl, HEND.out _ _⟩

end Go.Proofs.Ytopgmboilimlhaa
