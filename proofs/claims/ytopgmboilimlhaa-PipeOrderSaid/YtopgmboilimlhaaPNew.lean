/-
  New of both sides.
-/
import Derived.Test.YtopgmboilimlhaaPMem
namespace Go.Proofs.Ytopgmboilimlhaa
set_option maxRecDepth 100000
open Go Go.RowKit

theorem lwithin (x a b : Int) (w : World) : Calls Try.prog 20 #[.int .i64 x, .int .i64 a, .int .i64 b] w fun e w' => e = .returned (.bool (decide (a ≤ x) && decide (x ≤ b))) ∧ w' = w := by
  by_cases h : a ≤ x
  · have hd : decide (a ≤ x) = true := decide_eq_true h
    go_enter Try.func20, Try.ntmps20
    go_wp2_with fail
    go_ret
    exact ⟨by simp [hd], rfl⟩
  · have hd : decide (a ≤ x) = false := decide_eq_false h
    go_enter Try.func20, Try.ntmps20
    go_wp2_with fail
    go_ret
    exact ⟨by simp, rfl⟩

set_option maxHeartbeats 2000000 in
theorem lnew8 (size : Int) (q : Pip) (er : Int) (hz : newPip size = (q, er)) (w : World) :
    Calls Try.prog 7 #[.int .i64 size] w fun e w' => e = .returned (.tuple #[.agg #[.string ⟨q.data.toArray⟩, .int .i64 q.rd, .int .i64 q.wr, .int .i64 q.cap], .int .i64 er]) ∧ Below w.heap.size w w' := by
  obtain ⟨w1, hw1⟩ : ∃ w1, w1 = w.alloc (.cells #[.string ⟨#[]⟩, .int .i64 0, .int .i64 0, .int .i64 0] 23) := ⟨_, rfl⟩
  have hb1 : Below w.heap.size w w1 := by rw [hw1]; exact below_box w _
  have hB : w1.heap[w.heap.size]? = some (.cells #[.string ⟨#[]⟩, .int .i64 0, .int .i64 0, .int .i64 0] 23 (0, 0)) := by rw [hw1]; exact new_block w _
  have HBK := Lib.hid hB
  have HB1 := Lib.hid hb1
  have r0 := blk_cell hB 0
  have r1 := blk_cell hB 1
  have r2 := blk_cell hB 2
  have r3 := blk_cell hB 3
  have s0 := blk_free hB 0
  have s1 := blk_free hB 1
  have s2 := blk_free hB 2
  have s3 := blk_free hB 3
  have hl := lt_of_block hB
  clear hB hb1
  unfold newPip at hz
  by_cases h : size < 1 ∨ 65536 < size
  · rw [if_pos h] at hz
    simp only [Prod.mk.injEq] at hz
    obtain ⟨rfl, rfl⟩ := hz
    have hd : (decide ((1 : Int) ≤ size) && decide (size ≤ 65536)) = false := by
      simp only [Bool.and_eq_false_iff, decide_eq_false_iff_not]
      omega
    have HD := Lib.hid hd
    clear hd
    go_enter Try.func7, Try.ntmps7
    go_wp2_with fail
    rw [← hw1]
    clear hw1
    refine (lwithin _ _ _ _).mono ?_
    rintro e w2 ⟨rfl, rfl⟩
    rw [HD.out]
    go_wp2_with fail
    change bodyPost _ _ _ _ _ (put4 w2 w.heap.size (.string ⟨#[]⟩) (.int .i64 0) (.int .i64 0) (.int .i64 0))
    obtain ⟨c0, c1, c2, c3⟩ := put4_cells HBK.out (.string ⟨#[]⟩) (.int .i64 0) (.int .i64 0) (.int .i64 0)
    exact bodyPost_ret (v := (.tuple #[.agg #[.string ⟨#[]⟩, .int .i64 0, .int .i64 0, .int .i64 0], .int .i64 22])) (by simp [results, Try.results7, go_sem, c0, c1, c2, c3]) rfl ⟨rfl, put4_below HB1.out (Nat.le_refl _) (.string ⟨#[]⟩) (.int .i64 0) (.int .i64 0) (.int .i64 0)⟩
  · rw [if_neg h] at hz
    simp only [Prod.mk.injEq] at hz
    obtain ⟨rfl, rfl⟩ := hz
    have hd : (decide ((1 : Int) ≤ size) && decide (size ≤ 65536)) = true := by
      simp only [Bool.and_eq_true, decide_eq_true_eq]
      omega
    have HD := Lib.hid hd
    clear hd
    go_enter Try.func7, Try.ntmps7
    go_wp2_with fail
    rw [← hw1]
    clear hw1
    refine (lwithin _ _ _ _).mono ?_
    rintro e w2 ⟨rfl, rfl⟩
    rw [HD.out]
    go_wp2_with fail
    change bodyPost _ _ _ _ _ (put4 w2 w.heap.size (.string ⟨#[]⟩) (.int .i64 1) (.int .i64 1) (.int .i64 size))
    obtain ⟨c0, c1, c2, c3⟩ := put4_cells HBK.out (.string ⟨#[]⟩) (.int .i64 1) (.int .i64 1) (.int .i64 size)
    exact bodyPost_ret (v := (.tuple #[.agg #[.string ⟨#[]⟩, .int .i64 1, .int .i64 1, .int .i64 size], .int .i64 0])) (by simp [results, Try.results7, go_sem, c0, c1, c2, c3]) rfl ⟨rfl, put4_below HB1.out (Nat.le_refl _) (.string ⟨#[]⟩) (.int .i64 1) (.int .i64 1) (.int .i64 size)⟩

set_option maxHeartbeats 2000000 in
theorem rnew8 (size : Int) (q : Pip) (er : Int) (hz : newPip size = (q, er)) (w : World) :
    Calls Try.prog 8 #[.int .i64 size] w fun e w' => e = .returned (.tuple #[.agg #[.string ⟨q.data.toArray⟩, .int .i64 q.rd, .int .i64 q.wr, .int .i64 q.cap], .int .i64 er]) ∧ Below w.heap.size w w' := by
  unfold newPip at hz
  by_cases h : size < 1 ∨ 65536 < size
  · rw [if_pos h] at hz
    simp only [Prod.mk.injEq] at hz
    obtain ⟨rfl, rfl⟩ := hz
    by_cases h1 : size < 1
    · have hd : decide (size < 1) = true := decide_eq_true h1
      go_enter Try.func8, Try.ntmps8
      go_wp2_with fail
      exact bodyPost_ret (v := (.tuple #[.agg #[.string ⟨#[]⟩, .int .i64 0, .int .i64 0, .int .i64 0], .int .i64 22])) (by simp [results, Try.results8, go_sem]) rfl ⟨rfl, below_box w _⟩
    · have hd : decide (size < 1) = false := decide_eq_false h1
      have hd2 : decide (65536 < size) = true := decide_eq_true (by omega)
      go_enter Try.func8, Try.ntmps8
      go_wp2_with fail
      exact bodyPost_ret (v := (.tuple #[.agg #[.string ⟨#[]⟩, .int .i64 0, .int .i64 0, .int .i64 0], .int .i64 22])) (by simp [results, Try.results8, go_sem]) rfl ⟨rfl, below_box w _⟩
  · rw [if_neg h] at hz
    simp only [Prod.mk.injEq] at hz
    obtain ⟨rfl, rfl⟩ := hz
    have hd : decide (size < 1) = false := decide_eq_false (by omega)
    have hd2 : decide (65536 < size) = false := decide_eq_false (by omega)
    go_enter Try.func8, Try.ntmps8
    go_wp2_with fail
    exact bodyPost_ret (v := (.tuple #[.agg #[.string ⟨#[]⟩, .int .i64 1, .int .i64 1, .int .i64 size], .int .i64 0])) (by simp [results, Try.results8, go_sem]) rfl ⟨rfl, below_box w _⟩

end Go.Proofs.Ytopgmboilimlhaa
