/-
  awake: chapter 8's example.
-/
import Derived.Test.YtopgmboilimlhaaPEnds
import Derived.Test.YtopgmboilimlhaaPRead
import Derived.Test.YtopgmboilimlhaaPWrite
import Derived.Test.YtopgmboilimlhaaPFit
namespace Go.Proofs.Ytopgmboilimlhaa
set_option maxRecDepth 100000
open Go Go.RowKit

set_option maxHeartbeats 8000000 in
theorem awake8 (w : World) : Calls Try.prog 11 #[] w fun e w' => e = .returned (.bool true) ∧ Below w.heap.size w w' := by
  have C1 := Lib.hid (show ∀ W, Calls Try.prog 7 #[.int .i64 4] W fun e w' => e = .returned (.tuple #[.agg #[.string ⟨#[]⟩, .int .i64 1, .int .i64 1, .int .i64 4], .int .i64 0]) ∧ Below W.heap.size W w' from fun W => lnew8 4 ⟨[], 1, 1, 4⟩ 0 rfl W)
  have C2 := Lib.hid (show ∀ W, Calls Try.prog 14 #[.agg #[.string ⟨#[]⟩, .int .i64 1, .int .i64 1, .int .i64 4], .string ⟨#[97, 98, 99, 100, 101, 102]⟩] W fun e w' => e = .returned (.tuple #[.agg #[.string ⟨#[97, 98, 99, 100]⟩, .int .i64 1, .int .i64 1, .int .i64 4], .int .i64 4, .int .i64 0]) ∧ Below W.heap.size W w' from fun W => lwrite8 ⟨[], 1, 1, 4⟩ (by decide) ⟨#[97, 98, 99, 100, 101, 102]⟩ (by decide) ⟨[97, 98, 99, 100], 1, 1, 4⟩ 4 0 rfl W)
  have C3 := Lib.hid (show ∀ W, Calls Try.prog 12 #[.agg #[.string ⟨#[97, 98, 99, 100]⟩, .int .i64 1, .int .i64 1, .int .i64 4], .int .i64 3] W fun e w' => e = .returned (.tuple #[.agg #[.string ⟨#[100]⟩, .int .i64 1, .int .i64 1, .int .i64 4], .string ⟨#[97, 98, 99]⟩, .int .i64 0]) ∧ Below W.heap.size W w' from fun W => lread8 ⟨[97, 98, 99, 100], 1, 1, 4⟩ (by decide) 3 ⟨[100], 1, 1, 4⟩ [97, 98, 99] 0 rfl W)
  have C4 := Lib.hid (show ∀ W, Calls Try.prog 14 #[.agg #[.string ⟨#[100]⟩, .int .i64 1, .int .i64 1, .int .i64 4], .string ⟨#[101, 102]⟩] W fun e w' => e = .returned (.tuple #[.agg #[.string ⟨#[100, 101, 102]⟩, .int .i64 1, .int .i64 1, .int .i64 4], .int .i64 2, .int .i64 0]) ∧ Below W.heap.size W w' from fun W => lwrite8 ⟨[100], 1, 1, 4⟩ (by decide) ⟨#[101, 102]⟩ (by decide) ⟨[100, 101, 102], 1, 1, 4⟩ 2 0 rfl W)
  have C5 := Lib.hid (show ∀ W, Calls Try.prog 12 #[.agg #[.string ⟨#[100, 101, 102]⟩, .int .i64 1, .int .i64 1, .int .i64 4], .int .i64 9] W fun e w' => e = .returned (.tuple #[.agg #[.string ⟨#[]⟩, .int .i64 1, .int .i64 1, .int .i64 4], .string ⟨#[100, 101, 102]⟩, .int .i64 0]) ∧ Below W.heap.size W w' from fun W => lread8 ⟨[100, 101, 102], 1, 1, 4⟩ (by decide) 9 ⟨[], 1, 1, 4⟩ [100, 101, 102] 0 rfl W)
  go_enter Try.func11, Try.ntmps11
  go_wp2_with fail
  refine (C1.out _).mono ?_
  rintro e w1 ⟨rfl, hb1⟩
  go_wp2_with fail
  obtain ⟨b, hbs⟩ : ∃ b, b = w1.heap.size := ⟨_, rfl⟩
  obtain ⟨w2, hw2⟩ : ∃ w2, w2 = w1.alloc (.cells #[.string ⟨#[]⟩, .int .i64 1, .int .i64 1, .int .i64 4] 23) := ⟨_, rfl⟩
  have hB2 : w2.heap[b]? = some (.cells #[.string ⟨#[]⟩, .int .i64 1, .int .i64 1, .int .i64 4] 23 (0, 0)) := by rw [hw2, hbs]; exact new_block w1 _
  have hE2 : Below w.heap.size w w2 := by rw [hw2]; exact hb1.alloc hb1.size _
  have hbl : w.heap.size ≤ b := by rw [hbs]; exact hb1.size
  rw [← hw2, ← hbs]
  have HB2 := Lib.hid hB2
  have HE2 := Lib.hid hE2
  clear hw2 hbs hb1 hB2 hE2
  refine (C2.out _).mono ?_
  rintro e w3 ⟨rfl, hb3⟩
  have hl2 := lt_of_block HB2.out
  have hB3 := (hb3.block b hl2).trans HB2.out
  have HE3 := Lib.hid (HE2.out.trans (hb3.mono HE2.out.size))
  have HB3 := Lib.hid hB3
  have r0 := blk_cell hB3 0
  have r1 := blk_cell hB3 1
  have r2 := blk_cell hB3 2
  have r3 := blk_cell hB3 3
  have s0 := blk_free hB3 0
  have s1 := blk_free hB3 1
  have s2 := blk_free hB3 2
  have s3 := blk_free hB3 3
  have hl := lt_of_block hB3
  clear hB3 hb3 hl2
  go_wp2_with fail
  obtain ⟨w4, hw4⟩ : ∃ w4, w4 = put4 w3 b (.string ⟨#[97, 98, 99, 100]⟩) (.int .i64 1) (.int .i64 1) (.int .i64 4) := ⟨_, rfl⟩
  change Calls _ _ _ (put4 w3 b (.string ⟨#[97, 98, 99, 100]⟩) (.int .i64 1) (.int .i64 1) (.int .i64 4)) _
  have HB4 := Lib.hid (show w4.heap[b]? = some (.cells #[.string ⟨#[97, 98, 99, 100]⟩, .int .i64 1, .int .i64 1, .int .i64 4] 23 (0, 0)) by rw [hw4]; exact put4_block HB3.out (.string ⟨#[97, 98, 99, 100]⟩) (.int .i64 1) (.int .i64 1) (.int .i64 4))
  have HE4 := Lib.hid (show Below w.heap.size w w4 by rw [hw4]; exact put4_below HE3.out hbl (.string ⟨#[97, 98, 99, 100]⟩) (.int .i64 1) (.int .i64 1) (.int .i64 4))
  rw [← hw4]
  clear hw4 r0 r1 r2 r3 s0 s1 s2 s3 hl
  refine (C3.out _).mono ?_
  rintro e w5 ⟨rfl, hb5⟩
  have hl4 := lt_of_block HB4.out
  have hB5 := (hb5.block b hl4).trans HB4.out
  have HE5 := Lib.hid (HE4.out.trans (hb5.mono HE4.out.size))
  have HB5 := Lib.hid hB5
  have r0 := blk_cell hB5 0
  have r1 := blk_cell hB5 1
  have r2 := blk_cell hB5 2
  have r3 := blk_cell hB5 3
  have s0 := blk_free hB5 0
  have s1 := blk_free hB5 1
  have s2 := blk_free hB5 2
  have s3 := blk_free hB5 3
  have hl := lt_of_block hB5
  clear hB5 hb5 hl4
  go_wp2_with fail
  obtain ⟨w6, hw6⟩ : ∃ w6, w6 = put4 w5 b (.string ⟨#[100]⟩) (.int .i64 1) (.int .i64 1) (.int .i64 4) := ⟨_, rfl⟩
  change Calls _ _ _ (put4 w5 b (.string ⟨#[100]⟩) (.int .i64 1) (.int .i64 1) (.int .i64 4)) _
  have HB6 := Lib.hid (show w6.heap[b]? = some (.cells #[.string ⟨#[100]⟩, .int .i64 1, .int .i64 1, .int .i64 4] 23 (0, 0)) by rw [hw6]; exact put4_block HB5.out (.string ⟨#[100]⟩) (.int .i64 1) (.int .i64 1) (.int .i64 4))
  have HE6 := Lib.hid (show Below w.heap.size w w6 by rw [hw6]; exact put4_below HE5.out hbl (.string ⟨#[100]⟩) (.int .i64 1) (.int .i64 1) (.int .i64 4))
  rw [← hw6]
  clear hw6 r0 r1 r2 r3 s0 s1 s2 s3 hl
  refine (C4.out _).mono ?_
  rintro e w7 ⟨rfl, hb7⟩
  have hl6 := lt_of_block HB6.out
  have hB7 := (hb7.block b hl6).trans HB6.out
  have HE7 := Lib.hid (HE6.out.trans (hb7.mono HE6.out.size))
  have HB7 := Lib.hid hB7
  have r0 := blk_cell hB7 0
  have r1 := blk_cell hB7 1
  have r2 := blk_cell hB7 2
  have r3 := blk_cell hB7 3
  have s0 := blk_free hB7 0
  have s1 := blk_free hB7 1
  have s2 := blk_free hB7 2
  have s3 := blk_free hB7 3
  have hl := lt_of_block hB7
  clear hB7 hb7 hl6
  go_wp2_with fail
  obtain ⟨w8, hw8⟩ : ∃ w8, w8 = put4 w7 b (.string ⟨#[100, 101, 102]⟩) (.int .i64 1) (.int .i64 1) (.int .i64 4) := ⟨_, rfl⟩
  change Calls _ _ _ (put4 w7 b (.string ⟨#[100, 101, 102]⟩) (.int .i64 1) (.int .i64 1) (.int .i64 4)) _
  have HB8 := Lib.hid (show w8.heap[b]? = some (.cells #[.string ⟨#[100, 101, 102]⟩, .int .i64 1, .int .i64 1, .int .i64 4] 23 (0, 0)) by rw [hw8]; exact put4_block HB7.out (.string ⟨#[100, 101, 102]⟩) (.int .i64 1) (.int .i64 1) (.int .i64 4))
  have HE8 := Lib.hid (show Below w.heap.size w w8 by rw [hw8]; exact put4_below HE7.out hbl (.string ⟨#[100, 101, 102]⟩) (.int .i64 1) (.int .i64 1) (.int .i64 4))
  rw [← hw8]
  clear hw8 r0 r1 r2 r3 s0 s1 s2 s3 hl
  refine (C5.out _).mono ?_
  rintro e w9 ⟨rfl, hb9⟩
  have HE9 := Lib.hid ((HE8.out.trans (hb9.mono HE8.out.size)).alloc (Nat.le_trans HE8.out.size hb9.size) (.cells #[.string ⟨#[]⟩, .int .i64 1, .int .i64 1, .int .i64 4] 23))
  go_wp2_with fail
  go_ret
  exact ⟨rfl, HE9.out⟩
end Go.Proofs.Ytopgmboilimlhaa
