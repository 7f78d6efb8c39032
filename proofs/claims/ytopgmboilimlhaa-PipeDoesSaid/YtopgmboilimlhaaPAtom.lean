/-
  Counts of descriptors: sync/atomic's Int64; sum.
-/
import Derived.Laws.LoneSync
import Derived.Test.YtopgmboilimlhaaPMem
namespace Go.Proofs.Ytopgmboilimlhaa
set_option maxRecDepth 100000
open Go Go.RowKit

theorem lstoreM (b : Nat) (u : Value) (n : Int) (w : World) (hc : w.cell? ⟨b, 0, none⟩ = some u) (hz : w.frozen? ⟨b, 0, none⟩ = false) :
    Calls Try.prog 23 #[.pointer (some ⟨b, 0, none⟩), .int .i64 n] w fun e w' => e = .returned (.tuple #[]) ∧ w' = w.setCell ⟨b, 0, none⟩ (.int .i64 n) := by
  have hst := run_call_store (P := Try.prog) Try.func25 (by kernel_rfl) (by kernel_rfl) (by kernel_rfl) (by kernel_rfl) (k := .i64) (y := n) hc hz
  go_enter Try.func23, Try.ntmps23
  go_wp2_with fail
  go_end0
  exact ⟨rfl, rfl⟩
theorem laddM (b : Nat) (n d s : Int) (w : World) (hs : IntKind.i64.wrap (n + d) = s) (hc : w.cell? ⟨b, 0, none⟩ = some (.int .i64 n)) (hz : w.frozen? ⟨b, 0, none⟩ = false) :
    Calls Try.prog 24 #[.pointer (some ⟨b, 0, none⟩), .int .i64 d] w fun e w' => e = .returned (.int .i64 s) ∧ w' = w.setCell ⟨b, 0, none⟩ (.int .i64 s) := by
  have hadd := run_call_add (P := Try.prog) Try.func26 (by kernel_rfl) (by kernel_rfl) (by kernel_rfl) .i64 (by kernel_rfl) (y := d) (s := s) hc hz (by simp [go_sem, hs])
  go_enter Try.func24, Try.ntmps24
  go_wp2_with fail
  go_ret
  exact ⟨rfl, rfl⟩
set_option maxHeartbeats 2000000 in
theorem lsum8 (n d : Int) (hs : IntKind.i64.wrap (n + d) = n + d) (w : World) : Calls Try.prog 22 #[.int .i64 n, .int .i64 d] w fun e w' => e = .returned (.int .i64 (min (max (n + d) 0) 1000)) ∧ Below w.heap.size w w' := by
  obtain ⟨w1, hw1⟩ : ∃ w1, w1 = w.alloc (.cells #[.int .i64 0] 53) := ⟨_, rfl⟩
  have hb1 : Below w.heap.size w w1 := by rw [hw1]; exact below_box w _
  have hA : w1.heap[w.heap.size]? = some (.cells #[.int .i64 0] 53 (0, 0)) := by rw [hw1]; exact new_block w _
  obtain ⟨w2, hw2⟩ : ∃ w2, w2 = w1.setCell ⟨w.heap.size, 0, none⟩ (.int .i64 n) := ⟨_, rfl⟩
  have hb2 : Below w.heap.size w w2 := by rw [hw2]; exact hb1.setCell (Nat.le_refl _) _
  have hA2 : w2.heap[w.heap.size]? = some (.cells #[.int .i64 n] 53 (0, 0)) := by rw [hw2]; exact blk_set hA 0 _
  have HA := Lib.hid hA
  have HA2 := Lib.hid hA2
  have HB2 := Lib.hid hb2
  have hl := lt_of_block hA2
  have HS := Lib.hid hs
  clear hA hA2 hb1 hb2 hs
  go_enter Try.func22, Try.ntmps22
  go_wp2_with fail
  rw [← hw1]
  clear hw1
  refine (lstoreM _ _ n _ (blk_cell HA.out 0) (blk_free HA.out 0)).mono ?_
  rintro e w3 ⟨rfl, rfl⟩
  rw [← hw2]
  clear hw2
  go_wp2_with fail
  refine (laddM _ n d (n + d) _ HS.out (blk_cell HA2.out 0) (blk_free HA2.out 0)).mono ?_
  rintro e w3 ⟨rfl, rfl⟩
  go_wp2_with fail
  go_ret
  exact ⟨rfl, HB2.out.setCell (Nat.le_refl _) _⟩
/-- A pipe one of whose ends has another count. -/
def endsPip (p : Pip) (reads : Bool) (d : Int) : Pip := if reads = true then { p with rd := min (max (p.rd + d) 0) 1000 } else { p with wr := min (max (p.wr + d) 0) 1000 }
theorem close_ends {p : Pip} (hF : fitPip p = true) (reads : Bool) : endsPip p reads (-1) = closePip p reads := by
  obtain ⟨g1, g2, g3, g4, g5, g6, g7⟩ := fit_pip.1 hF
  unfold endsPip closePip
  cases reads with
  | true =>
    rw [if_pos rfl, if_pos rfl]
    by_cases h : 0 < p.rd
    · rw [if_pos h, show min (max (p.rd + -1) 0) 1000 = p.rd - 1 by omega]
    · rw [if_neg h, show min (max (p.rd + -1) 0) 1000 = p.rd by omega]
  | false =>
    rw [if_neg (by decide), if_neg (by decide)]
    by_cases h : 0 < p.wr
    · rw [if_pos h, show min (max (p.wr + -1) 0) 1000 = p.wr - 1 by omega]
    · rw [if_neg h, show min (max (p.wr + -1) 0) 1000 = p.wr by omega]
theorem dup_ends {p : Pip} (hF : fitPip p = true) (reads : Bool) : endsPip p reads 1 = dupPip p reads := by
  obtain ⟨g1, g2, g3, g4, g5, g6, g7⟩ := fit_pip.1 hF
  unfold endsPip dupPip
  cases reads with
  | true =>
    rw [if_pos rfl, if_pos rfl]
    by_cases h : p.rd < 1000
    · rw [if_pos h, show min (max (p.rd + 1) 0) 1000 = p.rd + 1 by omega]
    · rw [if_neg h, show min (max (p.rd + 1) 0) 1000 = p.rd by omega]
  | false =>
    rw [if_neg (by decide), if_neg (by decide)]
    by_cases h : p.wr < 1000
    · rw [if_pos h, show min (max (p.wr + 1) 0) 1000 = p.wr + 1 by omega]
    · rw [if_neg h, show min (max (p.wr + 1) 0) 1000 = p.wr by omega]
set_option maxHeartbeats 4000000 in
theorem lcounted8 (p : Pip) (hF : fitPip p = true) (reads : Bool) (d : Int) (hd : d = 1 ∨ d = -1) (w : World) :
    Calls Try.prog 21 #[.agg #[.string ⟨p.data.toArray⟩, .int .i64 p.rd, .int .i64 p.wr, .int .i64 p.cap], .bool reads, .int .i64 d] w fun e w' => e = .returned (.agg #[.string ⟨(endsPip p reads d).data.toArray⟩, .int .i64 (endsPip p reads d).rd, .int .i64 (endsPip p reads d).wr, .int .i64 (endsPip p reads d).cap]) ∧ Below w.heap.size w w' := by
  obtain ⟨g1, g2, g3, g4, g5, g6, g7⟩ := fit_pip.1 hF
  have HR := Lib.hid (show IntKind.i64.wrap (p.rd + d) = p.rd + d by rw [IntKind.wrap_i64]; omega)
  have HW := Lib.hid (show IntKind.i64.wrap (p.wr + d) = p.wr + d by rw [IntKind.wrap_i64]; omega)
  obtain ⟨D, hD⟩ : ∃ D : ByteArray, D = ⟨p.data.toArray⟩ := ⟨_, rfl⟩
  obtain ⟨hDl, hDs⟩ := data_text hD
  obtain ⟨w2, hw2, hb2, hs2, hA, hB⟩ := two_boxes w #[.string D, .int .i64 p.rd, .int .i64 p.wr, .int .i64 p.cap] #[.string ⟨#[]⟩, .int .i64 0, .int .i64 0, .int .i64 0] 23 23
  have HA := Lib.hid hA
  have HBK := Lib.hid hB
  have HB2 := Lib.hid hb2
  have HD := Lib.hid hD
  rw [← hD]
  have hl := lt_of_block hB
  have q0 := blk_cell hA 0
  have q1 := blk_cell hA 1
  have q2 := blk_cell hA 2
  have q3 := blk_cell hA 3
  have f0 := blk_free hA 0
  have f1 := blk_free hA 1
  have f2 := blk_free hA 2
  have r0 := blk_cell hB 0
  have r1 := blk_cell hB 1
  have r2 := blk_cell hB 2
  have r3 := blk_cell hB 3
  have s0 := blk_free hB 0
  have s1 := blk_free hB 1
  have s2 := blk_free hB 2
  have s3 := blk_free hB 3
  clear hA hB hb2 hD
  clear hDl hDs g1 g2 g3 g4 g5 g6 g7 hF hd q3 f0 r0 r1 r2 r3 s0 s1 s2 s3 f1 f2
  rw [hw2] at q0 q1 q2 hl
  cases reads with
  | true =>
    go_enter Try.func21, Try.ntmps21
    go_wp2_with fail
    rw [← hw2]
    clear hw2 q0 q1 q2 hl
    refine (lsum8 _ _ HR.out _).mono ?_
    rintro e w3 ⟨rfl, hb3⟩
    have hA3 := (hb3.block w.heap.size (by omega)).trans HA.out
    have hB3 := (hb3.block (w.heap.size + 1) (by omega)).trans HBK.out
    have HB3 := Lib.hid (HB2.out.trans (hb3.mono (by omega)))
    have hs3 := hb3.size
    have q0 := blk_cell hA3 0
    have q1 := blk_cell hA3 1
    have q2 := blk_cell hA3 2
    have q3 := blk_cell hA3 3
    have f1 := blk_free hA3 1
    have r0 := blk_cell hB3 0
    have r1 := blk_cell hB3 1
    have r2 := blk_cell hB3 2
    have r3 := blk_cell hB3 3
    have s0 := blk_free hB3 0
    have s1 := blk_free hB3 1
    have s2 := blk_free hB3 2
    have s3 := blk_free hB3 3
    have hl := lt_of_block hB3
    have hl2 := lt_of_block hA3
    have HB4 := Lib.hid (show (w3.setCell ⟨w.heap.size, 1, none⟩ (.int .i64 (min (max (p.rd + d) 0) 1000))).heap[w.heap.size + 1]? = some (.cells #[.string ⟨#[]⟩, .int .i64 0, .int .i64 0, .int .i64 0] 23 (0, 0)) from (Below.heap_setCell _ _ _ _ (show w.heap.size + 1 ≠ w.heap.size by omega)).trans hB3)
    have HLE := Lib.hid (show Below w.heap.size w (w3.setCell ⟨w.heap.size, 1, none⟩ (.int .i64 (min (max (p.rd + d) 0) 1000))) from HB3.out.setCell (Nat.le_refl _) _)
    clear hA3 hB3 hb3
    go_wp2_with fail
    change bodyPost _ _ _ _ _ (put4 (w3.setCell ⟨w.heap.size, 1, none⟩ (.int .i64 (min (max (p.rd + d) 0) 1000))) (w.heap.size + 1) (.string D) (.int .i64 (min (max (p.rd + d) 0) 1000)) (.int .i64 p.wr) (.int .i64 p.cap))
    obtain ⟨c0, c1, c2, c3⟩ := put4_cells HB4.out (.string D) (.int .i64 (min (max (p.rd + d) 0) 1000)) (.int .i64 p.wr) (.int .i64 p.cap)
    exact bodyPost_ret (v := .agg #[.string D, .int .i64 (min (max (p.rd + d) 0) 1000), .int .i64 p.wr, .int .i64 p.cap]) (by simp [results, Try.results21, go_sem, c0, c1, c2, c3]) rfl ⟨by rw [HD.out]; rfl, put4_below HLE.out (by omega) (.string D) (.int .i64 (min (max (p.rd + d) 0) 1000)) (.int .i64 p.wr) (.int .i64 p.cap)⟩
  | false =>
    go_enter Try.func21, Try.ntmps21
    go_wp2_with fail
    rw [← hw2]
    clear hw2 q0 q1 q2 hl
    refine (lsum8 _ _ HW.out _).mono ?_
    rintro e w3 ⟨rfl, hb3⟩
    have hA3 := (hb3.block w.heap.size (by omega)).trans HA.out
    have hB3 := (hb3.block (w.heap.size + 1) (by omega)).trans HBK.out
    have HB3 := Lib.hid (HB2.out.trans (hb3.mono (by omega)))
    have hs3 := hb3.size
    have q0 := blk_cell hA3 0
    have q1 := blk_cell hA3 1
    have q2 := blk_cell hA3 2
    have q3 := blk_cell hA3 3
    have f1 := blk_free hA3 2
    have r0 := blk_cell hB3 0
    have r1 := blk_cell hB3 1
    have r2 := blk_cell hB3 2
    have r3 := blk_cell hB3 3
    have s0 := blk_free hB3 0
    have s1 := blk_free hB3 1
    have s2 := blk_free hB3 2
    have s3 := blk_free hB3 3
    have hl := lt_of_block hB3
    have hl2 := lt_of_block hA3
    have HB4 := Lib.hid (show (w3.setCell ⟨w.heap.size, 2, none⟩ (.int .i64 (min (max (p.wr + d) 0) 1000))).heap[w.heap.size + 1]? = some (.cells #[.string ⟨#[]⟩, .int .i64 0, .int .i64 0, .int .i64 0] 23 (0, 0)) from (Below.heap_setCell _ _ _ _ (show w.heap.size + 1 ≠ w.heap.size by omega)).trans hB3)
    have HLE := Lib.hid (show Below w.heap.size w (w3.setCell ⟨w.heap.size, 2, none⟩ (.int .i64 (min (max (p.wr + d) 0) 1000))) from HB3.out.setCell (Nat.le_refl _) _)
    clear hA3 hB3 hb3
    go_wp2_with fail
    change bodyPost _ _ _ _ _ (put4 (w3.setCell ⟨w.heap.size, 2, none⟩ (.int .i64 (min (max (p.wr + d) 0) 1000))) (w.heap.size + 1) (.string D) (.int .i64 p.rd) (.int .i64 (min (max (p.wr + d) 0) 1000)) (.int .i64 p.cap))
    obtain ⟨c0, c1, c2, c3⟩ := put4_cells HB4.out (.string D) (.int .i64 p.rd) (.int .i64 (min (max (p.wr + d) 0) 1000)) (.int .i64 p.cap)
    exact bodyPost_ret (v := .agg #[.string D, .int .i64 p.rd, .int .i64 (min (max (p.wr + d) 0) 1000), .int .i64 p.cap]) (by simp [results, Try.results21, go_sem, c0, c1, c2, c3]) rfl ⟨by rw [HD.out]; rfl, put4_below HLE.out (by omega) (.string D) (.int .i64 p.rd) (.int .i64 (min (max (p.wr + d) 0) 1000)) (.int .i64 p.cap)⟩
end Go.Proofs.Ytopgmboilimlhaa
