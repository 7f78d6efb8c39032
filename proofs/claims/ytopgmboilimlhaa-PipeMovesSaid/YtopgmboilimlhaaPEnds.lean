/-
  Close and Dup of both sides.
-/
import Derived.Test.YtopgmboilimlhaaPAtom
namespace Go.Proofs.Ytopgmboilimlhaa
set_option maxRecDepth 100000
open Go Go.RowKit

set_option maxHeartbeats 4000000 in
theorem lclose8 (p : Pip) (hF : fitPip p = true) (reads : Bool) (w : World) :
    Calls Try.prog 16 #[.agg #[.string ⟨p.data.toArray⟩, .int .i64 p.rd, .int .i64 p.wr, .int .i64 p.cap], .bool reads] w fun e w' => e = .returned (.agg #[.string ⟨(closePip p reads).data.toArray⟩, .int .i64 (closePip p reads).rd, .int .i64 (closePip p reads).wr, .int .i64 (closePip p reads).cap]) ∧ Below w.heap.size w w' := by
  have HC := Lib.hid (fun W => lcounted8 p hF reads (-1) (by decide) W)
  rw [← close_ends hF reads]
  obtain ⟨q, hq⟩ : ∃ q, q = endsPip p reads (-1) := ⟨_, rfl⟩
  rw [← hq] at HC ⊢
  obtain ⟨D, hD⟩ : ∃ D : ByteArray, D = ⟨p.data.toArray⟩ := ⟨_, rfl⟩
  obtain ⟨hDl, hDs⟩ := data_text hD
  obtain ⟨w2, hw2, hb2, hs2, hA, hB⟩ := two_boxes w #[.string D, .int .i64 p.rd, .int .i64 p.wr, .int .i64 p.cap] #[.string ⟨#[]⟩, .int .i64 0, .int .i64 0, .int .i64 0] 23 23
  have HA := Lib.hid hA
  have HBK := Lib.hid hB
  have HB2 := Lib.hid hb2
  have HD := Lib.hid hD
  rw [← hD]
  have hl := lt_of_block hB
  have q0 := blk_cell hA 0
  have q1 := blk_cell hA 1
  have q2 := blk_cell hA 2
  have q3 := blk_cell hA 3
  have f0 := blk_free hA 0
  have f1 := blk_free hA 1
  have f2 := blk_free hA 2
  have r0 := blk_cell hB 0
  have r1 := blk_cell hB 1
  have r2 := blk_cell hB 2
  have r3 := blk_cell hB 3
  have s0 := blk_free hB 0
  have s1 := blk_free hB 1
  have s2 := blk_free hB 2
  have s3 := blk_free hB 3
  clear hA hB hb2 hD
  have HCD := Lib.hid (show ∀ W, Calls Try.prog 21 #[.agg #[.string D, .int .i64 p.rd, .int .i64 p.wr, .int .i64 p.cap], .bool reads, .int .i64 (-1)] W fun e w' => e = .returned (.agg #[.string ⟨q.data.toArray⟩, .int .i64 q.rd, .int .i64 q.wr, .int .i64 q.cap]) ∧ Below W.heap.size W w' from fun W => by rw [HD.out]; exact HC.out W)
  clear hDl hDs hF hq r0 r1 r2 r3 s0 s1 s2 s3 f0 f1 f2
  rw [hw2] at q0 q1 q2 q3 hl
  go_enter Try.func16, Try.ntmps16
  go_wp2_with fail
  rw [← hw2]
  clear hw2 q0 q1 q2 q3 hl
  refine (HCD.out _).mono ?_
  rintro e w3 ⟨rfl, hb3⟩
  have hB3 := (hb3.block (w.heap.size + 1) (by omega)).trans HBK.out
  have HB3 := Lib.hid (HB2.out.trans (hb3.mono (by omega)))
  have hs3 := hb3.size
  have r0 := blk_cell hB3 0
  have r1 := blk_cell hB3 1
  have r2 := blk_cell hB3 2
  have r3 := blk_cell hB3 3
  have s0 := blk_free hB3 0
  have s1 := blk_free hB3 1
  have s2 := blk_free hB3 2
  have s3 := blk_free hB3 3
  have hl := lt_of_block hB3
  have HB4 := Lib.hid hB3
  clear hB3 hb3
  go_wp2_with fail
  change bodyPost _ _ _ _ _ (put4 w3 (w.heap.size + 1) (.string ⟨q.data.toArray⟩) (.int .i64 q.rd) (.int .i64 q.wr) (.int .i64 q.cap))
  obtain ⟨c0, c1, c2, c3⟩ := put4_cells HB4.out (.string ⟨q.data.toArray⟩) (.int .i64 q.rd) (.int .i64 q.wr) (.int .i64 q.cap)
  exact bodyPost_ret (v := .agg #[.string ⟨q.data.toArray⟩, .int .i64 q.rd, .int .i64 q.wr, .int .i64 q.cap]) (by simp [results, Try.results16, go_sem, c0, c1, c2, c3]) rfl ⟨rfl, put4_below HB3.out (by omega) (.string ⟨q.data.toArray⟩) (.int .i64 q.rd) (.int .i64 q.wr) (.int .i64 q.cap)⟩

set_option maxHeartbeats 4000000 in
theorem ldup8 (p : Pip) (hF : fitPip p = true) (reads : Bool) (w : World) :
    Calls Try.prog 18 #[.agg #[.string ⟨p.data.toArray⟩, .int .i64 p.rd, .int .i64 p.wr, .int .i64 p.cap], .bool reads] w fun e w' => e = .returned (.agg #[.string ⟨(dupPip p reads).data.toArray⟩, .int .i64 (dupPip p reads).rd, .int .i64 (dupPip p reads).wr, .int .i64 (dupPip p reads).cap]) ∧ Below w.heap.size w w' := by
  have HC := Lib.hid (fun W => lcounted8 p hF reads 1 (by decide) W)
  rw [← dup_ends hF reads]
  obtain ⟨q, hq⟩ : ∃ q, q = endsPip p reads 1 := ⟨_, rfl⟩
  rw [← hq] at HC ⊢
  obtain ⟨D, hD⟩ : ∃ D : ByteArray, D = ⟨p.data.toArray⟩ := ⟨_, rfl⟩
  obtain ⟨hDl, hDs⟩ := data_text hD
  obtain ⟨w2, hw2, hb2, hs2, hA, hB⟩ := two_boxes w #[.string D, .int .i64 p.rd, .int .i64 p.wr, .int .i64 p.cap] #[.string ⟨#[]⟩, .int .i64 0, .int .i64 0, .int .i64 0] 23 23
  have HA := Lib.hid hA
  have HBK := Lib.hid hB
  have HB2 := Lib.hid hb2
  have HD := Lib.hid hD
  rw [← hD]
  have hl := lt_of_block hB
  have q0 := blk_cell hA 0
  have q1 := blk_cell hA 1
  have q2 := blk_cell hA 2
  have q3 := blk_cell hA 3
  have f0 := blk_free hA 0
  have f1 := blk_free hA 1
  have f2 := blk_free hA 2
  have r0 := blk_cell hB 0
  have r1 := blk_cell hB 1
  have r2 := blk_cell hB 2
  have r3 := blk_cell hB 3
  have s0 := blk_free hB 0
  have s1 := blk_free hB 1
  have s2 := blk_free hB 2
  have s3 := blk_free hB 3
  clear hA hB hb2 hD
  have HCD := Lib.hid (show ∀ W, Calls Try.prog 21 #[.agg #[.string D, .int .i64 p.rd, .int .i64 p.wr, .int .i64 p.cap], .bool reads, .int .i64 1] W fun e w' => e = .returned (.agg #[.string ⟨q.data.toArray⟩, .int .i64 q.rd, .int .i64 q.wr, .int .i64 q.cap]) ∧ Below W.heap.size W w' from fun W => by rw [HD.out]; exact HC.out W)
  clear hDl hDs hF hq r0 r1 r2 r3 s0 s1 s2 s3 f0 f1 f2
  rw [hw2] at q0 q1 q2 q3 hl
  go_enter Try.func18, Try.ntmps18
  go_wp2_with fail
  rw [← hw2]
  clear hw2 q0 q1 q2 q3 hl
  refine (HCD.out _).mono ?_
  rintro e w3 ⟨rfl, hb3⟩
  have hB3 := (hb3.block (w.heap.size + 1) (by omega)).trans HBK.out
  have HB3 := Lib.hid (HB2.out.trans (hb3.mono (by omega)))
  have hs3 := hb3.size
  have r0 := blk_cell hB3 0
  have r1 := blk_cell hB3 1
  have r2 := blk_cell hB3 2
  have r3 := blk_cell hB3 3
  have s0 := blk_free hB3 0
  have s1 := blk_free hB3 1
  have s2 := blk_free hB3 2
  have s3 := blk_free hB3 3
  have hl := lt_of_block hB3
  have HB4 := Lib.hid hB3
  clear hB3 hb3
  go_wp2_with fail
  change bodyPost _ _ _ _ _ (put4 w3 (w.heap.size + 1) (.string ⟨q.data.toArray⟩) (.int .i64 q.rd) (.int .i64 q.wr) (.int .i64 q.cap))
  obtain ⟨c0, c1, c2, c3⟩ := put4_cells HB4.out (.string ⟨q.data.toArray⟩) (.int .i64 q.rd) (.int .i64 q.wr) (.int .i64 q.cap)
  exact bodyPost_ret (v := .agg #[.string ⟨q.data.toArray⟩, .int .i64 q.rd, .int .i64 q.wr, .int .i64 q.cap]) (by simp [results, Try.results18, go_sem, c0, c1, c2, c3]) rfl ⟨rfl, put4_below HB3.out (by omega) (.string ⟨q.data.toArray⟩) (.int .i64 q.rd) (.int .i64 q.wr) (.int .i64 q.cap)⟩

set_option maxHeartbeats 4000000 in
theorem rclose8 (p : Pip) (hF : fitPip p = true) (reads : Bool) (w : World) :
    Calls Try.prog 17 #[.agg #[.string ⟨p.data.toArray⟩, .int .i64 p.rd, .int .i64 p.wr, .int .i64 p.cap], .bool reads] w fun e w' => e = .returned (.agg #[.string ⟨(closePip p reads).data.toArray⟩, .int .i64 (closePip p reads).rd, .int .i64 (closePip p reads).wr, .int .i64 (closePip p reads).cap]) ∧ Below w.heap.size w w' := by
  obtain ⟨g1, g2, g3, g4, g5, g6, g7⟩ := fit_pip.1 hF
  obtain ⟨D, hD⟩ : ∃ D : ByteArray, D = ⟨p.data.toArray⟩ := ⟨_, rfl⟩
  have HEND := Lib.hid (two_below w)
  unfold closePip
  cases reads with
  | true =>
    rw [if_pos rfl]
    have hwr : IntKind.i64.wrap (p.rd - 1) = p.rd - 1 := by rw [IntKind.wrap_i64]; omega
    by_cases h : 0 < p.rd
    · rw [if_pos h]
      have hd : decide (0 < p.rd) = true := decide_eq_true h
      rw [← hD]
      clear hD g1 g2 g3 g4 h
      go_enter Try.func17, Try.ntmps17
      go_wp2_with fail
      exact bodyPost_ret (v := (.agg #[.string D, .int .i64 (p.rd - 1), .int .i64 p.wr, .int .i64 p.cap])) (by simp [results, Try.results17, go_sem]) rfl ⟨rfl, HEND.out _ _⟩
    · rw [if_neg h]
      have hd : decide (0 < p.rd) = false := decide_eq_false h
      rw [← hD]
      clear hD g1 g2 g3 g4 h
      go_enter Try.func17, Try.ntmps17
      go_wp2_with fail
      exact bodyPost_ret (v := (.agg #[.string D, .int .i64 p.rd, .int .i64 p.wr, .int .i64 p.cap])) (by simp [results, Try.results17, go_sem]) rfl ⟨rfl, HEND.out _ _⟩
  | false =>
    rw [if_neg (by decide)]
    have hwr : IntKind.i64.wrap (p.wr - 1) = p.wr - 1 := by rw [IntKind.wrap_i64]; omega
    by_cases h : 0 < p.wr
    · rw [if_pos h]
      have hd : decide (0 < p.wr) = true := decide_eq_true h
      rw [← hD]
      clear hD g1 g2 g3 g4 h
      go_enter Try.func17, Try.ntmps17
      go_wp2_with fail
      exact bodyPost_ret (v := (.agg #[.string D, .int .i64 p.rd, .int .i64 (p.wr - 1), .int .i64 p.cap])) (by simp [results, Try.results17, go_sem]) rfl ⟨rfl, HEND.out _ _⟩
    · rw [if_neg h]
      have hd : decide (0 < p.wr) = false := decide_eq_false h
      rw [← hD]
      clear hD g1 g2 g3 g4 h
      go_enter Try.func17, Try.ntmps17
      go_wp2_with fail
      exact bodyPost_ret (v := (.agg #[.string D, .int .i64 p.rd, .int .i64 p.wr, .int .i64 p.cap])) (by simp [results, Try.results17, go_sem]) rfl ⟨rfl, HEND.out _ _⟩

set_option maxHeartbeats 4000000 in
theorem rdup8 (p : Pip) (hF : fitPip p = true) (reads : Bool) (w : World) :
    Calls Try.prog 19 #[.agg #[.string ⟨p.data.toArray⟩, .int .i64 p.rd, .int .i64 p.wr, .int .i64 p.cap], .bool reads] w fun e w' => e = .returned (.agg #[.string ⟨(dupPip p reads).data.toArray⟩, .int .i64 (dupPip p reads).rd, .int .i64 (dupPip p reads).wr, .int .i64 (dupPip p reads).cap]) ∧ Below w.heap.size w w' := by
  obtain ⟨g1, g2, g3, g4, g5, g6, g7⟩ := fit_pip.1 hF
  obtain ⟨D, hD⟩ : ∃ D : ByteArray, D = ⟨p.data.toArray⟩ := ⟨_, rfl⟩
  have HEND := Lib.hid (two_below w)
  unfold dupPip
  cases reads with
  | true =>
    rw [if_pos rfl]
    have hwr : IntKind.i64.wrap (p.rd + 1) = p.rd + 1 := by rw [IntKind.wrap_i64]; omega
    by_cases h : p.rd < 1000
    · rw [if_pos h]
      have hd : decide (p.rd < 1000) = true := decide_eq_true h
      rw [← hD]
      clear hD g1 g2 g3 g4 h
      go_enter Try.func19, Try.ntmps19
      go_wp2_with fail
      exact bodyPost_ret (v := (.agg #[.string D, .int .i64 (p.rd + 1), .int .i64 p.wr, .int .i64 p.cap])) (by simp [results, Try.results19, go_sem]) rfl ⟨rfl, HEND.out _ _⟩
    · rw [if_neg h]
      have hd : decide (p.rd < 1000) = false := decide_eq_false h
      rw [← hD]
      clear hD g1 g2 g3 g4 h
      go_enter Try.func19, Try.ntmps19
      go_wp2_with fail
      exact bodyPost_ret (v := (.agg #[.string D, .int .i64 p.rd, .int .i64 p.wr, .int .i64 p.cap])) (by simp [results, Try.results19, go_sem]) rfl ⟨rfl, HEND.out _ _⟩
  | false =>
    rw [if_neg (by decide)]
    have hwr : IntKind.i64.wrap (p.wr + 1) = p.wr + 1 := by rw [IntKind.wrap_i64]; omega
    by_cases h : p.wr < 1000
    · rw [if_pos h]
      have hd : decide (p.wr < 1000) = true := decide_eq_true h
      rw [← hD]
      clear hD g1 g2 g3 g4 h
      go_enter Try.func19, Try.ntmps19
      go_wp2_with fail
      exact bodyPost_ret (v := (.agg #[.string D, .int .i64 p.rd, .int .i64 (p.wr + 1), .int .i64 p.cap])) (by simp [results, Try.results19, go_sem]) rfl ⟨rfl, HEND.out _ _⟩
    · rw [if_neg h]
      have hd : decide (p.wr < 1000) = false := decide_eq_false h
      rw [← hD]
      clear hD g1 g2 g3 g4 h
      go_enter Try.func19, Try.ntmps19
      go_wp2_with fail
      exact bodyPost_ret (v := (.agg #[.string D, .int .i64 p.rd, .int .i64 p.wr, .int .i64 p.cap])) (by simp [results, Try.results19, go_sem]) rfl ⟨rfl, HEND.out _ _⟩

end Go.Proofs.Ytopgmboilimlhaa
