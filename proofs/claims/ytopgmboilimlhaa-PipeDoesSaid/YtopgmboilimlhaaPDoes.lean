/-
  The law PipeDoes, walked.
-/
import Derived.Test.YtopgmboilimlhaaPEndsL
namespace Go.Proofs.Ytopgmboilimlhaa
set_option maxRecDepth 100000
open Go Go.RowKit

set_option maxHeartbeats 16000000 in
theorem pdoes_walk (d : ByteArray) (r wr c n : Int) (S : ByteArray) (reads : Bool) (hS : S.size ≤ 281474976710656) (w : World) :
    Calls Try.prog 3 #[.agg #[.string d, .int .i64 r, .int .i64 wr, .int .i64 c], .int .i64 n, .string S, .bool reads] w fun e w' => e = .returned (.bool true) ∧ Below w.heap.size w w' := by
  obtain ⟨p, rfl, rfl, rfl, rfl⟩ : ∃ p : Pip, d = ⟨p.data.toArray⟩ ∧ r = p.rd ∧ wr = p.wr ∧ c = p.cap := ⟨⟨d.data.toList, r, wr, c⟩, by cases d; simp, rfl, rfl, rfl⟩
  obtain ⟨D, hD⟩ : ∃ D : ByteArray, D = ⟨p.data.toArray⟩ := ⟨_, rfl⟩
  have HD := Lib.hid hD
  rw [← hD]
  clear hD
  obtain ⟨w1, hw1⟩ : ∃ w1, w1 = w.alloc (.cells #[.string D, .int .i64 p.rd, .int .i64 p.wr, .int .i64 p.cap] 23) := ⟨_, rfl⟩
  have hb1 : Below w.heap.size w w1 := by rw [hw1]; exact below_box w _
  have hX : w1.heap[w.heap.size]? = some (.cells #[.string D, .int .i64 p.rd, .int .i64 p.wr, .int .i64 p.cap] 23 (0, 0)) := by rw [hw1]; exact new_block w _
  have hs1 : w1.heap.size = w.heap.size + 1 := by rw [hw1]; simp
  have HX := Lib.hid (show ∀ W, Below w1.heap.size w1 W → W.cell? ⟨w.heap.size, 0, none⟩ = some (.string D) ∧ W.cell? ⟨w.heap.size, 1, none⟩ = some (.int .i64 p.rd) ∧ W.cell? ⟨w.heap.size, 2, none⟩ = some (.int .i64 p.wr) ∧ W.cell? ⟨w.heap.size, 3, none⟩ = some (.int .i64 p.cap) from fun W hW => by
    have h := (hW.block w.heap.size (by omega)).trans hX
    exact ⟨blk_cell h 0, blk_cell h 1, blk_cell h 2, blk_cell h 3⟩)
  have HEND := Lib.hid (show ∀ W', Below w1.heap.size w1 W' → Below w.heap.size w W' from fun W' h => hb1.trans (h.mono (by omega)))
  have hsw : w.heap.size ≤ w1.heap.size := by omega
  clear hb1 hX hs1
  have HFL := Lib.hid (show ∀ W, Calls Try.prog 9 #[.agg #[.string D, .int .i64 p.rd, .int .i64 p.wr, .int .i64 p.cap]] W fun e w' => e = .returned (.bool (fitPip p)) ∧ Below W.heap.size W w' from fun W => by rw [HD.out]; exact lfit8 p W)
  have HFR := Lib.hid (show ∀ W, Calls Try.prog 10 #[.agg #[.string D, .int .i64 p.rd, .int .i64 p.wr, .int .i64 p.cap]] W fun e w' => e = .returned (.bool (fitPip p)) ∧ Below W.heap.size W w' from fun W => by rw [HD.out]; exact rfit8 p W)
  obtain ⟨v, hv⟩ : ∃ v, fitPip p = v := ⟨_, rfl⟩
  rw [hv] at HFL HFR
  have HV := Lib.hid hv
  obtain ⟨⟨a, ea⟩, hza⟩ : ∃ z, newPip n = z := ⟨_, rfl⟩
  obtain ⟨DA, hDA⟩ : ∃ D : ByteArray, D = ⟨a.data.toArray⟩ := ⟨_, rfl⟩
  have HNL := Lib.hid (show ∀ W, Calls Try.prog 7 #[.int .i64 n] W fun e w' => e = .returned (.tuple #[.agg #[.string DA, .int .i64 a.rd, .int .i64 a.wr, .int .i64 a.cap], .int .i64 ea]) ∧ Below W.heap.size W w' from fun W => by rw [hDA]; exact lnew8 n a ea hza W)
  have HNR := Lib.hid (show ∀ W, Calls Try.prog 8 #[.int .i64 n] W fun e w' => e = .returned (.tuple #[.agg #[.string DA, .int .i64 a.rd, .int .i64 a.wr, .int .i64 a.cap], .int .i64 ea]) ∧ Below W.heap.size W w' from fun W => by rw [hDA]; exact rnew8 n a ea hza W)
  have hE := fun W => neq_pip DA a.rd a.wr a.cap W
  have hG := pip_guard
  have HB1 := Lib.hid (Below.refl w1.heap.size w1)
  clear hza hDA hv
  go_enter Try.func3, Try.ntmps3
  go_wp2_with fail
  rw [← hw1]
  clear hw1
  refine (HNL.out _).mono ?_
  rintro e w2 ⟨rfl, hb⟩
  have HB2 := Lib.hid (HB1.out.trans (hb.mono HB1.out.size))
  have HSw2 := Lib.hid hb
  clear hb
  obtain ⟨w3, hw3⟩ : ∃ z, z = w2.alloc (.cells #[.string DA, .int .i64 a.rd, .int .i64 a.wr, .int .i64 a.cap] 23) := ⟨_, rfl⟩
  have HB3 := Lib.hid (show Below w1.heap.size w1 w3 by rw [hw3]; exact HB2.out.alloc HB2.out.size _)
  have KA := Lib.hid (show ∀ W, Below w3.heap.size w3 W → W.cell? ⟨w2.heap.size, 0, none⟩ = some (.string DA) ∧ W.cell? ⟨w2.heap.size, 1, none⟩ = some (.int .i64 a.rd) ∧ W.cell? ⟨w2.heap.size, 2, none⟩ = some (.int .i64 a.wr) ∧ W.cell? ⟨w2.heap.size, 3, none⟩ = some (.int .i64 a.cap) from by
    have hX : w3.heap[w2.heap.size]? = some (.cells #[.string DA, .int .i64 a.rd, .int .i64 a.wr, .int .i64 a.cap] 23 (0, 0)) := by rw [hw3]; exact new_block w2 _
    intro W hW
    have h := (hW.block w2.heap.size (lt_of_block hX)).trans hX
    exact ⟨blk_cell h 0, blk_cell h 1, blk_cell h 2, blk_cell h 3⟩)
  have HSw3 := Lib.hid (show Below w2.heap.size w2 w3 by rw [hw3]; exact below_box w2 _)
  go_upto_region 2 with fail
  rw [← hw3]
  clear hw3
  go_wp2_with fail
  refine (HNR.out _).mono ?_
  rintro e w4 ⟨rfl, hb⟩
  have HB4 := Lib.hid (HB3.out.trans (hb.mono HB3.out.size))
  have HSw4 := Lib.hid hb
  clear hb
  obtain ⟨w5, hw5⟩ : ∃ z, z = w4.alloc (.cells #[.string DA, .int .i64 a.rd, .int .i64 a.wr, .int .i64 a.cap] 23) := ⟨_, rfl⟩
  have HB5 := Lib.hid (show Below w1.heap.size w1 w5 by rw [hw5]; exact HB4.out.alloc HB4.out.size _)
  have KB := Lib.hid (show ∀ W, Below w5.heap.size w5 W → W.cell? ⟨w4.heap.size, 0, none⟩ = some (.string DA) ∧ W.cell? ⟨w4.heap.size, 1, none⟩ = some (.int .i64 a.rd) ∧ W.cell? ⟨w4.heap.size, 2, none⟩ = some (.int .i64 a.wr) ∧ W.cell? ⟨w4.heap.size, 3, none⟩ = some (.int .i64 a.cap) from by
    have hX : w5.heap[w4.heap.size]? = some (.cells #[.string DA, .int .i64 a.rd, .int .i64 a.wr, .int .i64 a.cap] 23 (0, 0)) := by rw [hw5]; exact new_block w4 _
    intro W hW
    have h := (hW.block w4.heap.size (lt_of_block hX)).trans hX
    exact ⟨blk_cell h 0, blk_cell h 1, blk_cell h 2, blk_cell h 3⟩)
  have HSw5 := Lib.hid (show Below w4.heap.size w4 w5 by rw [hw5]; exact below_box w4 _)
  go_upto_region 3 with fail
  rw [← hw5]
  clear hw5
  have HBB := Lib.hid (Below.refl w5.heap.size w5)
  have HALL := Lib.hid (show ∀ W, Below w5.heap.size w5 W → (W.cell? ⟨w.heap.size, 0, none⟩ = some (.string D) ∧ W.cell? ⟨w.heap.size, 1, none⟩ = some (.int .i64 p.rd) ∧ W.cell? ⟨w.heap.size, 2, none⟩ = some (.int .i64 p.wr) ∧ W.cell? ⟨w.heap.size, 3, none⟩ = some (.int .i64 p.cap)) ∧ (W.cell? ⟨w2.heap.size, 0, none⟩ = some (.string DA) ∧ W.cell? ⟨w2.heap.size, 1, none⟩ = some (.int .i64 a.rd) ∧ W.cell? ⟨w2.heap.size, 2, none⟩ = some (.int .i64 a.wr) ∧ W.cell? ⟨w2.heap.size, 3, none⟩ = some (.int .i64 a.cap)) ∧ (W.cell? ⟨w4.heap.size, 0, none⟩ = some (.string DA) ∧ W.cell? ⟨w4.heap.size, 1, none⟩ = some (.int .i64 a.rd) ∧ W.cell? ⟨w4.heap.size, 2, none⟩ = some (.int .i64 a.wr) ∧ W.cell? ⟨w4.heap.size, 3, none⟩ = some (.int .i64 a.cap)) from fun W hW => ⟨HX.out _ (HB5.out.trans (hW.mono HB5.out.size)), KA.out _ ((HSw4.out.trans (HSw5.out.mono HSw4.out.size)).trans (hW.mono (Nat.le_trans HSw4.out.size HSw5.out.size))), KB.out _ hW⟩)
  obtain ⟨⟨q0, q1, q2, q3⟩, ⟨u0, u1, u2, u3⟩, ⟨x0, x1, x2, x3⟩⟩ := HALL.out _ HBB.out
  by_cases h1 : 100000 < (S.size : Int)
  · have hd1 : decide (100000 < (S.size : Int)) = true := decide_eq_true h1
    go_region_held3 (fun W => (W.cell? ⟨w.heap.size, 0, none⟩ = some (.string D) ∧ W.cell? ⟨w.heap.size, 1, none⟩ = some (.int .i64 p.rd) ∧ W.cell? ⟨w.heap.size, 2, none⟩ = some (.int .i64 p.wr) ∧ W.cell? ⟨w.heap.size, 3, none⟩ = some (.int .i64 p.cap)) ∧ (W.cell? ⟨w2.heap.size, 0, none⟩ = some (.string DA) ∧ W.cell? ⟨w2.heap.size, 1, none⟩ = some (.int .i64 a.rd) ∧ W.cell? ⟨w2.heap.size, 2, none⟩ = some (.int .i64 a.wr) ∧ W.cell? ⟨w2.heap.size, 3, none⟩ = some (.int .i64 a.cap)) ∧ (W.cell? ⟨w4.heap.size, 0, none⟩ = some (.string DA) ∧ W.cell? ⟨w4.heap.size, 1, none⟩ = some (.int .i64 a.rd) ∧ W.cell? ⟨w4.heap.size, 2, none⟩ = some (.int .i64 a.wr) ∧ W.cell? ⟨w4.heap.size, 3, none⟩ = some (.int .i64 a.cap)))
      (exact ⟨⟨q0, q1, q2, q3⟩, ⟨u0, u1, u2, u3⟩, ⟨x0, x1, x2, x3⟩⟩)
      (first
        | (go_at_call 9; refine (HFL.out _).mono ?_; rintro e wn ⟨rfl, hbn⟩; have HBB : Hid (Below w5.heap.size w5 wn) := Lib.hid (below_next8 HBB.out hbn HBB.out.size ⟨rfl, rfl, rfl, rfl⟩); obtain ⟨⟨q0, q1, q2, q3⟩, ⟨u0, u1, u2, u3⟩, ⟨x0, x1, x2, x3⟩⟩ := HALL.out _ HBB.out)
        | (go_at_call 10; refine (HFR.out _).mono ?_; rintro e wn ⟨rfl, hbn⟩; have HBB : Hid (Below w5.heap.size w5 wn) := Lib.hid (below_next8 HBB.out hbn HBB.out.size ⟨rfl, rfl, rfl, rfl⟩); obtain ⟨⟨q0, q1, q2, q3⟩, ⟨u0, u1, u2, u3⟩, ⟨x0, x1, x2, x3⟩⟩ := HALL.out _ HBB.out))
    all_goals
      have HB6 := Lib.hid (HB5.out.trans (HBB.out.mono HB5.out.size))
      clear q0 q1 q2 q3 u0 u1 u2 u3 x0 x1 x2 x3
      go_wp2_with (first | (go_at_call 11; refine (awake8 _).mono ?_; rintro e wz ⟨rfl, hbz⟩; have HBZ := Lib.hid (HB6.out.trans (hbz.mono HB6.out.size)); clear hbz) | fail)
      go_ret
      exact ⟨by rfl, HEND.out _ HBZ.out⟩
  · have hd1 : decide (100000 < (S.size : Int)) = false := decide_eq_false h1
    go_region_held3 (fun W => (W.cell? ⟨w.heap.size, 0, none⟩ = some (.string D) ∧ W.cell? ⟨w.heap.size, 1, none⟩ = some (.int .i64 p.rd) ∧ W.cell? ⟨w.heap.size, 2, none⟩ = some (.int .i64 p.wr) ∧ W.cell? ⟨w.heap.size, 3, none⟩ = some (.int .i64 p.cap)) ∧ (W.cell? ⟨w2.heap.size, 0, none⟩ = some (.string DA) ∧ W.cell? ⟨w2.heap.size, 1, none⟩ = some (.int .i64 a.rd) ∧ W.cell? ⟨w2.heap.size, 2, none⟩ = some (.int .i64 a.wr) ∧ W.cell? ⟨w2.heap.size, 3, none⟩ = some (.int .i64 a.cap)) ∧ (W.cell? ⟨w4.heap.size, 0, none⟩ = some (.string DA) ∧ W.cell? ⟨w4.heap.size, 1, none⟩ = some (.int .i64 a.rd) ∧ W.cell? ⟨w4.heap.size, 2, none⟩ = some (.int .i64 a.wr) ∧ W.cell? ⟨w4.heap.size, 3, none⟩ = some (.int .i64 a.cap)))
      (exact ⟨⟨q0, q1, q2, q3⟩, ⟨u0, u1, u2, u3⟩, ⟨x0, x1, x2, x3⟩⟩)
      (first
        | (go_at_call 9; refine (HFL.out _).mono ?_; rintro e wn ⟨rfl, hbn⟩; have HBB : Hid (Below w5.heap.size w5 wn) := Lib.hid (below_next8 HBB.out hbn HBB.out.size ⟨rfl, rfl, rfl, rfl⟩); obtain ⟨⟨q0, q1, q2, q3⟩, ⟨u0, u1, u2, u3⟩, ⟨x0, x1, x2, x3⟩⟩ := HALL.out _ HBB.out)
        | (go_at_call 10; refine (HFR.out _).mono ?_; rintro e wn ⟨rfl, hbn⟩; have HBB : Hid (Below w5.heap.size w5 wn) := Lib.hid (below_next8 HBB.out hbn HBB.out.size ⟨rfl, rfl, rfl, rfl⟩); obtain ⟨⟨q0, q1, q2, q3⟩, ⟨u0, u1, u2, u3⟩, ⟨x0, x1, x2, x3⟩⟩ := HALL.out _ HBB.out))
    all_goals
      have HB6 := Lib.hid (HB5.out.trans (HBB.out.mono HB5.out.size))
      clear u0 u1 u2 u3 x0 x1 x2 x3
      go_wp2_with fail
      clear q0 q1 q2 q3
      refine (HFR.out _).mono ?_
      rintro e w7 ⟨rfl, hb⟩
      have HB7 := Lib.hid (HB6.out.trans (hb.mono HB6.out.size))
      have HSw7 := Lib.hid hb
      clear hb
      obtain ⟨q0, q1, q2, q3⟩ := HX.out _ HB7.out
      cases v with
      | false =>
        go_wp2_with (first | (go_at_call 11; refine (awake8 _).mono ?_; rintro e wz ⟨rfl, hbz⟩; have HBZ := Lib.hid (HB7.out.trans (hbz.mono HB7.out.size)); clear hbz) | fail)
        go_ret
        exact ⟨by rfl, HEND.out _ HBZ.out⟩
      | true =>
        have HF := Lib.hid HV.out
        clear hE HNL HNR HALL KA KB
        obtain ⟨⟨qr, t, e1⟩, hzr⟩ : ∃ z, readPip p n = z := ⟨_, rfl⟩
        obtain ⟨⟨qw, k, e2⟩, hzw⟩ : ∃ z, writePip p S.data.toList = z := ⟨_, rfl⟩
        obtain ⟨DR, hDR⟩ : ∃ D : ByteArray, D = ⟨qr.data.toArray⟩ := ⟨_, rfl⟩
        obtain ⟨DW, hDW⟩ : ∃ D : ByteArray, D = ⟨qw.data.toArray⟩ := ⟨_, rfl⟩
        obtain ⟨TX, hTX⟩ : ∃ D : ByteArray, D = ⟨t.toArray⟩ := ⟨_, rfl⟩
        obtain ⟨qc, hqc⟩ : ∃ q, closePip p reads = q := ⟨_, rfl⟩
        obtain ⟨qd, hqd⟩ : ∃ q, dupPip p reads = q := ⟨_, rfl⟩
        obtain ⟨DC, hDC⟩ : ∃ D : ByteArray, D = ⟨qc.data.toArray⟩ := ⟨_, rfl⟩
        obtain ⟨DU, hDU⟩ : ∃ D : ByteArray, D = ⟨qd.data.toArray⟩ := ⟨_, rfl⟩
        have hw0 := (fit_pip.1 HF.out).2.2.1
        have HRL := Lib.hid (show ∀ W, Calls Try.prog 12 #[.agg #[.string D, .int .i64 p.rd, .int .i64 p.wr, .int .i64 p.cap], .int .i64 n] W fun e w' => e = .returned (.tuple #[.agg #[.string DR, .int .i64 qr.rd, .int .i64 qr.wr, .int .i64 qr.cap], .string TX, .int .i64 e1]) ∧ Below W.heap.size W w' from fun W => by rw [HD.out, hDR, hTX]; exact lread8 p hw0 n qr t e1 hzr W)
        have HRR := Lib.hid (show ∀ W, Calls Try.prog 13 #[.agg #[.string D, .int .i64 p.rd, .int .i64 p.wr, .int .i64 p.cap], .int .i64 n] W fun e w' => e = .returned (.tuple #[.agg #[.string DR, .int .i64 qr.rd, .int .i64 qr.wr, .int .i64 qr.cap], .string TX, .int .i64 e1]) ∧ Below W.heap.size W w' from fun W => by rw [HD.out, hDR, hTX]; exact rread8 p hw0 n qr t e1 hzr W)
        have HWL := Lib.hid (show ∀ W, Calls Try.prog 14 #[.agg #[.string D, .int .i64 p.rd, .int .i64 p.wr, .int .i64 p.cap], .string S] W fun e w' => e = .returned (.tuple #[.agg #[.string DW, .int .i64 qw.rd, .int .i64 qw.wr, .int .i64 qw.cap], .int .i64 k, .int .i64 e2]) ∧ Below W.heap.size W w' from fun W => by rw [HD.out, hDW]; exact lwrite8 p HF.out S hS qw k e2 hzw W)
        have HWR := Lib.hid (show ∀ W, Calls Try.prog 15 #[.agg #[.string D, .int .i64 p.rd, .int .i64 p.wr, .int .i64 p.cap], .string S] W fun e w' => e = .returned (.tuple #[.agg #[.string DW, .int .i64 qw.rd, .int .i64 qw.wr, .int .i64 qw.cap], .int .i64 k, .int .i64 e2]) ∧ Below W.heap.size W w' from fun W => by rw [HD.out, hDW]; exact rwrite8 p HF.out S hS qw k e2 hzw W)
        have HCL := Lib.hid (show ∀ W, Calls Try.prog 16 #[.agg #[.string D, .int .i64 p.rd, .int .i64 p.wr, .int .i64 p.cap], .bool reads] W fun e w' => e = .returned (.agg #[.string DC, .int .i64 qc.rd, .int .i64 qc.wr, .int .i64 qc.cap]) ∧ Below W.heap.size W w' from fun W => by rw [HD.out, hDC, ← hqc]; exact lclose8 p HF.out reads W)
        have HCR := Lib.hid (show ∀ W, Calls Try.prog 17 #[.agg #[.string D, .int .i64 p.rd, .int .i64 p.wr, .int .i64 p.cap], .bool reads] W fun e w' => e = .returned (.agg #[.string DC, .int .i64 qc.rd, .int .i64 qc.wr, .int .i64 qc.cap]) ∧ Below W.heap.size W w' from fun W => by rw [HD.out, hDC, ← hqc]; exact rclose8 p HF.out reads W)
        have HDL := Lib.hid (show ∀ W, Calls Try.prog 18 #[.agg #[.string D, .int .i64 p.rd, .int .i64 p.wr, .int .i64 p.cap], .bool reads] W fun e w' => e = .returned (.agg #[.string DU, .int .i64 qd.rd, .int .i64 qd.wr, .int .i64 qd.cap]) ∧ Below W.heap.size W w' from fun W => by rw [HD.out, hDU, ← hqd]; exact ldup8 p HF.out reads W)
        have HDR := Lib.hid (show ∀ W, Calls Try.prog 19 #[.agg #[.string D, .int .i64 p.rd, .int .i64 p.wr, .int .i64 p.cap], .bool reads] W fun e w' => e = .returned (.agg #[.string DU, .int .i64 qd.rd, .int .i64 qd.wr, .int .i64 qd.cap]) ∧ Below W.heap.size W w' from fun W => by rw [HD.out, hDU, ← hqd]; exact rdup8 p HF.out reads W)
        have HER := Lib.hid (fun W => eq_pip DR qr.rd qr.wr qr.cap W)
        have HEW := Lib.hid (fun W => eq_pip DW qw.rd qw.wr qw.cap W)
        have HEC := Lib.hid (fun W => eq_pip DC qc.rd qc.wr qc.cap W)
        have HED := Lib.hid (fun W => eq_pip DU qd.rd qd.wr qd.cap W)
        clear hzr hzw hDR hDW hTX hqc hqd hDC hDU hw0
        go_wp2_with fail
        clear q0 q1 q2 q3
        refine (HRL.out _).mono ?_
        rintro e w8 ⟨rfl, hb⟩
        have HB8 := Lib.hid (HB7.out.trans (hb.mono HB7.out.size))
        have HSw8 := Lib.hid hb
        clear hb
        obtain ⟨w9, hw9⟩ : ∃ z, z = w8.alloc (.cells #[.string DR, .int .i64 qr.rd, .int .i64 qr.wr, .int .i64 qr.cap] 23) := ⟨_, rfl⟩
        have HB9 := Lib.hid (show Below w1.heap.size w1 w9 by rw [hw9]; exact HB8.out.alloc HB8.out.size _)
        have K1 := Lib.hid (show ∀ W, Below w9.heap.size w9 W → W.cell? ⟨w8.heap.size, 0, none⟩ = some (.string DR) ∧ W.cell? ⟨w8.heap.size, 1, none⟩ = some (.int .i64 qr.rd) ∧ W.cell? ⟨w8.heap.size, 2, none⟩ = some (.int .i64 qr.wr) ∧ W.cell? ⟨w8.heap.size, 3, none⟩ = some (.int .i64 qr.cap) from by
          have hX : w9.heap[w8.heap.size]? = some (.cells #[.string DR, .int .i64 qr.rd, .int .i64 qr.wr, .int .i64 qr.cap] 23 (0, 0)) := by rw [hw9]; exact new_block w8 _
          intro W hW
          have h := (hW.block w8.heap.size (lt_of_block hX)).trans hX
          exact ⟨blk_cell h 0, blk_cell h 1, blk_cell h 2, blk_cell h 3⟩)
        have HSw9 := Lib.hid (show Below w8.heap.size w8 w9 by rw [hw9]; exact below_box w8 _)
        obtain ⟨q0, q1, q2, q3⟩ := HX.out _ HB9.out
        go_upto_region 8 with fail
        rw [← hw9]
        clear hw9
        go_wp2_with fail
        clear q0 q1 q2 q3
        refine (HRR.out _).mono ?_
        rintro e w10 ⟨rfl, hb⟩
        have HB10 := Lib.hid (HB9.out.trans (hb.mono HB9.out.size))
        have HSw10 := Lib.hid hb
        clear hb
        obtain ⟨w11, hw11⟩ : ∃ z, z = w10.alloc (.cells #[.string DR, .int .i64 qr.rd, .int .i64 qr.wr, .int .i64 qr.cap] 23) := ⟨_, rfl⟩
        have HB11 := Lib.hid (show Below w1.heap.size w1 w11 by rw [hw11]; exact HB10.out.alloc HB10.out.size _)
        have K2 := Lib.hid (show ∀ W, Below w11.heap.size w11 W → W.cell? ⟨w10.heap.size, 0, none⟩ = some (.string DR) ∧ W.cell? ⟨w10.heap.size, 1, none⟩ = some (.int .i64 qr.rd) ∧ W.cell? ⟨w10.heap.size, 2, none⟩ = some (.int .i64 qr.wr) ∧ W.cell? ⟨w10.heap.size, 3, none⟩ = some (.int .i64 qr.cap) from by
          have hX : w11.heap[w10.heap.size]? = some (.cells #[.string DR, .int .i64 qr.rd, .int .i64 qr.wr, .int .i64 qr.cap] 23 (0, 0)) := by rw [hw11]; exact new_block w10 _
          intro W hW
          have h := (hW.block w10.heap.size (lt_of_block hX)).trans hX
          exact ⟨blk_cell h 0, blk_cell h 1, blk_cell h 2, blk_cell h 3⟩)
        have HSw11 := Lib.hid (show Below w10.heap.size w10 w11 by rw [hw11]; exact below_box w10 _)
        obtain ⟨q0, q1, q2, q3⟩ := HX.out _ HB11.out
        go_upto_region 9 with fail
        rw [← hw11]
        clear hw11
        go_wp2_with fail
        clear q0 q1 q2 q3
        refine (HWL.out _).mono ?_
        rintro e w12 ⟨rfl, hb⟩
        have HB12 := Lib.hid (HB11.out.trans (hb.mono HB11.out.size))
        have HSw12 := Lib.hid hb
        clear hb
        obtain ⟨w13, hw13⟩ : ∃ z, z = w12.alloc (.cells #[.string DW, .int .i64 qw.rd, .int .i64 qw.wr, .int .i64 qw.cap] 23) := ⟨_, rfl⟩
        have HB13 := Lib.hid (show Below w1.heap.size w1 w13 by rw [hw13]; exact HB12.out.alloc HB12.out.size _)
        have K3 := Lib.hid (show ∀ W, Below w13.heap.size w13 W → W.cell? ⟨w12.heap.size, 0, none⟩ = some (.string DW) ∧ W.cell? ⟨w12.heap.size, 1, none⟩ = some (.int .i64 qw.rd) ∧ W.cell? ⟨w12.heap.size, 2, none⟩ = some (.int .i64 qw.wr) ∧ W.cell? ⟨w12.heap.size, 3, none⟩ = some (.int .i64 qw.cap) from by
          have hX : w13.heap[w12.heap.size]? = some (.cells #[.string DW, .int .i64 qw.rd, .int .i64 qw.wr, .int .i64 qw.cap] 23 (0, 0)) := by rw [hw13]; exact new_block w12 _
          intro W hW
          have h := (hW.block w12.heap.size (lt_of_block hX)).trans hX
          exact ⟨blk_cell h 0, blk_cell h 1, blk_cell h 2, blk_cell h 3⟩)
        have HSw13 := Lib.hid (show Below w12.heap.size w12 w13 by rw [hw13]; exact below_box w12 _)
        obtain ⟨q0, q1, q2, q3⟩ := HX.out _ HB13.out
        go_upto_region 10 with fail
        rw [← hw13]
        clear hw13
        go_wp2_with fail
        clear q0 q1 q2 q3
        refine (HWR.out _).mono ?_
        rintro e w14 ⟨rfl, hb⟩
        have HB14 := Lib.hid (HB13.out.trans (hb.mono HB13.out.size))
        have HSw14 := Lib.hid hb
        clear hb
        obtain ⟨w15, hw15⟩ : ∃ z, z = w14.alloc (.cells #[.string DW, .int .i64 qw.rd, .int .i64 qw.wr, .int .i64 qw.cap] 23) := ⟨_, rfl⟩
        have HB15 := Lib.hid (show Below w1.heap.size w1 w15 by rw [hw15]; exact HB14.out.alloc HB14.out.size _)
        have K4 := Lib.hid (show ∀ W, Below w15.heap.size w15 W → W.cell? ⟨w14.heap.size, 0, none⟩ = some (.string DW) ∧ W.cell? ⟨w14.heap.size, 1, none⟩ = some (.int .i64 qw.rd) ∧ W.cell? ⟨w14.heap.size, 2, none⟩ = some (.int .i64 qw.wr) ∧ W.cell? ⟨w14.heap.size, 3, none⟩ = some (.int .i64 qw.cap) from by
          have hX : w15.heap[w14.heap.size]? = some (.cells #[.string DW, .int .i64 qw.rd, .int .i64 qw.wr, .int .i64 qw.cap] 23 (0, 0)) := by rw [hw15]; exact new_block w14 _
          intro W hW
          have h := (hW.block w14.heap.size (lt_of_block hX)).trans hX
          exact ⟨blk_cell h 0, blk_cell h 1, blk_cell h 2, blk_cell h 3⟩)
        have HSw15 := Lib.hid (show Below w14.heap.size w14 w15 by rw [hw15]; exact below_box w14 _)
        obtain ⟨q0, q1, q2, q3⟩ := HX.out _ HB15.out
        go_upto_region 11 with fail
        rw [← hw15]
        clear hw15
        clear q0 q1 q2 q3
        have HBB := Lib.hid (Below.refl w15.heap.size w15)
        have B13 := Lib.hid (HSw14.out.trans (HSw15.out.mono HSw14.out.size))
        have B11 := Lib.hid ((HSw12.out.trans (HSw13.out.mono HSw12.out.size)).trans (B13.out.mono (Nat.le_trans HSw12.out.size HSw13.out.size)))
        have B9 := Lib.hid ((HSw10.out.trans (HSw11.out.mono HSw10.out.size)).trans (B11.out.mono (Nat.le_trans HSw10.out.size HSw11.out.size)))
        have HALL := Lib.hid (show ∀ W, Below w15.heap.size w15 W → (W.cell? ⟨w.heap.size, 0, none⟩ = some (.string D) ∧ W.cell? ⟨w.heap.size, 1, none⟩ = some (.int .i64 p.rd) ∧ W.cell? ⟨w.heap.size, 2, none⟩ = some (.int .i64 p.wr) ∧ W.cell? ⟨w.heap.size, 3, none⟩ = some (.int .i64 p.cap)) ∧ (W.cell? ⟨w8.heap.size, 0, none⟩ = some (.string DR) ∧ W.cell? ⟨w8.heap.size, 1, none⟩ = some (.int .i64 qr.rd) ∧ W.cell? ⟨w8.heap.size, 2, none⟩ = some (.int .i64 qr.wr) ∧ W.cell? ⟨w8.heap.size, 3, none⟩ = some (.int .i64 qr.cap)) ∧ (W.cell? ⟨w10.heap.size, 0, none⟩ = some (.string DR) ∧ W.cell? ⟨w10.heap.size, 1, none⟩ = some (.int .i64 qr.rd) ∧ W.cell? ⟨w10.heap.size, 2, none⟩ = some (.int .i64 qr.wr) ∧ W.cell? ⟨w10.heap.size, 3, none⟩ = some (.int .i64 qr.cap)) ∧ (W.cell? ⟨w12.heap.size, 0, none⟩ = some (.string DW) ∧ W.cell? ⟨w12.heap.size, 1, none⟩ = some (.int .i64 qw.rd) ∧ W.cell? ⟨w12.heap.size, 2, none⟩ = some (.int .i64 qw.wr) ∧ W.cell? ⟨w12.heap.size, 3, none⟩ = some (.int .i64 qw.cap)) ∧ (W.cell? ⟨w14.heap.size, 0, none⟩ = some (.string DW) ∧ W.cell? ⟨w14.heap.size, 1, none⟩ = some (.int .i64 qw.rd) ∧ W.cell? ⟨w14.heap.size, 2, none⟩ = some (.int .i64 qw.wr) ∧ W.cell? ⟨w14.heap.size, 3, none⟩ = some (.int .i64 qw.cap)) from fun W hW => ⟨HX.out _ (HB15.out.trans (hW.mono HB15.out.size)), K1.out _ (B9.out.trans (hW.mono B9.out.size)), K2.out _ (B11.out.trans (hW.mono B11.out.size)), K3.out _ (B13.out.trans (hW.mono B13.out.size)), K4.out _ hW⟩)
        have hER := HER.out
        have hEW := HEW.out
        have hEC := HEC.out
        have hED := HED.out
        obtain ⟨⟨q0, q1, q2, q3⟩, ⟨a0, a1, a2, a3⟩, ⟨b0, b1, b2, b3⟩, ⟨c0, c1, c2, c3⟩, ⟨d0, d1, d2, d3⟩⟩ := HALL.out _ HBB.out
        go_region_held3 (fun W => (W.cell? ⟨w.heap.size, 0, none⟩ = some (.string D) ∧ W.cell? ⟨w.heap.size, 1, none⟩ = some (.int .i64 p.rd) ∧ W.cell? ⟨w.heap.size, 2, none⟩ = some (.int .i64 p.wr) ∧ W.cell? ⟨w.heap.size, 3, none⟩ = some (.int .i64 p.cap)) ∧ (W.cell? ⟨w8.heap.size, 0, none⟩ = some (.string DR) ∧ W.cell? ⟨w8.heap.size, 1, none⟩ = some (.int .i64 qr.rd) ∧ W.cell? ⟨w8.heap.size, 2, none⟩ = some (.int .i64 qr.wr) ∧ W.cell? ⟨w8.heap.size, 3, none⟩ = some (.int .i64 qr.cap)) ∧ (W.cell? ⟨w10.heap.size, 0, none⟩ = some (.string DR) ∧ W.cell? ⟨w10.heap.size, 1, none⟩ = some (.int .i64 qr.rd) ∧ W.cell? ⟨w10.heap.size, 2, none⟩ = some (.int .i64 qr.wr) ∧ W.cell? ⟨w10.heap.size, 3, none⟩ = some (.int .i64 qr.cap)) ∧ (W.cell? ⟨w12.heap.size, 0, none⟩ = some (.string DW) ∧ W.cell? ⟨w12.heap.size, 1, none⟩ = some (.int .i64 qw.rd) ∧ W.cell? ⟨w12.heap.size, 2, none⟩ = some (.int .i64 qw.wr) ∧ W.cell? ⟨w12.heap.size, 3, none⟩ = some (.int .i64 qw.cap)) ∧ (W.cell? ⟨w14.heap.size, 0, none⟩ = some (.string DW) ∧ W.cell? ⟨w14.heap.size, 1, none⟩ = some (.int .i64 qw.rd) ∧ W.cell? ⟨w14.heap.size, 2, none⟩ = some (.int .i64 qw.wr) ∧ W.cell? ⟨w14.heap.size, 3, none⟩ = some (.int .i64 qw.cap)))
          (exact ⟨⟨q0, q1, q2, q3⟩, ⟨a0, a1, a2, a3⟩, ⟨b0, b1, b2, b3⟩, ⟨c0, c1, c2, c3⟩, ⟨d0, d1, d2, d3⟩⟩)
          (first
            | (go_at_call 16; refine (HCL.out _).mono ?_; rintro e wn ⟨rfl, hbn⟩; have HBB : Hid (Below w15.heap.size w15 wn) := Lib.hid (below_next8 HBB.out hbn HBB.out.size ⟨rfl, rfl, rfl, rfl⟩); obtain ⟨⟨q0, q1, q2, q3⟩, ⟨a0, a1, a2, a3⟩, ⟨b0, b1, b2, b3⟩, ⟨c0, c1, c2, c3⟩, ⟨d0, d1, d2, d3⟩⟩ := HALL.out _ HBB.out)
            | (go_at_call 17; refine (HCR.out _).mono ?_; rintro e wn ⟨rfl, hbn⟩; have HBB : Hid (Below w15.heap.size w15 wn) := Lib.hid (below_next8 HBB.out hbn HBB.out.size ⟨rfl, rfl, rfl, rfl⟩); obtain ⟨⟨q0, q1, q2, q3⟩, ⟨a0, a1, a2, a3⟩, ⟨b0, b1, b2, b3⟩, ⟨c0, c1, c2, c3⟩, ⟨d0, d1, d2, d3⟩⟩ := HALL.out _ HBB.out)
            | (go_at_call 18; refine (HDL.out _).mono ?_; rintro e wn ⟨rfl, hbn⟩; have HBB : Hid (Below w15.heap.size w15 wn) := Lib.hid (below_next8 HBB.out hbn HBB.out.size ⟨rfl, rfl, rfl, rfl⟩); obtain ⟨⟨q0, q1, q2, q3⟩, ⟨a0, a1, a2, a3⟩, ⟨b0, b1, b2, b3⟩, ⟨c0, c1, c2, c3⟩, ⟨d0, d1, d2, d3⟩⟩ := HALL.out _ HBB.out)
            | (go_at_call 19; refine (HDR.out _).mono ?_; rintro e wn ⟨rfl, hbn⟩; have HBB : Hid (Below w15.heap.size w15 wn) := Lib.hid (below_next8 HBB.out hbn HBB.out.size ⟨rfl, rfl, rfl, rfl⟩); obtain ⟨⟨q0, q1, q2, q3⟩, ⟨a0, a1, a2, a3⟩, ⟨b0, b1, b2, b3⟩, ⟨c0, c1, c2, c3⟩, ⟨d0, d1, d2, d3⟩⟩ := HALL.out _ HBB.out)
            | (go_at_call 11; refine (awake8 _).mono ?_; rintro e wn ⟨rfl, hbn⟩; have HBB : Hid (Below w15.heap.size w15 wn) := Lib.hid (below_next8 HBB.out hbn HBB.out.size ⟨rfl, rfl, rfl, rfl⟩); obtain ⟨⟨q0, q1, q2, q3⟩, ⟨a0, a1, a2, a3⟩, ⟨b0, b1, b2, b3⟩, ⟨c0, c1, c2, c3⟩, ⟨d0, d1, d2, d3⟩⟩ := HALL.out _ HBB.out))
        all_goals
          go_wp2_with fail
          go_ret
          exact ⟨rfl, HEND.out _ (HB15.out.trans (HBB.out.mono HB15.out.size))⟩
end Go.Proofs.Ytopgmboilimlhaa
