/-
  The law PipeEnds, walked.
-/
import Derived.Deep.RegionHeld3
import Derived.Deep.Cut
import Derived.Test.YtopgmboilimlhaaPAwake
import Derived.Test.YtopgmboilimlhaaPEq
namespace Go.Proofs.Ytopgmboilimlhaa
set_option maxRecDepth 100000
open Go Go.RowKit

theorem dup_same (p : Pip) (reads : Bool) : (dupPip p reads).data = p.data ∧ (dupPip p reads).cap = p.cap := by
  unfold dupPip
  split <;> split <;> exact ⟨rfl, rfl⟩
theorem dup_fit {p : Pip} (hF : fitPip p = true) (reads : Bool) : fitPip (dupPip p reads) = true := by
  have hf := fit_pip.1 hF
  obtain ⟨h1, h2⟩ := dup_same p reads
  refine fit_pip.2 ?_
  rw [h1, h2]
  unfold dupPip
  split <;> split <;> first | omega | (dsimp only; omega)
/-- The same fact at a world that differs by draws alone. -/
theorem below_next8 {n : Nat} {A B B' C : World} (h : Below n A B) (k : Below B'.heap.size B' C) (hn : n ≤ B.heap.size) (e : B'.os = B.os ∧ B'.tape = B.tape ∧ B'.output = B.output ∧ B'.heap = B.heap) : Below n A C := by
  have h' : Below n A B' := ⟨e.1.trans h.os, e.2.1.trans h.tape, e.2.2.1.trans h.output, by rw [e.2.2.2]; exact h.size, by rw [e.2.2.2]; exact h.block⟩
  exact h'.trans (k.mono (by rw [e.2.2.2]; exact hn))

set_option maxHeartbeats 8000000 in
theorem pends_walk (d : ByteArray) (r wr c : Int) (reads : Bool) (w : World) :
    Calls Try.prog 6 #[.agg #[.string d, .int .i64 r, .int .i64 wr, .int .i64 c], .bool reads] w fun e w' => e = .returned (.bool true) ∧ Below w.heap.size w w' := by
  obtain ⟨p, rfl, rfl, rfl, rfl⟩ : ∃ p : Pip, d = ⟨p.data.toArray⟩ ∧ r = p.rd ∧ wr = p.wr ∧ c = p.cap := ⟨⟨d.data.toList, r, wr, c⟩, by cases d; simp, rfl, rfl, rfl⟩
  obtain ⟨D, hD⟩ : ∃ D : ByteArray, D = ⟨p.data.toArray⟩ := ⟨_, rfl⟩
  have HD := Lib.hid hD
  rw [← hD]
  clear hD
  obtain ⟨w1, hw1⟩ : ∃ w1, w1 = w.alloc (.cells #[.string D, .int .i64 p.rd, .int .i64 p.wr, .int .i64 p.cap] 23) := ⟨_, rfl⟩
  have hb1 : Below w.heap.size w w1 := by rw [hw1]; exact below_box w _
  have hX : w1.heap[w.heap.size]? = some (.cells #[.string D, .int .i64 p.rd, .int .i64 p.wr, .int .i64 p.cap] 23 (0, 0)) := by rw [hw1]; exact new_block w _
  have hs1 : w1.heap.size = w.heap.size + 1 := by rw [hw1]; simp
  have HX := Lib.hid (show ∀ W, Below w1.heap.size w1 W → W.cell? ⟨w.heap.size, 0, none⟩ = some (.string D) ∧ W.cell? ⟨w.heap.size, 1, none⟩ = some (.int .i64 p.rd) ∧ W.cell? ⟨w.heap.size, 2, none⟩ = some (.int .i64 p.wr) ∧ W.cell? ⟨w.heap.size, 3, none⟩ = some (.int .i64 p.cap) from fun W hW => by
    have h := (hW.block w.heap.size (by omega)).trans hX
    exact ⟨blk_cell h 0, blk_cell h 1, blk_cell h 2, blk_cell h 3⟩)
  have HEND := Lib.hid (show ∀ W', Below w1.heap.size w1 W' → Below w.heap.size w W' from fun W' h => hb1.trans (h.mono (by omega)))
  have hsw : w.heap.size ≤ w1.heap.size := by omega
  clear hb1 hX hs1
  go_enter Try.func6, Try.ntmps6
  go_wp2_with fail
  rw [← hw1]
  clear hw1
  have HFIT := Lib.hid (show ∀ W, Calls Try.prog 10 #[.agg #[.string D, .int .i64 p.rd, .int .i64 p.wr, .int .i64 p.cap]] W fun e w' => e = .returned (.bool (fitPip p)) ∧ Below W.heap.size W w' from fun W => by rw [HD.out]; exact rfit8 p W)
  obtain ⟨v, hv⟩ : ∃ v, fitPip p = v := ⟨_, rfl⟩
  rw [hv] at HFIT
  refine (HFIT.out _).mono ?_
  rintro e w2 ⟨rfl, hb2⟩
  have HV := Lib.hid hv
  have HB2 := Lib.hid hb2
  obtain ⟨q0, q1, q2, q3⟩ := HX.out _ hb2
  have hq := cell_lt q0
  have hs2 := hb2.size
  clear hv hb2
  cases v with
  | false =>
    go_wp2_with (first | (go_at_call 11; refine (awake8 _).mono ?_; rintro e wz ⟨rfl, hbz⟩; have HBZ := Lib.hid (HB2.out.trans (hbz.mono HB2.out.size)); clear hbz) | fail)
    go_ret
    exact ⟨by rfl, HEND.out _ HBZ.out⟩
  | true =>
    have HF := Lib.hid HV.out
    by_cases h1 : 999 < p.rd
    · have hd1 : decide (999 < p.rd) = true := decide_eq_true h1
      go_wp2_with (first | (go_at_call 11; refine (awake8 _).mono ?_; rintro e wz ⟨rfl, hbz⟩; have HBZ := Lib.hid (HB2.out.trans (hbz.mono HB2.out.size)); clear hbz) | fail)
      go_ret
      exact ⟨by rfl, HEND.out _ HBZ.out⟩
    have hd1 : decide (999 < p.rd) = false := decide_eq_false h1
    by_cases h2 : 999 < p.wr
    · have hd2 : decide (999 < p.wr) = true := decide_eq_true h2
      go_wp2_with (first | (go_at_call 11; refine (awake8 _).mono ?_; rintro e wz ⟨rfl, hbz⟩; have HBZ := Lib.hid (HB2.out.trans (hbz.mono HB2.out.size)); clear hbz) | fail)
      go_ret
      exact ⟨by rfl, HEND.out _ HBZ.out⟩
    have hd2 : decide (999 < p.wr) = false := decide_eq_false h2
    have hf := fit_pip.1 HF.out
    obtain ⟨he1, he2⟩ := ends_pip HF.out (by omega) (by omega) reads
    obtain ⟨q, hq8⟩ : ∃ q, dupPip p reads = q := ⟨_, rfl⟩
    have hqF := dup_fit HF.out reads
    obtain ⟨hqd, hqc⟩ := dup_same p reads
    rw [hq8] at he1 he2 hqF hqd hqc
    have HDUP := Lib.hid (show ∀ W, Calls Try.prog 18 #[.agg #[.string D, .int .i64 p.rd, .int .i64 p.wr, .int .i64 p.cap], .bool reads] W fun e w' => e = .returned (.agg #[.string D, .int .i64 q.rd, .int .i64 q.wr, .int .i64 p.cap]) ∧ Below W.heap.size W w' from fun W => by
      have h := ldup8 p HF.out reads W
      rw [hq8, hqd, hqc, ← HD.out] at h
      exact h)
    have HCLO := Lib.hid (show ∀ W, Calls Try.prog 16 #[.agg #[.string D, .int .i64 q.rd, .int .i64 q.wr, .int .i64 p.cap], .bool reads] W fun e w' => e = .returned (.agg #[.string D, .int .i64 p.rd, .int .i64 p.wr, .int .i64 p.cap]) ∧ Below W.heap.size W w' from fun W => by
      have h := lclose8 q hqF reads W
      rw [he1, hqd, hqc, ← HD.out] at h
      exact h)
    have hqf := fit_pip.1 hqF
    have k1 : IntKind.i64.wrap (q.rd + q.wr) = p.rd + p.wr + 1 := by rw [IntKind.wrap_i64]; omega
    have k2 : IntKind.i64.wrap (p.rd + p.wr) = p.rd + p.wr := by rw [IntKind.wrap_i64]; omega
    have k3 : IntKind.i64.wrap (p.rd + p.wr + 1) = p.rd + p.wr + 1 := by rw [IntKind.wrap_i64]; omega
    have hE := fun W => eq_pip D p.rd p.wr p.cap W
    have hG := pip_guard
    clear hf hqf he1 he2 hqF hqd hqc hq8 h1 h2
    go_wp2_with fail
    clear q0 q1 q2 q3 hq
    refine (HDUP.out _).mono ?_
    rintro e w3 ⟨rfl, hb3⟩
    have HB3 := Lib.hid (HB2.out.trans (hb3.mono HB2.out.size))
    obtain ⟨w4, hw4⟩ : ∃ w4, w4 = w3.alloc (.cells #[.string D, .int .i64 q.rd, .int .i64 q.wr, .int .i64 p.cap] 23) := ⟨_, rfl⟩
    have hb4 : Below w3.heap.size w3 w4 := by rw [hw4]; exact below_box w3 _
    have hU : w4.heap[w3.heap.size]? = some (.cells #[.string D, .int .i64 q.rd, .int .i64 q.wr, .int .i64 p.cap] 23 (0, 0)) := by rw [hw4]; exact new_block w3 _
    have HB4 := Lib.hid (HB3.out.trans (hb4.mono HB3.out.size))
    have HU := Lib.hid (show ∀ W, Below w4.heap.size w4 W → W.cell? ⟨w3.heap.size, 0, none⟩ = some (.string D) ∧ W.cell? ⟨w3.heap.size, 1, none⟩ = some (.int .i64 q.rd) ∧ W.cell? ⟨w3.heap.size, 2, none⟩ = some (.int .i64 q.wr) ∧ W.cell? ⟨w3.heap.size, 3, none⟩ = some (.int .i64 p.cap) from fun W hW => by
      have h := (hW.block w3.heap.size (lt_of_block hU)).trans hU
      exact ⟨blk_cell h 0, blk_cell h 1, blk_cell h 2, blk_cell h 3⟩)
    clear hb3 hb4 hU
    go_upto_region 4 with fail
    rw [← hw4]
    clear hw4
    have HBB := Lib.hid (Below.refl w4.heap.size w4)
    obtain ⟨q0, q1, q2, q3⟩ := HX.out _ (HB4.out.trans (HBB.out.mono HB4.out.size))
    obtain ⟨u0, u1, u2, u3⟩ := HU.out _ HBB.out
    go_region_held3 (fun W => (W.cell? ⟨w.heap.size, 0, none⟩ = some (.string D) ∧ W.cell? ⟨w.heap.size, 1, none⟩ = some (.int .i64 p.rd) ∧ W.cell? ⟨w.heap.size, 2, none⟩ = some (.int .i64 p.wr) ∧ W.cell? ⟨w.heap.size, 3, none⟩ = some (.int .i64 p.cap)) ∧ (W.cell? ⟨w3.heap.size, 0, none⟩ = some (.string D) ∧ W.cell? ⟨w3.heap.size, 1, none⟩ = some (.int .i64 q.rd) ∧ W.cell? ⟨w3.heap.size, 2, none⟩ = some (.int .i64 q.wr) ∧ W.cell? ⟨w3.heap.size, 3, none⟩ = some (.int .i64 p.cap)))
      (exact ⟨⟨q0, q1, q2, q3⟩, ⟨u0, u1, u2, u3⟩⟩)
      (first
        | (go_at_call 16; refine (HCLO.out _).mono ?_; rintro e wn ⟨rfl, hbn⟩; have HBB : Hid (Below w4.heap.size w4 wn) := Lib.hid (below_next8 HBB.out hbn HBB.out.size ⟨rfl, rfl, rfl, rfl⟩); obtain ⟨q0, q1, q2, q3⟩ := HX.out _ (HB4.out.trans (HBB.out.mono HB4.out.size)); obtain ⟨u0, u1, u2, u3⟩ := HU.out _ HBB.out)
        | (go_at_call 11; refine (awake8 _).mono ?_; rintro e wn ⟨rfl, hbn⟩; have HBB : Hid (Below w4.heap.size w4 wn) := Lib.hid (below_next8 HBB.out hbn HBB.out.size ⟨rfl, rfl, rfl, rfl⟩); obtain ⟨q0, q1, q2, q3⟩ := HX.out _ (HB4.out.trans (HBB.out.mono HB4.out.size)); obtain ⟨u0, u1, u2, u3⟩ := HU.out _ HBB.out))
    all_goals
      go_wp2_with fail
      go_ret
      exact ⟨rfl, HEND.out _ (HB4.out.trans (HBB.out.mono HB4.out.size))⟩
end Go.Proofs.Ytopgmboilimlhaa
