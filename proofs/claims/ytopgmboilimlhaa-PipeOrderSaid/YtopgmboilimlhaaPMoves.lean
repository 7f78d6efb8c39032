/-
  The law PipeMoves, walked.
-/
import Derived.Deep.Cut
import Derived.Test.YtopgmboilimlhaaPAwake
namespace Go.Proofs.Ytopgmboilimlhaa
set_option maxRecDepth 100000
open Go Go.RowKit

theorem read_moves (p : Pip) (n : Int) {q : Pip} {t : List UInt8} {e : Int} (hz : readPip p n = (q, t, e)) : (n < 1 → e = 22) ∧ (1 ≤ n → p.data ≠ [] → e = 0 ∧ t ≠ []) ∧ (1 ≤ n → p.data = [] → t = [] ∧ (p.wr = 0 → e = 0) ∧ (p.wr ≠ 0 → e = 11)) := by
  unfold readPip at hz
  split at hz
  · rename_i h
    simp only [Prod.mk.injEq] at hz
    exact ⟨fun _ => hz.2.2.symm, fun h2 => by omega, fun h2 => by omega⟩
  · rename_i h
    split at hz
    · rename_i he
      refine ⟨fun h2 => absurd h2 h, fun _ h2 => absurd he h2, fun _ _ => ?_⟩
      split at hz
      · rename_i hw
        simp only [Prod.mk.injEq] at hz
        exact ⟨hz.2.1.symm, fun _ => hz.2.2.symm, fun h2 => absurd hw h2⟩
      · rename_i hw
        simp only [Prod.mk.injEq] at hz
        exact ⟨hz.2.1.symm, fun h2 => absurd h2 hw, fun _ => hz.2.2.symm⟩
    · rename_i he
      simp only [Prod.mk.injEq] at hz
      refine ⟨fun h2 => absurd h2 h, fun h2 _ => ⟨hz.2.2.symm, ?_⟩, fun _ h2 => absurd h2 he⟩
      rw [← hz.2.1]
      intro h3
      have := congrArg List.length h3
      rw [List.length_take] at this
      have h4 := List.length_pos_iff.2 he
      simp only [List.length_nil] at this
      omega
theorem write_moves {p : Pip} (hF : fitPip p = true) (s : List UInt8) {q : Pip} {k e : Int} (hz : writePip p s = (q, k, e)) :
    (p.rd = 0 ∧ e = 32) ∨ (p.rd ≠ 0 ∧ s = [] ∧ e = 0) ∨ (p.rd ≠ 0 ∧ s ≠ [] ∧ e = 11 ∧ (p.data.length : Int) = p.cap) ∨ (p.rd ≠ 0 ∧ s ≠ [] ∧ e = 0 ∧ (p.data.length : Int) < p.cap ∧ 1 ≤ k) := by
  have hf := fit_pip.1 hF
  unfold writePip at hz
  split at hz
  · rename_i h
    simp only [Prod.mk.injEq] at hz
    exact .inl ⟨h, hz.2.2.symm⟩
  · rename_i h
    split at hz
    · rename_i h2
      simp only [Prod.mk.injEq] at hz
      exact .inr (.inl ⟨h, h2, hz.2.2.symm⟩)
    · rename_i h2
      split at hz
      · rename_i h3
        simp only [Prod.mk.injEq] at hz
        exact .inr (.inr (.inl ⟨h, h2, hz.2.2.symm, by omega⟩))
      · rename_i h3
        simp only [Prod.mk.injEq] at hz
        have h4 := List.length_pos_iff.2 h2
        exact .inr (.inr (.inr ⟨h, h2, hz.2.2.symm, by omega, by omega⟩))

set_option maxHeartbeats 16000000 in
theorem pmoves_walk (d : ByteArray) (r wr c n : Int) (S : ByteArray) (hS : S.size ≤ 281474976710656) (w : World) :
    Calls Try.prog 5 #[.agg #[.string d, .int .i64 r, .int .i64 wr, .int .i64 c], .int .i64 n, .string S] w fun e w' => e = .returned (.bool true) ∧ Below w.heap.size w w' := by
  obtain ⟨p, rfl, rfl, rfl, rfl⟩ : ∃ p : Pip, d = ⟨p.data.toArray⟩ ∧ r = p.rd ∧ wr = p.wr ∧ c = p.cap := ⟨⟨d.data.toList, r, wr, c⟩, by cases d; simp, rfl, rfl, rfl⟩
  obtain ⟨D, hD⟩ : ∃ D : ByteArray, D = ⟨p.data.toArray⟩ := ⟨_, rfl⟩
  have HD := Lib.hid hD
  rw [← hD]
  clear hD
  obtain ⟨w1, hw1⟩ : ∃ w1, w1 = w.alloc (.cells #[.string D, .int .i64 p.rd, .int .i64 p.wr, .int .i64 p.cap] 23) := ⟨_, rfl⟩
  have hb1 : Below w.heap.size w w1 := by rw [hw1]; exact below_box w _
  have hX : w1.heap[w.heap.size]? = some (.cells #[.string D, .int .i64 p.rd, .int .i64 p.wr, .int .i64 p.cap] 23 (0, 0)) := by rw [hw1]; exact new_block w _
  have hs1 : w1.heap.size = w.heap.size + 1 := by rw [hw1]; simp
  have HX := Lib.hid (show ∀ W, Below w1.heap.size w1 W → W.cell? ⟨w.heap.size, 0, none⟩ = some (.string D) ∧ W.cell? ⟨w.heap.size, 1, none⟩ = some (.int .i64 p.rd) ∧ W.cell? ⟨w.heap.size, 2, none⟩ = some (.int .i64 p.wr) ∧ W.cell? ⟨w.heap.size, 3, none⟩ = some (.int .i64 p.cap) from fun W hW => by
    have h := (hW.block w.heap.size (by omega)).trans hX
    exact ⟨blk_cell h 0, blk_cell h 1, blk_cell h 2, blk_cell h 3⟩)
  have HEND := Lib.hid (show ∀ W', Below w1.heap.size w1 W' → Below w.heap.size w W' from fun W' h => hb1.trans (h.mono (by omega)))
  have hsw : w.heap.size ≤ w1.heap.size := by omega
  clear hb1 hX hs1
  have HFIT := Lib.hid (show ∀ W, Calls Try.prog 10 #[.agg #[.string D, .int .i64 p.rd, .int .i64 p.wr, .int .i64 p.cap]] W fun e w' => e = .returned (.bool (fitPip p)) ∧ Below W.heap.size W w' from fun W => by rw [HD.out]; exact rfit8 p W)
  obtain ⟨v, hv⟩ : ∃ v, fitPip p = v := ⟨_, rfl⟩
  rw [hv] at HFIT
  go_enter Try.func5, Try.ntmps5
  go_wp2_with fail
  rw [← hw1]
  clear hw1
  refine (HFIT.out _).mono ?_
  rintro e w2 ⟨rfl, hb2⟩
  have HV := Lib.hid hv
  have HB2 := Lib.hid hb2
  obtain ⟨q0, q1, q2, q3⟩ := HX.out _ hb2
  have hq := cell_lt q0
  have hs2 := hb2.size
  clear hv hb2
  cases v with
  | false =>
    go_wp2_with (first | (go_at_call 11; refine (awake8 _).mono ?_; rintro e wz ⟨rfl, hbz⟩; have HBZ := Lib.hid (HB2.out.trans (hbz.mono HB2.out.size)); clear hbz) | fail)
    go_ret
    exact ⟨by rfl, HEND.out _ HBZ.out⟩
  | true =>
    have HF := Lib.hid HV.out
    by_cases h1 : 100000 < (S.size : Int)
    · have hd1 : decide (100000 < (S.size : Int)) = true := decide_eq_true h1
      go_wp2_with (first | (go_at_call 11; refine (awake8 _).mono ?_; rintro e wz ⟨rfl, hbz⟩; have HBZ := Lib.hid (HB2.out.trans (hbz.mono HB2.out.size)); clear hbz) | fail)
      go_ret
      exact ⟨by rfl, HEND.out _ HBZ.out⟩
    have hd1 : decide (100000 < (S.size : Int)) = false := decide_eq_false h1
    obtain ⟨⟨q, k, e1⟩, hzw⟩ : ∃ z, writePip p S.data.toList = z := ⟨_, rfl⟩
    obtain ⟨⟨qr, t, e2⟩, hzr⟩ : ∃ z, readPip p n = z := ⟨_, rfl⟩
    obtain ⟨DQ, hDQ⟩ : ∃ D : ByteArray, D = ⟨q.data.toArray⟩ := ⟨_, rfl⟩
    obtain ⟨DR, hDR⟩ : ∃ D : ByteArray, D = ⟨qr.data.toArray⟩ := ⟨_, rfl⟩
    obtain ⟨TX, hTX⟩ : ∃ D : ByteArray, D = ⟨t.toArray⟩ := ⟨_, rfl⟩
    have HW := Lib.hid (show ∀ W, Calls Try.prog 14 #[.agg #[.string D, .int .i64 p.rd, .int .i64 p.wr, .int .i64 p.cap], .string S] W fun e w' => e = .returned (.tuple #[.agg #[.string DQ, .int .i64 q.rd, .int .i64 q.wr, .int .i64 q.cap], .int .i64 k, .int .i64 e1]) ∧ Below W.heap.size W w' from fun W => by rw [HD.out, hDQ]; exact lwrite8 p HF.out S hS q k e1 hzw W)
    have HR := Lib.hid (show ∀ W, Calls Try.prog 12 #[.agg #[.string D, .int .i64 p.rd, .int .i64 p.wr, .int .i64 p.cap], .int .i64 n] W fun e w' => e = .returned (.tuple #[.agg #[.string DR, .int .i64 qr.rd, .int .i64 qr.wr, .int .i64 qr.cap], .string TX, .int .i64 e2]) ∧ Below W.heap.size W w' from fun W => by rw [HD.out, hDR, hTX]; exact lread8 p (fit_pip.1 HF.out).2.2.1 n qr t e2 hzr W)
    obtain ⟨m1, m2, m3⟩ := read_moves p n hzr
    have M1 := Lib.hid m1
    have M2 := Lib.hid m2
    have M3 := Lib.hid m3
    have HT := Lib.hid (show TX.data.toList = t by rw [hTX])
    have HDL := Lib.hid (data_text HD.out)
    have WM := Lib.hid (write_moves HF.out _ hzw)
    have HRD := Lib.hid (fit_pip.1 HF.out).1
    clear hzw hzr hDQ hDR hTX m1 m2 m3 h1
    go_wp2_with fail
    clear q0 q1 q2 q3 hq
    refine (HW.out _).mono ?_
    rintro e w3 ⟨rfl, hb3⟩
    have HB3 := Lib.hid (HB2.out.trans (hb3.mono HB2.out.size))
    obtain ⟨w4, hw4⟩ : ∃ w4, w4 = w3.alloc (.cells #[.string DQ, .int .i64 q.rd, .int .i64 q.wr, .int .i64 q.cap] 23) := ⟨_, rfl⟩
    have HB4 := Lib.hid (show Below w1.heap.size w1 w4 by rw [hw4]; exact HB3.out.alloc HB3.out.size _)
    clear hb3
    go_upto_region 4 with fail
    rw [← hw4]
    clear hw4
    obtain ⟨q0, q1, q2, q3⟩ := HX.out _ HB4.out
    have hq := cell_lt q0
    rcases WM.out with ⟨hr, he1⟩ | ⟨hr, hs, he1⟩ | ⟨hr, hs, he1, hl⟩ | ⟨hr, hs, he1, hl, hk⟩
    · subst he1
      have hrd : decide (0 < p.rd) = false := decide_eq_false (by omega)
      have hre : (p.rd == 0) = true := by simpa using hr
      clear hr
      by_cases hs : S.data.toList = []
      · have hS0 := text_nil hs
        subst hS0
        clear hs
        go_wp2_with fail
        clear q0 q1 q2 q3 hq
        refine (HR.out _).mono ?_
        rintro e w5 ⟨rfl, hb5⟩
        have HB5 := Lib.hid (HB4.out.trans (hb5.mono HB4.out.size))
        obtain ⟨w6, hw6⟩ : ∃ w6, w6 = w5.alloc (.cells #[.string DR, .int .i64 qr.rd, .int .i64 qr.wr, .int .i64 qr.cap] 23) := ⟨_, rfl⟩
        have HB6 := Lib.hid (show Below w1.heap.size w1 w6 by rw [hw6]; exact HB5.out.alloc HB5.out.size _)
        clear hb5
        go_upto_region 7 with fail
        rw [← hw6]
        clear hw6
        obtain ⟨q0, q1, q2, q3⟩ := HX.out _ HB6.out
        have hq := cell_lt q0
        by_cases hn : n < 1
        · have hnd : decide (n < 1) = true := decide_eq_true hn
          have he2 := M1.out hn
          subst he2
          go_wp2_with (first | (go_at_call 11; refine (awake8 _).mono ?_; rintro e wz ⟨rfl, hbz⟩; have HBZ := Lib.hid (HB6.out.trans (hbz.mono HB6.out.size)); clear hbz) | fail)
          go_ret
          exact ⟨by rfl, HEND.out _ HBZ.out⟩
        have hnd : decide (n < 1) = false := decide_eq_false hn
        by_cases he : p.data = []
        · obtain ⟨ht, hw0, hw1⟩ := M3.out (by omega) he
          have hTX := text_nil (HT.out.trans ht)
          subst hTX
          have hD0 := text_nil (HDL.out.1.trans he)
          subst hD0
          by_cases hw : p.wr = 0
          · have he2 := hw0 hw
            subst he2
            have hwd : (p.wr == 0) = true := by simpa using hw
            clear hw hw0 hw1 ht he hn
            go_wp2_with (first | (go_at_call 11; refine (awake8 _).mono ?_; rintro e wz ⟨rfl, hbz⟩; have HBZ := Lib.hid (HB6.out.trans (hbz.mono HB6.out.size)); clear hbz) | fail)
            go_ret
            exact ⟨by rfl, HEND.out _ HBZ.out⟩
          · have he2 := hw1 hw
            subst he2
            have hwd : (p.wr == 0) = false := by simpa using hw
            clear hw hw0 hw1 ht he hn
            go_wp2_with (first | (go_at_call 11; refine (awake8 _).mono ?_; rintro e wz ⟨rfl, hbz⟩; have HBZ := Lib.hid (HB6.out.trans (hbz.mono HB6.out.size)); clear hbz) | fail)
            go_ret
            exact ⟨by rfl, HEND.out _ HBZ.out⟩
        · obtain ⟨he2, ht⟩ := M2.out (by omega) he
          subst he2
          obtain ⟨hpl, hpe⟩ := text_no (D := TX) (by rw [HT.out]; exact ht)
          obtain ⟨hpl2, hpe2⟩ := text_no (D := D) (by rw [HDL.out.1]; exact he)
          clear he ht hn
          go_wp2_with (first | (go_at_call 11; refine (awake8 _).mono ?_; rintro e wz ⟨rfl, hbz⟩; have HBZ := Lib.hid (HB6.out.trans (hbz.mono HB6.out.size)); clear hbz) | fail)
          go_ret
          exact ⟨by rfl, HEND.out _ HBZ.out⟩
      · obtain ⟨hsl, hse⟩ := text_no hs
        clear hs
        go_wp2_with fail
        clear q0 q1 q2 q3 hq
        refine (HR.out _).mono ?_
        rintro e w5 ⟨rfl, hb5⟩
        have HB5 := Lib.hid (HB4.out.trans (hb5.mono HB4.out.size))
        obtain ⟨w6, hw6⟩ : ∃ w6, w6 = w5.alloc (.cells #[.string DR, .int .i64 qr.rd, .int .i64 qr.wr, .int .i64 qr.cap] 23) := ⟨_, rfl⟩
        have HB6 := Lib.hid (show Below w1.heap.size w1 w6 by rw [hw6]; exact HB5.out.alloc HB5.out.size _)
        clear hb5
        go_upto_region 7 with fail
        rw [← hw6]
        clear hw6
        obtain ⟨q0, q1, q2, q3⟩ := HX.out _ HB6.out
        have hq := cell_lt q0
        by_cases hn : n < 1
        · have hnd : decide (n < 1) = true := decide_eq_true hn
          have he2 := M1.out hn
          subst he2
          go_wp2_with (first | (go_at_call 11; refine (awake8 _).mono ?_; rintro e wz ⟨rfl, hbz⟩; have HBZ := Lib.hid (HB6.out.trans (hbz.mono HB6.out.size)); clear hbz) | fail)
          go_ret
          exact ⟨by rfl, HEND.out _ HBZ.out⟩
        have hnd : decide (n < 1) = false := decide_eq_false hn
        by_cases he : p.data = []
        · obtain ⟨ht, hw0, hw1⟩ := M3.out (by omega) he
          have hTX := text_nil (HT.out.trans ht)
          subst hTX
          have hD0 := text_nil (HDL.out.1.trans he)
          subst hD0
          by_cases hw : p.wr = 0
          · have he2 := hw0 hw
            subst he2
            have hwd : (p.wr == 0) = true := by simpa using hw
            clear hw hw0 hw1 ht he hn
            go_wp2_with (first | (go_at_call 11; refine (awake8 _).mono ?_; rintro e wz ⟨rfl, hbz⟩; have HBZ := Lib.hid (HB6.out.trans (hbz.mono HB6.out.size)); clear hbz) | fail)
            go_ret
            exact ⟨by rfl, HEND.out _ HBZ.out⟩
          · have he2 := hw1 hw
            subst he2
            have hwd : (p.wr == 0) = false := by simpa using hw
            clear hw hw0 hw1 ht he hn
            go_wp2_with (first | (go_at_call 11; refine (awake8 _).mono ?_; rintro e wz ⟨rfl, hbz⟩; have HBZ := Lib.hid (HB6.out.trans (hbz.mono HB6.out.size)); clear hbz) | fail)
            go_ret
            exact ⟨by rfl, HEND.out _ HBZ.out⟩
        · obtain ⟨he2, ht⟩ := M2.out (by omega) he
          subst he2
          obtain ⟨hpl, hpe⟩ := text_no (D := TX) (by rw [HT.out]; exact ht)
          obtain ⟨hpl2, hpe2⟩ := text_no (D := D) (by rw [HDL.out.1]; exact he)
          clear he ht hn
          go_wp2_with (first | (go_at_call 11; refine (awake8 _).mono ?_; rintro e wz ⟨rfl, hbz⟩; have HBZ := Lib.hid (HB6.out.trans (hbz.mono HB6.out.size)); clear hbz) | fail)
          go_ret
          exact ⟨by rfl, HEND.out _ HBZ.out⟩
    · subst he1
      have hS0 := text_nil hs
      subst hS0
      have hre : (p.rd == 0) = false := by simpa using hr
      clear hr hs
      go_wp2_with fail
      clear q0 q1 q2 q3 hq
      refine (HR.out _).mono ?_
      rintro e w5 ⟨rfl, hb5⟩
      have HB5 := Lib.hid (HB4.out.trans (hb5.mono HB4.out.size))
      obtain ⟨w6, hw6⟩ : ∃ w6, w6 = w5.alloc (.cells #[.string DR, .int .i64 qr.rd, .int .i64 qr.wr, .int .i64 qr.cap] 23) := ⟨_, rfl⟩
      have HB6 := Lib.hid (show Below w1.heap.size w1 w6 by rw [hw6]; exact HB5.out.alloc HB5.out.size _)
      clear hb5
      go_upto_region 7 with fail
      rw [← hw6]
      clear hw6
      obtain ⟨q0, q1, q2, q3⟩ := HX.out _ HB6.out
      have hq := cell_lt q0
      by_cases hn : n < 1
      · have hnd : decide (n < 1) = true := decide_eq_true hn
        have he2 := M1.out hn
        subst he2
        go_wp2_with (first | (go_at_call 11; refine (awake8 _).mono ?_; rintro e wz ⟨rfl, hbz⟩; have HBZ := Lib.hid (HB6.out.trans (hbz.mono HB6.out.size)); clear hbz) | fail)
        go_ret
        exact ⟨by rfl, HEND.out _ HBZ.out⟩
      have hnd : decide (n < 1) = false := decide_eq_false hn
      by_cases he : p.data = []
      · obtain ⟨ht, hw0, hw1⟩ := M3.out (by omega) he
        have hTX := text_nil (HT.out.trans ht)
        subst hTX
        have hD0 := text_nil (HDL.out.1.trans he)
        subst hD0
        by_cases hw : p.wr = 0
        · have he2 := hw0 hw
          subst he2
          have hwd : (p.wr == 0) = true := by simpa using hw
          clear hw hw0 hw1 ht he hn
          go_wp2_with (first | (go_at_call 11; refine (awake8 _).mono ?_; rintro e wz ⟨rfl, hbz⟩; have HBZ := Lib.hid (HB6.out.trans (hbz.mono HB6.out.size)); clear hbz) | fail)
          go_ret
          exact ⟨by rfl, HEND.out _ HBZ.out⟩
        · have he2 := hw1 hw
          subst he2
          have hwd : (p.wr == 0) = false := by simpa using hw
          clear hw hw0 hw1 ht he hn
          go_wp2_with (first | (go_at_call 11; refine (awake8 _).mono ?_; rintro e wz ⟨rfl, hbz⟩; have HBZ := Lib.hid (HB6.out.trans (hbz.mono HB6.out.size)); clear hbz) | fail)
          go_ret
          exact ⟨by rfl, HEND.out _ HBZ.out⟩
      · obtain ⟨he2, ht⟩ := M2.out (by omega) he
        subst he2
        obtain ⟨hpl, hpe⟩ := text_no (D := TX) (by rw [HT.out]; exact ht)
        obtain ⟨hpl2, hpe2⟩ := text_no (D := D) (by rw [HDL.out.1]; exact he)
        clear he ht hn
        go_wp2_with (first | (go_at_call 11; refine (awake8 _).mono ?_; rintro e wz ⟨rfl, hbz⟩; have HBZ := Lib.hid (HB6.out.trans (hbz.mono HB6.out.size)); clear hbz) | fail)
        go_ret
        exact ⟨by rfl, HEND.out _ HBZ.out⟩
    · subst he1
      obtain ⟨hsl, hse⟩ := text_no hs
      have hrd : decide (0 < p.rd) = true := decide_eq_true (by have := HRD.out; omega)
      have hre : (p.rd == 0) = false := by simpa using hr
      have hld : decide ((D.size : Int) < p.cap) = false := decide_eq_false (by have := HDL.out.2; omega)
      clear hr hs hl
      go_wp2_with fail
      clear q0 q1 q2 q3 hq
      refine (HR.out _).mono ?_
      rintro e w5 ⟨rfl, hb5⟩
      have HB5 := Lib.hid (HB4.out.trans (hb5.mono HB4.out.size))
      obtain ⟨w6, hw6⟩ : ∃ w6, w6 = w5.alloc (.cells #[.string DR, .int .i64 qr.rd, .int .i64 qr.wr, .int .i64 qr.cap] 23) := ⟨_, rfl⟩
      have HB6 := Lib.hid (show Below w1.heap.size w1 w6 by rw [hw6]; exact HB5.out.alloc HB5.out.size _)
      clear hb5
      go_upto_region 7 with fail
      rw [← hw6]
      clear hw6
      obtain ⟨q0, q1, q2, q3⟩ := HX.out _ HB6.out
      have hq := cell_lt q0
      by_cases hn : n < 1
      · have hnd : decide (n < 1) = true := decide_eq_true hn
        have he2 := M1.out hn
        subst he2
        go_wp2_with (first | (go_at_call 11; refine (awake8 _).mono ?_; rintro e wz ⟨rfl, hbz⟩; have HBZ := Lib.hid (HB6.out.trans (hbz.mono HB6.out.size)); clear hbz) | fail)
        go_ret
        exact ⟨by rfl, HEND.out _ HBZ.out⟩
      have hnd : decide (n < 1) = false := decide_eq_false hn
      by_cases he : p.data = []
      · obtain ⟨ht, hw0, hw1⟩ := M3.out (by omega) he
        have hTX := text_nil (HT.out.trans ht)
        subst hTX
        have hD0 := text_nil (HDL.out.1.trans he)
        subst hD0
        by_cases hw : p.wr = 0
        · have he2 := hw0 hw
          subst he2
          have hwd : (p.wr == 0) = true := by simpa using hw
          clear hw hw0 hw1 ht he hn
          go_wp2_with (first | (go_at_call 11; refine (awake8 _).mono ?_; rintro e wz ⟨rfl, hbz⟩; have HBZ := Lib.hid (HB6.out.trans (hbz.mono HB6.out.size)); clear hbz) | fail)
          go_ret
          exact ⟨by rfl, HEND.out _ HBZ.out⟩
        · have he2 := hw1 hw
          subst he2
          have hwd : (p.wr == 0) = false := by simpa using hw
          clear hw hw0 hw1 ht he hn
          go_wp2_with (first | (go_at_call 11; refine (awake8 _).mono ?_; rintro e wz ⟨rfl, hbz⟩; have HBZ := Lib.hid (HB6.out.trans (hbz.mono HB6.out.size)); clear hbz) | fail)
          go_ret
          exact ⟨by rfl, HEND.out _ HBZ.out⟩
      · obtain ⟨he2, ht⟩ := M2.out (by omega) he
        subst he2
        obtain ⟨hpl, hpe⟩ := text_no (D := TX) (by rw [HT.out]; exact ht)
        obtain ⟨hpl2, hpe2⟩ := text_no (D := D) (by rw [HDL.out.1]; exact he)
        clear he ht hn
        go_wp2_with (first | (go_at_call 11; refine (awake8 _).mono ?_; rintro e wz ⟨rfl, hbz⟩; have HBZ := Lib.hid (HB6.out.trans (hbz.mono HB6.out.size)); clear hbz) | fail)
        go_ret
        exact ⟨by rfl, HEND.out _ HBZ.out⟩
    · subst he1
      obtain ⟨hsl, hse⟩ := text_no hs
      have hrd : decide (0 < p.rd) = true := decide_eq_true (by have := HRD.out; omega)
      have hre : (p.rd == 0) = false := by simpa using hr
      have hld : decide ((D.size : Int) < p.cap) = true := decide_eq_true (by have := HDL.out.2; omega)
      have hkd : decide (k < 1) = false := decide_eq_false (by omega)
      clear hr hs hl hk
      go_wp2_with fail
      clear q0 q1 q2 q3 hq
      refine (HR.out _).mono ?_
      rintro e w5 ⟨rfl, hb5⟩
      have HB5 := Lib.hid (HB4.out.trans (hb5.mono HB4.out.size))
      obtain ⟨w6, hw6⟩ : ∃ w6, w6 = w5.alloc (.cells #[.string DR, .int .i64 qr.rd, .int .i64 qr.wr, .int .i64 qr.cap] 23) := ⟨_, rfl⟩
      have HB6 := Lib.hid (show Below w1.heap.size w1 w6 by rw [hw6]; exact HB5.out.alloc HB5.out.size _)
      clear hb5
      go_upto_region 7 with fail
      rw [← hw6]
      clear hw6
      obtain ⟨q0, q1, q2, q3⟩ := HX.out _ HB6.out
      have hq := cell_lt q0
      by_cases hn : n < 1
      · have hnd : decide (n < 1) = true := decide_eq_true hn
        have he2 := M1.out hn
        subst he2
        go_wp2_with (first | (go_at_call 11; refine (awake8 _).mono ?_; rintro e wz ⟨rfl, hbz⟩; have HBZ := Lib.hid (HB6.out.trans (hbz.mono HB6.out.size)); clear hbz) | fail)
        go_ret
        exact ⟨by rfl, HEND.out _ HBZ.out⟩
      have hnd : decide (n < 1) = false := decide_eq_false hn
      by_cases he : p.data = []
      · obtain ⟨ht, hw0, hw1⟩ := M3.out (by omega) he
        have hTX := text_nil (HT.out.trans ht)
        subst hTX
        have hD0 := text_nil (HDL.out.1.trans he)
        subst hD0
        by_cases hw : p.wr = 0
        · have he2 := hw0 hw
          subst he2
          have hwd : (p.wr == 0) = true := by simpa using hw
          clear hw hw0 hw1 ht he hn
          go_wp2_with (first | (go_at_call 11; refine (awake8 _).mono ?_; rintro e wz ⟨rfl, hbz⟩; have HBZ := Lib.hid (HB6.out.trans (hbz.mono HB6.out.size)); clear hbz) | fail)
          go_ret
          exact ⟨by rfl, HEND.out _ HBZ.out⟩
        · have he2 := hw1 hw
          subst he2
          have hwd : (p.wr == 0) = false := by simpa using hw
          clear hw hw0 hw1 ht he hn
          go_wp2_with (first | (go_at_call 11; refine (awake8 _).mono ?_; rintro e wz ⟨rfl, hbz⟩; have HBZ := Lib.hid (HB6.out.trans (hbz.mono HB6.out.size)); clear hbz) | fail)
          go_ret
          exact ⟨by rfl, HEND.out _ HBZ.out⟩
      · obtain ⟨he2, ht⟩ := M2.out (by omega) he
        subst he2
        obtain ⟨hpl, hpe⟩ := text_no (D := TX) (by rw [HT.out]; exact ht)
        obtain ⟨hpl2, hpe2⟩ := text_no (D := D) (by rw [HDL.out.1]; exact he)
        clear he ht hn
        go_wp2_with (first | (go_at_call 11; refine (awake8 _).mono ?_; rintro e wz ⟨rfl, hbz⟩; have HBZ := Lib.hid (HB6.out.trans (hbz.mono HB6.out.size)); clear hbz) | fail)
        go_ret
        exact ⟨by rfl, HEND.out _ HBZ.out⟩
end Go.Proofs.Ytopgmboilimlhaa
