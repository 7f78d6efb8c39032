/-
  Fit of both sides.
-/
import Derived.Test.YtopgmboilimlhaaPNew
namespace Go.Proofs.Ytopgmboilimlhaa
set_option maxRecDepth 100000
open Go Go.RowKit

theorem fit_words (p : Pip) : fitPip p = ((((((decide (0 ≤ p.rd) && decide (p.rd ≤ 1000)) && (decide (0 ≤ p.wr) && decide (p.wr ≤ 1000))) && (decide (1 ≤ p.cap) && decide (p.cap ≤ 65536))) && decide ((p.data.length : Int) ≤ p.cap)))) := by
  unfold fitPip
  simp only [Bool.and_assoc]

set_option maxHeartbeats 4000000 in
theorem lfit8 (p : Pip) (w : World) : Calls Try.prog 9 #[.agg #[.string ⟨p.data.toArray⟩, .int .i64 p.rd, .int .i64 p.wr, .int .i64 p.cap]] w fun e w' => e = .returned (.bool (fitPip p)) ∧ Below w.heap.size w w' := by
  obtain ⟨D, hD⟩ : ∃ D : ByteArray, D = ⟨p.data.toArray⟩ := ⟨_, rfl⟩
  obtain ⟨hDl, hDs⟩ := data_text hD
  rw [← hD]
  clear hD
  have HB := Lib.hid (below_box w (.cells #[.string D, .int .i64 p.rd, .int .i64 p.wr, .int .i64 p.cap] 23))
  obtain ⟨v1, h1⟩ : ∃ v, (decide (0 ≤ p.rd) && decide (p.rd ≤ 1000)) = v := ⟨_, rfl⟩
  obtain ⟨v2, h2⟩ : ∃ v, (decide (0 ≤ p.wr) && decide (p.wr ≤ 1000)) = v := ⟨_, rfl⟩
  obtain ⟨v3, h3⟩ : ∃ v, (decide (1 ≤ p.cap) && decide (p.cap ≤ 65536)) = v := ⟨_, rfl⟩
  obtain ⟨v4, h4⟩ : ∃ v, decide ((D.size : Int) ≤ p.cap) = v := ⟨_, rfl⟩
  have hres : fitPip p = (((v1 && v2) && v3) && v4) := by rw [fit_words, h1, h2, h3, ← hDs, h4]
  rw [hres]
  have H1 := Lib.hid h1
  have H2 := Lib.hid h2
  have H3 := Lib.hid h3
  clear hDl hDs hres h1 h2 h3
  cases v1 with
  | false =>
    go_enter Try.func9, Try.ntmps9
    go_wp2_with fail
    refine (lwithin _ _ _ _).mono ?_
    rintro e w1 ⟨rfl, rfl⟩
    rw [H1.out]
    go_wp2_with fail
    go_ret
    exact ⟨rfl, HB.out⟩
  | true =>
    cases v2 with
    | false =>
      go_enter Try.func9, Try.ntmps9
      go_wp2_with fail
      refine (lwithin _ _ _ _).mono ?_
      rintro e w1 ⟨rfl, rfl⟩
      rw [H1.out]
      go_wp2_with fail
      refine (lwithin _ _ _ _).mono ?_
      rintro e w2 ⟨rfl, rfl⟩
      rw [H2.out]
      go_wp2_with fail
      go_ret
      exact ⟨rfl, HB.out⟩
    | true =>
      cases v3 with
      | false =>
        go_enter Try.func9, Try.ntmps9
        go_wp2_with fail
        refine (lwithin _ _ _ _).mono ?_
        rintro e w1 ⟨rfl, rfl⟩
        rw [H1.out]
        go_wp2_with fail
        refine (lwithin _ _ _ _).mono ?_
        rintro e w2 ⟨rfl, rfl⟩
        rw [H2.out]
        go_wp2_with fail
        refine (lwithin _ _ _ _).mono ?_
        rintro e w3 ⟨rfl, rfl⟩
        rw [H3.out]
        go_wp2_with fail
        go_ret
        exact ⟨rfl, HB.out⟩
      | true =>
        go_enter Try.func9, Try.ntmps9
        go_wp2_with fail
        refine (lwithin _ _ _ _).mono ?_
        rintro e w1 ⟨rfl, rfl⟩
        rw [H1.out]
        go_wp2_with fail
        refine (lwithin _ _ _ _).mono ?_
        rintro e w2 ⟨rfl, rfl⟩
        rw [H2.out]
        go_wp2_with fail
        refine (lwithin _ _ _ _).mono ?_
        rintro e w3 ⟨rfl, rfl⟩
        rw [H3.out]
        go_wp2_with fail
        go_ret
        exact ⟨by simp, HB.out⟩

set_option maxHeartbeats 4000000 in
theorem rfit8 (p : Pip) (w : World) : Calls Try.prog 10 #[.agg #[.string ⟨p.data.toArray⟩, .int .i64 p.rd, .int .i64 p.wr, .int .i64 p.cap]] w fun e w' => e = .returned (.bool (fitPip p)) ∧ Below w.heap.size w w' := by
  obtain ⟨D, hD⟩ : ∃ D : ByteArray, D = ⟨p.data.toArray⟩ := ⟨_, rfl⟩
  obtain ⟨hDl, hDs⟩ := data_text hD
  rw [← hD]
  clear hD
  have HB := Lib.hid (below_box w (.cells #[.string D, .int .i64 p.rd, .int .i64 p.wr, .int .i64 p.cap] 23))
  have hres : fitPip p = (decide (0 ≤ p.rd) && decide (p.rd ≤ 1000) && decide (0 ≤ p.wr) && decide (p.wr ≤ 1000) && decide (1 ≤ p.cap) && decide (p.cap ≤ 65536) && decide ((D.size : Int) ≤ p.cap)) := by rw [hDs]; rfl
  rw [hres]
  clear hDl hDs hres
  cases d1 : decide (0 ≤ p.rd) with
  | false =>
    go_enter Try.func10, Try.ntmps10
    go_wp2_with fail
    go_ret
    exact ⟨rfl, HB.out⟩
  | true =>
    cases d2 : decide (p.rd ≤ 1000) with
    | false =>
      go_enter Try.func10, Try.ntmps10
      go_wp2_with fail
      go_ret
      exact ⟨rfl, HB.out⟩
    | true =>
      cases d3 : decide (0 ≤ p.wr) with
      | false =>
        go_enter Try.func10, Try.ntmps10
        go_wp2_with fail
        go_ret
        exact ⟨rfl, HB.out⟩
      | true =>
        cases d4 : decide (p.wr ≤ 1000) with
        | false =>
          go_enter Try.func10, Try.ntmps10
          go_wp2_with fail
          go_ret
          exact ⟨rfl, HB.out⟩
        | true =>
          cases d5 : decide (1 ≤ p.cap) with
          | false =>
            go_enter Try.func10, Try.ntmps10
            go_wp2_with fail
            go_ret
            exact ⟨rfl, HB.out⟩
          | true =>
            cases d6 : decide (p.cap ≤ 65536) with
            | false =>
              go_enter Try.func10, Try.ntmps10
              go_wp2_with fail
              go_ret
              exact ⟨rfl, HB.out⟩
            | true =>
              cases d7 : decide ((D.size : Int) ≤ p.cap) with
              | false =>
                go_enter Try.func10, Try.ntmps10
                go_wp2_with fail
                go_ret
                exact ⟨rfl, HB.out⟩
              | true =>
                go_enter Try.func10, Try.ntmps10
                go_wp2_with fail
                go_ret
                exact ⟨rfl, HB.out⟩

end Go.Proofs.Ytopgmboilimlhaa
