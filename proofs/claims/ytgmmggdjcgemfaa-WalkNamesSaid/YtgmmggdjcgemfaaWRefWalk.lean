/-
  The reference's bad, Walk and Parent, walked.
-/
import Derived.Test.YtgmmggdjcgemfaaWRefWay
namespace Go.Proofs.Ytgmmggdjcgemfaa
open Go Go.RowKit

theorem longB_of (p : List UInt8) (h : p.length ≤ 1024) : longB p = (partsL p).any fun x => decide (64 < x.length) := by
  unfold longB
  rw [decide_eq_false (by omega), Bool.false_or]

set_option maxRecDepth 100000 in
set_option maxHeartbeats 4000000 in
theorem bad4_any (a : Option Addr) (cap : Nat) (m b cwd : Int) (p : List UInt8) (hp : p.length ≤ 1073741824) (L : List Ino) (w : World) (hN : NodesIn w a cap L) :
    Calls Try.prog 27 #[.agg #[.slice a L.length cap, .int .i64 m, .int .i64 b], .int .i64 cwd, .string ⟨p.toArray⟩] w fun e w' => e = .returned (.int .i64 (badW L cwd p)) ∧ Below w.heap.size w w' := by
  have hb1 := below_box w (.cells #[.slice a L.length cap, .int .i64 m, .int .i64 b] 24)
  have HM := Lib.hid (hN.below hb1)
  have HB1 := Lib.hid hb1
  have hs := str_len p
  obtain ⟨R, hR⟩ : ∃ R, R = badW L cwd p := ⟨_, rfl⟩
  rw [← hR]
  have HR := Lib.hid hR
  clear hN hb1 hR
  by_cases hp0 : p = []
  · subst hp0
    have HW := Lib.hid (show R = 2 by rw [HR.out]; unfold badW; rw [if_pos (Or.inl rfl)])
    go_enter Try.func27, Try.ntmps27
    go_wp2_with fail
    go_ret
    exact ⟨by rw [HW.out]; rfl, HB1.out⟩
  · have hpb : (p == []) = false := by simpa using hp0
    cases hd : dirB L cwd with
    | false =>
      have HD := Lib.hid hd
      have HW := Lib.hid (show R = 2 by rw [HR.out]; unfold badW; rw [if_pos (Or.inr hd)])
      clear hd hp0
      go_enter Try.func27, Try.ntmps27
      go_wp2_with (first | (go_at_call 30; refine (dir4_known _ _ _ _ _ L _ HD.out _ HM.out).mono ?_; rintro e w2 ⟨rfl, hb2⟩) | fail)
      go_ret
      exact ⟨by rw [HW.out]; rfl, HB1.out.trans (hb2.mono (by simp))⟩
    | true =>
      have HD := Lib.hid hd
      have HW := Lib.hid (show R = if longB p then 36 else 0 by rw [HR.out]; unfold badW; rw [if_neg (by simp [hp0, hd])])
      clear hd hp0
      by_cases hl : 1024 < p.length
      · have HW2 := Lib.hid (show R = 36 by rw [HW.out]; unfold longB; rw [decide_eq_true hl]; rfl)
        go_enter Try.func27, Try.ntmps27
        go_wp2_with (first | (go_at_call 30; refine (dir4_known _ _ _ _ _ L _ HD.out _ HM.out).mono ?_; rintro e w2 ⟨rfl, hb2⟩) | fail)
        go_ret
        exact ⟨by rw [HW2.out]; rfl, HB1.out.trans (hb2.mono (by simp))⟩
      · have HW2 := Lib.hid (show R = if (partsL p).any fun x => decide (64 < x.length) then 36 else 0 by rw [HW.out, longB_of p (by omega)])
        have hpa := rparts_any ⟨p.toArray⟩ (by rw [hs]; exact hp)
        have e1 : (⟨p.toArray⟩ : ByteArray).data.toList = p := rfl
        rw [e1] at hpa
        have HPA := Lib.hid hpa
        have HCL := Lib.hid (count_parts p)
        obtain ⟨N, hNe⟩ : ∃ N, N = partsL p := ⟨_, rfl⟩
        rw [← hNe] at HPA HW2 HCL
        have hl1 : p.length ≤ 1024 := by omega
        clear hpa e1 hNe hl HW
        go_enter Try.func27, Try.ntmps27
        go_wp2_with fail
        refine (dir4_known _ _ _ _ _ L _ HD.out _ HM.out).mono ?_
        rintro e w2 ⟨rfl, hb2⟩
        have HB2 := Lib.hid (HB1.out.trans (hb2.mono (by simp)))
        have hs2 := HB2.out.size
        clear hb2
        go_wp2_with fail
        refine (HPA.out _).mono ?_
        rintro e w3 ⟨v3, rfl, hT3, hb3⟩
        obtain ⟨na, ncap, rfl, hc1, hc2, hcell⟩ := hT3.view
        have HC := Lib.hid hcell
        have HB3 := Lib.hid (HB2.out.trans (hb3.mono hs2))
        have hN1 : N.length ≤ 1025 := by have := HCL.out; omega
        unfold maxLen at hc2
        clear hT3 hb3 hcell HPA
        go_wp2_with fail
        go_loop [8] (fun iv => ∃ k : Nat, k ≤ N.length ∧ iv = .int .i64 k ∧ Hid (∀ j (hj : j < N.length), j < k → N[j].length ≤ 64)) (fun iv => N.length - (intOf iv).toNat)
        case atStart => exact ⟨0, by omega, rfl, fun _ _ h => absurd h (Nat.not_lt_zero _)⟩
        case round =>
          obtain ⟨k, hk, rfl, hok⟩ := hrel
          by_cases hlt : k < N.length
          · obtain ⟨nb, no, rfl, hx⟩ := HC.out k hlt
            unfold strv at hx
            have hsx := str_len N[k]
            have hk0 : (0 : Int) ≤ (k : Int) := by omega
            by_cases h64 : 64 < N[k].length
            · have HW3 := Lib.hid (show R = 36 by
                rw [HW2.out, if_pos]
                rw [List.any_eq_true]
                exact ⟨N[k], List.getElem_mem _, decide_eq_true h64⟩)
              go_wp2_with fail
              go_ret
              exact ⟨by rw [HW3.out]; rfl, HB3.out⟩
            · have HOK := Lib.hid (show ∀ j (hj : j < N.length), j < k + 1 → N[j].length ≤ 64 from fun j hj hjk => by
                by_cases e : j = k
                · subst e; omega
                · exact hok.out j hj (by omega))
              go_wp2_with fail
              go_round
              case rel => exact ⟨k + 1, by omega, by go_num, HOK⟩
              case measure => simp [intOf] <;> omega
          · have HW3 := Lib.hid (show R = 0 by
              rw [HW2.out, if_neg]
              rw [List.any_eq_true]
              rintro ⟨x, hx, h⟩
              obtain ⟨j, hj, rfl⟩ := List.getElem_of_mem hx
              have h1 := hok.out j hj (by omega)
              have h2 := of_decide_eq_true h
              omega)
            go_wp2_with fail
            go_ret
            exact ⟨by rw [HW3.out]; rfl, HB3.out⟩
end Go.Proofs.Ytgmmggdjcgemfaa
