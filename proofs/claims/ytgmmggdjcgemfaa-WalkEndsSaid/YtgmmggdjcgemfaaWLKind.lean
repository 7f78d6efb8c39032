/-
  walk's kind, May and refused, of the landed code.
-/
import Derived.Test.YtgmmggdjcgemfaaWRefWalk
import Derived.Test.YtgmmggdjcgemfaaParts
namespace Go.Proofs.Ytgmmggdjcgemfaa
open Go Go.RowKit

set_option maxHeartbeats 1000000 in
theorem kind_known (a : Option Addr) (cap : Nat) (m b k : Int) (L : List Ino) (v : Int) (hv : kindL L k = v) (w : World) (hN : NodesIn w a cap L) :
    Calls Try.prog 26 #[.agg #[.slice a L.length cap, .int .i64 m, .int .i64 b], .int .i64 k] w fun e w' => e = .returned (.int .i64 v) ∧ Below w.heap.size w w' := by
  subst hv
  have hb1 := below_box w (.cells #[.slice a L.length cap, .int .i64 m, .int .i64 b] 24)
  have HB1 := Lib.hid hb1
  have hcap := hN.1
  have hmax := hN.2.1
  unfold maxLen at hmax
  cases ht : thereB L k with
  | true =>
    obtain ⟨n, rfl, hn⟩ := there_nat ht
    obtain ⟨bb, o, rfl, hx⟩ := (hN.below hb1).2.2 n hn
    have h1 := hx.kind
    have hd0 : (0 : Int) ≤ (n : Int) := by omega
    have hd1 : (n : Int) < (L.length : Int) := by omega
    have HV := Lib.hid (show kindL L (n : Int) = L[n].kind by unfold kindL; rw [ht, if_pos rfl, node_nat L n hn])
    clear hN hb1 ht hx
    go_enter Try.func26, Try.ntmps26
    go_wp2_with fail
    go_ret
    exact ⟨by rw [HV.out]; rfl, HB1.out⟩
  | false =>
    have HV := Lib.hid (show kindL L k = 0 by unfold kindL; rw [ht]; rfl)
    rcases there_not ht with h | h
    · clear hN hb1 ht
      go_enter Try.func26, Try.ntmps26
      go_wp2_with fail
      go_ret
      exact ⟨by rw [HV.out]; rfl, HB1.out⟩
    · have h0 : (0 : Int) ≤ k := by omega
      clear hN hb1 ht
      go_enter Try.func26, Try.ntmps26
      go_wp2_with fail
      go_ret
      exact ⟨by rw [HV.out]; rfl, HB1.out⟩

theorem kind_dir {L : List Ino} {k : Int} : (kindL L k != 2) = !dirB L k := by
  unfold kindL dirB
  cases thereB L k with
  | false => rfl
  | true => rw [if_pos rfl, Bool.true_and]; rfl
theorem kind_live {L : List Ino} {k : Int} : (kindL L k == 0) = !liveB L k := by
  unfold kindL liveB
  cases thereB L k with
  | false => rfl
  | true => rw [if_pos rfl, Bool.true_and]; simp [bne]

theorem bits_nat : ∀ q : Nat, q < 8 → ∀ x : Nat, x < 8 → (bits BinOp.and IntKind.i64 (q : Int) (x : Int) == (x : Int)) = bitsB (q : Int) (x : Int) := by decide +kernel
theorem bits_ok (q x : Int) (h1 : 0 ≤ q) (h2 : q ≤ 7) (h3 : 0 ≤ x) (h4 : x ≤ 7) : (bits BinOp.and IntKind.i64 q x == x) = bitsB q x := by
  obtain ⟨n, rfl⟩ : ∃ n : Nat, q = (n : Int) := ⟨q.toNat, by omega⟩
  obtain ⟨k, rfl⟩ : ∃ k : Nat, x = (k : Int) := ⟨x.toNat, by omega⟩
  exact bits_nat n (by omega) k (by omega)

set_option maxHeartbeats 2000000 in
theorem lmayw_known (a : Option Addr) (cap : Nat) (m b k what : Int) (L : List Ino) (hI : AllFit L) (v : Bool) (hv : mayL L k what = v) (w : World) (hN : NodesIn w a cap L) :
    Calls Try.prog 14 #[.agg #[.slice a L.length cap, .int .i64 m, .int .i64 b], .int .i64 k, .int .i64 what] w fun e w' => e = .returned (.bool v) ∧ Below w.heap.size w w' := by
  subst hv
  have hb1 := below_box w (.cells #[.slice a L.length cap, .int .i64 m, .int .i64 b] 24)
  have HB1 := Lib.hid hb1
  have hcap := hN.1
  have hmax := hN.2.1
  unfold maxLen at hmax
  have HM := Lib.hid (hN.below hb1)
  by_cases hw : 0 ≤ what ∧ what ≤ 7
  · obtain ⟨hw1, hw2⟩ := hw
    cases hl : liveB L k with
    | false =>
      obtain ⟨z, hz⟩ : ∃ z, kindL L k = z := ⟨_, rfl⟩
      have hz0 : z = 0 := by have h := kind_live (L := L) (k := k); rw [hl, hz] at h; simpa using h
      subst hz0
      have HZ := Lib.hid hz
      have HV := Lib.hid (show mayL L k what = false by unfold mayL; rw [hl]; simp)
      clear hN hb1 hl hz
      go_enter Try.func14, Try.ntmps14
      go_wp2_with (first | (go_at_call 26; refine (kind_known _ _ _ _ _ L _ HZ.out _ HM.out).mono ?_; rintro e w2 ⟨rfl, hb2⟩) | fail)
      go_ret
      exact ⟨by rw [HV.out]; rfl, HB1.out.trans (hb2.mono (by simp))⟩
    | true =>
      obtain ⟨n, rfl, hn⟩ := there_nat (live_there hl)
      obtain ⟨z, hz⟩ : ∃ z, kindL L (n : Int) = z := ⟨_, rfl⟩
      have hz0 : (z == 0) = false := by have h := kind_live (L := L) (k := (n : Int)); rw [hl, hz] at h; simpa using h
      have HZ := Lib.hid hz
      obtain ⟨bb, o, rfl, hx⟩ := HM.out.2.2 n hn
      have h1 := hx.mode
      have hd0 : (0 : Int) ≤ (n : Int) := by omega
      have hd1 : (n : Int) < (L.length : Int) := by omega
      have HV := Lib.hid (show mayL L (n : Int) what = bitsB L[n].mode what by unfold mayL; rw [hl, node_nat L n hn, decide_eq_true hw1, decide_eq_true hw2]; rfl)
      have hmr := mode_range hI (there_of L n hn)
      rw [node_nat L n hn] at hmr
      obtain ⟨q, hq⟩ : ∃ q, q = L[n].mode := ⟨_, rfl⟩
      rw [← hq] at h1 HV hmr
      obtain ⟨hq1, hq2⟩ := hmr
      rw [HV.out]
      clear hN hb1 hl hx hq hI hz
      go_enter Try.func14, Try.ntmps14
      go_wp2_with (first | (go_at_call 26; refine (kind_known _ _ _ _ _ L _ HZ.out _ HM.out).mono ?_; rintro e w2 ⟨rfl, hb2⟩; obtain ⟨q0, q1, q2⟩ := box3 hb2; have h2 := cell_below hb2 h1) | fail)
      go_ret
      refine ⟨?_, HB1.out.trans (hb2.mono (by simp))⟩
      show Ending.returned (Value.bool _) = Ending.returned (Value.bool _)
      congr 2
      exact bits_ok q what hq1 hq2 hw1 hw2
  · have HV := Lib.hid (show mayL L k what = false by
      unfold mayL
      by_cases h1 : 0 ≤ what
      · rw [decide_eq_false (show ¬ what ≤ 7 from fun h2 => hw ⟨h1, h2⟩)]
        simp
      · rw [decide_eq_false h1]
        rfl)
    by_cases h1 : what < 0
    · clear hN hb1 hw
      go_enter Try.func14, Try.ntmps14
      go_wp2_with fail
      go_ret
      exact ⟨by rw [HV.out]; rfl, HB1.out⟩
    · have h2 : 7 < what := by omega
      clear hN hb1 hw
      go_enter Try.func14, Try.ntmps14
      go_wp2_with fail
      go_ret
      exact ⟨by rw [HV.out]; rfl, HB1.out⟩

set_option maxHeartbeats 1000000 in
theorem long_any (x : List UInt8) (w : World) : Calls Try.prog 39 #[.string ⟨x.toArray⟩] w fun e w' => e = .returned (.bool (decide (64 < x.length))) ∧ w' = w := by
  have hs := str_len x
  by_cases h : 64 < x.length
  all_goals
    have hh : decide (64 < x.length) = _ := (by first | exact decide_eq_true h | exact decide_eq_false h)
    have HH := Lib.hid hh
    clear hh
    go_enter Try.func39, Try.ntmps39
    go_wp2_with fail
    go_ret
    refine ⟨?_, rfl⟩
    rw [HH.out]
    show Ending.returned (Value.bool _) = Ending.returned (Value.bool _)
    congr 2
    simp
    omega

set_option maxRecDepth 100000 in
set_option maxHeartbeats 4000000 in
theorem lindexF_any (N : List (List UInt8)) (hN : N.length ≤ 1048576) (v : Value) (w : World) (hV : View w v N) :
    Calls Try.prog 47 #[v, .func (.func 39) #[] #[]] w fun e w' => (∃ z : Int, e = .returned (.int .i64 z) ∧ decide (0 ≤ z) = N.any fun x => decide (64 < x.length)) ∧ w' = w := by
  obtain ⟨na, nc, rfl, hc1, hc2, hcell⟩ := hV
  unfold maxLen at hc2
  have HC := Lib.hid hcell
  obtain ⟨R, hR⟩ : ∃ R, R = N.any fun x => decide (64 < x.length) := ⟨_, rfl⟩
  have HR := Lib.hid hR
  rw [← hR]
  clear hcell hR
  go_enter Try.func47, Try.ntmps47
  go_wp2_with fail
  go_loop [5, 8] (fun _ iv => ∃ k : Nat, k ≤ N.length ∧ iv = .int .i64 k ∧ Hid (∀ j (hj : j < N.length), j < k → N[j].length ≤ 64)) (fun _ iv => N.length - (intOf iv).toNat)
  case atStart => exact ⟨0, by omega, rfl, fun _ _ h => absurd h (Nat.not_lt_zero _)⟩
  case round =>
    obtain ⟨k, hk, rfl, hok⟩ := hrel
    by_cases hlt : k < N.length
    · obtain ⟨nb, no, rfl, hx⟩ := HC.out k hlt
      unfold strv at hx
      have hk0 : (0 : Int) ≤ (k : Int) := by omega
      by_cases h64 : 64 < N[k].length
      · have HL := Lib.hid (long_any N[k])
        have HW3 := Lib.hid (show R = true by
          rw [HR.out, List.any_eq_true]
          exact ⟨N[k], List.getElem_mem _, decide_eq_true h64⟩)
        have HD := Lib.hid (decide_eq_true h64)
        go_wp2_with (first | (go_at_call 39; refine (HL.out _).mono ?_; rintro e w' ⟨rfl, rfl⟩; rw [HD.out]) | fail)
        go_ret
        exact ⟨⟨(k : Int), rfl, by rw [HW3.out]; exact decide_eq_true hk0⟩, rfl⟩
      · have HOK := Lib.hid (show ∀ j (hj : j < N.length), j < k + 1 → N[j].length ≤ 64 from fun j hj hjk => by
          by_cases e : j = k
          · subst e; omega
          · exact hok.out j hj (by omega))
        have HL := Lib.hid (long_any N[k])
        have HD := Lib.hid (decide_eq_false h64)
        go_wp2_with (first | (go_at_call 39; refine (HL.out _).mono ?_; rintro e w' ⟨rfl, rfl⟩; rw [HD.out]) | fail)
        go_round
        case rel => exact ⟨k + 1, by omega, by go_num, HOK⟩
        case measure => simp [intOf] <;> omega
    · have HW3 := Lib.hid (show R = false by
        rw [HR.out, List.any_eq_false]
        intro x hx
        obtain ⟨j, hj, rfl⟩ := List.getElem_of_mem hx
        have h1 := hok.out j hj (by omega)
        simpa using h1)
      go_wp2_with fail
      go_ret
      exact ⟨⟨-1, rfl, by rw [HW3.out]; rfl⟩, rfl⟩
end Go.Proofs.Ytgmmggdjcgemfaa
