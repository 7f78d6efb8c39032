/-
  The law PattStar, walked.
-/
import Derived.Test.YtnnabbmdpoenkaaQLaws
import Derived.Test.YtnnabbmdpoenkaaQAwake
import Derived.Test.YtnnabbmdpoenkaaTextCut
namespace Go.Proofs.Ytnnabbmdpoenkaa
set_option maxRecDepth 100000
open Go Go.RowKit

theorem sum3 {a b c : ByteArray} (h : shB [a, b, c] = true) : a.size + (b.size + c.size) ≤ 400 := by
  unfold shB at h
  rw [decide_eq_true_iff] at h
  simpa [sumS] using h
/-- Whether some of the first ones is so. -/
def anyU (f : Nat → Bool) : Nat → Bool
  | 0 => false
  | k + 1 => anyU f k || f k
theorem anyU_iff (f : Nat → Bool) : ∀ k, anyU f k = true ↔ ∃ i, i < k ∧ f i = true
  | 0 => by simp [anyU]
  | k + 1 => by
    rw [anyU, Bool.or_eq_true, anyU_iff f k]
    constructor
    · rintro (⟨i, h1, h2⟩ | h)
      · exact ⟨i, by omega, h2⟩
      · exact ⟨k, by omega, h⟩
    · rintro ⟨i, h1, h2⟩
      by_cases e : i = k
      · subst e; exact Or.inr h2
      · exact Or.inl ⟨i, by omega, h2⟩
theorem any_mat (R : List Wt) (s : List UInt8) (g : Nat → List UInt8) (T : Prop) [Decidable T] (h : T ↔ ∃ k, k ≤ s.length ∧ Mat R (g k)) : decide T = anyU (fun k => decide (Mat R (g k))) (s.length + 1) := by
  have h2 := anyU_iff (fun k => decide (Mat R (g k))) (s.length + 1)
  cases hv : anyU (fun k => decide (Mat R (g k))) (s.length + 1) with
  | true =>
    obtain ⟨i, h3, h4⟩ := h2.1 hv
    exact decide_eq_true (h.2 ⟨i, by omega, by simpa using h4⟩)
  | false =>
    refine decide_eq_false fun hT => ?_
    obtain ⟨k, h3, h4⟩ := h.1 hT
    have := h2.2 ⟨k, by omega, by simpa using h4⟩
    rw [hv] at this; cases this

set_option maxHeartbeats 16000000 in
theorem pstar_walk (p q s : ByteArray) (lp : p.size ≤ 281474976710656) (lq : q.size ≤ 281474976710656) (ls : s.size ≤ 281474976710656) (w : World) : Calls Try.prog 5 #[.string p, .string q, .string s] w fun e w' => e = .returned (.bool true) ∧ Below w.heap.size w w' := by
  obtain ⟨w1, hw1⟩ : ∃ w1, w1 = w.alloc (.cells #[.string p, .string q, .string s] 9) := ⟨_, rfl⟩
  have hb1 : Below w.heap.size w w1 := by rw [hw1]; exact below_box _ _
  have hR1 : RowAt w1 w.heap.size ([p, q, s].map Value.string) 9 := by rw [hw1]; exact new_block _ _
  have C1 := lshort [p, q, s] (by simp) (fun x hx => by simp at hx; rcases hx with rfl | rfl | rfl <;> assumption) w.heap.size w1 hR1
  have CA := fun W => lawakeq W
  have HW1 := Lib.hid hw1
  have HB1 := Lib.hid hb1
  have HPS := Lib.hid (size_data p)
  have HSS := Lib.hid (size_data s)
  clear hw1 hb1 hR1
  cases hsh : shB [p, q, s] with
  | false =>
    rw [hsh] at C1
    go_enter Try.func5, Try.ntmps5
    go_wp2_with fail
    rw [← HW1.out]
    refine C1.mono ?_
    rintro e w2 ⟨rfl, rfl⟩
    go_wp2_with fail
    refine (CA _).mono ?_
    rintro e w3 ⟨rfl, hb⟩
    have HB3 := Lib.hid (below_two HB1.out hb)
    clear hb
    go_wp2_with fail
    go_ret
    exact ⟨rfl, HB3.out⟩
  | true =>
    rw [hsh] at C1
    have h400 := sum3 hsh
    clear hsh
    go_enter Try.func5, Try.ntmps5
    go_wp2_with fail
    rw [← HW1.out]
    refine C1.mono ?_
    rintro e w2 ⟨rfl, rfl⟩
    clear C1
    go_wp2_with fail
    go_loopw [7] (fun v7 wr => ∃ i, v7 = .int .i64 ((i : Nat) : Int) ∧ i ≤ p.size ∧ Hid (∀ j (h : j < p.size), j < i → p[j] ≠ 91) ∧ w1 = wr) (fun v7 _ => p.size - (intOf v7).toNat)
    case atStart => exact ⟨0, rfl, Nat.zero_le _, (show ∀ j (h : j < p.size), j < 0 → _ from fun _ _ h => absurd h (Nat.not_lt_zero _)), rfl⟩
    case round =>
      obtain ⟨i, rfl, hi, HFR, rfl⟩ := hrel
      by_cases hlt : i < p.size
      · have hii : (i : Int) < (p.size : Int) := by omega
        cases e91 : ((p[i].toNat : Int) == 91) with
        | true =>
          go_wp2_with fail
          refine (CA _).mono ?_
          rintro e w3 ⟨rfl, hb⟩
          have HB3 := Lib.hid (below_two HB1.out hb)
          clear hb
          go_wp2_with fail
          go_ret
          exact ⟨rfl, HB3.out⟩
        | false =>
          have HN := Lib.hid (show ∀ j (h : j < p.size), j < i + 1 → p[j] ≠ 91 from fun j h hj => by
            by_cases e : j = i
            · subst e
              intro e
              rw [e] at e91; cases e91
            · exact HFR.out j h (by omega))
          go_wp2_with fail
          go_roundw
          case rel => exact ⟨i + 1, by simp, by omega, HN, trivial⟩
          case measure => simp only [intOf]; omega
      · have hii : ¬ (i : Int) < (p.size : Int) := by omega
        have HALL := Lib.hid (show ∀ x ∈ p.data.toList, x ≠ 91 from fun x hx => by
          obtain ⟨j, hj, rfl⟩ := List.getElem_of_mem hx
          exact HFR.out j (by rw [← HPS.out]; exact hj) (by rw [HPS.out] at hj; omega))
        go_wp2_with fail
        -- quoted is made as long as the pattern
        go_loopw [1] (fun v1 wr => ∃ t : ByteArray, v1 = .string t ∧ t.size ≤ 100000 + 400 ∧ (t.size ≤ p.size ∨ t.size ≤ 400) ∧ w1 = wr) (fun v1 _ => p.size - (match v1 with | .string t => t.size | _ => 0))
        case atStart => exact ⟨q, rfl, by omega, Or.inr (by omega), rfl⟩
        case round =>
          obtain ⟨t, rfl, ht, htp, rfl⟩ := hrel
          by_cases htl : t.size < p.size
          · have htli : (t.size : Int) < (p.size : Int) := by omega
            have hl1 : ¬ 9223372036854775807 < t.size + 1 := by omega
            have hsz : (t ++ (⟨#[48]⟩ : ByteArray)).size = t.size + 1 := by rw [ByteArray.size_append]; rfl
            go_wp2_with fail
            go_roundw
            case rel => exact ⟨t ++ ⟨#[48]⟩, rfl, by rw [hsz]; omega, Or.inl (by rw [hsz]; omega), trivial⟩
            case measure => simp only [hsz]; omega
          · have htli : ¬ (t.size : Int) < (p.size : Int) := by omega
            have HT := Lib.hid (show t.size ≤ 100400 from by omega)
            have hpt : p.size ≤ t.size := by omega
            have hsl := fun W => slice_hi t (p.size : Int) p.size rfl hpt W
            obtain ⟨q2, hq2⟩ : ∃ q2 : ByteArray, q2 = ⟨(t.data.toList.take p.size).toArray⟩ := ⟨_, rfl⟩
            rw [← hq2] at hsl
            have hq2l : q2.data.toList.length = p.data.toList.length := by rw [hq2, HPS.out]; simp only [List.length_take]; rw [size_data]; omega
            have HQ2 := Lib.hid hq2l
            clear hq2 hq2l htp htl
            obtain ⟨R, hR⟩ : ∃ R, R = raw (plL p.data.toList q2.data.toList) := ⟨_, rfl⟩
            obtain ⟨fE, hfE⟩ : ∃ fE : Nat → Bool, fE = fun k => decide (Mat R (s.data.toList.drop k)) := ⟨_, rfl⟩
            obtain ⟨fB, hfB⟩ : ∃ fB : Nat → Bool, fB = fun k => decide (Mat R (s.data.toList.take k)) := ⟨_, rfl⟩
            have HR := Lib.hid hR
            have HFE := Lib.hid hfE
            have HFB := Lib.hid hfB
            clear hR hfE hfB
            go_wp2_with fail
            go_loopw [8, 9, 10] (fun v8 v9 v10 wr => ∃ k : Nat, v10 = .int .i64 (k : Int) ∧ v8 = .bool (anyU fE k) ∧ v9 = .bool (anyU fB k) ∧ k ≤ s.size + 1 ∧ Hid (Below w.heap.size w wr)) (fun _ _ v10 _ => s.size + 1 - (intOf v10).toNat)
            case atStart => exact ⟨0, rfl, rfl, rfl, Nat.zero_le _, HB1⟩
            case round =>
              obtain ⟨k, rfl, rfl, rfl, hk, HBR⟩ := hrel
              by_cases hks : k ≤ s.size
              · have hki : (k : Int) ≤ (s.size : Int) := by omega
                have hk0 : (0 : Int) ≤ (k : Int) := by omega
                have hs1 := fun W => slice_lo s (k : Int) k rfl hks W
                have hs2 := fun W => slice_hi s (k : Int) k rfl hks W
                obtain ⟨sd, hsd⟩ : ∃ sd : ByteArray, sd = ⟨(s.data.toList.drop k).toArray⟩ := ⟨_, rfl⟩
                obtain ⟨st, hst⟩ : ∃ st : ByteArray, st = ⟨(s.data.toList.take k).toArray⟩ := ⟨_, rfl⟩
                rw [← hsd] at hs1
                rw [← hst] at hs2
                have hsdd : sd.data.toList = s.data.toList.drop k := by rw [hsd]
                have hstd : st.data.toList = s.data.toList.take k := by rw [hst]
                have D1 := fun W => lmatch p q2 sd (by omega) (by rw [← size_data, hsdd, List.length_drop, HSS.out]; omega) W
                have D2 := fun W => lmatch p q2 st (by omega) (by rw [← size_data, hstd, List.length_take, HSS.out]; omega) W
                rw [← HR.out, hsdd, show decide (Mat R (s.data.toList.drop k)) = fE k by rw [HFE.out]] at D1
                rw [← HR.out, hstd, show decide (Mat R (s.data.toList.take k)) = fB k by rw [HFB.out]] at D2
                have HEN := Lib.hid (show anyU fE (k + 1) = (anyU fE k || fE k) from rfl)
                have HBN := Lib.hid (show anyU fB (k + 1) = (anyU fB k || fB k) from rfl)
                obtain ⟨b1, hb1⟩ : ∃ b1, b1 = fE k := ⟨_, rfl⟩
                obtain ⟨b2, hb2⟩ : ∃ b2, b2 = fB k := ⟨_, rfl⟩
                rw [← hb1] at D1 HEN
                rw [← hb2] at D2 HBN
                clear hsd hst hsdd hstd hb1 hb2
                cases hev : anyU fE k with
                | true =>
                  cases hbv : anyU fB k with
                  | true =>
                    rw [hev] at HEN
                    rw [hbv] at HBN
                    go_wp2_with fail
                    go_roundw
                    case rel => exact ⟨k + 1, by simp, by rw [HEN.out]; rfl, by rw [HBN.out]; rfl, by omega, HBR⟩
                    case measure => simp only [intOf]; omega
                  | false =>
                    rw [hev] at HEN
                    rw [hbv] at HBN
                    go_wp2_with fail
                    refine (D2 _).mono ?_
                    rintro e w6 ⟨rfl, hb⟩
                    have HB6 := Lib.hid (below_two HBR.out hb)
                    clear hb
                    go_wp2_with fail
                    go_roundw
                    case rel => exact ⟨k + 1, by simp, by rw [HEN.out]; rfl, by rw [HBN.out]; rfl, by omega, HB6⟩
                    case measure => simp only [intOf]; omega
                | false =>
                  cases hbv : anyU fB k with
                  | true =>
                    rw [hev] at HEN
                    rw [hbv] at HBN
                    go_wp2_with fail
                    refine (D1 _).mono ?_
                    rintro e w5 ⟨rfl, hb⟩
                    have HB5 := Lib.hid (below_two HBR.out hb)
                    clear hb
                    go_wp2_with fail
                    go_roundw
                    case rel => exact ⟨k + 1, by simp, by rw [HEN.out]; rfl, by rw [HBN.out]; rfl, by omega, HB5⟩
                    case measure => simp only [intOf]; omega
                  | false =>
                    rw [hev] at HEN
                    rw [hbv] at HBN
                    go_wp2_with fail
                    refine (D1 _).mono ?_
                    rintro e w5 ⟨rfl, hb⟩
                    have HB5 := Lib.hid (below_two HBR.out hb)
                    clear hb
                    go_wp2_with fail
                    refine (D2 _).mono ?_
                    rintro e w6 ⟨rfl, hb⟩
                    have HB6 := Lib.hid (below_two HB5.out hb)
                    clear hb
                    go_wp2_with fail
                    go_roundw
                    case rel => exact ⟨k + 1, by simp, by rw [HEN.out]; rfl, by rw [HBN.out]; rfl, by omega, HB6⟩
                    case measure => simp only [intOf]; omega
              · have hki : ¬ (k : Int) ≤ (s.size : Int) := by omega
                have hke : k = s.size + 1 := by omega
                obtain ⟨p1, hp1⟩ : ∃ p1 : ByteArray, p1 = (⟨#[42]⟩ : ByteArray) ++ p := ⟨_, rfl⟩
                obtain ⟨q1, hq1⟩ : ∃ q1 : ByteArray, q1 = (⟨#[48]⟩ : ByteArray) ++ q2 := ⟨_, rfl⟩
                obtain ⟨p3, hp3⟩ : ∃ p3 : ByteArray, p3 = p ++ (⟨#[42]⟩ : ByteArray) := ⟨_, rfl⟩
                obtain ⟨q3, hq3⟩ : ∃ q3 : ByteArray, q3 = q2 ++ (⟨#[48]⟩ : ByteArray) := ⟨_, rfl⟩
                have hdp1 : p1.data.toList = 42 :: p.data.toList := by rw [hp1]; simp [ByteArray.data_append]
                have hdq1 : q1.data.toList = 48 :: q2.data.toList := by rw [hq1]; simp [ByteArray.data_append]
                have hdp3 : p3.data.toList = p.data.toList ++ [42] := by rw [hp3]; simp [ByteArray.data_append]
                have hdq3 : q3.data.toList = q2.data.toList ++ [48] := by rw [hq3]; simp [ByteArray.data_append]
                have hq2s : q2.size = p.size := by rw [← size_data, HQ2.out, HPS.out]
                have D1 := fun W => lmatch p1 q1 s (by rw [← size_data, hdp1, List.length_cons, HPS.out]; omega) (by omega) W
                have D2 := fun W => lmatch p3 q3 s (by rw [← size_data, hdp3, List.length_append, HPS.out]; simp only [List.length_singleton]; omega) (by omega) W
                rw [hdp1, hdq1, any_mat R s.data.toList (fun k => s.data.toList.drop k) _ (by rw [HR.out]; exact star_ends _ _ _ HALL.out), ← HFE.out, HSS.out, ← hke] at D1
                rw [hdp3, hdq3, any_mat R s.data.toList (fun k => s.data.toList.take k) _ (by rw [HR.out]; exact star_begins _ _ _ HQ2.out HALL.out), ← HFB.out, HSS.out, ← hke] at D2
                rw [hp1, hq1] at D1
                rw [hp3, hq3] at D2
                have hl1 : ¬ 9223372036854775807 < 1 + p.size := by omega
                have hl2 : ¬ 9223372036854775807 < 1 + q2.size := by omega
                have hl3 : ¬ 9223372036854775807 < p.size + 1 := by omega
                have hl4 : ¬ 9223372036854775807 < q2.size + 1 := by omega
                obtain ⟨ev, hev⟩ : ∃ ev, ev = anyU fE k := ⟨_, rfl⟩
                obtain ⟨bv, hbv⟩ : ∃ bv, bv = anyU fB k := ⟨_, rfl⟩
                rw [← hev] at D1 ⊢
                rw [← hbv] at D2 ⊢
                clear hke hp1 hq1 hp3 hq3 hdp1 hdq1 hdp3 hdq3 hq2s hev hbv
                cases ev <;> cases bv
                all_goals
                  go_wp2_with fail
                  refine (D1 _).mono ?_
                  rintro e w5 ⟨rfl, hb⟩
                  have HB5 := Lib.hid (below_two HBR.out hb)
                  clear hb
                  go_wp2_with fail
                  refine (D2 _).mono ?_
                  rintro e w6 ⟨rfl, hb⟩
                  have HB6 := Lib.hid (below_two HB5.out hb)
                  clear hb
                  go_wp2_with fail
                  refine (CA _).mono ?_
                  rintro e w7 ⟨rfl, hb⟩
                  have HB7 := Lib.hid (below_two HB6.out hb)
                  clear hb
                  go_wp2_with fail
                  go_ret
                  exact ⟨rfl, HB7.out⟩
end Go.Proofs.Ytnnabbmdpoenkaa
