/-
  The law PattTurned, walked.
-/
import Derived.Test.YtnnabbmdpoenkaaQLaws
import Derived.Test.YtnnabbmdpoenkaaQAwake
namespace Go.Proofs.Ytnnabbmdpoenkaa
set_option maxRecDepth 100000
open Go Go.RowKit

theorem u8_of {n : Int} (h0 : 0 ≤ n) (h1 : n < 256) : ∃ c : UInt8, (c.toNat : Int) = n := ⟨UInt8.ofNat n.toNat, by
  rw [UInt8.toNat_ofNat']
  omega⟩
set_option maxHeartbeats 8000000 in
theorem pturned_walk (M : ByteArray) (lM : M.size ≤ 281474976710656) (n : Int) (hn0 : 0 ≤ n) (hn1 : n < 256) (w : World) : Calls Try.prog 6 #[.string M, .int .u8 n] w fun e w' => e = .returned (.bool true) ∧ Below w.heap.size w w' := by
  obtain ⟨c, rfl⟩ := u8_of hn0 hn1
  obtain ⟨w1, hw1⟩ : ∃ w1, w1 = w.alloc (.cells #[.string M] 9) := ⟨_, rfl⟩
  have hb1 : Below w.heap.size w w1 := by rw [hw1]; exact below_box _ _
  have hR1 : RowAt w1 w.heap.size ([M].map Value.string) 9 := by rw [hw1]; exact new_block _ _
  have C1 := lshort [M] (by simp) (fun x hx => by rw [List.mem_singleton] at hx; subst hx; exact lM) w.heap.size w1 hR1
  have CA := fun W => lawakeq W
  have HW1 := Lib.hid hw1
  have HB1 := Lib.hid hb1
  have HMS := Lib.hid (size_data M)
  clear hw1 hb1 hR1 hn0 hn1
  cases hsh : shB [M] with
  | false =>
    rw [hsh] at C1
    go_enter Try.func6, Try.ntmps6
    go_wp2_with fail
    rw [← HW1.out]
    refine C1.mono ?_
    rintro e w2 ⟨rfl, rfl⟩
    go_wp2_with fail
    refine (CA _).mono ?_
    rintro e w3 ⟨rfl, hb⟩
    have HB3 := Lib.hid (below_two HB1.out hb)
    clear hb
    go_wp2_with fail
    go_ret
    exact ⟨rfl, HB3.out⟩
  | true =>
    rw [hsh] at C1
    have hM4 : M.size ≤ 400 := by
      unfold shB at hsh
      rw [decide_eq_true_iff] at hsh
      simpa [sumS] using hsh
    clear hsh
    by_cases hE : M.data.toList = []
    · have hM0 := text_nil hE
      subst hM0
      clear hE
      go_enter Try.func6, Try.ntmps6
      go_wp2_with fail
      rw [← HW1.out]
      refine C1.mono ?_
      rintro e w2 ⟨rfl, rfl⟩
      go_wp2_with fail
      refine (CA _).mono ?_
      rintro e w3 ⟨rfl, hb⟩
      have HB3 := Lib.hid (below_two HB1.out hb)
      clear hb
      go_wp2_with fail
      go_ret
      exact ⟨rfl, HB3.out⟩
    · have hne1 : M.toList.isEmpty = false := by
        rw [ByteArray.toList_eq]
        cases hm : M.data.toList with
        | nil => exact absurd hm hE
        | cons a b => rfl
      have hne2 : (M.toList == []) = false := by
        rw [ByteArray.toList_eq]
        cases hm : M.data.toList with
        | nil => exact absurd hm hE
        | cons a b => rfl
      have hMp : 0 < M.size := by
        rw [← HMS.out]
        exact List.length_pos_iff.2 hE
      have hMpi : (0 : Int) < (M.size : Int) := by omega
      cases h33 : ((M[0].toNat : Int) == 33) with
      | true =>
        go_enter Try.func6, Try.ntmps6
        go_wp2_with fail
        rw [← HW1.out]
        refine C1.mono ?_
        rintro e w2 ⟨rfl, rfl⟩
        go_wp2_with fail
        refine (CA _).mono ?_
        rintro e w3 ⟨rfl, hb⟩
        have HB3 := Lib.hid (below_two HB1.out hb)
        clear hb
        go_wp2_with fail
        go_ret
        exact ⟨rfl, HB3.out⟩
      | false =>
        go_enter Try.func6, Try.ntmps6
        go_wp2_with fail
        rw [← HW1.out]
        refine C1.mono ?_
        rintro e w2 ⟨rfl, rfl⟩
        go_wp2_with fail
        go_loopw [5] (fun v5 wr => ∃ i, v5 = .int .i64 ((i : Nat) : Int) ∧ i ≤ M.size ∧ Hid (∀ j (h : j < M.size), j < i → M[j] ≠ 91 ∧ M[j] ≠ 93) ∧ w1 = wr) (fun v5 _ => M.size - (intOf v5).toNat)
        case atStart => exact ⟨0, rfl, Nat.zero_le _, (show ∀ j (h : j < M.size), j < 0 → _ from fun _ _ h => absurd h (Nat.not_lt_zero _)), rfl⟩
        case round =>
          obtain ⟨i, rfl, hi, HFR, rfl⟩ := hrel
          by_cases hlt : i < M.size
          · have hii : (i : Int) < (M.size : Int) := by omega
            cases e93 : ((M[i].toNat : Int) == 93) with
            | true =>
              go_wp2_with fail
              refine (CA _).mono ?_
              rintro e w3 ⟨rfl, hb⟩
              have HB3 := Lib.hid (below_two HB1.out hb)
              clear hb
              go_wp2_with fail
              go_ret
              exact ⟨rfl, HB3.out⟩
            | false =>
              cases e91 : ((M[i].toNat : Int) == 91) with
              | true =>
                go_wp2_with fail
                refine (CA _).mono ?_
                rintro e w3 ⟨rfl, hb⟩
                have HB3 := Lib.hid (below_two HB1.out hb)
                clear hb
                go_wp2_with fail
                go_ret
                exact ⟨rfl, HB3.out⟩
              | false =>
                have HN := Lib.hid (show ∀ j (h : j < M.size), j < i + 1 → M[j] ≠ 91 ∧ M[j] ≠ 93 from fun j h hj => by
                  by_cases e : j = i
                  · subst e
                    refine ⟨fun e => ?_, fun e => ?_⟩
                    · rw [e] at e91; cases e91
                    · rw [e] at e93; cases e93
                  · exact HFR.out j h (by omega))
                go_wp2_with fail
                go_roundw
                case rel => exact ⟨i + 1, by simp, by omega, HN, trivial⟩
                case measure => simp only [intOf]; omega
          · have hii : ¬ (i : Int) < (M.size : Int) := by omega
            have HALL := Lib.hid (show ∀ x ∈ M.data.toList, x ≠ 91 ∧ x ≠ 93 from fun x hx => by
              obtain ⟨j, hj, rfl⟩ := List.getElem_of_mem hx
              exact HFR.out j (by rw [← HMS.out]; exact hj) (by rw [HMS.out] at hj; omega))
            have HNE := Lib.hid hE
            have H33 := Lib.hid (show M.data.toList[0]? ≠ some 33 from fun e => by
              rw [get_data M 0 hMp] at e
              rw [Option.some.inj e] at h33; cases h33)
            obtain ⟨S, hS⟩ : ∃ S : ByteArray, S = ⟨[c].toArray⟩ := ⟨_, rfl⟩
            have HSD := Lib.hid (show S.data.toList = [c] by rw [hS])
            have hSs : S.size ≤ 100000 := by rw [← size_data, HSD.out]; simp
            obtain ⟨w4, hw4⟩ : ∃ w4, w4 = w1.alloc (.cells #[.int .u8 (c.toNat : Int)] 5) := ⟨_, rfl⟩
            have hb4 : Below w1.heap.size w1 w4 := by rw [hw4]; exact below_box _ _
            have hcb := run_convert_bytes_back (P := Try.prog) w4 28 9 5 ⟨w1.heap.size, 0, none⟩ 1 [c] Try.underlying28 Try.underlying5 Try.underlying9 (fun j hj => by
              rw [addr_zero]
              have h0 : j = 0 := by simp at hj; omega
              subst h0
              rw [hw4]
              exact blk_cell (new_block _ _) 0)
            rw [← hS, hw4, List.length_singleton] at hcb
            obtain ⟨p1, hp1⟩ : ∃ p1 : ByteArray, p1 = (⟨#[91]⟩ : ByteArray) ++ M ++ (⟨#[93]⟩ : ByteArray) := ⟨_, rfl⟩
            obtain ⟨p2, hp2⟩ : ∃ p2 : ByteArray, p2 = (⟨#[91, 33]⟩ : ByteArray) ++ M ++ (⟨#[93]⟩ : ByteArray) := ⟨_, rfl⟩
            have HP1 := Lib.hid hp1
            have HP2 := Lib.hid hp2
            have hd1 : p1.data.toList = 91 :: (M.data.toList ++ [93]) := by rw [hp1]; simp [ByteArray.data_append]
            have hd2 : p2.data.toList = 91 :: 33 :: (M.data.toList ++ [93]) := by rw [hp2]; simp [ByteArray.data_append]
            have hs1 : p1.size ≤ 100000 := by rw [← size_data, hd1]; simp only [List.length_cons, List.length_append, List.length_nil]; rw [HMS.out]; omega
            have hs2 : p2.size ≤ 100000 := by rw [← size_data, hd2]; simp only [List.length_cons, List.length_append, List.length_nil]; rw [HMS.out]; omega
            have D1 := fun W => lmatch p1 ⟨#[]⟩ S hs1 hSs W
            have D2 := fun W => lmatch p2 ⟨#[]⟩ S hs2 hSs W
            rw [hd1, HSD.out] at D1
            rw [hd2, HSD.out, show (ByteArray.mk #[]).data.toList = [] from rfl, turned_plain _ HNE.out H33.out HALL.out] at D2
            rw [show (ByteArray.mk #[]).data.toList = [] from rfl] at D1
            obtain ⟨b, hb⟩ : ∃ b, b = decide (Mat (raw (plL (91 :: (M.data.toList ++ [93])) [])) [c]) := ⟨_, rfl⟩
            rw [← hb] at D1 D2
            have HB4 := Lib.hid (below_two HB1.out hb4)
            have hl1 : ¬ 9223372036854775807 < M.size + 1 := by omega
            rw [hp1] at D1
            rw [hp2] at D2
            have HW4 := Lib.hid hw4
            clear hb4 hw4 hS hd1 hd2 hs1 hs2 hp1 hp2 hb hE
            go_wp2_with fail
            rw [← HW4.out]
            refine (D1 _).mono ?_
            rintro e w5 ⟨rfl, hb⟩
            have HB5 := Lib.hid (below_two HB4.out hb)
            clear hb
            go_wp2_with fail
            refine (D2 _).mono ?_
            rintro e w6 ⟨rfl, hb⟩
            have HB6 := Lib.hid (below_two HB5.out hb)
            clear hb
            cases b
            all_goals
              go_wp2_with fail
              refine (CA _).mono ?_
              rintro e w7 ⟨rfl, hb⟩
              have HB7 := Lib.hid (below_two HB6.out hb)
              clear hb
              go_wp2_with fail
              go_ret
              exact ⟨rfl, HB7.out⟩
end Go.Proofs.Ytnnabbmdpoenkaa
