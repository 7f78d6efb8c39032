/-
  The reference's class.
-/
import Derived.Test.YtfldhggmgepcjaaERef
import Derived.Deep.Cut
namespace Go.Proofs.Ytfldhggmgepcjaa
set_option maxRecDepth 100000
open Go Go.RowKit

set_option maxHeartbeats 4000000 in
theorem rclass (P Q : ByteArray) (hP : P.size ≤ 100000) (i : Nat) (hi : i ≤ P.size) (x : Int) (hx : x = (i : Int)) (w : World) : Calls Try.prog 35 #[.string P, .string Q, .int .i64 x] w fun e w' => e = .returned (.tuple #[.string (rclX P (plL P.data.toList Q.data.toList) i).1, .int .i64 (rclX P (plL P.data.toList Q.data.toList) i).2]) ∧ w = w' := by
  subst hx
  have HK := Lib.hid (fun j c x y hx hy W => rat P Q j c x y hx hy W)
  have HF := Lib.hid (fun (j : Nat) (h : j < P.size) => isP_flg P Q j P[j] h)
  obtain ⟨L, hL⟩ : ∃ L, L = plL P.data.toList Q.data.toList := ⟨_, rfl⟩
  have hcl := clsE_at L i
  rw [← hL] at HK HF ⊢
  cases h1 : isP L i 91 with
  | false =>
    have HR := Lib.hid (show rclX P L i = (⟨#[]⟩, 0) from rclX_none (by rw [hcl, if_neg]; rintro ⟨h, -⟩; rw [h1] at h; cases h))
    rw [HR.out]
    have C := HK.out i 91 (i : Int) 91 rfl rfl
    rw [h1] at C
    clear hcl hL
    go_enter Try.func35, Try.ntmps35
    go_wp2_with fail
    refine (C _).mono ?_
    rintro e w1 ⟨rfl, rfl⟩
    go_wp2_with fail
    go_ret2
    exact ⟨rfl, rfl⟩
  | true =>
    have C1 := HK.out i 91 (i : Int) 91 rfl rfl
    rw [h1] at C1
    have C2 := HK.out (i + 1) 58 ((i : Int) + 1) 58 (by omega) rfl
    cases h2 : isP L (i + 1) 58 with
    | false =>
      have HR := Lib.hid (show rclX P L i = (⟨#[]⟩, 0) from rclX_none (by rw [hcl, if_neg]; rintro ⟨-, h, -⟩; rw [h2] at h; cases h))
      rw [HR.out]
      rw [h2] at C2
      clear hcl hL
      go_enter Try.func35, Try.ntmps35
      go_wp2_with fail
      refine (C1 _).mono ?_
      rintro e w1 ⟨rfl, rfl⟩
      go_wp2_with fail
      refine (C2 _).mono ?_
      rintro e w2 ⟨rfl, rfl⟩
      go_wp2_with fail
      go_ret2
      exact ⟨rfl, rfl⟩
    | true =>
      rw [h2] at C2
      obtain ⟨k, hk⟩ : ∃ k, k = (nameL (L.drop i)).length := ⟨_, rfl⟩
      rw [← hk] at hcl
      have HIN := Lib.hid (show ∀ j, i + 2 ≤ j → j < i + 2 + k → ∃ hj : j < P.size, isP L j P[j] = true ∧ 97 ≤ P[j].toNat ∧ P[j].toNat ≤ 122 from fun j h1 h2 => by
        have h := name_in P Q i (j - (i + 2)) (by rw [← hL, ← hk]; omega)
        rw [← hL] at h
        simp only [show i + 2 + (j - (i + 2)) = j by omega] at h
        exact h)
      have HOUT := Lib.hid (show ∀ j, j = i + 2 + k → ∀ hj : j < P.size, (isP L j P[j] && (decide (97 ≤ P[j].toNat) && decide (P[j].toNat ≤ 122))) = false from fun j h1 hj => by
        subst h1
        have h := name_out P Q i (by rw [← hL, ← hk]; exact hj)
        simp only [← hL, ← hk] at h
        exact h)
      have hkl : i + 2 + k ≤ P.size + 2 := by
        have := while_le low ((L.drop i).drop 2)
        unfold nameL at hk
        rw [hL] at hk this
        simp only [List.length_drop, pl_len, size_data] at this
        omega
      have HLS := Lib.hid (show L.length = P.size by rw [hL, pl_len, size_data])
      have HCL := Lib.hid (show clsE (L.drop i) = if isP L (i + 2 + k) 58 = true ∧ isP L (i + 2 + k + 1) 93 = true then some k else none by
        rw [hcl]
        by_cases h : isP L (i + 2 + k) 58 = true ∧ isP L (i + 2 + k + 1) 93 = true
        · rw [if_pos h, if_pos ⟨h1, h2, h.1, h.2⟩]
        · rw [if_neg h, if_neg]; rintro ⟨-, -, h3, h4⟩; exact h ⟨h3, h4⟩)
      have HIL := Lib.hid (isP_lt h2)
      clear hk hL hcl
      go_enter Try.func35, Try.ntmps35
      go_wp2_with fail
      refine (C1 _).mono ?_
      rintro e w1 ⟨rfl, rfl⟩
      go_wp2_with fail
      refine (C2 _).mono ?_
      rintro e w2 ⟨rfl, rfl⟩
      go_wp2_with fail
      go_loopw [8] (fun v wr => ∃ j : Nat, i + 2 ≤ j ∧ j ≤ i + 2 + k ∧ v = .int .i64 (j : Int) ∧ w = wr) (fun v _ => i + 2 + k - (intOf v).toNat)
      case atStart => exact ⟨i + 2, Nat.le_refl _, by omega, by simp, rfl⟩
      case round =>
        obtain ⟨j, hjl, hjh, rfl, rfl⟩ := hrel
        by_cases hlt : j < i + 2 + k
        · obtain ⟨hj, hp, hlo, hhi⟩ := HIN.out j hjl hlt
          have hji : (j : Int) < (P.size : Int) := by omega
          have hl1 : decide ((97 : Int) ≤ (P[j].toNat : Int)) = true := decide_eq_true (by omega)
          have hl2 : decide ((P[j].toNat : Int) ≤ 122) = true := decide_eq_true (by omega)
          have hfl : flg Q.data.toList j = true := by
            have h := HF.out j hj
            rw [hp] at h
            simpa using h.symm
          have C3 := rplain Q j (j : Int) rfl w
          rw [hfl] at C3
          clear hfl
          go_wp2_with fail
          refine C3.mono ?_
          rintro e w5 ⟨rfl, rfl⟩
          go_wp2_with fail
          go_roundw
          case rel => exact ⟨j + 1, by omega, by omega, by simp, trivial⟩
          case measure => simp only [intOf]; omega
        · have hKk : j = i + 2 + k := by omega
          have hst : (decide (j < P.size) = false) ∨ ∃ hj : j < P.size, (flg Q.data.toList j = false ∨ flg Q.data.toList j = true ∧ (decide ((97 : Int) ≤ (P[j].toNat : Int)) = false ∨ decide ((97 : Int) ≤ (P[j].toNat : Int)) = true ∧ decide ((P[j].toNat : Int) ≤ 122) = false)) := by
            by_cases hj : j < P.size
            · refine Or.inr ⟨hj, ?_⟩
              have ho := HOUT.out j hKk hj
              rw [HF.out j hj] at ho
              cases hp : flg Q.data.toList j with
              | false => exact Or.inl rfl
              | true =>
                rw [hp] at ho
                refine Or.inr ⟨rfl, ?_⟩
                by_cases h97 : 97 ≤ P[j].toNat
                · refine Or.inr ⟨decide_eq_true (by omega), decide_eq_false fun h122 => ?_⟩
                  rw [decide_eq_true h97, decide_eq_true (show P[j].toNat ≤ 122 by omega)] at ho
                  simp at ho
                · exact Or.inl (decide_eq_false (by omega))
            · exact Or.inl (decide_eq_false hj)
          have hcl := HCL.out
          rw [← hKk] at hcl
          have C4 := HK.out j 58 (j : Int) 58 rfl rfl
          have C5 := HK.out (j + 1) 93 ((j : Int) + 1) 93 (by omega) rfl
          have C3 := rplain Q j (j : Int) rfl w
          have hkj : k = j - (i + 2) := by omega
          have HRES := Lib.hid (show rclX P L i = if isP L j 58 = true ∧ isP L (j + 1) 93 = true then (P.extract (i + 2) j, (j : Int) + 2 - (i : Int)) else (⟨#[]⟩, 0) by
            by_cases h : isP L j 58 = true ∧ isP L (j + 1) 93 = true
            · rw [if_pos h] at hcl ⊢
              rw [rclX_some hcl, ← hKk]
              congr 1
              omega
            · rw [if_neg h] at hcl ⊢
              exact rclX_none hcl)
          clear HOUT HIN HK HF HCL hKk hcl hkj
          cases h4 : isP L j 58
          case' true => cases h5 : isP L (j + 1) 93
          all_goals
            rw [h4] at C4
            first | rw [h5] at C5 | skip
            have HJP := Lib.hid (show isP L (j + 1) 93 = true → j < P.size from fun h => by have := isP_lt h; rw [HLS.out] at this; omega)
            rcases hst with hji | ⟨hj, hf | ⟨hf, hl1 | ⟨hl1, hl2⟩⟩⟩
            all_goals
              first | (have hji : (j : Int) < (P.size : Int) := Int.ofNat_lt.2 hj) | skip
              first | rw [hf] at C3 | skip
              first | clear hf | skip
              go_wp2_with (first | (go_at_call 34; refine C3.mono ?_; rintro e w5 ⟨rfl, rfl⟩) | fail)
              refine (C4 _).mono ?_
              rintro e w6 ⟨rfl, rfl⟩
              go_wp2_with fail
              first
              | (go_ret2; exact ⟨by rw [HRES.out, if_neg (by rintro ⟨h, -⟩; rw [h4] at h; cases h)]; rfl, rfl⟩)
              | (refine (C5 _).mono ?_
                 rintro e w7 ⟨rfl, rfl⟩
                 go_wp2_with fail
                 go_ret2
                 exact ⟨by rw [HRES.out, if_neg (by rintro ⟨-, h⟩; rw [h5] at h; cases h)]; rfl, rfl⟩)
              | (have hjp := HJP.out h5
                 have hHSL := fun W => run_slice_string (P := Try.prog) (w := W) 9 P .i64 .i64 ((i : Int) + 2) (j : Int) Try.underlying9 (by omega) (by omega) (by omega)
                 rw [show ((i : Int) + 2).toNat = i + 2 by omega, Int.toNat_natCast] at hHSL
                 refine (C5 _).mono ?_
                 rintro e w7 ⟨rfl, rfl⟩
                 go_wp2_with fail
                 go_ret2
                 exact ⟨by rw [HRES.out, if_pos ⟨h4, h5⟩]; rfl, rfl⟩)
end Go.Proofs.Ytfldhggmgepcjaa
