/-
  The landed code's classEnd and behind.
-/
import Derived.Test.YtfldhggmgepcjaaQTells
import Derived.Test.YtfldhggmgepcjaaGrown
import Derived.Deep.Cut
namespace Go.Proofs.Ytfldhggmgepcjaa
set_option maxRecDepth 100000
open Go Go.RowKit

theorem while_in {α : Type} (p : α → Bool) : ∀ (M : List α) (j : Nat) (x : α), j < (M.takeWhile p).length → M[j]? = some x → p x = true
  | [], _, _, h, _ => by simp at h
  | y :: M, j, x, h, hx => by
    rw [List.takeWhile_cons] at h
    cases hy : p y with
    | false => rw [hy] at h; simp at h
    | true =>
      rw [hy] at h
      cases j with
      | zero => simp at hx; rw [← hx]; exact hy
      | succ j => exact while_in p M j x (by simpa using h) (by simpa using hx)
theorem while_out {α : Type} (p : α → Bool) : ∀ (M : List α) (x : α), M[(M.takeWhile p).length]? = some x → p x = false
  | [], _, h => by cases h
  | y :: M, x, h => by
    rw [List.takeWhile_cons] at h
    cases hy : p y with
    | false => rw [hy] at h; simp at h; rw [← h]; exact hy
    | true => rw [hy] at h; exact while_out p M x (by simpa using h)
theorem while_le {α : Type} (p : α → Bool) (M : List α) : (M.takeWhile p).length ≤ M.length := (List.takeWhile_prefix p).length_le

/-- What classEnd answers. -/
def clsX (L : Pl) (i : Nat) : Int × Bool := if isP L i 91 = true ∧ isP L (i + 1) 58 = true then (((i + 2 + (nameL (L.drop i)).length : Nat) : Int) + 2, isP L (i + 2 + (nameL (L.drop i)).length) 58 && isP L (i + 2 + (nameL (L.drop i)).length + 1) 93) else (0, false)
theorem clsX_some {L : Pl} {i k : Nat} (h : clsE (L.drop i) = some k) : clsX L i = (((i + k + 4 : Nat) : Int), true) := by
  obtain ⟨rfl, h1, h2, h3, h4⟩ := clsE_some h
  rw [isP_drop] at h1 h2 h3 h4
  unfold clsX
  rw [if_pos ⟨by simpa using h1, h2⟩]
  rw [← Nat.add_assoc] at h3 h4
  rw [show i + 2 + (nameL (L.drop i)).length + 1 = i + 3 + (nameL (L.drop i)).length by omega, h3, h4]
  congr 1
  omega
theorem clsX_none {L : Pl} {i : Nat} (h : clsE (L.drop i) = none) : (clsX L i).2 = false := by
  unfold clsE at h
  simp only [isP_drop, Nat.add_zero, ← Nat.add_assoc] at h
  unfold clsX
  split
  · rename_i hc
    split at h
    · cases h
    · rename_i hn
      show (_ && _) = false
      rw [show i + 2 + (nameL (L.drop i)).length + 1 = i + 3 + (nameL (L.drop i)).length by omega]
      cases h1 : isP L (i + 2 + (nameL (L.drop i)).length) 58 with
      | false => rfl
      | true =>
        cases h2 : isP L (i + 3 + (nameL (L.drop i)).length) 93 with
        | false => rfl
        | true => exact absurd ⟨hc.1, hc.2, h1, h2⟩ hn
  · rfl

theorem pl_at (P Q : ByteArray) (j : Nat) (h : j < P.size) : (plL P.data.toList Q.data.toList)[j]? = some (P[j], isP (plL P.data.toList Q.data.toList) j P[j]) := by
  unfold isP
  rw [pl_get, get_data P j h]
  cases flg Q.data.toList j <;> simp
theorem name_in (P Q : ByteArray) (i K : Nat) (h : K < (nameL ((plL P.data.toList Q.data.toList).drop i)).length) : ∃ hj : i + 2 + K < P.size, isP (plL P.data.toList Q.data.toList) (i + 2 + K) P[i + 2 + K] = true ∧ 97 ≤ P[i + 2 + K].toNat ∧ P[i + 2 + K].toNat ≤ 122 := by
  unfold nameL at h
  have hl := while_le low (((plL P.data.toList Q.data.toList).drop i).drop 2)
  simp only [List.length_drop, pl_len, size_data] at hl
  have hj : i + 2 + K < P.size := by omega
  refine ⟨hj, ?_⟩
  have := while_in low _ K _ h (by rw [List.getElem?_drop, List.getElem?_drop, ← Nat.add_assoc]; exact pl_at P Q _ hj)
  simpa [low] using this
theorem name_out (P Q : ByteArray) (i : Nat) (hj : i + 2 + (nameL ((plL P.data.toList Q.data.toList).drop i)).length < P.size) : (isP (plL P.data.toList Q.data.toList) (i + 2 + (nameL ((plL P.data.toList Q.data.toList).drop i)).length) P[i + 2 + (nameL ((plL P.data.toList Q.data.toList).drop i)).length] && (decide (97 ≤ P[i + 2 + (nameL ((plL P.data.toList Q.data.toList).drop i)).length].toNat) && decide (P[i + 2 + (nameL ((plL P.data.toList Q.data.toList).drop i)).length].toNat ≤ 122))) = false := by
  have := while_out low (((plL P.data.toList Q.data.toList).drop i).drop 2) _ (by rw [List.getElem?_drop, List.getElem?_drop, ← Nat.add_assoc]; exact pl_at P Q _ hj)
  exact this

set_option maxHeartbeats 4000000 in
theorem lclassEnd (P Q : ByteArray) (hP : P.size ≤ 100000) (a : Option Addr) (n cap i : Nat) (hi : i ≤ P.size) (x : Int) (hx : x = (i : Int)) (w : World) : Calls Try.prog 37 #[.agg #[.string P, .string Q, .slice a n cap], .int .i64 x] w fun e w' => e = .returned (.tuple #[.int .i64 (clsX (plL P.data.toList Q.data.toList) i).1, .bool (clsX (plL P.data.toList Q.data.toList) i).2]) ∧ Below w.heap.size w w' := by
  subst hx
  have HB := Lib.hid (below_box w (.cells #[.string P, .string Q, .slice a n cap] 51))
  have HP := Lib.hid (PatAt.new w P Q a n cap)
  obtain ⟨L, hL⟩ : ∃ L, L = plL P.data.toList Q.data.toList := ⟨_, rfl⟩
  have HK := Lib.hid (fun j c x y hx hy W => lplain P Q a n cap j c x y hx hy W)
  rw [← hL] at HK ⊢
  cases h1 : isP L i 91 with
  | false =>
    have HR := Lib.hid (show clsX L i = (0, false) by unfold clsX; rw [if_neg]; rintro ⟨h, -⟩; rw [h1] at h; cases h)
    rw [HR.out]
    have C := HK.out i 91 (i : Int) 91 rfl rfl
    rw [h1] at C
    go_enter Try.func37, Try.ntmps37
    go_wp2_with fail
    refine (C _).mono ?_
    rintro e w1 ⟨rfl, hb⟩
    have HB1 := Lib.hid (below_two HB.out hb)
    clear hb
    go_wp2_with fail
    go_ret2
    exact ⟨rfl, HB1.out⟩
  | true =>
    have C1 := HK.out i 91 (i : Int) 91 rfl rfl
    rw [h1] at C1
    have C2 := HK.out (i + 1) 58 ((i : Int) + 1) 58 (by omega) rfl
    cases h2 : isP L (i + 1) 58 with
    | false =>
      have HR := Lib.hid (show clsX L i = (0, false) by unfold clsX; rw [if_neg]; rintro ⟨-, h⟩; rw [h2] at h; cases h)
      rw [HR.out]
      rw [h2] at C2
      go_enter Try.func37, Try.ntmps37
      go_wp2_with fail
      refine (C1 _).mono ?_
      rintro e w1 ⟨rfl, hb⟩
      obtain ⟨c0, c1, c2⟩ := (HP.out.below hb).cells
      have HB1 := Lib.hid (below_two HB.out hb)
      clear hb
      go_wp2_with fail
      refine (C2 _).mono ?_
      rintro e w2 ⟨rfl, hb⟩
      have HB2 := Lib.hid (below_two HB1.out hb)
      clear hb
      go_wp2_with fail
      go_ret2
      exact ⟨rfl, HB2.out⟩
    | true =>
      rw [h2] at C2
      obtain ⟨k, hk⟩ : ∃ k, k = (nameL (L.drop i)).length := ⟨_, rfl⟩
      have HR := Lib.hid (show clsX L i = (((i + 2 + k : Nat) : Int) + 2, isP L (i + 2 + k) 58 && isP L (i + 2 + k + 1) 93) by unfold clsX; rw [if_pos ⟨h1, h2⟩, hk])
      rw [HR.out]
      have HIN := Lib.hid (show ∀ j, i + 2 ≤ j → j < i + 2 + k → ∃ hj : j < P.size, isP L j P[j] = true ∧ 97 ≤ P[j].toNat ∧ P[j].toNat ≤ 122 from fun j h1 h2 => by
        have h := name_in P Q i (j - (i + 2)) (by rw [← hL, ← hk]; omega)
        rw [← hL] at h
        simp only [show i + 2 + (j - (i + 2)) = j by omega] at h
        exact h)
      have HOUT := Lib.hid (show ∀ j, j = i + 2 + k → ∀ hj : j < P.size, (isP L j P[j] && (decide (97 ≤ P[j].toNat) && decide (P[j].toNat ≤ 122))) = false from fun j h1 hj => by
        subst h1
        have h := name_out P Q i (by rw [← hL, ← hk]; exact hj)
        simp only [← hL, ← hk] at h
        exact h)
      have hkl : i + 2 + k ≤ P.size + 2 := by
        have := while_le low ((L.drop i).drop 2)
        unfold nameL at hk
        rw [hL] at hk this
        simp only [List.length_drop, pl_len, size_data] at this
        omega
      clear hk hL
      go_enter Try.func37, Try.ntmps37
      go_wp2_with fail
      refine (C1 _).mono ?_
      rintro e w1 ⟨rfl, hb⟩
      have HP1 := Lib.hid (HP.out.below hb)
      obtain ⟨c0, c1, c2⟩ := HP1.out.cells
      have HB1 := Lib.hid (below_two HB.out hb)
      clear hb
      go_wp2_with fail
      refine (C2 _).mono ?_
      rintro e w2 ⟨rfl, hb⟩
      have HP2 := Lib.hid (HP1.out.below hb)
      have HB2 := Lib.hid (below_two HB1.out hb)
      clear hb c0 c1 c2
      go_wp2_with fail
      go_loopw [6] (fun v wr => ∃ j : Nat, i + 2 ≤ j ∧ j ≤ i + 2 + k ∧ v = .int .i64 (j : Int) ∧ Hid (PatAt wr w.heap.size P Q a n cap) ∧ Hid (Below w.heap.size w wr)) (fun v _ => i + 2 + k - (intOf v).toNat)
      case atStart => exact ⟨i + 2, Nat.le_refl _, by omega, by simp, HP2, HB2⟩
      case round =>
        obtain ⟨j, hjl, hjh, rfl, HPR, HBR⟩ := hrel
        obtain ⟨c0, c1, c2⟩ := HPR.out.cells
        have hgr := hP
        by_cases hlt : j < i + 2 + k
        · obtain ⟨hj, hp, hlo, hhi⟩ := HIN.out j hjl hlt
          have hji : (j : Int) < (P.size : Int) := by omega
          have hj0 : (0 : Int) ≤ (j : Int) := by omega
          have hl1 : decide ((97 : Int) ≤ (P[j].toNat : Int)) = true := decide_eq_true (by omega)
          have hl2 : decide ((P[j].toNat : Int) ≤ 122) = true := decide_eq_true (by omega)
          have C3 := HK.out j P[j] (j : Int) (P[j].toNat : Int) rfl rfl
          rw [hp] at C3
          have H1 := Lib.hid (grown_call (wb := wr) fun W _ => C3 W)
          have f0 := grown_cell c0
          have f1 := grown_cell c1
          have f2 := grown_cell c2
          clear C3 c0 c1 c2
          go_upto_region 4 with fail
          refine wp_region_grown (by kernel_rfl) (by kernel_rfl) ?_
          repeat (first | go_big_quiet_skip | (go_big_quiet_want; go_big_quiet_op; (first | go_big_quiet_on | (with_reducible refine ⟨_, H1.out, ?_⟩; go_big_quiet_on))))
          refine wpQuiet_nil ?_
          intro w5 hw5
          have hbg : Below wr.heap.size wr w5 := by obtain ⟨x, rfl⟩ := hw5; exact x.below
          have HP5 := Lib.hid (HPR.out.below hbg)
          have HB5 := Lib.hid (below_two HBR.out hbg)
          clear hw5 hbg f0 f1 f2
          go_wp2_with fail
          go_roundw
          case rel => exact ⟨j + 1, by omega, by omega, by simp, HP5, HB5⟩
          case measure => simp only [intOf]; omega
        · have hKk : j = i + 2 + k := by omega
          have HKK := Lib.hid hKk
          clear hKk
          have hst : (decide (j < P.size) = false ∧ (False → Calls Try.prog 30 #[] w fun _ _ => True)) ∨ ∃ hj : j < P.size, ((∀ W, Calls Try.prog 30 #[.agg #[.string P, .string Q, .slice a n cap], .int .i64 (j : Int), .int .u8 (P[j].toNat : Int)] W fun e w' => e = .returned (.bool false) ∧ Below W.heap.size W w') ∨
              (∀ W, Calls Try.prog 30 #[.agg #[.string P, .string Q, .slice a n cap], .int .i64 (j : Int), .int .u8 (P[j].toNat : Int)] W fun e w' => e = .returned (.bool true) ∧ Below W.heap.size W w') ∧ (decide ((97 : Int) ≤ (P[j].toNat : Int)) = false ∨ decide ((97 : Int) ≤ (P[j].toNat : Int)) = true ∧ decide ((P[j].toNat : Int) ≤ 122) = false)) := by
            by_cases hj : j < P.size
            · refine Or.inr ⟨hj, ?_⟩
              have ho := HOUT.out j HKK.out hj
              have C3 := HK.out j P[j] (j : Int) (P[j].toNat : Int) rfl rfl
              cases hp : isP L j P[j] with
              | false => rw [hp] at C3; exact Or.inl C3
              | true =>
                rw [hp] at C3 ho
                refine Or.inr ⟨C3, ?_⟩
                by_cases h97 : 97 ≤ P[j].toNat
                · refine Or.inr ⟨decide_eq_true (by omega), decide_eq_false fun h122 => ?_⟩
                  rw [decide_eq_true h97, decide_eq_true (show P[j].toNat ≤ 122 by omega)] at ho
                  cases ho
                · exact Or.inl (decide_eq_false (by omega))
            · exact Or.inl ⟨decide_eq_false hj, fun h => h.elim⟩
          have hj0 : (0 : Int) ≤ (j : Int) := by omega
          have C4 := HK.out j 58 (j : Int) 58 rfl rfl
          have C5 := HK.out (j + 1) 93 ((j : Int) + 1) 93 (by omega) rfl
          clear HOUT HIN HK
          cases h4 : isP L j 58
          case' true => cases h5 : isP L (j + 1) 93
          all_goals
            rw [h4] at C4
            first | rw [h5] at C5 | skip
            rcases hst with ⟨hji, -⟩ | ⟨hj, C3 | ⟨C3, hl1 | ⟨hl1, hl2⟩⟩⟩
            all_goals
              first | (have hji : (j : Int) < (P.size : Int) := Int.ofNat_lt.2 hj) | skip
              first | have H1 := Lib.hid (grown_call (wb := wr) fun W _ => C3 W) | have H1 := Lib.hid trivial
              have f0 := grown_cell c0
              have f1 := grown_cell c1
              have f2 := grown_cell c2
              clear c0 c1 c2
              first | clear C3 | skip
              go_upto_region 4 with fail
              refine wp_region_grown (by kernel_rfl) (by kernel_rfl) ?_
              repeat (first | go_big_quiet_skip | (go_big_quiet_want; go_big_quiet_op; (first | go_big_quiet_on | (with_reducible refine ⟨_, H1.out, ?_⟩; go_big_quiet_on))))
              refine wpQuiet_nil ?_
              intro w5 hw5
              have hbg : Below wr.heap.size wr w5 := by obtain ⟨x, rfl⟩ := hw5; exact x.below
              have HP5 := Lib.hid (HPR.out.below hbg)
              have HB5 := Lib.hid (below_two HBR.out hbg)
              obtain ⟨c0, c1, c2⟩ := HP5.out.cells
              clear hw5 hbg f0 f1 f2
              go_wp2_with fail
              refine (C4 _).mono ?_
              rintro e w6 ⟨rfl, hb⟩
              have HB6 := Lib.hid (below_two HB5.out hb)
              obtain ⟨c0, c1, c2⟩ := (HP5.out.below hb).cells
              clear hb
              go_wp2_with fail
              first
              | (go_ret2; exact ⟨by rw [← HKK.out, h4]; rfl, HB6.out⟩)
              | (refine (C5 _).mono ?_
                 rintro e w7 ⟨rfl, hb⟩
                 have HB7 := Lib.hid (below_two HB6.out hb)
                 clear hb
                 go_wp2_with fail
                 go_ret2
                 exact ⟨by rw [← HKK.out, h4, h5]; rfl, HB7.out⟩)
end Go.Proofs.Ytfldhggmgepcjaa
