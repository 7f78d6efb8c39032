/-
  Magic of the landed code; short of the laws; awake.
-/
import Derived.Test.YtnnabbmdpoenkaaQSuffix
namespace Go.Proofs.Ytnnabbmdpoenkaa
set_option maxRecDepth 100000
open Go Go.RowKit

def magB (L : Pl) : Bool := L.any fun x => x.2 && (x.1 == 63 || (x.1 == 42 || x.1 == 91))
theorem mag_at {L : Pl} {i : Nat} (h : i < L.length) : (L[i].2 && (L[i].1 == 63 || (L[i].1 == 42 || L[i].1 == 91))) = (isP L i 63 || (isP L i 42 || isP L i 91)) := by
  unfold isP
  rw [List.getElem?_eq_getElem h]
  rcases L[i] with ⟨a, b⟩
  cases b <;> simp [Bool.beq_eq_decide_eq, Prod.ext_iff]

set_option maxHeartbeats 4000000 in
theorem lmagic (P Q : ByteArray) (hP : P.size ≤ 100000) (w : World) : Calls Try.prog 13 #[.string P, .string Q] w fun e w' => e = .returned (.bool (magB (plL P.data.toList Q.data.toList))) ∧ Below w.heap.size w w' := by
  have HK := Lib.hid (fun j c x y hx hy W => lplain P Q none 0 0 j c x y hx hy W)
  obtain ⟨L, hL⟩ : ∃ L, L = plL P.data.toList Q.data.toList := ⟨_, rfl⟩
  have HLP := Lib.hid (show L.length = P.size by rw [hL, pl_len, size_data])
  rw [← hL] at HK ⊢
  clear hL
  have HB1 := Lib.hid (below_box w (.cells #[.string P, .string Q, .slice none 0 0] 45))
  have HP1 := Lib.hid (show PatAt (w.alloc (.cells #[.string P, .string Q, .slice none 0 0] 45)) w.heap.size P Q none 0 0 from new_block _ _)
  go_enter Try.func13, Try.ntmps13
  go_wp2_with fail
  go_loopw [6, 12] (fun _ v12 wr => ∃ i, v12 = .int .i64 ((i : Nat) : Int) ∧ i ≤ P.size ∧ Hid (∀ j (h : j < L.length), j < i → (L[j].2 && (L[j].1 == 63 || (L[j].1 == 42 || L[j].1 == 91))) = false) ∧ Hid (PatAt wr w.heap.size P Q none 0 0) ∧ Hid (Below w.heap.size w wr)) (fun _ v12 _ => P.size - (intOf v12).toNat)
  case atStart => exact ⟨0, rfl, Nat.zero_le _, fun _ _ h => absurd h (Nat.not_lt_zero _), HP1, HB1⟩
  case round =>
    obtain ⟨i, rfl, hi, HFR, HPR, HBR⟩ := hrel
    by_cases hlt : i < P.size
    · have hii : (i : Int) < (P.size : Int) := by omega
      have hil : i < L.length := by rw [HLP.out]; exact hlt
      have HMA := Lib.hid (mag_at hil)
      have C1 := HK.out i 63 (i : Int) 63 rfl rfl
      have C2 := HK.out i 42 (i : Int) 42 rfl rfl
      have C3 := HK.out i 91 (i : Int) 91 rfl rfl
      have HYES := Lib.hid (show (isP L i 63 || (isP L i 42 || isP L i 91)) = true → magB L = true from fun h => List.any_eq_true.2 ⟨L[i], List.getElem_mem hil, by rw [HMA.out]; exact h⟩)
      have HNO := Lib.hid (show (isP L i 63 || (isP L i 42 || isP L i 91)) = false → ∀ j (h : j < L.length), j < i + 1 → (L[j].2 && (L[j].1 == 63 || (L[j].1 == 42 || L[j].1 == 91))) = false from fun h j hj hji => by
        by_cases e : j = i
        · subst e; rw [HMA.out]; exact h
        · exact HFR.out j hj (by omega))
      obtain ⟨c0, c1, c2⟩ := HPR.out.cells
      clear HMA hil
      cases h1 : isP L i 63 with
      | true =>
        rw [h1] at C1
        have HV := Lib.hid (HYES.out (by rw [h1]; rfl))
        go_wp2_with fail
        refine (C1 _).mono ?_
        rintro e w2 ⟨rfl, hb⟩
        have HB2 := Lib.hid (below_two HBR.out hb)
        clear hb
        go_wp2_with fail
        go_ret
        exact ⟨by rw [HV.out]; rfl, HB2.out⟩
      | false =>
        rw [h1] at C1
        cases h2 : isP L i 42 with
        | true =>
          rw [h2] at C2
          have HV := Lib.hid (HYES.out (by rw [h1, h2]; rfl))
          go_wp2_with fail
          refine (C1 _).mono ?_
          rintro e w2 ⟨rfl, hb⟩
          have HB2 := Lib.hid (below_two HBR.out hb)
          have HP2 := Lib.hid (HPR.out.below hb)
          obtain ⟨c0, c1, c2⟩ := HP2.out.cells
          clear hb
          go_wp2_with fail
          refine (C2 _).mono ?_
          rintro e w3 ⟨rfl, hb⟩
          have HB3 := Lib.hid (below_two HB2.out hb)
          clear hb
          go_wp2_with fail
          go_ret
          exact ⟨by rw [HV.out]; rfl, HB3.out⟩
        | false =>
          rw [h2] at C2
          cases h3 : isP L i 91 with
          | true =>
            rw [h3] at C3
            have HV := Lib.hid (HYES.out (by rw [h1, h2, h3]; rfl))
            go_wp2_with fail
            refine (C1 _).mono ?_
            rintro e w2 ⟨rfl, hb⟩
            have HB2 := Lib.hid (below_two HBR.out hb)
            have HP2 := Lib.hid (HPR.out.below hb)
            obtain ⟨c0, c1, c2⟩ := HP2.out.cells
            clear hb
            go_wp2_with fail
            refine (C2 _).mono ?_
            rintro e w3 ⟨rfl, hb⟩
            have HB3 := Lib.hid (below_two HB2.out hb)
            have HP3 := Lib.hid (HP2.out.below hb)
            obtain ⟨c0, c1, c2⟩ := HP3.out.cells
            clear hb
            go_wp2_with fail
            refine (C3 _).mono ?_
            rintro e w4 ⟨rfl, hb⟩
            have HB4 := Lib.hid (below_two HB3.out hb)
            clear hb
            go_wp2_with fail
            go_ret
            exact ⟨by rw [HV.out]; rfl, HB4.out⟩
          | false =>
            rw [h3] at C3
            have HFN := Lib.hid (HNO.out (by rw [h1, h2, h3]; rfl))
            go_wp2_with fail
            refine (C1 _).mono ?_
            rintro e w2 ⟨rfl, hb⟩
            have HB2 := Lib.hid (below_two HBR.out hb)
            have HP2 := Lib.hid (HPR.out.below hb)
            obtain ⟨c0, c1, c2⟩ := HP2.out.cells
            clear hb
            go_wp2_with fail
            refine (C2 _).mono ?_
            rintro e w3 ⟨rfl, hb⟩
            have HB3 := Lib.hid (below_two HB2.out hb)
            have HP3 := Lib.hid (HP2.out.below hb)
            obtain ⟨c0, c1, c2⟩ := HP3.out.cells
            clear hb
            go_wp2_with fail
            refine (C3 _).mono ?_
            rintro e w4 ⟨rfl, hb⟩
            have HB4 := Lib.hid (below_two HB3.out hb)
            have HP4 := Lib.hid (HP3.out.below hb)
            clear hb c0 c1 c2
            go_wp2_with fail
            go_roundw
            case rel => exact ⟨i + 1, by simp, by omega, HFN, HP4, HB4⟩
            case measure => simp only [intOf]; omega
    · have hii : ¬ (i : Int) < (P.size : Int) := by omega
      have HV := Lib.hid (show magB L = false by
        unfold magB
        rw [List.any_eq_false]
        intro x hx
        obtain ⟨j, hj, rfl⟩ := List.getElem_of_mem hx
        rw [HFR.out j hj (by rw [HLP.out] at hj; omega)]
        simp)
      go_wp2_with fail
      go_ret
      exact ⟨by rw [HV.out]; rfl, HBR.out⟩

/-- Do texts take few bytes together? -/
def sumS : List ByteArray → Nat
  | [] => 0
  | x :: r => x.size + sumS r
def shB (L : List ByteArray) : Bool := decide (sumS L ≤ 400)
theorem sumS_take : ∀ (L : List ByteArray) (i : Nat) (x : ByteArray), L[i]? = some x → sumS (L.take (i + 1)) = sumS (L.take i) + x.size
  | [], _, _, h => by cases h
  | a :: L, 0, x, h => by simp at h; subst h; simp [sumS]
  | a :: L, i + 1, x, h => by
    rw [List.take_succ_cons, List.take_succ_cons, sumS, sumS, sumS_take L i x (by simpa using h)]
    omega
theorem sumS_le : ∀ (L : List ByteArray) (i : Nat), sumS (L.take i) ≤ sumS L
  | [], i => by simp [sumS]
  | a :: L, 0 => by simp [sumS]
  | a :: L, i + 1 => by
    rw [List.take_succ_cons, sumS, sumS]
    have := sumS_le L i
    omega
set_option maxHeartbeats 4000000 in
theorem lshort (L : List ByteArray) (hn : L.length ≤ 100) (hx : ∀ x ∈ L, x.size ≤ 281474976710656) (g : Nat) (w : World) (hR : RowAt w g (L.map Value.string) 9) : Calls Try.prog 7 #[.slice (some ⟨g, 0, none⟩) L.length L.length] w fun e w' => e = .returned (.bool (shB L)) ∧ w = w' := by
  have HR := Lib.hid hR
  have HX := Lib.hid hx
  clear hR hx
  go_enter Try.func7, Try.ntmps7
  go_wp2_with fail
  go_loopw [3, 5, 8] (fun v3 _ v8 wr => ∃ i n : Nat, v8 = .int .i64 (i : Int) ∧ v3 = .int .i64 (n : Int) ∧ i ≤ L.length ∧ n ≤ 400 ∧ Hid (n = sumS (L.take i)) ∧ w = wr) (fun _ _ v8 _ => L.length - (intOf v8).toNat)
  case atStart => exact ⟨0, 0, rfl, rfl, Nat.zero_le _, by omega, (show 0 = sumS (L.take 0) from rfl), rfl⟩
  case round =>
    obtain ⟨i, n, rfl, rfl, hi, hn4, HS, rfl⟩ := hrel
    by_cases hlt : i < L.length
    · have hii : (i : Int) < (L.length : Int) := by omega
      have hi0 : (0 : Int) ≤ (i : Int) := by omega
      obtain ⟨x, hxi⟩ : ∃ x, L[i]? = some x := ⟨L[i], List.getElem?_eq_getElem hlt⟩
      have hcx := HR.out.cell (show (L.map Value.string)[i]? = some (.string x) by rw [List.getElem?_map, hxi]; rfl)
      have hxs := HX.out x (List.mem_of_getElem? hxi)
      have HSN := Lib.hid (show n + x.size = sumS (L.take (i + 1)) by rw [sumS_take L i x hxi, HS.out])
      have HLE := Lib.hid (sumS_le L (i + 1))
      clear hxi
      by_cases hbig : 400 < n + x.size
      · have HV := Lib.hid (show shB L = false by unfold shB; rw [decide_eq_false_iff_not]; have h1 := HSN.out; have h2 := HLE.out; omega)
        go_wp2_with fail
        go_ret
        exact ⟨by rw [HV.out]; rfl, rfl⟩
      · go_wp2_with fail
        go_roundw
        case rel => exact ⟨i + 1, n + x.size, by simp, by simp, by omega, by omega, HSN, trivial⟩
        case measure => simp only [intOf]; omega
    · have hii : ¬ (i : Int) < (L.length : Int) := by omega
      have HV := Lib.hid (show shB L = true by unfold shB; rw [decide_eq_true_iff]; have h3 := HS.out; rw [List.take_of_length_le (by omega)] at h3; omega)
      go_wp2_with fail
      go_ret
      exact ⟨by rw [HV.out]; rfl, rfl⟩
end Go.Proofs.Ytnnabbmdpoenkaa
