/-
  The landed code's behind, just and member.
-/
import Derived.Test.YtfldhggmgepcjaaQEnd
namespace Go.Proofs.Ytfldhggmgepcjaa
set_option maxRecDepth 100000
open Go Go.RowKit

theorem mbN_cls {L : Pl} {k : Nat} (hc : clsE L = some k) : mbN L = k + 4 := by unfold mbN; rw [hc]
theorem mbN_three {L : Pl} (hc : clsE L = none) (hr : rngB L = true) : mbN L = 3 := by unfold mbN; rw [hc]; simp [hr]
theorem mbN_one {L : Pl} (hc : clsE L = none) (hr : rngB L = false) : mbN L = 1 := by unfold mbN; rw [hc]; simp [hr]
theorem mbF_cls {L : Pl} {k : Nat} (hc : clsE L = some k) : mbF L = .cls (((L.drop 2).take k).map Prod.fst) := by unfold mbF; rw [hc]
theorem mbF_three {L : Pl} (hc : clsE L = none) (hr : rngB L = true) : mbF L = .span (byteAt L 0) (byteAt L 2) := by unfold mbF; rw [hc]; simp [hr]
theorem mbF_one {L : Pl} (hc : clsE L = none) (hr : rngB L = false) : mbF L = .span (byteAt L 0) (byteAt L 0) := by unfold mbF; rw [hc]; simp [hr]

set_option maxHeartbeats 1000000 in
theorem lbehind (P Q : ByteArray) (hP : P.size ≤ 100000) (a : Option Addr) (n cap i : Nat) (hi : i ≤ P.size) (x : Int) (hx : x = (i : Int)) (w : World) : Calls Try.prog 31 #[.agg #[.string P, .string Q, .slice a n cap], .int .i64 x] w fun e w' => e = .returned (.int .i64 ((i + mbN ((plL P.data.toList Q.data.toList).drop i) : Nat) : Int)) ∧ Below w.heap.size w w' := by
  subst hx
  have HB := Lib.hid (below_box w (.cells #[.string P, .string Q, .slice a n cap] 51))
  have HP := Lib.hid (PatAt.new w P Q a n cap)
  have C1 := fun W => lclassEnd P Q hP a n cap i hi (i : Int) rfl W
  have C2 := fun W => lranges P Q hP a n cap i hi (i : Int) rfl W
  obtain ⟨L, hL⟩ : ∃ L, L = plL P.data.toList Q.data.toList := ⟨_, rfl⟩
  rw [← hL] at C1 C2 ⊢
  clear hL
  cases hc : clsE (L.drop i) with
  | some k =>
    have hm := mbN_cls hc
    rw [hm]
    rw [clsX_some hc] at C1
    clear hm hc
    go_enter Try.func31, Try.ntmps31
    go_wp2_with fail
    refine (C1 _).mono ?_
    rintro e w1 ⟨rfl, hb⟩
    have HB1 := Lib.hid (below_two HB.out hb)
    clear hb
    go_wp2_with fail
    go_ret
    exact ⟨rfl, HB1.out⟩
  | none =>
    obtain ⟨X, hX⟩ : ∃ X, clsX L i = (X, false) := ⟨_, Prod.ext rfl (clsX_none hc)⟩
    rw [hX] at C1
    clear hX
    cases hr : rngB (L.drop i)
    all_goals
      rw [hr] at C2
      first | have hm := mbN_three hc hr | have hm := mbN_one hc hr
      rw [hm]
      clear hm hc hr
      go_enter Try.func31, Try.ntmps31
      go_wp2_with fail
      refine (C1 _).mono ?_
      rintro e w1 ⟨rfl, hb⟩
      have HB1 := Lib.hid (below_two HB.out hb)
      obtain ⟨c0, c1, c2⟩ := (HP.out.below hb).cells
      clear hb
      go_wp2_with fail
      refine (C2 _).mono ?_
      rintro e w2 ⟨rfl, hb⟩
      have HB2 := Lib.hid (below_two HB1.out hb)
      clear hb
      go_wp2_with fail
      go_ret
      exact ⟨rfl, HB2.out⟩

set_option maxHeartbeats 1000000 in
theorem ljust (c : UInt8) (x : Int) (hx : x = (c.toNat : Int)) (w : World) : Calls Try.prog 33 #[.int .u8 x] w fun e w' => e = .returned (.iface 85 (.agg #[.int .u8 (c.toNat : Int), .int .u8 (c.toNat : Int)])) ∧ w = w' := by
  subst hx
  go_enter Try.func33, Try.ntmps33
  go_wp2_with fail
  go_ret
  exact ⟨rfl, rfl⟩

/-- A member as the landed code has it. -/
def mbV : Mb → Value
  | .span a b => .iface 85 (.agg #[.int .u8 (a.toNat : Int), .int .u8 (b.toNat : Int)])
  | .cls s => .iface 87 (.string ⟨s.toArray⟩)
theorem byte_pl (P Q : ByteArray) (i j : Nat) (h : i + j < P.size) : byteAt ((plL P.data.toList Q.data.toList).drop i) j = P[i + j] := by
  unfold byteAt
  rw [List.getElem?_drop, pl_at P Q _ h]
theorem pl_fst : ∀ (p q : List UInt8), (plL p q).map Prod.fst = p
  | [], _ => rfl
  | a :: p, [] => by simp [plL, pl_fst p []]
  | a :: p, b :: q => by simp [plL, pl_fst p q]
theorem name_text (P Q : ByteArray) (i k : Nat) : (P.extract (i + 2) (i + k + 2)).data.toList = ((((plL P.data.toList Q.data.toList).drop i).drop 2).take k).map Prod.fst := by
  rw [List.map_take, List.map_drop, List.map_drop, pl_fst, extract_list, List.drop_drop, List.drop_take]
  congr 1
  omega

set_option maxHeartbeats 1000000 in
theorem lmember (P Q : ByteArray) (hP : P.size ≤ 100000) (a : Option Addr) (n cap i : Nat) (hi : i < P.size) (x : Int) (hx : x = (i : Int)) (w : World) : Calls Try.prog 39 #[.agg #[.string P, .string Q, .slice a n cap], .int .i64 x] w fun e w' => e = .returned (mbV (mbF ((plL P.data.toList Q.data.toList).drop i))) ∧ Below w.heap.size w w' := by
  subst hx
  have HB := Lib.hid (below_box w (.cells #[.string P, .string Q, .slice a n cap] 51))
  have HP := Lib.hid (PatAt.new w P Q a n cap)
  have C1 := fun W => lclassEnd P Q hP a n cap i (by omega) (i : Int) rfl W
  have C2 := fun W => lranges P Q hP a n cap i (by omega) (i : Int) rfl W
  have HN := Lib.hid (name_text P Q i)
  have HBY := Lib.hid (byte_pl P Q i)
  have HL := Lib.hid (show ((plL P.data.toList Q.data.toList).drop i).length = P.size - i by rw [List.length_drop, pl_len, size_data])
  obtain ⟨L, hL⟩ : ∃ L, L = plL P.data.toList Q.data.toList := ⟨_, rfl⟩
  rw [← hL] at C1 C2 HN HBY HL ⊢
  clear hL
  cases hc : clsE (L.drop i) with
  | some k =>
    have hik : i + k + 4 ≤ P.size := by
      have h := isP_lt (clsE_some hc).2.2.2.2
      rw [HL.out] at h
      omega
    have HV := Lib.hid (show mbV (mbF (L.drop i)) = .iface 87 (.string (P.extract (i + 2) (i + k + 2))) by
      rw [mbF_cls hc, ← HN.out k]; rfl)
    rw [HV.out]
    rw [clsX_some hc] at C1
    clear hc
    have HSL := fun W => run_slice_string (P := Try.prog) (w := W) 9 P .i64 .i64 ((i : Int) + 2) ((i : Int) + (k : Int) + 4 - 2) Try.underlying9 (by omega) (by omega) (by omega)
    rw [show ((i : Int) + 2).toNat = i + 2 by omega, show ((i : Int) + (k : Int) + 4 - 2).toNat = i + k + 2 by omega] at HSL
    go_enter Try.func39, Try.ntmps39
    go_wp2_with fail
    refine (C1 _).mono ?_
    rintro e w1 ⟨rfl, hb⟩
    have HB1 := Lib.hid (below_two HB.out hb)
    obtain ⟨c0, c1, c2⟩ := (HP.out.below hb).cells
    clear hb
    go_wp2_with fail
    go_ret
    exact ⟨rfl, HB1.out⟩
  | none =>
    obtain ⟨X, hX⟩ : ∃ X, clsX L i = (X, false) := ⟨_, Prod.ext rfl (clsX_none hc)⟩
    rw [hX] at C1
    clear hX
    have hii : (i : Int) < (P.size : Int) := by omega
    cases hr : rngB (L.drop i) with
    | true =>
      rw [hr] at C2
      have h2 : i + 2 < P.size := by
        unfold rngB at hr
        simp only [Bool.and_eq_true, decide_eq_true_eq] at hr
        have := hr.2.1
        rw [HL.out] at this
        omega
      have HV := Lib.hid (show mbV (mbF (L.drop i)) = .iface 85 (.agg #[.int .u8 (P[i].toNat : Int), .int .u8 (P[i + 2].toNat : Int)]) by
        rw [mbF_three hc hr, HBY.out 0 hi, HBY.out 2 h2]; rfl)
      rw [HV.out]
      have h2i : (i : Int) + 2 < (P.size : Int) := by omega
      clear hc hr
      go_enter Try.func39, Try.ntmps39
      go_wp2_with fail
      refine (C1 _).mono ?_
      rintro e w1 ⟨rfl, hb⟩
      have HB1 := Lib.hid (below_two HB.out hb)
      have HP1 := Lib.hid (HP.out.below hb)
      obtain ⟨c0, c1, c2⟩ := HP1.out.cells
      clear hb
      go_wp2_with fail
      refine (C2 _).mono ?_
      rintro e w2 ⟨rfl, hb⟩
      have HB2 := Lib.hid (below_two HB1.out hb)
      obtain ⟨c0, c1, c2⟩ := (HP1.out.below hb).cells
      clear hb
      go_upto_region 5 with fail
      have f0 := grown_cell c0
      have hi0 : (0 : Int) ≤ (i : Int) := by omega
      have hi2 : (0 : Int) ≤ (i : Int) + 2 := by omega
      clear c0 c1 c2
      refine wp_region_grown (by kernel_rfl) (by kernel_rfl) ?_
      repeat (first | go_big_quiet_skip | (go_big_quiet_want; go_big_quiet_op; go_big_quiet_on))
      refine wpQuiet_nil ?_
      intro w5 hw5
      have hbg : Below w2.heap.size w2 w5 := by obtain ⟨x, rfl⟩ := hw5; exact x.below
      have HB5 := Lib.hid (below_two HB2.out hbg)
      clear hw5 hbg f0
      go_wp2_with fail
      go_ret
      exact ⟨rfl, HB5.out⟩
    | false =>
      rw [hr] at C2
      have HV := Lib.hid (show mbV (mbF (L.drop i)) = .iface 85 (.agg #[.int .u8 (P[i].toNat : Int), .int .u8 (P[i].toNat : Int)]) by
        rw [mbF_one hc hr, HBY.out 0 hi]; rfl)
      rw [HV.out]
      clear hc hr
      have C3 := fun W => ljust P[i] (P[i].toNat : Int) rfl W
      go_enter Try.func39, Try.ntmps39
      go_wp2_with fail
      refine (C1 _).mono ?_
      rintro e w1 ⟨rfl, hb⟩
      have HB1 := Lib.hid (below_two HB.out hb)
      have HP1 := Lib.hid (HP.out.below hb)
      obtain ⟨c0, c1, c2⟩ := HP1.out.cells
      clear hb
      go_wp2_with fail
      refine (C2 _).mono ?_
      rintro e w2 ⟨rfl, hb⟩
      have HB2 := Lib.hid (below_two HB1.out hb)
      obtain ⟨c0, c1, c2⟩ := (HP1.out.below hb).cells
      clear hb
      go_wp2_with fail
      refine (C3 _).mono ?_
      rintro e w3 ⟨rfl, rfl⟩
      go_wp2_with fail
      go_ret
      exact ⟨rfl, HB2.out⟩
end Go.Proofs.Ytfldhggmgepcjaa
