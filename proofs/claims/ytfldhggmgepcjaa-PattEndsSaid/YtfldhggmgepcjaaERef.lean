/-
  The reference's questions of a pattern: plain, at, class.
-/
import Derived.Test.YtfldhggmgepcjaaQEnd
import Derived.Test.YtfldhggmgepcjaaQMember
import Derived.Test.YtfldhggmgepcjaaRClass
namespace Go.Proofs.Ytfldhggmgepcjaa
set_option maxRecDepth 100000
open Go Go.RowKit

set_option maxHeartbeats 1000000 in
theorem rplain (Q : ByteArray) (i : Nat) (x : Int) (hx : x = (i : Int)) (w : World) : Calls Try.prog 34 #[.string Q, .int .i64 x] w fun e w' => e = .returned (.bool (flg Q.data.toList i)) ∧ w = w' := by
  subst hx
  by_cases h : i < Q.size
  · have hi : (i : Int) < (Q.size : Int) := by omega
    have hn : ¬ Q.size ≤ i := by omega
    have hf : flg Q.data.toList i = (Q[i] != 49) := by unfold flg; rw [get_data Q i h]
    cases hq : ((Q[i].toNat : Int) != 49) with
    | true =>
      have HV := Lib.hid (show flg Q.data.toList i = true by
        rw [hf, bne_iff_ne]
        intro e; rw [e] at hq; cases hq)
      clear hf
      go_enter Try.func34, Try.ntmps34
      go_wp2_with fail
      go_ret
      exact ⟨by rw [HV.out]; rfl, rfl⟩
    | false =>
      have HV := Lib.hid (show flg Q.data.toList i = false by
        rw [hf, u8_eq (a := Q[i]) (b := 49) hq]; rfl)
      clear hf
      go_enter Try.func34, Try.ntmps34
      go_wp2_with fail
      go_ret
      exact ⟨by rw [HV.out]; rfl, rfl⟩
  · have hn : Q.size ≤ i := by omega
    have HV := Lib.hid (show flg Q.data.toList i = true by unfold flg; rw [List.getElem?_eq_none (by rw [size_data]; omega)])
    go_enter Try.func34, Try.ntmps34
    go_wp2_with fail
    go_ret
    exact ⟨by rw [HV.out]; rfl, rfl⟩
theorem isP_flg (P Q : ByteArray) (i : Nat) (c : UInt8) (h : i < P.size) : isP (plL P.data.toList Q.data.toList) i c = (decide (P[i] = c) && flg Q.data.toList i) := by
  unfold isP
  rw [pl_get, get_data P i h]
  cases flg Q.data.toList i <;> by_cases hc : P[i] = c <;> simp [hc]

set_option maxHeartbeats 1000000 in
theorem rat (P Q : ByteArray) (i : Nat) (c : UInt8) (x y : Int) (hx : x = (i : Int)) (hy : y = (c.toNat : Int)) (w : World) : Calls Try.prog 25 #[.string P, .string Q, .int .i64 x, .int .u8 y] w fun e w' => e = .returned (.bool (isP (plL P.data.toList Q.data.toList) i c)) ∧ w = w' := by
  subst hx hy
  have hi0 : decide ((0 : Int) ≤ (i : Int)) = true := decide_eq_true (by omega)
  by_cases h : i < P.size
  · have hii : (i : Int) < (P.size : Int) := by omega
    have hid : decide (i < P.size) = true := decide_eq_true h
    have C1 := fun W => rplain Q i (i : Int) rfl W
    have HE := Lib.hid (isP_flg P Q i c h)
    by_cases hc : P[i] = c
    · have hce : ((P[i].toNat : Int) == (c.toNat : Int)) = true := by rw [hc]; simp
      have HV := Lib.hid (show isP (plL P.data.toList Q.data.toList) i c = flg Q.data.toList i by rw [HE.out, decide_eq_true hc, Bool.true_and])
      clear hc
      go_enter Try.func25, Try.ntmps25
      go_wp2_with fail
      refine (C1 _).mono ?_
      rintro e w1 ⟨rfl, rfl⟩
      go_wp2_with fail
      go_ret
      exact ⟨by rw [HV.out]; rfl, rfl⟩
    · have hce : ((P[i].toNat : Int) == (c.toNat : Int)) = false := by
        rw [beq_eq_false_iff_ne]
        intro e
        exact hc (UInt8.toNat_inj.1 (by omega))
      have HV := Lib.hid (show isP (plL P.data.toList Q.data.toList) i c = false by rw [HE.out, decide_eq_false hc, Bool.false_and])
      clear hc
      go_enter Try.func25, Try.ntmps25
      go_wp2_with fail
      go_ret
      exact ⟨by rw [HV.out]; rfl, rfl⟩
  · have hii : ¬ (i : Int) < (P.size : Int) := by omega
    have hid : decide (i < P.size) = false := decide_eq_false h
    have HV := Lib.hid (show isP (plL P.data.toList Q.data.toList) i c = false from isP_no (by rw [pl_len, size_data]; omega) c)
    go_enter Try.func25, Try.ntmps25
    go_wp2_with fail
    go_ret
    exact ⟨by rw [HV.out]; rfl, rfl⟩

/-- What class answers: the name, and how many bytes the member has; 0: there is none. -/
def rclX (P : ByteArray) (L : Pl) (i : Nat) : ByteArray × Int := match clsE (L.drop i) with | some k => (P.extract (i + 2) (i + 2 + k), ((k + 4 : Nat) : Int)) | none => (⟨#[]⟩, 0)
theorem rclX_none {P : ByteArray} {L : Pl} {i : Nat} (h : clsE (L.drop i) = none) : rclX P L i = (⟨#[]⟩, 0) := by unfold rclX; rw [h]
theorem rclX_some {P : ByteArray} {L : Pl} {i k : Nat} (h : clsE (L.drop i) = some k) : rclX P L i = (P.extract (i + 2) (i + 2 + k), ((k + 4 : Nat) : Int)) := by unfold rclX; rw [h]
theorem clsE_at (L : Pl) (i : Nat) : clsE (L.drop i) = if isP L i 91 = true ∧ isP L (i + 1) 58 = true ∧ isP L (i + 2 + (nameL (L.drop i)).length) 58 = true ∧ isP L (i + 2 + (nameL (L.drop i)).length + 1) 93 = true then some (nameL (L.drop i)).length else none := by
  unfold clsE
  simp only [isP_drop, Nat.add_zero, ← Nat.add_assoc]
  rw [show i + 2 + (nameL (L.drop i)).length + 1 = i + 3 + (nameL (L.drop i)).length by omega]
end Go.Proofs.Ytfldhggmgepcjaa
