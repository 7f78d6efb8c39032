/-
  The reference's digits and Text: the decimal digits of a number.
-/
import Derived.Test.YtnblegmimemeeaaDoorNums
import Derived.Laws.BytesArg
import Derived.Lib.ItoaLen
namespace Go.Proofs.YtnblegmimemeeaaDoor
open Go Go.RowKit

/-- 'string([]byte{c})'. -/
theorem one_byte (W : World) (n : Int) : (convert 32 9 (.slice (some ⟨W.heap.size, 0, none⟩) 1 1)).run Tryd.prog (W.alloc (.cells #[.int .u8 n] 5)) = .ok (.string ⟨#[UInt8.ofNat n.toNat]⟩) (W.alloc (.cells #[.int .u8 n] 5)) := by
  have h := run_convert_bytes_arg (P := Tryd.prog) (W.alloc (.cells #[.int .u8 n] 5)) 32 5 Tryd.underlying32 Tryd.underlying5 W.heap.size 0 1 1 [n] rfl
    (fun i hi => by
      obtain rfl : i = 0 := by omega
      simp) 9 Tryd.underlying9
  rw [h]
  rfl

theorem digits_more (m : Nat) (h : 10 ≤ m) : Lib.decDigits m = Lib.decDigits (m / 10) ++ [UInt8.ofNat (48 + m % 10)] := by
  rw [Lib.decDigits, dif_neg (by omega)]

theorem one_more (d : Nat) (l : List UInt8) : (Value.string ((⟨#[48 + UInt8.ofNat d]⟩ : ByteArray) ++ (⟨l.toArray⟩ : ByteArray))) = .string ⟨(UInt8.ofNat (48 + d) :: l).toArray⟩ := by
  rw [ByteArray.mk_append_mk]
  congr 2
  rw [UInt8.ofNat_add]
  simp

set_option maxHeartbeats 1000000 in
theorem rdigits_any (u : Nat) (hu : u < 18446744073709551616) (w : World) :
    Calls Tryd.prog 28 #[.int .u64 u] w fun e w' => e = .returned (.string ⟨(Lib.decDigits u).toArray⟩) ∧ Below w.heap.size w w' := by
  have kc := one_byte
  have h20 := Lib.nDigits_le20 u hu
  rw [← Lib.decDigits_length] at h20
  have H20 := Lib.hid h20
  clear h20
  go_enter Tryd.func28, Tryd.ntmps28
  go_wp2_with fail
  go_loopw [0, 3] (fun n s wr => ∃ m : Nat, ∃ acc : List UInt8, m < 18446744073709551616 ∧ n = .int .u64 m ∧ s = .string ⟨acc.toArray⟩ ∧ Hid (Lib.decDigits u = Lib.decDigits m ++ acc) ∧ Below w.heap.size w wr) (fun n _ _ => (intOf n).toNat)
  case atStart => exact ⟨u, [], hu, rfl, rfl, by simp [Hid], Below.refl _ _⟩
  case round =>
    obtain ⟨m, acc, hm, rfl, rfl, hd, hb⟩ := hrel
    have hl : acc.length ≤ 20 := by
      have h1 := congrArg List.length hd.out
      have h2 := H20.out
      simp at h1
      omega
    by_cases hlt : 10 ≤ m
    · go_wp2_with fail
      go_roundw
      case rel => exact ⟨m / 10, UInt8.ofNat (48 + m % 10) :: acc, by omega, by simp, one_more _ _, Lib.hid (show Lib.decDigits u = Lib.decDigits (m / 10) ++ (UInt8.ofNat (48 + m % 10) :: acc) by rw [hd.out, digits_more m hlt]; simp), hb.alloc hb.size _⟩
      case measure => simp [intOf]; omega
    · have hfin := Lib.hid (show Lib.decDigits u = UInt8.ofNat (48 + m) :: acc by rw [hd.out, Lib.decDigits_one (by omega)]; rfl)
      go_wp2_with fail
      go_ret
      exact ⟨by rw [hfin.out]; exact congrArg Ending.returned (one_more m acc), hb.alloc hb.size _⟩
end Go.Proofs.YtnblegmimemeeaaDoor
