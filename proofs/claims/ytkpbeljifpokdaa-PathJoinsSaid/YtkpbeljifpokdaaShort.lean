/-
  short: do some texts take at most 5000 bytes together?
-/
import Derived.Test.YtkpbeljifpokdaaSame
namespace Go.Proofs.Ytkpbeljifpokdaa
open Go Go.RowKit

def sumL : List (List UInt8) → Nat
  | [] => 0
  | x :: r => x.length + sumL r
theorem sum_append : ∀ (D E : List (List UInt8)), sumL (D ++ E) = sumL D + sumL E
  | [], E => by simp [sumL]
  | d :: r, E => by simp only [List.cons_append, sumL, sum_append r E]; omega
theorem sum_take (L : List (List UInt8)) (k : Nat) : sumL (L.take k) ≤ sumL L := by
  have h := sum_append (L.take k) (L.drop k)
  rw [List.take_append_drop] at h
  omega
theorem sum_next (L : List (List UInt8)) (k : Nat) (h : k < L.length) : sumL (L.take (k + 1)) = sumL (L.take k) + L[k].length := by
  rw [List.take_succ_eq_append_getElem h, sum_append]
  simp [sumL]

def shortB (L : List (List UInt8)) : Bool := decide (sumL L ≤ 5000)
def HRel (L : List (List UInt8)) (n i : Value) : Prop := ∃ k m : Nat, k ≤ L.length ∧ i = .int .i64 k ∧ n = .int .i64 m ∧ m ≤ 5000 ∧ Hid (m = sumL (L.take k))

set_option maxHeartbeats 1000000 in
theorem short_any (L : List (List UInt8)) (B : Nat) (v : Value) (w : World) (hT : Texts B w v L) (hx : ∀ x ∈ L, x.length ≤ 281474976710656) (hne : L ≠ []) :
    Calls Try.prog 8 #[v] w fun e w' => e = .returned (.bool (shortB L)) ∧ w = w' := by
  rcases hT.forms with ⟨rfl, hn⟩ | ⟨g, cap, rfl, hB, hg, hcap, hmax, hcell⟩
  · exact absurd hn hne
  · have HC := Lib.hid hcell
    have HX := Lib.hid hx
    clear hcell hT hx hne
    unfold maxLen at hmax
    go_enter Try.func8, Try.ntmps8
    go_wp2_with fail
    go_loop [3, 5, 8] (fun n s i => HRel L n i) (fun _ _ i => L.length - (intOf i).toNat)
    case atStart => exact ⟨0, 0, by omega, rfl, rfl, by omega, rfl⟩
    case round =>
      obtain ⟨k, m, hk, rfl, rfl, hm, hd⟩ := hrel
      by_cases hlt : k < L.length
      · have hxl := HX.out L[k] (List.getElem_mem hlt)
        have hcx := HC.out k hlt
        unfold strv at hcx
        have HS := Lib.hid (sum_next L k hlt)
        by_cases hbig : 5000 < m + L[k].length
        · have hfin := Lib.hid (show shortB L = false by unfold shortB; rw [decide_eq_false_iff_not]; have h1 := sum_take L (k + 1); have h2 := HS.out; have h3 := hd.out; omega)
          go_wp2_with fail
          go_ret
          exact ⟨by rw [hfin.out]; rfl, rfl⟩
        · go_wp2_with fail
          go_round
          case rel => exact ⟨k + 1, m + L[k].length, by omega, by go_num, by go_num, by omega, Lib.hid (by rw [HS.out, hd.out])⟩
          case measure => simp [intOf] <;> omega
      · obtain rfl : k = L.length := by omega
        have hfin := Lib.hid (show shortB L = true by unfold shortB; rw [decide_eq_true_iff]; have h3 := hd.out; rw [List.take_length] at h3; omega)
        go_wp2_with fail
        go_ret
        exact ⟨by rw [hfin.out]; rfl, rfl⟩
end Go.Proofs.Ytkpbeljifpokdaa
