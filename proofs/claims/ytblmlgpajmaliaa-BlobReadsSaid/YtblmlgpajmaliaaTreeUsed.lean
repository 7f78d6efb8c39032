/-
  The reference's Used: how many inodes are used, how many bytes.
-/
import Derived.Test.YtblmlgpajmaliaaTrees
namespace Go.Proofs.Ytblmlgpajmaliaa
set_option maxRecDepth 100000
open Go Go.RowKit

set_option maxHeartbeats 1000000 in
theorem rused_any (a : Option Addr) (cap : Nat) (m b : Int) (L : List Ino) (hL : L.length ≤ 1000) (hB : usedB L ≤ 1099511627776) (w : World) (hN : NodesIn w a cap L) :
    Calls Try.prog 33 #[.agg #[.slice a L.length cap, .int .i64 m, .int .i64 b]] w fun e w' => e = .returned (.tuple #[.int .i64 (usedN L), .int .i64 (usedB L)]) ∧ Below w.heap.size w w' := by
  have hb1 := below_box w (.cells #[.slice a L.length cap, .int .i64 m, .int .i64 b] 24)
  have hM := hN.below hb1
  have HM := Lib.hid hM
  clear hM hN
  go_enter Try.func33, Try.ntmps33
  go_wp2_with fail
  go_loop [4, 5, 6] (fun n b i => ∃ k : Nat, k ≤ L.length ∧ i = .int .i64 k ∧ n = .int .i64 (usedN (L.take k)) ∧ b = .int .i64 (usedB (L.take k))) (fun _ _ i => L.length - (intOf i).toNat)
  case atStart => exact ⟨0, by omega, rfl, rfl, rfl⟩
  case round =>
    obtain ⟨k, hk, rfl, rfl, rfl⟩ := hrel
    by_cases hlt : k < L.length
    · obtain ⟨bb, o, rfl, hx⟩ := HM.out.2.2 k hlt
      have h1 := hx.kind
      have h2 := hx.data
      have hs := str_len L[k].data
      have hu1 := usedN_take L k
      have hu2 := usedB_take L (k + 1)
      have hn1 := usedN_snoc (L.take k) L[k]
      have hn2 := usedB_snoc (L.take k) L[k]
      rw [← List.take_succ_eq_append_getElem hlt] at hn1 hn2
      cases hz : (L[k].kind != 0) with
      | true =>
        have hz' : L[k].kind ≠ 0 := by simpa using hz
        rw [if_neg hz'] at hn1
        have H1 := Lib.hid hn1
        have H2 := Lib.hid hn2
        have hb2 : usedB (L.take k) + L[k].data.length ≤ 1099511627776 := by omega
        clear hn1 hn2 hu2 hz'
        go_wp2_with fail
        go_round
        case rel => exact ⟨k + 1, by omega, by go_num, by rw [H1.out]; go_num, by rw [H2.out]; go_num⟩
        case measure => simp [intOf] <;> omega
      | false =>
        have hz' : L[k].kind = 0 := by simpa using hz
        rw [if_pos hz'] at hn1
        have H1 := Lib.hid hn1
        have H2 := Lib.hid hn2
        have hb2 : usedB (L.take k) + L[k].data.length ≤ 1099511627776 := by omega
        clear hn1 hn2 hu2 hz'
        go_wp2_with fail
        go_round
        case rel => exact ⟨k + 1, by omega, by go_num, by rw [H1.out]; rfl, by rw [H2.out]; go_num⟩
        case measure => simp [intOf] <;> omega
    · go_wp2_with fail
      go_ret2
      rw [List.take_of_length_le (by omega)]
      exact ⟨rfl, below_box _ _⟩
end Go.Proofs.Ytblmlgpajmaliaa
