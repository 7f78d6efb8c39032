/-
  tree's Used, of the landed code.
-/
import Derived.Test.YtblmlgpajmaliaaTreeUsed
namespace Go.Proofs.Ytblmlgpajmaliaa
set_option maxRecDepth 100000
open Go Go.RowKit

def LUsedRel (L : List Ino) (w1 : World) (n b i : Value) (wr : World) : Prop :=
  ∃ k : Nat, k ≤ L.length ∧ i = .int .i64 k ∧ n = .int .i64 (usedN (L.take k)) ∧ b = .int .i64 (usedB (L.take k)) ∧ Below w1.heap.size w1 wr

set_option maxHeartbeats 2000000 in
theorem lused_any (a : Option Addr) (cap : Nat) (m b : Int) (L : List Ino) (hL : L.length ≤ 1000) (hB : usedB L ≤ 4611686018427387904) (w : World) (hN : NodesIn w a cap L) :
    Calls Try.prog 35 #[.agg #[.slice a L.length cap, .int .i64 m, .int .i64 b]] w fun e w' => e = .returned (.tuple #[.int .i64 (usedN L), .int .i64 (usedB L)]) ∧ Below w.heap.size w w' := by
  have hb1 := below_box w (.cells #[.slice a L.length cap, .int .i64 m, .int .i64 b] 24)
  obtain ⟨w1, hw1⟩ : ∃ w1, w1 = w.alloc (.cells #[.slice a L.length cap, .int .i64 m, .int .i64 b] 24) := ⟨_, rfl⟩
  have hM := hN.below hb1
  have hsz : w1.heap.size = w.heap.size + 1 := by rw [hw1]; simp
  rw [← hw1] at hM hb1
  have HM := Lib.hid hM
  have HB1 := Lib.hid hb1
  have HSZ := Lib.hid hsz
  clear hM hN hb1 hsz
  go_enter Try.func35, Try.ntmps35
  go_wp2_with fail
  rw [← hw1]
  clear hw1
  go_loopw [4, 5, 11] (fun n b i wr => LUsedRel L w1 n b i wr) (fun _ _ i _ => L.length - (intOf i).toNat)
  case atStart => exact ⟨0, by omega, rfl, rfl, rfl, Below.refl _ _⟩
  case round =>
    obtain ⟨k, hk, rfl, rfl, rfl, hbr⟩ := hrel
    have HBR := Lib.hid hbr
    have hszr := hbr.size
    clear hbr
    by_cases hlt : k < L.length
    · obtain ⟨bb, o, rfl, hx⟩ := (HM.out.below HBR.out).2.2 k hlt
      have h0 := hx.kind
      have h1 := hx.mode
      have h2 := hx.links
      have h3 := hx.data
      obtain ⟨kv, h4, hks⟩ := hx.kids
      have h5 := hx.up
      obtain ⟨ka, kcap, rfl, -, -, -⟩ := hks
      have hs := str_len L[k].data
      have hu1 := usedN_take L k
      have hu2 := usedB_take L (k + 1)
      have hn1 := usedN_snoc (L.take k) L[k]
      have hn2 := usedB_snoc (L.take k) L[k]
      rw [← List.take_succ_eq_append_getElem hlt] at hn1 hn2
      have HBA := Lib.hid (show ∀ o, Below w1.heap.size w1 (wr.alloc o) from fun o => HBR.out.alloc hszr o)
      clear hx
      cases hz : (L[k].kind != 0) with
      | true =>
        have hz' : L[k].kind ≠ 0 := by simpa using hz
        rw [if_neg hz'] at hn1
        have H1 := Lib.hid hn1
        have H2 := Lib.hid hn2
        have hb2 : usedB (L.take k) + L[k].data.length ≤ 4611686018427387904 := by omega
        clear hn1 hn2 hu2 hz'
        go_wp2_with fail
        go_roundw
        case rel => exact ⟨k + 1, by omega, by go_num, by rw [H1.out]; go_num, by rw [H2.out]; go_num, HBA.out _⟩
        case measure => simp [intOf] <;> omega
      | false =>
        have hz' : L[k].kind = 0 := by simpa using hz
        rw [if_pos hz'] at hn1
        have H1 := Lib.hid hn1
        have H2 := Lib.hid hn2
        have hb2 : usedB (L.take k) + L[k].data.length ≤ 4611686018427387904 := by omega
        clear hn1 hn2 hu2 hz'
        go_wp2_with fail
        go_roundw
        case rel => exact ⟨k + 1, by omega, by go_num, by rw [H1.out]; rfl, by rw [H2.out]; go_num, HBA.out _⟩
        case measure => simp [intOf] <;> omega
    · go_wp2_with fail
      go_ret2
      rw [List.take_of_length_le (by omega)]
      exact ⟨rfl, HB1.out.trans (HBR.out.mono (by rw [HSZ.out]; omega))⟩
end Go.Proofs.Ytblmlgpajmaliaa
