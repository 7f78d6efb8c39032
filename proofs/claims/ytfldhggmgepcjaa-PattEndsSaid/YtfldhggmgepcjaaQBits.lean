/-
  Rows of bits in words.
-/
import Derived.Test.YtfldhggmgepcjaaQRows
import Derived.Test.YtfldhggmgepcjaaGrown
import Derived.Laws.Bits64b
import Derived.Laws.Shifts
import Derived.Deep.RegionLaw
namespace Go.Proofs.Ytfldhggmgepcjaa
set_option maxRecDepth 100000
open Go Go.RowKit

def wv (ws : List Nat) : List Value := ws.map fun x : Nat => Value.int .u64 (x : Int)
def bit (ws : List Nat) (j : Nat) : Bool := (ws.getD (j / 64) 0).testBit (j % 64)
def Small (ws : List Nat) : Prop := ∀ x ∈ ws, x < 18446744073709551616
theorem wv_get {ws : List Nat} {i : Nat} {x : Nat} (h : ws[i]? = some x) : (wv ws)[i]? = some (.int .u64 (x : Int)) := by
  unfold wv; rw [List.getElem?_map, h]; rfl
theorem wv_set (ws : List Nat) (i : Nat) (x : Nat) : (wv ws).set i (.int .u64 (x : Int)) = wv (ws.set i x) := by unfold wv; rw [List.map_set]

theorem pow_small (j : Nat) : 2 ^ (j % 64) < 18446744073709551616 := by
  have h : 2 ^ (j % 64) < 2 ^ 64 := Nat.pow_lt_pow_right (by omega) (Nat.mod_lt _ (by omega))
  exact h
theorem or_shl (x j : Nat) (hx : x < 18446744073709551616) : bits .or .u64 (x : Int) (IntKind.u64.wrap (2 ^ (j % 64))) = ((x ||| 1 <<< (j % 64) : Nat) : Int) := by
  have h1 : IntKind.u64.wrap (2 ^ (j % 64)) = ((1 <<< (j % 64) : Nat) : Int) := by
    have h := pow_small j
    rw [IntKind.wrap_u64, Nat.one_shiftLeft, Int.natCast_pow]
    refine Int.emod_eq_of_lt (Int.le_of_lt (Int.pow_pos (by decide))) ?_
    have : ((2 ^ (j % 64) : Nat) : Int) < 18446744073709551616 := by omega
    rw [Int.natCast_pow] at this
    exact this
  rw [h1, bits_or_u64_nat _ _ hx (by rw [Nat.one_shiftLeft]; exact pow_small j)]

theorem and_bit (x j : Nat) (hx : x < 18446744073709551616) : (bits .and .u64 ((x : Int) / 2 ^ (j % 64)) 1 == 1) = x.testBit (j % 64) := by
  have h1 : (x : Int) / 2 ^ (j % 64) = ((x / 2 ^ (j % 64) : Nat) : Int) := by
    rw [Int.natCast_ediv, Int.natCast_pow]; rfl
  have h2 : x / 2 ^ (j % 64) < 18446744073709551616 := Nat.lt_of_le_of_lt (Nat.div_le_self _ _) hx
  have h3 := bits_and_u64_nat (x / 2 ^ (j % 64)) 1 h2 (by omega)
  have h4 : bits .and .u64 ((x : Int) / 2 ^ (j % 64)) 1 = (((x / 2 ^ (j % 64)) &&& 1 : Nat) : Int) := by rw [h1]; exact h3
  rw [h4, Nat.testBit, Nat.shiftRight_eq_div_pow, Nat.and_comm]
  rcases Nat.mod_two_eq_zero_or_one (x / 2 ^ (j % 64)) with h | h
  · rw [Nat.one_and_eq_mod_two, h]; rfl
  · rw [Nat.one_and_eq_mod_two, h]; rfl
theorem set_grown (w : World) (g j : Nat) (u : Value) : w.grownBy ((w.setCell ⟨g, j, none⟩ u).drew) (some g) :=
  ⟨rfl, rfl, rfl, by show _ ≤ (w.setCell ⟨g, j, none⟩ u).heap.size; rw [set_size]; exact Nat.le_refl _, fun k _ hne => Below.heap_setCell _ _ _ _ (fun e => hne (by rw [e]))⟩
set_option maxHeartbeats 2000000 in
theorem lput (ws : List Nat) (hS : Small ws) (g j x nw : Nat) (hj : ws[j / 64]? = some x) (hn : nw = ws.length) (hnl : nw ≤ 100000) (w : World) (hR : RowAt w g (wv ws) 64) : Calls Try.prog 27 #[.slice (some ⟨g, 0, none⟩) nw nw, .int .i64 (j : Int)] w fun e w' => e = .returned (.tuple #[]) ∧ RowAt w' g (wv (ws.set (j / 64) (x ||| 1 <<< (j % 64)))) 64 ∧ w.grownBy w' (some g) := by
  have hc := hR.cell (wv_get hj)
  have hf := hR.free (j / 64)
  have hjl : j / 64 < nw := by rw [hn]; exact (List.getElem?_eq_some_iff.1 hj).1
  have h0 : (0 : Int) ≤ (j : Int) / 64 := by omega
  have h1 : (j : Int) / 64 < (nw : Int) := by omega
  have h2 : ((j : Int) / 64).toNat = j / 64 := by omega
  have hx := hS x (List.mem_of_getElem? hj)
  clear hn
  go_enter Try.func27, Try.ntmps27
  go_region
  rw [or_shl x j hx]
  go_end0
  refine ⟨rfl, ?_, set_grown _ _ _ _⟩
  have h := hR.set (j / 64) (.int .u64 ((x ||| 1 <<< (j % 64) : Nat) : Int))
  rw [wv_set] at h
  exact h

set_option maxHeartbeats 2000000 in
theorem lhas (ws : List Nat) (hS : Small ws) (g j x nw : Nat) (hj : ws[j / 64]? = some x) (hn : nw = ws.length) (hnl : nw ≤ 100000) (w : World) (hR : RowAt w g (wv ws) 64) : Calls Try.prog 20 #[.slice (some ⟨g, 0, none⟩) nw nw, .int .i64 (j : Int)] w fun e w' => e = .returned (.bool (x.testBit (j % 64))) ∧ w = w' := by
  have hc := hR.cell (wv_get hj)
  have hjl : j / 64 < nw := by rw [hn]; exact (List.getElem?_eq_some_iff.1 hj).1
  have h0 : (0 : Int) ≤ (j : Int) / 64 := by omega
  have h1 : (j : Int) / 64 < (nw : Int) := by omega
  have h2 : ((j : Int) / 64).toNat = j / 64 := by omega
  have hx := hS x (List.mem_of_getElem? hj)
  clear hn
  go_enter Try.func20, Try.ntmps20
  go_wp2_with fail
  go_ret
  exact ⟨by rw [← and_bit x j hx]; rfl, rfl⟩
end Go.Proofs.Ytfldhggmgepcjaa
