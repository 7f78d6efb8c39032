/-
  Rows of bits in words.
  The reference's New.
  path's names: an iterator over a path's names: each in its order, each once; it stops where the loop is left.
  path's Parts, over the iterator.
-/
import Derived.Test.YtclhpedecimicaaGreatK10
import Derived.Test.YtclhpedecimicaaGreatK2
import Derived.Laws.Bits64b
import Derived.Laws.Shifts
import Derived.Deep.RegionLaw
import Derived.Test.YtclhpedecimicaaGreatK4
import Derived.Laws.MakeOwn
import Derived.RangeFuncBox
import Derived.RangeFuncLeaves
import Derived.RangeFuncNested
import Derived.RangeFuncBound
import Derived.RangeFuncCalls
import Derived.Shelf.Abstract
import Derived.WalkKit
import Derived.OwnWalkIn
import Derived.TacticsInMore
import Derived.LoopNIn
import Derived.LoopIn
import Derived.Maps.AppendAt
import Derived.Test.YtclhpedecimicaaGreatK5
import Derived.Test.YtclhpedecimicaaGreatK7
namespace Go.Proofs.YtclhpedecimicaaGreat
set_option maxRecDepth 100000
open Go Go.RowKit

def wv (ws : List Nat) : List Value := ws.map fun x : Nat => Value.int .u64 (x : Int)
def bit (ws : List Nat) (j : Nat) : Bool := (ws.getD (j / 64) 0).testBit (j % 64)
def Small (ws : List Nat) : Prop := ∀ x ∈ ws, x < 18446744073709551616
theorem wv_get {ws : List Nat} {i : Nat} {x : Nat} (h : ws[i]? = some x) : (wv ws)[i]? = some (.int .u64 (x : Int)) := by
  unfold wv; rw [List.getElem?_map, h]; rfl
theorem wv_set (ws : List Nat) (i : Nat) (x : Nat) : (wv ws).set i (.int .u64 (x : Int)) = wv (ws.set i x) := by unfold wv; rw [List.map_set]

theorem pow_small (j : Nat) : 2 ^ (j % 64) < 18446744073709551616 := by
  have h : 2 ^ (j % 64) < 2 ^ 64 := Nat.pow_lt_pow_right (by omega) (Nat.mod_lt _ (by omega))
  exact h
theorem or_shl (x j : Nat) (hx : x < 18446744073709551616) : bits .or .u64 (x : Int) (IntKind.u64.wrap (2 ^ (j % 64))) = ((x ||| 1 <<< (j % 64) : Nat) : Int) := by
  have h1 : IntKind.u64.wrap (2 ^ (j % 64)) = ((1 <<< (j % 64) : Nat) : Int) := by
    have h := pow_small j
    rw [IntKind.wrap_u64, Nat.one_shiftLeft, Int.natCast_pow]
    refine Int.emod_eq_of_lt (Int.le_of_lt (Int.pow_pos (by decide))) ?_
    have : ((2 ^ (j % 64) : Nat) : Int) < 18446744073709551616 := by omega
    rw [Int.natCast_pow] at this
    exact this
  rw [h1, bits_or_u64_nat _ _ hx (by rw [Nat.one_shiftLeft]; exact pow_small j)]

theorem and_bit (x j : Nat) (hx : x < 18446744073709551616) : (bits .and .u64 ((x : Int) / 2 ^ (j % 64)) 1 == 1) = x.testBit (j % 64) := by
  have h1 : (x : Int) / 2 ^ (j % 64) = ((x / 2 ^ (j % 64) : Nat) : Int) := by
    rw [Int.natCast_ediv, Int.natCast_pow]; rfl
  have h2 : x / 2 ^ (j % 64) < 18446744073709551616 := Nat.lt_of_le_of_lt (Nat.div_le_self _ _) hx
  have h3 := bits_and_u64_nat (x / 2 ^ (j % 64)) 1 h2 (by omega)
  have h4 : bits .and .u64 ((x : Int) / 2 ^ (j % 64)) 1 = (((x / 2 ^ (j % 64)) &&& 1 : Nat) : Int) := by rw [h1]; exact h3
  rw [h4, Nat.testBit, Nat.shiftRight_eq_div_pow, Nat.and_comm]
  rcases Nat.mod_two_eq_zero_or_one (x / 2 ^ (j % 64)) with h | h
  · rw [Nat.one_and_eq_mod_two, h]; rfl
  · rw [Nat.one_and_eq_mod_two, h]; rfl
theorem set_grown (w : World) (g j : Nat) (u : Value) : w.grownBy ((w.setCell ⟨g, j, none⟩ u).drew) (some g) :=
  ⟨rfl, rfl, rfl, by show _ ≤ (w.setCell ⟨g, j, none⟩ u).heap.size; rw [set_size]; exact Nat.le_refl _, fun k _ hne => Below.heap_setCell _ _ _ _ (fun e => hne (by rw [e]))⟩
set_option maxHeartbeats 2000000 in
theorem lput (ws : List Nat) (hS : Small ws) (g j x nw : Nat) (hj : ws[j / 64]? = some x) (hn : nw = ws.length) (hnl : nw ≤ 100000) (w : World) (hR : RowAt w g (wv ws) 128) : Calls Tryz.prog 133 #[.slice (some ⟨g, 0, none⟩) nw nw, .int .i64 (j : Int)] w fun e w' => e = .returned (.tuple #[]) ∧ RowAt w' g (wv (ws.set (j / 64) (x ||| 1 <<< (j % 64)))) 128 ∧ w.grownBy w' (some g) := by
  have hc := hR.cell (wv_get hj)
  have hf := hR.free (j / 64)
  have hjl : j / 64 < nw := by rw [hn]; exact (List.getElem?_eq_some_iff.1 hj).1
  have h0 : (0 : Int) ≤ (j : Int) / 64 := by omega
  have h1 : (j : Int) / 64 < (nw : Int) := by omega
  have h2 : ((j : Int) / 64).toNat = j / 64 := by omega
  have hx := hS x (List.mem_of_getElem? hj)
  clear hn
  go_enter Tryz.func133, Tryz.ntmps133
  go_region
  rw [or_shl x j hx]
  go_end0
  refine ⟨rfl, ?_, set_grown _ _ _ _⟩
  have h := hR.set (j / 64) (.int .u64 ((x ||| 1 <<< (j % 64) : Nat) : Int))
  rw [wv_set] at h
  exact h

set_option maxHeartbeats 2000000 in
theorem lhas (ws : List Nat) (hS : Small ws) (g j x nw : Nat) (hj : ws[j / 64]? = some x) (hn : nw = ws.length) (hnl : nw ≤ 100000) (w : World) (hR : RowAt w g (wv ws) 128) : Calls Tryz.prog 127 #[.slice (some ⟨g, 0, none⟩) nw nw, .int .i64 (j : Int)] w fun e w' => e = .returned (.bool (x.testBit (j % 64))) ∧ w = w' := by
  have hc := hR.cell (wv_get hj)
  have hjl : j / 64 < nw := by rw [hn]; exact (List.getElem?_eq_some_iff.1 hj).1
  have h0 : (0 : Int) ≤ (j : Int) / 64 := by omega
  have h1 : (j : Int) / 64 < (nw : Int) := by omega
  have h2 : ((j : Int) / 64).toNat = j / 64 := by omega
  have hx := hS x (List.mem_of_getElem? hj)
  clear hn
  go_enter Tryz.func127, Tryz.ntmps127
  go_wp2_with fail
  go_ret
  exact ⟨by rw [← and_bit x j hx]; rfl, rfl⟩
end Go.Proofs.YtclhpedecimicaaGreat

namespace Go.Proofs.YtclhpedecimicaaGreat
set_option maxRecDepth 100000
open Go Go.RowKit

def rootIno : Ino := ⟨2, 7, 0, [], [], 0⟩
def newT (n : Nat) (b : Int) : Tre := ⟨rootIno :: List.replicate (n - 1) noIno, n, b⟩
def NewFits (n b : Int) : Prop := 1 ≤ n ∧ n ≤ 256 ∧ 0 ≤ b ∧ b ≤ 65536

set_option maxHeartbeats 1000000 in
theorem rnew_no (n b : Int) (h : ¬ NewFits n b) (w : World) :
    Calls Tryz.prog 15 #[.int .i64 n, .int .i64 b] w fun e w' => e = .returned (.tuple #[.agg #[.slice none 0 0, .int .i64 0, .int .i64 0], .int .i64 22]) ∧ Below w.heap.size w w' := by
  have h4 : n < 1 ∨ (1 ≤ n ∧ 256 < n) ∨ (1 ≤ n ∧ n ≤ 256 ∧ b < 0) ∨ (1 ≤ n ∧ n ≤ 256 ∧ 0 ≤ b ∧ 65536 < b) := by unfold NewFits at h; omega
  have hb := below_box w (.cells #[.slice none 0 0, .int .i64 0, .int .i64 0] 24)
  rcases h4 with h | ⟨h, h1⟩ | ⟨h, h1, h2⟩ | ⟨h, h1, h2, h3⟩
  all_goals
    go_enter Tryz.func15, Tryz.ntmps15
    go_wp2_with fail
    exact bodyPost_ret (v := .tuple #[.agg #[.slice none 0 0, .int .i64 0, .int .i64 0], .int .i64 22]) (by simp [results, Tryz.results15, go_sem]) rfl ⟨rfl, hb⟩

def zeroC : Array Value := #[.int .i64 0, .int .i64 0, .int .i64 0, .string ⟨#[]⟩, .slice none 0 0, .int .i64 0]
theorem infoIw : (Tryz.prog.info? 36).map (fun i => (i.zero, i.size, i.bytes)) = some (some (.agg zeroC), 6, 72) := by kernel_rfl
theorem made_at (n i j : Nat) (hi : i < n) (hj : j < 6) : (madeCells zeroC (n * 6))[i * 6 + j]? = zeroC[j]? := by
  have hlt : i * 6 + j < n * 6 := by omega
  unfold madeCells
  rw [Array.getElem?_map, Array.getElem?_range, if_pos hlt]
  have e : (i * 6 + j) % zeroC.size = j := by show (i * 6 + j) % 6 = j; omega
  simp only [Option.map_some, e]
  match j, hj with
  | 0, _ => rfl
  | 1, _ => rfl
  | 2, _ => rfl
  | 3, _ => rfl
  | 4, _ => rfl
  | 5, _ => rfl

def rootC : Array Value := #[.int .i64 2, .int .i64 7, .int .i64 0, .string ⟨#[]⟩, .slice none 0 0, .int .i64 0]
theorem new_nodes (W : World) (N n : Nat) (h0 : 1 ≤ n) (hm : n ≤ 256) (h : ∀ i j, i < n → j < 6 → W.cell? ⟨N, i * 6 + j, none⟩ = (if i = 0 then rootC else zeroC)[j]?) : NodesIn W (some ⟨N, 0, none⟩) n (rootIno :: List.replicate (n - 1) noIno) := by
  have hl : (rootIno :: List.replicate (n - 1) noIno).length = n := by simp; omega
  refine ⟨by omega, by unfold maxLen; omega, fun i hi => ⟨N, 0, rfl, ?_⟩⟩
  rw [hl] at hi
  rw [Nat.zero_add]
  have hnil : ∀ (W : World), KidsIn W (.slice none 0 0) [] := fun W => ⟨none, 0, rfl, Nat.le_refl _, Nat.zero_le _, fun i hi => absurd hi (Nat.not_lt_zero _)⟩
  by_cases hi0 : i = 0
  · subst hi0
    have g : ∀ j, j < 6 → W.cell? ⟨N, 0 * 6 + j, none⟩ = rootC[j]? := fun j hj => h 0 j hi hj
    exact ⟨g 0 (by decide), g 1 (by decide), g 2 (by decide), g 3 (by decide), ⟨_, g 4 (by decide), hnil W⟩, g 5 (by decide)⟩
  · have g : ∀ j, j < 6 → W.cell? ⟨N, i * 6 + j, none⟩ = zeroC[j]? := fun j hj => by
      have := h i j hi hj
      rw [if_neg hi0] at this
      exact this
    obtain ⟨m, rfl⟩ : ∃ m, i = m + 1 := ⟨i - 1, by omega⟩
    have e : (rootIno :: List.replicate (n - 1) noIno)[m + 1]'(by rw [hl]; exact hi) = noIno := by simp
    rw [e]
    exact ⟨g 0 (by decide), g 1 (by decide), g 2 (by decide), g 3 (by decide), ⟨_, g 4 (by decide), hnil W⟩, g 5 (by decide)⟩

theorem six_set (A : Array Value) (n : Nat) (h1 : 1 ≤ n) (hs : A.size = n * 6) (hA : ∀ i j, i < n → j < 6 → A[i * 6 + j]? = zeroC[j]?) (i j : Nat) (hi : i < n) (hj : j < 6) :
    ((((((A.setIfInBounds 0 (Value.int .i64 2)).setIfInBounds 1 (Value.int .i64 7)).setIfInBounds 2 (Value.int .i64 0)).setIfInBounds 3 (Value.string ⟨#[]⟩)).setIfInBounds 4 (Value.slice none 0 0)).setIfInBounds 5 (Value.int .i64 0))[i * 6 + j]? = (if i = 0 then rootC else zeroC)[j]? := by
  by_cases hi0 : i = 0
  · subst hi0
    rw [if_pos rfl, Nat.zero_mul, Nat.zero_add]
    have hs6 : 6 ≤ A.size := by omega
    match j, hj with
    | 0, _ => rw [Array.getElem?_setIfInBounds_ne (show (5 : Nat) ≠ 0 by decide), Array.getElem?_setIfInBounds_ne (show (4 : Nat) ≠ 0 by decide), Array.getElem?_setIfInBounds_ne (show (3 : Nat) ≠ 0 by decide), Array.getElem?_setIfInBounds_ne (show (2 : Nat) ≠ 0 by decide), Array.getElem?_setIfInBounds_ne (show (1 : Nat) ≠ 0 by decide), Array.getElem?_setIfInBounds, if_pos rfl, if_pos (by (try simp only [Array.size_setIfInBounds]); omega)]; rfl
    | 1, _ => rw [Array.getElem?_setIfInBounds_ne (show (5 : Nat) ≠ 1 by decide), Array.getElem?_setIfInBounds_ne (show (4 : Nat) ≠ 1 by decide), Array.getElem?_setIfInBounds_ne (show (3 : Nat) ≠ 1 by decide), Array.getElem?_setIfInBounds_ne (show (2 : Nat) ≠ 1 by decide), Array.getElem?_setIfInBounds, if_pos rfl, if_pos (by (try simp only [Array.size_setIfInBounds]); omega)]; rfl
    | 2, _ => rw [Array.getElem?_setIfInBounds_ne (show (5 : Nat) ≠ 2 by decide), Array.getElem?_setIfInBounds_ne (show (4 : Nat) ≠ 2 by decide), Array.getElem?_setIfInBounds_ne (show (3 : Nat) ≠ 2 by decide), Array.getElem?_setIfInBounds, if_pos rfl, if_pos (by (try simp only [Array.size_setIfInBounds]); omega)]; rfl
    | 3, _ => rw [Array.getElem?_setIfInBounds_ne (show (5 : Nat) ≠ 3 by decide), Array.getElem?_setIfInBounds_ne (show (4 : Nat) ≠ 3 by decide), Array.getElem?_setIfInBounds, if_pos rfl, if_pos (by (try simp only [Array.size_setIfInBounds]); omega)]; rfl
    | 4, _ => rw [Array.getElem?_setIfInBounds_ne (show (5 : Nat) ≠ 4 by decide), Array.getElem?_setIfInBounds, if_pos rfl, if_pos (by (try simp only [Array.size_setIfInBounds]); omega)]; rfl
    | 5, _ => rw [Array.getElem?_setIfInBounds, if_pos rfl, if_pos (by (try simp only [Array.size_setIfInBounds]); omega)]; rfl
  · rw [if_neg hi0, ← hA i j hi hj]
    rw [Array.getElem?_setIfInBounds_ne (show (5 : Nat) ≠ i * 6 + j by omega), Array.getElem?_setIfInBounds_ne (show (4 : Nat) ≠ i * 6 + j by omega), Array.getElem?_setIfInBounds_ne (show (3 : Nat) ≠ i * 6 + j by omega), Array.getElem?_setIfInBounds_ne (show (2 : Nat) ≠ i * 6 + j by omega), Array.getElem?_setIfInBounds_ne (show (1 : Nat) ≠ i * 6 + j by omega), Array.getElem?_setIfInBounds_ne (show (0 : Nat) ≠ i * 6 + j by omega)]

set_option maxHeartbeats 1000000 in
theorem rnew_yes (n : Nat) (b : Int) (h1 : 1 ≤ n) (h2 : n ≤ 256) (h3 : 0 ≤ b) (h4 : b ≤ 65536) (w : World) :
    Calls Tryz.prog 15 #[.int .i64 n, .int .i64 b] w fun e w' => (∃ v, e = .returned (.tuple #[v, .int .i64 0]) ∧ TreeIn w' v (newT n b)) ∧ Below w.heap.size w w' := by
  obtain ⟨i0, hi, hz0, hz1, hz2⟩ := info_parts infoIw
  have hmk : (Instr.makeSlice 22 (.int .i64 (n : Int)) (.int .i64 (n : Int))).run Tryz.prog (w.alloc (.cells #[.slice none 0 0, .int .i64 0, .int .i64 0] 24)) =
      .ok (.slice (some ⟨w.heap.size + 1, 0, none⟩) n n) ((w.alloc (.cells #[.slice none 0 0, .int .i64 0, .int .i64 0] 24)).alloc (.cells (madeCells zeroC (n * 6)) 36)) := by
    have h := run_makeSlice (P := Tryz.prog) (w.alloc (.cells #[.slice none 0 0, .int .i64 0, .int .i64 0] 24)) 22 36 i0 (.agg zeroC) Tryz.underlying22 hi hz0 .i64 .i64 (n : Int) (n : Int) (by omega) (Int.le_refl _) (by rw [hz1]; simp; omega) (by rw [hz2]; omega) (by omega)
    rw [hz1, World.size_alloc, Int.toNat_natCast] at h
    exact h
  have hA := fun i j hi hj => made_at n i j hi hj
  have hsz : (madeCells zeroC (n * 6)).size = n * 6 := size_madeCells _ _
  generalize madeCells zeroC (n * 6) = A at hmk hA hsz
  have a0 : A[0]? = some (.int .i64 0) := hA 0 0 (by omega) (by omega)
  have a1 : A[1]? = some (.int .i64 0) := hA 0 1 (by omega) (by omega)
  have a2 : A[2]? = some (.int .i64 0) := hA 0 2 (by omega) (by omega)
  have a3 : A[3]? = some (.string ⟨#[]⟩) := hA 0 3 (by omega) (by omega)
  have a4 : A[4]? = some (.slice none 0 0) := hA 0 4 (by omega) (by omega)
  have a5 : A[5]? = some (.int .i64 0) := hA 0 5 (by omega) (by omega)
  have HA := Lib.hid hA
  have HS := Lib.hid hsz
  clear hA hsz hi hz0 hz1 hz2
  go_enter Tryz.func15, Tryz.ntmps15
  go_wp2_with fail
  refine bodyPost_ret (v := .tuple #[.agg #[.slice (some ⟨w.heap.size + 1, 0, none⟩) n n, .int .i64 n, .int .i64 b], .int .i64 0]) (by simp [results, Tryz.results15, go_sem]) rfl ⟨⟨_, rfl, some ⟨w.heap.size + 1, 0, none⟩, n, ?_, ?_⟩, ?_⟩
  · have hl : (newT n b).nodes.length = n := by show (rootIno :: List.replicate (n - 1) noIno).length = n; simp; omega
    rw [hl]
    rfl
  · refine new_nodes _ _ n h1 h2 (fun i j hi hj => ?_)
    rw [← six_set A n h1 HS.out HA.out i j hi hj]
    have e : (w.alloc (.cells #[.slice (some ⟨w.heap.size + 1, 0, none⟩) n n, .int .i64 n, .int .i64 b] 24)).heap.size = w.heap.size + 1 := by simp
    simp only [World.cell?]
    rw [Below.heap_alloc _ _ _ (by simp)]
    have hb := new_block (w.alloc (.cells #[.slice (some ⟨w.heap.size + 1, 0, none⟩) n n, .int .i64 n, .int .i64 b] 24)) (.cells ((((((A.setIfInBounds 0 (Value.int .i64 2)).setIfInBounds 1 (Value.int .i64 7)).setIfInBounds 2 (Value.int .i64 0)).setIfInBounds 3 (Value.string ⟨#[]⟩)).setIfInBounds 4 (Value.slice none 0 0)).setIfInBounds 5 (Value.int .i64 0)) 36)
    rw [e] at hb
    rw [hb]
    rfl
  · exact ((below_box w _).alloc (by simp) _).alloc (by simp; omega) _
end Go.Proofs.YtclhpedecimicaaGreat

namespace Go.Proofs.YtclhpedecimicaaGreat
set_option maxRecDepth 100000
open Go Go.RowKit Go.Shelf

attribute [local go_sem] Oper.semAt_some

/-- Block Bn stands as it stood. -/
def KeepB (Bn : Nat) (W W' : World) : Prop := W'.heap[Bn]? = W.heap[Bn]?
theorem keepB_t {Bn : Nat} {A B C : World} (h : KeepB Bn A B) (k : KeepB Bn B C) : KeepB Bn A C := Eq.trans k h
theorem keepB_b {Bn : Nat} {w : World} (hb : Bn < w.heap.size) (W : World) (l : Nat) (o o' : Obj) (hl : w.heap.size ≤ l) (_ : W.heap[l]? = some o) (_ : o.isCells = false) (_ : o.isWalk = false) : KeepB Bn W (W.putObj l o') :=
  by
  show (W.putObj l o').heap[Bn]? = W.heap[Bn]?
  simp only [World.putObj]
  rw [Array.getElem?_setIfInBounds_ne (by omega)]

/-- The names D are done, the rest r stands before us. -/
def Rest (s : List UInt8) (D : List (List UInt8)) (r : List UInt8) : Prop := r.length ≤ s.length ∧ partsL s = D ++ partsL r
theorem Rest.start (s : List UInt8) : Rest s [] s := ⟨Nat.le_refl _, rfl⟩
theorem Rest.skip {s r : List UInt8} {D : List (List UInt8)} (h : Rest s D r) (hh : headL r = []) : Rest s D (tailL r) := by
  refine ⟨Nat.le_trans (tail_len r) h.1, ?_⟩
  rw [h.2, parts_step r, if_pos hh, List.nil_append]
theorem Rest.takes {s r : List UInt8} {D : List (List UInt8)} (h : Rest s D r) (hh : headL r ≠ []) : Rest s (D ++ [headL r]) (tailL r) := by
  refine ⟨Nat.le_trans (tail_len r) h.1, ?_⟩
  rw [h.2, parts_step r, if_neg hh, List.append_assoc]
theorem Rest.done {s : List UInt8} {D : List (List UInt8)} (h : Rest s D []) : D = partsL s := by
  rw [h.2]
  simp [partsL, partsGo]
theorem Rest.pre {s r : List UInt8} {D : List (List UInt8)} (h : Rest s D r) : D <+: partsL s := ⟨partsL r, h.2.symm⟩

def IRel (s : ByteArray) (Bn : Nat) (J : List (List UInt8) → World → Prop) (r : Value) (wr : World) : Prop :=
  ∃ (l : List UInt8) (D : List (List UInt8)), r = .string ⟨l.toArray⟩ ∧ Rest s.data.toList D l ∧ J D wr ∧ wr.cell? ⟨Bn, 0, none⟩ = some (.string s)

def lenOf : Value → Nat
  | .string b => b.size
  | _ => 0

theorem list_empty (l : List UInt8) : ((⟨l.toArray⟩ : ByteArray).toList.isEmpty) = l.isEmpty := by rw [ByteArray.toList_eq]

theorem cut_list (l : List UInt8) (hs : l.length ≤ 1073741824) (w : World) :
    Calls Tryz.prog 36 #[.string ⟨l.toArray⟩, .string ⟨#[47]⟩] w fun e w' => (∃ b, e = .returned (.tuple #[.string ⟨(headL l).toArray⟩, .string ⟨(tailL l).toArray⟩, .bool b])) ∧ Drawn w w' :=
  cut_any ⟨l.toArray⟩ (by show l.toArray.size ≤ _; simpa using hs) w

/-- A fence that shuts nothing out. -/
structure Open (F : Fence) : Prop where
  fn : ∀ f, F.fn f
  ro : F.round = none
  calls : ∀ {n : Nat} {P : Program} {f : FuncId} {args : Array Value} {w : World} {R : Ending → World → Prop}, Calls P f args w R → CallsIn F n P f args w R
theorem open_wide : Open Fence.wide := ⟨fun _ => trivial, rfl, fun h => callsIn_wide.2 h⟩

set_option maxRecDepth 100000 in
set_option maxHeartbeats 2000000 in
theorem names1_in (F : Fence) (hF : Open F) (n : Nat) (hn : 1 ≤ n) (l Bn : Nat) (s : ByteArray) (hs : s.size ≤ 1073741824) (J Jx : List (List UInt8) → World → Prop) (hdr : ∀ pre W m, J pre W → J pre (W.drewN m))
    (hY : ∀ pre x W, J pre W → pre.length < (partsL s.data.toList).length → YieldAt F (n - 1) Tryz.prog l #[.string ⟨x.toArray⟩] W fun e W' =>
      (e = .returned (.bool true) ∧ J (pre ++ [x]) W' ∧ KeepB Bn W W') ∨ (e = .returned (.bool false) ∧ Jx (pre ++ [x]) W'))
    (W : World) (hBn : W.cell? ⟨Bn, 0, none⟩ = some (.string s)) (h0 : J [] W) :
    CallsIn F n Tryz.prog 120 #[.func (.yield l) #[] #[], .pointer (some ⟨Bn, 0, none⟩)] W fun e W' => (∃ v, e = .returned v) ∧
      ((∃ ys, ys = partsL s.data.toList ∧ J ys W') ∨ (∃ pre, pre <+: partsL s.data.toList ∧ Jx pre W')) := by
  have hsl := size_list s
  have hro : F.round = none := hF.ro
  have hfc : F.fn 36 := hF.fn _
  refine callsIn_of_wp Tryz.func120 rfl (hF.fn _) ?_ hro
  simp only [Tryz.ntmps120, List.size_toArray, List.length_cons, List.length_nil, Nat.reduceAdd, Nat.reduceSub, Array.replicate_succ, Array.replicate_zero, List.push_toArray, List.append_toArray, List.nil_append, List.cons_append]
  gi_wp2
  gi_loopw [3, 4] (fun r _ wr => IRel s Bn J r wr) (fun r _ _ => lenOf r)
  case atStart => exact ⟨s.data.toList, [], rfl, Rest.start _, h0, hBn⟩
  case round =>
    obtain ⟨r, D, rfl, hrest, hJ, hcell⟩ := hrel
    have HR := Lib.hid hrest
    have HJ := Lib.hid hJ
    clear hrest hJ
    have he := list_empty r
    cases hr : r.isEmpty with
    | true =>
      obtain rfl : r = [] := by simpa using hr
      have hfin := Lib.hid (Rest.done HR.out)
      gi_wp2
      go_end0
      exact ⟨⟨_, rfl⟩, .inl ⟨D, hfin.out, HJ.out⟩⟩
    | false =>
      have hrl : r.length ≤ 1073741824 := by have := HR.out.1; omega
      have hrn : r ≠ [] := fun e => by rw [e] at hr; cases hr
      have htl := tail_less r hrn
      have HT := Lib.hid htl
      clear htl hrn
      have he2 := list_empty (headL r)
      cases hh : (headL r).isEmpty with
      | true =>
        have hnext := Lib.hid (HR.out.skip (by simpa using hh))
        gi_wp2_with (gi_at_call 36; refine (hF.calls (cut_list r hrl _)).mono ?_; rintro e w' ⟨⟨b, rfl⟩, m, rfl⟩)
        refine ⟨fun _ h => (by cases h), ?_⟩
        gi_wp2
        go_roundw
        case rel => exact ⟨tailL r, D, rfl, hnext.out, hdr _ _ _ HJ.out, hcell⟩
        case measure => exact HT.out
      | false =>
        have hnext := Lib.hid (HR.out.takes (by simpa using hh))
        have hlen : D.length < (partsL s.data.toList).length := by
          have := (Rest.pre hnext.out).length_le
          simp at this
          omega
        gi_wp2_with (gi_at_call 36; refine (hF.calls (cut_list r hrl _)).mono ?_; rintro e w' ⟨⟨b, rfl⟩, m, rfl⟩; obtain ⟨fn, tmps, assign, body, hy, hR⟩ := hY D (headL r) _ (hdr _ _ m HJ.out) hlen)
        refine hR.mono ?_
        rintro e W3 (⟨rfl, hJ3, hk3⟩ | ⟨rfl, hJx3⟩)
        · have hcell3 : W3.cell? ⟨Bn, 0, none⟩ = some (.string s) := (World.cell?_of_block (w := wr.drewN m) (a := ⟨Bn, 0, none⟩) (show W3.heap[Bn]? = (wr.drewN m).heap[Bn]? from hk3)).trans hcell
          gi_wp2
          go_roundw
          case rel => exact ⟨tailL r, D ++ [headL r], rfl, hnext.out, hJ3, hcell3⟩
          case measure => exact HT.out
        · have hpre := Rest.pre hnext.out
          gi_wp2
          refine bodyPost_ret (results_none rfl _ _ _) rfl ?_
          exact ⟨⟨_, rfl⟩, .inr ⟨D ++ [headL r], hpre, hJx3⟩⟩

theorem names_in (F : Fence) (hF : Open F) (n : Nat) (s : ByteArray) (w : World) :
    CallsIn F n Tryz.prog 108 #[.string s] w fun e w' => e = .returned (.func (.func 120) #[] #[.pointer (some ⟨w.heap.size, 0, none⟩)]) ∧ w' = w.alloc (.cells #[.string s] 9) := by
  have hro : F.round = none := hF.ro
  refine callsIn_of_wp Tryz.func108 rfl (hF.fn _) ?_ hro
  simp only [Tryz.ntmps108, List.size_toArray, List.length_cons, List.length_nil, Nat.reduceAdd, Nat.reduceSub, Array.replicate_succ, Array.replicate_zero, List.push_toArray, List.append_toArray, List.nil_append, List.cons_append]
  gi_wp2
  go_ret
  exact ⟨rfl, rfl⟩

theorem drewN_grownBy (W : World) (m : Nat) : W.grownBy (W.drewN m) none := ⟨rfl, rfl, rfl, Nat.le_refl _, fun _ _ _ => rfl⟩

theorem names_stops (F : Fence) (hF : Open F) (n : Nat) (hn : 1 ≤ n) (Bn : Nat) (s : ByteArray) (hs : s.size ≤ 1073741824) (w : World) (hBn : Bn < w.heap.size)
    (hc : w.cell? ⟨Bn, 0, none⟩ = some (.string s)) :
    SeqStopsK F n Tryz.prog 120 #[.pointer (some ⟨Bn, 0, none⟩)] (fun x : List UInt8 => #[Value.string ⟨x.toArray⟩]) (KeepB Bn) (fun ys => ys = partsL s.data.toList) (fun pre => pre <+: partsL s.data.toList) (partsL s.data.toList).length w := fun l J Jx W hW hJ _ hY h0 =>
  names1_in F hF n hn l Bn s hs J Jx (fun pre W m h => hJ pre W _ none h (drewN_grownBy W m) (fun _ e => by cases e)) hY W ((hW.cell (p := ⟨Bn, 0, none⟩) hBn).trans hc) h0
end Go.Proofs.YtclhpedecimicaaGreat

namespace Go.Proofs.YtclhpedecimicaaGreat
set_option maxRecDepth 100000
open Go Go.RowKit Go.Shelf

attribute [local go_sem] Oper.semAt_some

theorem own_less {w : World} {b b' : Nat} {e : TypeId} {z n : Nat} {v : Value} {xs : List Value} (h : w.ownsRow b e z v n xs) (hb : b' ≤ b) : w.ownsRow b' e z v n xs := by
  obtain ⟨h1, h2 | ⟨g, cap, cur, hv, hg, r⟩⟩ := h
  · exact ⟨h1, Or.inl h2⟩
  · exact ⟨h1, Or.inr ⟨g, cap, cur, hv, by omega, r⟩⟩

theorem parts_le (l : List UInt8) : (partsL l).length ≤ l.length + 1 := by
  have h : ∀ (l cur : List UInt8), (partsGo cur l).length ≤ l.length + 1 := by
    intro l
    induction l with
    | nil => intro cur; unfold partsGo; split <;> simp
    | cons c r ih =>
      intro cur
      unfold partsGo
      split
      · split
        · have := ih []; simp; omega
        · have := ih []; simp only [List.length_cons]; omega
      · have := ih (cur ++ [c]); simp only [List.length_cons]; omega
  exact h l []

set_option maxRecDepth 100000 in
set_option maxHeartbeats 2000000 in
theorem parts_in (F : Fence) (hF : Open F) (n : Nat) (hn : 3 ≤ n) (s : ByteArray) (hs : s.size ≤ 1073741824) (w : World) :
    CallsIn F n Tryz.prog 87 #[.string s] w fun e W' => ∃ v, e = .returned v ∧ Texts w.heap.size W' v (partsL s.data.toList) ∧ Below w.heap.size w W' := by
  have hro : F.round = none := hF.ro
  have h23 : F.fn 108 := hF.fn _
  have h1 : 1 ≤ n := by omega
  have hpl := parts_le s.data.toList
  rw [size_list] at hpl
  obtain ⟨i0, hi, hz0, hz1, hz2⟩ := info_parts infoS
  refine callsIn_of_wp_marks Tryz.func87 rfl (hF.fn _) ?_ hro
  simp only [Tryz.ntmps87, List.size_toArray, List.length_cons, List.length_nil, Nat.reduceAdd, Nat.reduceSub, Array.replicate_succ, Array.replicate_zero, List.push_toArray, List.append_toArray, List.nil_append, List.cons_append]
  gi_wp2_with (gi_at_call 108; refine (names_in F hF (n - 1) _ _).mono ?_; rintro e w' ⟨rfl, rfl⟩)
  have bO := Boxed.new w 29 (.slice none 0 0)
  have bN := Boxed.new (w.alloc (.cells #[.slice none 0 0] 29)) 9 (.string s)
  rw [World.size_alloc] at bN
  have hB0 : Below w.heap.size w ((w.alloc (.cells #[.slice none 0 0] 29)).alloc (.cells #[.string s] 9)) := ((Below.refl _ w).alloc (Nat.le_refl _) _).alloc (by simp) _
  refine wpIn_rangeFunc_ownG hro h1 (gf := 120) (lb := #[.pointer (some ⟨w.heap.size + 1, 0, none⟩)]) rfl (hF.fn _) (enters_of Tryz.func120 (by kernel_rfl) rfl)
    (names_stops F hF (n - 1) (by omega) (w.heap.size + 1) s hs _ (by simp) bN.cell) keepB_t (keepB_b (by simp)) (Below.refl _ _) (fun _ => rfl)
    (fun pre W => (∃ v, Boxed W w.heap.size 29 v ∧ W.ownsRow (w.heap.size + 2) 9 1 v pre.length (pre.map strv) ∧ True) ∧ Boxed W (w.heap.size + 1) 9 (.string s) ∧ Below w.heap.size w W)
    (fun _ _ _ => False)
    (OwnFrom.and (Own.from (holdsRow_own (w.heap.size + 2) w.heap.size 29 9 1 (fun pre : List (List UInt8) => pre.length) (fun pre => pre.map strv) (fun _ _ => True)) _) (OwnFrom.and (Own.from (boxed_own _ _ _) _) (ownFrom_below (Nat.le_refl _) (by simp; omega))))
    (fun _ _ _ _ _ hs _ _ => hs)
    ⟨⟨_, bO.alloc _, World.ownsRow_nil _ _ _ _, trivial⟩, bN, hB0⟩
    (fun x => { tmps := #[.string s, undef, .slice none 0 0, .pointer (some ⟨w.heap.size, 0, none⟩), .string ⟨x.toArray⟩, .string s, .func (.func 120) #[] #[.pointer (some ⟨w.heap.size + 1, 0, none⟩)], .string ⟨x.toArray⟩, undef, undef, undef, undef, undef], defers := [] }) ?assign ?body ?done ?stop
  case assign =>
    intro l x W K hK
    gi_wp2
    exact hK
  case body =>
    rintro l pre x W ⟨⟨v, hv, hrow, -⟩, hp, hB⟩ hlt
    have hc := hv.cell
    have hpz := hp.lt
    have hne : ∀ k, v.ownBlock = some k → k ≠ w.heap.size + 1 := fun k e => by have := (hrow.lt k e).1; omega
    gi_wp2_with (gi_at_builtin; refine wpListIn_append_own _ rfl _ _ 29 rfl (w.heap.size + 2) 9 i0 (.string ByteArray.empty) 1 16 Tryz.underlying29 hi hz0 hz1 hz2 rfl (by decide) _ _ _ rfl (hrow.alloc _) ⟨W.heap.size, 0, none⟩ 1 1 [.string ⟨x.toArray⟩] rfl rfl (cell_one_new _ _ _) (fun x hx => by simp at hx; subst hx; rfl) (by unfold maxLen; omega) (by omega) (by simp; omega) ?_; intro v' w1 hown' hgrow _; obtain ⟨g', cap', rfl⟩ := ownsRow_succ hown'; obtain ⟨hv1, hv2, hr2, hk2, hb2⟩ := hv.appended (by decide) (own_less hrow (Nat.le_add_right _ 2)) hB.size (Nat.le_refl _) (own_less hown' (Nat.le_add_right _ 2)) hgrow; have hc1 := hv1.cell; have hf1 := hv1.frozen)
    have hp1 := (hp.alloc (.cells #[.string ⟨x.toArray⟩] 9)).kept hgrow (fun e => hne _ e.symm rfl)
    refine ⟨hk2.from _, ?_, ⟨_, hv2, ?_, trivial⟩, hp1.other (by omega) _, hB.trans hb2⟩
    · exact ((hp1.other (B' := w.heap.size) (by omega) _).trans hp.symm)
    · simpa [strv] using hown'.kept (grownBy_setCell' _ w.heap.size _) (.inr (hv1.not_row (by decide) hown').symm)
  case done =>
    rintro D ys W hD rfl ⟨⟨v, hv, hrow, -⟩, -, hB⟩ hK
    have hc := hv.cell
    gi_wp2
    refine ⟨by simp, .inl ⟨_, _, rfl, run_takeDeferred hK, ?_⟩⟩
    exact ⟨_, results_tmp rfl _ _ _, v, rfl, ownsRow_putObj (own_less hrow (Nat.le_add_right _ 2)) _ hK rfl, hB.trans (belowK_b (w := w) (Nat.le_refl _) W D _ _ (by simp at hD; omega) hK rfl rfl)⟩
  case stop =>
    rintro D c pre W _ _ h _
    exact h.elim

/-- Parts, as the law calls it. -/
theorem parts_any (s : ByteArray) (hs : s.size ≤ 1073741824) (w : World) :
    Calls Tryz.prog 87 #[.string s] w fun e W' => ∃ v, e = .returned v ∧ Texts w.heap.size W' v (partsL s.data.toList) ∧ Below w.heap.size w W' :=
  callsIn_wide.1 (parts_in Fence.wide open_wide 3 (Nat.le_refl _) s hs w)
end Go.Proofs.YtclhpedecimicaaGreat
