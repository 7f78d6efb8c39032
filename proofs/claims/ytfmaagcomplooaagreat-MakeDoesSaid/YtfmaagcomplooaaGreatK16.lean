/-
  good: which trees and texts the laws of layer 5 speak of.
  The reference's New.
  Plain laws on new trees: they can be, and use just their root.
  awake: chapter 5's example; good: which trees and texts the laws speak of.
-/
import Derived.Test.YtfmaagcomplooaaGreatTRFit2
import Derived.Test.YtfmaagcomplooaaGreatK3
import Derived.Test.YtfmaagcomplooaaGreatK1
import Derived.Laws.MakeOwn
import Derived.Test.YtfmaagcomplooaaGreatK9
import Derived.Test.YtfmaagcomplooaaGreatK14
import Derived.Test.YtfmaagcomplooaaGreatK13
namespace Go.Proofs.YtfmaagcomplooaaGreat
set_option maxRecDepth 100000
open Go Go.RowKit

/-- What good answers. -/
def GoodAns (L : List Ino) (m b : Int) (Ts : List ByteArray) (e : Ending) : Prop := ∃ v : Bool, e = .returned (.bool v) ∧ (v = true → L.length ≤ 300 ∧ FitP L m b ∧ ∀ s ∈ Ts, s.size ≤ 3000)

set_option maxHeartbeats 4000000 in
theorem good5_any (a : Option Addr) (cap : Nat) (m b : Int) (L : List Ino) (hS : Sized L) (Ts : List ByteArray) (hTs : ∀ s ∈ Ts, s.size ≤ 281474976710656) (hTl : Ts.length ≤ 4) (q tc : Nat) (w : World) (hN : NodesIn w a cap L) (hT : ∀ i (hi : i < Ts.length), w.cell? ⟨q, i, none⟩ = some (.string Ts[i])) :
    Calls Tryz.prog 4 #[.agg #[.slice a L.length cap, .int .i64 m, .int .i64 b], .slice (some ⟨q, 0, none⟩) Ts.length tc] w fun e w' => GoodAns L m b Ts e ∧ Below w.heap.size w w' := by
  obtain ⟨w1, hw1⟩ : ∃ w1, w1 = w.alloc (.cells #[.slice a L.length cap, .int .i64 m, .int .i64 b] 24) := ⟨_, rfl⟩
  have hb1 : Below w.heap.size w w1 := by rw [hw1]; exact below_box w _
  have hX : w1.heap[w.heap.size]? = some (.cells #[.slice a L.length cap, .int .i64 m, .int .i64 b] 24 (0, 0)) := by rw [hw1]; exact new_block w _
  have hs1 : w1.heap.size = w.heap.size + 1 := by rw [hw1]; simp
  have HM := Lib.hid (hN.below hb1)
  have HB1 := Lib.hid hb1
  have HS := Lib.hid hS
  have HT := Lib.hid (show ∀ W, Below w1.heap.size w1 W → ∀ i (hi : i < Ts.length), W.cell? ⟨q, i, none⟩ = some (.string Ts[i]) from fun W hW i hi => cell_below (hb1.trans (hW.mono (by omega))) (hT i hi))
  have HX := Lib.hid (show ∀ W, Below w1.heap.size w1 W → W.cell? ⟨w.heap.size, 0, none⟩ = some (.slice a L.length cap) ∧ W.cell? ⟨w.heap.size, 1, none⟩ = some (.int .i64 m) ∧ W.cell? ⟨w.heap.size, 2, none⟩ = some (.int .i64 b) from fun W hW => by
    have h := (hW.block w.heap.size (by omega)).trans hX
    exact ⟨blk_cell h 0, blk_cell h 1, blk_cell h 2⟩)
  have HTS := Lib.hid hTs
  clear hN hT hS hb1 hX hTs
  go_enter Tryz.func4, Tryz.ntmps4
  go_wp2_with fail
  rw [← hw1]
  clear hw1
  go_loopw [6, 9] (fun _ iv wr => ∃ K : Nat, K ≤ Ts.length ∧ iv = .int .i64 K ∧ Hid (∀ i (hi : i < Ts.length), i < K → Ts[i].size ≤ 3000) ∧ Hid (Below w1.heap.size w1 wr)) (fun _ iv _ => Ts.length - (intOf iv).toNat)
  case atStart => exact ⟨0, Nat.zero_le _, rfl, fun _ _ h => absurd h (Nat.not_lt_zero _), Below.refl _ _⟩
  case round =>
    obtain ⟨K, hK, rfl, HOK, HBR⟩ := hrel
    by_cases hlt : K < Ts.length
    · have t0 := HT.out _ HBR.out K hlt
      have hq := cell_lt t0
      obtain ⟨s, hs⟩ : ∃ s, s = Ts[K] := ⟨_, rfl⟩
      rw [← hs] at t0
      have hss : s.size ≤ 281474976710656 := by rw [hs]; exact HTS.out _ (List.getElem_mem _)
      have HSK := Lib.hid hs
      have hlt' : (K : Int) < (Ts.length : Int) := by omega
      have hk0 : (0 : Int) ≤ (K : Int) := by omega
      clear hs
      by_cases h3 : s.size ≤ 3000
      · have h3' : ¬ ((3000 : Int) < (s.size : Int)) := by omega
        have hnext := Lib.hid (show ∀ i (hi : i < Ts.length), i < K + 1 → Ts[i].size ≤ 3000 from fun i hi hiK => by
          by_cases e : i = K
          · subst e
            rw [← HSK.out]
            exact h3
          · exact HOK.out i hi (by omega))
        go_wp2_with fail
        go_roundw
        case rel => exact ⟨K + 1, by omega, by go_num, hnext, HBR⟩
        case measure => simp [intOf] <;> omega
      · have h3' : (3000 : Int) < (s.size : Int) := by omega
        go_wp2_with fail
        go_ret
        exact ⟨⟨false, rfl, fun e => by cases e⟩, HB1.out.trans (HBR.out.mono (by omega))⟩
    · have hall := Lib.hid (show ∀ s ∈ Ts, s.size ≤ 3000 from fun s hs => by
        obtain ⟨i, hi, rfl⟩ := List.getElem_of_mem hs
        exact HOK.out i hi (by omega))
      obtain ⟨q0, q1, q2⟩ := HX.out _ HBR.out
      have hql := cell_lt q0
      by_cases hl : L.length ≤ 300
      · have hl2 : decide ((L.length : Int) ≤ 300) = true := decide_eq_true (by omega)
        go_wp2_with fail
        refine (rfit_any _ _ _ _ L hl HS.out _ (HM.out.below HBR.out)).mono ?_
        rintro e w2 ⟨⟨v, rfl, hv⟩, hb2⟩
        have HV := Lib.hid hv
        have HB2 := Lib.hid (HB1.out.trans ((HBR.out.trans (hb2.mono HBR.out.size)).mono (by omega)))
        clear hv hb2
        go_wp2_with fail
        go_ret
        exact ⟨⟨v, rfl, fun e => ⟨hl, ref_iff.1 (by subst e; exact HV.out.1 rfl), hall.out⟩⟩, HB2.out⟩
      · have hl2 : decide ((L.length : Int) ≤ 300) = false := decide_eq_false (by omega)
        go_wp2_with fail
        go_ret
        exact ⟨⟨false, rfl, fun e => by cases e⟩, HB1.out.trans (HBR.out.mono (by omega))⟩
end Go.Proofs.YtfmaagcomplooaaGreat

namespace Go.Proofs.YtfmaagcomplooaaGreat
set_option maxRecDepth 100000
open Go Go.RowKit

def rootIno : Ino := ⟨2, 7, 0, [], [], 0⟩
def newT (n : Nat) (b : Int) : Tre := ⟨rootIno :: List.replicate (n - 1) noIno, n, b⟩
def NewFits (n b : Int) : Prop := 1 ≤ n ∧ n ≤ 256 ∧ 0 ≤ b ∧ b ≤ 65536

set_option maxHeartbeats 1000000 in
theorem rnew_no (n b : Int) (h : ¬ NewFits n b) (w : World) :
    Calls Tryz.prog 18 #[.int .i64 n, .int .i64 b] w fun e w' => e = .returned (.tuple #[.agg #[.slice none 0 0, .int .i64 0, .int .i64 0], .int .i64 22]) ∧ Below w.heap.size w w' := by
  have h4 : n < 1 ∨ (1 ≤ n ∧ 256 < n) ∨ (1 ≤ n ∧ n ≤ 256 ∧ b < 0) ∨ (1 ≤ n ∧ n ≤ 256 ∧ 0 ≤ b ∧ 65536 < b) := by unfold NewFits at h; omega
  have hb := below_box w (.cells #[.slice none 0 0, .int .i64 0, .int .i64 0] 24)
  rcases h4 with h | ⟨h, h1⟩ | ⟨h, h1, h2⟩ | ⟨h, h1, h2, h3⟩
  all_goals
    go_enter Tryz.func18, Tryz.ntmps18
    go_wp2_with fail
    exact bodyPost_ret (v := .tuple #[.agg #[.slice none 0 0, .int .i64 0, .int .i64 0], .int .i64 22]) (by simp [results, Tryz.results18, go_sem]) rfl ⟨rfl, hb⟩

def zeroC : Array Value := #[.int .i64 0, .int .i64 0, .int .i64 0, .string ⟨#[]⟩, .slice none 0 0, .int .i64 0]
theorem infoI : (Tryz.prog.info? 49).map (fun i => (i.zero, i.size, i.bytes)) = some (some (.agg zeroC), 6, 72) := by kernel_rfl
theorem made_at (n i j : Nat) (hi : i < n) (hj : j < 6) : (madeCells zeroC (n * 6))[i * 6 + j]? = zeroC[j]? := by
  have hlt : i * 6 + j < n * 6 := by omega
  unfold madeCells
  rw [Array.getElem?_map, Array.getElem?_range, if_pos hlt]
  have e : (i * 6 + j) % zeroC.size = j := by show (i * 6 + j) % 6 = j; omega
  simp only [Option.map_some, e]
  match j, hj with
  | 0, _ => rfl
  | 1, _ => rfl
  | 2, _ => rfl
  | 3, _ => rfl
  | 4, _ => rfl
  | 5, _ => rfl

def rootC : Array Value := #[.int .i64 2, .int .i64 7, .int .i64 0, .string ⟨#[]⟩, .slice none 0 0, .int .i64 0]
theorem new_nodes (W : World) (N n : Nat) (h0 : 1 ≤ n) (hm : n ≤ 256) (h : ∀ i j, i < n → j < 6 → W.cell? ⟨N, i * 6 + j, none⟩ = (if i = 0 then rootC else zeroC)[j]?) : NodesIn W (some ⟨N, 0, none⟩) n (rootIno :: List.replicate (n - 1) noIno) := by
  have hl : (rootIno :: List.replicate (n - 1) noIno).length = n := by simp; omega
  refine ⟨by omega, by unfold maxLen; omega, fun i hi => ⟨N, 0, rfl, ?_⟩⟩
  rw [hl] at hi
  rw [Nat.zero_add]
  have hnil : ∀ (W : World), KidsIn W (.slice none 0 0) [] := fun W => ⟨none, 0, rfl, Nat.le_refl _, Nat.zero_le _, fun i hi => absurd hi (Nat.not_lt_zero _)⟩
  by_cases hi0 : i = 0
  · subst hi0
    have g : ∀ j, j < 6 → W.cell? ⟨N, 0 * 6 + j, none⟩ = rootC[j]? := fun j hj => h 0 j hi hj
    exact ⟨g 0 (by decide), g 1 (by decide), g 2 (by decide), g 3 (by decide), ⟨_, g 4 (by decide), hnil W⟩, g 5 (by decide)⟩
  · have g : ∀ j, j < 6 → W.cell? ⟨N, i * 6 + j, none⟩ = zeroC[j]? := fun j hj => by
      have := h i j hi hj
      rw [if_neg hi0] at this
      exact this
    obtain ⟨m, rfl⟩ : ∃ m, i = m + 1 := ⟨i - 1, by omega⟩
    have e : (rootIno :: List.replicate (n - 1) noIno)[m + 1]'(by rw [hl]; exact hi) = noIno := by simp
    rw [e]
    exact ⟨g 0 (by decide), g 1 (by decide), g 2 (by decide), g 3 (by decide), ⟨_, g 4 (by decide), hnil W⟩, g 5 (by decide)⟩

theorem six_set (A : Array Value) (n : Nat) (h1 : 1 ≤ n) (hs : A.size = n * 6) (hA : ∀ i j, i < n → j < 6 → A[i * 6 + j]? = zeroC[j]?) (i j : Nat) (hi : i < n) (hj : j < 6) :
    ((((((A.setIfInBounds 0 (Value.int .i64 2)).setIfInBounds 1 (Value.int .i64 7)).setIfInBounds 2 (Value.int .i64 0)).setIfInBounds 3 (Value.string ⟨#[]⟩)).setIfInBounds 4 (Value.slice none 0 0)).setIfInBounds 5 (Value.int .i64 0))[i * 6 + j]? = (if i = 0 then rootC else zeroC)[j]? := by
  by_cases hi0 : i = 0
  · subst hi0
    rw [if_pos rfl, Nat.zero_mul, Nat.zero_add]
    have hs6 : 6 ≤ A.size := by omega
    match j, hj with
    | 0, _ => rw [Array.getElem?_setIfInBounds_ne (show (5 : Nat) ≠ 0 by decide), Array.getElem?_setIfInBounds_ne (show (4 : Nat) ≠ 0 by decide), Array.getElem?_setIfInBounds_ne (show (3 : Nat) ≠ 0 by decide), Array.getElem?_setIfInBounds_ne (show (2 : Nat) ≠ 0 by decide), Array.getElem?_setIfInBounds_ne (show (1 : Nat) ≠ 0 by decide), Array.getElem?_setIfInBounds, if_pos rfl, if_pos (by (try simp only [Array.size_setIfInBounds]); omega)]; rfl
    | 1, _ => rw [Array.getElem?_setIfInBounds_ne (show (5 : Nat) ≠ 1 by decide), Array.getElem?_setIfInBounds_ne (show (4 : Nat) ≠ 1 by decide), Array.getElem?_setIfInBounds_ne (show (3 : Nat) ≠ 1 by decide), Array.getElem?_setIfInBounds_ne (show (2 : Nat) ≠ 1 by decide), Array.getElem?_setIfInBounds, if_pos rfl, if_pos (by (try simp only [Array.size_setIfInBounds]); omega)]; rfl
    | 2, _ => rw [Array.getElem?_setIfInBounds_ne (show (5 : Nat) ≠ 2 by decide), Array.getElem?_setIfInBounds_ne (show (4 : Nat) ≠ 2 by decide), Array.getElem?_setIfInBounds_ne (show (3 : Nat) ≠ 2 by decide), Array.getElem?_setIfInBounds, if_pos rfl, if_pos (by (try simp only [Array.size_setIfInBounds]); omega)]; rfl
    | 3, _ => rw [Array.getElem?_setIfInBounds_ne (show (5 : Nat) ≠ 3 by decide), Array.getElem?_setIfInBounds_ne (show (4 : Nat) ≠ 3 by decide), Array.getElem?_setIfInBounds, if_pos rfl, if_pos (by (try simp only [Array.size_setIfInBounds]); omega)]; rfl
    | 4, _ => rw [Array.getElem?_setIfInBounds_ne (show (5 : Nat) ≠ 4 by decide), Array.getElem?_setIfInBounds, if_pos rfl, if_pos (by (try simp only [Array.size_setIfInBounds]); omega)]; rfl
    | 5, _ => rw [Array.getElem?_setIfInBounds, if_pos rfl, if_pos (by (try simp only [Array.size_setIfInBounds]); omega)]; rfl
  · rw [if_neg hi0, ← hA i j hi hj]
    rw [Array.getElem?_setIfInBounds_ne (show (5 : Nat) ≠ i * 6 + j by omega), Array.getElem?_setIfInBounds_ne (show (4 : Nat) ≠ i * 6 + j by omega), Array.getElem?_setIfInBounds_ne (show (3 : Nat) ≠ i * 6 + j by omega), Array.getElem?_setIfInBounds_ne (show (2 : Nat) ≠ i * 6 + j by omega), Array.getElem?_setIfInBounds_ne (show (1 : Nat) ≠ i * 6 + j by omega), Array.getElem?_setIfInBounds_ne (show (0 : Nat) ≠ i * 6 + j by omega)]

set_option maxHeartbeats 1000000 in
theorem rnew_yes (n : Nat) (b : Int) (h1 : 1 ≤ n) (h2 : n ≤ 256) (h3 : 0 ≤ b) (h4 : b ≤ 65536) (w : World) :
    Calls Tryz.prog 18 #[.int .i64 n, .int .i64 b] w fun e w' => (∃ v, e = .returned (.tuple #[v, .int .i64 0]) ∧ TreeIn w' v (newT n b)) ∧ Below w.heap.size w w' := by
  obtain ⟨i0, hi, hz0, hz1, hz2⟩ := info_parts infoI
  have hmk : (Instr.makeSlice 22 (.int .i64 (n : Int)) (.int .i64 (n : Int))).run Tryz.prog (w.alloc (.cells #[.slice none 0 0, .int .i64 0, .int .i64 0] 24)) =
      .ok (.slice (some ⟨w.heap.size + 1, 0, none⟩) n n) ((w.alloc (.cells #[.slice none 0 0, .int .i64 0, .int .i64 0] 24)).alloc (.cells (madeCells zeroC (n * 6)) 49)) := by
    have h := run_makeSlice (P := Tryz.prog) (w.alloc (.cells #[.slice none 0 0, .int .i64 0, .int .i64 0] 24)) 22 49 i0 (.agg zeroC) Tryz.underlying22 hi hz0 .i64 .i64 (n : Int) (n : Int) (by omega) (Int.le_refl _) (by rw [hz1]; simp; omega) (by rw [hz2]; omega) (by omega)
    rw [hz1, World.size_alloc, Int.toNat_natCast] at h
    exact h
  have hA := fun i j hi hj => made_at n i j hi hj
  have hsz : (madeCells zeroC (n * 6)).size = n * 6 := size_madeCells _ _
  generalize madeCells zeroC (n * 6) = A at hmk hA hsz
  have a0 : A[0]? = some (.int .i64 0) := hA 0 0 (by omega) (by omega)
  have a1 : A[1]? = some (.int .i64 0) := hA 0 1 (by omega) (by omega)
  have a2 : A[2]? = some (.int .i64 0) := hA 0 2 (by omega) (by omega)
  have a3 : A[3]? = some (.string ⟨#[]⟩) := hA 0 3 (by omega) (by omega)
  have a4 : A[4]? = some (.slice none 0 0) := hA 0 4 (by omega) (by omega)
  have a5 : A[5]? = some (.int .i64 0) := hA 0 5 (by omega) (by omega)
  have HA := Lib.hid hA
  have HS := Lib.hid hsz
  clear hA hsz hi hz0 hz1 hz2
  go_enter Tryz.func18, Tryz.ntmps18
  go_wp2_with fail
  refine bodyPost_ret (v := .tuple #[.agg #[.slice (some ⟨w.heap.size + 1, 0, none⟩) n n, .int .i64 n, .int .i64 b], .int .i64 0]) (by simp [results, Tryz.results18, go_sem]) rfl ⟨⟨_, rfl, some ⟨w.heap.size + 1, 0, none⟩, n, ?_, ?_⟩, ?_⟩
  · have hl : (newT n b).nodes.length = n := by show (rootIno :: List.replicate (n - 1) noIno).length = n; simp; omega
    rw [hl]
    rfl
  · refine new_nodes _ _ n h1 h2 (fun i j hi hj => ?_)
    rw [← six_set A n h1 HS.out HA.out i j hi hj]
    have e : (w.alloc (.cells #[.slice (some ⟨w.heap.size + 1, 0, none⟩) n n, .int .i64 n, .int .i64 b] 24)).heap.size = w.heap.size + 1 := by simp
    simp only [World.cell?]
    rw [Below.heap_alloc _ _ _ (by simp)]
    have hb := new_block (w.alloc (.cells #[.slice (some ⟨w.heap.size + 1, 0, none⟩) n n, .int .i64 n, .int .i64 b] 24)) (.cells ((((((A.setIfInBounds 0 (Value.int .i64 2)).setIfInBounds 1 (Value.int .i64 7)).setIfInBounds 2 (Value.int .i64 0)).setIfInBounds 3 (Value.string ⟨#[]⟩)).setIfInBounds 4 (Value.slice none 0 0)).setIfInBounds 5 (Value.int .i64 0)) 49)
    rw [e] at hb
    rw [hb]
    rfl
  · exact ((below_box w _).alloc (by simp) _).alloc (by simp; omega) _
end Go.Proofs.YtfmaagcomplooaaGreat

namespace Go.Proofs.YtfmaagcomplooaaGreat
set_option maxRecDepth 100000
open Go Go.RowKit

theorem new_len {n : Nat} (b : Int) (h : 1 ≤ n) : (newT n b).nodes.length = n := by show (rootIno :: List.replicate (n - 1) noIno).length = n; simp; omega
theorem new_at {n : Nat} (b : Int) (k : Nat) (hk : k < (newT n b).nodes.length) : (newT n b).nodes[k] = if k = 0 then rootIno else noIno := by
  cases k with
  | zero => rfl
  | succ k =>
    rw [if_neg (by omega)]
    have e : ∀ (M : List Ino) (h : k + 1 < M.length), M = rootIno :: List.replicate (n - 1) noIno → M[k + 1] = noIno := by
      intro M h hM
      subst hM
      simp
    exact e _ hk rfl
theorem new_kids {n : Nat} (b : Int) (k : Nat) (hk : k < (newT n b).nodes.length) : (newT n b).nodes[k].kids = [] := by
  rw [new_at]
  split <;> rfl
theorem new_kidsOf (n : Nat) (b : Int) : kidsOf (newT n b).nodes = [] := by
  unfold kidsOf
  rw [List.flatMap_eq_nil_iff]
  intro x hx
  obtain ⟨k, hk, rfl⟩ := List.getElem_of_mem hx
  exact new_kids b k hk
theorem used_rep : ∀ n : Nat, usedN (List.replicate n noIno) = 0 ∧ usedB (List.replicate n noIno) = 0
  | 0 => ⟨rfl, rfl⟩
  | n + 1 => by
    have h := used_rep n
    rw [List.replicate_succ]
    exact ⟨by simp only [usedN, h.1]; rfl, by simp only [usedB, h.2]; rfl⟩
theorem new_usedN (n : Nat) (b : Int) : usedN (newT n b).nodes = 1 := by
  show usedN (rootIno :: List.replicate (n - 1) noIno) = 1
  simp only [usedN, (used_rep (n - 1)).1]
  rfl
theorem new_usedB (n : Nat) (b : Int) : usedB (newT n b).nodes = 0 := by
  show usedB (rootIno :: List.replicate (n - 1) noIno) = 0
  simp only [usedB, (used_rep (n - 1)).2]
  rfl
theorem new_fit {n : Nat} {b : Int} (h1 : 1 ≤ n) (h2 : n ≤ 256) (h3 : 0 ≤ b) (h4 : b ≤ 65536) : FitP (newT n b).nodes (n : Int) b := by
  have hl := new_len b h1
  have hI : AllFit (newT n b).nodes := fun k hk => by
    rw [new_kids]
    refine ⟨?_, Nat.zero_le _, fun i hi => absurd hi (Nat.not_lt_zero _)⟩
    rw [new_at]
    split <;> rfl
  have hdir : ∀ k (hk : k < (newT n b).nodes.length), dirB (newT n b).nodes (k : Int) = true → k = 0 := fun k hk hd => by
    have h5 := (dir_nat hk).1 hd
    rw [new_at] at h5
    by_cases e : k = 0
    · exact e
    · rw [if_neg e] at h5
      cases h5
  refine ⟨⟨by omega, by omega, by omega, by rw [new_usedB]; omega, h4⟩, ?_, rfl, hI, ⟨fun d hd e he => ?_, fun k hk => ?_⟩, fun k hk hd => ?_⟩
  · exact (dir_nat (L := (newT n b).nodes) (n := 0) (by omega)).2 rfl
  · rw [new_kids] at he
    cases he
  · have hc : (countL (newT n b).nodes)[k]'(by rw [countL_len]; exact hk) = 0 := by
      rw [countL_get _ (kids_pos (kids_there hI)) k hk, new_kidsOf]
      rfl
    rw [hc]
    refine ⟨by rw [new_at]; split <;> rfl, ?_⟩
    unfold MayHave
    rw [if_pos]
    rw [new_at]
    by_cases e : k = 0
    · exact Or.inl (by omega)
    · rw [if_neg e]
      exact Or.inr rfl
  · have e := hdir k hk hd
    subst e
    rw [hl]
    obtain ⟨t, rfl⟩ : ∃ t, n = t + 1 := ⟨n - 1, by omega⟩
    rfl
theorem new_sized (n : Nat) (b : Int) : Sized (newT n b).nodes := fun k hk => by
  rw [new_kids]
  refine ⟨?_, fun e he => by cases he⟩
  rw [new_at]
  split <;> exact Nat.zero_le _
theorem new_short (n : Nat) (b : Int) : Short64 (newT n b).nodes := fun k hk => by
  rw [new_kids]
  exact ⟨Nat.zero_le _, fun e he => by cases he⟩
theorem new_kid (n : Nat) (b : Int) (s : List UInt8) : kidL (newT n b).nodes 0 s = -1 := by
  unfold kidL
  split
  · rfl
  · rfl
end Go.Proofs.YtfmaagcomplooaaGreat

namespace Go.Proofs.YtfmaagcomplooaaGreat
set_option maxRecDepth 100000
open Go Go.RowKit

def aw0 : List Ino := (newT 8 100).nodes
def aw1 : List Ino := (mkdirW aw0 0 [97] 7).1
def aw2 : List Ino := (createW aw1 0 [97, 47, 102] 6).1
def aw3 : List Ino := (linkW aw2 0 [97, 47, 102] [103]).1
theorem aw_mk : mkdirW aw0 0 [97] 7 = (aw1, 1, 0) := Prod.ext rfl (by decide +kernel)
theorem aw_cr : createW aw1 0 [97, 47, 102] 6 = (aw2, 2, 0) := Prod.ext rfl (by decide +kernel)
theorem aw_ln : linkW aw2 0 [97, 47, 102] [103] = (aw3, 0) := Prod.ext rfl (by decide +kernel)
theorem aw_fit0 : FitP aw0 8 100 := new_fit (n := 8) (b := 100) (by decide) (by decide) (by decide) (by decide)
theorem aw_fit1 : FitP aw1 8 100 := by
  obtain ⟨-, u, h⟩ := (mkdir_made aw_fit0 aw_mk).1 rfl
  exact h.fits
theorem aw_fit2 : FitP aw2 8 100 := ((create_made aw_fit1 aw_cr).1 rfl).2.fits
theorem aw_fit3 : FitP aw3 8 100 := by
  obtain ⟨d, s, k, hk, -, -, h, hA⟩ := (link_made aw_fit2 aw_ln).1 rfl
  rw [h]
  exact hA.fits
theorem aw_len : aw0.length = 8 ∧ aw1.length = 8 ∧ aw2.length = 8 ∧ aw3.length = 8 := by decide +kernel
theorem aw_used : usedN aw3 = 3 := by decide +kernel
theorem aw_links : (nodeAt aw3 2).links = 2 := by decide +kernel
theorem aw_again : (mkdirW aw3 0 [97] 7).2 = (0, 17) := by decide +kernel

theorem MadeAns.three {base : Nat} {w w' : World} {m b k z : Int} {L' : List Ino} {e : Ending} (h : MadeAns base w m b L' [.int .i64 k, .int .i64 z] e w') :
    ∃ g cap vs, e = .returned (.tuple #[.agg #[.slice (some ⟨g, 0, none⟩) L'.length cap, .int .i64 m, .int .i64 b], .int .i64 k, .int .i64 z]) ∧ OwnT w' base g cap L' vs ∧ Below w.heap.size w w' := by
  obtain ⟨⟨g, cap, vs, he, hO⟩, hb⟩ := h
  exact ⟨g, cap, vs, he, hO, hb⟩
theorem MadeAns.two {base : Nat} {w w' : World} {m b z : Int} {L' : List Ino} {e : Ending} (h : MadeAns base w m b L' [.int .i64 z] e w') :
    ∃ g cap vs, e = .returned (.tuple #[.agg #[.slice (some ⟨g, 0, none⟩) L'.length cap, .int .i64 m, .int .i64 b], .int .i64 z]) ∧ OwnT w' base g cap L' vs ∧ Below w.heap.size w w' := by
  obtain ⟨⟨g, cap, vs, he, hO⟩, hb⟩ := h
  exact ⟨g, cap, vs, he, hO, hb⟩

set_option maxHeartbeats 8000000 in
theorem awake5 (w : World) : Calls Tryz.prog 5 #[] w fun e w' => e = .returned (.bool true) ∧ Below w.heap.size w w' := by
  have hnew : ∀ w, Calls Tryz.prog 18 #[.int .i64 8, .int .i64 100] w fun e w' => (∃ a cap, e = .returned (.tuple #[.agg #[.slice a aw0.length cap, .int .i64 8, .int .i64 100], .int .i64 0]) ∧ NodesIn w' a cap aw0) ∧ Below w.heap.size w w' :=
    fun w => (rnew_yes 8 100 (by decide) (by decide) (by decide) (by decide) w).mono fun e w' h => by
      obtain ⟨⟨v, rfl, a, cap, rfl, hN⟩, hb⟩ := h
      exact ⟨⟨a, cap, rfl, hN⟩, hb⟩
  obtain ⟨l0, l1, l2, l3⟩ := aw_len
  have F0 := Lib.hid aw_fit0
  have F1 := Lib.hid aw_fit1
  have F2 := Lib.hid aw_fit2
  have F3 := Lib.hid aw_fit3
  have E1 := Lib.hid aw_mk
  have E2 := Lib.hid aw_cr
  have E3 := Lib.hid aw_ln
  have hU : usedN aw3 = 3 := aw_used
  have EL := Lib.hid aw_links
  obtain ⟨A4, hA4⟩ : ∃ A4, mkdirW aw3 0 [97] 7 = (A4, 0, 17) := ⟨(mkdirW aw3 0 [97] 7).1, Prod.ext rfl aw_again⟩
  have E4 := Lib.hid hA4
  clear hA4
  obtain ⟨A0, h0⟩ : ∃ L, L = aw0 := ⟨_, rfl⟩
  obtain ⟨A1, h1⟩ : ∃ L, L = aw1 := ⟨_, rfl⟩
  obtain ⟨A2, h2⟩ : ∃ L, L = aw2 := ⟨_, rfl⟩
  obtain ⟨A3, h3⟩ : ∃ L, L = aw3 := ⟨_, rfl⟩
  rw [← h0] at hnew F0 E1 l0
  rw [← h1] at F1 E1 E2 l1
  rw [← h2] at F2 E2 E3 l2
  rw [← h3] at F3 E3 E4 EL hU l3
  have HNEW := Lib.hid hnew
  have HU := Lib.hid hU
  have hB3 := Lib.hid (show usedB A3 ≤ 1048576 from by have := F3.out.limits; obtain ⟨_, _, _, l4, l5⟩ := this; omega)
  have HL3 := Lib.hid l3
  have HL2 := Lib.hid l2
  have HL1 := Lib.hid l1
  clear hnew h0 h1 h2 h3 hU l0 l1 l2 l3
  go_enter Tryz.func5, Tryz.ntmps5
  go_wp2_with fail
  refine (HNEW.out _).mono ?_
  rintro e w1 ⟨⟨a, cap, rfl, hN⟩, hb1⟩
  have HN := Lib.hid hN
  have HB1 := Lib.hid hb1
  have hs1 := hb1.size
  clear hN hb1
  go_wp2_with fail
  obtain ⟨w2, hw2⟩ : ∃ w2, w2 = w1.alloc (.cells #[.slice a A0.length cap, .int .i64 8, .int .i64 100] 24) := ⟨_, rfl⟩
  have hb2 : Below w1.heap.size w1 w2 := by rw [hw2]; exact below_box w1 _
  have hX2 : w2.heap[w1.heap.size]? = some (.cells #[.slice a A0.length cap, .int .i64 8, .int .i64 100] 24 (0, 0)) := by rw [hw2]; exact new_block w1 _
  have hs2 : w2.heap.size = w1.heap.size + 1 := by rw [hw2]; simp
  rw [← hw2]
  have HB2 := Lib.hid (HB1.out.trans (hb2.mono hs1))
  have HN2 := Lib.hid (HN.out.below hb2)
  have HX2 := Lib.hid hX2
  clear hw2 hb2 hX2
  have q0 := blk_cell HX2.out 0
  have q1 := blk_cell HX2.out 1
  have q2 := blk_cell HX2.out 2
  clear q0 q1 q2
  refine (lmkdir_any _ _ _ _ _ _ ⟨#[97]⟩ (by decide) A0 F0.out _ _ _ E1.out _ HN2.out).mono ?_
  rintro e u3 hmade
  obtain ⟨g3, c3, v3, rfl, hO, hb⟩ := MadeAns.three hmade
  have hXu := (hb.block w1.heap.size (by omega)).trans HX2.out
  have HXU := Lib.hid hXu
  have HOU := Lib.hid hO
  have HBU := Lib.hid (HB2.out.trans (hb.mono (by omega)))
  have hsu := hb.size
  have q0 := blk_cell HXU.out 0
  have q1 := blk_cell HXU.out 1
  have q2 := blk_cell HXU.out 2
  have f0 := blk_free HXU.out 0
  have f1 := blk_free HXU.out 1
  have f2 := blk_free HXU.out 2
  have hql := lt_of_block HXU.out
  clear hmade hXu hO hb
  go_wp2_with fail
  obtain ⟨p3, hp3⟩ : ∃ p, p = put3 u3 w1.heap.size (.slice (some ⟨g3, 0, none⟩) A1.length c3) (.int .i64 8) (.int .i64 100) := ⟨_, rfl⟩
  change Calls _ _ _ (put3 u3 w1.heap.size (.slice (some ⟨g3, 0, none⟩) A1.length c3) (.int .i64 8) (.int .i64 100)) _
  rw [← hp3]
  have hsp3 : p3.heap.size = u3.heap.size := by rw [hp3]; exact put3_size _ _ _ _ _
  have HX3 := Lib.hid (show p3.heap[w1.heap.size]? = some (.cells #[.slice (some ⟨g3, 0, none⟩) A1.length c3, .int .i64 8, .int .i64 100] 24 (0, 0)) by rw [hp3]; exact put3_block HXU.out _ _ _)
  have HO3 := Lib.hid (show OwnT p3 _ g3 c3 A1 v3 by rw [hp3]; exact HOU.out.low fun k hk => put3_other (by omega) _ _ _)
  have HB3 := Lib.hid (show Below w.heap.size w p3 by rw [hp3]; exact put3_below HBU.out (by omega) _ _ _)
  clear hp3 HXU HOU HBU q0 q1 q2 f0 f1 f2 hql
  refine (lcreate_any _ _ _ _ _ _ ⟨#[97, 47, 102]⟩ (by decide) A1 F1.out _ _ _ E2.out _ HO3.out.nodesIn).mono ?_
  rintro e u4 hmade
  obtain ⟨g4, c4, v4, rfl, hO, hb⟩ := MadeAns.three hmade
  have hXu := (hb.block w1.heap.size (by omega)).trans HX3.out
  have HXU := Lib.hid hXu
  have HOU := Lib.hid hO
  have HBU := Lib.hid (HB3.out.trans (hb.mono (by omega)))
  have hsu := hb.size
  have q0 := blk_cell HXU.out 0
  have q1 := blk_cell HXU.out 1
  have q2 := blk_cell HXU.out 2
  have f0 := blk_free HXU.out 0
  have f1 := blk_free HXU.out 1
  have f2 := blk_free HXU.out 2
  have hql := lt_of_block HXU.out
  clear hmade hXu hO hb
  go_wp2_with fail
  obtain ⟨p4, hp4⟩ : ∃ p, p = put3 u4 w1.heap.size (.slice (some ⟨g4, 0, none⟩) A2.length c4) (.int .i64 8) (.int .i64 100) := ⟨_, rfl⟩
  change Calls _ _ _ (put3 u4 w1.heap.size (.slice (some ⟨g4, 0, none⟩) A2.length c4) (.int .i64 8) (.int .i64 100)) _
  rw [← hp4]
  have hsp4 : p4.heap.size = u4.heap.size := by rw [hp4]; exact put3_size _ _ _ _ _
  have HX4 := Lib.hid (show p4.heap[w1.heap.size]? = some (.cells #[.slice (some ⟨g4, 0, none⟩) A2.length c4, .int .i64 8, .int .i64 100] 24 (0, 0)) by rw [hp4]; exact put3_block HXU.out _ _ _)
  have HO4 := Lib.hid (show OwnT p4 _ g4 c4 A2 v4 by rw [hp4]; exact HOU.out.low fun k hk => put3_other (by omega) _ _ _)
  have HB4 := Lib.hid (show Below w.heap.size w p4 by rw [hp4]; exact put3_below HBU.out (by omega) _ _ _)
  clear hp4 HXU HOU HBU q0 q1 q2 f0 f1 f2 hql
  refine (llink_any _ _ _ _ _ ⟨#[97, 47, 102]⟩ ⟨#[103]⟩ (by decide) (by decide) A2 F2.out _ _ E3.out _ HO4.out.nodesIn).mono ?_
  rintro e u5 hmade
  obtain ⟨g5, c5, v5, rfl, hO, hb⟩ := MadeAns.two hmade
  have hXu := (hb.block w1.heap.size (by omega)).trans HX4.out
  have HXU := Lib.hid hXu
  have HOU := Lib.hid hO
  have HBU := Lib.hid (HB4.out.trans (hb.mono (by omega)))
  have hsu := hb.size
  have q0 := blk_cell HXU.out 0
  have q1 := blk_cell HXU.out 1
  have q2 := blk_cell HXU.out 2
  have f0 := blk_free HXU.out 0
  have f1 := blk_free HXU.out 1
  have f2 := blk_free HXU.out 2
  have hql := lt_of_block HXU.out
  clear hmade hXu hO hb
  go_wp2_with fail
  obtain ⟨p5, hp5⟩ : ∃ p, p = put3 u5 w1.heap.size (.slice (some ⟨g5, 0, none⟩) A3.length c5) (.int .i64 8) (.int .i64 100) := ⟨_, rfl⟩
  change Calls _ _ _ (put3 u5 w1.heap.size (.slice (some ⟨g5, 0, none⟩) A3.length c5) (.int .i64 8) (.int .i64 100)) _
  rw [← hp5]
  have hsp5 : p5.heap.size = u5.heap.size := by rw [hp5]; exact put3_size _ _ _ _ _
  have HX5 := Lib.hid (show p5.heap[w1.heap.size]? = some (.cells #[.slice (some ⟨g5, 0, none⟩) A3.length c5, .int .i64 8, .int .i64 100] 24 (0, 0)) by rw [hp5]; exact put3_block HXU.out _ _ _)
  have HO5 := Lib.hid (show OwnT p5 _ g5 c5 A3 v5 by rw [hp5]; exact HOU.out.low fun k hk => put3_other (by omega) _ _ _)
  have HB5 := Lib.hid (show Below w.heap.size w p5 by rw [hp5]; exact put3_below HBU.out (by omega) _ _ _)
  clear hp5 HXU HOU HBU q0 q1 q2 f0 f1 f2 hql
  refine (rused_any _ _ _ _ A3 (by have := HL3.out; omega) (by have := hB3.out; omega) _ HO5.out.nodesIn).mono ?_
  rintro e w6 ⟨rfl, hb6⟩
  have hX6 := (hb6.block w1.heap.size (by omega)).trans HX5.out
  have HX6 := Lib.hid hX6
  have HO6 := Lib.hid (HO5.out.below hb6)
  have HB6 := Lib.hid (HB5.out.trans (hb6.mono HB5.out.size))
  have hs6 := hb6.size
  clear hb6 hX6
  have q0 := blk_cell HX6.out 0
  have q1 := blk_cell HX6.out 1
  have q2 := blk_cell HX6.out 2
  have hql := lt_of_block HX6.out
  rw [HU.out]
  go_wp2_with fail
  refine (lmkdir_any _ _ _ _ _ _ ⟨#[97]⟩ (by decide) A3 F3.out _ _ _ E4.out _ HO6.out.nodesIn).mono ?_
  rintro e w7 hmade
  obtain ⟨g7, c7, v7, rfl, hO7, hb7⟩ := MadeAns.three hmade
  have hX7 := (hb7.block w1.heap.size (by omega)).trans HX6.out
  have HO7 := Lib.hid (HO6.out.below hb7)
  have HB7 := Lib.hid (HB6.out.trans (hb7.mono HB6.out.size))
  clear q0 q1 q2 hql hmade hO7 hb7
  have q0 := blk_cell hX7 0
  have hql := lt_of_block hX7
  clear hX7
  have hl3 := HL3.out
  have hlt3 : (2 : Int) < (A3.length : Int) := by omega
  have hn := (HO7.out.nodes.node 2 (by omega) (by rw [HO7.out.nodes.len]; omega)).links
  rw [show A3[2].links = 2 by have := EL.out; rw [show (2 : Int) = ((2 : Nat) : Int) from rfl, node_nat A3 2 (by omega)] at this; exact this] at hn
  have hgl := cell_lt hn
  clear hl3
  go_wp2_with fail
  go_ret
  exact ⟨rfl, HB7.out.alloc HB7.out.size _⟩
end Go.Proofs.YtfmaagcomplooaaGreat
