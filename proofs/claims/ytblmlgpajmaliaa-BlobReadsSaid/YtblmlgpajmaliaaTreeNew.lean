/-
  The reference's New.
-/
import Derived.Test.YtblmlgpajmaliaaTreeKid
import Derived.Laws.MakeOwn
namespace Go.Proofs.Ytblmlgpajmaliaa
set_option maxRecDepth 100000
open Go Go.RowKit

def rootIno : Ino := ⟨2, 7, 0, [], [], 0⟩
def newT (n : Nat) (b : Int) : Tre := ⟨rootIno :: List.replicate (n - 1) noIno, n, b⟩
def NewFits (n b : Int) : Prop := 1 ≤ n ∧ n ≤ 256 ∧ 0 ≤ b ∧ b ≤ 65536

set_option maxHeartbeats 1000000 in
theorem rnew_no (n b : Int) (h : ¬ NewFits n b) (w : World) :
    Calls Try.prog 19 #[.int .i64 n, .int .i64 b] w fun e w' => e = .returned (.tuple #[.agg #[.slice none 0 0, .int .i64 0, .int .i64 0], .int .i64 22]) ∧ Below w.heap.size w w' := by
  have h4 : n < 1 ∨ (1 ≤ n ∧ 256 < n) ∨ (1 ≤ n ∧ n ≤ 256 ∧ b < 0) ∨ (1 ≤ n ∧ n ≤ 256 ∧ 0 ≤ b ∧ 65536 < b) := by unfold NewFits at h; omega
  have hb := below_box w (.cells #[.slice none 0 0, .int .i64 0, .int .i64 0] 24)
  rcases h4 with h | ⟨h, h1⟩ | ⟨h, h1, h2⟩ | ⟨h, h1, h2, h3⟩
  all_goals
    go_enter Try.func19, Try.ntmps19
    go_wp2_with fail
    exact bodyPost_ret (v := .tuple #[.agg #[.slice none 0 0, .int .i64 0, .int .i64 0], .int .i64 22]) (by simp [results, Try.results19, go_sem]) rfl ⟨rfl, hb⟩

def zeroC : Array Value := #[.int .i64 0, .int .i64 0, .int .i64 0, .string ⟨#[]⟩, .slice none 0 0, .int .i64 0]
theorem infoI : (Try.prog.info? 42).map (fun i => (i.zero, i.size, i.bytes)) = some (some (.agg zeroC), 6, 72) := by kernel_rfl
theorem made_at (n i j : Nat) (hi : i < n) (hj : j < 6) : (madeCells zeroC (n * 6))[i * 6 + j]? = zeroC[j]? := by
  have hlt : i * 6 + j < n * 6 := by omega
  unfold madeCells
  rw [Array.getElem?_map, Array.getElem?_range, if_pos hlt]
  have e : (i * 6 + j) % zeroC.size = j := by show (i * 6 + j) % 6 = j; omega
  simp only [Option.map_some, e]
  match j, hj with
  | 0, _ => rfl
  | 1, _ => rfl
  | 2, _ => rfl
  | 3, _ => rfl
  | 4, _ => rfl
  | 5, _ => rfl

def rootC : Array Value := #[.int .i64 2, .int .i64 7, .int .i64 0, .string ⟨#[]⟩, .slice none 0 0, .int .i64 0]
theorem new_nodes (W : World) (N n : Nat) (h0 : 1 ≤ n) (hm : n ≤ 256) (h : ∀ i j, i < n → j < 6 → W.cell? ⟨N, i * 6 + j, none⟩ = (if i = 0 then rootC else zeroC)[j]?) : NodesIn W (some ⟨N, 0, none⟩) n (rootIno :: List.replicate (n - 1) noIno) := by
  have hl : (rootIno :: List.replicate (n - 1) noIno).length = n := by simp; omega
  refine ⟨by omega, by unfold maxLen; omega, fun i hi => ⟨N, 0, rfl, ?_⟩⟩
  rw [hl] at hi
  rw [Nat.zero_add]
  have hnil : ∀ (W : World), KidsIn W (.slice none 0 0) [] := fun W => ⟨none, 0, rfl, Nat.le_refl _, Nat.zero_le _, fun i hi => absurd hi (Nat.not_lt_zero _)⟩
  by_cases hi0 : i = 0
  · subst hi0
    have g : ∀ j, j < 6 → W.cell? ⟨N, 0 * 6 + j, none⟩ = rootC[j]? := fun j hj => h 0 j hi hj
    exact ⟨g 0 (by decide), g 1 (by decide), g 2 (by decide), g 3 (by decide), ⟨_, g 4 (by decide), hnil W⟩, g 5 (by decide)⟩
  · have g : ∀ j, j < 6 → W.cell? ⟨N, i * 6 + j, none⟩ = zeroC[j]? := fun j hj => by
      have := h i j hi hj
      rw [if_neg hi0] at this
      exact this
    obtain ⟨m, rfl⟩ : ∃ m, i = m + 1 := ⟨i - 1, by omega⟩
    have e : (rootIno :: List.replicate (n - 1) noIno)[m + 1]'(by rw [hl]; exact hi) = noIno := by simp
    rw [e]
    exact ⟨g 0 (by decide), g 1 (by decide), g 2 (by decide), g 3 (by decide), ⟨_, g 4 (by decide), hnil W⟩, g 5 (by decide)⟩

theorem six_set (A : Array Value) (n : Nat) (h1 : 1 ≤ n) (hs : A.size = n * 6) (hA : ∀ i j, i < n → j < 6 → A[i * 6 + j]? = zeroC[j]?) (i j : Nat) (hi : i < n) (hj : j < 6) :
    ((((((A.setIfInBounds 0 (Value.int .i64 2)).setIfInBounds 1 (Value.int .i64 7)).setIfInBounds 2 (Value.int .i64 0)).setIfInBounds 3 (Value.string ⟨#[]⟩)).setIfInBounds 4 (Value.slice none 0 0)).setIfInBounds 5 (Value.int .i64 0))[i * 6 + j]? = (if i = 0 then rootC else zeroC)[j]? := by
  by_cases hi0 : i = 0
  · subst hi0
    rw [if_pos rfl, Nat.zero_mul, Nat.zero_add]
    have hs6 : 6 ≤ A.size := by omega
    match j, hj with
    | 0, _ => rw [Array.getElem?_setIfInBounds_ne (show (5 : Nat) ≠ 0 by decide), Array.getElem?_setIfInBounds_ne (show (4 : Nat) ≠ 0 by decide), Array.getElem?_setIfInBounds_ne (show (3 : Nat) ≠ 0 by decide), Array.getElem?_setIfInBounds_ne (show (2 : Nat) ≠ 0 by decide), Array.getElem?_setIfInBounds_ne (show (1 : Nat) ≠ 0 by decide), Array.getElem?_setIfInBounds, if_pos rfl, if_pos (by (try simp only [Array.size_setIfInBounds]); omega)]; rfl
    | 1, _ => rw [Array.getElem?_setIfInBounds_ne (show (5 : Nat) ≠ 1 by decide), Array.getElem?_setIfInBounds_ne (show (4 : Nat) ≠ 1 by decide), Array.getElem?_setIfInBounds_ne (show (3 : Nat) ≠ 1 by decide), Array.getElem?_setIfInBounds_ne (show (2 : Nat) ≠ 1 by decide), Array.getElem?_setIfInBounds, if_pos rfl, if_pos (by (try simp only [Array.size_setIfInBounds]); omega)]; rfl
    | 2, _ => rw [Array.getElem?_setIfInBounds_ne (show (5 : Nat) ≠ 2 by decide), Array.getElem?_setIfInBounds_ne (show (4 : Nat) ≠ 2 by decide), Array.getElem?_setIfInBounds_ne (show (3 : Nat) ≠ 2 by decide), Array.getElem?_setIfInBounds, if_pos rfl, if_pos (by (try simp only [Array.size_setIfInBounds]); omega)]; rfl
    | 3, _ => rw [Array.getElem?_setIfInBounds_ne (show (5 : Nat) ≠ 3 by decide), Array.getElem?_setIfInBounds_ne (show (4 : Nat) ≠ 3 by decide), Array.getElem?_setIfInBounds, if_pos rfl, if_pos (by (try simp only [Array.size_setIfInBounds]); omega)]; rfl
    | 4, _ => rw [Array.getElem?_setIfInBounds_ne (show (5 : Nat) ≠ 4 by decide), Array.getElem?_setIfInBounds, if_pos rfl, if_pos (by (try simp only [Array.size_setIfInBounds]); omega)]; rfl
    | 5, _ => rw [Array.getElem?_setIfInBounds, if_pos rfl, if_pos (by (try simp only [Array.size_setIfInBounds]); omega)]; rfl
  · rw [if_neg hi0, ← hA i j hi hj]
    rw [Array.getElem?_setIfInBounds_ne (show (5 : Nat) ≠ i * 6 + j by omega), Array.getElem?_setIfInBounds_ne (show (4 : Nat) ≠ i * 6 + j by omega), Array.getElem?_setIfInBounds_ne (show (3 : Nat) ≠ i * 6 + j by omega), Array.getElem?_setIfInBounds_ne (show (2 : Nat) ≠ i * 6 + j by omega), Array.getElem?_setIfInBounds_ne (show (1 : Nat) ≠ i * 6 + j by omega), Array.getElem?_setIfInBounds_ne (show (0 : Nat) ≠ i * 6 + j by omega)]

set_option maxHeartbeats 1000000 in
theorem rnew_yes (n : Nat) (b : Int) (h1 : 1 ≤ n) (h2 : n ≤ 256) (h3 : 0 ≤ b) (h4 : b ≤ 65536) (w : World) :
    Calls Try.prog 19 #[.int .i64 n, .int .i64 b] w fun e w' => (∃ v, e = .returned (.tuple #[v, .int .i64 0]) ∧ TreeIn w' v (newT n b)) ∧ Below w.heap.size w w' := by
  obtain ⟨i0, hi, hz0, hz1, hz2⟩ := info_parts infoI
  have hmk : (Instr.makeSlice 22 (.int .i64 (n : Int)) (.int .i64 (n : Int))).run Try.prog (w.alloc (.cells #[.slice none 0 0, .int .i64 0, .int .i64 0] 24)) =
      .ok (.slice (some ⟨w.heap.size + 1, 0, none⟩) n n) ((w.alloc (.cells #[.slice none 0 0, .int .i64 0, .int .i64 0] 24)).alloc (.cells (madeCells zeroC (n * 6)) 42)) := by
    have h := run_makeSlice (P := Try.prog) (w.alloc (.cells #[.slice none 0 0, .int .i64 0, .int .i64 0] 24)) 22 42 i0 (.agg zeroC) Try.underlying22 hi hz0 .i64 .i64 (n : Int) (n : Int) (by omega) (Int.le_refl _) (by rw [hz1]; simp; omega) (by rw [hz2]; omega) (by omega)
    rw [hz1, World.size_alloc, Int.toNat_natCast] at h
    exact h
  have hA := fun i j hi hj => made_at n i j hi hj
  have hsz : (madeCells zeroC (n * 6)).size = n * 6 := size_madeCells _ _
  generalize madeCells zeroC (n * 6) = A at hmk hA hsz
  have a0 : A[0]? = some (.int .i64 0) := hA 0 0 (by omega) (by omega)
  have a1 : A[1]? = some (.int .i64 0) := hA 0 1 (by omega) (by omega)
  have a2 : A[2]? = some (.int .i64 0) := hA 0 2 (by omega) (by omega)
  have a3 : A[3]? = some (.string ⟨#[]⟩) := hA 0 3 (by omega) (by omega)
  have a4 : A[4]? = some (.slice none 0 0) := hA 0 4 (by omega) (by omega)
  have a5 : A[5]? = some (.int .i64 0) := hA 0 5 (by omega) (by omega)
  have HA := Lib.hid hA
  have HS := Lib.hid hsz
  clear hA hsz hi hz0 hz1 hz2
  go_enter Try.func19, Try.ntmps19
  go_wp2_with fail
  refine bodyPost_ret (v := .tuple #[.agg #[.slice (some ⟨w.heap.size + 1, 0, none⟩) n n, .int .i64 n, .int .i64 b], .int .i64 0]) (by simp [results, Try.results19, go_sem]) rfl ⟨⟨_, rfl, some ⟨w.heap.size + 1, 0, none⟩, n, ?_, ?_⟩, ?_⟩
  · have hl : (newT n b).nodes.length = n := by show (rootIno :: List.replicate (n - 1) noIno).length = n; simp; omega
    rw [hl]
    rfl
  · refine new_nodes _ _ n h1 h2 (fun i j hi hj => ?_)
    rw [← six_set A n h1 HS.out HA.out i j hi hj]
    have e : (w.alloc (.cells #[.slice (some ⟨w.heap.size + 1, 0, none⟩) n n, .int .i64 n, .int .i64 b] 24)).heap.size = w.heap.size + 1 := by simp
    simp only [World.cell?]
    rw [Below.heap_alloc _ _ _ (by simp)]
    have hb := new_block (w.alloc (.cells #[.slice (some ⟨w.heap.size + 1, 0, none⟩) n n, .int .i64 n, .int .i64 b] 24)) (.cells ((((((A.setIfInBounds 0 (Value.int .i64 2)).setIfInBounds 1 (Value.int .i64 7)).setIfInBounds 2 (Value.int .i64 0)).setIfInBounds 3 (Value.string ⟨#[]⟩)).setIfInBounds 4 (Value.slice none 0 0)).setIfInBounds 5 (Value.int .i64 0)) 42)
    rw [e] at hb
    rw [hb]
    rfl
  · exact ((below_box w _).alloc (by simp) _).alloc (by simp; omega) _
end Go.Proofs.Ytblmlgpajmaliaa
