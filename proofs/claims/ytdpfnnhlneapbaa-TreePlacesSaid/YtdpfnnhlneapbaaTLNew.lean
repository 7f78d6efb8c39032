/-
  tree's New, of the landed code.
-/
import Derived.Test.YtdpfnnhlneapbaaTreeNew
namespace Go.Proofs.Ytdpfnnhlneapbaa
open Go Go.RowKit

set_option maxHeartbeats 1000000 in
theorem lnew_no (n b : Int) (h : ¬ NewFits n b) (w : World) :
    Calls Try.prog 10 #[.int .i64 n, .int .i64 b] w fun e w' => e = .returned (.tuple #[.agg #[.slice none 0 0, .int .i64 0, .int .i64 0], .int .i64 22]) ∧ Below w.heap.size w w' := by
  have h4 : n < 1 ∨ (1 ≤ n ∧ 256 < n) ∨ (1 ≤ n ∧ n ≤ 256 ∧ b < 0) ∨ (1 ≤ n ∧ n ≤ 256 ∧ 0 ≤ b ∧ 65536 < b) := by unfold NewFits at h; omega
  have hb := below_box w (.cells #[.slice none 0 0, .int .i64 0, .int .i64 0] 24)
  rcases h4 with h | ⟨h, h1⟩ | ⟨h, h1, h2⟩ | ⟨h, h1, h2, h3⟩
  all_goals
    go_enter Try.func10, Try.ntmps10
    go_wp2_with fail
    exact bodyPost_ret (v := .tuple #[.agg #[.slice none 0 0, .int .i64 0, .int .i64 0], .int .i64 22]) (by simp [results, Try.results10, go_sem]) rfl ⟨rfl, hb⟩

set_option maxHeartbeats 1000000 in
theorem lnew_yes (n : Nat) (b : Int) (h1 : 1 ≤ n) (h2 : n ≤ 256) (h3 : 0 ≤ b) (h4 : b ≤ 65536) (w : World) :
    Calls Try.prog 10 #[.int .i64 n, .int .i64 b] w fun e w' => (∃ v, e = .returned (.tuple #[v, .int .i64 0]) ∧ TreeIn w' v (newT n b)) ∧ Below w.heap.size w w' := by
  obtain ⟨i0, hi, hz0, hz1, hz2⟩ := info_parts infoI
  have hmk : (Instr.makeSlice 22 (.int .i64 (n : Int)) (.int .i64 (n : Int))).run Try.prog (w.alloc (.cells #[.slice none 0 0, .int .i64 0, .int .i64 0] 24)) =
      .ok (.slice (some ⟨w.heap.size + 1, 0, none⟩) n n) ((w.alloc (.cells #[.slice none 0 0, .int .i64 0, .int .i64 0] 24)).alloc (.cells (madeCells zeroC (n * 6)) 45)) := by
    have h := run_makeSlice (P := Try.prog) (w.alloc (.cells #[.slice none 0 0, .int .i64 0, .int .i64 0] 24)) 22 45 i0 (.agg zeroC) Try.underlying22 hi hz0 .i64 .i64 (n : Int) (n : Int) (by omega) (Int.le_refl _) (by rw [hz1]; simp; omega) (by rw [hz2]; omega) (by omega)
    rw [hz1, World.size_alloc, Int.toNat_natCast] at h
    exact h
  have hA := fun i j hi hj => made_at n i j hi hj
  have hsz : (madeCells zeroC (n * 6)).size = n * 6 := size_madeCells _ _
  generalize madeCells zeroC (n * 6) = A at hmk hA hsz
  have a0 : A[0]? = some (.int .i64 0) := hA 0 0 (by omega) (by omega)
  have a1 : A[1]? = some (.int .i64 0) := hA 0 1 (by omega) (by omega)
  have a2 : A[2]? = some (.int .i64 0) := hA 0 2 (by omega) (by omega)
  have a3 : A[3]? = some (.string ⟨#[]⟩) := hA 0 3 (by omega) (by omega)
  have a4 : A[4]? = some (.slice none 0 0) := hA 0 4 (by omega) (by omega)
  have a5 : A[5]? = some (.int .i64 0) := hA 0 5 (by omega) (by omega)
  have HA := Lib.hid hA
  have HS := Lib.hid hsz
  clear hA hsz hi hz0 hz1 hz2
  go_enter Try.func10, Try.ntmps10
  go_wp2_with fail
  refine bodyPost_ret (v := .tuple #[.agg #[.slice (some ⟨w.heap.size + 1, 0, none⟩) n n, .int .i64 n, .int .i64 b], .int .i64 0]) (by simp [results, Try.results10, go_sem]) rfl ⟨⟨_, rfl, some ⟨w.heap.size + 1, 0, none⟩, n, ?_, ?_⟩, ?_⟩
  · have hl : (newT n b).nodes.length = n := by show (rootIno :: List.replicate (n - 1) noIno).length = n; simp; omega
    rw [hl]
    rfl
  · refine new_nodes _ _ n h1 h2 (fun i j hi hj => ?_)
    rw [← six_set A n h1 HS.out HA.out i j hi hj]
    have e : (w.alloc (.cells #[.slice (some ⟨w.heap.size + 1, 0, none⟩) n n, .int .i64 n, .int .i64 b] 24)).heap.size = w.heap.size + 1 := by simp
    simp only [World.cell?]
    rw [Below.heap_alloc _ _ _ (by simp)]
    have hb := new_block (w.alloc (.cells #[.slice (some ⟨w.heap.size + 1, 0, none⟩) n n, .int .i64 n, .int .i64 b] 24)) (.cells ((((((A.setIfInBounds 0 (Value.int .i64 2)).setIfInBounds 1 (Value.int .i64 7)).setIfInBounds 2 (Value.int .i64 0)).setIfInBounds 3 (Value.string ⟨#[]⟩)).setIfInBounds 4 (Value.slice none 0 0)).setIfInBounds 5 (Value.int .i64 0)) 45)
    rw [e] at hb
    rw [hb]
    rfl
  · exact ((below_box w _).alloc (by simp) _).alloc (by simp; omega) _
end Go.Proofs.Ytdpfnnhlneapbaa
