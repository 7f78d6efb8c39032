/-
  What is asked of an inode ahead of all else: the reference's file, the landed refused.
-/
import Derived.Test.YtblmlgpajmaliaaBPlain
namespace Go.Proofs.Ytblmlgpajmaliaa
set_option maxRecDepth 100000
open Go Go.RowKit

def kindE (kd : Int) : Int := if kd = 0 then 2 else if kd = 2 then 21 else if kd ≠ 1 then 22 else 0
theorem file_cases (L : List Ino) (k : Int) : (k < 0 ∧ fileW L k = 2) ∨ ((L.length : Int) ≤ k ∧ 0 ≤ k ∧ fileW L k = 2) ∨ ∃ n : Nat, ∃ hn : n < L.length, k = (n : Int) ∧ fileW L k = kindE L[n].kind := by
  by_cases h : thereB L k = true
  · obtain ⟨n, rfl, hn⟩ := there_nat h
    refine .inr (.inr ⟨n, hn, rfl, ?_⟩)
    unfold fileW kindE
    rw [h, node_nat L n hn]
    by_cases h0 : L[n].kind = 0
    · rw [if_pos h0, if_pos (.inr h0)]
    · rw [if_neg h0, if_neg (by simpa using h0)]
  · have hf : thereB L k = false := by simpa using h
    have e : fileW L k = 2 := by unfold fileW; rw [if_pos (.inl hf)]
    unfold thereB at h
    by_cases h0 : k < 0
    · exact .inl ⟨h0, e⟩
    · refine .inr (.inl ⟨?_, by omega, e⟩)
      rw [decide_eq_true (by omega : 0 ≤ k), Bool.true_and, decide_eq_true_eq] at h
      omega
def refW (L : List Ino) (k least : Int) : Int := if fileW L k ≠ 0 then fileW L k else if least < 0 then 22 else 0

set_option maxHeartbeats 2000000 in
theorem rfile7 (a : Option Addr) (cap : Nat) (m b k : Int) (L : List Ino) (v : Int) (hv : fileW L k = v) (w : World) (hN : NodesIn w a cap L) :
    Calls Try.prog 21 #[.agg #[.slice a L.length cap, .int .i64 m, .int .i64 b], .int .i64 k] w fun e w' => e = .returned (.int .i64 v) ∧ Below w.heap.size w w' := by
  have hb1 := below_box w (.cells #[.slice a L.length cap, .int .i64 m, .int .i64 b] 24)
  have HB1 := Lib.hid hb1
  rcases file_cases L k with ⟨h1, h2⟩ | ⟨h1, h0, h2⟩ | ⟨n, hn, rfl, h2⟩
  · rw [h2] at hv
    subst hv
    have h1d : decide (k < 0) = true := decide_eq_true h1
    clear hN hb1 h2
    go_enter Try.func21, Try.ntmps21
    go_wp2_with fail
    go_ret
    exact ⟨rfl, HB1.out⟩
  · rw [h2] at hv
    subst hv
    have h1d : decide ((L.length : Int) ≤ k) = true := decide_eq_true h1
    have h0d : decide (k < 0) = false := decide_eq_false (by omega)
    clear hN hb1 h2
    go_enter Try.func21, Try.ntmps21
    go_wp2_with fail
    go_ret
    exact ⟨rfl, HB1.out⟩
  · obtain ⟨bb, o, rfl, hx⟩ := (hN.below hb1).2.2 n hn
    have c0 := hx.kind
    have hbl := cell_lt c0
    obtain ⟨kd, hkd⟩ : ∃ kd, kd = L[n].kind := ⟨_, rfl⟩
    rw [← hkd] at c0 h2
    rw [h2] at hv
    have hd0 : (0 : Int) ≤ (n : Int) := by omega
    have hd1 : (n : Int) < (L.length : Int) := by omega
    have hd0f : decide ((n : Int) < 0) = false := decide_eq_false (by omega)
    have hd1f : decide ((L.length : Int) ≤ (n : Int)) = false := decide_eq_false (by omega)
    unfold kindE at hv
    clear hN hb1 hx h2 hkd
    by_cases k0 : kd = 0
    · rw [if_pos k0] at hv
      subst hv
      subst k0
      go_enter Try.func21, Try.ntmps21
      go_wp2_with fail
      go_ret
      exact ⟨rfl, HB1.out⟩
    · have k0b : (kd == 0) = false := by simpa using k0
      rw [if_neg k0] at hv
      by_cases k2 : kd = 2
      · rw [if_pos k2] at hv
        subst hv
        subst k2
        go_enter Try.func21, Try.ntmps21
        go_wp2_with fail
        go_ret
        exact ⟨rfl, HB1.out⟩
      · have k2b : (kd == 2) = false := by simpa using k2
        rw [if_neg k2] at hv
        by_cases k1 : kd = 1
        · rw [if_neg (by simpa using k1)] at hv
          subst hv
          subst k1
          go_enter Try.func21, Try.ntmps21
          go_wp2_with fail
          go_ret
          exact ⟨rfl, HB1.out⟩
        · rw [if_pos k1] at hv
          subst hv
          have k1b : (kd != 1) = true := by simpa using k1
          go_enter Try.func21, Try.ntmps21
          go_wp2_with fail
          go_ret
          exact ⟨rfl, HB1.out⟩

set_option maxHeartbeats 2000000 in
theorem lrefused (a : Option Addr) (cap : Nat) (m b k least : Int) (L : List Ino) (v : Int) (hv : refW L k least = v) (w : World) (hN : NodesIn w a cap L) :
    Calls Try.prog 20 #[.agg #[.slice a L.length cap, .int .i64 m, .int .i64 b], .int .i64 k, .int .i64 least] w fun e w' => e = .returned (.int .i64 v) ∧ Below w.heap.size w w' := by
  have hb1 := below_box w (.cells #[.slice a L.length cap, .int .i64 m, .int .i64 b] 24)
  have HB1 := Lib.hid hb1
  unfold refW at hv
  rcases file_cases L k with ⟨h1, h2⟩ | ⟨h1, h0, h2⟩ | ⟨n, hn, rfl, h2⟩
  · rw [h2, if_pos (by decide)] at hv
    subst hv
    have h1d : decide (k < 0) = true := decide_eq_true h1
    clear hN hb1 h2
    go_enter Try.func20, Try.ntmps20
    go_wp2_with fail
    go_ret
    exact ⟨rfl, HB1.out⟩
  · rw [h2, if_pos (by decide)] at hv
    subst hv
    have h1d : decide ((L.length : Int) ≤ k) = true := decide_eq_true h1
    have h0d : decide (k < 0) = false := decide_eq_false (by omega)
    clear hN hb1 h2
    go_enter Try.func20, Try.ntmps20
    go_wp2_with fail
    go_ret
    exact ⟨rfl, HB1.out⟩
  · obtain ⟨bb, o, rfl, hx⟩ := (hN.below hb1).2.2 n hn
    have c0 := hx.kind
    have hbl := cell_lt c0
    obtain ⟨kd, hkd⟩ : ∃ kd, kd = L[n].kind := ⟨_, rfl⟩
    rw [← hkd] at c0 h2
    rw [h2] at hv
    have hd0 : (0 : Int) ≤ (n : Int) := by omega
    have hd1 : (n : Int) < (L.length : Int) := by omega
    have hd0f : decide ((n : Int) < 0) = false := decide_eq_false (by omega)
    have hd1f : decide ((L.length : Int) ≤ (n : Int)) = false := decide_eq_false (by omega)
    unfold kindE at hv
    clear hN hb1 hx h2 hkd
    by_cases k0 : kd = 0
    · subst k0
      simp at hv
      subst hv
      go_enter Try.func20, Try.ntmps20
      go_wp2_with fail
      go_ret
      exact ⟨rfl, HB1.out⟩
    · have k0b : (kd == 0) = false := by simpa using k0
      rw [if_neg k0] at hv
      by_cases k2 : kd = 2
      · subst k2
        simp at hv
        subst hv
        go_enter Try.func20, Try.ntmps20
        go_wp2_with fail
        go_ret
        exact ⟨rfl, HB1.out⟩
      · have k2b : (kd == 2) = false := by simpa using k2
        rw [if_neg k2] at hv
        by_cases k1 : kd = 1
        · subst k1
          simp at hv
          by_cases hl : least < 0
          · rw [if_pos hl] at hv
            subst hv
            have hld : decide (least < 0) = true := decide_eq_true hl
            go_enter Try.func20, Try.ntmps20
            go_wp2_with fail
            go_ret
            exact ⟨rfl, HB1.out⟩
          · rw [if_neg hl] at hv
            subst hv
            have hld : decide (least < 0) = false := decide_eq_false hl
            go_enter Try.func20, Try.ntmps20
            go_wp2_with fail
            go_ret
            exact ⟨rfl, HB1.out⟩
        · have k1b : (kd != 1) = true := by simpa using k1
          simp [k1] at hv
          subst hv
          go_enter Try.func20, Try.ntmps20
          go_wp2_with fail
          go_ret
          exact ⟨rfl, HB1.out⟩
end Go.Proofs.Ytblmlgpajmaliaa
