/-
  good: which trees and texts the laws of layer 6 speak of.
-/
import Derived.Test.YtmaiphibpdngnaaGreatQ1
import Derived.Test.YtmaiphibpdngnaaGreatK2
import Derived.Test.YtmaiphibpdngnaaGreatK3
namespace Go.Proofs.YtmaiphibpdngnaaGreat
set_option maxRecDepth 100000
open Go Go.RowKit

/-- What good answers. -/
def GoodAns (L : List Ino) (m b : Int) (Ts : List ByteArray) (e : Ending) : Prop := ∃ v : Bool, e = .returned (.bool v) ∧ (v = true → L.length ≤ 300 ∧ FitP L m b ∧ ∀ s ∈ Ts, s.size ≤ 3000)

set_option maxHeartbeats 4000000 in
theorem good6_any (a : Option Addr) (cap : Nat) (m b : Int) (L : List Ino) (hS : Sized L) (Ts : List ByteArray) (hTs : ∀ s ∈ Ts, s.size ≤ 281474976710656) (hTl : Ts.length ≤ 4) (q tc : Nat) (w : World) (hN : NodesIn w a cap L) (hT : ∀ i (hi : i < Ts.length), w.cell? ⟨q, i, none⟩ = some (.string Ts[i])) :
    Calls Tryz.prog 8 #[.agg #[.slice a L.length cap, .int .i64 m, .int .i64 b], .slice (some ⟨q, 0, none⟩) Ts.length tc] w fun e w' => GoodAns L m b Ts e ∧ Below w.heap.size w w' := by
  obtain ⟨w1, hw1⟩ : ∃ w1, w1 = w.alloc (.cells #[.slice a L.length cap, .int .i64 m, .int .i64 b] 24) := ⟨_, rfl⟩
  have hb1 : Below w.heap.size w w1 := by rw [hw1]; exact below_box w _
  have hX : w1.heap[w.heap.size]? = some (.cells #[.slice a L.length cap, .int .i64 m, .int .i64 b] 24 (0, 0)) := by rw [hw1]; exact new_block w _
  have hs1 : w1.heap.size = w.heap.size + 1 := by rw [hw1]; simp
  have HM := Lib.hid (hN.below hb1)
  have HB1 := Lib.hid hb1
  have HS := Lib.hid hS
  have HT := Lib.hid (show ∀ W, Below w1.heap.size w1 W → ∀ i (hi : i < Ts.length), W.cell? ⟨q, i, none⟩ = some (.string Ts[i]) from fun W hW i hi => cell_below (hb1.trans (hW.mono (by omega))) (hT i hi))
  have HX := Lib.hid (show ∀ W, Below w1.heap.size w1 W → W.cell? ⟨w.heap.size, 0, none⟩ = some (.slice a L.length cap) ∧ W.cell? ⟨w.heap.size, 1, none⟩ = some (.int .i64 m) ∧ W.cell? ⟨w.heap.size, 2, none⟩ = some (.int .i64 b) from fun W hW => by
    have h := (hW.block w.heap.size (by omega)).trans hX
    exact ⟨blk_cell h 0, blk_cell h 1, blk_cell h 2⟩)
  have HTS := Lib.hid hTs
  clear hN hT hS hb1 hX hTs
  go_enter Tryz.func8, Tryz.ntmps8
  go_wp2_with fail
  rw [← hw1]
  clear hw1
  go_loopw [6, 9] (fun _ iv wr => ∃ K : Nat, K ≤ Ts.length ∧ iv = .int .i64 K ∧ Hid (∀ i (hi : i < Ts.length), i < K → Ts[i].size ≤ 3000) ∧ Hid (Below w1.heap.size w1 wr)) (fun _ iv _ => Ts.length - (intOf iv).toNat)
  case atStart => exact ⟨0, Nat.zero_le _, rfl, fun _ _ h => absurd h (Nat.not_lt_zero _), Below.refl _ _⟩
  case round =>
    obtain ⟨K, hK, rfl, HOK, HBR⟩ := hrel
    by_cases hlt : K < Ts.length
    · have t0 := HT.out _ HBR.out K hlt
      have hq := cell_lt t0
      obtain ⟨s, hs⟩ : ∃ s, s = Ts[K] := ⟨_, rfl⟩
      rw [← hs] at t0
      have hss : s.size ≤ 281474976710656 := by rw [hs]; exact HTS.out _ (List.getElem_mem _)
      have HSK := Lib.hid hs
      have hlt' : (K : Int) < (Ts.length : Int) := by omega
      have hk0 : (0 : Int) ≤ (K : Int) := by omega
      clear hs
      by_cases h3 : s.size ≤ 3000
      · have h3' : ¬ ((3000 : Int) < (s.size : Int)) := by omega
        have hnext := Lib.hid (show ∀ i (hi : i < Ts.length), i < K + 1 → Ts[i].size ≤ 3000 from fun i hi hiK => by
          by_cases e : i = K
          · subst e
            rw [← HSK.out]
            exact h3
          · exact HOK.out i hi (by omega))
        go_wp2_with fail
        go_roundw
        case rel => exact ⟨K + 1, by omega, by go_num, hnext, HBR⟩
        case measure => simp [intOf] <;> omega
      · have h3' : (3000 : Int) < (s.size : Int) := by omega
        go_wp2_with fail
        go_ret
        exact ⟨⟨false, rfl, fun e => by cases e⟩, HB1.out.trans (HBR.out.mono (by omega))⟩
    · have hall := Lib.hid (show ∀ s ∈ Ts, s.size ≤ 3000 from fun s hs => by
        obtain ⟨i, hi, rfl⟩ := List.getElem_of_mem hs
        exact HOK.out i hi (by omega))
      obtain ⟨q0, q1, q2⟩ := HX.out _ HBR.out
      have hql := cell_lt q0
      by_cases hl : L.length ≤ 300
      · have hl2 : decide ((L.length : Int) ≤ 300) = true := decide_eq_true (by omega)
        go_wp2_with fail
        refine (rfit_any _ _ _ _ L hl HS.out _ (HM.out.below HBR.out)).mono ?_
        rintro e w2 ⟨⟨v, rfl, hv⟩, hb2⟩
        have HV := Lib.hid hv
        have HB2 := Lib.hid (HB1.out.trans ((HBR.out.trans (hb2.mono HBR.out.size)).mono (by omega)))
        clear hv hb2
        go_wp2_with fail
        go_ret
        exact ⟨⟨v, rfl, fun e => ⟨hl, ref_iff.1 (by subst e; exact HV.out.1 rfl), hall.out⟩⟩, HB2.out⟩
      · have hl2 : decide ((L.length : Int) ≤ 300) = false := decide_eq_false (by omega)
        go_wp2_with fail
        go_ret
        exact ⟨⟨false, rfl, fun e => by cases e⟩, HB1.out.trans (HBR.out.mono (by omega))⟩
end Go.Proofs.YtmaiphibpdngnaaGreat
