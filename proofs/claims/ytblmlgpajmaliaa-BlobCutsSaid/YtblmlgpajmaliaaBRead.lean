/-
  Read of the landed code: bytes of a file.
-/
import Derived.Test.YtblmlgpajmaliaaBBytes
import Derived.Test.YtblmlgpajmaliaaBSmall
namespace Go.Proofs.Ytblmlgpajmaliaa
set_option maxRecDepth 100000
open Go Go.RowKit

theorem take_min (l : List UInt8) (n : Nat) : l.take (min n l.length) = l.take n := by
  rw [List.take_eq_take_iff]
  omega
theorem drop_min (l : List UInt8) (n : Nat) : l.drop (min n l.length) = l.drop n := by
  by_cases h : n ≤ l.length
  · rw [Nat.min_eq_left h]
  · rw [Nat.min_eq_right (by omega), List.drop_of_length_le (Nat.le_refl _), List.drop_of_length_le (by omega)]
/-- A part of a text, as a text. -/
theorem cut_text (s : ByteArray) (f k : Nat) (d : List UInt8) (h : (s.data.toList.take k).drop f = d) : s.extract f k = ⟨d.toArray⟩ := by
  apply ByteArray.ext
  apply Array.ext'
  rw [extract_list, h]
theorem slice_lo (s : ByteArray) (z : Int) (n : Nat) (hz : z = (n : Int)) (hn : n ≤ s.size) (W : World) : (Instr.slice 9 (.string s) (some (.int .i64 z)) none none).run Try.prog W = .ok (.string ⟨(s.data.toList.drop n).toArray⟩) W := by
  subst hz
  have h := run_slice_string_l (P := Try.prog) W 9 s Try.underlying9 .i64 (n : Int) (by omega) (by omega)
  rw [Int.toNat_natCast, cut_text s n s.size (s.data.toList.drop n) (by rw [List.take_of_length_le (by rw [Array.length_toList]; exact Nat.le_refl _)])] at h
  exact h
theorem slice_hi (s : ByteArray) (z : Int) (n : Nat) (hz : z = (n : Int)) (hn : n ≤ s.size) (W : World) : (Instr.slice 9 (.string s) none (some (.int .i64 z)) none).run Try.prog W = .ok (.string ⟨(s.data.toList.take n).toArray⟩) W := by
  subst hz
  have h := run_slice_string_h (P := Try.prog) W 9 s Try.underlying9 .i64 (n : Int) (by omega) (by omega)
  rw [Int.toNat_natCast, cut_text s 0 n (s.data.toList.take n) (by rw [List.drop_zero])] at h
  exact h

set_option maxHeartbeats 2000000 in
theorem lread7 (a : Option Addr) (cap : Nat) (m b ino off n : Int) (L : List Ino) (_hF : FitP L m b) (s : List UInt8) (er : Int) (hz : readW L ino off n = (s, er)) (w : World) (hN : NodesIn w a cap L) :
    Calls Try.prog 10 #[.agg #[.slice a L.length cap, .int .i64 m, .int .i64 b], .int .i64 ino, .int .i64 off, .int .i64 n] w fun e w' => e = .returned (.tuple #[.string ⟨s.toArray⟩, .int .i64 er]) ∧ Below w.heap.size w w' := by
  have hz2 := hz
  unfold readW at hz2
  obtain ⟨w1, hw1⟩ : ∃ w1, w1 = w.alloc (.cells #[.slice a L.length cap, .int .i64 m, .int .i64 b] 24) := ⟨_, rfl⟩
  have hb1 : Below w.heap.size w w1 := by rw [hw1]; exact below_box w _
  have HX := Lib.hid (show ∀ W', Below w1.heap.size w1 W' → W'.cell? ⟨w.heap.size, 0, none⟩ = some (.slice a L.length cap) ∧ W'.cell? ⟨w.heap.size, 1, none⟩ = some (.int .i64 m) ∧ W'.cell? ⟨w.heap.size, 2, none⟩ = some (.int .i64 b) from fun W' h => box3 (by rw [← hw1]; exact h))
  have HM := Lib.hid (hN.below hb1)
  have HB1 := Lib.hid hb1
  obtain ⟨rf, hrf⟩ : ∃ v, refW L ino (min off n) = v := ⟨_, rfl⟩
  have HRF := Lib.hid hrf
  clear hN hb1 hrf hz
  go_enter Try.func10, Try.ntmps10
  go_wp2_with fail
  rw [← hw1]
  clear hw1
  refine (lrefused _ _ _ _ _ _ L rf HRF.out _ HM.out).mono ?_
  rintro e w2 ⟨rfl, hb2⟩
  obtain ⟨q0, q1, q2⟩ := HX.out _ hb2
  have hql := cell_lt q0
  have HB2 := Lib.hid hb2
  clear hb2
  have hrf := HRF.out
  unfold refW at hrf
  by_cases h0 : rf = 0
  · subst h0
    have h1 : fileW L ino = 0 := by
      by_cases h : fileW L ino = 0
      · exact h
      · rw [if_pos h] at hrf
        exact hrf
    rw [if_neg (by simpa using h1)] at hz2 hrf
    have h2 : ¬ (min off n < 0) := fun h => by rw [if_pos h] at hrf; exact absurd hrf (by decide)
    rw [if_neg (by omega)] at hz2
    simp only [Prod.mk.injEq] at hz2
    obtain ⟨hs, rfl⟩ := hz2
    obtain ⟨k, hk, rfl, -⟩ := file_ok h1
    rw [node_nat L k hk] at hs
    obtain ⟨bb, o, rfl, hx⟩ := (HM.out.below HB2.out).2.2 k hk
    have x3 := hx.data
    have hxl := cell_lt x3
    have hk0 : (0 : Int) ≤ (k : Int) := by omega
    have hk1 : (k : Int) < (L.length : Int) := by omega
    obtain ⟨D, hD⟩ : ∃ D : ByteArray, D = ⟨L[k].data.toArray⟩ := ⟨_, rfl⟩
    rw [← hD] at x3
    have hDl : D.data.toList = L[k].data := by rw [hD]
    obtain ⟨o1, rfl⟩ : ∃ o1 : Nat, off = (o1 : Int) := ⟨off.toNat, by omega⟩
    obtain ⟨n1, rfl⟩ : ∃ n1 : Nat, n = (n1 : Int) := ⟨n.toNat, by omega⟩
    obtain ⟨E1, hE1⟩ : ∃ E : ByteArray, E = ⟨(D.data.toList.drop (min o1 D.size)).toArray⟩ := ⟨_, rfl⟩
    obtain ⟨E2, hE2⟩ : ∃ E : ByteArray, E = ⟨(E1.data.toList.take (min n1 E1.size)).toArray⟩ := ⟨_, rfl⟩
    have c1 := fun W => slice_lo D (min (o1 : Int) (D.size : Int)) (min o1 D.size) (by omega) (by omega) W
    rw [← hE1] at c1
    have c2 := fun W => slice_hi E1 (min (n1 : Int) (E1.size : Int)) (min n1 E1.size) (by omega) (by omega) W
    rw [← hE2] at c2
    have hfin : E2 = ⟨s.toArray⟩ := by
      have e1 : D.size = L[k].data.length := by rw [← hDl]; exact Array.length_toList.symm
      have e4 : E1.data.toList = L[k].data.drop o1 := by rw [hE1, hDl, e1, drop_min]
      have e5 : E1.size = (L[k].data.drop o1).length := by rw [← e4]; exact Array.length_toList.symm
      rw [hE2, e4, e5, take_min, ← hs, Int.toNat_natCast, Int.toNat_natCast]
    have HFIN := Lib.hid hfin
    clear hx hs hD hDl hE1 hE2 hfin hrf h1 h2
    go_wp2_with fail
    go_ret2
    exact ⟨by rw [HFIN.out]; rfl, HB1.out.trans (HB2.out.mono HB1.out.size)⟩
  · have h0b : (rf != 0) = true := by simpa using h0
    have hz3 : s = [] ∧ er = rf := by
      by_cases h : fileW L ino = 0
      · rw [if_neg (by simpa using h)] at hz2 hrf
        by_cases h2 : min off n < 0
        · rw [if_pos h2] at hrf
          rw [if_pos (by omega)] at hz2
          simp only [Prod.mk.injEq] at hz2
          exact ⟨hz2.1.symm, by omega⟩
        · rw [if_neg h2] at hrf
          exact absurd hrf.symm h0
      · rw [if_pos h] at hz2 hrf
        simp only [Prod.mk.injEq] at hz2
        exact ⟨hz2.1.symm, by omega⟩
    obtain ⟨rfl, rfl⟩ := hz3
    clear hz2 hrf
    go_wp2_with fail
    go_ret2
    exact ⟨rfl, HB1.out.trans (HB2.out.mono HB1.out.size)⟩
end Go.Proofs.Ytblmlgpajmaliaa
