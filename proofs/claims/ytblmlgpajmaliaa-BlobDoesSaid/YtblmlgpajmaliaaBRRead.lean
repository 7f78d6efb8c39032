/-
  Read of the reference: bytes of a file.
-/
import Derived.Test.YtblmlgpajmaliaaBRead
namespace Go.Proofs.Ytblmlgpajmaliaa
set_option maxRecDepth 100000
open Go Go.RowKit

set_option maxHeartbeats 2000000 in
theorem rread7 (a : Option Addr) (cap : Nat) (m b ino off n : Int) (L : List Ino) (_hF : FitP L m b) (s : List UInt8) (er : Int) (hz : readW L ino off n = (s, er)) (w : World) (hN : NodesIn w a cap L) :
    Calls Try.prog 11 #[.agg #[.slice a L.length cap, .int .i64 m, .int .i64 b], .int .i64 ino, .int .i64 off, .int .i64 n] w fun e w' => e = .returned (.tuple #[.string ⟨s.toArray⟩, .int .i64 er]) ∧ Below w.heap.size w w' := by
  have hz2 := hz
  unfold readW at hz2
  obtain ⟨w1, hw1⟩ : ∃ w1, w1 = w.alloc (.cells #[.slice a L.length cap, .int .i64 m, .int .i64 b] 24) := ⟨_, rfl⟩
  have hb1 : Below w.heap.size w w1 := by rw [hw1]; exact below_box w _
  have HX := Lib.hid (show ∀ W', Below w1.heap.size w1 W' → W'.cell? ⟨w.heap.size, 0, none⟩ = some (.slice a L.length cap) ∧ W'.cell? ⟨w.heap.size, 1, none⟩ = some (.int .i64 m) ∧ W'.cell? ⟨w.heap.size, 2, none⟩ = some (.int .i64 b) from fun W' h => box3 (by rw [← hw1]; exact h))
  have HM := Lib.hid (hN.below hb1)
  have HB1 := Lib.hid hb1
  obtain ⟨rf, hrf⟩ : ∃ v, fileW L ino = v := ⟨_, rfl⟩
  have HRF := Lib.hid hrf
  rw [hrf] at hz2
  clear hN hb1 hrf hz
  go_enter Try.func11, Try.ntmps11
  go_wp2_with fail
  rw [← hw1]
  clear hw1
  refine (rfile7 _ _ _ _ _ L rf HRF.out _ HM.out).mono ?_
  rintro e w2 ⟨rfl, hb2⟩
  obtain ⟨q0, q1, q2⟩ := HX.out _ hb2
  have hql := cell_lt q0
  have HB2 := Lib.hid hb2
  clear hb2
  by_cases h0 : rf = 0
  · subst h0
    rw [if_neg (by simp)] at hz2
    by_cases ho : off < 0
    · rw [if_pos (.inl ho)] at hz2
      simp only [Prod.mk.injEq] at hz2
      obtain ⟨rfl, rfl⟩ := hz2
      have hod : decide (off < 0) = true := decide_eq_true ho
      go_wp2_with fail
      go_ret2
      exact ⟨rfl, HB1.out.trans (HB2.out.mono HB1.out.size)⟩
    have hod : decide (off < 0) = false := decide_eq_false ho
    by_cases hn : n < 0
    · rw [if_pos (.inr hn)] at hz2
      simp only [Prod.mk.injEq] at hz2
      obtain ⟨rfl, rfl⟩ := hz2
      have hnd : decide (n < 0) = true := decide_eq_true hn
      go_wp2_with fail
      go_ret2
      exact ⟨rfl, HB1.out.trans (HB2.out.mono HB1.out.size)⟩
    have hnd : decide (n < 0) = false := decide_eq_false hn
    rw [if_neg (by omega)] at hz2
    simp only [Prod.mk.injEq] at hz2
    obtain ⟨hs, rfl⟩ := hz2
    obtain ⟨k, hk, rfl, -⟩ := file_ok HRF.out
    rw [node_nat L k hk] at hs
    obtain ⟨bb, o, rfl, hx⟩ := (HM.out.below HB2.out).2.2 k hk
    have x3 := hx.data
    have hxl := cell_lt x3
    have hk0 : (0 : Int) ≤ (k : Int) := by omega
    have hk1 : (k : Int) < (L.length : Int) := by omega
    obtain ⟨D, hD⟩ : ∃ D : ByteArray, D = ⟨L[k].data.toArray⟩ := ⟨_, rfl⟩
    rw [← hD] at x3
    have hDl : D.data.toList = L[k].data := by rw [hD]
    have e1 : D.size = L[k].data.length := by rw [← hDl]; exact Array.length_toList.symm
    obtain ⟨o1, rfl⟩ : ∃ o1 : Nat, off = (o1 : Int) := ⟨off.toNat, by omega⟩
    obtain ⟨n1, rfl⟩ : ∃ n1 : Nat, n = (n1 : Int) := ⟨n.toNat, by omega⟩
    rw [Int.toNat_natCast, Int.toNat_natCast] at hs
    by_cases hg : D.size ≤ o1
    · have hgi : (D.size : Int) ≤ (o1 : Int) := by omega
      have hfin := Lib.hid (show s = [] by rw [← hs, List.drop_of_length_le (by omega), List.take_nil])
      clear hx hs hD hDl e1
      go_wp2_with fail
      go_ret2
      exact ⟨by rw [hfin.out]; rfl, HB1.out.trans (HB2.out.mono HB1.out.size)⟩
    · have hgi : ¬ (D.size : Int) ≤ (o1 : Int) := by omega
      obtain ⟨E1, hE1⟩ : ∃ E : ByteArray, E = ⟨(D.data.toList.drop o1).toArray⟩ := ⟨_, rfl⟩
      have c1 := fun W => slice_lo D (o1 : Int) o1 rfl (by omega) W
      rw [← hE1] at c1
      have e4 : E1.data.toList = L[k].data.drop o1 := by rw [hE1, hDl]
      have e5 : E1.size = (L[k].data.drop o1).length := by rw [← e4]; exact Array.length_toList.symm
      by_cases hl : n1 < E1.size
      · have hli : (n1 : Int) < (E1.size : Int) := by omega
        obtain ⟨E2, hE2⟩ : ∃ E : ByteArray, E = ⟨(E1.data.toList.take n1).toArray⟩ := ⟨_, rfl⟩
        have c2 := fun W => slice_hi E1 (n1 : Int) n1 rfl (by omega) W
        rw [← hE2] at c2
        have HFIN := Lib.hid (show E2 = ⟨s.toArray⟩ by rw [hE2, e4, hs])
        clear hx hs hD hDl hE1 hE2 e1 e4 e5
        go_wp2_with fail
        go_ret2
        exact ⟨by rw [HFIN.out]; rfl, HB1.out.trans (HB2.out.mono HB1.out.size)⟩
      · have hli : ¬ (n1 : Int) < (E1.size : Int) := by omega
        have HFIN := Lib.hid (show E1 = ⟨s.toArray⟩ by
          rw [← hs, List.take_of_length_le (by omega), ← e4])
        clear hx hs hD hDl hE1 e1 e4 e5
        go_wp2_with fail
        go_ret2
        exact ⟨by rw [HFIN.out]; rfl, HB1.out.trans (HB2.out.mono HB1.out.size)⟩
  · have h0b : (rf != 0) = true := by simpa using h0
    rw [if_pos h0] at hz2
    simp only [Prod.mk.injEq] at hz2
    obtain ⟨rfl, rfl⟩ := hz2
    go_wp2_with fail
    go_ret2
    exact ⟨rfl, HB1.out.trans (HB2.out.mono HB1.out.size)⟩
end Go.Proofs.Ytblmlgpajmaliaa
