/-
  Write of both sides.
-/
import Derived.Test.YtopgmboilimlhaaPMem
namespace Go.Proofs.Ytopgmboilimlhaa
set_option maxRecDepth 100000
open Go Go.RowKit

set_option maxHeartbeats 4000000 in
theorem lwrite8 (p : Pip) (hF : fitPip p = true) (S : ByteArray) (hS : S.size ≤ 281474976710656) (q : Pip) (k er : Int) (hz : writePip p S.data.toList = (q, k, er)) (w : World) :
    Calls Try.prog 14 #[.agg #[.string ⟨p.data.toArray⟩, .int .i64 p.rd, .int .i64 p.wr, .int .i64 p.cap], .string S] w fun e w' => e = .returned (.tuple #[.agg #[.string ⟨q.data.toArray⟩, .int .i64 q.rd, .int .i64 q.wr, .int .i64 q.cap], .int .i64 k, .int .i64 er]) ∧ Below w.heap.size w w' := by
  obtain ⟨g1, g2, g3, g4, g5, g6, g7⟩ := fit_pip.1 hF
  obtain ⟨D, hD⟩ : ∃ D : ByteArray, D = ⟨p.data.toArray⟩ := ⟨_, rfl⟩
  obtain ⟨hDl, hDs⟩ := data_text hD
  have hSs : S.data.toList.length = S.size := Array.length_toList
  have HD := Lib.hid hD
  rw [← hD]
  clear hD hF
  have HEND := Lib.hid (two_below w)
  unfold writePip at hz
  by_cases h1 : p.rd = 0
  · rw [if_pos h1] at hz
    simp only [Prod.mk.injEq] at hz
    obtain ⟨rfl, rfl, rfl⟩ := hz
    have hd1 : decide (p.rd < 1) = true := decide_eq_true (by omega)
    rw [← HD.out]
    clear hDl hDs g1 g2 h1
    go_enter Try.func14, Try.ntmps14
    go_wp2_with fail
    exact bodyPost_ret (v := (.tuple #[.agg #[.string D, .int .i64 p.rd, .int .i64 p.wr, .int .i64 p.cap], .int .i64 0, .int .i64 32])) (by simp [results, Try.results14, go_sem]) rfl ⟨rfl, HEND.out _ _⟩
  have hd1 : decide (p.rd < 1) = false := decide_eq_false (by omega)
  rw [if_neg h1] at hz
  by_cases he : S.data.toList = []
  · rw [if_pos he] at hz
    simp only [Prod.mk.injEq] at hz
    obtain ⟨rfl, rfl, rfl⟩ := hz
    have hS0 := text_nil he
    subst hS0
    rw [← HD.out]
    clear hDl hDs g1 g2 h1 he hS hSs
    go_enter Try.func14, Try.ntmps14
    go_wp2_with fail
    exact bodyPost_ret (v := (.tuple #[.agg #[.string D, .int .i64 p.rd, .int .i64 p.wr, .int .i64 p.cap], .int .i64 0, .int .i64 0])) (by simp [results, Try.results14, go_sem]) rfl ⟨rfl, HEND.out _ _⟩
  rw [if_neg he] at hz
  obtain ⟨hpl, hpe⟩ := text_no he
  have hwr : IntKind.i64.wrap (p.cap - (D.size : Int)) = p.cap - (D.size : Int) := by rw [IntKind.wrap_i64]; omega
  by_cases h2 : p.cap - (p.data.length : Int) = 0
  · rw [if_pos h2] at hz
    simp only [Prod.mk.injEq] at hz
    obtain ⟨rfl, rfl, rfl⟩ := hz
    have hd2 : decide (p.cap ≤ (D.size : Int)) = true := decide_eq_true (by omega)
    have hd3 : (p.cap - (D.size : Int) == 0) = true := by rw [hDs]; simpa using h2
    rw [← HD.out]
    clear hDl hDs g1 g2 g3 g4 g5 g6 g7 h1 h2 he hS hSs
    go_enter Try.func14, Try.ntmps14
    go_wp2_with fail
    exact bodyPost_ret (v := (.tuple #[.agg #[.string D, .int .i64 p.rd, .int .i64 p.wr, .int .i64 p.cap], .int .i64 0, .int .i64 11])) (by simp [results, Try.results14, go_sem]) rfl ⟨rfl, HEND.out _ _⟩
  · rw [if_neg h2] at hz
    simp only [Prod.mk.injEq] at hz
    obtain ⟨rfl, rfl, rfl⟩ := hz
    have hd2 : decide (p.cap ≤ (D.size : Int)) = false := decide_eq_false (by omega)
    have hd3 : (p.cap - (D.size : Int) == 0) = false := by rw [hDs]; simpa using h2
    obtain ⟨K, hK⟩ : ∃ K : Nat, (K : Int) = min (S.size : Int) (p.cap - (D.size : Int)) := ⟨(min (S.size : Int) (p.cap - (D.size : Int))).toNat, by omega⟩
    have hKS : K ≤ S.size := by omega
    obtain ⟨E, hE⟩ : ∃ E : ByteArray, E = ⟨(S.data.toList.take K).toArray⟩ := ⟨_, rfl⟩
    have c2 := fun W => slice_hi S (min (S.size : Int) (p.cap - (D.size : Int))) K hK.symm hKS W
    rw [← hE] at c2
    obtain ⟨hEl, hEs⟩ : E.data.toList = S.data.toList.take K ∧ E.size = K := by
      have e : E.data.toList = S.data.toList.take K := by rw [hE]
      have e2 : E.data.toList.length = E.size := Array.length_toList
      exact ⟨e, by rw [← e2, e, List.length_take]; omega⟩
    have hsum : ¬ 9223372036854775807 < D.size + E.size := by omega
    have hfin : D ++ E = ⟨(p.data ++ S.data.toList.take (p.cap - (p.data.length : Int)).toNat).toArray⟩ := by
      apply ByteArray.ext
      apply Array.ext'
      have e1 : (D ++ E).data.toList = D.data.toList ++ E.data.toList := by simp
      have e2 : S.data.toList.take K = S.data.toList.take (p.cap - (p.data.length : Int)).toNat := by
        rw [List.take_eq_take_iff]
        omega
      rw [e1, hDl, hEl, e2]
    have hk2 : min (S.size : Int) (p.cap - (D.size : Int)) = min (p.cap - (p.data.length : Int)) (S.data.toList.length : Int) := by (rw [hSs, hDs]) <;> omega
    have HF := Lib.hid (And.intro hfin hk2)
    clear hDl hDs g1 g2 g3 g4 g5 g6 g7 h1 h2 he hS hSs hK hKS hE hEl hEs hfin hk2
    go_enter Try.func14, Try.ntmps14
    go_wp2_with fail
    go_region
    go_wp2_with fail
    exact bodyPost_ret (v := (.tuple #[.agg #[.string (D ++ E), .int .i64 p.rd, .int .i64 p.wr, .int .i64 p.cap], .int .i64 (min (S.size : Int) (p.cap - (D.size : Int))), .int .i64 0])) (by simp [results, Try.results14, go_sem]) rfl ⟨by rw [HF.out.1, HF.out.2], (HEND.out _ _).drew⟩

set_option maxHeartbeats 4000000 in
theorem rwrite8 (p : Pip) (hF : fitPip p = true) (S : ByteArray) (hS : S.size ≤ 281474976710656) (q : Pip) (k er : Int) (hz : writePip p S.data.toList = (q, k, er)) (w : World) :
    Calls Try.prog 15 #[.agg #[.string ⟨p.data.toArray⟩, .int .i64 p.rd, .int .i64 p.wr, .int .i64 p.cap], .string S] w fun e w' => e = .returned (.tuple #[.agg #[.string ⟨q.data.toArray⟩, .int .i64 q.rd, .int .i64 q.wr, .int .i64 q.cap], .int .i64 k, .int .i64 er]) ∧ Below w.heap.size w w' := by
  obtain ⟨g1, g2, g3, g4, g5, g6, g7⟩ := fit_pip.1 hF
  obtain ⟨D, hD⟩ : ∃ D : ByteArray, D = ⟨p.data.toArray⟩ := ⟨_, rfl⟩
  obtain ⟨hDl, hDs⟩ := data_text hD
  have hSs : S.data.toList.length = S.size := Array.length_toList
  have HD := Lib.hid hD
  rw [← hD]
  clear hD hF
  have HEND := Lib.hid (two_below w)
  unfold writePip at hz
  by_cases h1 : p.rd = 0
  · rw [if_pos h1] at hz
    simp only [Prod.mk.injEq] at hz
    obtain ⟨rfl, rfl, rfl⟩ := hz
    have hd1 : (p.rd == 0) = true := by simpa using h1
    rw [← HD.out]
    clear hDl hDs g1 g2 h1
    go_enter Try.func15, Try.ntmps15
    go_wp2_with fail
    exact bodyPost_ret (v := (.tuple #[.agg #[.string D, .int .i64 p.rd, .int .i64 p.wr, .int .i64 p.cap], .int .i64 0, .int .i64 32])) (by simp [results, Try.results15, go_sem]) rfl ⟨rfl, HEND.out _ _⟩
  have hd1 : (p.rd == 0) = false := by simpa using h1
  rw [if_neg h1] at hz
  by_cases he : S.data.toList = []
  · rw [if_pos he] at hz
    simp only [Prod.mk.injEq] at hz
    obtain ⟨rfl, rfl, rfl⟩ := hz
    have hS0 := text_nil he
    subst hS0
    rw [← HD.out]
    clear hDl hDs g1 g2 h1 he hS hSs
    go_enter Try.func15, Try.ntmps15
    go_wp2_with fail
    exact bodyPost_ret (v := (.tuple #[.agg #[.string D, .int .i64 p.rd, .int .i64 p.wr, .int .i64 p.cap], .int .i64 0, .int .i64 0])) (by simp [results, Try.results15, go_sem]) rfl ⟨rfl, HEND.out _ _⟩
  rw [if_neg he] at hz
  obtain ⟨hpl, hpe⟩ := text_no he
  have hwr : IntKind.i64.wrap (p.cap - (D.size : Int)) = p.cap - (D.size : Int) := by rw [IntKind.wrap_i64]; omega
  by_cases h2 : p.cap - (p.data.length : Int) = 0
  · rw [if_pos h2] at hz
    simp only [Prod.mk.injEq] at hz
    obtain ⟨rfl, rfl, rfl⟩ := hz
    have hd2 : decide (p.cap ≤ (D.size : Int)) = true := decide_eq_true (by omega)
    have hd3 : (p.cap - (D.size : Int) == 0) = true := by rw [hDs]; simpa using h2
    rw [← HD.out]
    clear hDl hDs g1 g2 g3 g4 g5 g6 g7 h1 h2 he hS hSs
    go_enter Try.func15, Try.ntmps15
    go_wp2_with fail
    exact bodyPost_ret (v := (.tuple #[.agg #[.string D, .int .i64 p.rd, .int .i64 p.wr, .int .i64 p.cap], .int .i64 0, .int .i64 11])) (by simp [results, Try.results15, go_sem]) rfl ⟨rfl, HEND.out _ _⟩
  · rw [if_neg h2] at hz
    simp only [Prod.mk.injEq] at hz
    obtain ⟨rfl, rfl, rfl⟩ := hz
    have hd2 : decide (p.cap ≤ (D.size : Int)) = false := decide_eq_false (by omega)
    have hd3 : (p.cap - (D.size : Int) == 0) = false := by rw [hDs]; simpa using h2
    obtain ⟨K, hK⟩ : ∃ K : Nat, (K : Int) = min (p.cap - (D.size : Int)) (S.size : Int) := ⟨(min (p.cap - (D.size : Int)) (S.size : Int)).toNat, by omega⟩
    have hKS : K ≤ S.size := by omega
    obtain ⟨E, hE⟩ : ∃ E : ByteArray, E = ⟨(S.data.toList.take K).toArray⟩ := ⟨_, rfl⟩
    have c2 := fun W => slice_hi S (min (p.cap - (D.size : Int)) (S.size : Int)) K hK.symm hKS W
    rw [← hE] at c2
    obtain ⟨hEl, hEs⟩ : E.data.toList = S.data.toList.take K ∧ E.size = K := by
      have e : E.data.toList = S.data.toList.take K := by rw [hE]
      have e2 : E.data.toList.length = E.size := Array.length_toList
      exact ⟨e, by rw [← e2, e, List.length_take]; omega⟩
    have hsum : ¬ 9223372036854775807 < D.size + E.size := by omega
    have hfin : D ++ E = ⟨(p.data ++ S.data.toList.take (p.cap - (p.data.length : Int)).toNat).toArray⟩ := by
      apply ByteArray.ext
      apply Array.ext'
      have e1 : (D ++ E).data.toList = D.data.toList ++ E.data.toList := by simp
      have e2 : S.data.toList.take K = S.data.toList.take (p.cap - (p.data.length : Int)).toNat := by
        rw [List.take_eq_take_iff]
        omega
      rw [e1, hDl, hEl, e2]
    have hk2 : min (p.cap - (D.size : Int)) (S.size : Int) = min (p.cap - (p.data.length : Int)) (S.data.toList.length : Int) := by (rw [hSs, hDs]) <;> omega
    have HF := Lib.hid (And.intro hfin hk2)
    clear hDl hDs g1 g2 g3 g4 g5 g6 g7 h1 h2 he hS hSs hK hKS hE hEl hEs hfin hk2
    go_enter Try.func15, Try.ntmps15
    go_wp2_with fail
    go_region
    go_wp2_with fail
    exact bodyPost_ret (v := (.tuple #[.agg #[.string (D ++ E), .int .i64 p.rd, .int .i64 p.wr, .int .i64 p.cap], .int .i64 (min (p.cap - (D.size : Int)) (S.size : Int)), .int .i64 0])) (by simp [results, Try.results15, go_sem]) rfl ⟨by rw [HF.out.1, HF.out.2], (HEND.out _ _).drew⟩

end Go.Proofs.Ytopgmboilimlhaa
