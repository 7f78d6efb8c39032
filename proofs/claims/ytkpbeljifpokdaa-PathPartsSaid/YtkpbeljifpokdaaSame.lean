/-
  The reference's Same: are two rows of texts the same?
-/
import Derived.Test.YtkpbeljifpokdaaPathRef5
import Derived.Deep.QuietTactic
import Derived.BigQuiet
namespace Go.Proofs.Ytkpbeljifpokdaa
open Go Go.RowKit

def SRel (n : Nat) (L1 L2 : List (List UInt8)) (w0 : World) (i : Value) (wr : World) : Prop :=
  ∃ k : Nat, k ≤ n ∧ i = .int .i64 k ∧ L1.take k = L2.take k ∧ Below w0.heap.size w0 wr

theorem take_same (L1 L2 : List (List UInt8)) (k : Nat) (h1 : k < L1.length) (h2 : k < L2.length) (h : L1.take k = L2.take k) (he : L1[k] = L2[k]) : L1.take (k + 1) = L2.take (k + 1) := by
  rw [List.take_succ_eq_append_getElem h1, List.take_succ_eq_append_getElem h2, h, he]

theorem same_bytes (x y : ByteArray) (h : (x.toList == y.toList) = true) : x.data.toList = y.data.toList := by
  rw [ByteArray.toList_eq, ByteArray.toList_eq] at h
  exact beq_iff_eq.1 h
theorem diff_bytes (x y : ByteArray) (h : (x.toList == y.toList) = false) : x.data.toList ≠ y.data.toList := by
  rw [ByteArray.toList_eq, ByteArray.toList_eq] at h
  exact beq_eq_false_iff_ne.1 h

set_option maxHeartbeats 2000000 in
theorem rsame_any (L1 L2 : List (List UInt8)) (B1 B2 : Nat) (v1 v2 : Value) (w : World) (hT1 : Texts B1 w v1 L1) (hT2 : Texts B2 w v2 L2) :
    Calls Try.prog 10 #[v1, v2] w fun e w' => e = .returned (.bool (decide (L1 = L2))) ∧ Below w.heap.size w w' := by
  obtain ⟨a1, c1, rfl, hc1, hm1⟩ := hT1.slot
  obtain ⟨a2, c2, rfl, hc2, hm2⟩ := hT2.slot
  have HT1 := Lib.hid hT1
  have HT2 := Lib.hid hT2
  clear hT1 hT2
  unfold maxLen at hm1 hm2
  by_cases hlen : L1.length = L2.length
  · rw [← hlen]
    have HL := Lib.hid hlen
    have hc2' : L1.length ≤ c2 := by omega
    clear hlen hc2
    go_enter Try.func10, Try.ntmps10
    go_wp2_with fail
    go_loopw [5] (fun i wr => SRel L1.length L1 L2 w i wr) (fun i _ => L1.length - (intOf i).toNat)
    case atStart => exact ⟨0, by omega, rfl, by simp, Below.refl _ _⟩
    case round =>
      obtain ⟨k, hk, rfl, ht, hb⟩ := hrel
      have HTK := Lib.hid ht
      have HB := Lib.hid hb
      clear ht hb
      by_cases hlt : k < L1.length
      · have hlt2 : k < L2.length := by have := HL.out; omega
        obtain ⟨x1, hx1⟩ : ∃ xs : ByteArray, xs = ⟨L1[k].toArray⟩ := ⟨_, rfl⟩
        obtain ⟨x2, hx2⟩ : ∃ xs : ByteArray, xs = ⟨L2[k].toArray⟩ := ⟨_, rfl⟩
        have HX1 := Lib.hid (show x1.data.toList = L1[k] by rw [hx1])
        have HX2 := Lib.hid (show x2.data.toList = L2[k] by rw [hx2])
        obtain ⟨g1, rfl, hy1⟩ : ∃ g, a1 = some ⟨g, 0, none⟩ ∧ wr.cell? ⟨g, k, none⟩ = some (.string x1) := by
          rcases HT1.out.forms with ⟨hv, hn⟩ | ⟨g, cap, hv, hB, hg, -, -, hcell⟩
          · rw [hn] at hlt; simp at hlt
          · simp only [Value.slice.injEq] at hv
            refine ⟨g, hv.1, ?_⟩
            rw [HB.out.cell (p := ⟨g, k, none⟩) hg, hcell k hlt, hx1]
            rfl
        obtain ⟨g2, rfl, hy2⟩ : ∃ g, a2 = some ⟨g, 0, none⟩ ∧ wr.cell? ⟨g, k, none⟩ = some (.string x2) := by
          rcases HT2.out.forms with ⟨hv, hn⟩ | ⟨g, cap, hv, hB, hg, -, -, hcell⟩
          · rw [hn] at hlt2; simp at hlt2
          · simp only [Value.slice.injEq] at hv
            refine ⟨g, hv.1, ?_⟩
            rw [HB.out.cell (p := ⟨g, k, none⟩) hg, hcell k hlt2, hx2]
            rfl
        clear hx1 hx2
        have b1 : (0 : Int) ≤ (k : Int) := by omega
        have b2 : (k : Int) < (L1.length : Int) := by omega
        cases he : (x1.toList == x2.toList) with
        | true =>
          have HE := Lib.hid (take_same L1 L2 k hlt hlt2 HTK.out (HX1.out.symm.trans ((same_bytes x1 x2 he).trans HX2.out)))
          go_wp2_with fail
          go_quiet (fail)
          go_wp2_with fail
          go_roundw
          case rel => exact ⟨k + 1, by omega, by go_num, HE.out, HB.out.trans ⟨rfl, rfl, rfl, Nat.le_refl _, fun _ _ => rfl⟩⟩
          case measure => simp [intOf] <;> omega
        | false =>
          have hne : ¬ L1 = L2 := fun e => diff_bytes x1 x2 he (HX1.out.trans (Eq.trans (by congr 1) HX2.out.symm))
          have HN := Lib.hid (decide_eq_false hne)
          clear hne
          go_wp2_with fail
          go_quiet (fail)
          go_wp2_with fail
          go_ret
          exact ⟨by rw [HN.out]; rfl, HB.out.trans ⟨rfl, rfl, rfl, Nat.le_refl _, fun _ _ => rfl⟩⟩
      · obtain rfl : k = L1.length := by omega
        have HN := Lib.hid (decide_eq_true (p := L1 = L2) (by have h := HTK.out; rw [List.take_length, HL.out, List.take_length] at h; exact h))
        go_wp2_with fail
        go_ret
        exact ⟨by rw [HN.out]; rfl, HB.out⟩
  · have hd : ((L1.length : Int) == (L2.length : Int)) = false := by rw [beq_eq_false_iff_ne]; omega
    have HN := Lib.hid (decide_eq_false (p := L1 = L2) (fun e => hlen (by rw [e])))
    clear hlen
    go_enter Try.func10, Try.ntmps10
    go_wp2_with fail
    go_ret
    exact ⟨by rw [HN.out]; rfl, Below.refl _ _⟩
end Go.Proofs.Ytkpbeljifpokdaa
