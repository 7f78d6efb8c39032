/-
  The document's own operators.
-/
import Derived.Test.YtclhpedecimicaaDoorZRef
namespace Go.Proofs.YtclhpedecimicaaDoor
set_option maxRecDepth 100000
open Go Go.RowKit

set_option maxHeartbeats 4000000 in
theorem ropsZ (w : World) : Calls Tryd.prog 27 #[] w fun e w' => e = .returned (.slice (some ⟨w.heap.size, 0, none⟩) 35 35) ∧ w' = w.alloc (.cells opsC.toArray 9) := by
  go_enter Tryd.func27, Tryd.ntmps27
  go_wp2
  go_ret
  exact ⟨rfl, rfl⟩

theorem drewN_belowZ {B : Nat} {w W : World} (h : Below B w W) (m : Nat) : Below B w (W.drewN m) := ⟨h.os, h.tape, h.output, h.size, h.block⟩
theorem sub_str (s : ByteArray) (i k : Nat) : (s.extract i (i + k)) = ⟨((s.data.toList.drop i).take k).toArray⟩ := by
  have h : (s.extract i (i + k)).data.toList = (s.data.toList.drop i).take k := by
    rw [ByteArray.data_extract, Array.toList_extract, List.extract_eq_take_drop, show i + k - i = k by omega]
  rw [← h, sv_data]
theorem pre_take {l o : List UInt8} (h : Lib.hasPrefix l o = true) : l.take o.length = o := (List.prefix_iff_eq_take.1 (List.isPrefixOf_iff_prefix.1 h)).symm
theorem pre_not {l o : List UInt8} (h : Lib.hasPrefix l o = false) : l.take o.length ≠ o := by
  intro e
  have : o <+: l := by rw [← e]; exact List.take_prefix _ _
  have h2 : Lib.hasPrefix l o = true := List.isPrefixOf_iff_prefix.2 this
  rw [h] at h2; cases h2

set_option maxHeartbeats 8000000 in
theorem ropZ (s : ByteArray) (i : Nat) (hs : s.size ≤ 1000000) (hi : i ≤ s.size) (w : World) :
    Calls Tryd.prog 18 #[.string s, .int .i64 (i : Int)] w fun e w' => e = .returned (sv (opZ (s.data.toList.drop i))) ∧ Below w.heap.size w w' := by
  have hnb := new_block w (.cells opsC.toArray 9)
  have hbb := below_box w (.cells opsC.toArray 9)
  obtain ⟨w1, hw1⟩ : ∃ w1, w1 = w.alloc (.cells opsC.toArray 9) := ⟨_, rfl⟩
  have C0 : ∀ W, W = w → Calls Tryd.prog 27 #[] W fun e w' => e = .returned (.slice (some ⟨w.heap.size, 0, none⟩) 35 35) ∧ w' = w1 := fun W hW => by subst hW; rw [hw1]; exact ropsZ W
  rw [← hw1] at hnb hbb
  have HN := Lib.hid (show ∀ W, Below w1.heap.size w1 W → ∀ k o, opsZ[k]? = some o → W.cell? ⟨w.heap.size, k, none⟩ = some (sv o) from fun W hb k o ho => by
    have h := (hb.block w.heap.size (lt_of_block hnb)).trans hnb
    rw [blk_cell h k, List.getElem?_toArray]
    exact ops_val ho)
  have HBB := Lib.hid hbb
  clear hnb hbb hw1
  go_enter Tryd.func18, Tryd.ntmps18
  go_wp2_with fail
  refine (C0 _ rfl).mono ?_
  rintro e w2 ⟨rfl, rfl⟩
  clear C0
  go_wp2_with fail
  go_loopw [6] (fun iv wr => ∃ k : Nat, k ≤ 35 ∧ iv = .int .i64 k ∧ Hid (Below w2.heap.size w2 wr) ∧ Hid (∀ j y, j < k → opsZ[j]? = some y → Lib.hasPrefix (s.data.toList.drop i) y = false)) (fun iv _ => 35 - (intOf iv).toNat)
  case atStart => exact ⟨0, by omega, rfl, Lib.hid (Below.refl _ _), Lib.hid (fun j y hj => absurd hj (Nat.not_lt_zero _))⟩
  case round =>
    obtain ⟨k, hk, rfl, HB, hn⟩ := hrel
    by_cases hlt : k < 35
    · obtain ⟨o, ho⟩ : ∃ o, opsZ[k]? = some o := ⟨_, List.getElem?_eq_getElem (by rw [ops_len]; exact hlt)⟩
      have hc := HN.out _ HB.out k o ho
      have hk1 : (k : Int) < 35 := by omega
      have hk0 : (0 : Int) ≤ (k : Int) := by omega
      have hol : o.length ≤ 3 := by
        have : ∀ y ∈ opsZ, y.length ≤ 3 := by decide
        exact this o (List.mem_of_getElem? ho)
      have hw : IntKind.i64.wrap ((i : Int) + (o.length : Int)) = (i : Int) + (o.length : Int) := by rw [IntKind.wrap_i64]; omega
      have hb0 : (0 : Int) ≤ (i : Int) := by omega
      have hb1 : (i : Int) ≤ (i : Int) + (o.length : Int) := by omega
      have htn : ((i : Int) + (o.length : Int)).toNat = i + o.length := by omega
      cases hp : Lib.hasPrefix (s.data.toList.drop i) o with
      | true =>
        have HE := Lib.hid (op_at hn.out ho hp)
        have hle : o.length ≤ s.size - i := by
          have := (List.isPrefixOf_iff_prefix.1 hp).length_le
          rw [List.length_drop, size_data] at this
          exact this
        have hle2 : (i : Int) + (o.length : Int) ≤ (s.size : Int) := by omega
        have hx : s.extract i (i + o.length) = ⟨o.toArray⟩ := by rw [sub_str, pre_take hp]
        have ho0 := sv_size o
        clear ho hp
        go_wp2_with fail
        go_quiet (fail)
        go_wp2_with fail
        go_ret
        exact ⟨by rw [HE.out]; rfl, HBB.out.trans ((drewN_belowZ HB.out _).mono HBB.out.size)⟩
      | false =>
        have HN2 := Lib.hid (show ∀ j y, j < k + 1 → opsZ[j]? = some y → Lib.hasPrefix (s.data.toList.drop i) y = false from fun j y hj hy => by
          by_cases e : j = k
          · subst e
            rw [ho] at hy
            cases hy
            exact hp
          · exact hn.out j y (by omega) hy)
        have ho0 := sv_size o
        by_cases hle2 : (i : Int) + (o.length : Int) ≤ (s.size : Int)
        · obtain ⟨E, hE⟩ : ∃ E, E = s.extract i (i + o.length) := ⟨_, rfl⟩
          have hx := hE.symm
          have hne : E.toList ≠ o := by
            rw [ByteArray.toList_eq, hE, sub_str]
            exact pre_not hp
          have hbo : (⟨o.toArray⟩ : ByteArray).toList = o := by rw [ByteArray.toList_eq]
          have hbe : (E.toList == o) = false := by rw [beq_eq_false_iff_ne]; exact hne
          clear ho hp hE
          go_wp2_with fail
          go_quiet (fail)
          go_wp2_with fail
          go_roundw
          case rel => exact ⟨k + 1, by omega, by go_num, Lib.hid (drewN_belowZ HB.out _), HN2⟩
          case measure => simp only [intOf]; omega
        · have hdc : decide ((i : Int) + (o.length : Int) ≤ (s.size : Int)) = false := decide_eq_false hle2
          clear ho hp
          go_wp2_with fail
          go_quiet (fail)
          go_wp2_with fail
          go_roundw
          case rel => exact ⟨k + 1, by omega, by go_num, Lib.hid (drewN_belowZ HB.out _), HN2⟩
          case measure => simp only [intOf]; omega
    · have hk2 : k = 35 := by omega
      subst hk2
      have HE := Lib.hid (op_no (l := s.data.toList.drop i) (fun j y hy => hn.out j y (by have := (List.getElem?_eq_some_iff.1 hy).1; rw [ops_len] at this; exact this) hy))
      go_wp2_with fail
      go_ret
      exact ⟨by rw [HE.out]; rfl, HBB.out.trans (HB.out.mono HBB.out.size)⟩
end Go.Proofs.YtclhpedecimicaaDoor
