/-
  The reference's ends, walked: for each length whether so many first bytes are as wanted.
-/
import Derived.BigRegion
import Derived.Test.YtfldhggmgepcjaaERows
import Derived.Test.YtfldhggmgepcjaaQLengths
namespace Go.Proofs.Ytfldhggmgepcjaa
set_option maxRecDepth 100000
open Go Go.RowKit

theorem st_rep {x : Wt} (h : x.rep = true) (c : UInt8) : x.st c = false := by unfold Wt.st; rw [if_pos h]
theorem st_not {x : Wt} (h : x.rep = false) (c : UInt8) : x.st c = x.tk c := by unfold Wt.st; rw [if_neg (by simp [h])]
theorem wC_head (x : Wt) : (wC x)[0]? = some (.bool x.rep) := rfl
/-- The cells of a row of wants. -/
structure WantRow (w : World) (oa : Option Addr) (r : List Wt) : Prop where
  at_ : ∀ i x, r[i]? = some x → ∃ g, oa = some ⟨g, 0, none⟩ ∧ g < w.heap.size ∧ ∀ j v, (wC x)[j]? = some v → w.cell? ⟨g, i * 257 + j, none⟩ = some v
theorem want_row {w : World} {B : Nat} {oa : Option Addr} {oc : Nat} {r : List Wt} (h : w.ownsRow B 58 257 (.slice oa r.length oc) r.length (flatW r)) : WantRow w oa r := by
  refine ⟨fun i x hx => ?_⟩
  have hir := (List.getElem?_eq_some_iff.1 hx).1
  rcases h.2 with ⟨h1, h2⟩ | ⟨g, cap, cur, hv, hg, hb, h1, h2, h3, h4⟩
  · omega
  · simp only [Value.slice.injEq] at hv
    obtain ⟨rfl, -, rfl⟩ := hv
    refine ⟨g, rfl, lt_of_block hb, fun j v hj => ?_⟩
    have hj2 : j < 257 := by
      have := (List.getElem?_eq_some_iff.1 hj).1
      simpa only [wC, wantC_len] using this
    have hf := flatW_get r i j x hx hj2
    rw [hj, ← h4] at hf
    have hlt : i * 257 + j < r.length * 257 := by omega
    rw [List.getElem?_take_of_lt hlt] at hf
    simp only [World.cell?, hb]
    simpa using hf
theorem WantRow.below {w W : World} {oa : Option Addr} {r : List Wt} (h : WantRow w oa r) (hb : Below w.heap.size w W) : WantRow W oa r := ⟨fun i x hx => by
  obtain ⟨g, h1, h2, h3⟩ := h.at_ i x hx
  exact ⟨g, h1, Nat.lt_of_lt_of_le h2 hb.size, fun j v hj => cell_below hb (h3 j v hj)⟩⟩

def EB (r : List Wt) (s : List UInt8) (k : Nat) : Bool := decide (Mat r (s.take k))
theorem eb_rep_zero (r : List Wt) {x : Wt} (h : x.rep = true) (s : List UInt8) : EB (r ++ [x]) s 0 = EB r s 0 := by
  unfold EB; rw [decide_eq_decide]; exact mat_rep_nil r h
theorem take_add1 {s : List UInt8} {k : Nat} {c : UInt8} (h : s[k]? = some c) : s.take (k + 1) = s.take k ++ [c] := by
  obtain ⟨h1, h2⟩ := List.getElem?_eq_some_iff.1 h
  rw [List.take_succ_eq_append_getElem h1, h2]
theorem eb_rep_next (r : List Wt) {x : Wt} (h : x.rep = true) {s : List UInt8} {k : Nat} {c : UInt8} (hk : s[k]? = some c) : EB (r ++ [x]) s (k + 1) = (EB r s (k + 1) || EB (r ++ [x]) s k) := by
  unfold EB; rw [take_add1 hk, ← Bool.decide_or, decide_eq_decide]; exact mat_rep_snoc r h _ c
theorem eb_not_zero (r : List Wt) {x : Wt} (h : x.rep = false) (s : List UInt8) : EB (r ++ [x]) s 0 = false := by
  unfold EB; rw [decide_eq_false_iff_not]; exact mat_not_nil r h
theorem eb_not_next (r : List Wt) {x : Wt} (h : x.rep = false) {s : List UInt8} {k : Nat} {c : UInt8} (hk : s[k]? = some c) : EB (r ++ [x]) s (k + 1) = (EB r s k && x.tk c) := by
  unfold EB; rw [take_add1 hk, ← Bool.decide_eq_true (b := x.tk c), ← Bool.decide_and, decide_eq_decide]; exact mat_not_snoc r h _ c
theorem fit_at {r : List Wt} {s : List UInt8} {k : Nat} (h : k ≤ s.length) : (fitsV r s)[k]? = some (.bool (EB r s k)) := by
  unfold fitsV
  rw [List.getElem?_map, List.getElem?_range (by omega)]; rfl
theorem fit_put {r : List Wt} {s : List UInt8} {m : Nat} {l : List Value} (h : FitR r s m l) (hm : m ≤ s.length) {b : Bool} (hb : EB r s m = b) : FitR r s (m + 1) (l.set m (.bool b)) := fit_next h hm (by rw [← hb]; unfold EB; exact decide_eq_true_iff)
theorem fit_nil (s : List UInt8) : (List.replicate (s.length + 1) (Value.bool false)).set 0 (.bool true) = fitsV [] s := by
  have h1 := fit_put (fit_start [] s) (Nat.zero_le _) (b := true) (by unfold EB; rw [decide_eq_true_iff]; rfl)
  refine fit_end h1 fun i h2 h3 h4 => ?_
  have := congrArg List.length (show s.take i = [] from h4)
  rw [List.length_take, List.length_nil] at this
  omega
theorem wants_take {r : List Wt} {i : Nat} {x : Wt} (h : r[i]? = some x) : r.take (i + 1) = r.take i ++ [x] := take_wt r i x h

set_option maxHeartbeats 16000000 in
theorem rends10 (w : World) (oa : Option Addr) (oc : Nat) (r : List Wt) (hrl : r.length ≤ 100000) (hO : WantRow w oa r) (s : ByteArray) (hs : s.size ≤ 100000) :
    Calls Try.prog 14 #[.slice oa r.length oc, .string s] w (LenAns w r s.data.toList) := by
  have HSL := Lib.hid (size_data s)
  have hmk := fun (W : World) => run_make_bools W ((s.size : Int) + 1) (s.size + 1) (by omega) (by omega)
  have HO := Lib.hid hO
  have HCH := Lib.hid (fun (k : Nat) (h : k < s.size) => show s.data.toList[k]? = some s[k] from by
    rw [List.getElem?_eq_getElem (by rw [size_data]; exact h)]; rfl)
  clear hO
  obtain ⟨n, hn⟩ : ∃ n, n = r.length := ⟨_, rfl⟩
  rw [← hn] at hrl ⊢
  have HN := Lib.hid hn
  obtain ⟨G, hG⟩ : ∃ G, G = w.heap.size := ⟨_, rfl⟩
  have hrow : RowAt (w.alloc (.cells (List.replicate (s.size + 1) (.bool false)).toArray 4)) G (List.replicate (s.size + 1) (.bool false)) 4 := by rw [hG]; exact new_block _ _
  have hb0 := below_box w (.cells (List.replicate (s.size + 1) (.bool false)).toArray 4)
  obtain ⟨w1, hw1⟩ : ∃ w1, w1 = w.alloc (.cells (Array.replicate (s.size + 1) (.bool false)) 4) := ⟨_, rfl⟩
  rw [List.toArray_replicate, ← hw1] at hrow hb0
  have hc0 := hrow.cell (show (List.replicate (s.size + 1) (Value.bool false))[0]? = some (.bool false) by rw [List.getElem?_replicate, if_pos (by omega)])
  have hf0 := hrow.free 0
  have hlk := hrow.lt
  have HR1 := Lib.hid (show RowAt (w1.setCell ⟨G, 0, none⟩ (.bool true)) G (fitsV (r.take 0) s.data.toList) 4 by
    have h := hrow.set 0 (.bool true)
    rw [← HSL.out, fit_nil] at h
    exact h)
  have HB1 := Lib.hid (show Below w.heap.size w (w1.setCell ⟨G, 0, none⟩ (.bool true)) from hb0.setCell (show w.heap.size ≤ G by rw [hG]; exact Nat.le_refl _) _)
  have hGe : w.heap.size = G := hG.symm
  have HGE := Lib.hid hGe
  have HW1 := Lib.hid hw1
  have hs0 : (0 : Int) < (s.size : Int) + 1 := by omega
  clear hrow hb0 hw1 hG hn
  go_enter Try.func14, Try.ntmps14
  go_upto_region 2 with fail
  rw [← HW1.out]
  clear hGe
  go_wp2_with fail
  clear hc0 hf0 hlk hs0
  go_loopw [5, 6] (fun v5 v6 wr => ∃ (i g1 : Nat), v6 = .int .i64 ((i : Nat) : Int) ∧ v5 = .slice (some ⟨g1, 0, none⟩) (s.size + 1) (s.size + 1) ∧ i ≤ n ∧ Hid (RowAt wr g1 (fitsV (r.take i) s.data.toList) 4) ∧ Hid (w.heap.size ≤ g1) ∧ Hid (Below w.heap.size w wr)) (fun _ v6 _ => n - (intOf v6).toNat)
  case atStart => exact ⟨0, G, rfl, rfl, Nat.zero_le _, HR1, by rw [HGE.out]; exact Nat.le_refl _, HB1⟩
  case round =>
    obtain ⟨i, g1, rfl, rfl, hi, HR, HG1, HB⟩ := hrel
    by_cases hlt : i < n
    · have hii : (i : Int) < (n : Int) := by omega
      have hi0 : (0 : Int) ≤ (i : Int) := by omega
      obtain ⟨x, hx⟩ : ∃ x, r[i]? = some x := ⟨r[i]'(by rw [← HN.out]; exact hlt), List.getElem?_eq_getElem _⟩
      obtain ⟨gw, rfl, hgw, hcw⟩ := HO.out.at_ i x hx
      have HGW := Lib.hid hgw
      have HCW := Lib.hid hcw
      have HTK := Lib.hid (wants_take hx)
      obtain ⟨R, hR⟩ : ∃ R, R = r.take i := ⟨_, rfl⟩
      rw [← hR] at HR HTK
      clear hx hgw hcw hR
      obtain ⟨g2, hg2⟩ : ∃ g2, g2 = wr.heap.size := ⟨_, rfl⟩
      have hrow2 : RowAt (wr.alloc (.cells (List.replicate (s.size + 1) (.bool false)).toArray 4)) g2 (List.replicate (s.size + 1) (.bool false)) 4 := by rw [hg2]; exact new_block _ _
      have hb2 := below_box wr (.cells (List.replicate (s.size + 1) (.bool false)).toArray 4)
      have HRN := Lib.hid hrow2
      have HRO := Lib.hid (HR.out.below hb2)
      have HBN := Lib.hid (below_two HB.out hb2)
      have HG2 := Lib.hid (show w.heap.size ≤ g2 by rw [hg2]; exact HB.out.size)
      have HNE := Lib.hid (show g1 ≠ g2 by have := HR.out.lt; omega)
      have HFS := Lib.hid (show FitR (R ++ [x]) s.data.toList 0 (List.replicate (s.size + 1) (.bool false)) by rw [← HSL.out]; exact fit_start _ _)
      have HG2E := Lib.hid hg2
      obtain ⟨w2, hw2⟩ : ∃ w2, w2 = wr.alloc (.cells (Array.replicate (s.size + 1) (.bool false)) 4) := ⟨_, rfl⟩
      rw [List.toArray_replicate, ← hw2] at HRN HRO HBN
      have HW2 := Lib.hid hw2
      clear hrow2 hb2 hw2 hg2
      go_upto_region 8 with fail
      rw [← HW2.out, ← HG2E.out]
      go_wp2_with fail
      go_loopw [8] (fun v8 wy => ∃ (k : Nat) (l : List Value), v8 = .int .i64 ((k : Nat) : Int) ∧ k ≤ s.size + 1 ∧ Hid (RowAt wy g2 l 4) ∧ Hid (FitR (R ++ [x]) s.data.toList k l) ∧ Hid (RowAt wy g1 (fitsV R s.data.toList) 4) ∧ Hid (Below w.heap.size w wy)) (fun v8 _ => s.size + 1 - (intOf v8).toNat)
      case atStart => exact ⟨0, _, rfl, by omega, HRN, HFS, HRO, HBN⟩
      case round =>
        obtain ⟨k, l, rfl, hk, HL, HF, HA, HBY⟩ := hrel
        by_cases hks : k ≤ s.size
        · have hki : (k : Int) ≤ (s.size : Int) := by omega
          have hk0 : (0 : Int) ≤ (k : Int) := by omega
          have hk1 : (k : Int) < (s.size : Int) + 1 := by omega
          have hcx := fun j v (h : (wC x)[j]? = some v) => cell_below (show Below w.heap.size w wr from HBY.out) (HCW.out j v h)
          have hc0 : wr.cell? ⟨gw, i * 257, none⟩ = some (.bool x.rep) := hcx 0 _ (wC_head x)
          obtain ⟨old, hold⟩ : ∃ v, l[k]? = some v := ⟨_, HF.out.2.2 k (Nat.le_refl _) (by rw [HSL.out]; exact hks)⟩
          have hck := HL.out.cell hold
          have hfk := HL.out.free k
          have hlk := HL.out.lt
          have HPUT := Lib.hid (fun (b : Bool) (hb : EB (R ++ [x]) s.data.toList k = b) => show FitR (R ++ [x]) s.data.toList (k + 1) (l.set k (.bool b)) from fit_put HF.out (by rw [HSL.out]; exact hks) hb)
          have HRK := Lib.hid (fun (b : Bool) => show RowAt (wr.setCell ⟨g2, k, none⟩ (.bool b)) g2 (l.set k (.bool b)) 4 from HL.out.set k _)
          have HAK := Lib.hid (fun (b : Bool) => show RowAt (wr.setCell ⟨g2, k, none⟩ (.bool b)) g1 (fitsV R s.data.toList) 4 from HA.out.other HNE.out k _)
          have HBK := Lib.hid (fun (b : Bool) => show Below w.heap.size w (wr.setCell ⟨g2, k, none⟩ (.bool b)) from HBY.out.setCell (show w.heap.size ≤ g2 from HG2.out) _)
          have hca := fun (j : Nat) (h : j ≤ s.size) => HA.out.cell (fit_at (r := R) (s := s.data.toList) (k := j) (by rw [HSL.out]; exact h))
          have hcn := hca k hks
          clear hold
          cases hrep : x.rep with
          | true =>
            rw [hrep] at hc0
            cases hb1 : EB R s.data.toList k with
            | true =>
              rw [hb1] at hcn
              have HV := Lib.hid (show EB (R ++ [x]) s.data.toList k = true by
                cases k with
                | zero => rw [eb_rep_zero R hrep, hb1]
                | succ k => rw [eb_rep_next R hrep (HCH.out k (by omega)), hb1]; rfl)
              clear hb1 hrep hca hcx
              go_wp2_with fail
              go_roundw
              case rel => exact ⟨k + 1, _, by simp, by omega, HRK.out true, HPUT.out true HV.out, HAK.out true, HBK.out true⟩
              case measure => simp only [intOf]; omega
            | false =>
              rw [hb1] at hcn
              by_cases hk2 : k = 0
              · subst hk2
                have HV := Lib.hid (show EB (R ++ [x]) s.data.toList 0 = false by rw [eb_rep_zero R hrep, hb1])
                clear hb1 hrep hca hcx
                go_wp2_with fail
                go_roundw
                case rel => exact ⟨1, _, by simp, by omega, HRK.out false, HPUT.out false HV.out, HAK.out false, HBK.out false⟩
                case measure => simp only [intOf]; omega
              · obtain ⟨j, rfl⟩ : ∃ j, k = j + 1 := ⟨k - 1, by omega⟩
                have hlj := HF.out.2.1 j (by omega)
                obtain ⟨b2, hb2⟩ : ∃ b2, b2 = EB (R ++ [x]) s.data.toList j := ⟨_, rfl⟩
                have hcj := HL.out.cell hlj
                rw [show decide (Mat (R ++ [x]) (s.data.toList.take j)) = b2 from hb2.symm] at hcj
                have HV := Lib.hid (show EB (R ++ [x]) s.data.toList (j + 1) = b2 by rw [eb_rep_next R hrep (HCH.out j (by omega)), hb1, Bool.false_or, hb2])
                have hj0 : (0 : Int) < ((j + 1 : Nat) : Int) := by omega
                have hj1 : ((j + 1 : Nat) : Int) - 1 = (j : Int) := by omega
                have hj2 : (j : Int) < (s.size : Int) + 1 := by omega
                have hj3 : (0 : Int) ≤ (j : Int) := by omega
                clear hb1 hrep hca hcx hlj hb2
                go_wp2_with fail
                go_roundw
                case rel => exact ⟨j + 1 + 1, _, by simp, by omega, HRK.out b2, HPUT.out b2 HV.out, HAK.out b2, HBK.out b2⟩
                case measure => simp only [intOf]; omega
          | false =>
            rw [hrep] at hc0
            by_cases hk2 : k = 0
            · subst hk2
              have HV := Lib.hid (show EB (R ++ [x]) s.data.toList 0 = false from eb_not_zero R hrep _)
              clear hrep hca hcx
              go_wp2_with fail
              go_region
              go_wp2_with fail
              go_roundw
              case rel => exact ⟨1, _, by simp, by omega, HRK.out false, HPUT.out false HV.out, HAK.out false, (HBK.out false).drew⟩
              case measure => simp only [intOf]; omega
            · obtain ⟨j, rfl⟩ : ∃ j, k = j + 1 := ⟨k - 1, by omega⟩
              have hjs : j < s.size := by omega
              have hcj := hca j (by omega)
              have hcs := hcx (1 + s[j].toNat) _ (wantC_get x.rep x.st s[j])
              rw [← Nat.add_assoc] at hcs
              obtain ⟨b2, hb2⟩ : ∃ b2, b2 = x.st s[j] := ⟨_, rfl⟩
              rw [← hb2] at hcs
              have HV0 := Lib.hid (show EB (R ++ [x]) s.data.toList (j + 1) = (EB R s.data.toList j && b2) by rw [eb_not_next R hrep (HCH.out j (by omega)), hb2, st_not hrep])
              have hj0 : (0 : Int) < ((j + 1 : Nat) : Int) := by omega
              have hj1 : ((j + 1 : Nat) : Int) - 1 = (j : Int) := by omega
              have hj2 : (j : Int) < (s.size : Int) + 1 := by omega
              have hj4 : (j : Int) < (s.size : Int) := by omega
              have hj3 : (0 : Int) ≤ (j : Int) := by omega
              have hcl : (s[j].toNat : Int) < 256 := by have := s[j].toNat_lt; omega
              cases hb1 : EB R s.data.toList j with
              | false =>
                rw [hb1] at hcj
                have HV := Lib.hid (show EB (R ++ [x]) s.data.toList (j + 1) = false by rw [HV0.out, hb1]; rfl)
                clear hb1 hrep hca hcx hb2 hcs
                go_wp2_with fail
                go_region
                go_wp2_with fail
                go_roundw
                case rel => exact ⟨j + 1 + 1, _, by simp, by omega, HRK.out false, HPUT.out false HV.out, HAK.out false, (HBK.out false).drew⟩
                case measure => simp only [intOf]; omega
              | true =>
                rw [hb1] at hcj
                have HV := Lib.hid (show EB (R ++ [x]) s.data.toList (j + 1) = b2 by rw [HV0.out, hb1]; rfl)
                clear hb1 hrep hca hcx hb2
                go_wp2_with fail
                go_region
                go_wp2_with fail
                go_roundw
                case rel => exact ⟨j + 1 + 1, _, by simp, by omega, HRK.out b2, HPUT.out b2 HV.out, HAK.out b2, (HBK.out b2).drew⟩
                case measure => simp only [intOf]; omega
        · have hki : ¬ (k : Int) ≤ (s.size : Int) := by omega
          have HE := Lib.hid (show l = fitsV (r.take (i + 1)) s.data.toList by rw [HTK.out]; exact fit_end HF.out fun m h1 h2 => absurd h2 (by rw [HSL.out]; omega))
          have HRE := Lib.hid (show RowAt wr g2 (fitsV (r.take (i + 1)) s.data.toList) 4 by rw [← HE.out]; exact HL.out)
          go_wp2_with fail
          go_roundw
          case rel => exact ⟨i + 1, g2, by simp, rfl, by omega, HRE.out, HG2.out, HBY.out⟩
          case measure => simp only [intOf]; omega
    · have hii : ¬ (i : Int) < (n : Int) := by omega
      have HRE := Lib.hid (show RowAt wr g1 (fitsV r s.data.toList) 4 by have h := HR.out; rw [List.take_of_length_le (by rw [← HN.out]; omega)] at h; exact h)
      go_wp2_with fail
      go_ret
      exact ⟨g1, by rw [HSL.out]; rfl, HRE.out, HG1.out, HB.out⟩
end Go.Proofs.Ytfldhggmgepcjaa
