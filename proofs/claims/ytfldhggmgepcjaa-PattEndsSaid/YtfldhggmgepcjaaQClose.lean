/-
  The landed code's closings: of each place, where a set would close.
-/
import Derived.Test.YtfldhggmgepcjaaQMember
import Derived.Test.YtfldhggmgepcjaaQRows
namespace Go.Proofs.Ytfldhggmgepcjaa
set_option maxRecDepth 100000
open Go Go.RowKit

def clAt (L : Pl) (j : Nat) : Int := match clE (L.drop j) with | some k => ((j + k : Nat) : Int) | none => -1
def closesL (L : Pl) : List Value := (List.range (L.length + 1)).map fun j => Value.int .i64 (clAt L j)
theorem closes_get (L : Pl) (j : Nat) (h : j ≤ L.length) : (closesL L)[j]? = some (.int .i64 (clAt L j)) := by
  unfold closesL
  rw [List.getElem?_map, List.getElem?_range (by omega)]
  rfl
theorem closes_len (L : Pl) : (closesL L).length = L.length + 1 := by simp [closesL]
theorem clAt_end (L : Pl) : clAt L L.length = -1 := by
  unfold clAt
  rw [List.drop_length, clE_nil]
theorem clAt_yes {L : Pl} {j : Nat} (h : isP L j 93 = true) : clAt L j = (j : Int) := by
  unfold clAt
  rw [clE_yes (by rw [isP_drop]; exact h)]
  simp
theorem clAt_more {L : Pl} {j : Nat} (hj : j < L.length) (h : isP L j 93 = false) : clAt L j = clAt L (j + mbN (L.drop j)) := by
  have hL : L.drop j ≠ [] := by
    intro e
    have := congrArg List.length e
    rw [List.length_drop] at this
    simp at this; omega
  unfold clAt
  rw [clE_more hL (by rw [isP_drop]; exact h), List.drop_drop]
  cases clE (L.drop (j + mbN (L.drop j))) with
  | none => rfl
  | some k => simp only [Option.map_some]; congr 1; omega

/-- So many places, from the end on, are told. -/
def ClR (L : Pl) (K : Nat) (l : List Value) : Prop := l.length = L.length + 1 ∧ ∀ j, L.length - K ≤ j → j ≤ L.length → l[j]? = some (.int .i64 (clAt L j))
theorem ClR.all {L : Pl} {l : List Value} (h : ClR L L.length l) : l = closesL L := by
  apply List.ext_getElem?
  intro j
  by_cases hj : j ≤ L.length
  · rw [h.2 j (by omega) hj, closes_get L j hj]
  · rw [List.getElem?_eq_none (by rw [h.1]; omega), List.getElem?_eq_none (by rw [closes_len]; omega)]
theorem ClR.next {L : Pl} {K at_ : Nat} {l : List Value} (h : ClR L K l) (hK : at_ + K + 1 = L.length) (v : Int) (hv : v = clAt L at_) : ClR L (K + 1) (l.set at_ (.int .i64 v)) := by
  refine ⟨by rw [List.length_set]; exact h.1, fun j h1 h2 => ?_⟩
  rw [List.getElem?_set]
  by_cases e : at_ = j
  · subst e
    rw [if_pos rfl, if_pos (by rw [h.1]; omega), hv]
  · rw [if_neg e]
    exact h.2 j (by omega) h2

set_option maxHeartbeats 4000000 in
theorem lclosings (P Q : ByteArray) (hP : P.size ≤ 100000) (a : Option Addr) (n cap : Nat) (w : World) : Calls Try.prog 22 #[.agg #[.string P, .string Q, .slice a n cap]] w fun e w' => ∃ g, e = .returned (.slice (some ⟨g, 0, none⟩) (P.size + 1) (P.size + 1)) ∧ RowAt w' g (closesL (plL P.data.toList Q.data.toList)) 3 ∧ w.heap.size ≤ g ∧ Below w.heap.size w w' := by
  have HB := Lib.hid (below_box w (.cells #[.string P, .string Q, .slice a n cap] 51))
  have HP := Lib.hid (PatAt.new w P Q a n cap)
  have HK := Lib.hid (fun j c x y hx hy W => lplain P Q a n cap j c x y hx hy W)
  have HM := Lib.hid (fun j hj x hx W => lbehind P Q hP a n cap j hj x hx W)
  obtain ⟨L, hL⟩ : ∃ L, L = plL P.data.toList Q.data.toList := ⟨_, rfl⟩
  have hLP : L.length = P.size := by rw [hL, pl_len, size_data]
  rw [← hL] at HK HM ⊢
  have HLP := Lib.hid hLP
  clear hL hLP
  obtain ⟨w1, hw1⟩ : ∃ w1, w1 = w.alloc (.cells #[.string P, .string Q, .slice a n cap] 51) := ⟨_, rfl⟩
  rw [← hw1] at HB HP
  have hs1 : w1.heap.size = w.heap.size + 1 := by rw [hw1]; simp
  have hmk := run_make_ints w1 ((P.size : Int) + 1) (P.size + 1) (by omega) (by omega)
  obtain ⟨w2, hw2⟩ : ∃ w2, w2 = w1.alloc (.cells (List.replicate (P.size + 1) (.int .i64 0)).toArray 3) := ⟨_, rfl⟩
  rw [← hw2] at hmk
  have hb2 : Below w1.heap.size w1 w2 := by rw [hw2]; exact below_box _ _
  have hR2 : RowAt w2 w1.heap.size (List.replicate (P.size + 1) (.int .i64 0)) 3 := by rw [hw2]; exact new_block _ _
  have HP2 := Lib.hid (HP.out.below hb2)
  have HB2 := Lib.hid (below_two HB.out hb2)
  have HS1 := Lib.hid hs1
  obtain ⟨C, hC⟩ : ∃ C, C = w1.heap.size := ⟨_, rfl⟩
  rw [← hC] at hmk hR2
  have HC := Lib.hid (show w.heap.size < C by omega)
  have hfr := hR2.free P.size
  have hR3 := hR2.set P.size (.int .i64 (-1))
  obtain ⟨w3, hw3⟩ : ∃ w3, w3 = w2.setCell ⟨C, P.size, none⟩ (.int .i64 (-1)) := ⟨_, rfl⟩
  rw [← hw3] at hR3
  have HR3 := Lib.hid hR3
  have hcell : w2.cell? ⟨C, P.size, none⟩ = some (.int .i64 0) := hR2.cell (by rw [List.getElem?_replicate, if_pos (by omega)])
  have HP3 := Lib.hid (show PatAt w3 w.heap.size P Q a n cap by rw [hw3]; exact HP2.out.other (by have := HC.out; omega) _ _)
  have HB3 := Lib.hid (show Below w.heap.size w w3 by rw [hw3]; exact HB2.out.setCell (show w.heap.size ≤ C from Nat.le_of_lt HC.out) _)
  have HW3 := Lib.hid hw3
  clear hb2 hR3 hR2 hs1 hC hw2 hw3
  go_enter Try.func22, Try.ntmps22
  go_upto_region 2 with fail
  rw [← hw1]
  clear hw1
  go_wp2_with fail
  rw [← HW3.out]
  clear HW3 hmk hcell hfr
  go_loopw [5, 6, 17] (fun _ _ v wr => ∃ K : Nat, K ≤ P.size ∧ v = .int .i64 (K : Int) ∧ Hid (∃ l, RowAt wr C l 3 ∧ ClR L K l) ∧ Hid (PatAt wr w.heap.size P Q a n cap) ∧ Hid (Below w.heap.size w wr)) (fun _ _ v _ => P.size - (intOf v).toNat)
  case atStart =>
    refine ⟨0, Nat.zero_le _, rfl, ⟨_, HR3.out, by rw [List.length_set, List.length_replicate, HLP.out], fun j h1 h2 => ?_⟩, HP3, HB3⟩
    have e : j = P.size := by have := HLP.out; omega
    subst e
    rw [List.getElem?_set_self (by rw [List.length_replicate]; omega), ← HLP.out, clAt_end]
  case round =>
    obtain ⟨K, hK, rfl, HLR, HPR, HBR⟩ := hrel
    obtain ⟨l, hR, hCl⟩ := HLR.out
    by_cases hlt : K < P.size
    · obtain ⟨p, hp⟩ : ∃ p, p + K + 1 = P.size := ⟨P.size - 1 - K, by omega⟩
      have hpe : (P.size : Int) - 1 - (K : Int) = (p : Int) := by omega
      have hpP : p < P.size := by omega
      have HPE := Lib.hid hp
      clear hp
      obtain ⟨c0, c1, c2⟩ := HPR.out.cells
      have C1 := HK.out p 93 (p : Int) 93 rfl rfl
      have C2 := HM.out p (by omega) (p : Int) rfl
      have hfr := hR.free p
      obtain ⟨old, hold⟩ : ∃ v, l[p]? = some v := ⟨l[p]'(by rw [hCl.1, HLP.out]; omega), List.getElem?_eq_getElem _⟩
      have hcell := hR.cell hold
      cases hq : isP L p 93 with
      | true =>
        rw [hq] at C1
        have HN := Lib.hid (hCl.next (at_ := p) (by rw [HPE.out, HLP.out]) (p : Int) (clAt_yes hq).symm)
        go_wp2_with fail
        refine (C1 _).mono ?_
        rintro e w5 ⟨rfl, hb⟩
        have hR5 := hR.below hb
        have hfr5 := hR5.free p
        have hcell5 := hR5.cell hold
        have HW := Lib.hid (show ∃ w6, w6 = w5.setCell ⟨C, p, none⟩ (.int .i64 (p : Int)) ∧ RowAt w6 C (l.set p (.int .i64 (p : Int))) 3 ∧ PatAt w6 w.heap.size P Q a n cap ∧ Below w.heap.size w w6 from
          ⟨_, rfl, hR5.set p _, (HPR.out.below hb).other (by have := HC.out; omega) _ _, (below_two HBR.out hb).setCell (show w.heap.size ≤ C from Nat.le_of_lt HC.out) _⟩)
        clear hb hR hR5 hcell hfr
        go_wp2_with fail
        obtain ⟨w6, hw6, hR6, hP6, hB6⟩ := HW.out
        rw [← hw6]
        go_roundw
        case rel => exact ⟨K + 1, by omega, by simp, ⟨_, hR6, HN.out⟩, hP6, hB6⟩
        case measure => simp only [intOf]; omega
      | false =>
        rw [hq] at C1
        obtain ⟨m, hm⟩ : ∃ m, m = p + mbN (L.drop p) := ⟨_, rfl⟩
        have hml : p < m ∧ m ≤ P.size := by
          have h1 := mbN_pos (L.drop p)
          have hL0 : L.drop p ≠ [] := by
            intro e
            have := congrArg List.length e
            rw [List.length_drop, HLP.out] at this
            simp at this; omega
          have h2 := mbN_le hL0
          rw [List.length_drop, HLP.out] at h2
          omega
        rw [← hm] at C2
        have hlm := hCl.2 m (by have := HPE.out; have := HLP.out; omega) (by rw [HLP.out]; exact hml.2)
        have hcm : clAt L p = clAt L m := by rw [hm]; exact clAt_more (by rw [HLP.out]; exact hpP) hq
        have HN := Lib.hid (hCl.next (at_ := p) (by rw [HPE.out, HLP.out]) (clAt L m) hcm.symm)
        obtain ⟨V, hV⟩ : ∃ V, V = clAt L m := ⟨_, rfl⟩
        rw [← hV] at HN hlm
        have hm1 : p < m := hml.1
        have hm2 : m ≤ P.size := hml.2
        clear hcm hV hm hml
        go_wp2_with fail
        refine (C1 _).mono ?_
        rintro e w5 ⟨rfl, hb⟩
        have HR5 := Lib.hid (hR.below hb)
        have HP5 := Lib.hid (HPR.out.below hb)
        have HB5 := Lib.hid (below_two HBR.out hb)
        obtain ⟨c0, c1, c2⟩ := HP5.out.cells
        clear hb hR hcell hfr
        go_wp2_with fail
        refine (C2 _).mono ?_
        rintro e w7 ⟨rfl, hb⟩
        have hR7 := HR5.out.below hb
        have hfr7 := hR7.free p
        have hcell7 := hR7.cell hold
        have hcellm := hR7.cell hlm
        have HW := Lib.hid (show ∃ w6, w6 = w7.setCell ⟨C, p, none⟩ (.int .i64 V) ∧ RowAt w6 C (l.set p (.int .i64 V)) 3 ∧ PatAt w6 w.heap.size P Q a n cap ∧ Below w.heap.size w w6 from
          ⟨_, rfl, hR7.set p _, (HP5.out.below hb).other (by have := HC.out; omega) _ _, (below_two HB5.out hb).setCell (show w.heap.size ≤ C from Nat.le_of_lt HC.out) _⟩)
        clear hb hR7 hlm
        go_wp2_with fail
        obtain ⟨w6, hw6, hR6, hP6, hB6⟩ := HW.out
        rw [← hw6]
        go_roundw
        case rel => exact ⟨K + 1, by omega, by simp, ⟨_, hR6, HN.out⟩, hP6, hB6⟩
        case measure => simp only [intOf]; omega
    · have hKK : K = P.size := by omega
      have HE := Lib.hid (show l = closesL L by rw [hKK, ← HLP.out] at hCl; exact hCl.all)
      have HR := Lib.hid hR
      clear hKK hR
      go_wp2_with fail
      go_ret
      exact ⟨C, rfl, by rw [← HE.out]; exact HR.out, Nat.le_of_lt HC.out, HBR.out⟩
end Go.Proofs.Ytfldhggmgepcjaa
