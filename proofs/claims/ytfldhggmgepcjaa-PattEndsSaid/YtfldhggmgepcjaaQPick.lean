/-
  pick, Match, Prefix, Magic of the landed code.
-/
import Derived.Test.YtfldhggmgepcjaaQLengths
namespace Go.Proofs.Ytfldhggmgepcjaa
set_option maxRecDepth 100000
open Go Go.RowKit

def fitsB (r : List Wt) (s : List UInt8) : List Bool := (List.range (s.length + 1)).map fun m => decide (Mat r (s.take m))
theorem fitsV_eq (r : List Wt) (s : List UInt8) : fitsV r s = (fitsB r s).map Value.bool := by
  unfold fitsV fitsB
  rw [List.map_map]; rfl
theorem fitsB_len (r : List Wt) (s : List UInt8) : (fitsB r s).length = s.length + 1 := by simp [fitsB]
theorem fitsB_last (r : List Wt) (s : List UInt8) : (fitsB r s)[s.length]? = some (decide (Mat r s)) := by
  unfold fitsB
  rw [List.getElem?_map, List.getElem?_range (by omega), Option.map_some, List.take_length]
/-- The least of the lengths that fit, or the greatest. -/
def pickF (most : Bool) : List Bool → Nat → Int → Int
  | [], _, p => p
  | b :: l, i, p => pickF most l (i + 1) (if (b && (most || p == -1)) = true then (i : Int) else p)
def pickL (l : List Bool) (most : Bool) : Int := pickF most l 0 (-1)

set_option maxHeartbeats 4000000 in
theorem lpick (l : List Bool) (hl : l.length ≤ 200000) (most : Bool) (g : Nat) (w : World) (hR : RowAt w g (l.map Value.bool) 4) : Calls Try.prog 11 #[.slice (some ⟨g, 0, none⟩) l.length l.length, .bool most] w fun e w' => e = .returned (.int .i64 (pickL l most)) ∧ w = w' := by
  have HR := Lib.hid hR
  clear hR
  go_enter Try.func11, Try.ntmps11
  go_wp2_with fail
  go_loopw [5, 6, 7, 10] (fun v5 _ _ v10 wr => ∃ (i : Nat) (p : Int), v10 = .int .i64 ((i : Nat) : Int) ∧ v5 = .int .i64 p ∧ i ≤ l.length ∧ Hid (pickL l most = pickF most (l.drop i) i p) ∧ w = wr) (fun _ _ _ v10 _ => l.length - (intOf v10).toNat)
  case atStart => exact ⟨0, -1, rfl, rfl, Nat.zero_le _, (show pickL l most = pickF most (l.drop 0) 0 (-1) from rfl), rfl⟩
  case round =>
    obtain ⟨i, p, rfl, rfl, hi, HF, rfl⟩ := hrel
    by_cases hlt : i < l.length
    · have hii : (i : Int) < (l.length : Int) := by omega
      have hi0 : (0 : Int) ≤ (i : Int) := by omega
      obtain ⟨b, hb⟩ : ∃ b, l[i]? = some b := ⟨l[i], List.getElem?_eq_getElem hlt⟩
      have hcb := HR.out.cell (show (l.map Value.bool)[i]? = some (.bool b) by rw [List.getElem?_map, hb]; rfl)
      have HN := Lib.hid (show pickL l most = pickF most (l.drop (i + 1)) (i + 1) (if (b && (most || p == -1)) = true then (i : Int) else p) by
        have h := HF.out
        have e : l.drop i = b :: l.drop (i + 1) := by
          rw [List.getElem?_eq_getElem hlt] at hb
          rw [List.drop_eq_getElem_cons hlt, Option.some.inj hb]
        rw [e, pickF] at h
        exact h)
      obtain ⟨q, hq⟩ : ∃ q, q = (p == -1) := ⟨_, rfl⟩
      rw [← hq] at HN
      have hq' := hq.symm
      clear hq hb
      cases b <;> cases most <;> cases q
      all_goals
        go_wp2_with fail
        go_roundw
        case rel => exact ⟨i + 1, _, by simp, rfl, by omega, HN, trivial⟩
        case measure => simp only [intOf]; omega
    · have hii : ¬ (i : Int) < (l.length : Int) := by omega
      have HE := Lib.hid (show pickL l most = p by
        have h := HF.out
        rw [List.drop_of_length_le (by omega), pickF] at h
        exact h)
      go_wp2_with fail
      go_ret
      exact ⟨by rw [HE.out]; rfl, rfl⟩

set_option maxHeartbeats 4000000 in
theorem lmatch (P Q s : ByteArray) (hP : P.size ≤ 100000) (hs : s.size ≤ 100000) (w : World) : Calls Try.prog 10 #[.string P, .string Q, .string s] w fun e w' => e = .returned (.bool (decide (Mat (raw (plL P.data.toList Q.data.toList)) s.data.toList))) ∧ Below w.heap.size w w' := by
  have C1 := fun W => lwants P Q hP W
  have HOK := Lib.hid (rowP_ok P.data.toList Q.data.toList (by rw [size_data]; exact hP))
  have HAL := Lib.hid (rowP_alone P.data.toList Q.data.toList)
  have HLN := Lib.hid (rowP_len P.data.toList Q.data.toList)
  have HPS := Lib.hid (size_data P)
  have HSL := Lib.hid (size_data s)
  have HM := Lib.hid (show decide (Mat (raw (plL P.data.toList Q.data.toList)) s.data.toList) = decide (Mat (rowP P.data.toList Q.data.toList) s.data.toList) by rw [decide_eq_decide]; exact (rowP_mat _ _ _).symm)
  rw [HM.out]
  obtain ⟨r, hr⟩ : ∃ r, r = rowP P.data.toList Q.data.toList := ⟨_, rfl⟩
  rw [← hr] at C1 HOK HAL HLN ⊢
  clear hr HM
  go_enter Try.func10, Try.ntmps10
  go_wp2_with fail
  refine (C1 _).mono ?_
  rintro e w1 ⟨oa, oc, vs, rfl, hR, hb⟩
  have C2 := llengths w1 oa oc r HAL.out (by have := HLN.out; have := HPS.out; omega) HOK.out vs w.heap.size hR s hs
  have HB1 := Lib.hid hb
  clear hR hb
  go_wp2_with fail
  refine C2.mono ?_
  rintro e w2 ⟨g, rfl, hR2, hg, hb⟩
  have HB2 := Lib.hid (below_two HB1.out hb)
  have hc := hR2.cell (show (fitsV r s.data.toList)[s.size]? = some (.bool (decide (Mat r s.data.toList))) by rw [fitsV_eq, List.getElem?_map, ← HSL.out, fitsB_last]; rfl)
  obtain ⟨b, hbd⟩ : ∃ b, b = decide (Mat r s.data.toList) := ⟨_, rfl⟩
  rw [← hbd] at hc
  rw [HSL.out]
  have HBD := Lib.hid hbd
  clear hR2 hg hb hbd C2
  go_wp2_with fail
  go_ret
  exact ⟨by rw [← HBD.out]; rfl, HB2.out⟩

set_option maxHeartbeats 4000000 in
theorem lprefix (P Q s : ByteArray) (hP : P.size ≤ 100000) (hs : s.size ≤ 100000) (most : Bool) (w : World) : Calls Try.prog 6 #[.string P, .string Q, .string s, .bool most] w fun e w' => e = .returned (.int .i64 (pickL (fitsB (rowP P.data.toList Q.data.toList) s.data.toList) most)) ∧ Below w.heap.size w w' := by
  have C1 := fun W => lwants P Q hP W
  have HOK := Lib.hid (rowP_ok P.data.toList Q.data.toList (by rw [size_data]; exact hP))
  have HAL := Lib.hid (rowP_alone P.data.toList Q.data.toList)
  have HLN := Lib.hid (rowP_len P.data.toList Q.data.toList)
  have HPS := Lib.hid (size_data P)
  have HSL := Lib.hid (size_data s)
  obtain ⟨r, hr⟩ : ∃ r, r = rowP P.data.toList Q.data.toList := ⟨_, rfl⟩
  rw [← hr] at C1 HOK HAL HLN ⊢
  clear hr
  go_enter Try.func6, Try.ntmps6
  go_wp2_with fail
  refine (C1 _).mono ?_
  rintro e w1 ⟨oa, oc, vs, rfl, hR, hb⟩
  have C2 := llengths w1 oa oc r HAL.out (by have := HLN.out; have := HPS.out; omega) HOK.out vs w.heap.size hR s hs
  have HB1 := Lib.hid hb
  clear hR hb
  go_wp2_with fail
  refine C2.mono ?_
  rintro e w2 ⟨g, rfl, hR2, hg, hb⟩
  have HB2 := Lib.hid (below_two HB1.out hb)
  rw [fitsV_eq] at hR2
  have C3 := lpick (fitsB r s.data.toList) (by rw [fitsB_len, HSL.out]; omega) most g w2 hR2
  rw [fitsB_len] at C3
  clear hR2 hg hb C2
  go_wp2_with fail
  refine C3.mono ?_
  rintro e w3 ⟨rfl, rfl⟩
  go_wp2_with fail
  go_ret
  exact ⟨rfl, HB2.out⟩
end Go.Proofs.Ytfldhggmgepcjaa
