/-
  The reference's Fold: the names kept on a stack.
-/
import Derived.Test.YtkpbeljifpokdaaPathRef4
namespace Go.Proofs.Ytkpbeljifpokdaa
open Go Go.RowKit

/-- One name more: . changes nothing, .. takes the last one away. -/
def stepF (out : List (List UInt8)) (n : List UInt8) : List (List UInt8) := if n = [46] then out else if n = [46, 46] then out.dropLast else out ++ [n]
def foldP (L : List (List UInt8)) : List (List UInt8) := L.foldl stepF []
def foldL (a b : List UInt8) : List UInt8 := 47 :: joinL (foldP (partsL (if wholeL b then b else joinP a b)))

theorem step_total (out : List (List UInt8)) (n : List UInt8) : total (stepF out n) ≤ total out + (n.length + 1) := by
  unfold stepF
  split
  · omega
  · split
    · have := total_init out; omega
    · rw [total_append]; simp [total]
theorem step_len (out : List (List UInt8)) (n : List UInt8) : (stepF out n).length ≤ out.length + 1 := by
  unfold stepF
  split
  · omega
  · split
    · rw [List.length_dropLast]; omega
    · simp
theorem fold_total (L : List (List UInt8)) : ∀ k, k ≤ L.length → total (foldP (L.take k)) ≤ total (L.take k) ∧ (foldP (L.take k)).length ≤ k
  | 0, _ => by simp [foldP, total]
  | k + 1, h => by
    have ih := fold_total L k (by omega)
    have e : L.take (k + 1) = L.take k ++ [L[k]] := List.take_succ_eq_append_getElem (by omega)
    rw [e, total_append]
    unfold foldP at ih ⊢
    rw [List.foldl_append]
    simp only [List.foldl_cons, List.foldl_nil, total]
    have h1 := step_total (List.foldl stepF [] (L.take k)) L[k]
    have h2 := step_len (List.foldl stepF [] (L.take k)) L[k]
    omega
theorem fold_next (L : List (List UInt8)) (k : Nat) (h : k < L.length) : foldP (L.take (k + 1)) = stepF (foldP (L.take k)) L[k] := by
  rw [List.take_succ_eq_append_getElem h]
  unfold foldP
  rw [List.foldl_append]
  rfl

def FRel (L : List (List UInt8)) (B : Nat) (w0 : World) (o i : Value) (wr : World) : Prop :=
  ∃ k : Nat, k ≤ L.length ∧ i = .int .i64 k ∧ Texts B wr o (foldP (L.take k)) ∧ Below B w0 wr

/-- An empty row, or one that lies in memory. -/
theorem Texts.slot {B : Nat} {w : World} {v : Value} {L : List (List UInt8)} (h : Texts B w v L) : ∃ (a : Option Addr) (cap : Nat), v = .slice a L.length cap ∧ L.length ≤ cap ∧ cap ≤ maxLen := by
  rcases h.forms with ⟨rfl, rfl⟩ | ⟨g, cap, rfl, -, -, hc, hm, -⟩
  · exact ⟨none, 0, rfl, Nat.le_refl _, by decide⟩
  · exact ⟨_, cap, rfl, hc, hm⟩

theorem texts_own {B : Nat} {w : World} {v : Value} {L : List (List UInt8)} (h : Texts B w v L) : w.ownsRow B 9 1 v L.length (L.map strv) := h
theorem same_list (xs : ByteArray) (l : List UInt8) (h : (xs.toList == l) = true) : xs.data.toList = l := by
  rw [ByteArray.toList_eq] at h
  exact beq_iff_eq.1 h
theorem other_list (xs : ByteArray) (l : List UInt8) (h : (xs.toList == l) = false) : xs.data.toList ≠ l := by
  rw [ByteArray.toList_eq] at h
  exact beq_eq_false_iff_ne.1 h

theorem rwhole_two (s : ByteArray) (b : Bool) (h : wholeL s.data.toList = b) (w : World) : Calls Try.prog 25 #[.string s] w fun e w' => e = .returned (.bool b) ∧ w = w' := rwhole_known s b h w

theorem rparts_known (s : ByteArray) (L : List (List UInt8)) (hL : L = partsL s.data.toList) (hs : s.size ≤ 1073741824) (w : World) :
    Calls Try.prog 12 #[.string s] w fun e w' => ∃ v, e = .returned v ∧ Texts w.heap.size w' v L ∧ Below w.heap.size w w' := by
  subst hL
  exact rparts_any s hs w
theorem rel_dot {L : List (List UInt8)} {k : Nat} {F : List (List UInt8)} {x : List UInt8} (h : F = stepF (foldP (L.take k)) x) (hx : x = [46]) : F = foldP (L.take k) := by
  rw [h, stepF, if_pos hx]
theorem rel_up {L : List (List UInt8)} {k : Nat} {F : List (List UInt8)} {x : List UInt8} (h : F = stepF (foldP (L.take k)) x) (hx : x = [46, 46]) : F = (foldP (L.take k)).dropLast := by
  rw [h, stepF, if_neg (by rw [hx]; decide), if_pos hx]
theorem rel_on {L : List (List UInt8)} {k : Nat} {F : List (List UInt8)} {x : List UInt8} (h : F = stepF (foldP (L.take k)) x) (h1 : x ≠ [46]) (h2 : x ≠ [46, 46]) : F = foldP (L.take k) ++ [x] := by
  rw [h, stepF, if_neg h1, if_neg h2]

theorem rel_same {B : Nat} {w : World} {v : Value} {F G : List (List UInt8)} (h : F = G.dropLast) (hz : G = []) (ht : Texts B w v G) : Texts B w v F := by
  subst hz
  subst h
  exact ht

theorem rjoin_known (a b q : ByteArray) (hq : q = ⟨(joinP a.data.toList b.data.toList).toArray⟩) (ha : a.size ≤ 1099511627776) (hb : b.size ≤ 1099511627776) (w : World) :
    Calls Try.prog 20 #[.string a, .string b] w fun e w' => e = .returned (.string q) ∧ w = w' := by
  subst hq
  exact rjoin_any a b ha hb w

set_option maxHeartbeats 4000000 in
/-- The loop of Fold, over the names L that lie in a row, and what stands behind it. -/
theorem rfold_tail (p cwd : ByteArray) (hw : wholeL p.data.toList = true) (hs : p.size ≤ 1073741824) (w : World) :
    Calls Try.prog 22 #[.string cwd, .string p] w fun e w' => e = .returned (.string ⟨(47 :: joinL (foldP (partsL p.data.toList))).toArray⟩) ∧ Below w.heap.size w w' := by
  obtain ⟨i0, hi, hz0, hz1, hz2⟩ := info_parts infoS
  have hpl := parts_len p.data.toList
  have htot := total_parts p.data.toList
  rw [size_list] at hpl htot
  have HW := Lib.hid hw
  clear hw
  obtain ⟨L, hL⟩ : ∃ L, L = partsL p.data.toList := ⟨_, rfl⟩
  rw [← hL] at hpl htot ⊢
  have HLL := Lib.hid hL
  clear hL
  go_enter Try.func22, Try.ntmps22
  go_wp2_with fail
  refine (rwhole_known _ _ HW.out _).mono ?_
  rintro e w' ⟨rfl, rfl⟩
  go_wp2_with fail
  refine (rparts_known p L HLL.out hs _).mono ?_
  rintro e w1 ⟨v, rfl, hT, hb⟩
  obtain ⟨a5, cap5, rfl, hc5, hm5⟩ := hT.slot
  have HT := Lib.hid hT
  have HB := Lib.hid hb
  clear hT hb
  unfold maxLen at hm5
  go_wp2_with fail
  go_loopw [6, 7] (fun o i wr => FRel L w1.heap.size w1 o i wr) (fun _ i _ => L.length - (intOf i).toNat)
  case atStart => exact ⟨0, by omega, rfl, World.ownsRow_nil _ _ _ _, Below.refl _ _⟩
  case round =>
    obtain ⟨k, hk, rfl, hO, hbr⟩ := hrel
    obtain ⟨ao, capo, rfl, hco, hmo⟩ := hO.slot
    have hft := fold_total L k hk
    have htk := total_take L k
    have hol : (foldP (L.take k)).length ≤ k := hft.2
    unfold maxLen at hmo
    by_cases hlt : k < L.length
    · have hnx := Lib.hid (fold_next L k hlt)
      obtain ⟨xs, hxs⟩ : ∃ xs : ByteArray, xs = ⟨L[k].toArray⟩ := ⟨_, rfl⟩
      have HX := Lib.hid (show xs.data.toList = L[k] by rw [hxs])
      obtain ⟨g5, rfl, hx⟩ : ∃ g5, a5 = some ⟨g5, 0, none⟩ ∧ wr.cell? ⟨g5, k, none⟩ = some (.string xs) := by
        rcases HT.out.forms with ⟨hv, hn⟩ | ⟨g, cap, hv, hB, hg, -, -, hcell⟩
        · rw [hn] at hlt; simp at hlt
        · cases hv
          refine ⟨g, rfl, ?_⟩
          rw [hbr.cell (p := ⟨g, k, none⟩) hg, hcell k hlt, hxs]
          rfl
      clear hxs hft htk
      have HO := Lib.hid hO
      have HBR := Lib.hid hbr
      have hsz := hbr.size
      clear hO hbr
      cases h1 : (xs.toList == [46]) with
      | true =>
        have HF := Lib.hid (rel_dot hnx.out (HX.out.symm.trans (same_list xs _ h1)))
        go_wp2_with fail
        go_roundw
        case rel => exact ⟨k + 1, by omega, by go_num, by rw [HF.out]; exact HO.out, HBR.out⟩
        case measure => simp [intOf] <;> omega
      | false =>
        cases h2 : (xs.toList == [46, 46]) with
        | false =>
          have HF := Lib.hid (rel_on hnx.out (fun e => other_list xs _ h1 (HX.out.trans e)) (fun e => other_list xs _ h2 (HX.out.trans e)))
          go_wp2_with (first | (at_builtin; refine wpList_append_own _ rfl _ _ 25 rfl w1.heap.size 9 i0 (.string ByteArray.empty) 1 16 Try.underlying25 hi hz0 hz1 hz2 rfl (by decide) _ _ _ rfl ((texts_own HO.out).alloc _) ⟨wr.heap.size, 0, none⟩ 1 1 [.string xs] rfl rfl (cell_one_new _ _ _) (fun x hx => by simp at hx; subst hx; rfl) (by unfold maxLen; omega) (by omega) (by simp; exact Nat.le_succ_of_le hsz) ?_; intro v' w3 hown' hgrow3 hnil3) | fail)
          have hT3 : Texts w1.heap.size w3 v' (foldP (L.take k) ++ [L[k]]) := Texts.grow (by rw [← HX.out]; exact hown')
          have hb3 : Below w1.heap.size w1 w3 := (HBR.out.alloc hsz _).grown hgrow3 (by simp; exact Nat.le_succ_of_le hsz) (fun r hr' => ((texts_own HO.out).lt r hr').1)
          have HT3 := Lib.hid hT3
          have HB3 := Lib.hid hb3
          clear hT3 hb3 hown' hgrow3 hnil3
          go_wp2_with fail
          go_roundw
          case rel => exact ⟨k + 1, by omega, by go_num, by rw [HF.out]; exact HT3.out, HB3.out⟩
          case measure => simp [intOf] <;> omega
        | true =>
          have HF := Lib.hid (rel_up hnx.out (HX.out.symm.trans (same_list xs _ h2)))
          by_cases hz : (foldP (L.take k)).length = 0
          · have HZ := Lib.hid (List.length_eq_zero_iff.1 hz)
            rw [hz] at HO ⊢
            go_wp2_with fail
            go_roundw
            case rel => exact ⟨k + 1, by omega, by go_num, rel_same HF.out HZ.out HO.out, HBR.out⟩
            case measure => simp [intOf] <;> omega
          · obtain ⟨n, hn⟩ : ∃ n, (foldP (L.take k)).length = n + 1 := ⟨(foldP (L.take k)).length - 1, by omega⟩
            rw [hn] at HO hco hol ⊢
            obtain ⟨go, rfl⟩ : ∃ go, ao = some ⟨go, 0, none⟩ := by
              rcases HO.out.forms with ⟨hv, -⟩ | ⟨g, cap, hv, -⟩
              · cases hv
              · simp only [Value.slice.injEq] at hv
                exact ⟨g, hv.1⟩
            have HI := Lib.hid (HO.out.init hn)
            clear HO hn hz
            go_wp2_with fail
            go_roundw
            case rel => exact ⟨k + 1, by omega, by go_num, by rw [HF.out]; exact HI.out, HBR.out⟩
            case measure => simp [intOf] <;> omega
    · obtain rfl : k = L.length := by omega
      rw [List.take_length] at hO hft hol hco ⊢
      obtain ⟨J, hJ⟩ : ∃ J, J = joinL (foldP L) := ⟨_, rfl⟩
      have hJl : J.length ≤ 1073741825 := by rw [hJ]; have h1 := join_le (foldP L); omega
      have HTL := Lib.hid (show total (foldP L) ≤ 1099511627776 by omega)
      have HJ := Lib.hid hJ
      have HO := Lib.hid hO
      have HBR := Lib.hid hbr
      have hsz := hbr.size
      clear hJ hO hbr hft htk
      go_wp2_with fail
      refine (rjoined_known _ _ HJ.out _ _ _ HO.out HTL.out).mono ?_
      rintro e w' ⟨rfl, rfl⟩
      go_wp2_with fail
      go_ret
      exact ⟨by rw [← HJ.out]; exact congrArg Ending.returned (str_eta _ _ (cat_two _ _)), HB.out.trans (HBR.out.mono HB.out.size)⟩
set_option maxHeartbeats 4000000 in
/-- .. of a path that does not begin at the root. -/
theorem rfold_rel (p0 p cwd : ByteArray) (hw : wholeL p0.data.toList = false) (h1 : cwd.size ≤ 1099511627776) (h2 : p0.size ≤ 1099511627776) (hp : p = ⟨(joinP cwd.data.toList p0.data.toList).toArray⟩) (hs : p.size ≤ 1073741824) (w : World) :
    Calls Try.prog 22 #[.string cwd, .string p0] w fun e w' => e = .returned (.string ⟨(47 :: joinL (foldP (partsL p.data.toList))).toArray⟩) ∧ Below w.heap.size w w' := by
  obtain ⟨i0, hi, hz0, hz1, hz2⟩ := info_parts infoS
  have hpl := parts_len p.data.toList
  have htot := total_parts p.data.toList
  rw [size_list] at hpl htot
  have HW := Lib.hid hw
  have HP := Lib.hid hp
  clear hw hp
  obtain ⟨L, hL⟩ : ∃ L, L = partsL p.data.toList := ⟨_, rfl⟩
  rw [← hL] at hpl htot ⊢
  have HLL := Lib.hid hL
  clear hL
  go_enter Try.func22, Try.ntmps22
  go_wp2_with fail
  refine (rwhole_known _ _ HW.out _).mono ?_
  rintro e w' ⟨rfl, rfl⟩
  go_wp2_with fail
  refine (rjoin_known _ _ p HP.out h1 h2 _).mono ?_
  rintro e w' ⟨rfl, rfl⟩
  go_wp2_with fail
  refine (rparts_known p L HLL.out hs _).mono ?_
  rintro e w1 ⟨v, rfl, hT, hb⟩
  obtain ⟨a5, cap5, rfl, hc5, hm5⟩ := hT.slot
  have HT := Lib.hid hT
  have HB := Lib.hid hb
  clear hT hb
  unfold maxLen at hm5
  go_wp2_with fail
  go_loopw [6, 7] (fun o i wr => FRel L w1.heap.size w1 o i wr) (fun _ i _ => L.length - (intOf i).toNat)
  case atStart => exact ⟨0, by omega, rfl, World.ownsRow_nil _ _ _ _, Below.refl _ _⟩
  case round =>
    obtain ⟨k, hk, rfl, hO, hbr⟩ := hrel
    obtain ⟨ao, capo, rfl, hco, hmo⟩ := hO.slot
    have hft := fold_total L k hk
    have htk := total_take L k
    have hol : (foldP (L.take k)).length ≤ k := hft.2
    unfold maxLen at hmo
    by_cases hlt : k < L.length
    · have hnx := Lib.hid (fold_next L k hlt)
      obtain ⟨xs, hxs⟩ : ∃ xs : ByteArray, xs = ⟨L[k].toArray⟩ := ⟨_, rfl⟩
      have HX := Lib.hid (show xs.data.toList = L[k] by rw [hxs])
      obtain ⟨g5, rfl, hx⟩ : ∃ g5, a5 = some ⟨g5, 0, none⟩ ∧ wr.cell? ⟨g5, k, none⟩ = some (.string xs) := by
        rcases HT.out.forms with ⟨hv, hn⟩ | ⟨g, cap, hv, hB, hg, -, -, hcell⟩
        · rw [hn] at hlt; simp at hlt
        · cases hv
          refine ⟨g, rfl, ?_⟩
          rw [hbr.cell (p := ⟨g, k, none⟩) hg, hcell k hlt, hxs]
          rfl
      clear hxs hft htk
      have HO := Lib.hid hO
      have HBR := Lib.hid hbr
      have hsz := hbr.size
      clear hO hbr
      cases h1 : (xs.toList == [46]) with
      | true =>
        have HF := Lib.hid (rel_dot hnx.out (HX.out.symm.trans (same_list xs _ h1)))
        go_wp2_with fail
        go_roundw
        case rel => exact ⟨k + 1, by omega, by go_num, by rw [HF.out]; exact HO.out, HBR.out⟩
        case measure => simp [intOf] <;> omega
      | false =>
        cases h2 : (xs.toList == [46, 46]) with
        | false =>
          have HF := Lib.hid (rel_on hnx.out (fun e => other_list xs _ h1 (HX.out.trans e)) (fun e => other_list xs _ h2 (HX.out.trans e)))
          go_wp2_with (first | (at_builtin; refine wpList_append_own _ rfl _ _ 25 rfl w1.heap.size 9 i0 (.string ByteArray.empty) 1 16 Try.underlying25 hi hz0 hz1 hz2 rfl (by decide) _ _ _ rfl ((texts_own HO.out).alloc _) ⟨wr.heap.size, 0, none⟩ 1 1 [.string xs] rfl rfl (cell_one_new _ _ _) (fun x hx => by simp at hx; subst hx; rfl) (by unfold maxLen; omega) (by omega) (by simp; exact Nat.le_succ_of_le hsz) ?_; intro v' w3 hown' hgrow3 hnil3) | fail)
          have hT3 : Texts w1.heap.size w3 v' (foldP (L.take k) ++ [L[k]]) := Texts.grow (by rw [← HX.out]; exact hown')
          have hb3 : Below w1.heap.size w1 w3 := (HBR.out.alloc hsz _).grown hgrow3 (by simp; exact Nat.le_succ_of_le hsz) (fun r hr' => ((texts_own HO.out).lt r hr').1)
          have HT3 := Lib.hid hT3
          have HB3 := Lib.hid hb3
          clear hT3 hb3 hown' hgrow3 hnil3
          go_wp2_with fail
          go_roundw
          case rel => exact ⟨k + 1, by omega, by go_num, by rw [HF.out]; exact HT3.out, HB3.out⟩
          case measure => simp [intOf] <;> omega
        | true =>
          have HF := Lib.hid (rel_up hnx.out (HX.out.symm.trans (same_list xs _ h2)))
          by_cases hz : (foldP (L.take k)).length = 0
          · have HZ := Lib.hid (List.length_eq_zero_iff.1 hz)
            rw [hz] at HO ⊢
            go_wp2_with fail
            go_roundw
            case rel => exact ⟨k + 1, by omega, by go_num, rel_same HF.out HZ.out HO.out, HBR.out⟩
            case measure => simp [intOf] <;> omega
          · obtain ⟨n, hn⟩ : ∃ n, (foldP (L.take k)).length = n + 1 := ⟨(foldP (L.take k)).length - 1, by omega⟩
            rw [hn] at HO hco hol ⊢
            obtain ⟨go, rfl⟩ : ∃ go, ao = some ⟨go, 0, none⟩ := by
              rcases HO.out.forms with ⟨hv, -⟩ | ⟨g, cap, hv, -⟩
              · cases hv
              · simp only [Value.slice.injEq] at hv
                exact ⟨g, hv.1⟩
            have HI := Lib.hid (HO.out.init hn)
            clear HO hn hz
            go_wp2_with fail
            go_roundw
            case rel => exact ⟨k + 1, by omega, by go_num, by rw [HF.out]; exact HI.out, HBR.out⟩
            case measure => simp [intOf] <;> omega
    · obtain rfl : k = L.length := by omega
      rw [List.take_length] at hO hft hol hco ⊢
      obtain ⟨J, hJ⟩ : ∃ J, J = joinL (foldP L) := ⟨_, rfl⟩
      have hJl : J.length ≤ 1073741825 := by rw [hJ]; have h1 := join_le (foldP L); omega
      have HTL := Lib.hid (show total (foldP L) ≤ 1099511627776 by omega)
      have HJ := Lib.hid hJ
      have HO := Lib.hid hO
      have HBR := Lib.hid hbr
      have hsz := hbr.size
      clear hJ hO hbr hft htk
      go_wp2_with fail
      refine (rjoined_known _ _ HJ.out _ _ _ HO.out HTL.out).mono ?_
      rintro e w' ⟨rfl, rfl⟩
      go_wp2_with fail
      go_ret
      exact ⟨by rw [← HJ.out]; exact congrArg Ending.returned (str_eta _ _ (cat_two _ _)), HB.out.trans (HBR.out.mono HB.out.size)⟩

theorem join_size (a b : List UInt8) : (joinP a b).length ≤ a.length + b.length + 1 := by
  unfold joinP
  split
  · omega
  · split
    · omega
    · split
      · rw [List.length_append]; omega
      · rw [List.length_append, List.length_cons]; omega

theorem rfold_any (cwd p : ByteArray) (h1 : cwd.size ≤ 536870000) (h2 : p.size ≤ 536870000) (w : World) :
    Calls Try.prog 22 #[.string cwd, .string p] w fun e w' => e = .returned (.string ⟨(foldL cwd.data.toList p.data.toList).toArray⟩) ∧ Below w.heap.size w w' := by
  cases hw : wholeL p.data.toList with
  | true =>
    have h := rfold_tail p cwd hw (by omega) w
    unfold foldL
    rw [hw]
    exact h
  | false =>
    have hz := join_size cwd.data.toList p.data.toList
    rw [size_list, size_list] at hz
    have h := rfold_rel p ⟨(joinP cwd.data.toList p.data.toList).toArray⟩ cwd hw (by omega) (by omega) rfl (by show (joinP cwd.data.toList p.data.toList).toArray.size ≤ _; rw [List.size_toArray]; omega) w
    unfold foldL
    rw [hw]
    exact h
end Go.Proofs.Ytkpbeljifpokdaa
