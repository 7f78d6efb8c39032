/-
  PathJoins and PathWhole, walked, out of the layer's six answers.
-/
import Derived.Test.YtkpbeljifpokdaaPathC
namespace Go.Proofs.Ytkpbeljifpokdaa
open Go Go.RowKit

theorem base_len (l : List UInt8) : (baseL l).length ≤ l.length + 1 := by
  unfold baseL
  split
  · split <;> simp
  · rename_i h
    have hlen : 0 < (partsL l).length := List.length_pos_iff.2 h
    rw [last_at _ hlen]
    have h1 := total_take (partsL l) ((partsL l).length - 1 + 1)
    rw [List.take_succ_eq_append_getElem (by omega), total_append] at h1
    simp only [total] at h1
    have h2 := total_parts l
    omega
theorem dir_len (l : List UInt8) : (dirL l).length ≤ l.length + 3 := by
  have h1 := join_le (partsL l).dropLast
  have h2 := total_init (partsL l)
  have h3 := total_parts l
  have h4 : (if wholeL l then 47 :: joinL (partsL l).dropLast else joinL (partsL l).dropLast).length ≤ l.length + 2 := by
    split
    · rw [List.length_cons]; omega
    · omega
  unfold dirL
  generalize (if wholeL l then 47 :: joinL (partsL l).dropLast else joinL (partsL l).dropLast) = X at h4 ⊢
  by_cases hX : X = []
  · rw [if_pos hX]; simp
  · rw [if_neg hX]; omega
theorem fold_len (a b : List UInt8) : (foldL a b).length ≤ a.length + b.length + 3 := by
  unfold foldL
  have h1 := join_le (foldP (partsL (if wholeL b then b else joinP a b)))
  have h2 := (fold_total (partsL (if wholeL b then b else joinP a b)) _ (Nat.le_refl _)).1
  rw [List.take_length] at h2
  have h3 := total_parts (if wholeL b then b else joinP a b)
  have h4 := join_size a b
  simp only [List.length_cons]
  split at h1 <;> simp_all <;> omega
theorem sz (l : List UInt8) : (⟨l.toArray⟩ : ByteArray).size = l.length := by
  show l.toArray.size = _
  rw [List.size_toArray]

set_option maxHeartbeats 4000000 in
theorem joins_walk (C : PathOk) (a b : ByteArray) (ha : a.size ≤ 281474976710656) (hb : b.size ≤ 281474976710656) (w : World) :
    Calls Try.prog 4 #[.string a, .string b] w fun e w' => e = .returned (.bool true) ∧ Below w.heap.size w w' := by
  have HC := Lib.hid C
  clear C
  have za := size_list a
  have zb := size_list b
  have HM := Lib.hid (show ∀ x ∈ [a.data.toList, b.data.toList], x.length ≤ 281474976710656 by intro x hx; simp only [List.mem_cons, List.not_mem_nil, or_false] at hx; rcases hx with rfl | rfl <;> omega)
  cases hs : shortB [a.data.toList, b.data.toList] with
  | false =>
    have HS := Lib.hid hs
    clear hs za zb
    go_enter Try.func4, Try.ntmps4
    go_wp2_with fail
    refine (short_known _ _ HS.out _ _ _ (texts_two _ a b) HM.out (by simp)).mono ?_
    rintro e w' ⟨rfl, rfl⟩
    go_wp2_with fail
    refine (pawake HC.out _).mono ?_
    rintro e w1 ⟨rfl, b1⟩
    go_wp2_with fail
    go_ret
    exact ⟨rfl, ((Below.refl _ _).alloc (Nat.le_refl _) _).trans (b1.mono (by simp))⟩
  | true =>
    have hsz : a.size ≤ 5000 ∧ b.size ≤ 5000 := by
      have h : sumL [a.data.toList, b.data.toList] ≤ 5000 := by simpa [shortB] using hs
      simp only [sumL] at h
      omega
    have HS := Lib.hid hs
    clear hs
    go_enter Try.func4, Try.ntmps4
    go_wp2_with fail
    refine (short_known _ _ HS.out _ _ _ (texts_two _ a b) HM.out (by simp)).mono ?_
    rintro e w' ⟨rfl, rfl⟩
    go_wp2_with fail
    have b0 : Below w.heap.size w (w.alloc (.cells #[.string a, .string b] 9)) := (Below.refl _ _).alloc (Nat.le_refl _) _
    refine (HC.out.join a b _ (by omega) (by omega)).mono ?_
    rintro e w1 ⟨rfl, b1⟩
    go_wp2_with fail
    refine (rjoin_any a b (by omega) (by omega) _).mono ?_
    rintro e w' ⟨rfl, rfl⟩
    go_wp2_with fail
    refine (HC.out.fold a b _ (by omega) (by omega)).mono ?_
    rintro e w2 ⟨rfl, b2⟩
    go_wp2_with fail
    refine (rfold_any a b (by omega) (by omega) _).mono ?_
    rintro e w3 ⟨rfl, b3⟩
    go_wp2_with fail
    refine (pawake HC.out _).mono ?_
    rintro e w4 ⟨rfl, b4⟩
    go_wp2_with fail
    go_ret
    have s0 := b0.size
    have s1 := b1.size
    have s2 := b2.size
    have s3 := b3.size
    exact ⟨rfl, ((((b0.trans (b1.mono (by omega))).trans (b2.mono (by omega))).trans (b3.mono (by omega))).trans (b4.mono (by omega)))⟩

theorem fold_known (r : List UInt8) (C : PathOk) (c : ByteArray) (l : List UInt8) (w : World) (h : foldL c.data.toList l = r) (hc : c.size ≤ 16777216) (hl : (⟨l.toArray⟩ : ByteArray).size ≤ 16777216) :
    Calls Try.prog 21 #[.string c, .string ⟨l.toArray⟩] w fun e w' => e = .returned (.string ⟨r.toArray⟩) ∧ Below w.heap.size w w' := by
  subst h
  exact C.fold c ⟨l.toArray⟩ w hc hl

set_option maxHeartbeats 4000000 in
theorem whole_walk (C : PathOk) (c p : ByteArray) (hc : c.size ≤ 281474976710656) (hp : p.size ≤ 281474976710656) (w : World) :
    Calls Try.prog 7 #[.string c, .string p] w fun e w' => e = .returned (.bool true) ∧ Below w.heap.size w w' := by
  have HC := Lib.hid C
  clear C
  have zc := size_list c
  have zp := size_list p
  have HM := Lib.hid (show ∀ x ∈ [c.data.toList, p.data.toList], x.length ≤ 281474976710656 by intro x hx; simp only [List.mem_cons, List.not_mem_nil, or_false] at hx; rcases hx with rfl | rfl <;> omega)
  cases hs : shortB [c.data.toList, p.data.toList] with
  | false =>
    have HS := Lib.hid hs
    clear hs zc zp
    go_enter Try.func7, Try.ntmps7
    go_wp2_with fail
    refine (short_known _ _ HS.out _ _ _ (texts_two _ c p) HM.out (by simp)).mono ?_
    rintro e w' ⟨rfl, rfl⟩
    go_wp2_with fail
    refine (pawake HC.out _).mono ?_
    rintro e w1 ⟨rfl, b1⟩
    go_wp2_with fail
    go_ret
    exact ⟨rfl, ((Below.refl _ _).alloc (Nat.le_refl _) _).trans (b1.mono (by simp))⟩
  | true =>
    have hsz : c.size ≤ 5000 ∧ p.size ≤ 5000 := by
      have h : sumL [c.data.toList, p.data.toList] ≤ 5000 := by simpa [shortB] using hs
      simp only [sumL] at h
      omega
    have HS := Lib.hid hs
    clear hs
    have HF := Lib.hid (fold_whole c.data.toList p.data.toList)
    have HJ := Lib.hid (show (joinP (dirL p.data.toList) (baseL p.data.toList)).length ≤ 16777216 by
      have h1 := dir_len p.data.toList
      have h2 := base_len p.data.toList
      have h3 := join_size (dirL p.data.toList) (baseL p.data.toList)
      omega)
    have HD := Lib.hid (show (dirL p.data.toList).length ≤ 16777216 by have h1 := dir_len p.data.toList; omega)
    have HB := Lib.hid (show (baseL p.data.toList).length ≤ 16777216 by have h1 := base_len p.data.toList; omega)
    go_enter Try.func7, Try.ntmps7
    go_wp2_with fail
    refine (short_known _ _ HS.out _ _ _ (texts_two _ c p) HM.out (by simp)).mono ?_
    rintro e w' ⟨rfl, rfl⟩
    go_wp2_with fail
    have b0 : Below w.heap.size w (w.alloc (.cells #[.string c, .string p] 9)) := (Below.refl _ _).alloc (Nat.le_refl _) _
    refine (HC.out.dir p _ (by omega)).mono ?_
    rintro e w1 ⟨rfl, b1⟩
    go_wp2_with fail
    refine (HC.out.base p _ (by omega)).mono ?_
    rintro e w2 ⟨rfl, b2⟩
    go_wp2_with fail
    refine (HC.out.join ⟨(dirL p.data.toList).toArray⟩ ⟨(baseL p.data.toList).toArray⟩ _ (by rw [sz]; exact HD.out) (by rw [sz]; exact HB.out)).mono ?_
    rintro e w3 ⟨rfl, b3⟩
    go_wp2_with fail
    refine (fold_known _ HC.out c _ _ HF.out (by omega) (by rw [sz]; exact HJ.out)).mono ?_
    rintro e w4 ⟨rfl, b4⟩
    go_wp2_with fail
    refine (HC.out.fold c p _ (by omega) (by omega)).mono ?_
    rintro e w5 ⟨rfl, b5⟩
    go_wp2_with fail
    refine (pawake HC.out _).mono ?_
    rintro e w6 ⟨rfl, b6⟩
    go_wp2_with fail
    go_ret
    have s0 := b0.size
    have s1 := b1.size
    have s2 := b2.size
    have s3 := b3.size
    have s4 := b4.size
    have s5 := b5.size
    exact ⟨rfl, ((((((b0.trans (b1.mono (by omega))).trans (b2.mono (by omega))).trans (b3.mono (by omega))).trans (b4.mono (by omega))).trans (b5.mono (by omega))).trans (b6.mono (by omega)))⟩
end Go.Proofs.Ytkpbeljifpokdaa
