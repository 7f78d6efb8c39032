/-
  PathParts, walked, out of the layer's six answers.
-/
import Derived.Test.YtkpbeljifpokdaaPathC3
import Derived.Test.YtkpbeljifpokdaaAppTexts
namespace Go.Proofs.Ytkpbeljifpokdaa
open Go Go.RowKit

theorem parts_count (l : List UInt8) : (partsL l).length ≤ l.length + 1 := by
  have h1 := total_parts l
  have h2 : ∀ L : List (List UInt8), L.length ≤ total L := by
    intro L
    induction L with
    | nil => simp [total]
    | cons x r ih => simp only [total, List.length_cons]; omega
  have h3 := h2 (partsL l)
  omega
theorem same_known (L1 L2 : List (List UInt8)) (h : L1 = L2) (B1 B2 : Nat) (v1 v2 : Value) (w : World) (hT1 : Texts B1 w v1 L1) (hT2 : Texts B2 w v2 L2) :
    Calls Try.prog 10 #[v1, v2] w fun e w' => e = .returned (.bool true) ∧ Below w.heap.size w w' := by
  have h' := rsame_any L1 L2 B1 B2 v1 v2 w hT1 hT2
  rw [decide_eq_true h] at h'
  exact h'

theorem texts_empty2 (w : World) (o : Obj) : Texts w.heap.size ((w.alloc o).alloc (.cells #[] 9)) (.slice (some ⟨w.heap.size + 1, 0, none⟩) 0 0) [] := by
  have h := texts_empty w.heap.size (w.alloc o) (by simp)
  simpa using h

set_option maxHeartbeats 4000000 in
set_option maxRecDepth 100000 in
theorem parts_walk (C : PathOk) (a b : ByteArray) (ha : a.size ≤ 281474976710656) (hb : b.size ≤ 281474976710656) (w : World) :
    Calls Try.prog 6 #[.string a, .string b] w fun e w' => e = .returned (.bool true) ∧ Below w.heap.size w w' := by
  have HC := Lib.hid C
  clear C
  have za := size_list a
  have zb := size_list b
  have HM := Lib.hid (show ∀ x ∈ [a.data.toList, b.data.toList], x.length ≤ 281474976710656 by intro x hx; simp only [List.mem_cons, List.not_mem_nil, or_false] at hx; rcases hx with rfl | rfl <;> omega)
  cases hs : shortB [a.data.toList, b.data.toList] with
  | false =>
    have HS := Lib.hid hs
    clear hs za zb
    go_enter Try.func6, Try.ntmps6
    go_wp2_with fail
    refine (short_known _ _ HS.out _ _ _ (texts_two _ a b) HM.out (by simp)).mono ?_
    rintro e w' ⟨rfl, rfl⟩
    go_wp2_with fail
    refine (pawake HC.out _).mono ?_
    rintro e w1 ⟨rfl, b1⟩
    go_wp2_with fail
    go_ret
    exact ⟨rfl, ((Below.refl _ _).alloc (Nat.le_refl _) _).trans (b1.mono (by simp))⟩
  | true =>
    have hsz : a.size ≤ 5000 ∧ b.size ≤ 5000 := by
      have h : sumL [a.data.toList, b.data.toList] ≤ 5000 := by simpa [shortB] using hs
      simp only [sumL] at h
      omega
    have HS := Lib.hid hs
    have hca := parts_count a.data.toList
    have hcb := parts_count b.data.toList
    have HJ := Lib.hid (show (⟨(joinP a.data.toList b.data.toList).toArray⟩ : ByteArray).size ≤ 16777216 by rw [sz]; have h := join_size a.data.toList b.data.toList; omega)
    clear hs
    have b0 : Below w.heap.size w (w.alloc (.cells #[.string a, .string b] 9)) := (Below.refl _ _).alloc (Nat.le_refl _) _
    by_cases hb0 : 0 < b.size
    · have hne := filled b hb0
      cases hc : ((b[0].toNat : Int) == 47) with
      | true =>
        go_enter Try.func6, Try.ntmps6
        go_wp2_with fail
        refine (short_known _ _ HS.out _ _ _ (texts_two _ a b) HM.out (by simp)).mono ?_
        rintro e w' ⟨rfl, rfl⟩
        go_wp2_with fail
        refine (pawake HC.out _).mono ?_
        rintro e w1 ⟨rfl, b1⟩
        go_wp2_with fail
        go_ret
        exact ⟨rfl, ((Below.refl _ _).alloc (Nat.le_refl _) _).trans (b1.mono (by simp))⟩
      | false =>
        have HP := Lib.hid (parts_beneath a.data.toList b.data.toList (by rw [whole_at b hb0, hc]))
        go_enter Try.func6, Try.ntmps6
        go_wp2_with fail
        refine (short_known _ _ HS.out _ _ _ (texts_two _ a b) HM.out (by simp)).mono ?_
        rintro e w' ⟨rfl, rfl⟩
        go_wp2_with fail
        have HE := Lib.hid (texts_empty2 w (.cells #[.string a, .string b] 9))
        have b0' := b0.alloc (B := w.heap.size) b0.size (.cells #[] 9)
        refine (HC.out.parts a _ (by omega)).mono ?_
        rintro e w1 ⟨v1, rfl, hT1, b1⟩
        have c1 : Below w.heap.size w w1 := b0'.trans (b1.mono b0'.size)
        have HT0 := Lib.hid (HE.out.below (b1.mono (Nat.le_refl _)))
        have HT1 := Lib.hid hT1
        clear hT1 HE b1 b0'
        go_wp2_with (first | (at_builtin; (refine append_texts HT0.out HT1.out (by rw [List.length_nil]; omega) c1.size rfl _ _ rfl rfl rfl ?_); intro v2 w2 hT2 b2) | fail)
        have c2 := c1.trans b2
        have HT2 := Lib.hid (show Texts w.heap.size w2 v2 (partsL a.data.toList) from hT2)
        clear hT2 HT0 HT1 b2 c1
        go_wp2_with fail
        refine (HC.out.parts b _ (by omega)).mono ?_
        rintro e w3 ⟨v3, rfl, hT3, b3⟩
        have c3 := c2.trans (b3.mono c2.size)
        have HT2' := Lib.hid (HT2.out.below b3)
        have HT3 := Lib.hid hT3
        clear hT3 HT2 b3 c2
        go_wp2_with (first | (at_builtin; (refine append_texts HT2'.out HT3.out (by omega) c3.size rfl _ _ rfl rfl rfl ?_); intro v4 w4 hT4 b4) | fail)
        have c4 := c3.trans b4
        have HT4 := Lib.hid hT4
        clear hT4 HT2' HT3 b4 c3
        go_wp2_with fail
        refine (HC.out.join a b _ (by omega) (by omega)).mono ?_
        rintro e w5 ⟨rfl, b5⟩
        have c5 := c4.trans (b5.mono c4.size)
        have HT5 := Lib.hid (HT4.out.below b5)
        clear HT4 b5 c4
        go_wp2_with fail
        refine (HC.out.parts ⟨(joinP a.data.toList b.data.toList).toArray⟩ _ HJ.out).mono ?_
        rintro e w6 ⟨v6, rfl, hT6, b6⟩
        have c6 := c5.trans (b6.mono c5.size)
        have HT5' := Lib.hid (HT5.out.below b6)
        have HT6 := Lib.hid hT6
        clear hT6 HT5 b6 c5
        go_wp2_with fail
        refine (same_known _ _ HP.out _ _ _ _ _ HT6.out HT5'.out).mono ?_
        rintro e w7 ⟨rfl, b7⟩
        have c7 := c6.trans (b7.mono c6.size)
        go_wp2_with fail
        refine (pawake HC.out _).mono ?_
        rintro e w8 ⟨rfl, b8⟩
        go_wp2_with fail
        go_ret
        exact ⟨rfl, c7.trans (b8.mono c7.size)⟩
    · obtain rfl := bare b hb0
      have HP := Lib.hid (parts_beneath a.data.toList [] rfl)
      go_enter Try.func6, Try.ntmps6
      go_wp2_with fail
      refine (short_known _ _ HS.out _ _ _ (texts_two _ a ⟨#[]⟩) HM.out (by simp)).mono ?_
      rintro e w' ⟨rfl, rfl⟩
      go_wp2_with fail
      have HE := Lib.hid (texts_empty2 w (.cells #[.string a, .string ⟨#[]⟩] 9))
      have b0' := b0.alloc (B := w.heap.size) b0.size (.cells #[] 9)
      refine (HC.out.parts a _ (by omega)).mono ?_
      rintro e w1 ⟨v1, rfl, hT1, b1⟩
      have c1 : Below w.heap.size w w1 := b0'.trans (b1.mono b0'.size)
      have HT0 := Lib.hid (HE.out.below (b1.mono (Nat.le_refl _)))
      have HT1 := Lib.hid hT1
      clear hT1 HE b1 b0'
      go_wp2_with (first | (at_builtin; (refine append_texts HT0.out HT1.out (by rw [List.length_nil]; omega) c1.size rfl _ _ rfl rfl rfl ?_); intro v2 w2 hT2 b2) | fail)
      have c2 := c1.trans b2
      have HT2 := Lib.hid (show Texts w.heap.size w2 v2 (partsL a.data.toList) from hT2)
      clear hT2 HT0 HT1 b2 c1
      go_wp2_with fail
      refine (HC.out.parts ⟨#[]⟩ _ (by omega)).mono ?_
      rintro e w3 ⟨v3, rfl, hT3, b3⟩
      have c3 := c2.trans (b3.mono c2.size)
      have HT2' := Lib.hid (HT2.out.below b3)
      have HT3 := Lib.hid hT3
      clear hT3 HT2 b3 c2
      go_wp2_with (first | (at_builtin; (refine append_texts HT2'.out HT3.out (by omega) c3.size rfl _ _ rfl rfl rfl ?_); intro v4 w4 hT4 b4) | fail)
      have c4 := c3.trans b4
      have HT4 := Lib.hid hT4
      clear hT4 HT2' HT3 b4 c3
      go_wp2_with fail
      refine (HC.out.join a ⟨#[]⟩ _ (by omega) (by omega)).mono ?_
      rintro e w5 ⟨rfl, b5⟩
      have c5 := c4.trans (b5.mono c4.size)
      have HT5 := Lib.hid (HT4.out.below b5)
      clear HT4 b5 c4
      go_wp2_with fail
      refine (HC.out.parts ⟨(joinP a.data.toList []).toArray⟩ _ HJ.out).mono ?_
      rintro e w6 ⟨v6, rfl, hT6, b6⟩
      have c6 := c5.trans (b6.mono c5.size)
      have HT5' := Lib.hid (HT5.out.below b6)
      have HT6 := Lib.hid hT6
      clear hT6 HT5 b6 c5
      go_wp2_with fail
      refine (same_known _ _ HP.out _ _ _ _ _ HT6.out HT5'.out).mono ?_
      rintro e w7 ⟨rfl, b7⟩
      have c7 := c6.trans (b7.mono c6.size)
      go_wp2_with fail
      refine (pawake HC.out _).mono ?_
      rintro e w8 ⟨rfl, b8⟩
      go_wp2_with fail
      go_ret
      exact ⟨rfl, c7.trans (b8.mono c7.size)⟩
end Go.Proofs.Ytkpbeljifpokdaa
