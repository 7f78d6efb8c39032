/-
  The law AtokReads, walked.
-/
import Derived.Test.YtclhpedecimicaaDoorZAwake
import Derived.Test.YtclhpedecimicaaDoorZRToks
namespace Go.Proofs.YtclhpedecimicaaDoor
set_option maxRecDepth 100000
open Go Go.RowKit

theorem toksF_len : ∀ (f : Nat) (l : List UInt8) (p : Nat) (a : List Tk), l.length ≤ f → toksF f l p = .inl a → a.length ≤ l.length + 1
  | 0, l, p, a, h, e => by
    cases e; simp
  | f + 1, [], p, a, h, e => by cases e; simp
  | f + 1, c :: r, p, a, h, e => by
    simp only [List.length_cons, Nat.add_le_add_iff_right] at h
    unfold toksF at e
    split at e
    · have := toksF_len f r (p + 1) a h e
      simp only [List.length_cons]; omega
    · cases ht : tokZ (firstZ (c :: r)) p with
      | inr q => rw [ht] at e; cases e
      | inl x =>
        rw [ht] at e
        simp only at e
        have h1 := first_pos ht
        cases h2 : toksF f ((c :: r).drop (firstZ (c :: r)).length) (p + (firstZ (c :: r)).length) with
        | inr q => rw [h2] at e; cases e
        | inl l =>
          rw [h2] at e
          cases e
          have h3 := toksF_len f _ _ l (by rw [List.length_drop]; simp; omega) h2
          rw [List.length_drop] at h3
          simp only [List.length_cons] at h3 ⊢
          omega
theorem toks_len {l : List UInt8} {p : Nat} {a : List Tk} (h : toks l p = .inl a) : a.length ≤ l.length + 1 := toksF_len _ l p a (Nat.le_refl _) h

set_option maxHeartbeats 8000000 in
theorem areads_walk (s : ByteArray) (ls : s.size ≤ 281474976710656) (w : World) (hL : LaidZ w) :
    Calls Tryd.prog 3 #[.string s] w fun e w' => e = .returned (.bool true) ∧ Below w.heap.size w w' := by
  by_cases hbig : (s.size : Int) > 3000
  · have C := awake12 w hL
    go_enter Tryd.func3, Tryd.ntmps3
    go_wp2_with fail
    refine C.mono ?_
    rintro e w1 ⟨rfl, hb⟩
    go_wp2_with fail
    go_ret
    exact ⟨rfl, hb⟩
  · have hs : s.size ≤ 3000 := by omega
    have C1 := fun W hW => ltokens s (by omega) W hW
    have C2 := fun W => rtokens s (by omega) W
    have C3 := fun W hW => lconst s (by omega) W hW
    have C4 := fun W => rconstZ s (by omega) W
    have HL := Lib.hid hL
    clear hL
    unfold constV at C3
    unfold endZ at C4
    obtain ⟨kv, hkv⟩ : ∃ kv : Int, kv = (((constZ s.data.toList).getD 0 : Nat) : Int) := ⟨_, rfl⟩
    obtain ⟨kb, hkb⟩ : ∃ kb, kb = (constZ s.data.toList).isSome := ⟨_, rfl⟩
    rw [← hkv, ← hkb] at C3 C4
    clear hkv hkb
    cases ht : toks s.data.toList 0 with
    | inl L =>
      have hl : L.length ≤ 200000 := by have := toks_len ht; rw [size_data] at this; omega
      rw [ht] at C1 C2
      clear ht
      go_enter Tryd.func3, Tryd.ntmps3
      go_wp2_with fail
      refine (C1 _ HL.out).mono ?_
      rintro e w1 ⟨hb1, v, rfl, ⟨a, c, rfl⟩, hown⟩
      have HB1 := Lib.hid hb1
      have HR := Lib.hid (show TokRow w1 w.heap.size (.slice a L.length c) L from ⟨⟨a, c, rfl⟩, hown⟩)
      have HL1 := Lib.hid (HL.out.below hb1)
      clear hb1 hown
      go_wp2_with fail
      refine (C2 _).mono ?_
      rintro e w2 ⟨hb2, v, rfl, ⟨a2, d, rfl⟩, hown2⟩
      have HB2 := Lib.hid (below_two HB1.out hb2)
      have HR2 := Lib.hid (show TokRow w2 w1.heap.size (.slice a2 L.length d) L from ⟨⟨a2, d, rfl⟩, hown2⟩)
      have HL2 := Lib.hid (HL1.out.below hb2)
      have HT2 := Lib.hid (HR.out.toks.below hb2)
      clear hb2 hown2
      go_wp2_with fail
      refine (C3 _ HL2.out).mono ?_
      rintro e w3 ⟨rfl, hb3⟩
      have HB3 := Lib.hid (below_two HB2.out hb3)
      have HL3 := Lib.hid (HL2.out.below hb3)
      have HT3 := Lib.hid (HT2.out.below hb3)
      have HU3 := Lib.hid (HR2.out.toks.below hb3)
      clear hb3
      go_wp2_with fail
      refine (C4 _).mono ?_
      rintro e w4 ⟨rfl, rfl⟩
      go_wp2_with fail
      refine (rsameZ a a2 c d L hl _ HT3.out HU3.out).mono ?_
      rintro e w5 ⟨rfl, hb5⟩
      have HB5 := Lib.hid (below_two HB3.out hb5)
      have HL5 := Lib.hid (HL3.out.below hb5)
      have HT5 := Lib.hid (HT3.out.below hb5)
      have HU5 := Lib.hid (HU3.out.below hb5)
      clear hb5
      go_wp2_with fail
      refine (lsameZ a a2 c d L hl _ HT5.out HU5.out).mono ?_
      rintro e w6 ⟨rfl, hb6⟩
      have HB6 := Lib.hid (below_two HB5.out hb6)
      have HL6 := Lib.hid (HL5.out.below hb6)
      clear hb6
      go_wp2_with fail
      refine (awake12 _ HL6.out).mono ?_
      rintro e w7 ⟨rfl, hb7⟩
      have HB7 := Lib.hid (below_two HB6.out hb7)
      clear hb7
      go_wp2_with fail
      go_ret
      exact ⟨rfl, HB7.out⟩
    | inr q =>
      obtain ⟨p, er⟩ := q
      rw [ht] at C1 C2
      clear ht
      have hE : ∀ W, ToksIn W none [] := fun W i x hx => by simp at hx
      go_enter Tryd.func3, Tryd.ntmps3
      go_wp2_with fail
      refine (C1 _ HL.out).mono ?_
      rintro e w1 ⟨hb1, he⟩
      obtain rfl := he
      have HB1 := Lib.hid hb1
      have HL1 := Lib.hid (HL.out.below hb1)
      clear hb1
      go_wp2_with fail
      refine (C2 _).mono ?_
      rintro e w2 ⟨hb2, he⟩
      obtain rfl := he
      have HB2 := Lib.hid (below_two HB1.out hb2)
      have HL2 := Lib.hid (HL1.out.below hb2)
      clear hb2
      go_wp2_with fail
      refine (C3 _ HL2.out).mono ?_
      rintro e w3 ⟨rfl, hb3⟩
      have HB3 := Lib.hid (below_two HB2.out hb3)
      have HL3 := Lib.hid (HL2.out.below hb3)
      clear hb3
      go_wp2_with fail
      refine (C4 _).mono ?_
      rintro e w4 ⟨rfl, rfl⟩
      go_wp2_with fail
      refine (rsameZ none none 0 0 [] (by simp) _ (hE _) (hE _)).mono ?_
      rintro e w5 ⟨rfl, hb5⟩
      have HB5 := Lib.hid (below_two HB3.out hb5)
      have HL5 := Lib.hid (HL3.out.below hb5)
      clear hb5
      go_wp2_with fail
      refine (lsameZ none none 0 0 [] (by simp) _ (hE _) (hE _)).mono ?_
      rintro e w6 ⟨rfl, hb6⟩
      have HB6 := Lib.hid (below_two HB5.out hb6)
      have HL6 := Lib.hid (HL5.out.below hb6)
      clear hb6
      go_wp2_with fail
      refine (awake12 _ HL6.out).mono ?_
      rintro e w7 ⟨rfl, hb7⟩
      have HB7 := Lib.hid (below_two HB6.out hb7)
      clear hb7
      go_wp2_with fail
      go_ret
      exact ⟨rfl, HB7.out⟩
end Go.Proofs.YtclhpedecimicaaDoor
