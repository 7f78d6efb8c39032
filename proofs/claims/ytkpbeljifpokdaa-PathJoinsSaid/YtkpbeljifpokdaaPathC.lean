/-
  What layer path's functions answer, as one word; awake, and the laws PathTells, PathJoins, PathWhole out of it.
-/
import Derived.Test.YtkpbeljifpokdaaShort
import Derived.Test.YtkpbeljifpokdaaPathPlain
namespace Go.Proofs.Ytkpbeljifpokdaa
open Go Go.RowKit

/-- A call that hands back a text and leaves what was there. -/
def GivesText (l : List UInt8) (w : World) (e : Ending) (w' : World) : Prop := e = .returned (.string ⟨l.toArray⟩) ∧ Below w.heap.size w w'

/-- The layer's six calls answer as the document says, of texts of some megabytes. -/
structure PathOk : Prop where
  parts : ∀ (s : ByteArray) (w : World), s.size ≤ 16777216 → Calls Try.prog 11 #[.string s] w fun e w' => ∃ v, e = .returned v ∧ Texts w.heap.size w' v (partsL s.data.toList) ∧ Below w.heap.size w w'
  base : ∀ (s : ByteArray) (w : World), s.size ≤ 16777216 → Calls Try.prog 13 #[.string s] w (GivesText (baseL s.data.toList) w)
  dir : ∀ (s : ByteArray) (w : World), s.size ≤ 16777216 → Calls Try.prog 15 #[.string s] w (GivesText (dirL s.data.toList) w)
  join : ∀ (a b : ByteArray) (w : World), a.size ≤ 16777216 → b.size ≤ 16777216 → Calls Try.prog 19 #[.string a, .string b] w (GivesText (joinP a.data.toList b.data.toList) w)
  fold : ∀ (a b : ByteArray) (w : World), a.size ≤ 16777216 → b.size ≤ 16777216 → Calls Try.prog 21 #[.string a, .string b] w (GivesText (foldL a.data.toList b.data.toList) w)
  name : ∀ (s : ByteArray) (w : World), s.size ≤ 16777216 → Calls Try.prog 17 #[.string s] w fun e w' => e = .returned (.bool (nameOkL s.data.toList)) ∧ Below w.heap.size w w'

theorem GivesText.is {l r : List UInt8} {w w' : World} {e : Ending} (h : GivesText l w e w') (hl : l = r) : e = .returned (.string ⟨r.toArray⟩) ∧ Below w.heap.size w w' := by
  subst hl
  exact h

set_option maxHeartbeats 1000000 in
theorem pawake (C : PathOk) (w : World) : Calls Try.prog 9 #[] w fun e w' => e = .returned (.bool true) ∧ Below w.heap.size w w' := by
  have HC := Lib.hid C
  clear C
  go_enter Try.func9, Try.ntmps9
  go_wp2_with fail
  refine (HC.out.fold _ _ _ (by decide) (by decide)).mono ?_
  intro e w1 h
  obtain ⟨rfl, b1⟩ := h.is (r := [47, 97, 47, 99, 47, 100]) (by decide)
  clear h
  go_wp2_with fail
  refine (HC.out.base _ _ (by decide)).mono ?_
  intro e w2 h
  obtain ⟨rfl, b2⟩ := h.is (r := [98]) (by decide)
  clear h
  go_wp2_with fail
  refine (HC.out.dir _ _ (by decide)).mono ?_
  intro e w3 h
  obtain ⟨rfl, b3⟩ := h.is (r := [97]) (by decide)
  clear h
  go_wp2_with fail
  refine (HC.out.fold _ _ _ (by decide) (by decide)).mono ?_
  intro e w4 h
  obtain ⟨rfl, b4⟩ := h.is (r := [47]) (by decide)
  clear h
  go_wp2_with fail
  refine (HC.out.name ⟨#[120]⟩ _ (by decide)).mono ?_
  rintro e w5 ⟨he, b5⟩
  obtain rfl : e = .returned (.bool true) := he
  go_wp2_with fail
  refine (HC.out.name ⟨#[46, 46]⟩ _ (by decide)).mono ?_
  rintro e w6 ⟨he, b6⟩
  obtain rfl : e = .returned (.bool false) := he
  go_wp2_with fail
  go_ret
  have s1 := b1.size
  have s2 := b2.size
  have s3 := b3.size
  have s4 := b4.size
  have s5 := b5.size
  exact ⟨rfl, ((((b1.trans (b2.mono s1)).trans (b3.mono (by omega))).trans (b4.mono (by omega))).trans (b5.mono (by omega))).trans (b6.mono (by omega))⟩

/-- A row of one text that has just been made. -/
theorem texts_one (w : World) (s : ByteArray) : Texts w.heap.size (w.alloc (.cells #[.string s] 9)) (.slice (some ⟨w.heap.size, 0, none⟩) 1 1) [s.data.toList] :=
  ⟨rfl, Or.inr ⟨w.heap.size, 1, #[.string s], rfl, Nat.le_refl _, (MapKept.heap_alloc w _).1, Nat.le_refl _, by decide, rfl, rfl⟩⟩
theorem texts_two (w : World) (s t : ByteArray) : Texts w.heap.size (w.alloc (.cells #[.string s, .string t] 9)) (.slice (some ⟨w.heap.size, 0, none⟩) 2 2) [s.data.toList, t.data.toList] :=
  ⟨rfl, Or.inr ⟨w.heap.size, 2, #[.string s, .string t], rfl, Nat.le_refl _, (MapKept.heap_alloc w _).1, Nat.le_refl _, by decide, rfl, rfl⟩⟩
theorem texts_three (w : World) (s t u : ByteArray) : Texts w.heap.size (w.alloc (.cells #[.string s, .string t, .string u] 9)) (.slice (some ⟨w.heap.size, 0, none⟩) 3 3) [s.data.toList, t.data.toList, u.data.toList] :=
  ⟨rfl, Or.inr ⟨w.heap.size, 3, #[.string s, .string t, .string u], rfl, Nat.le_refl _, (MapKept.heap_alloc w _).1, Nat.le_refl _, by decide, rfl, rfl⟩⟩

theorem short_known (L : List (List UInt8)) (b : Bool) (hb : shortB L = b) (B : Nat) (v : Value) (w : World) (hT : Texts B w v L) (hx : ∀ x ∈ L, x.length ≤ 281474976710656) (hne : L ≠ []) :
    Calls Try.prog 8 #[v] w fun e w' => e = .returned (.bool b) ∧ w = w' := by
  subst hb
  exact short_any L B v w hT hx hne

set_option maxHeartbeats 2000000 in
theorem tells_walk (C : PathOk) (p : ByteArray) (hp : p.size ≤ 281474976710656) (w : World) :
    Calls Try.prog 3 #[.string p] w fun e w' => e = .returned (.bool true) ∧ Below w.heap.size w w' := by
  have HC := Lib.hid C
  clear C
  have hz := size_list p
  have HM := Lib.hid (show ∀ x ∈ [p.data.toList], x.length ≤ 281474976710656 by intro x hx; rw [List.mem_singleton] at hx; subst hx; omega)
  cases hs : shortB [p.data.toList] with
  | false =>
    have HS := Lib.hid hs
    clear hs hz
    go_enter Try.func3, Try.ntmps3
    go_wp2_with fail
    refine (short_known _ _ HS.out _ _ _ (texts_one _ p) HM.out (by simp)).mono ?_
    rintro e w' ⟨rfl, rfl⟩
    go_wp2_with fail
    refine (pawake HC.out _).mono ?_
    rintro e w1 ⟨rfl, b1⟩
    go_wp2_with fail
    go_ret
    exact ⟨rfl, ((Below.refl _ _).alloc (Nat.le_refl _) _).trans (b1.mono (by simp))⟩
  | true =>
    have hsz : p.size ≤ 5000 := by
      have h : sumL [p.data.toList] ≤ 5000 := by simpa [shortB] using hs
      simp only [sumL] at h
      omega
    have HS := Lib.hid hs
    clear hs hz
    go_enter Try.func3, Try.ntmps3
    go_wp2_with fail
    refine (short_known _ _ HS.out _ _ _ (texts_one _ p) HM.out (by simp)).mono ?_
    rintro e w' ⟨rfl, rfl⟩
    go_wp2_with fail
    have b0 : Below w.heap.size w (w.alloc (.cells #[.string p] 9)) := (Below.refl _ _).alloc (Nat.le_refl _) _
    refine (HC.out.parts p _ (by omega)).mono ?_
    rintro e w1 ⟨v1, rfl, hT1, b1⟩
    have HT1 := Lib.hid hT1
    clear hT1
    go_wp2_with fail
    refine (rparts_any p (by omega) _).mono ?_
    rintro e w2 ⟨v2, rfl, hT2, b2⟩
    have HT2 := Lib.hid hT2
    clear hT2
    go_wp2_with fail
    refine (rsame_any _ _ _ _ _ _ _ (HT1.out.below b2) HT2.out).mono ?_
    rintro e w3 ⟨he, b3⟩
    rw [decide_eq_true rfl] at he
    subst he
    go_wp2_with fail
    refine (HC.out.base p _ (by omega)).mono ?_
    rintro e w4 ⟨rfl, b4⟩
    go_wp2_with fail
    refine (rbase_any p (by omega) _).mono ?_
    rintro e w5 ⟨rfl, b5⟩
    go_wp2_with fail
    refine (HC.out.dir p _ (by omega)).mono ?_
    rintro e w6 ⟨rfl, b6⟩
    go_wp2_with fail
    refine (rdir_any p (by omega) _).mono ?_
    rintro e w7 ⟨rfl, b7⟩
    go_wp2_with fail
    refine (HC.out.name p _ (by omega)).mono ?_
    rintro e w8 ⟨rfl, b8⟩
    go_wp2_with fail
    refine (rname_any p (by unfold maxLen; omega) _).mono ?_
    rintro e w' ⟨rfl, rfl⟩
    go_wp2_with fail
    refine (pawake HC.out _).mono ?_
    rintro e w9 ⟨rfl, b9⟩
    go_wp2_with fail
    go_ret
    have s0 := b0.size
    have s1 := b1.size
    have s2 := b2.size
    have s3 := b3.size
    have s4 := b4.size
    have s5 := b5.size
    have s6 := b6.size
    have s7 := b7.size
    have s8 := b8.size
    exact ⟨rfl, (((((((((b0.trans (b1.mono s0)).trans (b2.mono (by omega))).trans (b3.mono (by omega))).trans (b4.mono (by omega))).trans (b5.mono (by omega))).trans (b6.mono (by omega))).trans (b7.mono (by omega))).trans (b8.mono (by omega)))).trans (b9.mono (by omega))⟩
end Go.Proofs.Ytkpbeljifpokdaa
