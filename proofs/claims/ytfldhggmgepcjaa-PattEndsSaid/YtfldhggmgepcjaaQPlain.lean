/-
  Chapter 10 in plain words: patterns as rows of wants, what a row of wants wants.
-/
import Derived.Test.YtfldhggmgepcjaaClass
namespace Go.Proofs.Ytfldhggmgepcjaa
set_option maxRecDepth 100000
open Go Go.RowKit

/-- Whether a byte is of a class, by its name. -/
def clsB (s : List UInt8) (c : Int) : Bool := match insRows.find? (fun r => r.2.1.data.toList == s) with | some r => clsF r.2.2 c | none => false
theorem cls_of {s : ByteArray} {n : Int} {b : Bool} (h : IsClass s n b) : b = clsB s.data.toList n := by
  rcases h with ⟨r, hr, rfl, rfl⟩ | ⟨h, rfl⟩
  · simp only [insRows, List.mem_cons, List.not_mem_nil, or_false] at hr
    rcases hr with rfl | rfl | rfl | rfl | rfl | rfl | rfl | rfl | rfl | rfl | rfl | rfl <;> rfl
  · have h2 : insRows.find? (fun r => r.2.1.data.toList == s.data.toList) = none := by
      rw [List.find?_eq_none]
      intro r hr e
      refine h r hr ?_
      have e2 : r.2.1.data.toList = s.data.toList := by simpa using e
      have e3 : r.2.1.data = s.data := Array.toList_inj.1 e2
      obtain ⟨_, q, _⟩ := r
      cases s; cases q
      simp_all
    unfold clsB
    rw [h2]

/-- A member of a set; a want. -/
inductive Mb where
  | span (a b : UInt8)
  | cls (s : List UInt8)
inductive Wt where
  | one
  | many
  | span (a b : UInt8)
  | set (t : Bool) (l : List Mb)

def Mb.tk : Mb → UInt8 → Bool
  | .span a b, c => decide (a.toNat ≤ c.toNat) && decide (c.toNat ≤ b.toNat)
  | .cls s, c => clsB s c.toNat
def Wt.tk : Wt → UInt8 → Bool
  | .one, _ => true
  | .many, _ => true
  | .span a b, c => decide (a.toNat ≤ c.toNat) && decide (c.toNat ≤ b.toNat)
  | .set t l, c => (l.any fun m => m.tk c) != t
def Wt.rep : Wt → Bool
  | .many => true
  | _ => false
theorem rep_tk {x : Wt} (h : x.rep = true) (c : UInt8) : x.tk c = true := by cases x <;> simp_all [Wt.rep, Wt.tk]

/-- What one want takes; what a row of wants wants. -/
def TkL (x : Wt) (t : List UInt8) : Prop := x.rep = true ∨ ∃ c, t = [c] ∧ x.tk c = true
def Mat : List Wt → List UInt8 → Prop
  | [], s => s = []
  | x :: r, s => ∃ a b, s = a ++ b ∧ TkL x a ∧ Mat r b
theorem mat_append : ∀ (r1 r2 : List Wt) (s : List UInt8), Mat (r1 ++ r2) s ↔ ∃ a b, s = a ++ b ∧ Mat r1 a ∧ Mat r2 b
  | [], r2, s => by
    constructor
    · intro h; exact ⟨[], s, rfl, rfl, h⟩
    · rintro ⟨a, b, rfl, h1, h2⟩
      simp only [Mat] at h1
      subst h1; exact h2
  | x :: r1, r2, s => by
    constructor
    · rintro ⟨a, b, rfl, h1, h2⟩
      obtain ⟨c, d, rfl, h3, h4⟩ := (mat_append r1 r2 b).1 h2
      exact ⟨a ++ c, d, by simp, ⟨a, c, rfl, h1, h3⟩, h4⟩
    · rintro ⟨a, b, rfl, ⟨c, d, rfl, h1, h2⟩, h3⟩
      exact ⟨c, d ++ b, by simp, h1, (mat_append r1 r2 _).2 ⟨d, b, rfl, h2, h3⟩⟩
theorem mat_one (x : Wt) (s : List UInt8) : Mat [x] s ↔ TkL x s := by
  constructor
  · rintro ⟨a, b, rfl, h, hb⟩
    simp only [Mat] at hb
    subst hb; simpa using h
  · intro h; exact ⟨s, [], by simp, h, rfl⟩
theorem mat_snoc (r : List Wt) (x : Wt) (s : List UInt8) : Mat (r ++ [x]) s ↔ ∃ a b, s = a ++ b ∧ Mat r a ∧ TkL x b := by
  rw [mat_append]
  constructor
  · rintro ⟨a, b, h, h1, h2⟩; exact ⟨a, b, h, h1, (mat_one x b).1 h2⟩
  · rintro ⟨a, b, h, h1, h2⟩; exact ⟨a, b, h, h1, (mat_one x b).2 h2⟩
theorem tk_rev (x : Wt) (t : List UInt8) : TkL x t.reverse ↔ TkL x t := by
  unfold TkL
  constructor
  · rintro (h | ⟨c, h, hc⟩)
    · exact Or.inl h
    · exact Or.inr ⟨c, by rw [← List.reverse_reverse t, h]; rfl, hc⟩
  · rintro (h | ⟨c, rfl, hc⟩)
    · exact Or.inl h
    · exact Or.inr ⟨c, rfl, hc⟩
theorem mat_rev : ∀ (r : List Wt) (s : List UInt8), Mat r.reverse s.reverse ↔ Mat r s
  | [], s => by simp [Mat]
  | x :: r, s => by
    rw [List.reverse_cons, mat_snoc]
    constructor
    · rintro ⟨a, b, h, h1, h2⟩
      refine ⟨b.reverse, a.reverse, ?_, (tk_rev x b).2 h2, ?_⟩
      · have := congrArg List.reverse h
        simpa using this
      · rw [← mat_rev r, List.reverse_reverse]; exact h1
    · rintro ⟨a, b, rfl, h1, h2⟩
      exact ⟨b.reverse, a.reverse, by simp, (mat_rev r b).2 h2, (tk_rev x a).2 h1⟩

/-- It can be decided. -/
def matB : List Wt → List UInt8 → Bool
  | [], s => s.isEmpty
  | x :: r, s => if x.rep then (List.range (s.length + 1)).any (fun k => matB r (s.drop k)) else match s with | [] => false | c :: t => x.tk c && matB r t
theorem mat_iff : ∀ (r : List Wt) (s : List UInt8), matB r s = true ↔ Mat r s
  | [], s => by simp [matB, Mat, List.isEmpty_iff]
  | x :: r, s => by
    unfold matB
    cases hx : x.rep with
    | true =>
      rw [if_pos rfl, List.any_eq_true]
      constructor
      · rintro ⟨k, -, h⟩
        exact ⟨s.take k, s.drop k, (List.take_append_drop k s).symm, Or.inl hx, (mat_iff r _).1 h⟩
      · rintro ⟨a, b, rfl, -, h⟩
        exact ⟨a.length, by simp; omega, by rw [List.drop_left]; exact (mat_iff r b).2 h⟩
    | false =>
      rw [if_neg (by simp)]
      constructor
      · intro h
        cases s with
        | nil => cases h
        | cons c t =>
          rw [Bool.and_eq_true] at h
          exact ⟨[c], t, rfl, Or.inr ⟨c, rfl, h.1⟩, (mat_iff r t).1 h.2⟩
      · rintro ⟨a, b, rfl, h1 | ⟨c, rfl, h1⟩, h2⟩
        · rw [hx] at h1; cases h1
        · show (x.tk c && matB r b) = true
          rw [h1, (mat_iff r b).2 h2]; rfl
instance (r : List Wt) (s : List UInt8) : Decidable (Mat r s) := decidable_of_iff _ (mat_iff r s)

theorem tk_rep {x : Wt} (h : x.rep = true) (t : List UInt8) : TkL x t := Or.inl h
theorem tk_not {x : Wt} (h : x.rep = false) (t : List UInt8) : TkL x t ↔ ∃ c, t = [c] ∧ x.tk c = true := by simp [TkL, h]

/-- One byte more. -/
theorem mat_rep_nil (r : List Wt) {x : Wt} (h : x.rep = true) : Mat (r ++ [x]) [] ↔ Mat r [] := by
  rw [mat_snoc]
  constructor
  · rintro ⟨a, b, e, h1, -⟩
    obtain ⟨rfl, rfl⟩ := List.append_eq_nil_iff.1 e.symm
    exact h1
  · intro h1; exact ⟨[], [], rfl, h1, tk_rep h _⟩
theorem mat_not_nil (r : List Wt) {x : Wt} (h : x.rep = false) : ¬ Mat (r ++ [x]) [] := by
  rw [mat_snoc]
  rintro ⟨a, b, e, -, h2⟩
  obtain ⟨rfl, rfl⟩ := List.append_eq_nil_iff.1 e.symm
  obtain ⟨c, e2, -⟩ := (tk_not h _).1 h2
  cases e2
theorem mat_rep_snoc (r : List Wt) {x : Wt} (h : x.rep = true) (t : List UInt8) (c : UInt8) : Mat (r ++ [x]) (t ++ [c]) ↔ Mat r (t ++ [c]) ∨ Mat (r ++ [x]) t := by
  rw [mat_snoc, mat_snoc]
  constructor
  · rintro ⟨a, b, e, h1, -⟩
    rcases List.eq_nil_or_concat b with rfl | ⟨b', d, rfl⟩
    · exact Or.inl (by rw [e, List.append_nil]; exact h1)
    · have e2 : t ++ [c] = (a ++ b') ++ [d] := by rw [e]; simp
      obtain ⟨e3, -⟩ := List.append_inj' e2 rfl
      exact Or.inr ⟨a, b', e3, h1, tk_rep h _⟩
  · rintro (h1 | ⟨a, b, rfl, h1, -⟩)
    · exact ⟨t ++ [c], [], by simp, h1, tk_rep h _⟩
    · exact ⟨a, b ++ [c], by simp, h1, tk_rep h _⟩
theorem mat_not_snoc (r : List Wt) {x : Wt} (h : x.rep = false) (t : List UInt8) (c : UInt8) : Mat (r ++ [x]) (t ++ [c]) ↔ Mat r t ∧ x.tk c = true := by
  rw [mat_snoc]
  constructor
  · rintro ⟨a, b, e, h1, h2⟩
    obtain ⟨d, rfl, h3⟩ := (tk_not h _).1 h2
    obtain ⟨rfl, e4⟩ := List.append_inj' e rfl
    cases e4
    exact ⟨h1, h3⟩
  · rintro ⟨h1, h2⟩
    exact ⟨t, [c], rfl, h1, (tk_not h _).2 ⟨c, rfl, h2⟩⟩

/-- Wants that repeat, one behind the other, are one. -/
def pushW (r : List Wt) (x : Wt) : List Wt := if r ≠ [] ∧ x.rep = true ∧ (r.getLast?.map Wt.rep) = some true then r else r ++ [x]
theorem mat_push (r : List Wt) (x : Wt) (s : List UInt8) : Mat (pushW r x) s ↔ Mat (r ++ [x]) s := by
  unfold pushW
  split
  · rename_i h
    obtain ⟨hne, hx, hl⟩ := h
    rcases List.eq_nil_or_concat r with rfl | ⟨q, y, rfl⟩
    · exact absurd rfl hne
    · have hy : y.rep = true := by simpa using hl
      rw [List.concat_eq_append, mat_snoc, mat_snoc]
      constructor
      · rintro ⟨a, b, rfl, h1, h2⟩
        exact ⟨a ++ b, [], by simp, (mat_snoc _ _ _).2 ⟨a, b, rfl, h1, h2⟩, tk_rep hx _⟩
      · rintro ⟨a, b, rfl, h1, h2⟩
        obtain ⟨a1, a2, rfl, h3, h4⟩ := (mat_snoc _ _ _).1 h1
        exact ⟨a1, a2 ++ b, by simp, h3, tk_rep hy _⟩
  · rfl
theorem mat_fold (l : List Wt) : ∀ (r : List Wt) (s : List UInt8), Mat (l.foldl pushW r) s ↔ Mat (r ++ l) s := by
  induction l with
  | nil => intro r s; simp
  | cons x l ih =>
    intro r s
    rw [List.foldl_cons, ih, mat_append, show r ++ x :: l = (r ++ [x]) ++ l by simp, mat_append]
    constructor
    · rintro ⟨a, b, e, h1, h2⟩; exact ⟨a, b, e, (mat_push r x a).1 h1, h2⟩
    · rintro ⟨a, b, e, h1, h2⟩; exact ⟨a, b, e, (mat_push r x a).2 h1, h2⟩
/-- No two wants that repeat stand side by side. -/
def Alone (r : List Wt) : Prop := ∀ i x y, r[i]? = some x → r[i + 1]? = some y → x.rep = true → y.rep = false
theorem alone_push {r : List Wt} (h : Alone r) (x : Wt) : Alone (pushW r x) := by
  unfold pushW
  split
  · exact h
  · rename_i hc
    intro i a b ha hb hr
    rw [List.getElem?_append] at ha hb
    by_cases h1 : i + 1 < r.length
    · rw [if_pos (by omega)] at ha
      rw [if_pos h1] at hb
      exact h i a b ha hb hr
    · rw [if_neg h1] at hb
      by_cases h2 : i < r.length
      · rw [if_pos h2] at ha
        have h3 : i + 1 = r.length := by omega
        rw [show i + 1 - r.length = 0 by omega] at hb
        simp only [List.getElem?_cons_zero, Option.some.injEq] at hb
        subst hb
        cases hx : x.rep with
        | false => rfl
        | true =>
          exfalso
          refine hc ⟨by intro e; subst e; simp at h2, hx, ?_⟩
          rw [List.getLast?_eq_getElem?, show r.length - 1 = i by omega, ha]
          simp [hr]
      · rw [if_neg h2] at ha
        rw [List.getElem?_eq_none (by simp; omega)] at hb
        cases hb
theorem alone_fold (l : List Wt) : ∀ {r : List Wt}, Alone r → Alone (l.foldl pushW r) := by
  induction l with
  | nil => intro r h; exact h
  | cons x l ih => intro r h; exact ih (alone_push h x)
theorem alone_nil : Alone [] := by intro i x y h; cases h
theorem alone_rev {r : List Wt} (h : Alone r) : Alone r.reverse := by
  intro i x y hx hy hr
  have hi : i + 1 < r.length := by
    obtain ⟨h1, -⟩ := List.getElem?_eq_some_iff.1 hy
    simpa using h1
  rw [List.getElem?_reverse (by omega)] at hx
  rw [List.getElem?_reverse hi] at hy
  cases hy2 : y.rep with
  | false => rfl
  | true =>
    have := h (r.length - 1 - (i + 1)) y x hy (by rw [show r.length - 1 - (i + 1) + 1 = r.length - 1 - i by omega]; exact hx) hy2
    rw [hr] at this; cases this
end Go.Proofs.Ytfldhggmgepcjaa
