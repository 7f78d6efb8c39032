/-
  What the landed code's iterator hands out, in plain words: tokens, the end or an error last.
-/
import Derived.Test.YtclhpedecimicaaDoorZTok
namespace Go.Proofs.YtclhpedecimicaaDoor
set_option maxRecDepth 100000
open Go Go.RowKit

def evF : Nat → List UInt8 → Nat → List (Tk × Nat)
  | 0, _, p => [(⟨0, 0, [], p⟩, 0)]
  | _ + 1, [], p => [(⟨0, 0, [], p⟩, 0)]
  | f + 1, c :: r, p =>
    if blkZ c then evF f r (p + 1)
    else match tokZ (firstZ (c :: r)) p with
      | .inr e => [(⟨0, 0, [], p⟩, e)]
      | .inl x => (x, 0) :: evF f ((c :: r).drop (firstZ (c :: r)).length) (p + (firstZ (c :: r)).length)
def evs (l : List UInt8) (p : Nat) : List (Tk × Nat) := evF l.length l p
theorem evF_nil (f p : Nat) : evF f [] p = [(⟨0, 0, [], p⟩, 0)] := by cases f <;> rfl
theorem evF_more : ∀ (f g : Nat) (l : List UInt8) (p : Nat), l.length ≤ f → l.length ≤ g → evF f l p = evF g l p
  | _, _, [], p, _, _ => by rw [evF_nil, evF_nil]
  | 0, _, _ :: _, _, h, _ => by simp at h
  | _ + 1, 0, _ :: _, _, _, h => by simp at h
  | f + 1, g + 1, c :: r, p, hf, hg => by
    simp only [List.length_cons, Nat.add_le_add_iff_right] at hf hg
    unfold evF
    by_cases hb : blkZ c = true
    · rw [if_pos hb, if_pos hb, evF_more f g r (p + 1) hf hg]
    · rw [if_neg hb, if_neg hb]
      cases ht : tokZ (firstZ (c :: r)) p with
      | inr e => rfl
      | inl x =>
        have h0 := first_pos ht
        simp only
        rw [evF_more f g ((c :: r).drop (firstZ (c :: r)).length) _ (by rw [List.length_drop]; simp; omega) (by rw [List.length_drop]; simp; omega)]
theorem evs_nil (p : Nat) : evs [] p = [(⟨0, 0, [], p⟩, 0)] := rfl
theorem evs_blank {c : UInt8} {r : List UInt8} {p : Nat} (h : blkZ c = true) : evs (c :: r) p = evs r (p + 1) := by
  show evF (r.length + 1) (c :: r) p = _
  unfold evF
  rw [if_pos h]
  rfl
theorem evs_err {l : List UInt8} {p e : Nat} (h0 : l ≠ []) (h : ∀ c r, l = c :: r → blkZ c = false) (ht : tokZ (firstZ l) p = .inr e) : evs l p = [(⟨0, 0, [], p⟩, e)] := by
  cases l with
  | nil => exact absurd rfl h0
  | cons c r =>
    show evF (r.length + 1) (c :: r) p = _
    unfold evF
    rw [if_neg (by rw [h c r rfl]; decide), ht]
theorem evs_one {l : List UInt8} {p : Nat} {x : Tk} (h0 : l ≠ []) (h : ∀ c r, l = c :: r → blkZ c = false) (ht : tokZ (firstZ l) p = .inl x) :
    evs l p = (x, 0) :: evs (l.drop (firstZ l).length) (p + (firstZ l).length) := by
  cases l with
  | nil => exact absurd rfl h0
  | cons c r =>
    have h1 := first_pos ht
    show evF (r.length + 1) (c :: r) p = _
    unfold evF
    rw [if_neg (by rw [h c r rfl]; decide), ht]
    simp only
    rw [evF_more r.length ((c :: r).drop (firstZ (c :: r)).length).length _ _ (by rw [List.length_drop]; simp; omega) (Nat.le_refl _)]
    rfl
theorem evs_blanks : ∀ (l : List UInt8) (p : Nat), evs l p = evs (l.dropWhile blkZ) (p + (l.takeWhile blkZ).length)
  | [], p => rfl
  | c :: r, p => by
    cases hb : blkZ c with
    | true => rw [evs_blank hb, evs_blanks r (p + 1), List.dropWhile_cons_of_pos hb, List.takeWhile_cons_of_pos hb, List.length_cons, show p + 1 + (r.takeWhile blkZ).length = p + ((r.takeWhile blkZ).length + 1) by omega]
    | false => rw [List.dropWhile_cons_of_neg (by rw [hb]; decide), List.takeWhile_cons_of_neg (by rw [hb]; decide)]; rfl
theorem tok_err {t : List UInt8} {p e : Nat} (h : tokZ t p = .inr e) : e = 101 ∨ e = 102 := by
  cases t with
  | nil => cases h; exact .inl rfl
  | cons c r =>
    cases hd : digZ c with
    | true =>
      cases hc : constZ (c :: r) with
      | none => rw [tok_bad hd hc] at h; cases h; exact .inr rfl
      | some n => rw [tok_num hd hc] at h; cases h
    | false =>
      cases hb : begB (c.toNat : Int) with
      | true => rw [tok_name hd hb] at h; cases h
      | false => rw [tok_op hd hb] at h; cases h
theorem evs_facts : ∀ (n : Nat) (l : List UInt8) (p : Nat), l.length ≤ n →
    (evs l p).length ≤ l.length + 1 ∧ ((∀ x ∈ evs l p, x.2 = 0) → toks l p = .inl ((evs l p).map Prod.fst)) ∧ (∀ x ∈ evs l p, x.2 ≠ 0 → toks l p = .inr (x.1.pos, x.2)) ∧ (∀ x ∈ evs l p, x.2 ≤ 102) := by
  intro n
  induction n with
  | zero =>
    intro l p hl
    obtain rfl : l = [] := List.length_eq_zero_iff.1 (by omega)
    rw [evs_nil, toks_nil]
    exact ⟨by simp, fun _ => rfl, fun x hx h => by simp at hx; subst hx; exact absurd rfl h, fun x hx => by simp at hx; subst hx; simp⟩
  | succ n ih =>
    intro l p hl
    rcases toks_ways l p with rfl | ⟨c, r, rfl, hb⟩ | ⟨h0, hb, ⟨e, ht⟩ | ⟨x, ht⟩⟩
    · rw [evs_nil, toks_nil]
      exact ⟨by simp, fun _ => rfl, fun x hx h => by simp at hx; subst hx; exact absurd rfl h, fun x hx => by simp at hx; subst hx; simp⟩
    · rw [evs_blank hb, toks_blank hb]
      obtain ⟨h1, h2, h3, h4⟩ := ih r (p + 1) (by simp at hl; omega)
      exact ⟨by simp only [List.length_cons]; omega, h2, h3, h4⟩
    · have he := tok_err ht
      rw [evs_err h0 hb ht, toks_err h0 hb ht]
      refine ⟨by simp, fun h => ?_, fun x hx _ => ?_, fun x hx => ?_⟩
      · have := h _ (List.mem_singleton.2 rfl)
        simp at this; omega
      · rw [List.mem_singleton.1 hx]
      · rw [List.mem_singleton.1 hx]; simp only; omega
    · have hp := first_pos ht
      have hle : (firstZ l).length ≤ l.length := (first_pre l).length_le
      obtain ⟨h1, h2, h3, h4⟩ := ih (l.drop (firstZ l).length) (p + (firstZ l).length) (by rw [List.length_drop]; omega)
      rw [evs_one h0 hb ht, toks_one h0 hb ht]
      refine ⟨?_, fun h => ?_, fun y hy hne => ?_, fun y hy => ?_⟩
      · rw [List.length_drop] at h1
        simp only [List.length_cons]; omega
      · rw [h2 fun y hy => h y (List.mem_cons_of_mem _ hy)]; rfl
      · rcases List.mem_cons.1 hy with rfl | hy
        · exact absurd rfl hne
        · rw [h3 y hy hne]; rfl
      · rcases List.mem_cons.1 hy with rfl | hy
        · simp
        · exact h4 y hy
theorem evs_len (l : List UInt8) (p : Nat) : (evs l p).length ≤ l.length + 1 := (evs_facts l.length l p (Nat.le_refl _)).1
theorem drop_head {l : List UInt8} {c : UInt8} {r : List UInt8} (h : l.dropWhile blkZ = c :: r) : blkZ c = false := by
  induction l with
  | nil => cases h
  | cons d l ih =>
    cases hd : blkZ d with
    | true => rw [List.dropWhile_cons_of_pos hd] at h; exact ih h
    | false => rw [List.dropWhile_cons_of_neg (by rw [hd]; decide)] at h; cases h; exact hd
theorem drop_while (q : UInt8 → Bool) : ∀ l : List UInt8, l.drop (l.takeWhile q).length = l.dropWhile q
  | [] => rfl
  | c :: l => by
    cases hq : q c with
    | true => rw [List.takeWhile_cons_of_pos hq, List.dropWhile_cons_of_pos hq, List.length_cons, List.drop_succ_cons, drop_while q l]
    | false => rw [List.takeWhile_cons_of_neg (by rw [hq]; decide), List.dropWhile_cons_of_neg (by rw [hq]; decide)]; rfl

/-- The events D are done; we stand at place p, no blank ahead. -/
structure RestZ (s : List UInt8) (D : List (Tk × Nat)) (p : Nat) : Prop where
  eq : evs s 0 = D ++ evs (s.drop p) p
  le : p ≤ s.length
  head : ∀ c r, s.drop p = c :: r → blkZ c = false
theorem RestZ.start (s : List UInt8) : RestZ s [] (s.takeWhile blkZ).length := by
  refine ⟨?_, ?_, fun c r h => ?_⟩
  · rw [evs_blanks s 0, drop_while, Nat.zero_add, List.nil_append]
  · have := while_len blkZ s; omega
  · rw [drop_while] at h; exact drop_head h
theorem RestZ.next {s : List UInt8} {D : List (Tk × Nat)} {p : Nat} {x : Tk} (h : RestZ s D p) (hp : p < s.length) (ht : tokZ (firstZ (s.drop p)) p = .inl x) :
    RestZ s (D ++ [(x, 0)]) (p + (firstZ (s.drop p)).length + ((s.drop (p + (firstZ (s.drop p)).length)).takeWhile blkZ).length) := by
  have h0 : s.drop p ≠ [] := by intro e; have := congrArg List.length e; rw [List.length_drop, List.length_nil] at this; omega
  have hle : (firstZ (s.drop p)).length ≤ s.length - p := by have := (first_pre (s.drop p)).length_le; rw [List.length_drop] at this; exact this
  refine ⟨?_, ?_, fun c r hc => ?_⟩
  · rw [h.eq, evs_one h0 h.head ht, List.drop_drop, evs_blanks, ← drop_while, List.drop_drop, List.append_assoc]; rfl
  · have := while_len blkZ (s.drop (p + (firstZ (s.drop p)).length))
    rw [List.length_drop] at this
    omega
  · rw [← List.drop_drop, drop_while] at hc
    exact drop_head hc
theorem RestZ.err {s : List UInt8} {D : List (Tk × Nat)} {p e : Nat} (h : RestZ s D p) (hp : p < s.length) (ht : tokZ (firstZ (s.drop p)) p = .inr e) : evs s 0 = D ++ [(⟨0, 0, [], p⟩, e)] := by
  have h0 : s.drop p ≠ [] := by intro e; have := congrArg List.length e; rw [List.length_drop, List.length_nil] at this; omega
  rw [h.eq, evs_err h0 h.head ht]
theorem RestZ.last {s : List UInt8} {D : List (Tk × Nat)} {p : Nat} (h : RestZ s D p) (hp : ¬ p < s.length) : evs s 0 = D ++ [(⟨0, 0, [], s.length⟩, 0)] := by
  have e := h.le
  have e2 : p = s.length := by omega
  rw [h.eq, List.drop_eq_nil_of_le (by omega), evs_nil, e2]
end Go.Proofs.YtclhpedecimicaaDoor
