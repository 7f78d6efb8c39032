/-
  What follows of chapter 12, in plain words.
-/
import Derived.Test.YtclhpedecimicaaDoorZPlain
namespace Go.Proofs.YtclhpedecimicaaDoor
set_option maxRecDepth 100000
open Go Go.RowKit

theorem tok_pos {t : List UInt8} {p : Nat} {x : Tk} (h : tokZ t p = .inl x) : x.pos = p := by
  cases t with
  | nil => cases h
  | cons c r =>
    cases hd : digZ c with
    | true =>
      cases hc : constZ (c :: r) with
      | none => rw [tok_bad hd hc] at h; cases h
      | some n => rw [tok_num hd hc] at h; cases h; rfl
    | false =>
      cases hb : begB (c.toNat : Int) with
      | true => rw [tok_name hd hb] at h; cases h; rfl
      | false => rw [tok_op hd hb] at h; cases h; rfl
/-- The ways of a text: nothing; a blank; an error; a token. -/
theorem toks_ways (l : List UInt8) (p : Nat) : l = [] ∨ (∃ c r, l = c :: r ∧ blkZ c = true) ∨
    (l ≠ [] ∧ (∀ c r, l = c :: r → blkZ c = false) ∧ ((∃ e, tokZ (firstZ l) p = .inr e) ∨ ∃ x, tokZ (firstZ l) p = .inl x)) := by
  cases l with
  | nil => exact .inl rfl
  | cons c r =>
    cases hb : blkZ c with
    | true => exact .inr (.inl ⟨c, r, rfl, hb⟩)
    | false =>
      refine .inr (.inr ⟨List.cons_ne_nil _ _, fun c' r' e => by cases e; exact hb, ?_⟩)
      cases ht : tokZ (firstZ (c :: r)) p with
      | inl x => exact .inr ⟨x, rfl⟩
      | inr e => exact .inl ⟨e, rfl⟩
theorem push_inl {x : Tk} {r : List Tk ⊕ Nat × Nat} {a : List Tk} (h : pushZ x r = .inl a) : ∃ a', r = .inl a' ∧ a = x :: a' := by
  cases r with
  | inl l => cases h; exact ⟨l, rfl, rfl⟩
  | inr q => cases h

theorem toks_rise : ∀ (n : Nat) (l : List UInt8) (p : Nat) (a : List Tk), l.length ≤ n → toks l p = .inl a → (∀ x ∈ a, p ≤ x.pos ∧ x.pos ≤ p + l.length) ∧ a.Pairwise (fun x y => x.pos < y.pos) := by
  intro n
  induction n with
  | zero =>
    intro l p a hl h
    obtain rfl : l = [] := List.length_eq_zero_iff.1 (by omega)
    cases h
    exact ⟨fun x hx => by simp at hx; subst hx; simp, by simp⟩
  | succ n ih =>
    intro l p a hl h
    rcases toks_ways l p with rfl | ⟨c, r, rfl, hb⟩ | ⟨h0, hb, ⟨e, ht⟩ | ⟨x, ht⟩⟩
    · cases h
      exact ⟨fun x hx => by simp at hx; subst hx; simp, by simp⟩
    · rw [toks_blank hb] at h
      obtain ⟨h1, h2⟩ := ih r (p + 1) a (by simp at hl; omega) h
      refine ⟨fun x hx => ?_, h2⟩
      have := h1 x hx
      simp only [List.length_cons]; omega
    · rw [toks_err h0 hb ht] at h; cases h
    · rw [toks_one h0 hb ht] at h
      obtain ⟨a', ha, rfl⟩ := push_inl h
      have hp := first_pos ht
      have hle : (firstZ l).length ≤ l.length := (first_pre l).length_le
      obtain ⟨h1, h2⟩ := ih _ _ a' (by rw [List.length_drop]; omega) ha
      have hx := tok_pos ht
      rw [List.length_drop] at h1
      refine ⟨fun y hy => ?_, List.pairwise_cons.2 ⟨fun y hy => ?_, h2⟩⟩
      · rcases List.mem_cons.1 hy with rfl | hy
        · omega
        · have := h1 y hy; omega
      · have := h1 y hy; omega
theorem toks_some : ∀ (n : Nat) (l : List UInt8) (p : Nat), l.length ≤ n → toks l p ≠ .inl [] := by
  intro n
  induction n with
  | zero =>
    intro l p hl h
    obtain rfl : l = [] := List.length_eq_zero_iff.1 (by omega)
    cases h
  | succ n ih =>
    intro l p hl h
    rcases toks_ways l p with rfl | ⟨c, r, rfl, hb⟩ | ⟨h0, hb, ⟨e, ht⟩ | ⟨x, ht⟩⟩
    · cases h
    · rw [toks_blank hb] at h; exact ih r (p + 1) (by simp at hl; omega) h
    · rw [toks_err h0 hb ht] at h; cases h
    · rw [toks_one h0 hb ht] at h
      obtain ⟨a', -, h⟩ := push_inl h
      cases h

def movZ (d : Nat) (x : Tk) : Tk := { x with pos := x.pos + d }
def eraZ (x : Tk) : Tk := { x with pos := 0 }
theorem tok_move {t : List UInt8} {p : Nat} (d : Nat) {x : Tk} (h : tokZ t p = .inl x) : tokZ t (p + d) = .inl (movZ d x) := by
  cases t with
  | nil => cases h
  | cons c r =>
    cases hd : digZ c with
    | true =>
      cases hc : constZ (c :: r) with
      | none => rw [tok_bad hd hc] at h; cases h
      | some n => rw [tok_num hd hc] at h ⊢; cases h; rfl
    | false =>
      cases hb : begB (c.toNat : Int) with
      | true => rw [tok_name hd hb] at h ⊢; cases h; rfl
      | false => rw [tok_op hd hb] at h ⊢; cases h; rfl
theorem toks_move : ∀ (n : Nat) (l : List UInt8) (p d : Nat) (a : List Tk), l.length ≤ n → toks l p = .inl a → toks l (p + d) = .inl (a.map (movZ d)) := by
  intro n
  induction n with
  | zero =>
    intro l p d a hl h
    obtain rfl : l = [] := List.length_eq_zero_iff.1 (by omega)
    cases h; rfl
  | succ n ih =>
    intro l p d a hl h
    rcases toks_ways l p with rfl | ⟨c, r, rfl, hb⟩ | ⟨h0, hb, ⟨e, ht⟩ | ⟨x, ht⟩⟩
    · cases h; rfl
    · rw [toks_blank hb] at h ⊢
      rw [show p + d + 1 = p + 1 + d by omega]
      exact ih r (p + 1) d a (by simp at hl; omega) h
    · rw [toks_err h0 hb ht] at h; cases h
    · rw [toks_one h0 hb ht] at h
      obtain ⟨a', ha, rfl⟩ := push_inl h
      have hp := first_pos ht
      have ht2 : tokZ (firstZ l) (p + d) = .inl (movZ d x) := tok_move d ht
      have h1 := ih _ _ d a' (by rw [List.length_drop]; omega) ha
      rw [toks_one h0 hb ht2, show p + d + (firstZ l).length = p + (firstZ l).length + d by omega, h1]
      rfl
theorem era_mov (d : Nat) (a : List Tk) : (a.map (movZ d)).map eraZ = a.map eraZ := by
  rw [List.map_map]; rfl

theorem find_other {α : Type} (q r : α → Bool) (t : α) : ∀ L : List α, L.find? q = some t → (∀ x ∈ L, r x = true → q x = true) → r t = true → L.find? r = some t
  | [], h, _, _ => by cases h
  | x :: L, h, hq, ht => by
    by_cases hr : r x = true
    · have h1 := hq x (List.mem_cons_self ..) hr
      rw [List.find?_cons_of_pos h1] at h
      rw [List.find?_cons_of_pos hr]
      exact h
    · rw [List.find?_cons_of_neg hr]
      by_cases hqx : q x = true
      · rw [List.find?_cons_of_pos hqx] at h
        cases h
        exact absurd ht hr
      · rw [List.find?_cons_of_neg hqx] at h
        exact find_other q r t L h (fun y hy => hq y (List.mem_cons_of_mem _ hy)) ht
theorem ops_no : ∀ o ∈ opsZ, (32 : UInt8) ∉ o := by decide
/-- What has no blank and begins u, a blank, and more, begins u. -/
theorem pre_short : ∀ (o u v : List UInt8), (32 : UInt8) ∉ o → o <+: u ++ 32 :: v → o <+: u
  | [], u, _, _, _ => List.nil_prefix
  | c :: o, [], v, h, hp => by
    rw [List.nil_append, List.cons_prefix_cons] at hp
    exact absurd (by rw [hp.1]; exact List.mem_cons_self ..) h
  | c :: o, d :: u, v, h, hp => by
    rw [List.cons_append, List.cons_prefix_cons] at hp
    rw [List.cons_prefix_cons]
    exact ⟨hp.1, pre_short o u v (fun h2 => h (List.mem_cons_of_mem _ h2)) hp.2⟩
theorem op_blank {u v : List UInt8} (hne : opZ (u ++ v) ≠ []) (hu : opZ (u ++ v) <+: u) : opZ (u ++ 32 :: v) = opZ (u ++ v) := by
  unfold opZ at hne hu ⊢
  cases h : opsZ.find? (fun o => o.isPrefixOf (u ++ v)) with
  | none => rw [h] at hne; exact absurd rfl hne
  | some t =>
    rw [h] at hu
    have hu' : t <+: u := hu
    rw [find_other _ (fun o => o.isPrefixOf (u ++ 32 :: v)) t opsZ h (fun o ho hr => ?_) (List.isPrefixOf_iff_prefix.2 (hu'.trans (List.prefix_append _ _)))]
    exact List.isPrefixOf_iff_prefix.2 ((pre_short o u v (ops_no o ho) (List.isPrefixOf_iff_prefix.1 hr)).trans (List.prefix_append _ _))
theorem take_no {r : List UInt8} (h : r.takeWhile folB = []) (m : Nat) : (r.take m ++ 32 :: r.drop m).takeWhile folB = [] := by
  cases r with
  | nil => simp; decide
  | cons c r =>
    cases m with
    | zero => rw [List.take_zero, List.nil_append, List.takeWhile_cons_of_neg (by decide)]
    | succ m =>
      have hc : ¬ folB c = true := fun hc => by rw [List.takeWhile_cons_of_pos hc] at h; cases h
      rw [List.take_succ_cons, List.cons_append, List.takeWhile_cons_of_neg hc]
theorem take_app {q : UInt8 → Bool} : ∀ {t r : List UInt8}, (t ++ r).takeWhile q = t → r.takeWhile q = []
  | [], _, h => h
  | c :: t, r, h => by
    have hc : q c = true := by
      cases hq : q c with
      | true => rfl
      | false => rw [List.cons_append, List.takeWhile_cons_of_neg (by rw [hq]; decide)] at h; cases h
    rw [List.cons_append, List.takeWhile_cons_of_pos hc] at h
    exact take_app (List.cons.inj h).2
theorem take_app2 {q : UInt8 → Bool} : ∀ {t r r2 : List UInt8}, (t ++ r).takeWhile q = t → r2.takeWhile q = [] → (t ++ r2).takeWhile q = t
  | [], _, _, _, h => h
  | c :: t, r, r2, h, h2 => by
    have hc : q c = true := by
      cases hq : q c with
      | true => rfl
      | false => rw [List.cons_append, List.takeWhile_cons_of_neg (by rw [hq]; decide)] at h; cases h
    rw [List.cons_append, List.takeWhile_cons_of_pos hc] at h ⊢
    rw [take_app2 (List.cons.inj h).2 h2]
/-- A token stays it where a blank is put in behind it. -/
theorem first_blank {t r : List UInt8} (h : firstZ (t ++ r) = t) (h0 : t ≠ []) (m : Nat) : firstZ (t ++ (r.take m ++ 32 :: r.drop m)) = t := by
  unfold firstZ at h ⊢
  by_cases hw : (t ++ r).takeWhile folB = []
  · rw [if_pos hw] at h
    have hw2 : (t ++ (r.take m ++ 32 :: r.drop m)).takeWhile folB = [] := by
      cases t with
      | nil => exact absurd rfl h0
      | cons c t =>
        have hc : ¬ folB c = true := fun hc => by rw [List.cons_append, List.takeWhile_cons_of_pos hc] at hw; cases hw
        rw [List.cons_append, List.takeWhile_cons_of_neg hc]
    rw [if_pos hw2]
    have e1 : t ++ r = (t ++ r.take m) ++ r.drop m := by rw [List.append_assoc, List.take_append_drop]
    have e2 : t ++ (r.take m ++ 32 :: r.drop m) = (t ++ r.take m) ++ 32 :: r.drop m := by rw [List.append_assoc]
    rw [e1] at h
    rw [e2, op_blank (by rw [h]; exact h0) (by rw [h]; exact List.prefix_append _ _), h]
  · rw [if_neg hw] at h
    have h2 := take_app2 h (take_no (take_app h) m)
    rw [if_neg (by rw [h2]; exact h0), h2]

theorem toks_space : ∀ (n : Nat) (l : List UInt8) (p : Nat) (a : List Tk) (k : Nat) (x : Tk), l.length ≤ n → toks l p = .inl a → a[k]? = some x →
    ∃ b, toks (l.take (x.pos - p) ++ 32 :: l.drop (x.pos - p)) p = .inl b ∧ b.map eraZ = a.map eraZ := by
  have hblk : blkZ 32 = true := by decide
  intro n
  induction n with
  | zero =>
    intro l p a k x hl h hk
    obtain rfl : l = [] := List.length_eq_zero_iff.1 (by omega)
    cases h
    refine ⟨[⟨0, 0, [], p + 1⟩], ?_, ?_⟩
    · rw [List.take_nil, List.drop_nil, List.nil_append, toks_blank hblk, toks_nil]
    · rfl
  | succ n ih =>
    intro l p a k x hl h hk
    rcases toks_ways l p with rfl | ⟨c, r, rfl, hb⟩ | ⟨h0, hb, ⟨e, ht⟩ | ⟨x0, ht⟩⟩
    · cases h
      refine ⟨[⟨0, 0, [], p + 1⟩], ?_, ?_⟩
      · rw [List.take_nil, List.drop_nil, List.nil_append, toks_blank hblk, toks_nil]
      · rfl
    · rw [toks_blank hb] at h
      have hl' : r.length ≤ n := by simp at hl; omega
      obtain ⟨b, h1, h2⟩ := ih r (p + 1) a k x hl' h hk
      have hge := ((toks_rise n r (p + 1) a hl' h).1 x (List.mem_of_getElem? hk)).1
      refine ⟨b, ?_, h2⟩
      rw [show x.pos - p = (x.pos - (p + 1)) + 1 by omega, List.take_succ_cons, List.drop_succ_cons, List.cons_append, toks_blank hb]
      exact h1
    · rw [toks_err h0 hb ht] at h; cases h
    · have hlen := first_pos ht
      have hle : (firstZ l).length ≤ l.length := (first_pre l).length_le
      have hx0 := tok_pos ht
      cases k with
      | zero =>
        have h' := h
        rw [toks_one h0 hb ht] at h
        obtain ⟨a', ha, rfl⟩ := push_inl h
        have hk' : x0 = x := by simpa using hk
        subst hk'
        refine ⟨_, ?_, era_mov 1 _⟩
        rw [hx0, Nat.sub_self, List.take_zero, List.drop_zero, List.nil_append, toks_blank hblk]
        exact toks_move (n + 1) l p 1 _ hl h'
      | succ k =>
        rw [toks_one h0 hb ht] at h
        obtain ⟨a', ha, rfl⟩ := push_inl h
        obtain ⟨t, htt⟩ : ∃ t, t = firstZ l := ⟨_, rfl⟩
        obtain ⟨r, hr⟩ : ∃ r, r = l.drop (firstZ l).length := ⟨_, rfl⟩
        have hlr : l = t ++ r := by
          have h3 := List.take_append_drop (firstZ l).length l
          rw [first_take, ← hr, ← htt] at h3
          exact h3.symm
        have hk' : a'[k]? = some x := by simpa using hk
        have hl' : r.length ≤ n := by rw [hr, List.length_drop]; omega
        rw [← hr, ← htt] at ha
        rw [← htt] at hlen hle ht
        obtain ⟨b, h1, h2⟩ := ih r (p + t.length) a' k x hl' ha hk'
        have hge := ((toks_rise n r (p + t.length) a' hl' ha).1 x (List.mem_of_getElem? hk')).1
        have hne : t ≠ [] := List.length_pos_iff.1 hlen
        have hf : firstZ (t ++ r) = t := by rw [← hlr]; exact htt.symm
        have hf2 := first_blank hf hne (x.pos - (p + t.length))
        obtain ⟨L, hL⟩ : ∃ L, L = t ++ (r.take (x.pos - (p + t.length)) ++ 32 :: r.drop (x.pos - (p + t.length))) := ⟨_, rfl⟩
        have e1 : l.take (x.pos - p) ++ 32 :: l.drop (x.pos - p) = L := by
          rw [hL, hlr, show x.pos - p = t.length + (x.pos - (p + t.length)) by omega, List.take_length_add_append, List.drop_length_add_append, List.append_assoc]
        rw [e1]
        rw [← hL] at hf2
        have hb2 : ∀ c r', L = c :: r' → blkZ c = false := by
          intro c r' e
          cases t with
          | nil => exact absurd rfl hne
          | cons c' t' =>
            rw [hL, List.cons_append] at e
            cases e
            exact hb c (t' ++ r) hlr
        have ht2 : tokZ (firstZ L) p = .inl x0 := by rw [hf2]; exact ht
        refine ⟨x0 :: b, ?_, by rw [List.map_cons, List.map_cons, h2]⟩
        rw [toks_one (by rw [hL]; intro e; rw [List.append_eq_nil_iff] at e; exact hne e.1) hb2 ht2, hf2]
        have e2 : L.drop t.length = r.take (x.pos - (p + t.length)) ++ 32 :: r.drop (x.pos - (p + t.length)) := by rw [hL, List.drop_left]
        rw [e2, h1]
        rfl
end Go.Proofs.YtclhpedecimicaaDoor
