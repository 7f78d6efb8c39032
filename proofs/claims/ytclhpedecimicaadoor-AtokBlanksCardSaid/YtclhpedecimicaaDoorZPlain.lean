/-
  Chapter 12 in plain words: tokens of expressions.
-/
import Derived.Test.YtclhpedecimicaaDoorName
namespace Go.Proofs.YtclhpedecimicaaDoor
set_option maxRecDepth 100000
open Go Go.RowKit

/-- A token: its kind, number, text, place. -/
structure Tk where
  kind : Nat
  num : Nat
  text : List UInt8
  pos : Nat

def blkZ (c : UInt8) : Bool := c.toNat == 32 || c.toNat == 9 || c.toNat == 10
def digZ (c : UInt8) : Bool := digB (c.toNat : Int)
/-- A digit's value; 99 of what is none to any base. -/
def valZ (c : UInt8) : Nat :=
  if 48 ≤ c.toNat ∧ c.toNat ≤ 57 then c.toNat - 48 else if 97 ≤ c.toNat ∧ c.toNat ≤ 122 then c.toNat - 87 else if 65 ≤ c.toNat ∧ c.toNat ≤ 90 then c.toNat - 55 else 99
def readZ (b : Nat) : Nat → List UInt8 → Option Nat
  | acc, [] => some acc
  | acc, c :: r => if valZ c < b then (if 9223372036854775807 < acc * b + valZ c then none else readZ b (acc * b + valZ c) r) else none
/-- A number's digits, and what they are to the base of. -/
def baseZ : List UInt8 → List UInt8 × Nat
  | [] => ([], 10)
  | c :: r => if c = 48 then (match r with | [] => ([c], 8) | d :: q => if d = 120 ∨ d = 88 then (q, 16) else (c :: d :: q, 8)) else (c :: r, 10)
theorem base_ten {c : UInt8} {r : List UInt8} (h : ¬ c = 48) : baseZ (c :: r) = (c :: r, 10) := by simp only [baseZ, if_neg h]
theorem base_one : baseZ [48] = ([48], 8) := rfl
theorem base_oct {d : UInt8} {r : List UInt8} (h : ¬ (d = 120 ∨ d = 88)) : baseZ (48 :: d :: r) = (48 :: d :: r, 8) := by simp only [baseZ, if_true, if_neg h]
theorem base_hex {d : UInt8} {r : List UInt8} (h : d = 120 ∨ d = 88) : baseZ (48 :: d :: r) = (r, 16) := by simp only [baseZ, if_true, if_pos h]
def constZ (l : List UInt8) : Option Nat := if (baseZ l).1 = [] then none else readZ (baseZ l).2 0 (baseZ l).1
def opsZ : List (List UInt8) :=
  [[60, 60, 61], [62, 62, 61], [38, 38], [124, 124], [61, 61], [33, 61], [60, 61], [62, 61], [60, 60], [62, 62], [43, 61], [45, 61], [42, 61], [47, 61], [37, 61], [38, 61], [94, 61], [124, 61],
   [43], [45], [42], [47], [37], [60], [62], [38], [94], [124], [33], [126], [63], [58], [61], [40], [41]]
def opZ (l : List UInt8) : List UInt8 := (opsZ.find? (fun o => o.isPrefixOf l)).getD []
def firstZ (l : List UInt8) : List UInt8 := if l.takeWhile folB = [] then opZ l else l.takeWhile folB
/-- What a token's bytes stand for; or the error. -/
def tokZ (t : List UInt8) (p : Nat) : Tk ⊕ Nat :=
  match t with
  | [] => .inr 101
  | c :: r => if digZ c then (match constZ (c :: r) with | none => .inr 102 | some n => .inl ⟨1, n, [], p⟩) else if begB (c.toNat : Int) then .inl ⟨2, 0, c :: r, p⟩ else .inl ⟨3, 0, c :: r, p⟩
theorem tok_num {c : UInt8} {r : List UInt8} {p n : Nat} (h : digZ c = true) (hc : constZ (c :: r) = some n) : tokZ (c :: r) p = .inl ⟨1, n, [], p⟩ := by
  simp only [tokZ, h, hc, if_true]
theorem tok_bad {c : UInt8} {r : List UInt8} {p : Nat} (h : digZ c = true) (hc : constZ (c :: r) = none) : tokZ (c :: r) p = .inr 102 := by
  simp only [tokZ, h, hc, if_true]
theorem tok_name {c : UInt8} {r : List UInt8} {p : Nat} (h : digZ c = false) (hb : begB (c.toNat : Int) = true) : tokZ (c :: r) p = .inl ⟨2, 0, c :: r, p⟩ := by
  simp only [tokZ, h, hb, if_true, Bool.false_eq_true, if_false]
theorem tok_op {c : UInt8} {r : List UInt8} {p : Nat} (h : digZ c = false) (hb : begB (c.toNat : Int) = false) : tokZ (c :: r) p = .inl ⟨3, 0, c :: r, p⟩ := by
  simp only [tokZ, h, hb, Bool.false_eq_true, if_false]
/-- The tokens; or where the text is wrong, and how. -/
def toksF : Nat → List UInt8 → Nat → List Tk ⊕ Nat × Nat
  | 0, _, p => .inl [⟨0, 0, [], p⟩]
  | _ + 1, [], p => .inl [⟨0, 0, [], p⟩]
  | f + 1, c :: r, p =>
    if blkZ c then toksF f r (p + 1)
    else match tokZ (firstZ (c :: r)) p with
      | .inr e => .inr (p, e)
      | .inl x => match toksF f ((c :: r).drop (firstZ (c :: r)).length) (p + (firstZ (c :: r)).length) with
        | .inl l => .inl (x :: l)
        | .inr q => .inr q
def toks (l : List UInt8) (p : Nat) : List Tk ⊕ Nat × Nat := toksF l.length l p

theorem toksF_nil (f p : Nat) : toksF f [] p = .inl [⟨0, 0, [], p⟩] := by cases f <;> rfl
theorem first_pos {l : List UInt8} {p : Nat} {x : Tk} (h : tokZ (firstZ l) p = .inl x) : 0 < (firstZ l).length := by
  cases hf : firstZ l with
  | nil => rw [hf] at h; cases h
  | cons c r => simp
theorem toksF_more : ∀ (f g : Nat) (l : List UInt8) (p : Nat), l.length ≤ f → l.length ≤ g → toksF f l p = toksF g l p
  | _, _, [], p, _, _ => by rw [toksF_nil, toksF_nil]
  | 0, _, _ :: _, _, h, _ => by simp at h
  | _ + 1, 0, _ :: _, _, _, h => by simp at h
  | f + 1, g + 1, c :: r, p, hf, hg => by
    simp only [List.length_cons, Nat.add_le_add_iff_right] at hf hg
    unfold toksF
    by_cases hb : blkZ c = true
    · rw [if_pos hb, if_pos hb, toksF_more f g r (p + 1) hf hg]
    · rw [if_neg hb, if_neg hb]
      cases ht : tokZ (firstZ (c :: r)) p with
      | inr e => rfl
      | inl x =>
        have h0 := first_pos ht
        simp only
        rw [toksF_more f g ((c :: r).drop (firstZ (c :: r)).length) _ (by rw [List.length_drop]; simp; omega) (by rw [List.length_drop]; simp; omega)]
theorem toks_nil (p : Nat) : toks [] p = .inl [⟨0, 0, [], p⟩] := rfl
theorem toks_blank {c : UInt8} {r : List UInt8} {p : Nat} (h : blkZ c = true) : toks (c :: r) p = toks r (p + 1) := by
  show toksF (r.length + 1) (c :: r) p = _
  unfold toksF
  rw [if_pos h]
  rfl
theorem toks_err {l : List UInt8} {p e : Nat} (h0 : l ≠ []) (h : ∀ c r, l = c :: r → blkZ c = false) (ht : tokZ (firstZ l) p = .inr e) : toks l p = .inr (p, e) := by
  cases l with
  | nil => exact absurd rfl h0
  | cons c r =>
    show toksF (r.length + 1) (c :: r) p = _
    unfold toksF
    rw [if_neg (by rw [h c r rfl]; decide), ht]
def pushZ (x : Tk) : List Tk ⊕ Nat × Nat → List Tk ⊕ Nat × Nat
  | .inl l => .inl (x :: l)
  | .inr q => .inr q
theorem toks_one {l : List UInt8} {p : Nat} {x : Tk} (h0 : l ≠ []) (h : ∀ c r, l = c :: r → blkZ c = false) (ht : tokZ (firstZ l) p = .inl x) :
    toks l p = pushZ x (toks (l.drop (firstZ l).length) (p + (firstZ l).length)) := by
  cases l with
  | nil => exact absurd rfl h0
  | cons c r =>
    have h1 := first_pos ht
    show toksF (r.length + 1) (c :: r) p = _
    unfold toksF
    rw [if_neg (by rw [h c r rfl]; decide), ht]
    simp only
    rw [toksF_more r.length ((c :: r).drop (firstZ (c :: r)).length).length _ _ (by rw [List.length_drop]; simp; omega) (Nat.le_refl _)]
    cases h2 : toks ((c :: r).drop (firstZ (c :: r)).length) (p + (firstZ (c :: r)).length) with
    | inl l => unfold toks at h2; rw [h2]; rfl
    | inr q => unfold toks at h2; rw [h2]; rfl
/-- The landed code's blanks: all at once. -/
theorem toks_blanks : ∀ (l : List UInt8) (p : Nat), toks l p = toks (l.dropWhile blkZ) (p + (l.takeWhile blkZ).length)
  | [], p => rfl
  | c :: r, p => by
    cases hb : blkZ c with
    | true => rw [toks_blank hb, toks_blanks r (p + 1), List.dropWhile_cons_of_pos hb, List.takeWhile_cons_of_pos hb, List.length_cons, show p + 1 + (r.takeWhile blkZ).length = p + ((r.takeWhile blkZ).length + 1) by omega]
    | false => rw [List.dropWhile_cons_of_neg (by rw [hb]; decide), List.takeWhile_cons_of_neg (by rw [hb]; decide)]; rfl

theorem op_pre (l : List UInt8) : opZ l <+: l := by
  unfold opZ
  cases h : opsZ.find? (fun o => o.isPrefixOf l) with
  | none => exact ⟨l, rfl⟩
  | some o => exact List.isPrefixOf_iff_prefix.1 (List.find?_some (p := fun o : List UInt8 => o.isPrefixOf l) h)
theorem first_pre (l : List UInt8) : firstZ l <+: l := by
  unfold firstZ
  split
  · exact op_pre l
  · exact List.takeWhile_prefix _
theorem first_take (l : List UInt8) : l.take (firstZ l).length = firstZ l := (List.prefix_iff_eq_take.1 (first_pre l)).symm
end Go.Proofs.YtclhpedecimicaaDoor
