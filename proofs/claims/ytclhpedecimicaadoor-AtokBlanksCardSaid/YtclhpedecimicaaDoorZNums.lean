/-
  Numbers' digits and names as tokens, in plain words.
-/
import Derived.Test.YtclhpedecimicaaDoorZLaws
namespace Go.Proofs.YtclhpedecimicaaDoor
set_option maxRecDepth 100000
open Go Go.RowKit

theorem take_all {q : UInt8 → Bool} : ∀ {s : List UInt8}, (∀ c ∈ s, q c = true) → s.takeWhile q = s
  | [], _ => rfl
  | c :: s, h => by rw [List.takeWhile_cons_of_pos (h c (List.mem_cons_self ..)), take_all fun d hd => h d (List.mem_cons_of_mem _ hd)]
theorem take_until {q : UInt8 → Bool} : ∀ {s : List UInt8} {d : UInt8} {r : List UInt8}, (∀ c ∈ s, q c = true) → q d = false → (s ++ d :: r).takeWhile q = s
  | [], d, r, _, hd => by rw [List.nil_append, List.takeWhile_cons_of_neg (by rw [hd]; decide)]
  | c :: s, d, r, h, hd => by rw [List.cons_append, List.takeWhile_cons_of_pos (h c (List.mem_cons_self ..)), take_until (fun x hx => h x (List.mem_cons_of_mem _ hx)) hd]
theorem dig_blk {c : UInt8} (h : folB c = true) : blkZ c = false := by
  simp only [folB, begB, loB, upB, digB, Bool.or_eq_true, Bool.and_eq_true, decide_eq_true_eq] at h
  simp only [blkZ, Bool.or_eq_false_iff, beq_eq_false_iff_ne, ne_eq]
  omega
/-- A row of word bytes, and what is none behind it: one token. -/
theorem toks_word {s r : List UInt8} {p : Nat} {x : Tk} (h0 : s ≠ []) (hs : ∀ c ∈ s, folB c = true) (hr : ∀ d q, r = d :: q → folB d = false) (ht : tokZ s p = .inl x) :
    toks (s ++ r) p = pushZ x (toks r (p + s.length)) := by
  have hw : (s ++ r).takeWhile folB = s := by
    cases r with
    | nil => rw [List.append_nil]; exact take_all hs
    | cons d q => exact take_until hs (hr d q rfl)
  have hf : firstZ (s ++ r) = s := by unfold firstZ; rw [hw, if_neg h0]
  have hb : ∀ c q, s ++ r = c :: q → blkZ c = false := by
    intro c q e
    cases s with
    | nil => exact absurd rfl h0
    | cons a s =>
      rw [List.cons_append] at e
      cases e
      exact dig_blk (hs _ (List.mem_cons_self ..))
  have h1 := toks_one (l := s ++ r) (p := p) (x := x) (fun e => h0 (List.append_eq_nil_iff.1 e).1) hb (by rw [hf]; exact ht)
  rw [hf, List.drop_left] at h1
  exact h1
theorem toks_lone {s : List UInt8} {p : Nat} {x : Tk} (h0 : s ≠ []) (hs : ∀ c ∈ s, folB c = true) (ht : tokZ s p = .inl x) : toks s p = .inl [x, ⟨0, 0, [], p + s.length⟩] := by
  have h := toks_word (r := []) h0 hs (fun d q e => by cases e) ht
  rw [List.append_nil] at h
  exact h

/-- Digits as the law makes them: from the last one on. -/
structure DigR (b n m : Nat) (s : List UInt8) : Prop where
  read : readZ b m s = some n
  all : ∀ c ∈ s, valZ c < b ∧ folB c = true
  lead : (s = [] ∧ m = n) ∨ (s ≠ [] ∧ (0 < m ∨ (∃ c r, s = c :: r ∧ c ≠ 48) ∨ (n = 0 ∧ s = [48])))
  small : m * 2 ^ s.length ≤ n
theorem DigR.start (b n : Nat) : DigR b n n [] := { read := rfl, all := fun _ hc => absurd hc (List.not_mem_nil), lead := Or.inl ⟨rfl, rfl⟩, small := by simp }
theorem DigR.len {b n m : Nat} {s : List UInt8} (h : DigR b n m s) (hm : 0 < m) (hn : n ≤ 9223372036854775807) : s.length ≤ 62 := by
  have h1 := h.small
  have h2 : 2 ^ s.length ≤ m * 2 ^ s.length := Nat.le_mul_of_pos_left _ hm
  have h3 : 2 ^ s.length < 2 ^ 63 := by omega
  have := (Nat.pow_lt_pow_iff_right (by decide : 1 < 2)).1 h3
  omega
theorem DigR.step {b n m : Nat} {s : List UInt8} {c : UInt8} (h : DigR b n m s) (hgo : 0 < m ∨ s = []) (hb : 8 ≤ b) (hm : m ≤ 9223372036854775807) (hc : valZ c = m % b) (hf : folB c = true) (h48 : c = 48 ↔ m % b = 0) : DigR b n (m / b) (c :: s) := by
  have hdiv : m / b * b + m % b = m := by rw [Nat.mul_comm]; exact Nat.div_add_mod m b
  have hlt : m % b < b := Nat.mod_lt _ (by omega)
  refine ⟨?_, ?_, ?_, ?_⟩
  · unfold readZ
    rw [hc, if_pos hlt, hdiv, if_neg (Nat.not_lt.2 hm)]
    exact h.read
  · intro d hd
    rcases List.mem_cons.1 hd with rfl | hd
    · exact ⟨by omega, hf⟩
    · exact h.all d hd
  · refine .inr ⟨List.cons_ne_nil _ _, ?_⟩
    by_cases h0 : 0 < m / b
    · exact .inl h0
    · have hz : m / b = 0 := Nat.eq_zero_of_not_pos h0
      rw [hz, Nat.zero_mul, Nat.zero_add] at hdiv
      by_cases hmz : m = 0
      · rcases hgo with hgo | rfl
        · omega
        · rcases h.lead with ⟨-, h1⟩ | ⟨h1, -⟩
          · exact .inr (.inr ⟨by omega, by rw [h48.2 (by omega)]⟩)
          · exact absurd rfl h1
      · exact .inr (.inl ⟨c, s, rfl, fun e => hmz (by have := h48.1 e; omega)⟩)
  · rw [List.length_cons, Nat.pow_succ]
    have h1 := h.small
    have h2 : m / b * 2 ≤ m := by
      have : m / b * 2 ≤ m / b * b := Nat.mul_le_mul_left _ (by omega)
      omega
    calc m / b * (2 ^ s.length * 2) = m / b * 2 * 2 ^ s.length := by rw [Nat.mul_comm (2 ^ s.length) 2, Nat.mul_assoc]
      _ ≤ m * 2 ^ s.length := Nat.mul_le_mul_right _ h2
      _ ≤ n := h1
theorem val_dig {c : UInt8} (h : valZ c < 10) : digZ c = true := by
  unfold valZ at h
  simp only [digZ, digB, Bool.and_eq_true, decide_eq_true_eq]
  split at h
  · omega
  · split at h
    · omega
    · split at h <;> omega
theorem val_not {c : UInt8} {b : Nat} (hb : b ≤ 16) (h : valZ c < b) : ¬ (c = 120 ∨ c = 88) := by
  rintro (rfl | rfl)
  · have : valZ 120 = 33 := by decide
    omega
  · have : valZ 88 = 33 := by decide
    omega
theorem dig_zero : valZ 48 = 0 := by decide
theorem read_zero {b : Nat} (hb : 8 ≤ b) (s : List UInt8) : readZ b 0 (48 :: s) = readZ b 0 s := by
  unfold readZ
  rw [dig_zero, if_pos (by omega), Nat.zero_mul, Nat.zero_add, if_neg (by decide)]
  cases s <;> rfl
theorem DigR.ten {n : Nat} {s : List UInt8} (h : DigR 10 n 0 s) (h0 : s ≠ []) : constZ s = some n := by
  rcases h.lead with ⟨h1, -⟩ | ⟨-, h1 | ⟨c, r, rfl, hc⟩ | ⟨rfl, rfl⟩⟩
  · exact absurd h1 h0
  · exact absurd h1 (Nat.lt_irrefl 0)
  · have e : baseZ (c :: r) = (c :: r, 10) := base_ten hc
    unfold constZ
    rw [e]
    simp only
    rw [if_neg (List.cons_ne_nil _ _)]
    exact h.read
  · decide
theorem DigR.eight {n : Nat} {s : List UInt8} (h : DigR 8 n 0 s) (h0 : s ≠ []) : constZ (48 :: s) = some n := by
  cases s with
  | nil => exact absurd rfl h0
  | cons c r =>
    have hc := val_not (by decide) (h.all c (List.mem_cons_self ..)).1
    have e : baseZ (48 :: c :: r) = (48 :: c :: r, 8) := base_oct hc
    unfold constZ
    rw [e]
    simp only
    rw [if_neg (List.cons_ne_nil _ _), read_zero (by decide)]
    exact h.read
theorem DigR.hex {n : Nat} {s : List UInt8} (h : DigR 16 n 0 s) (h0 : s ≠ []) : constZ (48 :: 88 :: s) = some n := by
  have e : baseZ (48 :: 88 :: s) = (s, 16) := base_hex (.inr rfl)
  unfold constZ
  rw [e]
  simp only
  rw [if_neg h0]
  exact h.read
theorem toks_num {s : List UInt8} {n : Nat} {c : UInt8} {r : List UInt8} (e : s = c :: r) (hd : digZ c = true) (hs : ∀ c ∈ s, folB c = true) (hc : constZ s = some n) : toks s 0 = .inl [⟨1, n, [], 0⟩, ⟨0, 0, [], s.length⟩] := by
  have h := toks_lone (s := s) (p := 0) (x := ⟨1, n, [], 0⟩) (by rw [e]; exact List.cons_ne_nil _ _) hs (by rw [e] at hc ⊢; exact tok_num hd hc)
  rw [Nat.zero_add] at h
  exact h
theorem DigR.ten_toks {n : Nat} {s : List UInt8} (h : DigR 10 n 0 s) (h0 : s ≠ []) : toks s 0 = .inl [⟨1, n, [], 0⟩, ⟨0, 0, [], s.length⟩] := by
  cases s with
  | nil => exact absurd rfl h0
  | cons c r => exact toks_num rfl (val_dig (h.all c (List.mem_cons_self ..)).1) (fun d hd => (h.all d hd).2) (h.ten h0)
theorem DigR.eight_toks {n : Nat} {s : List UInt8} (h : DigR 8 n 0 s) (h0 : s ≠ []) : toks (48 :: s) 0 = .inl [⟨1, n, [], 0⟩, ⟨0, 0, [], s.length + 1⟩] :=
  toks_num rfl (by decide) (fun d hd => by
    rcases List.mem_cons.1 hd with rfl | hd
    · decide
    · exact (h.all d hd).2) (h.eight h0)
theorem DigR.hex_toks {n : Nat} {s : List UInt8} (h : DigR 16 n 0 s) (h0 : s ≠ []) : toks (48 :: 88 :: s) 0 = .inl [⟨1, n, [], 0⟩, ⟨0, 0, [], s.length + 2⟩] :=
  toks_num rfl (by decide) (fun d hd => by
    rcases List.mem_cons.1 hd with rfl | hd
    · decide
    · rcases List.mem_cons.1 hd with rfl | hd
      · decide
      · exact (h.all d hd).2) (h.hex h0)

theorem name_parts {s : List UInt8} (h : nameB s = true) : ∃ c r, s = c :: r ∧ begB (c.toNat : Int) = true ∧ (∀ d ∈ s, folB d = true) := by
  cases s with
  | nil => cases h
  | cons c r =>
    simp only [nameB, Bool.and_eq_true, List.all_eq_true] at h
    refine ⟨c, r, rfl, h.1, fun d hd => ?_⟩
    rcases List.mem_cons.1 hd with rfl | hd
    · simp [folB, h.1]
    · exact h.2 d hd
theorem beg_dig {c : UInt8} (h : begB (c.toNat : Int) = true) : digZ c = false := by
  simp only [begB, loB, upB, Bool.or_eq_true, Bool.and_eq_true, decide_eq_true_eq] at h
  simp only [digZ, digB, Bool.and_eq_false_iff, decide_eq_false_iff_not]
  omega
theorem name_tok {s : List UInt8} (h : nameB s = true) (p : Nat) : tokZ s p = .inl ⟨2, 0, s, p⟩ := by
  obtain ⟨c, r, rfl, hb, -⟩ := name_parts h
  exact tok_name (beg_dig hb) hb
theorem name_toks {s : List UInt8} (h : nameB s = true) : toks s 0 = .inl [⟨2, 0, s, 0⟩, ⟨0, 0, [], s.length⟩] := by
  obtain ⟨c, r, e, -, hs⟩ := name_parts h
  have h1 := toks_lone (s := s) (p := 0) (by rw [e]; exact List.cons_ne_nil _ _) hs (name_tok h 0)
  rw [Nat.zero_add] at h1
  exact h1
theorem op_plus {c : UInt8} {r : List UInt8} (h : begB (c.toNat : Int) = true) : opZ (43 :: c :: r) = [43] := by
  have hc : ¬ c = 61 := by rintro rfl; revert h; decide
  have hc2 : ((61 : UInt8) == c) = false := by rw [beq_eq_false_iff_ne]; exact fun e => hc e.symm
  have e1 : ∀ (a : UInt8) (q : List UInt8), a ≠ 43 → (a :: q).isPrefixOf (43 :: c :: r) = false := fun a q ha => by simp [List.isPrefixOf, ha]
  have e2 : [43, 61].isPrefixOf (43 :: c :: r) = false := by simp [List.isPrefixOf, hc2]
  have e3 : [43].isPrefixOf (43 :: c :: r) = true := by simp [List.isPrefixOf]
  have h1 : opsZ.find? (fun o => o.isPrefixOf (43 :: c :: r)) = some [43] := by
    unfold opsZ
    simp only [List.find?, e1 60 _ (by decide), e1 62 _ (by decide), e1 38 _ (by decide), e1 124 _ (by decide), e1 61 _ (by decide), e1 33 _ (by decide), e1 45 _ (by decide), e1 42 _ (by decide), e1 47 _ (by decide), e1 37 _ (by decide), e1 94 _ (by decide), e2, e3]
  unfold opZ
  rw [h1]; rfl
theorem tail_toks (p : Nat) : toks [60, 60, 48, 120, 49, 102] p = .inl [⟨3, 0, [60, 60], p⟩, ⟨1, 31, [], p + 2⟩, ⟨0, 0, [], p + 6⟩] := by
  have h0 : toks [60, 60, 48, 120, 49, 102] 0 = .inl [⟨3, 0, [60, 60], 0⟩, ⟨1, 31, [], 2⟩, ⟨0, 0, [], 6⟩] := by rfl
  have h := toks_move 6 _ 0 p _ (by decide) h0
  rw [Nat.zero_add] at h
  rw [h]
  simp [movZ, Nat.add_comm]
theorem name_about {s : List UInt8} (h : nameB s = true) : toks (55 :: 43 :: (s ++ [60, 60, 48, 120, 49, 102])) 0 =
    .inl [⟨1, 7, [], 0⟩, ⟨3, 0, [43], 1⟩, ⟨2, 0, s, 2⟩, ⟨3, 0, [60, 60], 2 + s.length⟩, ⟨1, 31, [], 2 + s.length + 2⟩, ⟨0, 0, [], 2 + s.length + 6⟩] := by
  obtain ⟨c, r, e, hb, hs⟩ := name_parts h
  have h1 := toks_word (s := [55]) (r := 43 :: (s ++ [60, 60, 48, 120, 49, 102])) (p := 0) (x := ⟨1, 7, [], 0⟩) (by decide) (by decide) (fun d q e => by cases e; decide) (by rfl)
  have h2 : toks (43 :: (s ++ [60, 60, 48, 120, 49, 102])) 1 = pushZ ⟨3, 0, [43], 1⟩ (toks (s ++ [60, 60, 48, 120, 49, 102]) 2) := by
    have hf : firstZ (43 :: (s ++ [60, 60, 48, 120, 49, 102])) = [43] := by
      unfold firstZ
      rw [List.takeWhile_cons_of_neg (by decide), if_pos rfl, e, List.cons_append, op_plus hb]
    have h3 := toks_one (l := 43 :: (s ++ [60, 60, 48, 120, 49, 102])) (p := 1) (x := ⟨3, 0, [43], 1⟩) (List.cons_ne_nil _ _) (fun c' r' e' => by cases e'; decide) (by rw [hf]; rfl)
    rw [hf] at h3
    exact h3
  have h3 := toks_word (s := s) (r := [60, 60, 48, 120, 49, 102]) (p := 2) (by rw [e]; exact List.cons_ne_nil _ _) hs (fun d q e => by cases e; decide) (name_tok h 2)
  rw [tail_toks] at h3
  rw [List.cons_append, List.nil_append, List.length_singleton, Nat.zero_add, h2, h3] at h1
  exact h1
end Go.Proofs.YtclhpedecimicaaDoor
