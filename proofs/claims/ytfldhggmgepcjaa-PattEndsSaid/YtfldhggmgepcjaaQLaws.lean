/-
  What follows in chapter 10, in plain words.
-/
import Derived.Test.YtfldhggmgepcjaaQSetP
import Derived.Test.YtfldhggmgepcjaaQMagic
namespace Go.Proofs.Ytfldhggmgepcjaa
set_option maxRecDepth 100000
open Go Go.RowKit

def apl (l : List UInt8) : Pl := l.map fun a => (a, true)
theorem plL_nil : ∀ (p : List UInt8), plL p [] = apl p
  | [] => rfl
  | a :: p => by simp only [plL, plL_nil p]; rfl
theorem apl_isP (l : List UInt8) (i : Nat) (c : UInt8) : isP (apl l) i c = decide (l[i]? = some c) := by
  unfold isP apl
  rw [List.getElem?_map]
  cases h : l[i]? with
  | none => rfl
  | some x => by_cases hx : x = c <;> simp [hx]
theorem apl_drop (l : List UInt8) (k : Nat) : (apl l).drop k = apl (l.drop k) := by unfold apl; rw [List.map_drop]
theorem apl_len (l : List UInt8) : (apl l).length = l.length := by simp [apl]

/-- Members without brackets close where the ] stands. -/
theorem turned_close (M : List UInt8) (hbr : ∀ x ∈ M, x ≠ 91 ∧ x ≠ 93) : ∀ (n j : Nat), M.length - j ≤ n → j ≤ M.length → clE ((apl (M ++ [93])).drop j) = some (M.length - j) := by
  have hget : ∀ j, j < M.length → ∃ x, (M ++ [93])[j]? = some x ∧ x ≠ 91 ∧ x ≠ 93 := by
    intro j hj
    refine ⟨M[j], ?_, hbr _ (List.getElem_mem hj)⟩
    rw [List.getElem?_append_left hj, List.getElem?_eq_getElem hj]
  have hlast : (M ++ [93])[M.length]? = some 93 := by simp
  intro n
  induction n with
  | zero =>
    intro j h1 h2
    have hj : j = M.length := by omega
    subst hj
    rw [clE_yes (by rw [isP_drop, apl_isP, Nat.add_zero, hlast]; rfl)]
    simp
  | succ n ih =>
    intro j h1 h2
    by_cases hj : j = M.length
    · subst hj
      rw [clE_yes (by rw [isP_drop, apl_isP, Nat.add_zero, hlast]; rfl)]
      simp
    · have hjl : j < M.length := by omega
      obtain ⟨x, hx, h91, h93⟩ := hget j hjl
      have hL : (apl (M ++ [93])).drop j ≠ [] := by
        intro e
        have := congrArg List.length e
        rw [List.length_drop, apl_len] at this
        simp at this; omega
      have h0 : isP ((apl (M ++ [93])).drop j) 0 93 = false := by
        rw [isP_drop, apl_isP, Nat.add_zero, hx]
        simp [h93]
      have hc : clsE ((apl (M ++ [93])).drop j) = none := by
        unfold clsE
        rw [if_neg]
        rintro ⟨h, -⟩
        rw [isP_drop, apl_isP, Nat.add_zero, hx] at h
        simp [h91] at h
      rw [clE_more hL h0]
      have hm : j + mbN ((apl (M ++ [93])).drop j) ≤ M.length := by
        cases hr : rngB ((apl (M ++ [93])).drop j) with
        | false => rw [mbN_one hc hr]; omega
        | true =>
          rw [mbN_three hc hr]
          unfold rngB at hr
          simp only [Bool.and_eq_true, decide_eq_true_eq] at hr
          obtain ⟨-, h3, h4⟩ := hr
          rw [List.length_drop, apl_len, List.length_append] at h3
          simp only [List.length_singleton] at h3
          by_cases e : j + 2 = M.length
          · rw [isP_drop, apl_isP, e, hlast] at h4
            simp at h4
          · omega
      have hp := mbN_pos ((apl (M ++ [93])).drop j)
      rw [List.drop_drop, ih (j + mbN ((apl (M ++ [93])).drop j)) (by omega) hm]
      simp only [Option.map_some]
      congr 1
      omega

theorem raw_all {L : Pl} {x : Wt} (hL : L ≠ []) (h : wt1 L = (x, L.length)) : raw L = [x] := by
  rw [raw_more hL, h]
  show x :: raw (L.drop L.length) = _
  rw [List.drop_length, raw_nil]
theorem turned_set (M : List UInt8) (hne : M ≠ []) (h33 : M[0]? ≠ some 33) (hbr : ∀ x ∈ M, x ≠ 91 ∧ x ≠ 93) :
    ∃ l, raw (apl (91 :: (M ++ [93]))) = [.set false l] ∧ raw (apl (91 :: 33 :: (M ++ [93]))) = [.set true l] := by
  have hml := List.length_pos_iff.2 hne
  have hQl : (apl (M ++ [93])).length = M.length + 1 := by rw [apl_len]; simp
  have hcl := turned_close M hbr
  have hq0 : apl (M ++ [93]) ≠ [] := by
    intro e
    rw [e] at hQl; simp at hQl
  obtain ⟨k, hk⟩ : ∃ k, k = mbN (apl (M ++ [93])) := ⟨_, rfl⟩
  have hk1 : 1 ≤ k := by rw [hk]; exact mbN_pos _
  have hkM : k ≤ M.length := by
    have h1 := hcl M.length 0 (by omega) (by omega)
    rw [List.drop_zero] at h1
    have h0 : isP (apl (M ++ [93])) 0 93 = false := by
      rw [apl_isP]
      cases M with
      | nil => exact absurd rfl hne
      | cons a M => simp [(hbr a (by simp)).2]
    rw [clE_more hq0 h0] at h1
    cases hc : clE ((apl (M ++ [93])).drop (mbN (apl (M ++ [93])))) with
    | none => rw [hc] at h1; cases h1
    | some j =>
      rw [hc] at h1
      have h2 : j + mbN (apl (M ++ [93])) = M.length - 0 := Option.some.inj h1
      omega
  have hc2 : clE ((apl (M ++ [93])).drop k) = some (M.length - k) := hcl M.length k (by omega) hkM
  refine ⟨mbF (apl (M ++ [93])) :: mbs ((apl (M ++ [93])).drop k), ?_, ?_⟩
  · have hd : (apl (91 :: (M ++ [93]))).drop 1 = apl (M ++ [93]) := rfl
    have hb : bang (apl (M ++ [93])) = 0 := by
      unfold bang
      rw [if_neg]
      rw [apl_isP, decide_eq_true_eq]
      cases M with
      | nil => exact absurd rfl hne
      | cons a M => simpa using h33
    have hs : setP (apl (M ++ [93])) = some (false, mbF (apl (M ++ [93])) :: mbs ((apl (M ++ [93])).drop k), M.length + 1) := by
      unfold setP
      rw [hb, List.drop_zero, if_neg hq0, ← hk, hc2]
      have hf : isP (apl (M ++ [93])) 0 33 = false := by
        cases hx : isP (apl (M ++ [93])) 0 33 with
        | false => rfl
        | true => unfold bang at hb; rw [if_pos hx] at hb; cases hb
      rw [hf]
      show some (false, _, _) = some (false, _, _)
      rw [show 0 + k + (M.length - k) + 1 = M.length + 1 by omega]
    refine raw_all (by simp [apl]) ?_
    have h := wt1_set (L := apl (91 :: (M ++ [93]))) (i := 0) (n := M.length + 1) (t := false) (l := mbF (apl (M ++ [93])) :: mbs ((apl (M ++ [93])).drop k)) rfl rfl rfl (by rw [Nat.zero_add, hd]; exact hs)
    rw [List.drop_zero] at h
    rw [h, apl_len]
    simp
  · have hd : (apl (91 :: 33 :: (M ++ [93]))).drop 1 = apl (33 :: (M ++ [93])) := rfl
    have hb : bang (apl (33 :: (M ++ [93]))) = 1 := rfl
    have hd2 : (apl (33 :: (M ++ [93]))).drop 1 = apl (M ++ [93]) := rfl
    have hs : setP (apl (33 :: (M ++ [93]))) = some (true, mbF (apl (M ++ [93])) :: mbs ((apl (M ++ [93])).drop k), M.length + 2) := by
      unfold setP
      rw [hb, hd2, if_neg hq0, ← hk, hc2]
      have hf : isP (apl (33 :: (M ++ [93]))) 0 33 = true := rfl
      rw [hf]
      show some (true, _, _) = some (true, _, _)
      rw [show 1 + k + (M.length - k) + 1 = M.length + 2 by omega]
    refine raw_all (by simp [apl]) ?_
    have h := wt1_set (L := apl (91 :: 33 :: (M ++ [93]))) (i := 0) (n := M.length + 2) (t := true) (l := mbF (apl (M ++ [93])) :: mbs ((apl (M ++ [93])).drop k)) rfl rfl rfl (by rw [Nat.zero_add, hd]; exact hs)
    rw [List.drop_zero] at h
    rw [h, apl_len]
    simp
theorem mat_set (t : Bool) (l : List Mb) (c : UInt8) : decide (Mat [.set t l] [c]) = ((l.any fun m => m.tk c) != t) := by
  have h : Mat [.set t l] [c] ↔ (Wt.set t l).tk c = true := by
    rw [mat_one, tk_not rfl]
    constructor
    · rintro ⟨d, e, hd⟩
      cases e; exact hd
    · intro h; exact ⟨c, rfl, h⟩
  show decide _ = (Wt.set t l).tk c
  cases hv : (Wt.set t l).tk c with
  | true => exact decide_eq_true (h.2 hv)
  | false => exact decide_eq_false (fun e => by rw [h.1 e] at hv; cases hv)
theorem turned_plain (M : List UInt8) (hne : M ≠ []) (h33 : M[0]? ≠ some 33) (hbr : ∀ x ∈ M, x ≠ 91 ∧ x ≠ 93) (c : UInt8) :
    decide (Mat (raw (plL (91 :: 33 :: (M ++ [93])) [])) [c]) = !decide (Mat (raw (plL (91 :: (M ++ [93])) [])) [c]) := by
  obtain ⟨l, h1, h2⟩ := turned_set M hne h33 hbr
  rw [plL_nil, plL_nil, h1, h2, mat_set, mat_set]
  cases l.any fun m => m.tk c <;> rfl

/-- A pattern without [ is a row of its bytes. -/
def w1 (x : UInt8 × Bool) : Wt := (wt1 [x]).1
theorem wt1_head {x : UInt8 × Bool} {L : Pl} (h : x.1 ≠ 91 ∨ x.2 = false) : wt1 (x :: L) = (w1 x, 1) := by
  have h91 : ∀ L' : Pl, isP (x :: L') 0 91 = false := by
    intro L'
    unfold isP
    rcases x with ⟨a, b⟩
    rcases h with h | h
    · simp [h]
    · simp at h; simp [h]
  have hh : ∀ (L' : Pl) (c : UInt8), isP (x :: L') 0 c = (some x == some (c, true)) := fun _ _ => rfl
  unfold w1 wt1
  rw [h91, h91, hh, hh, hh, hh]
  simp only [Bool.false_eq_true, if_false]
  split
  · rfl
  · split
    · rfl
    · rfl
theorem raw_map : ∀ (L : Pl), (∀ x ∈ L, x.1 ≠ 91 ∨ x.2 = false) → raw L = L.map w1
  | [], _ => rfl
  | x :: L, h => by
    rw [raw_more (by simp), wt1_head (h x (by simp))]
    show w1 x :: raw L = _
    rw [raw_map L fun y hy => h y (by simp [hy])]
    rfl
theorem w1_just {x : UInt8 × Bool} (h : (x.2 && (x.1 == 63 || (x.1 == 42 || x.1 == 91))) = false) : w1 x = .span x.1 x.1 := by
  rcases x with ⟨a, b⟩
  have hh : ∀ c : UInt8, isP [(a, b)] 0 c = (b && a == c) := by
    intro c
    unfold isP
    show (some (a, b) == some (c, true)) = _
    cases b <;> simp [Bool.beq_eq_decide_eq, Prod.ext_iff]
  have h1 : (b && a == 63) = false ∧ (b && a == 42) = false ∧ (b && a == 91) = false := by
    cases b with
    | false => simp
    | true => simpa using h
  unfold w1 wt1
  rw [hh, hh, hh, h1.1, h1.2.1, h1.2.2]
  rfl
theorem mat_spans : ∀ (p s : List UInt8), Mat (p.map fun a => Wt.span a a) s ↔ s = p
  | [], s => by simp [Mat]
  | a :: p, s => by
    constructor
    · rintro ⟨x, y, rfl, h1, h2⟩
      obtain ⟨c, rfl, hc⟩ := (tk_not rfl _).1 h1
      have hca : c = a := by
        simp only [Wt.tk, Bool.and_eq_true, decide_eq_true_eq] at hc
        exact UInt8.toNat_inj.1 (by omega)
      rw [hca, (mat_spans p y).1 h2]; rfl
    · rintro rfl
      exact ⟨[a], p, rfl, (tk_not rfl _).2 ⟨a, rfl, by simp [Wt.tk]⟩, (mat_spans p p).2 rfl⟩
theorem plain_plain (p q s : List UInt8) (h : magB (plL p q) = false) : decide (Mat (raw (plL p q)) s) = decide (s = p) := by
  have hx : ∀ x ∈ plL p q, (x.2 && (x.1 == 63 || (x.1 == 42 || x.1 == 91))) = false := by
    unfold magB at h
    rw [List.any_eq_false] at h
    intro x hx
    simpa using h x hx
  have hr : raw (plL p q) = p.map fun a => Wt.span a a := by
    rw [raw_map _ (fun x h1 => by
      have := hx x h1
      rcases x with ⟨a, b⟩
      cases b with
      | false => exact Or.inr rfl
      | true => left; simp at this; exact this.2.2)]
    have e : (plL p q).map w1 = (plL p q).map fun x => Wt.span x.1 x.1 := List.map_congr_left fun x h1 => w1_just (hx x h1)
    rw [e]
    have e2 := congrArg (List.map fun a => Wt.span a a) (pl_fst p q)
    rw [List.map_map] at e2
    exact e2
  rw [hr, decide_eq_decide]
  exact mat_spans p s
theorem quoted_plain : ∀ (p : List UInt8), magB (plL p (List.replicate p.length 49)) = false
  | [] => rfl
  | a :: p => by
    have := quoted_plain p
    unfold magB at this ⊢
    rw [List.length_cons, List.replicate_succ, plL, List.any_cons, this]
    rfl
theorem plL_one (a : UInt8) (p q : List UInt8) : plL (a :: p) (48 :: q) = (a, true) :: plL p q := rfl
theorem plL_snoc : ∀ (p q : List UInt8) (a : UInt8), q.length = p.length → plL (p ++ [a]) (q ++ [48]) = plL p q ++ [(a, true)]
  | [], [], a, _ => rfl
  | [], _ :: _, _, h => by simp at h
  | _ :: _, [], _, h => by simp at h
  | x :: p, y :: q, a, h => by
    show (x, y != 49) :: plL (p ++ [a]) (q ++ [48]) = _
    rw [plL_snoc p q a (by simpa using h)]
    rfl
theorem pl_no (p q : List UInt8) (h : ∀ x ∈ p, x ≠ 91) : ∀ x ∈ plL p q, x.1 ≠ 91 ∨ x.2 = false := by
  intro x hx
  left
  refine h x.1 ?_
  rw [← pl_fst p q]
  exact List.mem_map_of_mem hx
theorem star_ends (p q s : List UInt8) (_h : ∀ x ∈ p, x ≠ 91) : Mat (raw (plL (42 :: p) (48 :: q))) s ↔ ∃ k, k ≤ s.length ∧ Mat (raw (plL p q)) (s.drop k) := by
  rw [plL_one, raw_more (by simp), wt1_head (Or.inl (by decide))]
  show Mat (Wt.many :: raw (plL p q)) s ↔ _
  constructor
  · rintro ⟨a, b, rfl, -, h2⟩
    exact ⟨a.length, by simp, by rw [List.drop_left]; exact h2⟩
  · rintro ⟨k, -, h2⟩
    exact ⟨s.take k, s.drop k, (List.take_append_drop k s).symm, Or.inl rfl, h2⟩
theorem star_begins (p q s : List UInt8) (hl : q.length = p.length) (h : ∀ x ∈ p, x ≠ 91) : Mat (raw (plL (p ++ [42]) (q ++ [48]))) s ↔ ∃ k, k ≤ s.length ∧ Mat (raw (plL p q)) (s.take k) := by
  have hn := pl_no p q h
  rw [plL_snoc p q 42 hl, raw_map _ (fun x hx => by
    rw [List.mem_append, List.mem_singleton] at hx
    rcases hx with hx | rfl
    · exact hn x hx
    · exact Or.inl (by show (42 : UInt8) ≠ 91; decide)), List.map_append, ← raw_map _ hn]
  show Mat (raw (plL p q) ++ [Wt.many]) s ↔ _
  rw [mat_snoc]
  constructor
  · rintro ⟨a, b, rfl, h1, -⟩
    exact ⟨a.length, by simp, by rw [List.take_left]; exact h1⟩
  · rintro ⟨k, -, h1⟩
    exact ⟨s.take k, s.drop k, (List.take_append_drop k s).symm, h1, Or.inl rfl⟩
end Go.Proofs.Ytfldhggmgepcjaa
