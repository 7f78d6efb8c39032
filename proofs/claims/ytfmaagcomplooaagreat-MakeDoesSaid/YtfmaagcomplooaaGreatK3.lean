/-
  Plain laws on trees: what the landed Fit asks and what the reference's Fit asks is one.
  Plain laws on the order of names, and on looking one up in names that rise.
  The reference's Place: a directory's path from the root.
  Plain laws on trees that can be: names, places, ranks (no landed code in it).
  A tree that can be read as data lies in memory as NodesIn says, and nothing of it is longer than any machine's.
  Trees that a call has made: their inodes lie in one block of the call's own, each directory's names in a block of its own.
  slices.Clone of names and of inodes: the same in memory of the call's own.
  The reference's Own: a copy of the slice of inodes, whose names' slices are shared.
  Plain laws on a path's names.
  strings.IndexByte, strings.Index and strings.Cut at a text of one slash: what stands ahead of the first slash, and what behind it.
  strings.Cut at a text of one slash.
-/
import Derived.Test.YtfmaagcomplooaaGreatTRFit
import Derived.Lib.Bytealg
import Derived.Test.YtfmaagcomplooaaGreatK1
import Derived.Deep.Slices
import Derived.Deep.Fields
import Derived.Lib.SmallJoins
import Derived.SizedLaws
import Derived.OneCell
import Derived.Laws.IdiomCopy
import Derived.WalkKit
import Derived.Shelf.SlicesE.Clone
import Derived.Laws.AppendOwnNone
import Derived.Lib.IndexLaws
import Derived.Lib.Strings
import Derived.Deep.Draws
import Derived.Laws.Strings3
import Derived.BigRegion
namespace Go.Proofs.YtfmaagcomplooaaGreat
set_option maxRecDepth 100000
open Go Go.RowKit

theorem pigeon : ∀ (n : Nat) (f : Nat → Nat), (∀ i, i ≤ n → f i < n) → ∃ i j, i < j ∧ j ≤ n ∧ f i = f j
  | 0, f, h => absurd (h 0 (Nat.le_refl _)) (Nat.not_lt_zero _)
  | n + 1, f, h => by
    by_cases hx : ∃ i, i ≤ n ∧ f i = f (n + 1)
    · obtain ⟨i, hi, he⟩ := hx
      exact ⟨i, n + 1, by omega, Nat.le_refl _, he⟩
    · have hne : ∀ i, i ≤ n → f i ≠ f (n + 1) := fun i hi e => hx ⟨i, hi, e⟩
      obtain ⟨i, j, hij, hj, he⟩ := pigeon n (fun i => if f i = n then f (n + 1) else f i) (fun i hi => by
        have h1 := h i (by omega)
        have h2 := h (n + 1) (Nat.le_refl _)
        have h3 := hne i hi
        by_cases e : f i = n
        · simp only [e, if_true]; omega
        · simp only [e, if_false]; omega)
      refine ⟨i, j, hij, by omega, ?_⟩
      have h3 := hne i (by omega)
      have h4 := hne j hj
      by_cases e1 : f i = n
      · by_cases e2 : f j = n
        · omega
        · simp only [e1, e2, if_true, if_false] at he
          exact absurd he.symm h4
      · by_cases e2 : f j = n
        · simp only [e1, e2, if_true, if_false] at he
          exact absurd he h3
        · simp only [e1, e2, if_false] at he
          exact he

/-- Going up i times. -/
def upN (L : List Ino) : Nat → Int → Int
  | 0, k => k
  | i + 1, k => upN L i (nodeAt L k).up
theorem upN_add (L : List Ino) : ∀ (i j : Nat) (k : Int), upN L (i + j) k = upN L j (upN L i k)
  | 0, j, k => by rw [Nat.zero_add]; rfl
  | i + 1, j, k => by
    rw [show i + 1 + j = (i + j) + 1 by omega]
    exact upN_add L i j (nodeAt L k).up
theorem leads_iff (L : List Ino) : ∀ (n : Nat) (k : Int), leadsL L n k = true ↔ ∃ i, i < n ∧ upN L i k = 0
  | 0, k => by simp [leadsL]
  | n + 1, k => by
    rw [leads_succ]
    by_cases h : k = 0
    · rw [if_pos h]
      exact ⟨fun _ => ⟨0, by omega, h⟩, fun _ => rfl⟩
    · rw [if_neg h, leads_iff L n]
      constructor
      · rintro ⟨i, hi, he⟩
        exact ⟨i + 1, by omega, he⟩
      · rintro ⟨i, hi, he⟩
        cases i with
        | zero => exact absurd he h
        | succ i => exact ⟨i, by omega, he⟩
theorem from_up (L : List Ino) : ∀ (n : Nat) (k : Int), upFrom L n k = true → ∃ i, i < n ∧ upN L i k = 0 ∧ ∀ j, j < i → dirB L (upN L (j + 1) k) = true
  | 0, k, h => by simp [upFrom] at h
  | n + 1, k, h => by
    rw [up_succ] at h
    by_cases h0 : k = 0
    · exact ⟨0, by omega, h0, fun j hj => absurd hj (Nat.not_lt_zero _)⟩
    · rw [if_neg h0] at h
      by_cases hd : dirB L (nodeAt L k).up = true
      · rw [if_pos hd] at h
        obtain ⟨i, hi, he, hj⟩ := from_up L n _ h
        refine ⟨i + 1, by omega, he, fun j hji => ?_⟩
        cases j with
        | zero => exact hd
        | succ j => exact hj j (by omega)
      · rw [if_neg hd] at h
        cases h
theorem dir_lt {L : List Ino} {k : Int} (h : dirB L k = true) : ∃ n : Nat, k = (n : Int) ∧ n < L.length := there_nat (by unfold dirB at h; rw [Bool.and_eq_true] at h; exact h.1)
theorem up_leads {L : List Ino} {k : Int} (hk : dirB L k = true) (h : upFrom L (L.length + 1) k = true) : leadsL L L.length k = true := by
  rw [leads_iff]
  obtain ⟨i, hi, he, hd⟩ := from_up L _ _ h
  -- the least such
  have hmin : ∃ t, t ≤ i ∧ upN L t k = 0 ∧ ∀ s, s < t → upN L s k ≠ 0 := by
    clear hd hi
    induction i using Nat.strongRecOn with
    | _ i ih =>
      by_cases hx : ∃ s, s < i ∧ upN L s k = 0
      · obtain ⟨s, hs, hs0⟩ := hx
        obtain ⟨t, ht, h1, h2⟩ := ih s hs hs0
        exact ⟨t, by omega, h1, h2⟩
      · exact ⟨i, Nat.le_refl _, he, fun s hs e => hx ⟨s, hs, e⟩⟩
  obtain ⟨t, ht, ht0, htm⟩ := hmin
  refine ⟨t, ?_, ht0⟩
  have hin : ∀ j, j ≤ t → dirB L (upN L j k) = true := fun j hj => by
    cases j with
    | zero => exact hk
    | succ j => exact hd j (by omega)
  by_cases hlt : t < L.length
  · exact hlt
  · obtain ⟨p, q, hpq, hq, e⟩ := pigeon L.length (fun j => (upN L j k).toNat) (fun j hj => by
      obtain ⟨n, hn, hn2⟩ := dir_lt (hin j (by omega))
      show (upN L j k).toNat < _
      rw [hn]
      omega)
    have e' : upN L p k = upN L q k := by
      obtain ⟨n1, hn1, _⟩ := dir_lt (hin p (by omega))
      obtain ⟨n2, hn2, _⟩ := dir_lt (hin q (by omega))
      have e2 : (upN L p k).toNat = (upN L q k).toNat := e
      rw [hn1, hn2] at e2 ⊢
      omega
    exfalso
    refine htm (p + (t - q)) (by omega) ?_
    rw [upN_add, e', ← upN_add, show q + (t - q) = t by omega]
    exact ht0
theorem leads_up {L : List Ino} (hU : UpsIn L) : ∀ (n n' : Nat) (k : Int), n ≤ n' → dirB L k = true → leadsL L n k = true → upFrom L n' k = true
  | 0, _, k, _, _, h => by simp [leadsL] at h
  | n + 1, 0, k, hn, _, _ => by omega
  | n + 1, n' + 1, k, hn, hk, h => by
    rw [leads_succ] at h
    rw [up_succ]
    by_cases h0 : k = 0
    · rw [if_pos h0]
    · rw [if_neg h0] at h ⊢
      obtain ⟨i, rfl, hi⟩ := dir_lt hk
      have hd : dirB L (nodeAt L (i : Int)).up = true := by
        rw [node_nat L i hi]
        exact hU i hi ((dir_nat hi).1 hk)
      rw [if_pos hd]
      exact leads_up hU n n' _ (by omega) hd h

theorem used_ge (L : List Ino) : ∀ (k : Nat) (h : k < L.length), L[k].data.length ≤ usedB L := by
  induction L with
  | nil => intro k h; exact absurd h (Nat.not_lt_zero _)
  | cons x r ih =>
    intro k h
    cases k with
    | zero => simp only [usedB]; exact Nat.le_add_right _ _
    | succ k => simp only [usedB]; have := ih k (Nat.lt_of_succ_lt_succ h); exact Nat.le_trans this (Nat.le_add_left _ _)
theorem names_pos {M : List (List UInt8 × Int)} {e : List UInt8 × Int} (he : e ∈ M) : 1 ≤ namesOf M e.2 :=
  List.length_pos_of_mem (List.mem_filter.2 ⟨he, by simp⟩)
theorem names_zero {M : List (List UInt8 × Int)} {k : Int} (h : ∀ e ∈ M, e.2 ≠ k) : namesOf M k = 0 := by
  unfold namesOf
  rw [List.length_eq_zero_iff, List.filter_eq_nil_iff]
  intro e he
  simpa using h e he
theorem node_kind_of {L : List Ino} {k : Int} (h : dirB L k = true) : (nodeAt L k).kind = 2 := by
  unfold dirB at h
  rw [Bool.and_eq_true] at h
  simpa using h.2

theorem fit_of_ref {L : List Ino} {m b : Int} (h : RFitP L m b) : FitP L m b := by
  obtain ⟨hh, hA, hB, hbytes⟩ := h
  have hlen := hh.one
  have hroot : dirB L 0 = true := by
    unfold dirB
    rw [show (0 : Int) = ((0 : Nat) : Int) from rfl, there_of L 0 (by omega)]
    simpa using hh.root
  have hI : AllFit L := fun k hk => ⟨(hA k hk).alone, by
    by_cases h2 : L[k].kind = 2
    · obtain ⟨h3, h4, h5⟩ := (hA k hk).dir h2
      exact ⟨h4, fun i hi => ⟨(h5 i hi).name, (h5 i hi).order, (h5 i hi).there⟩⟩
    · rw [no_kids (hA k hk).alone h2]
      exact ⟨Nat.zero_le _, fun i hi => absurd hi (Nat.not_lt_zero _)⟩⟩
  have hKid : ∀ e ∈ kidsOf L, ∃ d, ∃ hd : d < L.length, ∃ i, ∃ hi : i < L[d].kids.length, e = L[d].kids[i] ∧ KidOk L d L[d].kids i hi := fun e he => by
    obtain ⟨d, hd, he'⟩ := mem_kidsOf.1 he
    obtain ⟨i, hi, rfl⟩ := List.getElem_of_mem he'
    have h2 := dir_of_kids (hA d hd).alone (List.ne_nil_of_mem he')
    exact ⟨d, hd, i, hi, rfl, ((hA d hd).dir h2).2.2 i hi⟩
  have hcnt := fun k hk => countL_get L (kids_pos (kids_there hI)) k hk
  refine ⟨⟨hlen, hh.lim, hh.cap, hbytes, hh.b1⟩, hroot, hh.up, hI, ⟨fun d hd e he hde => ?_, fun k hk => ⟨(hB k hk).1, ?_⟩⟩, fun k hk hd => ?_⟩
  · obtain ⟨i, hi, rfl⟩ := List.getElem_of_mem he
    have h2 := dir_of_kids (hA d hd).alone (List.ne_nil_of_mem he)
    have h3 := (((hA d hd).dir h2).2.2 i hi).dir
    by_cases hu : (nodeAt L L[d].kids[i].2).up = (d : Int)
    · exact hu
    · exact absurd ⟨node_kind_of hde, Or.inr hu⟩ h3
  · obtain ⟨-, h2, h3⟩ := hB k hk
    unfold MayHave
    by_cases h0 : (k : Int) = 0 ∨ L[k].kind = 0
    · rw [if_pos h0, hcnt k hk, names_zero]
      · rfl
      · intro e he hek
        obtain ⟨d, hd, i, hi, rfl, ok⟩ := hKid e he
        rcases h0 with h0 | h0
        · refine ok.dir ⟨?_, Or.inl (by rw [hek]; exact h0)⟩
          rw [hek, h0]
          exact hh.root
        · refine ok.kind ?_
          rw [hek, node_nat L k hk]
          exact h0
    · rw [if_neg h0]
      have hk0 : 0 < k := by
        by_cases e : k = 0
        · exact absurd (Or.inl (by omega)) h0
        · omega
      by_cases hk2 : L[k].kind = 2
      · rw [if_pos hk2]
        by_cases hc : (countL L)[k]'(by rw [countL_len]; exact hk) = 1
        · exact hc
        · exact absurd ⟨hk2, Or.inr ⟨hk0, hc⟩⟩ h3
      · rw [if_neg hk2]
        by_cases hc : (countL L)[k]'(by rw [countL_len]; exact hk) = 0
        · exact absurd ⟨fun e => h0 (Or.inr e), hk0, hc⟩ h2
        · rw [hcnt k hk] at hc ⊢
          omega
  · refine up_leads hd ?_
    cases hr : rootedB L (k : Int) with
    | true => exact hr
    | false => exact absurd ⟨(dir_nat hk).1 hd, Or.inl hr⟩ (hB k hk).2.2

theorem ref_of_fit {L : List Ino} {m b : Int} (h : FitP L m b) : RFitP L m b := by
  obtain ⟨hl, hroot, hup, hI, hN, hLead⟩ := h
  have hU := ups_in hroot hup hI hN
  obtain ⟨l1, l2, l3, l4, l5⟩ := hl
  have hcnt := fun k hk => countL_get L (kids_pos (kids_there hI)) k hk
  have hmay : ∀ k (hk : k < L.length), MayHave L[k].kind k (namesOf (kidsOf L) k : Int) := fun k hk => by rw [← hcnt k hk]; exact (hN.2 k hk).2
  refine ⟨⟨l1, l2, l3, by omega, l5, node_kind_of hroot, hup⟩, fun k hk => ⟨(hI k hk).1, by have := used_ge L k hk; omega, fun h2 => ?_⟩, fun k hk => ⟨(hN.2 k hk).1, ?_, ?_⟩, l4⟩
  · have h3 := hU k hk h2
    refine ⟨by unfold dirB at h3; rw [Bool.and_eq_true] at h3; exact h3.1, (hI k hk).2.1, fun i hi => ?_⟩
    have h4 := (hI k hk).2.2 i hi
    have hmem : L[k].kids[i] ∈ kidsOf L := mem_kidsOf.2 ⟨k, hk, List.getElem_mem _⟩
    obtain ⟨u, hu, hul⟩ := there_nat h4.there
    have hpos := names_pos hmem
    rw [hu] at hpos
    have hm := hmay u hul
    unfold MayHave at hm
    refine ⟨h4.name, h4.order, h4.there, ?_, ?_⟩
    · intro e
      rw [hu, node_nat L u hul] at e
      rw [if_pos (Or.inr e)] at hm
      omega
    · rintro ⟨e1, e2 | e2⟩
      · rw [hu] at e2
        rw [if_pos (Or.inl e2)] at hm
        omega
      · refine e2 (hN.1 k hk _ (List.getElem_mem _) ?_)
        unfold dirB
        rw [h4.there]
        simpa using e1
  · rintro ⟨e1, e2, e3⟩
    have hm := hmay k hk
    rw [hcnt k hk] at e3
    unfold MayHave at hm
    rw [if_neg (by omega)] at hm
    split at hm <;> omega
  · rintro ⟨e1, e2 | ⟨e2, e3⟩⟩
    · have h2 := leads_up hU L.length (L.length + 1) (k : Int) (by omega) ((dir_nat hk).2 e1) (hLead k hk ((dir_nat hk).2 e1))
      unfold rootedB at e2
      rw [h2] at e2
      cases e2
    · have hm := hmay k hk
      rw [hcnt k hk] at e3
      unfold MayHave at hm
      rw [if_neg (by omega), if_pos e1] at hm
      exact e3 hm
theorem ref_iff {L : List Ino} {m b : Int} : RFitP L m b ↔ FitP L m b := ⟨fit_of_ref, ref_of_fit⟩
end Go.Proofs.YtfmaagcomplooaaGreat

namespace Go.Proofs.YtfmaagcomplooaaGreat
set_option maxRecDepth 100000
open Go Go.RowKit

theorem less_irrefl : ∀ a : List UInt8, Op.bytesLess a a = false
  | [] => rfl
  | c :: r => by
    simp only [Op.bytesLess, less_irrefl r, Bool.and_false, Bool.or_false, decide_eq_false_iff_not]
    exact UInt8.lt_irrefl c
theorem less_trans : ∀ a b c : List UInt8, Op.bytesLess a b = true → Op.bytesLess b c = true → Op.bytesLess a c = true
  | _, [], _, h, _ => by simp [Op.bytesLess] at h
  | _, _ :: _, [], _, h => by simp [Op.bytesLess] at h
  | [], _ :: _, _ :: _, _, _ => rfl
  | x :: a, y :: b, z :: c, h1, h2 => by
    simp only [Op.bytesLess, Bool.or_eq_true, decide_eq_true_eq, Bool.and_eq_true, beq_iff_eq] at h1 h2 ⊢
    rcases h1 with h1 | ⟨rfl, h1⟩
    · rcases h2 with h2 | ⟨rfl, h2⟩
      · exact Or.inl (UInt8.lt_trans h1 h2)
      · exact Or.inl h1
    · rcases h2 with h2 | ⟨rfl, h2⟩
      · exact Or.inl h2
      · exact Or.inr ⟨rfl, less_trans a b c h1 h2⟩
theorem cmp_cases : ∀ a b : List UInt8, (Lib.compareBytes a b = -1 ∧ Op.bytesLess a b = true) ∨ (Lib.compareBytes a b = 0 ∧ a = b) ∨ (Lib.compareBytes a b = 1 ∧ Op.bytesLess b a = true)
  | [], [] => Or.inr (Or.inl ⟨rfl, rfl⟩)
  | [], _ :: _ => Or.inl ⟨rfl, rfl⟩
  | _ :: _, [] => Or.inr (Or.inr ⟨rfl, rfl⟩)
  | x :: a, y :: b => by
    simp only [Lib.compareBytes, Op.bytesLess, Bool.or_eq_true, decide_eq_true_eq, Bool.and_eq_true, beq_iff_eq]
    by_cases h1 : x < y
    · rw [if_pos h1]
      exact Or.inl ⟨rfl, Or.inl h1⟩
    · rw [if_neg h1]
      by_cases h2 : y < x
      · rw [if_pos h2]
        exact Or.inr (Or.inr ⟨rfl, Or.inl h2⟩)
      · rw [if_neg h2]
        have e : x = y := by
          apply UInt8.toNat_inj.1
          have a1 : ¬ x.toNat < y.toNat := h1
          have a2 : ¬ y.toNat < x.toNat := h2
          omega
        subst e
        rcases cmp_cases a b with ⟨h, h'⟩ | ⟨h, rfl⟩ | ⟨h, h'⟩
        · exact Or.inl ⟨h, Or.inr ⟨rfl, h'⟩⟩
        · exact Or.inr (Or.inl ⟨h, rfl⟩)
        · exact Or.inr (Or.inr ⟨h, Or.inr ⟨rfl, h'⟩⟩)
theorem cmp_less {a b : List UInt8} : Lib.compareBytes a b < 0 ↔ Op.bytesLess a b = true := by
  rcases cmp_cases a b with ⟨h, h'⟩ | ⟨h, rfl⟩ | ⟨h, h'⟩
  · simp [h, h']
  · simp [h, less_irrefl]
  · constructor
    · intro h2; omega
    · intro h2
      have := less_trans a b a h2 h'
      rw [less_irrefl] at this
      cases this
theorem cmp_zero {a b : List UInt8} : Lib.compareBytes a b = 0 ↔ a = b := by
  rcases cmp_cases a b with ⟨h, h'⟩ | ⟨h, rfl⟩ | ⟨h, h'⟩
  · constructor
    · intro h2; omega
    · rintro rfl; rw [less_irrefl] at h'; cases h'
  · simp [h]
  · constructor
    · intro h2; omega
    · rintro rfl; rw [less_irrefl] at h'; cases h'
theorem cmp_le1 (a b : List UInt8) : -1 ≤ Lib.compareBytes a b ∧ Lib.compareBytes a b ≤ 1 := by
  rcases cmp_cases a b with ⟨h, _⟩ | ⟨h, _⟩ | ⟨h, _⟩ <;> omega

/-- Names that rise. -/
def Rises (M : List (List UInt8 × Int)) : Prop := ∀ k (h : k < M.length), ∀ t (ht : k = t + 1), Op.bytesLess (M[t]'(by omega)).1 M[k].1 = true
theorem Rises.lt {M : List (List UInt8 × Int)} (h : Rises M) (i : Nat) : ∀ (j : Nat) (hj : j < M.length) (hij : i < j), Op.bytesLess (M[i]'(by omega)).1 M[j].1 = true := by
  intro j
  induction j with
  | zero => intro _ h; omega
  | succ j ih =>
    intro hj hij
    have h1 := h (j + 1) hj j rfl
    by_cases e : i = j
    · subst e
      exact h1
    · exact less_trans _ _ _ (ih (by omega) (by omega)) h1

theorem findK_none (M : List (List UInt8 × Int)) (s : List UInt8) (h : ∀ k (hk : k < M.length), M[k].1 ≠ s) : findK M s = -1 := by
  induction M with
  | nil => rfl
  | cons e r ih =>
    unfold findK
    rw [if_neg (show e.1 ≠ s from h 0 (Nat.succ_pos _))]
    exact ih (fun k hk => h (k + 1) (Nat.succ_lt_succ hk))
theorem findK_some (M : List (List UInt8 × Int)) (s : List UInt8) (i : Nat) (hi : i < M.length) (hs : M[i].1 = s) (h : ∀ k (hk : k < i), (M[k]'(by omega)).1 ≠ s) : findK M s = M[i].2 := by
  induction M generalizing i with
  | nil => exact absurd hi (Nat.not_lt_zero _)
  | cons e r ih =>
    unfold findK
    cases i with
    | zero =>
      rw [if_pos (show e.1 = s from hs)]
      rfl
    | succ i =>
      rw [if_neg (show e.1 ≠ s from h 0 (Nat.succ_pos _))]
      exact ih i (Nat.lt_of_succ_lt_succ hi) hs (fun k hk => h (k + 1) (Nat.succ_lt_succ hk))
/-- In names that rise what stands at the first place that is not ahead of a name is it, or there is none. -/
theorem findK_at {M : List (List UInt8 × Int)} (h : Rises M) (s : List UInt8) (i : Nat) (h1 : ∀ k (hk : k < M.length), k < i → Op.bytesLess M[k].1 s = true) (h2 : ∀ k (hk : k < M.length), i ≤ k → Op.bytesLess M[k].1 s = false) :
    (∀ hi : i < M.length, M[i].1 = s → findK M s = M[i].2) ∧ ((∀ hi : i < M.length, M[i].1 ≠ s) → findK M s = -1) := by
  have ha : ∀ k (hk : k < M.length), k < i → M[k].1 ≠ s := fun k hk hki e => by
    have := h1 k hk hki
    rw [e, less_irrefl] at this
    cases this
  refine ⟨fun hi e => findK_some M s i hi e (fun k hk => ha k (by omega) hk), fun hn => findK_none M s (fun k hk => ?_)⟩
  by_cases hki : k < i
  · exact ha k hk hki
  · by_cases e : k = i
    · subst e
      exact hn hk
    · intro es
      have h3 := h.lt i k hk (by omega)
      rw [es] at h3
      rw [h2 i (by omega) (Nat.le_refl _)] at h3
      cases h3
end Go.Proofs.YtfmaagcomplooaaGreat

namespace Go.Proofs.YtfmaagcomplooaaGreat
set_option maxRecDepth 100000
open Go Go.RowKit

def kidsTo (M : List (List UInt8 × Int)) (d : Int) (s : List UInt8) : List UInt8 := M.foldl (fun s e => if e.2 = d then 47 :: e.1 ++ s else s) s
def placeGo (L : List Ino) : Nat → Int → List UInt8 → List UInt8
  | 0, _, s => s
  | n + 1, d, s => if d = 0 then s else placeGo L n (nodeAt L d).up (kidsTo (nodeAt L (nodeAt L d).up).kids d s)
def placeL (L : List Ino) (d : Int) : List UInt8 := if dirB L d then (if placeGo L (L.length + 1) d [] = [] then [47] else placeGo L (L.length + 1) d []) else []

theorem place_succ (L : List Ino) (n : Nat) (d : Int) (s : List UInt8) : placeGo L (n + 1) d s = if d = 0 then s else placeGo L n (nodeAt L d).up (kidsTo (nodeAt L (nodeAt L d).up).kids d s) := rfl
theorem kidsTo_drop (M : List (List UInt8 × Int)) (k : Nat) (hk : k < M.length) (d : Int) (s : List UInt8) : kidsTo (M.drop k) d s = kidsTo (M.drop (k + 1)) d (if M[k].2 = d then 47 :: M[k].1 ++ s else s) := by
  rw [List.drop_eq_getElem_cons hk]
  rfl

/-- What going up asks of a tree: each directory's Up is one; names and directories are not too long. -/
def Climbs (L : List Ino) : Prop := ∀ k (h : k < L.length), (L[k].kind = 2 → dirB L L[k].up = true) ∧ L[k].kids.length ≤ 1024 ∧ ∀ e ∈ L[k].kids, e.1.length ≤ 64

theorem slash_cat3 (x s : List UInt8) : ((⟨#[47]⟩ : ByteArray) ++ (⟨x.toArray⟩ : ByteArray)) ++ (⟨s.toArray⟩ : ByteArray) = ⟨(47 :: x ++ s).toArray⟩ := by
  rw [show (⟨#[47]⟩ : ByteArray) = ⟨[47].toArray⟩ from rfl, ByteArray.mk_append_mk, ByteArray.mk_append_mk]
  rfl

def PlaceRel (L : List Ino) (n0 : Nat) (dv sv iv : Value) : Prop :=
  ∃ (d i : Nat) (s : List UInt8), d < L.length ∧ dirB L d = true ∧ i ≤ L.length + 1 ∧ dv = .int .i64 d ∧ iv = .int .i64 i ∧ sv = .string ⟨s.toArray⟩ ∧ s.length ≤ i * 66560 ∧ Hid (placeGo L (L.length + 1) (n0 : Int) [] = placeGo L (L.length + 1 - i) (d : Int) s)

end Go.Proofs.YtfmaagcomplooaaGreat

namespace Go.Proofs.YtfmaagcomplooaaGreat
set_option maxRecDepth 100000
open Go Go.RowKit

/-- No list is longer than any machine's. -/
structure Reach (L : List Ino) : Prop where
  nodes : L.length ≤ 281474976710656
  kids : ∀ k (h : k < L.length), L[k].kids.length ≤ 281474976710656
  texts : Sized L
  data : ∀ k (h : k < L.length), L[k].data.length ≤ 140737488355328
theorem fit_small {L : List Ino} {m b : Int} (h : FitP L m b) : L.length ≤ 256 ∧ usedB L ≤ 65536 ∧ b ≤ 65536 := by
  obtain ⟨h1, h2, h3, h4, h5⟩ := h.limits
  exact ⟨by omega, by omega, h5⟩
theorem used_pos {L : List Ino} (h : dirB L 0 = true) : 1 ≤ usedN L := by
  obtain ⟨z, hz, hl⟩ := dir_lt h
  cases L with
  | nil => exact absurd hl (Nat.not_lt_zero _)
  | cons x r =>
    have h2 := node_kind_of h
    have h3 : x.kind = 2 := h2
    simp only [usedN, h3]
    rw [if_neg (by decide)]
    omega
theorem nil_nodes (w : World) : NodesIn w none 0 ([] : List Ino) := ⟨Nat.le_refl _, Nat.zero_le _, fun _i hi => absurd hi (Nat.not_lt_zero _)⟩
theorem kids_rise {L : List Ino} (h : AllFit L) : ∀ k (h : k < L.length), L[k].kids.length ≤ 1024 ∧ Rises L[k].kids := fun k hk => ⟨(h k hk).2.1, fun i hi t ht => ((h k hk).2.2 i hi).order t ht⟩
theorem findK_mem {M : List (List UInt8 × Int)} (hR : Rises M) (i : Nat) (hi : i < M.length) : findK M M[i].1 = M[i].2 := by
  refine findK_some M M[i].1 i hi rfl (fun k hk e => ?_)
  have h := hR.lt k i hi hk
  rw [e, less_irrefl] at h
  cases h
theorem findK_has : ∀ (M : List (List UInt8 × Int)) (s : List UInt8), 0 ≤ findK M s → ∃ e ∈ M, e.1 = s
  | [], _, h => absurd (show (0 : Int) ≤ -1 from h) (by decide)
  | e :: r, s, h => by
    unfold findK at h
    by_cases hs : e.1 = s
    · exact ⟨e, List.mem_cons_self, hs⟩
    · rw [if_neg hs] at h
      obtain ⟨e', he, hs'⟩ := findK_has r s h
      exact ⟨e', List.mem_cons_of_mem _ he, hs'⟩
/-- Each name of a directory is found. -/
theorem kid_of {L : List Ino} {m b : Int} (hF : FitP L m b) (d : Nat) (hd : d < L.length) (i : Nat) (hi : i < L[d].kids.length) : kidL L (d : Int) L[d].kids[i].1 = L[d].kids[i].2 := by
  have h2 := dir_of_kids (hF.ins d hd).1 (List.ne_nil_of_mem (List.getElem_mem hi))
  unfold kidL
  rw [(dir_nat hd).2 h2, if_pos rfl, node_nat L d hd]
  exact findK_mem (kids_rise hF.ins d hd).2 i hi
/-- What a name that can be is. -/
theorem name_parts {x : List UInt8} (h : nameOkL x = true) : x ≠ [] ∧ wholeL x = false ∧ x.getLast? ≠ some 47 ∧ x.length ≤ 64 ∧ ∀ c ∈ x, c ≠ 47 := by
  unfold nameOkL at h
  simp only [Bool.and_eq_true, List.all_eq_true, decide_eq_true_eq] at h
  obtain ⟨⟨⟨⟨h1, h2⟩, h3⟩, -⟩, -⟩ := h
  have hc : ∀ c ∈ x, c ≠ 47 := fun c hc => by
    have := (h1 c hc).1
    simpa using this
  refine ⟨fun e => by subst e; simp at h2, ?_, fun e => hc 47 (List.mem_of_getLast? e) rfl, h3, hc⟩
  cases x with
  | nil => rfl
  | cons c r =>
    have := hc c List.mem_cons_self
    simpa [wholeL] using this
theorem name_of {L : List Ino} (h : AllFit L) {d : Nat} (hd : d < L.length) {e : List UInt8 × Int} (he : e ∈ L[d].kids) : nameOkL e.1 = true ∧ thereB L e.2 = true := by
  obtain ⟨i, hi, rfl⟩ := List.getElem_of_mem he
  exact ⟨((h d hd).2.2 i hi).name, ((h d hd).2.2 i hi).there⟩
theorem short_of {L : List Ino} (h : AllFit L) : Short64 L := fun k hk => ⟨(h k hk).2.1, fun _ he => (name_parts (name_of h hk he).1).2.2.2.1⟩
/-- The root has no name. -/
theorem name_pos {L : List Ino} {m b : Int} (hF : FitP L m b) {d : Nat} (hd : d < L.length) {e : List UInt8 × Int} (he : e ∈ L[d].kids) : e.2 ≠ 0 := fun h0 => by
  have hl : 0 < L.length := by omega
  have h1 := (hF.names.2 0 hl).2
  rw [countL_get L (kids_pos (kids_there hF.ins)) 0 hl] at h1
  unfold MayHave at h1
  rw [if_pos (Or.inl (by rfl))] at h1
  have h2 := names_pos (mem_kidsOf.2 ⟨d, hd, he⟩)
  rw [h0] at h2
  have h3 : namesOf (kidsOf L) 0 = 0 := Int.ofNat.inj h1
  omega
/-- How many steps up lead to the root first. -/
def Rk (L : List Ino) (k : Int) (j : Nat) : Prop := upN L j k = 0 ∧ ∀ i, i < j → upN L i k ≠ 0
theorem rk_root (L : List Ino) : Rk L 0 0 := ⟨rfl, fun _ h => absurd h (Nat.not_lt_zero _)⟩
theorem rk_down {L : List Ino} {k d : Int} {j : Nat} (h : Rk L d j) (hk : k ≠ 0) (hu : (nodeAt L k).up = d) : Rk L k (j + 1) := by
  refine ⟨?_, fun i hi => ?_⟩
  · show upN L j (nodeAt L k).up = 0
    rw [hu]
    exact h.1
  · cases i with
    | zero => exact hk
    | succ i =>
      show upN L i (nodeAt L k).up ≠ 0
      rw [hu]
      exact h.2 i (by omega)
theorem rk_lt {L : List Ino} (hl : AllLead L) {k : Int} (hd : dirB L k = true) {j : Nat} (h : Rk L k j) : j < L.length := by
  obtain ⟨z, rfl, hz⟩ := dir_lt hd
  obtain ⟨i, hi, he⟩ := (leads_iff L _ _).1 (hl z hz hd)
  rcases Nat.lt_or_ge i j with h1 | h1
  · exact absurd he (h.2 i h1)
  · omega
theorem rk_of {L : List Ino} {k : Int} : ∀ (n : Nat), (∃ i, i < n ∧ upN L i k = 0) → ∃ j, Rk L k j
  | 0, ⟨_, h, _⟩ => absurd h (Nat.not_lt_zero _)
  | n + 1, ⟨i, hi, he⟩ => by
    by_cases h : ∃ i, i < n ∧ upN L i k = 0
    · exact rk_of n h
    · exact ⟨i, he, fun j hj e => h ⟨j, by omega, e⟩⟩
theorem rk_one {L : List Ino} {k : Int} {i j : Nat} (h : Rk L k i) (h' : Rk L k j) : i = j := by
  rcases Nat.lt_trichotomy i j with h1 | h1 | h1
  · exact absurd h.1 (h'.2 i h1)
  · exact h1
  · exact absurd h'.1 (h.2 j h1)
theorem ups_of {L : List Ino} {m b : Int} (hF : FitP L m b) : ∀ (i : Nat) (k : Int), dirB L k = true → dirB L (upN L i k) = true
  | 0, _, h => h
  | i + 1, k, h => by
    obtain ⟨z, rfl, hz⟩ := dir_lt h
    refine ups_of hF i _ ?_
    rw [node_nat L z hz]
    exact ups_in hF.root hF.rootUp hF.ins hF.names z hz ((dir_nat hz).1 h)
theorem up_next (L : List Ino) (i : Nat) (k : Int) : upN L (i + 1) k = (nodeAt L (upN L i k)).up := upN_add L i 1 k
theorem names_app (A B : List (List UInt8 × Int)) (c : Int) : namesOf (A ++ B) c = namesOf A c + namesOf B c := by
  unfold namesOf
  rw [List.filter_append, List.length_append]
theorem names_le {L : List Ino} {d : Nat} (hd : d < L.length) (c : Int) : namesOf L[d].kids c ≤ namesOf (kidsOf L) c := by
  have h : kidsOf L = kidsOf (L.take (d + 1)) ++ kidsOf (L.drop (d + 1)) := by
    unfold kidsOf
    rw [← List.flatMap_append, List.take_append_drop]
  rw [h, kidsOf_take L d hd, names_app, names_app]
  omega
/-- Each directory but the root has one name, in its Up. -/
theorem one_name {L : List Ino} {m b : Int} (hF : FitP L m b) {d : Nat} (hd : d < L.length) {c : Int} (hc : dirB L c = true) (hc0 : c ≠ 0) (hu : (nodeAt L c).up = (d : Int)) : namesOf L[d].kids c = 1 := by
  obtain ⟨z, rfl, hz⟩ := dir_lt hc
  have h1 := (hF.names.2 z hz).2
  rw [countL_get L (kids_pos (kids_there hF.ins)) z hz] at h1
  unfold MayHave at h1
  have hk := (dir_nat hz).1 hc
  rw [if_neg (by omega), if_pos hk] at h1
  have h2 : namesOf (kidsOf L) (z : Int) = 1 := Int.ofNat.inj h1
  have h3 := names_le hd (z : Int)
  obtain ⟨e, he⟩ := List.exists_mem_of_length_pos (show 0 < ((kidsOf L).filter fun e => e.2 == (z : Int)).length by unfold namesOf at h2; omega)
  obtain ⟨he1, he2⟩ := List.mem_filter.1 he
  obtain ⟨d', hd', hed⟩ := mem_kidsOf.1 he1
  have hek : e.2 = (z : Int) := by simpa using he2
  have hup := hF.names.1 d' hd' e hed (by rw [hek]; exact hc)
  rw [hek, hu] at hup
  have hdd : d = d' := by omega
  subst hdd
  have h4 := names_pos hed
  rw [hek] at h4
  omega
def sumL {α : Type} : List α → (α → Nat) → Nat
  | [], _ => 0
  | e :: r, g => g e + sumL r g
theorem names_sum (c : Int) : ∀ M : List (List UInt8 × Int), namesOf M c = sumL M (fun e => if e.2 = c then 1 else 0)
  | [] => rfl
  | e :: r => by
    show namesOf (e :: r) c = (if e.2 = c then 1 else 0) + sumL r (fun e => if e.2 = c then 1 else 0)
    rw [← names_sum c r]
    unfold namesOf
    by_cases h : e.2 = c
    · rw [if_pos h, List.filter_cons_of_pos (by simpa using h), List.length_cons]
      omega
    · rw [if_neg h, List.filter_cons_of_neg (by simpa using h)]
      omega
theorem names_cons (e : List UInt8 × Int) (r : List (List UInt8 × Int)) (c : Int) : namesOf (e :: r) c = (if e.2 = c then 1 else 0) + namesOf r c := by
  rw [names_sum, names_sum]
  rfl
theorem kidsTo_cons (e : List UInt8 × Int) (r : List (List UInt8 × Int)) (d : Int) (s : List UInt8) : kidsTo (e :: r) d s = kidsTo r d (if e.2 = d then 47 :: e.1 ++ s else s) := rfl
theorem kids_none : ∀ (M : List (List UInt8 × Int)) (d : Int) (s : List UInt8), namesOf M d = 0 → kidsTo M d s = s
  | [], _, _, _ => rfl
  | e :: r, d, s, h => by
    rw [names_cons] at h
    have hne : ¬ e.2 = d := fun e1 => by rw [if_pos e1] at h; omega
    rw [kidsTo_cons, if_neg hne]
    rw [if_neg hne] at h
    exact kids_none r d s (by omega)
def nameOf : List (List UInt8 × Int) → Int → Option (List UInt8)
  | [], _ => none
  | e :: r, d => if e.2 = d then some e.1 else nameOf r d
theorem kids_one : ∀ (M : List (List UInt8 × Int)) (d : Int), namesOf M d = 1 → ∃ x, nameOf M d = some x ∧ (x, d) ∈ M ∧ ∀ s, kidsTo M d s = 47 :: x ++ s
  | [], _, h => by simp [namesOf] at h
  | e :: r, d, h => by
    rw [names_cons] at h
    by_cases e1 : e.2 = d
    · rw [if_pos e1] at h
      refine ⟨e.1, by unfold nameOf; rw [if_pos e1], ?_, fun s => ?_⟩
      · rw [← e1]
        exact List.mem_cons_self
      · rw [kidsTo_cons, if_pos e1]
        exact kids_none r d _ (by omega)
    · rw [if_neg e1] at h
      obtain ⟨x, h1, h2, h3⟩ := kids_one r d (by omega)
      refine ⟨x, by unfold nameOf; rw [if_neg e1]; exact h1, List.mem_cons_of_mem _ h2, fun s => ?_⟩
      rw [kidsTo_cons, if_neg e1]
      exact h3 s
/-- Names with a slash ahead of each. -/
def sl (M : List (List UInt8)) : List UInt8 := M.flatMap fun x => 47 :: x
theorem sl_cons (x : List UInt8) (r : List (List UInt8)) : sl (x :: r) = 47 :: x ++ sl r := rfl
theorem sl_join : ∀ M : List (List UInt8), M ≠ [] → sl M = 47 :: joinL M
  | [], h => absurd rfl h
  | [x], _ => by simp [sl, joinL]
  | x :: y :: r, _ => by
    rw [sl_cons, sl_join (y :: r) (by simp)]
    simp [joinL]
/-- The directory that names lead to from the root. -/
def goDown (L : List Ino) (M : List (List UInt8)) : Int := M.foldl (fun d x => kidL L d x) 0
theorem rk_up {L : List Ino} {d : Int} {j : Nat} (h : Rk L d (j + 1)) : Rk L (nodeAt L d).up j := ⟨h.1, fun i hi => h.2 (i + 1) (by omega)⟩
theorem take_name {x : List UInt8} (h : ∀ c ∈ x, c ≠ 47) (M : List (List UInt8)) : (x ++ sl M).takeWhile (fun c => c != 47) = x := by
  rw [List.takeWhile_append_of_pos (fun c hc => by simpa using h c hc)]
  cases M with
  | nil => simp [sl]
  | cons y r => rw [sl_cons]; simp
theorem sl_inj : ∀ (M N : List (List UInt8)), (∀ x ∈ M, ∀ c ∈ x, c ≠ 47) → (∀ x ∈ N, ∀ c ∈ x, c ≠ 47) → sl M = sl N → M = N
  | [], [], _, _, _ => rfl
  | [], y :: s, _, _, h => by rw [sl_cons] at h; cases h
  | x :: r, [], _, _, h => by rw [sl_cons] at h; cases h
  | x :: r, y :: s, hM, hN, h => by
    rw [sl_cons, sl_cons, List.cons_append, List.cons_append] at h
    have h1 := (List.cons.inj h).2
    have e : x = y := by
      rw [← take_name (hM x List.mem_cons_self) r, h1, take_name (hN y List.mem_cons_self) s]
    subst e
    rw [sl_inj r s (fun z hz => hM z (List.mem_cons_of_mem _ hz)) (fun z hz => hN z (List.mem_cons_of_mem _ hz)) (List.append_cancel_left h1)]
end Go.Proofs.YtfmaagcomplooaaGreat

namespace Go.Proofs.YtfmaagcomplooaaGreat
set_option maxRecDepth 100000
open Go.ChangeShapes Go.WideShapes Go.Deep Go.Joins
open Go Go.RowKit

section
variable {H : Type} {enc : TypeId × Value → H} {w : World} {base : Nat} {spare : Nat → Bool} {held : Bool}

theorem add_none (b o n : Nat) : (⟨b, o, none⟩ : Addr).add n = ⟨b, o + n, none⟩ := by
  unfold Addr.add
  split
  · rename_i h
    rw [h]
    rfl
  · rfl

/-- One field of a struct that was read. -/
theorem part_at {e : TypeId} {fs : Array Field} {n : Nat} {cs : List Value} {x : DataW H × List MemPlace} (ht : Tryz.prog.underlying e = some (.struct fs)) (h : DataW.trod enc Tryz.prog w base spare held n e cs = some x)
    (j : Nat) (f : Field) (hf : fs[j]? = some f) (ho : f.offset = j) (hc : Tryz.prog.cellsOf f.type = 1) (v : Value) (hv : cs[j]? = some v) :
    ∃ (n' : Nat) (y : DataW H × List MemPlace), DataW.trod enc Tryz.prog w base spare held n' f.type [v] = some y ∧ ∀ z ∈ y.1.weights Tryz.prog f.type, z ∈ x.1.weights Tryz.prog e := by
  obtain ⟨xs, n', _, rfl, hl, hlen, hfs⟩ := DataW.trod_struct ht h
  have h1 := hfs j f hf
  have hj : j < fs.size := (Array.getElem?_eq_some_iff.1 hf).1
  have hjc : j < cs.length := (List.getElem?_eq_some_iff.1 hv).1
  have e1 : (cs.drop j).take 1 = [v] := by
    rw [List.drop_eq_getElem_cons hjc]
    have : cs[j] = v := (List.getElem?_eq_some_iff.1 hv).2
    simp [this]
  rw [ho, hc, e1] at h1
  have hx : xs[j]? = some (xs[j]'(by omega)) := List.getElem?_eq_getElem (by omega)
  refine ⟨n', xs[j]'(by omega), h1.trans hx, fun z hz => ?_⟩
  show z ∈ DataW.weights Tryz.prog e (.agg (xs.map (·.1)))
  unfold DataW.weights
  rw [ht]
  refine DataW.weights_mem_each (j := j) (t := f.type) (d := (xs[j]'(by omega)).1) ?_ ?_ z hz
  · rw [List.getElem?_map, Array.getElem?_toList, hf]
    rfl
  · rw [List.getElem?_map, hx]
    rfl

theorem weights_all {P : Program} {e : TypeId} : ∀ (l : List (DataW H)) (i : Nat) (hi : i < l.length), ∀ z ∈ l[i].weights P e, z ∈ DataW.weightsAll P e l
  | d :: r, 0, _, z, hz => by
    simp only [DataW.weightsAll, List.mem_append]
    exact Or.inl hz
  | d :: r, i + 1, hi, z, hz => by
    simp only [DataW.weightsAll, List.mem_append]
    exact Or.inr (weights_all r i (Nat.lt_of_succ_lt_succ hi) z hz)
  | [], _, hi, _, _ => absurd hi (Nat.not_lt_zero _)

/-- A slice of structs that was read, of e: each element's cells. -/
theorem slice_at {t e : TypeId} {k : Nat} {fuel : Nat} {v : Value} {x : DataW H × List MemPlace} (ht : Tryz.prog.underlying t = some (.slice e)) (hk : Tryz.prog.cellsOf e = k) (hk0 : 0 < k) (h : DataW.trod enc Tryz.prog w base (fun _ => true) held fuel t [v] = some x)
    (R : Nat) (hR : ∀ z ∈ x.1.weights Tryz.prog t, z ≤ R) :
    ∃ (a : Option Addr) (len cap : Nat), v = .slice a len cap ∧ len ≤ cap ∧ cap ≤ maxLen ∧ len * Tryz.prog.bytesOf e ≤ R ∧
      ∀ i, i < len → ∃ b o, a = some ⟨b, o, none⟩ ∧ ∃ (n : Nat) (cs : List Value) (y : DataW H × List MemPlace), DataW.trod enc Tryz.prog w base (fun _ => true) held n e cs = some y ∧ (∀ z ∈ y.1.weights Tryz.prog e, z ≤ R) ∧ cs.length = k ∧ ∀ j, j < k → w.cell? ⟨b, o + i * k + j, none⟩ = cs[j]? := by
  rcases open_slice ht h with ⟨hcs, rfl⟩ | ⟨a, len, cap, m, n, D, Pl, hcs, hb, hl, hm, hmm, rfl, hi⟩
  · have hv : v = .slice none 0 0 := by simpa using hcs
    exact ⟨none, 0, 0, hv, Nat.le_refl _, Nat.zero_le _, by omega, fun i hi => absurd hi (Nat.not_lt_zero _)⟩
  · have hv : v = .slice (some a) len cap := by simpa using hcs
    have hcm : m = cap := by simpa using hmm
    subst hcm
    have hw : ∀ z ∈ DataW.weights Tryz.prog t (.slice ((List.range len).map D) ((List.range (m - len)).map fun j => D (len + j))), z ≤ R := hR
    unfold DataW.weights at hw
    rw [ht] at hw
    have hlen : len * Tryz.prog.bytesOf e ≤ R := by
      have h1 := hw ((((List.range len).map D).length + ((List.range (m - len)).map fun j => D (len + j)).length) * Tryz.prog.bytesOf e) (by simp)
      simp only [List.length_map, List.length_range] at h1
      exact Nat.le_trans (Nat.mul_le_mul_right _ (Nat.le_add_right _ _)) h1
    refine ⟨some a, len, m, hv, hl, hm, hlen, fun i hil => ?_⟩
    obtain ⟨cs, hc, hy⟩ := hi i (by omega)
    rw [hk] at hc
    obtain ⟨_, hcl, hat⟩ := World.cells?_some hc
    have hsp : a.spot = none := by
      obtain ⟨cs0, hc0, _⟩ := hi 0 (by omega)
      rw [hk] at hc0
      obtain ⟨_, hcl0, hat0⟩ := World.cells?_some hc0
      have h1 := hat0 0 hk0
      rw [List.getElem?_eq_getElem (by omega)] at h1
      have h2 := World.cell?_spot h1
      rw [Nat.zero_mul] at h2
      simpa [Addr.add] using h2
    obtain ⟨b, o, s⟩ := a
    have hs : s = none := hsp
    subst hs
    refine ⟨b, o, rfl, n, cs, _, hy, fun z hz => ?_, hcl, fun j hj => ?_⟩
    · refine hw z ?_
      simp only [List.mem_cons, List.mem_append]
      refine Or.inr (Or.inl ?_)
      refine weights_all _ i (by simpa using hil) z ?_
      simpa using hz
    · have h1 := hat j hj
      rw [add_none, add_none] at h1
      exact h1

theorem entry_fields : ∃ f0 f1 : Field, Tryz.prog.underlying 58 = some (.struct #[f0, f1]) ∧ f0.offset = 0 ∧ f1.offset = 1 ∧ f0.type = 9 ∧ f1.type = 3 :=
  ⟨_, _, Tryz.underlying58, rfl, rfl, rfl, rfl⟩
theorem inode_fields : ∃ f0 f1 f2 f3 f4 f5 : Field, Tryz.prog.underlying 49 = some (.struct #[f0, f1, f2, f3, f4, f5]) ∧ f0.offset = 0 ∧ f1.offset = 1 ∧ f2.offset = 2 ∧ f3.offset = 3 ∧ f4.offset = 4 ∧ f5.offset = 5 ∧
    f0.type = 3 ∧ f1.type = 3 ∧ f2.type = 3 ∧ f3.type = 9 ∧ f4.type = 47 ∧ f5.type = 3 :=
  ⟨_, _, _, _, _, _, Tryz.underlying49, rfl, rfl, rfl, rfl, rfl, rfl, rfl, rfl, rfl, rfl, rfl, rfl⟩
theorem one_int : Tryz.prog.cellsOf 3 = 1 := by kernel_rfl
theorem one_string : Tryz.prog.cellsOf 9 = 1 := by kernel_rfl
theorem one_kids : Tryz.prog.cellsOf 47 = 1 := by kernel_rfl
theorem two_entry : Tryz.prog.cellsOf 58 = 2 := by kernel_rfl
theorem six_inode : Tryz.prog.cellsOf 49 = 6 := by kernel_rfl
theorem bytes_entry : Tryz.prog.bytesOf 58 = 24 := by kernel_rfl
theorem bytes_inode : Tryz.prog.bytesOf 49 = 72 := by kernel_rfl

theorem some_at {l : List Value} {j : Nat} (h : j < l.length) : l[j]? = some l[j] := List.getElem?_eq_getElem h

theorem open_kids {fuel : Nat} {v : Value} {x : DataW H × List MemPlace} (h : DataW.trod enc Tryz.prog w base (fun _ => true) held fuel 47 [v] = some x) (R : Nat) (hR : ∀ z ∈ x.1.weights Tryz.prog 47, z ≤ R) :
    ∃ M : List (List UInt8 × Int), KidsIn w v M ∧ M.length * 24 ≤ R ∧ ∀ e ∈ M, e.1.length ≤ R := by
  obtain ⟨a, len, cap, rfl, hl, hm, hb, hi⟩ := slice_at Tryz.underlying47 two_entry (by decide) h R hR
  rw [bytes_entry] at hb
  obtain ⟨f0, f1, hu, o0, o1, t0, t1⟩ := entry_fields
  have hone : ∀ i, i < len → ∃ (s : List UInt8) (z : Int), s.length ≤ R ∧ ∃ b o, a = some ⟨b, o, none⟩ ∧ w.cell? ⟨b, o + i * 2, none⟩ = some (.string ⟨s.toArray⟩) ∧ w.cell? ⟨b, o + i * 2 + 1, none⟩ = some (.int .i64 z) := fun i hil => by
    obtain ⟨b, o, ha, n, cs, y, hy, hyR, hcl, hc⟩ := hi i hil
    have c0 := hc 0 (by decide)
    have c1 := hc 1 (by decide)
    rw [some_at (show 0 < cs.length by omega)] at c0
    rw [some_at (show 1 < cs.length by omega)] at c1
    obtain ⟨n0, y0, hy0, hw0⟩ := part_at hu hy 0 f0 rfl o0 (by rw [t0]; exact one_string) _ (some_at (show 0 < cs.length by omega))
    obtain ⟨n1, y1, hy1, hw1⟩ := part_at hu hy 1 f1 rfl o1 (by rw [t1]; exact one_int) _ (some_at (show 1 < cs.length by omega))
    rw [t0] at hy0 hw0
    rw [t1] at hy1
    obtain ⟨s, e0, rfl, hs⟩ := DataW.trod_string Tryz.underlying9 hy0
    obtain ⟨z, e1, rfl, -⟩ := DataW.trod_int Tryz.underlying3 hy1
    simp only [List.cons.injEq, and_true] at e0 e1
    rw [e0] at c0
    rw [e1] at c1
    refine ⟨s.data.toList, z, hyR _ (hw0 _ (by simp [DataW.weights])), b, o, ha, c0, c1⟩
  -- the list
  have hex : ∃ M : List (List UInt8 × Int), M.length = len ∧ (∀ e ∈ M, e.1.length ≤ R) ∧ ∀ i (hi : i < M.length), ∃ b o, a = some ⟨b, o, none⟩ ∧ w.cell? ⟨b, o + i * 2, none⟩ = some (.string ⟨M[i].1.toArray⟩) ∧ w.cell? ⟨b, o + i * 2 + 1, none⟩ = some (.int .i64 M[i].2) := by
    clear hl hm hb hi h
    induction len with
    | zero => exact ⟨[], rfl, by simp, fun i hi => absurd hi (Nat.not_lt_zero _)⟩
    | succ len ih =>
      obtain ⟨M, h1, h2, h3⟩ := ih (fun i hi => hone i (by omega))
      obtain ⟨s, z, hs, hc⟩ := hone len (Nat.lt_succ_self _)
      refine ⟨M ++ [(s, z)], by simp [h1], fun e he => ?_, fun i hi => ?_⟩
      · rcases List.mem_append.1 he with he | he
        · exact h2 e he
        · simp only [List.mem_singleton] at he
          subst he
          exact hs
      · by_cases hil : i < M.length
        · rw [List.getElem_append_left hil]
          exact h3 i hil
        · have e : i = M.length := by simp at hi; omega
          subst e
          rw [List.getElem_concat_length rfl, h1]
          exact hc
  obtain ⟨M, h1, h2, h3⟩ := hex
  subst h1
  exact ⟨M, ⟨a, cap, rfl, hl, hm, h3⟩, hb, h2⟩

theorem open_nodes {fuel : Nat} {v : Value} {x : DataW H × List MemPlace} (h : DataW.trod enc Tryz.prog w base (fun _ => true) held fuel 22 [v] = some x) (R : Nat) (hR : ∀ z ∈ x.1.weights Tryz.prog 22, z ≤ R) :
    ∃ (L : List Ino) (a : Option Addr) (cap : Nat), v = .slice a L.length cap ∧ NodesIn w a cap L ∧ L.length * 72 ≤ R ∧ ∀ y ∈ L, y.data.length ≤ R ∧ y.kids.length * 24 ≤ R ∧ ∀ e ∈ y.kids, e.1.length ≤ R := by
  obtain ⟨a, len, cap, rfl, hl, hm, hb, hi⟩ := slice_at Tryz.underlying22 six_inode (by decide) h R hR
  rw [bytes_inode] at hb
  obtain ⟨f0, f1, f2, f3, f4, f5, hu, o0, o1, o2, o3, o4, o5, t0, t1, t2, t3, t4, t5⟩ := inode_fields
  have hone : ∀ i, i < len → ∃ y : Ino, (y.data.length ≤ R ∧ y.kids.length * 24 ≤ R ∧ ∀ e ∈ y.kids, e.1.length ≤ R) ∧ ∃ b o, a = some ⟨b, o, none⟩ ∧ NodeIn w b (o + i * 6) y := fun i hil => by
    obtain ⟨b, o, ha, n, cs, y, hy, hyR, hcl, hc⟩ := hi i hil
    have c0 := hc 0 (by decide)
    have c1 := hc 1 (by decide)
    have c2 := hc 2 (by decide)
    have c3 := hc 3 (by decide)
    have c4 := hc 4 (by decide)
    have c5 := hc 5 (by decide)
    rw [some_at (show 0 < cs.length by omega)] at c0
    rw [some_at (show 1 < cs.length by omega)] at c1
    rw [some_at (show 2 < cs.length by omega)] at c2
    rw [some_at (show 3 < cs.length by omega)] at c3
    rw [some_at (show 4 < cs.length by omega)] at c4
    rw [some_at (show 5 < cs.length by omega)] at c5
    obtain ⟨n0, y0, hy0, hw0⟩ := part_at hu hy 0 f0 rfl o0 (by rw [t0]; exact one_int) _ (some_at (show 0 < cs.length by omega))
    obtain ⟨n1, y1, hy1, hw1⟩ := part_at hu hy 1 f1 rfl o1 (by rw [t1]; exact one_int) _ (some_at (show 1 < cs.length by omega))
    obtain ⟨n2, y2, hy2, hw2⟩ := part_at hu hy 2 f2 rfl o2 (by rw [t2]; exact one_int) _ (some_at (show 2 < cs.length by omega))
    obtain ⟨n3, y3, hy3, hw3⟩ := part_at hu hy 3 f3 rfl o3 (by rw [t3]; exact one_string) _ (some_at (show 3 < cs.length by omega))
    obtain ⟨n4, y4, hy4, hw4⟩ := part_at hu hy 4 f4 rfl o4 (by rw [t4]; exact one_kids) _ (some_at (show 4 < cs.length by omega))
    obtain ⟨n5, y5, hy5, hw5⟩ := part_at hu hy 5 f5 rfl o5 (by rw [t5]; exact one_int) _ (some_at (show 5 < cs.length by omega))
    rw [t0] at hy0
    rw [t1] at hy1
    rw [t2] at hy2
    rw [t3] at hy3 hw3
    rw [t4] at hy4 hw4
    rw [t5] at hy5
    obtain ⟨z0, e0, rfl, -⟩ := DataW.trod_int Tryz.underlying3 hy0
    obtain ⟨z1, e1, rfl, -⟩ := DataW.trod_int Tryz.underlying3 hy1
    obtain ⟨z2, e2, rfl, -⟩ := DataW.trod_int Tryz.underlying3 hy2
    obtain ⟨s, e3, rfl, hs⟩ := DataW.trod_string Tryz.underlying9 hy3
    obtain ⟨z5, e5, rfl, -⟩ := DataW.trod_int Tryz.underlying3 hy5
    obtain ⟨M, hM, hM1, hM2⟩ := open_kids hy4 R (fun z hz => hyR z (hw4 z hz))
    simp only [List.cons.injEq, and_true] at e0 e1 e2 e3 e5
    rw [e0] at c0
    rw [e1] at c1
    rw [e2] at c2
    rw [e3] at c3
    rw [e5] at c5
    exact ⟨⟨z0, z1, z2, s.data.toList, M, z5⟩, ⟨hyR _ (hw3 _ (by simp [DataW.weights])), hM1, hM2⟩, b, o, ha, ⟨c0, c1, c2, c3, ⟨_, c4, hM⟩, c5⟩⟩
  have hex : ∃ L : List Ino, L.length = len ∧ (∀ y ∈ L, y.data.length ≤ R ∧ y.kids.length * 24 ≤ R ∧ ∀ e ∈ y.kids, e.1.length ≤ R) ∧ ∀ i (hi : i < L.length), ∃ b o, a = some ⟨b, o, none⟩ ∧ NodeIn w b (o + i * 6) L[i] := by
    clear hl hm hb hi h
    induction len with
    | zero => exact ⟨[], rfl, by simp, fun i hi => absurd hi (Nat.not_lt_zero _)⟩
    | succ len ih =>
      obtain ⟨L, h1, h2, h3⟩ := ih (fun i hi => hone i (by omega))
      obtain ⟨y, hy, hc⟩ := hone len (Nat.lt_succ_self _)
      refine ⟨L ++ [y], by simp [h1], fun e he => ?_, fun i hi => ?_⟩
      · rcases List.mem_append.1 he with he | he
        · exact h2 e he
        · simp only [List.mem_singleton] at he
          subst he
          exact hy
      · by_cases hil : i < L.length
        · rw [List.getElem_append_left hil]
          exact h3 i hil
        · have e : i = L.length := by simp at hi; omega
          subst e
          rw [List.getElem_concat_length rfl, h1]
          exact hc
  obtain ⟨L, h1, h2, h3⟩ := hex
  subst h1
  exact ⟨L, a, cap, rfl, ⟨hl, hm, h3⟩, hb, h2⟩

theorem tree_fields : ∃ f0 f1 f2 : Field, Tryz.prog.underlying 24 = some (.struct #[f0, f1, f2]) ∧ oneCellFields Tryz.prog #[f0, f1, f2] = true ∧ f0.type = 22 ∧ f1.type = 3 ∧ f2.type = 3 ∧ f0.offset = 0 :=
  ⟨_, _, _, Tryz.underlying24, by kernel_rfl, rfl, rfl, rfl, rfl⟩
theorem three_tree : Tryz.prog.cellsOf 24 = 3 := by kernel_rfl

/-- An argument that is a tree. -/
theorem open_tree {r : Go.Reach} {b0 : Nat} {v : Value} {d : DataW H} {p : List MemPlace} (hv : Value.okWide Tryz.prog w r b0 24 v) (h : DataW.Trod enc Tryz.prog w base (fun _ => true) held 24 v d p)
    (R : Nat) (hR0 : R ≤ 140737488355328) (hR : ∀ z ∈ d.weights Tryz.prog 24, z ≤ R) :
    ∃ (L : List Ino) (a : Option Addr) (cap : Nat) (m b : Int), v = .agg #[.slice a L.length cap, .int .i64 m, .int .i64 b] ∧ NodesIn w a cap L ∧ Proofs.YtfmaagcomplooaaGreat.Reach L := by
  obtain ⟨f0, f1, f2, hu, hone, t0, t1, t2, -⟩ := tree_fields
  obtain ⟨v0, v1, v2, y0, y1, y2, n, rfl, rfl, rfl, g0, g1, g2⟩ := open_agg3 hu hone three_tree hv h
  rw [t0] at g0
  rw [t1] at g1
  rw [t2] at g2
  obtain ⟨m, e1, rfl, -⟩ := DataW.trod_int Tryz.underlying3 g1
  obtain ⟨b, e2, rfl, -⟩ := DataW.trod_int Tryz.underlying3 g2
  simp only [List.cons.injEq, and_true] at e1 e2
  obtain ⟨L, a, cap, rfl, hN, hl, hy⟩ := open_nodes g0 R (fun z hz => hR z (by
    unfold DataW.weights
    rw [hu]
    show z ∈ DataW.weightsEach Tryz.prog [f0.type, f1.type, f2.type] [y0.1, _, _]
    rw [t0]
    simp only [DataW.weightsEach, List.mem_append]
    exact Or.inl hz))
  refine ⟨L, a, cap, m, b, by rw [e1, e2], hN, ⟨by omega, fun k hk => ?_, fun k hk => ?_, fun k hk => by have := (hy _ (List.getElem_mem hk)).1; omega⟩⟩
  · have := (hy _ (List.getElem_mem hk)).2.1
    omega
  · have h1 := (hy _ (List.getElem_mem hk)).1
    exact ⟨by omega, fun e he => by have := (hy _ (List.getElem_mem hk)).2.2 e he; omega⟩
end
end Go.Proofs.YtfmaagcomplooaaGreat

namespace Go.Proofs.YtfmaagcomplooaaGreat
set_option maxRecDepth 100000
open Go Go.RowKit

theorem blk_cell {W : World} {k : Nat} {cs : Array Value} {t : TypeId} (h : W.heap[k]? = some (.cells cs t (0, 0))) (j : Nat) : W.cell? ⟨k, j, none⟩ = cs[j]? := cell_of_row W k j cs t (0, 0) h
theorem blk_free {W : World} {k : Nat} {cs : Array Value} {t : TypeId} (h : W.heap[k]? = some (.cells cs t (0, 0))) (j : Nat) : W.frozen? ⟨k, j, none⟩ = false := by simp [World.frozen?, h]
theorem blk_set {W : World} {k : Nat} {cs : Array Value} {t : TypeId} (h : W.heap[k]? = some (.cells cs t (0, 0))) (j : Nat) (u : Value) : (W.setCell ⟨k, j, none⟩ u).heap[k]? = some (.cells (cs.setIfInBounds j u) t (0, 0)) := by
  have hlt := lt_of_block h
  have h' : W.heap[k] = .cells cs t (0, 0) := by simpa [Array.getElem?_eq_getElem hlt] using h
  show (W.heap.modify k _)[k]? = _
  rw [Array.getElem?_eq_getElem (by simpa using hlt), Array.getElem_modify_self, h']
  rfl
/-- A tree is stored in a block of three. -/
def put3 (W : World) (k : Nat) (x y z : Value) : World := ((W.setCell ⟨k, 0, none⟩ x).setCell ⟨k, 1, none⟩ y).setCell ⟨k, 2, none⟩ z
theorem put3_block {W : World} {k : Nat} {a b c : Value} {t : TypeId} (h : W.heap[k]? = some (.cells #[a, b, c] t (0, 0))) (x y z : Value) : (put3 W k x y z).heap[k]? = some (.cells #[x, y, z] t (0, 0)) := blk_set (blk_set (blk_set h 0 x) 1 y) 2 z
theorem put3_cells {W : World} {k : Nat} {a b c : Value} {t : TypeId} (h : W.heap[k]? = some (.cells #[a, b, c] t (0, 0))) (x y z : Value) : (put3 W k x y z).cell? ⟨k, 0, none⟩ = some x ∧ (put3 W k x y z).cell? ⟨k, 1, none⟩ = some y ∧ (put3 W k x y z).cell? ⟨k, 2, none⟩ = some z :=
  ⟨blk_cell (put3_block h x y z) 0, blk_cell (put3_block h x y z) 1, blk_cell (put3_block h x y z) 2⟩
theorem put3_other {W : World} {k j : Nat} (h : j ≠ k) (x y z : Value) : (put3 W k x y z).heap[j]? = W.heap[j]? :=
  (Below.heap_setCell _ _ _ _ h).trans ((Below.heap_setCell _ _ _ _ h).trans (Below.heap_setCell _ _ _ _ h))
theorem put3_below {B : Nat} {w W : World} {k : Nat} (h : Below B w W) (hk : B ≤ k) (x y z : Value) : Below B w (put3 W k x y z) := ((h.setCell hk _).setCell hk _).setCell hk _
theorem put3_size (W : World) (k : Nat) (x y z : Value) : (put3 W k x y z).heap.size = W.heap.size := by unfold put3; simp [World.setCell]
/-- Two boxes that are laid one behind the other. -/
theorem two_boxes (w : World) (A B : Array Value) (s t : TypeId) : ∃ w2, w2 = (w.alloc (.cells A s)).alloc (.cells B t) ∧ Below w.heap.size w w2 ∧ w2.heap.size = w.heap.size + 2 ∧ w2.heap[w.heap.size]? = some (.cells A s (0, 0)) ∧ w2.heap[w.heap.size + 1]? = some (.cells B t (0, 0)) := by
  refine ⟨_, rfl, (below_box w _).alloc (by simp) _, by simp, ?_, ?_⟩
  · rw [Below.heap_alloc _ _ _ (by simp)]; exact new_block _ _
  · have := new_block (w.alloc (.cells A s)) (.cells B t)
    rw [World.size_alloc] at this
    exact this
/-- At block g, place o, lies the inode x, whose names' slice is v. -/
structure NodeAt (W : World) (g o : Nat) (x : Ino) (v : Value) : Prop where
  kind : W.cell? ⟨g, o, none⟩ = some (.int .i64 x.kind)
  mode : W.cell? ⟨g, o + 1, none⟩ = some (.int .i64 x.mode)
  links : W.cell? ⟨g, o + 2, none⟩ = some (.int .i64 x.links)
  data : W.cell? ⟨g, o + 3, none⟩ = some (.string ⟨x.data.toArray⟩)
  kids : W.cell? ⟨g, o + 4, none⟩ = some v
  up : W.cell? ⟨g, o + 5, none⟩ = some (.int .i64 x.up)

/-- Block g holds the inodes L, whose names' slices are vs. -/
structure NodesOwn (W : World) (g cap : Nat) (L : List Ino) (vs : List Value) : Prop where
  len : vs.length = L.length
  le : L.length ≤ cap
  max : cap ≤ maxLen
  lt : g < W.heap.size
  free : ∀ j, W.frozen? ⟨g, j, none⟩ = false
  node : ∀ i (hi : i < L.length) (hv : i < vs.length), NodeAt W g (i * 6) L[i] vs[i]

section
variable {W W' : World} {g cap : Nat} {L : List Ino} {vs : List Value}
theorem NodeAt.same {o : Nat} {x : Ino} {v : Value} (h : NodeAt W g o x v) (he : W'.heap[g]? = W.heap[g]?) : NodeAt W' g o x v := by
  have hc : ∀ j, W'.cell? ⟨g, j, none⟩ = W.cell? ⟨g, j, none⟩ := fun j => World.cell?_of_block (a := ⟨g, j, none⟩) he
  exact ⟨(hc _).trans h.kind, (hc _).trans h.mode, (hc _).trans h.links, (hc _).trans h.data, (hc _).trans h.kids, (hc _).trans h.up⟩
theorem lt_of_same (hl : g < W.heap.size) (he : W'.heap[g]? = W.heap[g]?) : g < W'.heap.size := by
  rw [Array.getElem?_eq_getElem hl] at he
  exact (Array.getElem?_eq_some_iff.1 he).1
theorem NodesOwn.same (h : NodesOwn W g cap L vs) (he : W'.heap[g]? = W.heap[g]?) : NodesOwn W' g cap L vs :=
  ⟨h.len, h.le, h.max, lt_of_same h.lt he, fun j => (World.frozen?_of_block (a := ⟨g, j, none⟩) he).trans (h.free j), fun i hi hv => (h.node i hi hv).same he⟩
theorem NodesOwn.below (h : NodesOwn W g cap L vs) (hb : Below W.heap.size W W') : NodesOwn W' g cap L vs := h.same (hb.block g h.lt)
theorem NodesOwn.nodesIn (h : NodesOwn W g cap L vs) (hk : ∀ i (hi : i < L.length) (hv : i < vs.length), KidsIn W vs[i] L[i].kids) : NodesIn W (some ⟨g, 0, none⟩) cap L :=
  ⟨h.le, h.max, fun i hi => ⟨g, 0, rfl, by
    rw [Nat.zero_add]
    have hv : i < vs.length := by rw [h.len]; exact hi
    have hn := h.node i hi hv
    exact ⟨hn.kind, hn.mode, hn.links, hn.data, ⟨_, hn.kids, hk i hi hv⟩, hn.up⟩⟩⟩

/-- One cell of an inode is written. -/
theorem cell_set {a : Nat} {u old : Value} (h : W.cell? ⟨g, a, none⟩ = some old) (j : Nat) : (W.setCell ⟨g, a, none⟩ u).cell? ⟨g, j, none⟩ = if j = a then some u else W.cell? ⟨g, j, none⟩ := by
  by_cases e : j = a
  · subst e
    rw [if_pos rfl]
    exact World.cell?_setCell_same W ⟨g, j, none⟩ u h
  · rw [if_neg e]
    exact World.cell?_setCell_other W ⟨g, a, none⟩ ⟨g, j, none⟩ u (fun e2 => e (Addr.mk.inj e2).2.1.symm)
theorem size_set (a : Addr) (u : Value) : (W.setCell a u).heap.size = W.heap.size := by simp [World.setCell]

/-- What is written of an inode: of the six cells from i * 6 on. -/
theorem NodesOwn.put (h : NodesOwn W g cap L vs) {i : Nat} (_hi : i < L.length) {x : Ino} {v : Value} (hs : W'.heap.size = W.heap.size) (hf : ∀ j, W'.frozen? ⟨g, j, none⟩ = W.frozen? ⟨g, j, none⟩)
    (hout : ∀ j, j < i * 6 ∨ i * 6 + 6 ≤ j → W'.cell? ⟨g, j, none⟩ = W.cell? ⟨g, j, none⟩) (hin : NodeAt W' g (i * 6) x v) : NodesOwn W' g cap (L.set i x) (vs.set i v) := by
  refine ⟨by rw [List.length_set, List.length_set, h.len], by rw [List.length_set]; exact h.le, h.max, by rw [hs]; exact h.lt, fun j => (hf j).trans (h.free j), fun j hj hv => ?_⟩
  rw [List.length_set] at hj hv
  by_cases e : i = j
  · subst e
    rw [List.getElem_set_self, List.getElem_set_self]
    exact hin
  · rw [List.getElem_set_ne e, List.getElem_set_ne e]
    have hn := h.node j hj hv
    have ho : ∀ t, t < 6 → W'.cell? ⟨g, j * 6 + t, none⟩ = W.cell? ⟨g, j * 6 + t, none⟩ := fun t ht => hout _ (by omega)
    exact ⟨(ho 0 (by decide)).trans hn.kind, (ho 1 (by decide)).trans hn.mode, (ho 2 (by decide)).trans hn.links, (ho 3 (by decide)).trans hn.data, (ho 4 (by decide)).trans hn.kids, (ho 5 (by decide)).trans hn.up⟩

theorem NodesOwn.setKids (h : NodesOwn W g cap L vs) {i : Nat} (hi : i < L.length) (hv : i < vs.length) (v : Value) (M : List (List UInt8 × Int)) : NodesOwn (W.setCell ⟨g, i * 6 + 4, none⟩ v) g cap (L.set i { L[i] with kids := M }) (vs.set i v) := by
  have hn := h.node i hi hv
  have hc := cell_set (u := v) hn.kids
  refine h.put hi (size_set _ _) (fun j => World.frozen?_setCell ..) (fun j hj => by rw [hc, if_neg (by omega)]) ⟨?_, ?_, ?_, ?_, ?_, ?_⟩
  · rw [hc, if_neg (by omega)]; exact hn.kind
  · rw [hc, if_neg (by omega)]; exact hn.mode
  · rw [hc, if_neg (by omega)]; exact hn.links
  · rw [hc, if_neg (by omega)]; exact hn.data
  · rw [hc, if_pos rfl]
  · rw [hc, if_neg (by omega)]; exact hn.up
theorem NodesOwn.setLinks (h : NodesOwn W g cap L vs) {i : Nat} (hi : i < L.length) (hv : i < vs.length) (z : Int) : NodesOwn (W.setCell ⟨g, i * 6 + 2, none⟩ (.int .i64 z)) g cap (L.set i { L[i] with links := z }) (vs.set i vs[i]) := by
  have hn := h.node i hi hv
  have hc := cell_set (u := .int .i64 z) hn.links
  refine h.put hi (size_set _ _) (fun j => World.frozen?_setCell ..) (fun j hj => by rw [hc, if_neg (by omega)]) ⟨?_, ?_, ?_, ?_, ?_, ?_⟩
  · rw [hc, if_neg (by omega)]; exact hn.kind
  · rw [hc, if_neg (by omega)]; exact hn.mode
  · rw [hc, if_pos rfl]
  · rw [hc, if_neg (by omega)]; exact hn.data
  · rw [hc, if_neg (by omega)]; exact hn.kids
  · rw [hc, if_neg (by omega)]; exact hn.up
theorem NodesOwn.setMode (h : NodesOwn W g cap L vs) {i : Nat} (hi : i < L.length) (hv : i < vs.length) (z : Int) : NodesOwn (W.setCell ⟨g, i * 6 + 1, none⟩ (.int .i64 z)) g cap (L.set i { L[i] with mode := z }) (vs.set i vs[i]) := by
  have hn := h.node i hi hv
  have hc := cell_set (u := .int .i64 z) hn.mode
  refine h.put hi (size_set _ _) (fun j => World.frozen?_setCell ..) (fun j hj => by rw [hc, if_neg (by omega)]) ⟨?_, ?_, ?_, ?_, ?_, ?_⟩
  · rw [hc, if_neg (by omega)]; exact hn.kind
  · rw [hc, if_pos rfl]
  · rw [hc, if_neg (by omega)]; exact hn.links
  · rw [hc, if_neg (by omega)]; exact hn.data
  · rw [hc, if_neg (by omega)]; exact hn.kids
  · rw [hc, if_neg (by omega)]; exact hn.up
def inoC (x : Ino) (v : Value) : List Value := [.int .i64 x.kind, .int .i64 x.mode, .int .i64 x.links, .string ⟨x.data.toArray⟩, v, .int .i64 x.up]
theorem size_sets (b : Nat) : ∀ (l : List Value) (o : Nat) (w : World), (w.setCells b o l).heap.size = w.heap.size
  | [], _, _ => rfl
  | v :: r, o, w => by
    show ((w.setCell ⟨b, o, none⟩ v).setCells b (o + 1) r).heap.size = _
    rw [size_sets b r, size_set]
theorem NodesOwn.setNode (h : NodesOwn W g cap L vs) {i : Nat} (hi : i < L.length) (hv : i < vs.length) (x : Ino) (v : Value) : NodesOwn (W.setCells g (i * 6) (inoC x v)) g cap (L.set i x) (vs.set i v) := by
  have hn := h.node i hi hv
  have hin := World.cell?_setCells_in g (inoC x v) (i * 6) W (fun j hj => by
    have hj' : j < 6 := hj
    match j, hj' with
    | 0, _ => exact Option.isSome_of_eq_some hn.kind
    | 1, _ => exact Option.isSome_of_eq_some hn.mode
    | 2, _ => exact Option.isSome_of_eq_some hn.links
    | 3, _ => exact Option.isSome_of_eq_some hn.data
    | 4, _ => exact Option.isSome_of_eq_some hn.kids
    | 5, _ => exact Option.isSome_of_eq_some hn.up)
  refine h.put hi (size_sets _ _ _ _) (fun j => World.frozen?_setCells ..) (fun j hj => World.cell?_setCells_out _ _ _ _ _ (fun _ _ => hj)) ⟨?_, ?_, ?_, ?_, ?_, ?_⟩
  · exact hin 0 (show 0 < 6 by decide)
  · exact hin 1 (show 1 < 6 by decide)
  · exact hin 2 (show 2 < 6 by decide)
  · exact hin 3 (show 3 < 6 by decide)
  · exact hin 4 (show 4 < 6 by decide)
  · exact hin 5 (show 5 < 6 by decide)
end

/-! ### Names in a block of the call's own -/

def kidC : List (List UInt8 × Int) → List Value
  | [] => []
  | e :: r => .string ⟨e.1.toArray⟩ :: .int .i64 e.2 :: kidC r
theorem kidC_len : ∀ K, (kidC K).length = K.length * 2
  | [] => rfl
  | e :: r => by simp only [kidC, List.length_cons, kidC_len r]; omega
theorem kidC_app : ∀ A B, kidC (A ++ B) = kidC A ++ kidC B
  | [], B => rfl
  | e :: r, B => by simp only [List.cons_append, kidC, kidC_app r B]
theorem kidC_get0 : ∀ (K : List (List UInt8 × Int)) (i : Nat) (h : i < K.length), (kidC K)[i * 2]? = some (.string ⟨K[i].1.toArray⟩)
  | e :: r, 0, _ => rfl
  | e :: r, i + 1, h => by
    have := kidC_get0 r i (Nat.lt_of_succ_lt_succ h)
    rw [show (i + 1) * 2 = i * 2 + 1 + 1 by omega, kidC, List.getElem?_cons_succ, List.getElem?_cons_succ, this]
    rfl
theorem kidC_get1 : ∀ (K : List (List UInt8 × Int)) (i : Nat) (h : i < K.length), (kidC K)[i * 2 + 1]? = some (.int .i64 K[i].2)
  | e :: r, 0, _ => rfl
  | e :: r, i + 1, h => by
    have := kidC_get1 r i (Nat.lt_of_succ_lt_succ h)
    rw [show (i + 1) * 2 + 1 = i * 2 + 1 + 1 + 1 by omega, kidC, List.getElem?_cons_succ, List.getElem?_cons_succ, this]
    rfl
theorem kidC_one : ∀ (K : List (List UInt8 × Int)), ∀ u ∈ kidC K, u.oneCell' = true
  | [], _, h => by cases h
  | e :: r, u, h => by
    rcases List.mem_cons.1 h with rfl | h
    · rfl
    · rcases List.mem_cons.1 h with rfl | h
      · rfl
      · exact kidC_one r u h
/-- Names as they lie, cell by cell. -/
theorem kidC_cells {W : World} {K : List (List UInt8 × Int)} {b o : Nat} (h : ∀ i (hi : i < K.length), W.cell? ⟨b, o + i * 2, none⟩ = some (.string ⟨K[i].1.toArray⟩) ∧ W.cell? ⟨b, o + i * 2 + 1, none⟩ = some (.int .i64 K[i].2)) (j : Nat) (u : Value) (hu : (kidC K)[j]? = some u) : W.cell? ⟨b, o + j, none⟩ = some u := by
  have hj : j < K.length * 2 := by rw [← kidC_len]; exact (List.getElem?_eq_some_iff.1 hu).1
  have hi : j / 2 < K.length := by omega
  rcases Nat.mod_two_eq_zero_or_one j with e | e
  · obtain ⟨i, rfl⟩ : ∃ i, j = i * 2 := ⟨j / 2, by omega⟩
    have hi' : i < K.length := by omega
    rw [kidC_get0 K i hi'] at hu
    cases hu
    exact (h i hi').1
  · obtain ⟨i, rfl⟩ : ∃ i, j = i * 2 + 1 := ⟨j / 2, by omega⟩
    have hi' : i < K.length := by omega
    rw [kidC_get1 K i hi'] at hu
    cases hu
    rw [← Nat.add_assoc]
    exact (h i hi').2
def KidsOwn (W : World) (base : Nat) (v : Value) (K : List (List UInt8 × Int)) : Prop := W.ownsRow base 58 2 v K.length (kidC K)
theorem zero_add_addr (g j : Nat) : (⟨g, 0, none⟩ : Addr).add j = ⟨g, j, none⟩ := by
  unfold Addr.add
  split
  · rename_i h; rw [h]
  · show (⟨g, 0 + j, none⟩ : Addr) = _; rw [Nat.zero_add]
theorem KidsOwn.kidsIn {W : World} {base : Nat} {v : Value} {K : List (List UInt8 × Int)} (h : KidsOwn W base v K) : KidsIn W v K := by
  rcases h.2 with ⟨rfl, h0⟩ | ⟨g, cap, cur, rfl, hb, hg, hn, hc, hs, ht⟩
  · have e : K = [] := List.length_eq_zero_iff.1 h0
    subst e
    exact ⟨none, 0, rfl, Nat.le_refl _, Nat.zero_le _, fun i hi => absurd hi (Nat.not_lt_zero _)⟩
  · refine ⟨some ⟨g, 0, none⟩, cap, rfl, hn, hc, fun i hi => ⟨g, 0, rfl, ?_, ?_⟩⟩
    · have := h.cells rfl _ _ (kidC_get0 K i hi)
      rw [zero_add_addr] at this
      rw [Nat.zero_add]
      exact this
    · have := h.cells rfl _ _ (kidC_get1 K i hi)
      rw [zero_add_addr] at this
      rw [Nat.zero_add]
      exact this
theorem KidsOwn.form {W : World} {B : Nat} {v : Value} {K : List (List UInt8 × Int)} (h : KidsOwn W B v K) : ∃ a c, v = .slice a K.length c := by
  rcases h.2 with ⟨rfl, h0⟩ | ⟨g, cap, cur, e, -⟩
  · exact ⟨none, 0, by rw [h0]⟩
  · exact ⟨_, _, e⟩
theorem KidsOwn.lower {W : World} {B B' : Nat} {v : Value} {K : List (List UInt8 × Int)} (h : KidsOwn W B v K) (hb : B' ≤ B) : KidsOwn W B' v K := by
  refine ⟨h.1, ?_⟩
  rcases h.2 with hn | ⟨g, cap, cur, e, hg, rest⟩
  · exact .inl hn
  · exact .inr ⟨g, cap, cur, e, Nat.le_trans hb hg, rest⟩
theorem KidsOwn.nil (W : World) (base : Nat) : KidsOwn W base (.slice none 0 0) [] := World.ownsRow_nil W base _ 2
theorem KidsOwn.same {W W' : World} {base : Nat} {v : Value} {K : List (List UInt8 × Int)} (h : KidsOwn W base v K) (he : ∀ k, v.ownBlock = some k → W'.heap[k]? = W.heap[k]?) : KidsOwn W' base v K := by
  refine ⟨h.1, ?_⟩
  rcases h.2 with hn | ⟨g, cap, cur, rfl, hb, hg, rest⟩
  · exact .inl hn
  · exact .inr ⟨g, cap, cur, rfl, hb, (he g rfl).trans hg, rest⟩

/-- A tree that is the call's own from block base on. -/
structure OwnT (W : World) (base g cap : Nat) (L : List Ino) (vs : List Value) : Prop where
  nodes : NodesOwn W g cap L vs
  hbase : base ≤ g
  kids : ∀ i (hi : i < L.length) (hv : i < vs.length), KidsOwn W base vs[i] L[i].kids
  apart : ∀ i j (hi : i < vs.length) (hj : j < vs.length), i ≠ j → vs[i].ownBlock = none ∨ vs[i].ownBlock ≠ vs[j].ownBlock
  off : ∀ i (hi : i < vs.length), vs[i].ownBlock ≠ some g
section
variable {W W' : World} {base g cap : Nat} {L : List Ino} {vs : List Value}
theorem OwnT.nodesIn (h : OwnT W base g cap L vs) : NodesIn W (some ⟨g, 0, none⟩) cap L := h.nodes.nodesIn fun i hi hv => (h.kids i hi hv).kidsIn
theorem OwnT.below (h : OwnT W base g cap L vs) (hb : Below W.heap.size W W') : OwnT W' base g cap L vs :=
  ⟨h.nodes.below hb, h.hbase, fun i hi hv => (h.kids i hi hv).same fun k hk => hb.block k ((h.kids i hi hv).lt k hk).2, h.apart, h.off⟩
/-- What lies below base may change. -/
theorem OwnT.low (h : OwnT W base g cap L vs) (hb : ∀ k, base ≤ k → W'.heap[k]? = W.heap[k]?) : OwnT W' base g cap L vs :=
  ⟨h.nodes.same (hb g h.hbase), h.hbase, fun i hi hv => (h.kids i hi hv).same fun k hk => hb k ((h.kids i hi hv).lt k hk).1, h.apart, h.off⟩
theorem OwnT.lower {base' : Nat} (h : OwnT W base g cap L vs) (hb : base' ≤ base) : OwnT W base' g cap L vs :=
  ⟨h.nodes, Nat.le_trans hb h.hbase, fun i hi hv => (h.kids i hi hv).lower hb, h.apart, h.off⟩
/-- Names of one directory are others: in its own block, or in a new one; the rest stays. -/
theorem OwnT.setKids (h : OwnT W base g cap L vs) {d : Nat} (hd : d < L.length) (hv : d < vs.length) {v : Value} {M : List (List UInt8 × Int)} (hg : W.grownBy W' vs[d].ownBlock) (ho : KidsOwn W' base v M) (hb : ∀ k, v.ownBlock = some k → vs[d].ownBlock = some k ∨ W.heap.size ≤ k) :
    OwnT (W'.setCell ⟨g, d * 6 + 4, none⟩ v) base g cap (L.set d { L[d] with kids := M }) (vs.set d v) := by
  have hsame : W'.heap[g]? = W.heap[g]? := hg.block g h.nodes.lt (fun e => h.off d hv e.symm)
  have hN := (h.nodes.same hsame).setKids hd hv v M
  have hoff : ∀ k, v.ownBlock = some k → k ≠ g := fun k hk e => by
    subst e
    rcases hb k hk with h1 | h1
    · exact h.off d hv h1
    · have := h.nodes.lt; omega
  have hap : ∀ j (hj : j < vs.length), j ≠ d → ∀ k, vs[j].ownBlock = some k → v.ownBlock ≠ some k := fun j hj hjd k hk e => by
    rcases hb k e with h1 | h1
    · rcases h.apart j d hj hv hjd with h2 | h2
      · rw [h2] at hk; cases hk
      · exact h2 (hk.trans h1.symm)
    · have := ((h.kids j (by rw [← h.nodes.len]; exact hj) hj).lt k hk).2
      omega
  have hst : ∀ k, k ≠ g → (W'.setCell ⟨g, d * 6 + 4, none⟩ v).heap[k]? = W'.heap[k]? := fun k hk => Below.heap_setCell _ _ _ _ hk
  refine ⟨hN, h.hbase, fun i hi hvi => ?_, fun i j hi hj hij => ?_, fun i hi => ?_⟩
  · rw [List.length_set] at hi hvi
    by_cases e : d = i
    · subst e
      rw [List.getElem_set_self]
      have e2 : (L.set d { L[d] with kids := M })[d]'(by rw [List.length_set]; exact hi) = { L[d] with kids := M } := List.getElem_set_self ..
      rw [e2]
      exact ho.same fun k hk => hst k (hoff k hk)
    · rw [List.getElem_set_ne e, List.getElem_set_ne e]
      have hki := h.kids i hi hvi
      refine hki.same fun k hk => ?_
      rw [hst k (fun e3 => h.off i hvi (e3 ▸ hk))]
      refine hg.block k (hki.lt k hk).2 (fun e3 => ?_)
      rcases h.apart i d hvi hv (fun e4 => e e4.symm) with h2 | h2
      · rw [h2] at hk; cases hk
      · exact h2 (hk.trans e3)
  · rw [List.length_set] at hi hj
    rw [List.getElem_set, List.getElem_set]
    by_cases e1 : d = i
    · rw [if_pos e1]
      rw [if_neg (fun e2 => hij (e1.symm.trans e2))]
      cases hq : v.ownBlock with
      | none => exact Or.inl rfl
      | some k => exact Or.inr fun e3 => hap j hj (fun e2 => hij (e1.symm.trans e2.symm)) k e3.symm hq
    · rw [if_neg e1]
      by_cases e2 : d = j
      · rw [if_pos e2]
        cases hq : vs[i].ownBlock with
        | none => exact Or.inl rfl
        | some k => exact Or.inr fun e3 => hap i hi (fun e4 => e1 e4.symm) k hq e3.symm
      · rw [if_neg e2]
        exact h.apart i j hi hj hij
  · rw [List.length_set] at hi
    rw [List.getElem_set]
    by_cases e : d = i
    · rw [if_pos e]
      exact fun e3 => hoff g e3 rfl
    · rw [if_neg e]
      exact h.off i hi
theorem set_self {vs : List Value} {i : Nat} (hi : i < vs.length) : vs.set i vs[i] = vs := List.set_getElem_self ..
theorem OwnT.setLinks (h : OwnT W base g cap L vs) {i : Nat} (hi : i < L.length) (z : Int) : OwnT (W.setCell ⟨g, i * 6 + 2, none⟩ (.int .i64 z)) base g cap (L.set i { L[i] with links := z }) vs := by
  have hv : i < vs.length := by rw [h.nodes.len]; exact hi
  have hN := h.nodes.setLinks hi hv z
  rw [set_self] at hN
  refine ⟨hN, h.hbase, fun j hj hvj => ?_, h.apart, h.off⟩
  rw [List.length_set] at hj
  have hk := (h.kids j hj hvj).same (W' := W.setCell ⟨g, i * 6 + 2, none⟩ (.int .i64 z)) fun k hk => Below.heap_setCell _ _ _ _ (fun e => h.off j hvj (hk.trans (congrArg some (show k = g from e))))
  rw [List.getElem_set]
  split
  · rename_i e; subst e; exact hk
  · exact hk
theorem OwnT.setMode (h : OwnT W base g cap L vs) {i : Nat} (hi : i < L.length) (z : Int) : OwnT (W.setCell ⟨g, i * 6 + 1, none⟩ (.int .i64 z)) base g cap (L.set i { L[i] with mode := z }) vs := by
  have hv : i < vs.length := by rw [h.nodes.len]; exact hi
  have hN := h.nodes.setMode hi hv z
  rw [set_self] at hN
  refine ⟨hN, h.hbase, fun j hj hvj => ?_, h.apart, h.off⟩
  rw [List.length_set] at hj
  have hk := (h.kids j hj hvj).same (W' := W.setCell ⟨g, i * 6 + 1, none⟩ (.int .i64 z)) fun k hk => Below.heap_setCell _ _ _ _ (fun e => h.off j hvj (hk.trans (congrArg some (show k = g from e))))
  rw [List.getElem_set]
  split
  · rename_i e; subst e; exact hk
  · exact hk
theorem heap_sets (b : Nat) : ∀ (l : List Value) (o : Nat) (w : World) (k : Nat), k ≠ b → (w.setCells b o l).heap[k]? = w.heap[k]?
  | [], _, _, _, _ => rfl
  | v :: r, o, w, k, h => by
    show ((w.setCell ⟨b, o, none⟩ v).setCells b (o + 1) r).heap[k]? = _
    rw [heap_sets b r _ _ k h]
    exact Below.heap_setCell _ _ _ _ h
/-- An inode without names is laid in the place of another one. -/
theorem OwnT.setNode (h : OwnT W base g cap L vs) {i : Nat} (hi : i < L.length) (x : Ino) (hx : x.kids = []) : OwnT (W.setCells g (i * 6) (inoC x (.slice none 0 0))) base g cap (L.set i x) (vs.set i (.slice none 0 0)) := by
  have hv : i < vs.length := by rw [h.nodes.len]; exact hi
  refine ⟨h.nodes.setNode hi hv x _, h.hbase, fun j hj hvj => ?_, fun j k hj hk hjk => ?_, fun j hj => ?_⟩
  · rw [List.length_set] at hj hvj
    by_cases e : i = j
    · subst e
      rw [List.getElem_set_self, List.getElem_set_self, hx]
      exact KidsOwn.nil _ _
    · rw [List.getElem_set_ne e, List.getElem_set_ne e]
      exact (h.kids j hj hvj).same fun k hk => heap_sets _ _ _ _ _ (fun e => h.off j hvj (e ▸ hk))
  · rw [List.length_set] at hj hk
    rw [List.getElem_set, List.getElem_set]
    by_cases e1 : i = j
    · rw [if_pos e1]
      exact Or.inl rfl
    · rw [if_neg e1]
      by_cases e2 : i = k
      · rw [if_pos e2]
        cases hq : vs[j].ownBlock with
        | none => exact Or.inl rfl
        | some k => exact Or.inr fun e3 => by cases e3
      · rw [if_neg e2]
        exact h.apart j k hj hk hjk
  · rw [List.length_set] at hj
    rw [List.getElem_set]
    split
    · exact fun e => by cases e
    · exact h.off j hj
end
end Go.Proofs.YtfmaagcomplooaaGreat

namespace Go.Proofs.YtfmaagcomplooaaGreat
set_option maxRecDepth 100000
open Go Go.RowKit

theorem infoE : (Tryz.prog.info? 58).map (fun i => (i.zero, i.size, i.bytes)) = some (some (.agg #[.string ⟨#[]⟩, .int .i64 0]), 2, 24) := by kernel_rfl
theorem infoIn : (Tryz.prog.info? 49).map (fun i => (i.zero, i.size, i.bytes)) = some (some (.agg #[.int .i64 0, .int .i64 0, .int .i64 0, .string ⟨#[]⟩, .slice none 0 0, .int .i64 0]), 6, 72) := by kernel_rfl

set_option maxHeartbeats 1000000 in
theorem lclone_kids (v : Value) (K : List (List UInt8 × Int)) (hb : K.length * 24 ≤ 140737488355328) (w : World) (hK : KidsIn w v K) :
    Calls Tryz.prog 42 #[v] w fun e w' => ∃ v', e = .returned v' ∧ KidsOwn w' w.heap.size v' K ∧ Below w.heap.size w w' := by
  obtain ⟨i0, hi, hz0, hz1, hz2⟩ := info_parts infoE
  obtain ⟨a, cap, rfl, h1, h2, h3⟩ := hK
  have hm : K.length ≤ maxLen := by unfold maxLen; omega
  have q22 : ∀ (w : World) (a : Option Addr) (n c n' c' : Nat), (binOp .eql 47 (.slice a n c) (.slice none n' c')).run Tryz.prog w = .ok (.bool a.isNone) w := fun w a n c n' c' => Lib.run_eql_slice_nil w _ _ a n c n' c' Tryz.underlying47
  cases a with
  | none =>
    have hnil : K = [] := by
      cases K with
      | nil => rfl
      | cons e r => obtain ⟨b, o, e, -⟩ := h3 0 (Nat.zero_lt_succ _); cases e
    subst hnil
    go_enter Tryz.func42, Tryz.ntmps42
    go_wp2_with fail
    go_ret
    exact ⟨_, rfl, KidsOwn.nil _ _, Below.refl _ _⟩
  | some a =>
    have A : Aside (∀ j u, (kidC K)[j]? = some u → w.cell? (a.add j) = some u) := fun j u hj => by
      have hj' : j < K.length * 2 := by rw [← kidC_len]; exact (List.getElem?_eq_some_iff.1 hj).1
      obtain ⟨b, o, e, -⟩ := h3 0 (by omega)
      cases e
      have : (⟨b, o, none⟩ : Addr).add j = ⟨b, o + j, none⟩ := Addr.add_lit ..
      rw [this]
      refine kidC_cells (fun i hi => ?_) j u hj
      obtain ⟨b', o', e, c1, c2⟩ := h3 i hi
      cases e
      exact ⟨c1, c2⟩
    clear h3
    obtain ⟨ab, ao, asp⟩ := a
    go_enter Tryz.func42, Tryz.ntmps42
    go_wp2_with (at_builtin; refine wpList_append_own _ rfl _ _ 47 rfl w.heap.size 58 i0 _ 2 24 Tryz.underlying47 hi hz0 hz1 hz2 rfl (by decide) _ _ _ rfl (World.ownsRow_made w #[] 0 (Nat.le_refl _) (Nat.zero_le _) (by simp)) ⟨ab, ao, asp⟩ K.length cap (kidC K) rfl ?qc1 ?qc2 ?qc3 ?qc4 ?qc5 ?qc6 ?_)
    case qc1 => exact kidC_len K
    case qc2 =>
      intro j u hj
      exact Lib.cell?_alloc_some _ (A.out j u hj)
    case qc3 => exact kidC_one K
    case qc4 => rw [Nat.zero_add]; exact hm
    case qc5 => rw [Nat.zero_add]; exact hb
    case qc6 => simp
    intro v' w1 hown hgrow hnil
    go_wp2_with fail
    go_ret
    refine ⟨v', rfl, by simpa [KidsOwn] using hown, ?_⟩
    exact ((Below.refl _ w).alloc (Nat.le_refl _) _).grown hgrow (by simp) (by intro k hk; simp [Value.ownBlock] at hk; omega)

/-- Inodes, cell by cell. -/
def nodeC : List Ino → List Value → List Value
  | x :: L, v :: vs => inoC x v ++ nodeC L vs
  | _, _ => []
theorem nodeC_len : ∀ (L : List Ino) (vs : List Value), vs.length = L.length → (nodeC L vs).length = L.length * 6
  | [], [], _ => rfl
  | x :: L, v :: vs, h => by
    have := nodeC_len L vs (Nat.succ.inj h)
    simp only [nodeC, List.length_append, List.length_cons, this]
    show 6 + L.length * 6 = _
    omega
theorem nodeC_get : ∀ (L : List Ino) (vs : List Value) (i : Nat) (hi : i < L.length) (hv : i < vs.length) (j : Nat), j < 6 → (nodeC L vs)[i * 6 + j]? = (inoC L[i] vs[i])[j]?
  | x :: L, v :: vs, 0, _, _, j, hj => by
    rw [Nat.zero_mul, Nat.zero_add, nodeC, List.getElem?_append_left (by show j < 6; exact hj)]
    rfl
  | x :: L, v :: vs, i + 1, hi, hv, j, hj => by
    have h := nodeC_get L vs i (Nat.lt_of_succ_lt_succ hi) (Nat.lt_of_succ_lt_succ hv) j hj
    rw [nodeC, List.getElem?_append_right (by show 6 ≤ _; omega)]
    rw [show (i + 1) * 6 + j - (inoC x v).length = i * 6 + j by show (i + 1) * 6 + j - 6 = _; omega, h]
    rfl
theorem nodeC_one {L : List Ino} {vs : List Value} (hone : ∀ v ∈ vs, v.oneCell' = true) : ∀ u ∈ nodeC L vs, u.oneCell' = true := by
  induction L generalizing vs with
  | nil => intro u h; cases h
  | cons x L ih =>
    cases vs with
    | nil => intro u h; cases h
    | cons v vs =>
      intro u h
      rw [nodeC, List.mem_append] at h
      rcases h with h | h
      · simp only [inoC, List.mem_cons, List.not_mem_nil, or_false] at h
        rcases h with rfl | rfl | rfl | rfl | rfl | rfl
        · rfl
        · rfl
        · rfl
        · rfl
        · exact hone _ List.mem_cons_self
        · rfl
      · exact ih (fun v hv => hone v (List.mem_cons_of_mem _ hv)) u h
/-- What lies in memory of inodes, with their names' slices. -/
theorem nodes_open {w : World} {a : Option Addr} {cap : Nat} {L : List Ino} (hN : NodesIn w a cap L) : ∃ vs : List Value, vs.length = L.length ∧ (∀ v ∈ vs, v.oneCell' = true) ∧ (∀ i (hi : i < L.length) (hv : i < vs.length), KidsIn w vs[i] L[i].kids) ∧
    ∀ j u, (nodeC L vs)[j]? = some u → ∃ b o, a = some ⟨b, o, none⟩ ∧ w.cell? ⟨b, o + j, none⟩ = some u := by
  have hone : ∀ i, i < L.length → ∃ v, v.oneCell' = true ∧ ∀ hi : i < L.length, KidsIn w v L[i].kids ∧ ∃ b o, a = some ⟨b, o, none⟩ ∧ NodeAt w b (o + i * 6) L[i] v := fun i hi => by
    obtain ⟨b, o, e, hn⟩ := hN.2.2 i hi
    obtain ⟨v, hv, hk⟩ := hn.kids
    refine ⟨v, ?_, fun hi => ⟨hk, b, o, e, ⟨hn.kind, hn.mode, hn.links, hn.data, hv, hn.up⟩⟩⟩
    obtain ⟨ka, kc, rfl, -⟩ := hk
    rfl
  obtain ⟨vs, hl, hvs⟩ : ∃ vs : List Value, vs.length = L.length ∧ ∀ i (_ : i < L.length) (hv : i < vs.length), vs[i].oneCell' = true ∧ ∀ hi : i < L.length, KidsIn w vs[i] L[i].kids ∧ ∃ b o, a = some ⟨b, o, none⟩ ∧ NodeAt w b (o + i * 6) L[i] vs[i] := by
    have : ∀ n, n ≤ L.length → ∃ vs : List Value, vs.length = n ∧ ∀ i (_ : i < n) (hv : i < vs.length), vs[i].oneCell' = true ∧ ∀ hi : i < L.length, KidsIn w vs[i] L[i].kids ∧ ∃ b o, a = some ⟨b, o, none⟩ ∧ NodeAt w b (o + i * 6) L[i] vs[i] := by
      intro n
      induction n with
      | zero => exact fun _ => ⟨[], rfl, fun i hi => absurd hi (Nat.not_lt_zero _)⟩
      | succ n ih =>
        intro hn
        obtain ⟨vs, h1, h2⟩ := ih (by omega)
        obtain ⟨v, h3, h4⟩ := hone n (by omega)
        refine ⟨vs ++ [v], by simp [h1], fun i hi hv => ?_⟩
        by_cases e : i < vs.length
        · rw [List.getElem_append_left e]
          exact h2 i (by omega) e
        · have e2 : i = vs.length := by omega
          subst e2
          rw [List.getElem_concat_length rfl]
          refine ⟨h3, fun hi2 => ?_⟩
          subst h1
          exact h4 hi2
    exact this L.length (Nat.le_refl _)
  refine ⟨vs, hl, fun v hv => ?_, fun i hi hv => ((hvs i hi hv).2 hi).1, fun j u hu => ?_⟩
  · obtain ⟨i, hi, rfl⟩ := List.getElem_of_mem hv
    exact (hvs i (by omega) hi).1
  · have hj : j < L.length * 6 := by rw [← nodeC_len L vs hl]; exact (List.getElem?_eq_some_iff.1 hu).1
    obtain ⟨i, t, rfl, ht⟩ : ∃ i t, j = i * 6 + t ∧ t < 6 := ⟨j / 6, j % 6, by omega, by omega⟩
    have hi : i < L.length := by omega
    rw [nodeC_get L vs i hi (by omega) t ht] at hu
    obtain ⟨b, o, e, hn⟩ := ((hvs i hi (by omega)).2 hi).2
    refine ⟨b, o, e, ?_⟩
    rw [← Nat.add_assoc]
    match t, ht, hu with
    | 0, _, hu => cases hu; exact hn.kind
    | 1, _, hu => cases hu; exact hn.mode
    | 2, _, hu => cases hu; exact hn.links
    | 3, _, hu => cases hu; exact hn.data
    | 4, _, hu => cases hu; exact hn.kids
    | 5, _, hu => cases hu; exact hn.up
/-- What a row of the call's own holds of inodes. -/
theorem nodes_of_row {w : World} {base cap g : Nat} {L : List Ino} {vs : List Value} (hl : vs.length = L.length) (h : w.ownsRow base 49 6 (.slice (some ⟨g, 0, none⟩) L.length cap) L.length (nodeC L vs)) : NodesOwn w g cap L vs ∧ base ≤ g := by
  have hc : ∀ j u, (nodeC L vs)[j]? = some u → w.cell? ⟨g, j, none⟩ = some u := fun j u hu => by
    have := h.cells rfl j u hu
    rw [zero_add_addr] at this
    exact this
  have hlt := h.lt g rfl
  rcases h.2 with ⟨e, -⟩ | ⟨g', cap', cur, e, hb, hg, hn, hm, hs, ht⟩
  · cases e
  · cases e
    refine ⟨⟨hl, hn, hm, hlt.2, fun j => by simp [World.frozen?, hg], fun i hi hv => ?_⟩, hb⟩
    have hh : ∀ t, t < 6 → ∀ u, (inoC L[i] vs[i])[t]? = some u → w.cell? ⟨g, i * 6 + t, none⟩ = some u := fun t ht u hu => hc _ _ ((nodeC_get L vs i hi hv t ht).trans hu)
    exact ⟨hh 0 (by decide) _ rfl, hh 1 (by decide) _ rfl, hh 2 (by decide) _ rfl, hh 3 (by decide) _ rfl, hh 4 (by decide) _ rfl, hh 5 (by decide) _ rfl⟩

set_option maxHeartbeats 1000000 in
theorem lclone_nodes (a : Option Addr) (cap : Nat) (L : List Ino) (hL : 0 < L.length) (hb : L.length * 72 ≤ 140737488355328) (w0 w : World) (hw : Below w0.heap.size w0 w) (hN : NodesIn w0 a cap L) :
    Calls Tryz.prog 41 #[.slice a L.length cap] w fun e w' => ∃ g cap' vs, e = .returned (.slice (some ⟨g, 0, none⟩) L.length cap') ∧ NodesOwn w' g cap' L vs ∧ w.heap.size ≤ g ∧ (∀ i (hi : i < L.length) (hv : i < vs.length), KidsIn w0 vs[i] L[i].kids) ∧ Below w.heap.size w w' := by
  obtain ⟨i0, hi, hz0, hz1, hz2⟩ := info_parts infoIn
  obtain ⟨vs, hl, hone, hk, hcell⟩ := nodes_open hN
  have hm : L.length ≤ maxLen := by unfold maxLen; omega
  have q22 : ∀ (w : World) (a : Option Addr) (n c n' c' : Nat), (binOp .eql 22 (.slice a n c) (.slice none n' c')).run Tryz.prog w = .ok (.bool a.isNone) w := fun w a n c n' c' => Lib.run_eql_slice_nil w _ _ a n c n' c' Tryz.underlying22
  obtain ⟨b, o, rfl, -⟩ := hN.2.2 0 hL
  have A : Aside (∀ j u, (nodeC L vs)[j]? = some u → w.cell? ⟨b, o + j, none⟩ = some u) := fun j u hj => by
    obtain ⟨b', o', e, hc⟩ := hcell j u hj
    cases e
    exact cell_below hw hc
  have HK := Lib.hid hk
  have HL := Lib.hid hl
  clear hcell hk hN hl
  go_enter Tryz.func41, Tryz.ntmps41
  go_wp2_with (at_builtin; refine wpList_append_own _ rfl _ _ 22 rfl w.heap.size 49 i0 _ 6 72 Tryz.underlying22 hi hz0 hz1 hz2 rfl (by decide) _ _ _ rfl (World.ownsRow_made w #[] 0 (Nat.le_refl _) (Nat.zero_le _) (by simp)) ⟨b, o, none⟩ L.length cap (nodeC L vs) rfl ?qc1 ?qc2 ?qc3 ?qc4 ?qc5 ?qc6 ?_)
  case qc1 => exact nodeC_len L vs HL.out
  case qc2 =>
    intro j u hj
    rw [Addr.add_lit]
    exact Lib.cell?_alloc_some _ (A.out j u hj)
  case qc3 => exact nodeC_one hone
  case qc4 => rw [Nat.zero_add]; exact hm
  case qc5 => rw [Nat.zero_add]; exact hb
  case qc6 => simp
  intro v' w1 hown hgrow hnil
  have hbel := ((Below.refl _ w).alloc (Nat.le_refl _) (.cells #[] 49)).grown hgrow (by simp) (by intro k hk; simp [Value.ownBlock] at hk; omega)
  rcases hown.2 with ⟨rfl, h0⟩ | ⟨g, cap', cur, rfl, -⟩
  · omega
  obtain ⟨hown', hgb⟩ := nodes_of_row HL.out hown
  have HO := Lib.hid hown'
  have HB := Lib.hid hbel
  clear hown hown' hgrow hnil hbel
  go_wp2_with fail
  go_ret
  exact ⟨g, cap', vs, rfl, HO.out, hgb, HK.out, HB.out⟩
end Go.Proofs.YtfmaagcomplooaaGreat

namespace Go.Proofs.YtfmaagcomplooaaGreat
set_option maxRecDepth 100000
open Go Go.RowKit

set_option maxHeartbeats 2000000 in
theorem rown_any (a : Option Addr) (cap : Nat) (m b : Int) (L : List Ino) (hL : 0 < L.length) (hb : L.length ≤ 1000) (w : World) (hN : NodesIn w a cap L) :
    Calls Tryz.prog 35 #[.agg #[.slice a L.length cap, .int .i64 m, .int .i64 b]] w fun e w' => ∃ g cap' vs, e = .returned (.agg #[.slice (some ⟨g, 0, none⟩) L.length cap', .int .i64 m, .int .i64 b]) ∧ NodesOwn w' g cap' L vs ∧ w.heap.size ≤ g ∧ (∀ i (hi : i < L.length) (hv : i < vs.length), KidsIn w vs[i] L[i].kids) ∧ Below w.heap.size w w' := by
  obtain ⟨i0, hi, hz0, hz1, hz2⟩ := info_parts infoIn
  obtain ⟨vs, hl, hone, hk, hcell⟩ := nodes_open hN
  obtain ⟨bb, o, rfl, hx⟩ := hN.2.2 0 hL
  have hbl := cell_lt hx.kind
  obtain ⟨w2, hw2, hb2, hs2, hA, hB⟩ := two_boxes w #[.slice (some ⟨bb, o, none⟩) L.length cap, .int .i64 m, .int .i64 b] #[.slice none 0 0, .int .i64 0, .int .i64 0] 24 24
  have AS : Aside (∀ j u, (nodeC L vs)[j]? = some u → w2.cell? ⟨bb, o + j, none⟩ = some u) := fun j u hj => by
    obtain ⟨b', o', e, hc⟩ := hcell j u hj
    cases e
    exact cell_below hb2 hc
  have HK := Lib.hid hk
  have HL := Lib.hid hl
  have HB2 := Lib.hid hb2
  have HA := Lib.hid hA
  have HR := Lib.hid hB
  have a0 := blk_cell hA 0
  have hal := lt_of_block hA
  clear hcell hk hN hl hx hbl hb2 hA hB
  go_enter Tryz.func35, Tryz.ntmps35
  go_wp2_with (at_builtin; refine wpList_append_own _ rfl _ _ 22 rfl (w.heap.size + 2) 49 i0 _ 6 72 Tryz.underlying22 hi hz0 hz1 hz2 rfl (by decide) (.slice none 0 0) 0 [] rfl (World.ownsRow_nil _ _ _ _) ⟨bb, o, none⟩ L.length cap (nodeC L vs) rfl (nodeC_len L vs HL.out) (fun j u hj => by rw [Addr.add_lit, ← hw2]; exact AS.out j u hj) (nodeC_one hone) (by unfold maxLen; omega) (by omega) (by rw [← hw2]; omega) ?_)
  intro v' w3 hown hgrow hnil
  rw [← hw2] at hgrow
  have hb3 : Below w2.heap.size w2 w3 := (Below.refl _ _).grown hgrow (Nat.le_refl _) (fun k hk => by cases hk)
  rcases hown.2 with ⟨rfl, h0⟩ | ⟨g, cap', cur, rfl, hgb, -⟩
  · omega
  have hown2 : w3.ownsRow (w.heap.size + 2) 49 6 (.slice (some ⟨g, 0, none⟩) L.length cap') L.length (nodeC L vs) := by simpa using hown
  have hN3 := (nodes_of_row HL.out hown2).1
  have hA3 := (hb3.block w.heap.size (by omega)).trans HA.out
  have hR3 := (hb3.block (w.heap.size + 1) (by omega)).trans HR.out
  have q0 := blk_cell hA3 0
  have q1 := blk_cell hA3 1
  have q2 := blk_cell hA3 2
  have f0 := blk_free hA3 0
  have r0 := blk_cell hR3 0
  have r1 := blk_cell hR3 1
  have r2 := blk_cell hR3 2
  have s0 := blk_free hR3 0
  have s1 := blk_free hR3 1
  have s2 := blk_free hR3 2
  have hrl := lt_of_block hR3
  have hq := lt_of_block hA3
  obtain ⟨w4, hw4⟩ : ∃ w4, w4 = w3.setCell ⟨w.heap.size, 0, none⟩ (.slice (some ⟨g, 0, none⟩) L.length cap') := ⟨_, rfl⟩
  have hA4 : w4.heap[w.heap.size]? = some (.cells #[.slice (some ⟨g, 0, none⟩) L.length cap', .int .i64 m, .int .i64 b] 24 (0, 0)) := by rw [hw4]; exact blk_set hA3 0 _
  have hst : ∀ k, k ≠ w.heap.size → w4.heap[k]? = w3.heap[k]? := fun k hk => by rw [hw4]; exact Below.heap_setCell _ _ _ _ hk
  have hR4 := (hst (w.heap.size + 1) (by omega)).trans hR3
  have hN4 : NodesOwn w4 g cap' L vs := hN3.same (hst g (by omega))
  have hb4 : Below w.heap.size w w4 := by rw [hw4]; exact (HB2.out.trans (hb3.mono (by omega))).setCell (show w.heap.size ≤ w.heap.size from Nat.le_refl _) _
  have HW4 := Lib.hid hw4
  have HN4 := Lib.hid hN4
  have HB4 := Lib.hid hb4
  have HR4 := Lib.hid hR4
  have HA4 := Lib.hid hA4
  clear hw4 hN4 hb4 hR4 hA4 hst hN3 hown hown2 hgrow hnil hb3 hA3 hR3 a0 hal hw2
  go_wp2_with fail
  change bodyPost _ _ _ _ _ (put3 (w3.setCell ⟨w.heap.size, 0, none⟩ (.slice (some ⟨g, 0, none⟩) L.length cap')) (w.heap.size + 1) (.slice (some ⟨g, 0, none⟩) L.length cap') (.int .i64 m) (.int .i64 b))
  rw [← HW4.out]
  obtain ⟨c0, c1, c2⟩ := put3_cells HR4.out (.slice (some ⟨g, 0, none⟩) L.length cap') (.int .i64 m) (.int .i64 b)
  have HNF := Lib.hid (HN4.out.same (W' := put3 w4 (w.heap.size + 1) (.slice (some ⟨g, 0, none⟩) L.length cap') (.int .i64 m) (.int .i64 b)) (put3_other (by omega) _ _ _))
  have HBF := Lib.hid (put3_below HB4.out (show w.heap.size ≤ w.heap.size + 1 by omega) (.slice (some ⟨g, 0, none⟩) L.length cap') (.int .i64 m) (.int .i64 b))
  generalize put3 w4 (w.heap.size + 1) (.slice (some ⟨g, 0, none⟩) L.length cap') (.int .i64 m) (.int .i64 b) = wF at *
  exact bodyPost_ret (v := .agg #[.slice (some ⟨g, 0, none⟩) L.length cap', .int .i64 m, .int .i64 b]) (by simp [results, Tryz.results35, go_sem, c0, c1, c2]) rfl ⟨g, cap', vs, rfl, HNF.out, by omega, HK.out, HBF.out⟩
end Go.Proofs.YtfmaagcomplooaaGreat

namespace Go.Proofs.YtfmaagcomplooaaGreat
set_option maxRecDepth 100000
open Go Go.RowKit

/-- A name: not empty, without a slash. -/
def NameL (x : List UInt8) : Prop := x ≠ [] ∧ ∀ c ∈ x, c ≠ 47
theorem go_names : ∀ (l cur : List UInt8), (∀ c ∈ cur, c ≠ 47) → ∀ x ∈ partsGo cur l, NameL x
  | [], cur, hc, x, hx => by
    unfold partsGo at hx
    split at hx
    · cases hx
    · rename_i h
      rw [List.mem_singleton] at hx
      subst hx
      exact ⟨h, hc⟩
  | c :: r, cur, hc, x, hx => by
    unfold partsGo at hx
    split at hx
    · split at hx
      · exact go_names r [] (fun _ h => by cases h) x hx
      · rename_i h
        rw [List.mem_cons] at hx
        rcases hx with rfl | hx
        · exact ⟨h, hc⟩
        · exact go_names r [] (fun _ h => by cases h) x hx
    · rename_i h
      refine go_names r (cur ++ [c]) (fun d hd => ?_) x hx
      rw [List.mem_append, List.mem_singleton] at hd
      rcases hd with hd | rfl
      · exact hc d hd
      · exact h
theorem parts_names (l : List UInt8) : ∀ x ∈ partsL l, NameL x := go_names l [] (fun _ h => by cases h)
theorem go_slash (b : List UInt8) : ∀ (a cur : List UInt8), partsGo cur (a ++ 47 :: b) = partsGo cur a ++ partsL b
  | [], cur => by
    simp only [List.nil_append, partsGo, if_true, partsL]
    split
    · rfl
    · rfl
  | c :: r, cur => by
    simp only [List.cons_append]
    rw [partsGo, partsGo]
    split
    · split
      · exact go_slash b r []
      · rw [go_slash b r []]; rfl
    · exact go_slash b r (cur ++ [c])
theorem parts_slash (a b : List UInt8) : partsL (a ++ 47 :: b) = partsL a ++ partsL b := go_slash b a []
theorem go_name : ∀ (x cur : List UInt8), (∀ c ∈ x, c ≠ 47) → cur ++ x ≠ [] → partsGo cur x = [cur ++ x]
  | [], cur, _, h => by
    rw [partsGo, if_neg (by simpa using h)]
    simp
  | c :: r, cur, hx, h => by
    rw [partsGo, if_neg (hx c (List.mem_cons_self ..)), go_name r (cur ++ [c]) (fun d hd => hx d (List.mem_cons_of_mem _ hd)) (by simp)]
    simp
theorem parts_name (x : List UInt8) (h : NameL x) : partsL x = [x] := by
  have := go_name x [] h.2 (by simpa using h.1)
  simpa [partsL] using this
theorem parts_join : ∀ (L : List (List UInt8)), (∀ x ∈ L, NameL x) → partsL (joinL L) = L
  | [], _ => by simp [joinL, partsL, partsGo]
  | [x], h => by simp only [joinL]; exact parts_name x (h x (List.mem_singleton.2 rfl))
  | x :: y :: r, h => by
    simp only [joinL]
    rw [parts_slash, parts_name x (h x (List.mem_cons_self ..)), parts_join (y :: r) (fun z hz => h z (List.mem_cons_of_mem _ hz))]
    rfl
theorem parts_root (L : List (List UInt8)) (h : ∀ x ∈ L, NameL x) : partsL (47 :: joinL L) = L := by
  have := parts_slash [] (joinL L)
  rw [List.nil_append] at this
  rw [this, parts_join L h]
  simp [partsL, partsGo]
end Go.Proofs.YtfmaagcomplooaaGreat

namespace Go.Proofs.YtfmaagcomplooaaGreat
set_option maxRecDepth 100000
open Go Go.RowKit

/-- What stands ahead of the first slash; what stands behind it. -/
def headL : List UInt8 → List UInt8
  | [] => []
  | c :: r => if c = 47 then [] else c :: headL r
def tailL : List UInt8 → List UInt8
  | [] => []
  | c :: r => if c = 47 then r else tailL r

theorem tail_len : ∀ r : List UInt8, (tailL r).length ≤ r.length
  | [] => Nat.le_refl _
  | c :: r => by
    unfold tailL
    split
    · simp
    · have := tail_len r; simp only [List.length_cons]; omega
theorem tail_less (r : List UInt8) (h : r ≠ []) : (tailL r).length < r.length := by
  cases r with
  | nil => exact absurd rfl h
  | cons c r =>
    unfold tailL
    split
    · simp
    · have := tail_len r; simp only [List.length_cons]; omega
theorem head_len : ∀ r : List UInt8, (headL r).length ≤ r.length
  | [] => Nat.le_refl _
  | c :: r => by
    unfold headL
    split
    · simp
    · have := head_len r; simp only [List.length_cons]; omega

theorem go_step : ∀ (r cur : List UInt8), partsGo cur r = (if cur ++ headL r = [] then [] else [cur ++ headL r]) ++ partsL (tailL r)
  | [], cur => by simp [partsGo, headL, tailL, partsL]
  | c :: r, cur => by
    by_cases hc : c = 47
    · subst hc
      by_cases h : cur = []
      · simp [partsGo, headL, tailL, partsL, h]
      · simp [partsGo, headL, tailL, partsL, h]
    · have ih := go_step r (cur ++ [c])
      simp only [partsGo, headL, tailL, if_neg hc]
      rw [ih]
      simp
theorem parts_step (r : List UInt8) : partsL r = (if headL r = [] then [] else [headL r]) ++ partsL (tailL r) := go_step r []

theorem cut_none : ∀ (r : List UInt8), Lib.indexByte r 47 = -1 → headL r = r ∧ tailL r = []
  | [], _ => ⟨rfl, rfl⟩
  | c :: r, h => by
    have hn := Lib.indexByte_none h
    have hc : c ≠ 47 := fun e => hn 0 (by rw [e]; rfl)
    have hr : Lib.indexByte r 47 = -1 := by
      unfold Lib.indexByte at h
      rw [if_neg (by simpa using hc)] at h
      split at h
      · rename_i h1; simpa using h1
      · have := Lib.indexByte_ge r 47; omega
    have ih := cut_none r hr
    simp only [headL, tailL, if_neg hc]
    exact ⟨by rw [ih.1], ih.2⟩
theorem cut_at : ∀ (r : List UInt8) (i : Nat), Lib.indexByte r 47 = (i : Int) → i < r.length ∧ headL r = r.take i ∧ tailL r = r.drop (i + 1)
  | [], i, h => by
    simp only [Lib.indexByte] at h
    omega
  | c :: r, i, h => by
    unfold Lib.indexByte at h
    by_cases hc : c = 47
    · rw [if_pos (by simpa using hc)] at h
      obtain rfl : i = 0 := by omega
      simp [headL, tailL, hc]
    · rw [if_neg (by simpa using hc)] at h
      split at h
      · omega
      · rename_i hne
        have hge := Lib.indexByte_ge r 47
        have hne' : Lib.indexByte r 47 ≠ -1 := fun e => hne (by simpa using e)
        obtain ⟨j, rfl⟩ : ∃ j, i = j + 1 := ⟨i - 1, by omega⟩
        have ih := cut_at r j (by push_cast at h; omega)
        simp only [headL, tailL, if_neg hc]
        refine ⟨by simp only [List.length_cons]; omega, by rw [ih.2.1]; rfl, by rw [ih.2.2]; rfl⟩

theorem index_cases (r : List UInt8) : Lib.indexByte r 47 = -1 ∨ ∃ i : Nat, Lib.indexByte r 47 = (i : Int) := by
  have := Lib.indexByte_ge r 47
  by_cases h : Lib.indexByte r 47 = -1
  · exact Or.inl h
  · exact Or.inr ⟨(Lib.indexByte r 47).toNat, by omega⟩

set_option maxHeartbeats 1000000 in
theorem lite_any (s : ByteArray) (c : Int) (w : World) :
    Calls Tryz.prog 50 #[.string s, .int .u8 c] w fun e w' => e = .returned (.int .i64 (Lib.indexByte s.data.toList c.toNat.toUInt8)) ∧ w = w' := by
  go_enter Tryz.func50, Tryz.ntmps50
  go_wp2_with fail
  rw [run_callFunc_extern Tryz.func68 (by kernel_rfl) (by kernel_rfl) (by kernel_rfl) (e := Extern.BytealgIndexByte.indexByte) (by kernel_rfl), Lib.run_indexByteString]
  simp only [Result.andThen]
  rw [Oper.upon_value]
  go_wp2_with fail
  go_ret
  exact ⟨rfl, rfl⟩

set_option maxHeartbeats 1000000 in
theorem ibyte_any (s : ByteArray) (c : Int) (w : World) :
    Calls Tryz.prog 28 #[.string s, .int .u8 c] w fun e w' => e = .returned (.int .i64 (Lib.indexByte s.data.toList c.toNat.toUInt8)) ∧ w = w' := by
  go_enter Tryz.func28, Tryz.ntmps28
  go_wp2_with fail
  refine (lite_any _ _ _).mono ?_
  rintro e w' ⟨rfl, rfl⟩
  go_wp2_with fail
  go_ret
  exact ⟨rfl, rfl⟩

set_option maxHeartbeats 1000000 in
theorem index_slash (s : ByteArray) (w : World) :
    Calls Tryz.prog 100 #[.string s, .string ⟨#[47]⟩] w fun e w' => e = .returned (.int .i64 (Lib.indexByte s.data.toList 47)) ∧ w = w' := by
  go_enter Tryz.func100, Tryz.ntmps100
  go_wp2_with (go_at_call 50; refine (lite_any _ _ _).mono ?_; rintro e w' ⟨rfl, rfl⟩)
  · rename_i h
    go_ret
    refine ⟨?_, rfl⟩
    have e : s.data.toList = [47] := by
      have h' := beq_iff_eq.1 h
      rw [ByteArray.toList_eq] at h'
      exact h'.symm
    rw [e]
    rfl
  · go_ret
    exact ⟨rfl, rfl⟩
end Go.Proofs.YtfmaagcomplooaaGreat

namespace Go.Proofs.YtfmaagcomplooaaGreat
set_option maxRecDepth 100000
open Go Go.RowKit

/-- A world that differs from another in how often order was drawn alone. -/
def Drawn (w w' : World) : Prop := ∃ n, w' = w.drewN n

theorem cut_strs (s : ByteArray) (i : Nat) (h : Lib.indexByte s.data.toList 47 = (i : Int)) :
    Value.string (s.extract 0 i) = .string ⟨(headL s.data.toList).toArray⟩ ∧ Value.string (s.extract (i + 1) s.size) = .string ⟨(tailL s.data.toList).toArray⟩ := by
  obtain ⟨_, h1, h2⟩ := cut_at _ _ h
  rw [extract_val, extract_val, h1, h2]
  refine ⟨rfl, ?_⟩
  unfold strv
  rw [List.take_of_length_le (by rw [size_list]; exact Nat.le_refl _)]

set_option maxRecDepth 100000 in
set_option maxHeartbeats 2000000 in
theorem litecut_any (s : ByteArray) (hs : s.size ≤ 1073741824) (w : World) :
    Calls Tryz.prog 98 #[.string s, .string ⟨#[47]⟩] w fun e w' => (∃ b, e = .returned (.tuple #[.string ⟨(headL s.data.toList).toArray⟩, .string ⟨(tailL s.data.toList).toArray⟩, .bool b])) ∧ Drawn w w' := by
  rcases index_cases s.data.toList with hix | ⟨i, hix⟩
  · obtain ⟨h1, h2⟩ := cut_none _ hix
    rw [h1, h2]
    have HI := Lib.hid hix
    clear hix h1 h2
    go_enter Tryz.func98, Tryz.ntmps98
    go_wp2_with (go_at_call 100; refine (index_slash _ _).mono ?_; rintro e w' ⟨rfl, rfl⟩; rw [HI.out])
    go_ret3
    exact ⟨⟨false, rfl⟩, 0, rfl⟩
  · obtain ⟨hi, -, -⟩ := cut_at _ _ hix
    rw [size_list] at hi
    obtain ⟨h1, h2⟩ := cut_strs s i hix
    rw [← h1, ← h2]
    have c1 : (0 : Int) ≤ ↑i := by omega
    have c2 : (↑i : Int) ≤ ↑s.size := by omega
    have c3 : (0 : Int) ≤ ↑i + 1 := by omega
    have c4 : (↑i + 1 : Int) ≤ ↑s.size := by omega
    have HI := Lib.hid hix
    clear hix h1 h2
    go_enter Tryz.func98, Tryz.ntmps98
    go_wp2_with (go_at_call 100; refine (index_slash _ _).mono ?_; rintro e w' ⟨rfl, rfl⟩; rw [HI.out])
    go_region
    go_wp2_with fail
    go_ret3
    exact ⟨⟨true, rfl⟩, 1, rfl⟩

set_option maxHeartbeats 1000000 in
theorem cut_any (s : ByteArray) (hs : s.size ≤ 1073741824) (w : World) :
    Calls Tryz.prog 95 #[.string s, .string ⟨#[47]⟩] w fun e w' => (∃ b, e = .returned (.tuple #[.string ⟨(headL s.data.toList).toArray⟩, .string ⟨(tailL s.data.toList).toArray⟩, .bool b])) ∧ Drawn w w' := by
  go_enter Tryz.func95, Tryz.ntmps95
  go_wp2_with (go_at_call 98; refine (litecut_any _ hs _).mono ?_; rintro e w' ⟨⟨b, rfl⟩, hd⟩)
  go_ret3
  exact ⟨⟨b, rfl⟩, hd⟩
end Go.Proofs.YtfmaagcomplooaaGreat
