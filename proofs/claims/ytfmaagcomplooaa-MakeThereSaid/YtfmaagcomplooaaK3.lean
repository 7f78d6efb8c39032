/-
  Plain laws on trees: what the landed Fit asks and what the reference's Fit asks is one.
  Plain laws on the order of names, and on looking one up in names that rise.
  The reference's Place: a directory's path from the root.
  Plain laws on trees that can be: names, places, ranks (no landed code in it).
  A tree that can be read as data lies in memory as NodesIn says, and nothing of it is longer than any machine's.
  The reference's New.
  Plain laws on new trees: they can be, and use just their root.
-/
import Derived.Test.YtfmaagcomplooaaTRFit
import Derived.Lib.Bytealg
import Derived.Test.YtfmaagcomplooaaK1
import Derived.Deep.Slices
import Derived.Deep.Fields
import Derived.Lib.SmallJoins
import Derived.SizedLaws
import Derived.Laws.MakeOwn
namespace Go.Proofs.Ytfmaagcomplooaa
set_option maxRecDepth 100000
open Go Go.RowKit

theorem pigeon : ∀ (n : Nat) (f : Nat → Nat), (∀ i, i ≤ n → f i < n) → ∃ i j, i < j ∧ j ≤ n ∧ f i = f j
  | 0, f, h => absurd (h 0 (Nat.le_refl _)) (Nat.not_lt_zero _)
  | n + 1, f, h => by
    by_cases hx : ∃ i, i ≤ n ∧ f i = f (n + 1)
    · obtain ⟨i, hi, he⟩ := hx
      exact ⟨i, n + 1, by omega, Nat.le_refl _, he⟩
    · have hne : ∀ i, i ≤ n → f i ≠ f (n + 1) := fun i hi e => hx ⟨i, hi, e⟩
      obtain ⟨i, j, hij, hj, he⟩ := pigeon n (fun i => if f i = n then f (n + 1) else f i) (fun i hi => by
        have h1 := h i (by omega)
        have h2 := h (n + 1) (Nat.le_refl _)
        have h3 := hne i hi
        by_cases e : f i = n
        · simp only [e, if_true]; omega
        · simp only [e, if_false]; omega)
      refine ⟨i, j, hij, by omega, ?_⟩
      have h3 := hne i (by omega)
      have h4 := hne j hj
      by_cases e1 : f i = n
      · by_cases e2 : f j = n
        · omega
        · simp only [e1, e2, if_true, if_false] at he
          exact absurd he.symm h4
      · by_cases e2 : f j = n
        · simp only [e1, e2, if_true, if_false] at he
          exact absurd he h3
        · simp only [e1, e2, if_false] at he
          exact he

/-- Going up i times. -/
def upN (L : List Ino) : Nat → Int → Int
  | 0, k => k
  | i + 1, k => upN L i (nodeAt L k).up
theorem upN_add (L : List Ino) : ∀ (i j : Nat) (k : Int), upN L (i + j) k = upN L j (upN L i k)
  | 0, j, k => by rw [Nat.zero_add]; rfl
  | i + 1, j, k => by
    rw [show i + 1 + j = (i + j) + 1 by omega]
    exact upN_add L i j (nodeAt L k).up
theorem leads_iff (L : List Ino) : ∀ (n : Nat) (k : Int), leadsL L n k = true ↔ ∃ i, i < n ∧ upN L i k = 0
  | 0, k => by simp [leadsL]
  | n + 1, k => by
    rw [leads_succ]
    by_cases h : k = 0
    · rw [if_pos h]
      exact ⟨fun _ => ⟨0, by omega, h⟩, fun _ => rfl⟩
    · rw [if_neg h, leads_iff L n]
      constructor
      · rintro ⟨i, hi, he⟩
        exact ⟨i + 1, by omega, he⟩
      · rintro ⟨i, hi, he⟩
        cases i with
        | zero => exact absurd he h
        | succ i => exact ⟨i, by omega, he⟩
theorem from_up (L : List Ino) : ∀ (n : Nat) (k : Int), upFrom L n k = true → ∃ i, i < n ∧ upN L i k = 0 ∧ ∀ j, j < i → dirB L (upN L (j + 1) k) = true
  | 0, k, h => by simp [upFrom] at h
  | n + 1, k, h => by
    rw [up_succ] at h
    by_cases h0 : k = 0
    · exact ⟨0, by omega, h0, fun j hj => absurd hj (Nat.not_lt_zero _)⟩
    · rw [if_neg h0] at h
      by_cases hd : dirB L (nodeAt L k).up = true
      · rw [if_pos hd] at h
        obtain ⟨i, hi, he, hj⟩ := from_up L n _ h
        refine ⟨i + 1, by omega, he, fun j hji => ?_⟩
        cases j with
        | zero => exact hd
        | succ j => exact hj j (by omega)
      · rw [if_neg hd] at h
        cases h
theorem dir_lt {L : List Ino} {k : Int} (h : dirB L k = true) : ∃ n : Nat, k = (n : Int) ∧ n < L.length := there_nat (by unfold dirB at h; rw [Bool.and_eq_true] at h; exact h.1)
theorem up_leads {L : List Ino} {k : Int} (hk : dirB L k = true) (h : upFrom L (L.length + 1) k = true) : leadsL L L.length k = true := by
  rw [leads_iff]
  obtain ⟨i, hi, he, hd⟩ := from_up L _ _ h
  -- the least such
  have hmin : ∃ t, t ≤ i ∧ upN L t k = 0 ∧ ∀ s, s < t → upN L s k ≠ 0 := by
    clear hd hi
    induction i using Nat.strongRecOn with
    | _ i ih =>
      by_cases hx : ∃ s, s < i ∧ upN L s k = 0
      · obtain ⟨s, hs, hs0⟩ := hx
        obtain ⟨t, ht, h1, h2⟩ := ih s hs hs0
        exact ⟨t, by omega, h1, h2⟩
      · exact ⟨i, Nat.le_refl _, he, fun s hs e => hx ⟨s, hs, e⟩⟩
  obtain ⟨t, ht, ht0, htm⟩ := hmin
  refine ⟨t, ?_, ht0⟩
  have hin : ∀ j, j ≤ t → dirB L (upN L j k) = true := fun j hj => by
    cases j with
    | zero => exact hk
    | succ j => exact hd j (by omega)
  by_cases hlt : t < L.length
  · exact hlt
  · obtain ⟨p, q, hpq, hq, e⟩ := pigeon L.length (fun j => (upN L j k).toNat) (fun j hj => by
      obtain ⟨n, hn, hn2⟩ := dir_lt (hin j (by omega))
      show (upN L j k).toNat < _
      rw [hn]
      omega)
    have e' : upN L p k = upN L q k := by
      obtain ⟨n1, hn1, _⟩ := dir_lt (hin p (by omega))
      obtain ⟨n2, hn2, _⟩ := dir_lt (hin q (by omega))
      have e2 : (upN L p k).toNat = (upN L q k).toNat := e
      rw [hn1, hn2] at e2 ⊢
      omega
    exfalso
    refine htm (p + (t - q)) (by omega) ?_
    rw [upN_add, e', ← upN_add, show q + (t - q) = t by omega]
    exact ht0
theorem leads_up {L : List Ino} (hU : UpsIn L) : ∀ (n n' : Nat) (k : Int), n ≤ n' → dirB L k = true → leadsL L n k = true → upFrom L n' k = true
  | 0, _, k, _, _, h => by simp [leadsL] at h
  | n + 1, 0, k, hn, _, _ => by omega
  | n + 1, n' + 1, k, hn, hk, h => by
    rw [leads_succ] at h
    rw [up_succ]
    by_cases h0 : k = 0
    · rw [if_pos h0]
    · rw [if_neg h0] at h ⊢
      obtain ⟨i, rfl, hi⟩ := dir_lt hk
      have hd : dirB L (nodeAt L (i : Int)).up = true := by
        rw [node_nat L i hi]
        exact hU i hi ((dir_nat hi).1 hk)
      rw [if_pos hd]
      exact leads_up hU n n' _ (by omega) hd h

theorem used_ge (L : List Ino) : ∀ (k : Nat) (h : k < L.length), L[k].data.length ≤ usedB L := by
  induction L with
  | nil => intro k h; exact absurd h (Nat.not_lt_zero _)
  | cons x r ih =>
    intro k h
    cases k with
    | zero => simp only [usedB]; exact Nat.le_add_right _ _
    | succ k => simp only [usedB]; have := ih k (Nat.lt_of_succ_lt_succ h); exact Nat.le_trans this (Nat.le_add_left _ _)
theorem names_pos {M : List (List UInt8 × Int)} {e : List UInt8 × Int} (he : e ∈ M) : 1 ≤ namesOf M e.2 :=
  List.length_pos_of_mem (List.mem_filter.2 ⟨he, by simp⟩)
theorem names_zero {M : List (List UInt8 × Int)} {k : Int} (h : ∀ e ∈ M, e.2 ≠ k) : namesOf M k = 0 := by
  unfold namesOf
  rw [List.length_eq_zero_iff, List.filter_eq_nil_iff]
  intro e he
  simpa using h e he
theorem node_kind_of {L : List Ino} {k : Int} (h : dirB L k = true) : (nodeAt L k).kind = 2 := by
  unfold dirB at h
  rw [Bool.and_eq_true] at h
  simpa using h.2

theorem fit_of_ref {L : List Ino} {m b : Int} (h : RFitP L m b) : FitP L m b := by
  obtain ⟨hh, hA, hB, hbytes⟩ := h
  have hlen := hh.one
  have hroot : dirB L 0 = true := by
    unfold dirB
    rw [show (0 : Int) = ((0 : Nat) : Int) from rfl, there_of L 0 (by omega)]
    simpa using hh.root
  have hI : AllFit L := fun k hk => ⟨(hA k hk).alone, by
    by_cases h2 : L[k].kind = 2
    · obtain ⟨h3, h4, h5⟩ := (hA k hk).dir h2
      exact ⟨h4, fun i hi => ⟨(h5 i hi).name, (h5 i hi).order, (h5 i hi).there⟩⟩
    · rw [no_kids (hA k hk).alone h2]
      exact ⟨Nat.zero_le _, fun i hi => absurd hi (Nat.not_lt_zero _)⟩⟩
  have hKid : ∀ e ∈ kidsOf L, ∃ d, ∃ hd : d < L.length, ∃ i, ∃ hi : i < L[d].kids.length, e = L[d].kids[i] ∧ KidOk L d L[d].kids i hi := fun e he => by
    obtain ⟨d, hd, he'⟩ := mem_kidsOf.1 he
    obtain ⟨i, hi, rfl⟩ := List.getElem_of_mem he'
    have h2 := dir_of_kids (hA d hd).alone (List.ne_nil_of_mem he')
    exact ⟨d, hd, i, hi, rfl, ((hA d hd).dir h2).2.2 i hi⟩
  have hcnt := fun k hk => countL_get L (kids_pos (kids_there hI)) k hk
  refine ⟨⟨hlen, hh.lim, hh.cap, hbytes, hh.b1⟩, hroot, hh.up, hI, ⟨fun d hd e he hde => ?_, fun k hk => ⟨(hB k hk).1, ?_⟩⟩, fun k hk hd => ?_⟩
  · obtain ⟨i, hi, rfl⟩ := List.getElem_of_mem he
    have h2 := dir_of_kids (hA d hd).alone (List.ne_nil_of_mem he)
    have h3 := (((hA d hd).dir h2).2.2 i hi).dir
    by_cases hu : (nodeAt L L[d].kids[i].2).up = (d : Int)
    · exact hu
    · exact absurd ⟨node_kind_of hde, Or.inr hu⟩ h3
  · obtain ⟨-, h2, h3⟩ := hB k hk
    unfold MayHave
    by_cases h0 : (k : Int) = 0 ∨ L[k].kind = 0
    · rw [if_pos h0, hcnt k hk, names_zero]
      · rfl
      · intro e he hek
        obtain ⟨d, hd, i, hi, rfl, ok⟩ := hKid e he
        rcases h0 with h0 | h0
        · refine ok.dir ⟨?_, Or.inl (by rw [hek]; exact h0)⟩
          rw [hek, h0]
          exact hh.root
        · refine ok.kind ?_
          rw [hek, node_nat L k hk]
          exact h0
    · rw [if_neg h0]
      have hk0 : 0 < k := by
        by_cases e : k = 0
        · exact absurd (Or.inl (by omega)) h0
        · omega
      by_cases hk2 : L[k].kind = 2
      · rw [if_pos hk2]
        by_cases hc : (countL L)[k]'(by rw [countL_len]; exact hk) = 1
        · exact hc
        · exact absurd ⟨hk2, Or.inr ⟨hk0, hc⟩⟩ h3
      · rw [if_neg hk2]
        by_cases hc : (countL L)[k]'(by rw [countL_len]; exact hk) = 0
        · exact absurd ⟨fun e => h0 (Or.inr e), hk0, hc⟩ h2
        · rw [hcnt k hk] at hc ⊢
          omega
  · refine up_leads hd ?_
    cases hr : rootedB L (k : Int) with
    | true => exact hr
    | false => exact absurd ⟨(dir_nat hk).1 hd, Or.inl hr⟩ (hB k hk).2.2

theorem ref_of_fit {L : List Ino} {m b : Int} (h : FitP L m b) : RFitP L m b := by
  obtain ⟨hl, hroot, hup, hI, hN, hLead⟩ := h
  have hU := ups_in hroot hup hI hN
  obtain ⟨l1, l2, l3, l4, l5⟩ := hl
  have hcnt := fun k hk => countL_get L (kids_pos (kids_there hI)) k hk
  have hmay : ∀ k (hk : k < L.length), MayHave L[k].kind k (namesOf (kidsOf L) k : Int) := fun k hk => by rw [← hcnt k hk]; exact (hN.2 k hk).2
  refine ⟨⟨l1, l2, l3, by omega, l5, node_kind_of hroot, hup⟩, fun k hk => ⟨(hI k hk).1, by have := used_ge L k hk; omega, fun h2 => ?_⟩, fun k hk => ⟨(hN.2 k hk).1, ?_, ?_⟩, l4⟩
  · have h3 := hU k hk h2
    refine ⟨by unfold dirB at h3; rw [Bool.and_eq_true] at h3; exact h3.1, (hI k hk).2.1, fun i hi => ?_⟩
    have h4 := (hI k hk).2.2 i hi
    have hmem : L[k].kids[i] ∈ kidsOf L := mem_kidsOf.2 ⟨k, hk, List.getElem_mem _⟩
    obtain ⟨u, hu, hul⟩ := there_nat h4.there
    have hpos := names_pos hmem
    rw [hu] at hpos
    have hm := hmay u hul
    unfold MayHave at hm
    refine ⟨h4.name, h4.order, h4.there, ?_, ?_⟩
    · intro e
      rw [hu, node_nat L u hul] at e
      rw [if_pos (Or.inr e)] at hm
      omega
    · rintro ⟨e1, e2 | e2⟩
      · rw [hu] at e2
        rw [if_pos (Or.inl e2)] at hm
        omega
      · refine e2 (hN.1 k hk _ (List.getElem_mem _) ?_)
        unfold dirB
        rw [h4.there]
        simpa using e1
  · rintro ⟨e1, e2, e3⟩
    have hm := hmay k hk
    rw [hcnt k hk] at e3
    unfold MayHave at hm
    rw [if_neg (by omega)] at hm
    split at hm <;> omega
  · rintro ⟨e1, e2 | ⟨e2, e3⟩⟩
    · have h2 := leads_up hU L.length (L.length + 1) (k : Int) (by omega) ((dir_nat hk).2 e1) (hLead k hk ((dir_nat hk).2 e1))
      unfold rootedB at e2
      rw [h2] at e2
      cases e2
    · have hm := hmay k hk
      rw [hcnt k hk] at e3
      unfold MayHave at hm
      rw [if_neg (by omega), if_pos e1] at hm
      exact e3 hm
theorem ref_iff {L : List Ino} {m b : Int} : RFitP L m b ↔ FitP L m b := ⟨fit_of_ref, ref_of_fit⟩
end Go.Proofs.Ytfmaagcomplooaa

namespace Go.Proofs.Ytfmaagcomplooaa
set_option maxRecDepth 100000
open Go Go.RowKit

theorem less_irrefl : ∀ a : List UInt8, Op.bytesLess a a = false
  | [] => rfl
  | c :: r => by
    simp only [Op.bytesLess, less_irrefl r, Bool.and_false, Bool.or_false, decide_eq_false_iff_not]
    exact UInt8.lt_irrefl c
theorem less_trans : ∀ a b c : List UInt8, Op.bytesLess a b = true → Op.bytesLess b c = true → Op.bytesLess a c = true
  | _, [], _, h, _ => by simp [Op.bytesLess] at h
  | _, _ :: _, [], _, h => by simp [Op.bytesLess] at h
  | [], _ :: _, _ :: _, _, _ => rfl
  | x :: a, y :: b, z :: c, h1, h2 => by
    simp only [Op.bytesLess, Bool.or_eq_true, decide_eq_true_eq, Bool.and_eq_true, beq_iff_eq] at h1 h2 ⊢
    rcases h1 with h1 | ⟨rfl, h1⟩
    · rcases h2 with h2 | ⟨rfl, h2⟩
      · exact Or.inl (UInt8.lt_trans h1 h2)
      · exact Or.inl h1
    · rcases h2 with h2 | ⟨rfl, h2⟩
      · exact Or.inl h2
      · exact Or.inr ⟨rfl, less_trans a b c h1 h2⟩
theorem cmp_cases : ∀ a b : List UInt8, (Lib.compareBytes a b = -1 ∧ Op.bytesLess a b = true) ∨ (Lib.compareBytes a b = 0 ∧ a = b) ∨ (Lib.compareBytes a b = 1 ∧ Op.bytesLess b a = true)
  | [], [] => Or.inr (Or.inl ⟨rfl, rfl⟩)
  | [], _ :: _ => Or.inl ⟨rfl, rfl⟩
  | _ :: _, [] => Or.inr (Or.inr ⟨rfl, rfl⟩)
  | x :: a, y :: b => by
    simp only [Lib.compareBytes, Op.bytesLess, Bool.or_eq_true, decide_eq_true_eq, Bool.and_eq_true, beq_iff_eq]
    by_cases h1 : x < y
    · rw [if_pos h1]
      exact Or.inl ⟨rfl, Or.inl h1⟩
    · rw [if_neg h1]
      by_cases h2 : y < x
      · rw [if_pos h2]
        exact Or.inr (Or.inr ⟨rfl, Or.inl h2⟩)
      · rw [if_neg h2]
        have e : x = y := by
          apply UInt8.toNat_inj.1
          have a1 : ¬ x.toNat < y.toNat := h1
          have a2 : ¬ y.toNat < x.toNat := h2
          omega
        subst e
        rcases cmp_cases a b with ⟨h, h'⟩ | ⟨h, rfl⟩ | ⟨h, h'⟩
        · exact Or.inl ⟨h, Or.inr ⟨rfl, h'⟩⟩
        · exact Or.inr (Or.inl ⟨h, rfl⟩)
        · exact Or.inr (Or.inr ⟨h, Or.inr ⟨rfl, h'⟩⟩)
theorem cmp_less {a b : List UInt8} : Lib.compareBytes a b < 0 ↔ Op.bytesLess a b = true := by
  rcases cmp_cases a b with ⟨h, h'⟩ | ⟨h, rfl⟩ | ⟨h, h'⟩
  · simp [h, h']
  · simp [h, less_irrefl]
  · constructor
    · intro h2; omega
    · intro h2
      have := less_trans a b a h2 h'
      rw [less_irrefl] at this
      cases this
theorem cmp_zero {a b : List UInt8} : Lib.compareBytes a b = 0 ↔ a = b := by
  rcases cmp_cases a b with ⟨h, h'⟩ | ⟨h, rfl⟩ | ⟨h, h'⟩
  · constructor
    · intro h2; omega
    · rintro rfl; rw [less_irrefl] at h'; cases h'
  · simp [h]
  · constructor
    · intro h2; omega
    · rintro rfl; rw [less_irrefl] at h'; cases h'
theorem cmp_le1 (a b : List UInt8) : -1 ≤ Lib.compareBytes a b ∧ Lib.compareBytes a b ≤ 1 := by
  rcases cmp_cases a b with ⟨h, _⟩ | ⟨h, _⟩ | ⟨h, _⟩ <;> omega

/-- Names that rise. -/
def Rises (M : List (List UInt8 × Int)) : Prop := ∀ k (h : k < M.length), ∀ t (ht : k = t + 1), Op.bytesLess (M[t]'(by omega)).1 M[k].1 = true
theorem Rises.lt {M : List (List UInt8 × Int)} (h : Rises M) (i : Nat) : ∀ (j : Nat) (hj : j < M.length) (hij : i < j), Op.bytesLess (M[i]'(by omega)).1 M[j].1 = true := by
  intro j
  induction j with
  | zero => intro _ h; omega
  | succ j ih =>
    intro hj hij
    have h1 := h (j + 1) hj j rfl
    by_cases e : i = j
    · subst e
      exact h1
    · exact less_trans _ _ _ (ih (by omega) (by omega)) h1

theorem findK_none (M : List (List UInt8 × Int)) (s : List UInt8) (h : ∀ k (hk : k < M.length), M[k].1 ≠ s) : findK M s = -1 := by
  induction M with
  | nil => rfl
  | cons e r ih =>
    unfold findK
    rw [if_neg (show e.1 ≠ s from h 0 (Nat.succ_pos _))]
    exact ih (fun k hk => h (k + 1) (Nat.succ_lt_succ hk))
theorem findK_some (M : List (List UInt8 × Int)) (s : List UInt8) (i : Nat) (hi : i < M.length) (hs : M[i].1 = s) (h : ∀ k (hk : k < i), (M[k]'(by omega)).1 ≠ s) : findK M s = M[i].2 := by
  induction M generalizing i with
  | nil => exact absurd hi (Nat.not_lt_zero _)
  | cons e r ih =>
    unfold findK
    cases i with
    | zero =>
      rw [if_pos (show e.1 = s from hs)]
      rfl
    | succ i =>
      rw [if_neg (show e.1 ≠ s from h 0 (Nat.succ_pos _))]
      exact ih i (Nat.lt_of_succ_lt_succ hi) hs (fun k hk => h (k + 1) (Nat.succ_lt_succ hk))
/-- In names that rise what stands at the first place that is not ahead of a name is it, or there is none. -/
theorem findK_at {M : List (List UInt8 × Int)} (h : Rises M) (s : List UInt8) (i : Nat) (h1 : ∀ k (hk : k < M.length), k < i → Op.bytesLess M[k].1 s = true) (h2 : ∀ k (hk : k < M.length), i ≤ k → Op.bytesLess M[k].1 s = false) :
    (∀ hi : i < M.length, M[i].1 = s → findK M s = M[i].2) ∧ ((∀ hi : i < M.length, M[i].1 ≠ s) → findK M s = -1) := by
  have ha : ∀ k (hk : k < M.length), k < i → M[k].1 ≠ s := fun k hk hki e => by
    have := h1 k hk hki
    rw [e, less_irrefl] at this
    cases this
  refine ⟨fun hi e => findK_some M s i hi e (fun k hk => ha k (by omega) hk), fun hn => findK_none M s (fun k hk => ?_)⟩
  by_cases hki : k < i
  · exact ha k hk hki
  · by_cases e : k = i
    · subst e
      exact hn hk
    · intro es
      have h3 := h.lt i k hk (by omega)
      rw [es] at h3
      rw [h2 i (by omega) (Nat.le_refl _)] at h3
      cases h3
end Go.Proofs.Ytfmaagcomplooaa

namespace Go.Proofs.Ytfmaagcomplooaa
set_option maxRecDepth 100000
open Go Go.RowKit

def kidsTo (M : List (List UInt8 × Int)) (d : Int) (s : List UInt8) : List UInt8 := M.foldl (fun s e => if e.2 = d then 47 :: e.1 ++ s else s) s
def placeGo (L : List Ino) : Nat → Int → List UInt8 → List UInt8
  | 0, _, s => s
  | n + 1, d, s => if d = 0 then s else placeGo L n (nodeAt L d).up (kidsTo (nodeAt L (nodeAt L d).up).kids d s)
def placeL (L : List Ino) (d : Int) : List UInt8 := if dirB L d then (if placeGo L (L.length + 1) d [] = [] then [47] else placeGo L (L.length + 1) d []) else []

theorem place_succ (L : List Ino) (n : Nat) (d : Int) (s : List UInt8) : placeGo L (n + 1) d s = if d = 0 then s else placeGo L n (nodeAt L d).up (kidsTo (nodeAt L (nodeAt L d).up).kids d s) := rfl
theorem kidsTo_drop (M : List (List UInt8 × Int)) (k : Nat) (hk : k < M.length) (d : Int) (s : List UInt8) : kidsTo (M.drop k) d s = kidsTo (M.drop (k + 1)) d (if M[k].2 = d then 47 :: M[k].1 ++ s else s) := by
  rw [List.drop_eq_getElem_cons hk]
  rfl

/-- What going up asks of a tree: each directory's Up is one; names and directories are not too long. -/
def Climbs (L : List Ino) : Prop := ∀ k (h : k < L.length), (L[k].kind = 2 → dirB L L[k].up = true) ∧ L[k].kids.length ≤ 1024 ∧ ∀ e ∈ L[k].kids, e.1.length ≤ 64

theorem slash_cat3 (x s : List UInt8) : ((⟨#[47]⟩ : ByteArray) ++ (⟨x.toArray⟩ : ByteArray)) ++ (⟨s.toArray⟩ : ByteArray) = ⟨(47 :: x ++ s).toArray⟩ := by
  rw [show (⟨#[47]⟩ : ByteArray) = ⟨[47].toArray⟩ from rfl, ByteArray.mk_append_mk, ByteArray.mk_append_mk]
  rfl

def PlaceRel (L : List Ino) (n0 : Nat) (dv sv iv : Value) : Prop :=
  ∃ (d i : Nat) (s : List UInt8), d < L.length ∧ dirB L d = true ∧ i ≤ L.length + 1 ∧ dv = .int .i64 d ∧ iv = .int .i64 i ∧ sv = .string ⟨s.toArray⟩ ∧ s.length ≤ i * 66560 ∧ Hid (placeGo L (L.length + 1) (n0 : Int) [] = placeGo L (L.length + 1 - i) (d : Int) s)

set_option maxRecDepth 100000 in
set_option maxHeartbeats 2000000 in
theorem rplace_any (a : Option Addr) (cap : Nat) (m b d : Int) (L : List Ino) (hL : L.length ≤ 300) (hC : Climbs L) (w : World) (hN : NodesIn w a cap L) :
    Calls Try.prog 15 #[.agg #[.slice a L.length cap, .int .i64 m, .int .i64 b], .int .i64 d] w fun e w' => e = .returned (.string ⟨(placeL L d).toArray⟩) ∧ Below w.heap.size w w' := by
  have hb1 := below_box w (.cells #[.slice a L.length cap, .int .i64 m, .int .i64 b] 24)
  have hM := hN.below hb1
  have HM := Lib.hid hM
  have HC := Lib.hid hC
  clear hM hN hC
  cases ht : thereB L d with
  | false =>
    have HT := Lib.hid ht
    have hfin := Lib.hid (show placeL L d = [] by unfold placeL dirB; rw [ht]; rfl)
    clear ht
    rw [hfin.out]
    go_enter Try.func15, Try.ntmps15
    go_wp2_with (first | (go_at_call 38; refine (rthere_known _ _ _ _ _ _ _ HT.out _).mono ?_; rintro e w2 ⟨rfl, hb2⟩) | fail)
    go_ret
    exact ⟨rfl, hb1.trans (hb2.mono (by simp))⟩
  | true =>
    obtain ⟨n, rfl, hn⟩ := there_nat ht
    have HT := Lib.hid ht
    obtain ⟨bb, o, rfl, hx⟩ := HM.out.2.2 n hn
    have h1 := hx.kind
    have hd0 : (0 : Int) ≤ (n : Int) := by omega
    have hdir : dirB L (n : Int) = (L[n].kind == 2) := by unfold dirB; rw [ht, node_nat L n hn]; rfl
    clear ht
    cases hz : (L[n].kind != 2) with
    | true =>
      have hfin := Lib.hid (show placeL L (n : Int) = [] by
        unfold placeL
        rw [hdir, if_neg (by simpa [bne] using hz)])
      rw [hfin.out]
      clear hdir
      go_enter Try.func15, Try.ntmps15
      go_wp2_with (first | (go_at_call 38; refine (rthere_known _ _ _ _ _ _ _ HT.out _).mono ?_; rintro e w2 ⟨rfl, hb2⟩; obtain ⟨q0, q1, q2⟩ := box3 hb2; have h2 := cell_below hb2 h1) | fail)
      go_ret
      exact ⟨rfl, hb1.trans (hb2.mono (by simp))⟩
    | false =>
      have hdt : dirB L (n : Int) = true := by rw [hdir]; simpa [bne] using hz
      obtain ⟨Z, hZ⟩ : ∃ Z, Z = placeGo L (L.length + 1) (n : Int) [] := ⟨_, rfl⟩
      have hfin := Lib.hid (show placeL L (n : Int) = if Z = [] then [47] else Z by
        unfold placeL
        rw [hdt, if_pos rfl, hZ])
      obtain ⟨F, hF⟩ : ∃ F, F = placeL L (n : Int) := ⟨_, rfl⟩
      rw [← hF]
      have HF := Lib.hid (hF.trans hfin.out)
      clear hF
      have HZ := Lib.hid hZ
      have HDT := Lib.hid hdt
      clear hdir hZ hdt hfin
      go_enter Try.func15, Try.ntmps15
      go_wp2_with (first | (go_at_call 38; refine (rthere_known _ _ _ _ _ _ _ HT.out _).mono ?_; rintro e w2 ⟨rfl, hb2⟩; obtain ⟨q0, q1, q2⟩ := box3 hb2; have h2 := cell_below hb2 h1) | fail)
      have HB := Lib.hid (hb1.trans (hb2.mono (by simp)))
      have HN := Lib.hid (HM.out.below hb2)
      clear hb1 hb2 HM h1 h2 hx q1 q2
      go_loop [1, 5, 6, 7, 8, 9] (fun dv sv iv _ _ _ => PlaceRel L n dv sv iv) (fun _ _ iv _ _ _ => L.length + 1 - (intOf iv).toNat)
      case atStart => exact ⟨n, 0, [], hn, HDT.out, by omega, rfl, rfl, rfl, by simp, Lib.hid rfl⟩
      case round =>
        obtain ⟨d, i, s, hd, hdd, hi, rfl, rfl, rfl, hsl, hgo⟩ := hrel
        have HDD := Lib.hid hdd
        clear hdd
        by_cases hgo2 : (d : Int) = 0 ∨ L.length < i
        · have hs : Z = s := by
            rw [HZ.out, hgo.out]
            rcases hgo2 with h | h
            · cases hc : L.length + 1 - i with
              | zero => rfl
              | succ m => rw [place_succ, if_pos h]
            · rw [show L.length + 1 - i = 0 by omega]
              rfl
          have HS := Lib.hid hs
          clear hs
          have hcond : ((d : Int) != 0 && decide ((i : Int) ≤ (L.length : Int))) = false := by
            rcases hgo2 with h | h
            · simp [h]
            · rw [decide_eq_false (by omega)]
              simp
          cases hse : s.isEmpty with
          | true =>
            obtain rfl : s = [] := by simpa using hse
            have HR := Lib.hid (show F = [47] by rw [HF.out, HS.out, if_pos rfl])
            rcases hgo2 with h | h
            all_goals
              go_wp2_with fail
              all_goals
                go_ret
                exact ⟨by rw [HR.out]; rfl, HB.out⟩
          | false =>
            have hne : s ≠ [] := fun e => by rw [e] at hse; cases hse
            have HR := Lib.hid (show F = s by rw [HF.out, HS.out, if_neg hne])
            clear hne
            rcases hgo2 with h | h
            all_goals
              go_wp2_with fail
              all_goals
                go_ret
                exact ⟨by rw [HR.out]; rfl, HB.out⟩
        · have hd0' : ((d : Int) != 0) = true := by rw [bne_iff_ne]; exact fun e => hgo2 (Or.inl e)
          have hil : i ≤ L.length := by omega
          have hdn : ¬ (d : Int) = 0 := fun e => hgo2 (Or.inl e)
          obtain ⟨b1, o1, e1, hx⟩ := HN.out.2.2 d hd
          obtain ⟨rfl, rfl⟩ : b1 = bb ∧ o1 = o := by simpa [eq_comm] using e1
          have x1 := hx.up
          have hk2 : L[d].kind = 2 := by
            have h := HDD.out
            unfold dirB at h
            rw [node_nat L d hd, Bool.and_eq_true] at h
            simpa using h.2
          have hup := (HC.out d hd).1 hk2
          have hupt : thereB L L[d].up = true := by
            have h := hup
            unfold dirB at h
            rw [Bool.and_eq_true] at h
            exact h.1
          obtain ⟨u, hu1, hu2⟩ := there_nat hupt
          obtain ⟨b2, o2, e2, hy⟩ := HN.out.2.2 u hu2
          obtain ⟨rfl, rfl⟩ : b2 = b1 ∧ o2 = o1 := by simpa [eq_comm] using e2
          obtain ⟨kv, y4, hks⟩ := hy.kids
          obtain ⟨M, hMe⟩ : ∃ M, M = L[u].kids := ⟨_, rfl⟩
          have hM1 : M.length ≤ 1024 := by rw [hMe]; exact (HC.out u hu2).2.1
          have hM2 : ∀ e ∈ M, e.1.length ≤ 64 := by rw [hMe]; exact (HC.out u hu2).2.2
          rw [← hMe] at hks
          obtain ⟨ka, kcap, rfl, hkc, hkm, hkk⟩ := hks
          unfold maxLen at hkm
          rw [hu1] at x1 hup
          have hu0 : (0 : Int) ≤ (u : Int) := by omega
          have hst : placeGo L (L.length + 1) (n : Int) [] = placeGo L (L.length + 1 - (i + 1)) (u : Int) (kidsTo M (d : Int) s) := by
            rw [hgo.out, show L.length + 1 - i = (L.length + 1 - (i + 1)) + 1 by omega, place_succ, if_neg hdn, node_nat L d hd, hu1, node_nat L u hu2, hMe]
          have HST := Lib.hid hst
          have HM2 := Lib.hid hM2
          have HKK := Lib.hid hkk
          have HUP := Lib.hid hup
          clear hst hM2 hkk hMe hup hupt hgo hgo2 hk2 e1 e2 hx hy hu1 hdn
          go_wp2_with fail
          go_loop [5, 9] (fun sv kv => ∃ (t : Nat) (s' : List UInt8), t ≤ M.length ∧ kv = .int .i64 t ∧ sv = .string ⟨s'.toArray⟩ ∧ s'.length ≤ s.length + t * 65 ∧ Hid (kidsTo M (d : Int) s = kidsTo (M.drop t) (d : Int) s')) (fun _ kv => M.length - (intOf kv).toNat)
          case atStart => exact ⟨0, s, by omega, rfl, rfl, by omega, Lib.hid rfl⟩
          case round =>
            obtain ⟨t, s', htl, rfl, rfl, hsl', hkt⟩ := hrel
            by_cases htM : t < M.length
            · obtain ⟨c1, p1, rfl, z0, z1⟩ := HKK.out t htM
              have hnm := HM2.out M[t] (List.getElem_mem _)
              have hss := str_len s'
              have hsn := str_len M[t].1
              have hkd := kidsTo_drop M t htM (d : Int) s'
              have hcat := slash_cat3 M[t].1 s'
              cases hc : (M[t].2 == (d : Int)) with
              | true =>
                rw [if_pos (by simpa using hc)] at hkd
                have HKT := Lib.hid (hkt.out.trans hkd)
                clear hkd hkt
                go_wp2_with fail
                go_round
                case rel => exact ⟨t + 1, 47 :: M[t].1 ++ s', by omega, by go_num, rfl, by simp only [List.length_append, List.length_cons]; omega, HKT⟩
                case measure => simp [intOf] <;> omega
              | false =>
                rw [if_neg (by simpa using hc)] at hkd
                have HKT := Lib.hid (hkt.out.trans hkd)
                clear hkd hkt
                go_wp2_with fail
                go_round
                case rel => exact ⟨t + 1, s', by omega, by go_num, rfl, by omega, HKT⟩
                case measure => simp [intOf] <;> omega
            · have HKT := Lib.hid (show kidsTo M (d : Int) s = s' by rw [hkt.out, List.drop_eq_nil_of_le (by omega)]; rfl)
              clear hkt
              go_wp2_with fail
              go_round
              case rel => exact ⟨u, i + 1, s', hu2, HUP.out, by omega, rfl, by go_num, rfl, by omega, by rw [← HKT.out]; exact HST⟩
              case measure => simp [intOf] <;> omega
end Go.Proofs.Ytfmaagcomplooaa

namespace Go.Proofs.Ytfmaagcomplooaa
set_option maxRecDepth 100000
open Go Go.RowKit

/-- No list is longer than any machine's. -/
structure Reach (L : List Ino) : Prop where
  nodes : L.length ≤ 281474976710656
  kids : ∀ k (h : k < L.length), L[k].kids.length ≤ 281474976710656
  texts : Sized L
  data : ∀ k (h : k < L.length), L[k].data.length ≤ 140737488355328
theorem fit_small {L : List Ino} {m b : Int} (h : FitP L m b) : L.length ≤ 256 ∧ usedB L ≤ 65536 ∧ b ≤ 65536 := by
  obtain ⟨h1, h2, h3, h4, h5⟩ := h.limits
  exact ⟨by omega, by omega, h5⟩
theorem used_pos {L : List Ino} (h : dirB L 0 = true) : 1 ≤ usedN L := by
  obtain ⟨z, hz, hl⟩ := dir_lt h
  cases L with
  | nil => exact absurd hl (Nat.not_lt_zero _)
  | cons x r =>
    have h2 := node_kind_of h
    have h3 : x.kind = 2 := h2
    simp only [usedN, h3]
    rw [if_neg (by decide)]
    omega
theorem nil_nodes (w : World) : NodesIn w none 0 ([] : List Ino) := ⟨Nat.le_refl _, Nat.zero_le _, fun _i hi => absurd hi (Nat.not_lt_zero _)⟩
theorem kids_rise {L : List Ino} (h : AllFit L) : ∀ k (h : k < L.length), L[k].kids.length ≤ 1024 ∧ Rises L[k].kids := fun k hk => ⟨(h k hk).2.1, fun i hi t ht => ((h k hk).2.2 i hi).order t ht⟩
theorem findK_mem {M : List (List UInt8 × Int)} (hR : Rises M) (i : Nat) (hi : i < M.length) : findK M M[i].1 = M[i].2 := by
  refine findK_some M M[i].1 i hi rfl (fun k hk e => ?_)
  have h := hR.lt k i hi hk
  rw [e, less_irrefl] at h
  cases h
theorem findK_has : ∀ (M : List (List UInt8 × Int)) (s : List UInt8), 0 ≤ findK M s → ∃ e ∈ M, e.1 = s
  | [], _, h => absurd (show (0 : Int) ≤ -1 from h) (by decide)
  | e :: r, s, h => by
    unfold findK at h
    by_cases hs : e.1 = s
    · exact ⟨e, List.mem_cons_self, hs⟩
    · rw [if_neg hs] at h
      obtain ⟨e', he, hs'⟩ := findK_has r s h
      exact ⟨e', List.mem_cons_of_mem _ he, hs'⟩
/-- Each name of a directory is found. -/
theorem kid_of {L : List Ino} {m b : Int} (hF : FitP L m b) (d : Nat) (hd : d < L.length) (i : Nat) (hi : i < L[d].kids.length) : kidL L (d : Int) L[d].kids[i].1 = L[d].kids[i].2 := by
  have h2 := dir_of_kids (hF.ins d hd).1 (List.ne_nil_of_mem (List.getElem_mem hi))
  unfold kidL
  rw [(dir_nat hd).2 h2, if_pos rfl, node_nat L d hd]
  exact findK_mem (kids_rise hF.ins d hd).2 i hi
/-- What a name that can be is. -/
theorem name_parts {x : List UInt8} (h : nameOkL x = true) : x ≠ [] ∧ wholeL x = false ∧ x.getLast? ≠ some 47 ∧ x.length ≤ 64 ∧ ∀ c ∈ x, c ≠ 47 := by
  unfold nameOkL at h
  simp only [Bool.and_eq_true, List.all_eq_true, decide_eq_true_eq] at h
  obtain ⟨⟨⟨⟨h1, h2⟩, h3⟩, -⟩, -⟩ := h
  have hc : ∀ c ∈ x, c ≠ 47 := fun c hc => by
    have := (h1 c hc).1
    simpa using this
  refine ⟨fun e => by subst e; simp at h2, ?_, fun e => hc 47 (List.mem_of_getLast? e) rfl, h3, hc⟩
  cases x with
  | nil => rfl
  | cons c r =>
    have := hc c List.mem_cons_self
    simpa [wholeL] using this
theorem name_of {L : List Ino} (h : AllFit L) {d : Nat} (hd : d < L.length) {e : List UInt8 × Int} (he : e ∈ L[d].kids) : nameOkL e.1 = true ∧ thereB L e.2 = true := by
  obtain ⟨i, hi, rfl⟩ := List.getElem_of_mem he
  exact ⟨((h d hd).2.2 i hi).name, ((h d hd).2.2 i hi).there⟩
theorem short_of {L : List Ino} (h : AllFit L) : Short64 L := fun k hk => ⟨(h k hk).2.1, fun _ he => (name_parts (name_of h hk he).1).2.2.2.1⟩
/-- The root has no name. -/
theorem name_pos {L : List Ino} {m b : Int} (hF : FitP L m b) {d : Nat} (hd : d < L.length) {e : List UInt8 × Int} (he : e ∈ L[d].kids) : e.2 ≠ 0 := fun h0 => by
  have hl : 0 < L.length := by omega
  have h1 := (hF.names.2 0 hl).2
  rw [countL_get L (kids_pos (kids_there hF.ins)) 0 hl] at h1
  unfold MayHave at h1
  rw [if_pos (Or.inl (by rfl))] at h1
  have h2 := names_pos (mem_kidsOf.2 ⟨d, hd, he⟩)
  rw [h0] at h2
  have h3 : namesOf (kidsOf L) 0 = 0 := Int.ofNat.inj h1
  omega
/-- How many steps up lead to the root first. -/
def Rk (L : List Ino) (k : Int) (j : Nat) : Prop := upN L j k = 0 ∧ ∀ i, i < j → upN L i k ≠ 0
theorem rk_root (L : List Ino) : Rk L 0 0 := ⟨rfl, fun _ h => absurd h (Nat.not_lt_zero _)⟩
theorem rk_down {L : List Ino} {k d : Int} {j : Nat} (h : Rk L d j) (hk : k ≠ 0) (hu : (nodeAt L k).up = d) : Rk L k (j + 1) := by
  refine ⟨?_, fun i hi => ?_⟩
  · show upN L j (nodeAt L k).up = 0
    rw [hu]
    exact h.1
  · cases i with
    | zero => exact hk
    | succ i =>
      show upN L i (nodeAt L k).up ≠ 0
      rw [hu]
      exact h.2 i (by omega)
theorem rk_lt {L : List Ino} (hl : AllLead L) {k : Int} (hd : dirB L k = true) {j : Nat} (h : Rk L k j) : j < L.length := by
  obtain ⟨z, rfl, hz⟩ := dir_lt hd
  obtain ⟨i, hi, he⟩ := (leads_iff L _ _).1 (hl z hz hd)
  rcases Nat.lt_or_ge i j with h1 | h1
  · exact absurd he (h.2 i h1)
  · omega
theorem rk_of {L : List Ino} {k : Int} : ∀ (n : Nat), (∃ i, i < n ∧ upN L i k = 0) → ∃ j, Rk L k j
  | 0, ⟨_, h, _⟩ => absurd h (Nat.not_lt_zero _)
  | n + 1, ⟨i, hi, he⟩ => by
    by_cases h : ∃ i, i < n ∧ upN L i k = 0
    · exact rk_of n h
    · exact ⟨i, he, fun j hj e => h ⟨j, by omega, e⟩⟩
theorem rk_one {L : List Ino} {k : Int} {i j : Nat} (h : Rk L k i) (h' : Rk L k j) : i = j := by
  rcases Nat.lt_trichotomy i j with h1 | h1 | h1
  · exact absurd h.1 (h'.2 i h1)
  · exact h1
  · exact absurd h'.1 (h.2 j h1)
theorem ups_of {L : List Ino} {m b : Int} (hF : FitP L m b) : ∀ (i : Nat) (k : Int), dirB L k = true → dirB L (upN L i k) = true
  | 0, _, h => h
  | i + 1, k, h => by
    obtain ⟨z, rfl, hz⟩ := dir_lt h
    refine ups_of hF i _ ?_
    rw [node_nat L z hz]
    exact ups_in hF.root hF.rootUp hF.ins hF.names z hz ((dir_nat hz).1 h)
theorem up_next (L : List Ino) (i : Nat) (k : Int) : upN L (i + 1) k = (nodeAt L (upN L i k)).up := upN_add L i 1 k
theorem names_app (A B : List (List UInt8 × Int)) (c : Int) : namesOf (A ++ B) c = namesOf A c + namesOf B c := by
  unfold namesOf
  rw [List.filter_append, List.length_append]
theorem names_le {L : List Ino} {d : Nat} (hd : d < L.length) (c : Int) : namesOf L[d].kids c ≤ namesOf (kidsOf L) c := by
  have h : kidsOf L = kidsOf (L.take (d + 1)) ++ kidsOf (L.drop (d + 1)) := by
    unfold kidsOf
    rw [← List.flatMap_append, List.take_append_drop]
  rw [h, kidsOf_take L d hd, names_app, names_app]
  omega
/-- Each directory but the root has one name, in its Up. -/
theorem one_name {L : List Ino} {m b : Int} (hF : FitP L m b) {d : Nat} (hd : d < L.length) {c : Int} (hc : dirB L c = true) (hc0 : c ≠ 0) (hu : (nodeAt L c).up = (d : Int)) : namesOf L[d].kids c = 1 := by
  obtain ⟨z, rfl, hz⟩ := dir_lt hc
  have h1 := (hF.names.2 z hz).2
  rw [countL_get L (kids_pos (kids_there hF.ins)) z hz] at h1
  unfold MayHave at h1
  have hk := (dir_nat hz).1 hc
  rw [if_neg (by omega), if_pos hk] at h1
  have h2 : namesOf (kidsOf L) (z : Int) = 1 := Int.ofNat.inj h1
  have h3 := names_le hd (z : Int)
  obtain ⟨e, he⟩ := List.exists_mem_of_length_pos (show 0 < ((kidsOf L).filter fun e => e.2 == (z : Int)).length by unfold namesOf at h2; omega)
  obtain ⟨he1, he2⟩ := List.mem_filter.1 he
  obtain ⟨d', hd', hed⟩ := mem_kidsOf.1 he1
  have hek : e.2 = (z : Int) := by simpa using he2
  have hup := hF.names.1 d' hd' e hed (by rw [hek]; exact hc)
  rw [hek, hu] at hup
  have hdd : d = d' := by omega
  subst hdd
  have h4 := names_pos hed
  rw [hek] at h4
  omega
def sumL {α : Type} : List α → (α → Nat) → Nat
  | [], _ => 0
  | e :: r, g => g e + sumL r g
theorem names_sum (c : Int) : ∀ M : List (List UInt8 × Int), namesOf M c = sumL M (fun e => if e.2 = c then 1 else 0)
  | [] => rfl
  | e :: r => by
    show namesOf (e :: r) c = (if e.2 = c then 1 else 0) + sumL r (fun e => if e.2 = c then 1 else 0)
    rw [← names_sum c r]
    unfold namesOf
    by_cases h : e.2 = c
    · rw [if_pos h, List.filter_cons_of_pos (by simpa using h), List.length_cons]
      omega
    · rw [if_neg h, List.filter_cons_of_neg (by simpa using h)]
      omega
theorem names_cons (e : List UInt8 × Int) (r : List (List UInt8 × Int)) (c : Int) : namesOf (e :: r) c = (if e.2 = c then 1 else 0) + namesOf r c := by
  rw [names_sum, names_sum]
  rfl
theorem kidsTo_cons (e : List UInt8 × Int) (r : List (List UInt8 × Int)) (d : Int) (s : List UInt8) : kidsTo (e :: r) d s = kidsTo r d (if e.2 = d then 47 :: e.1 ++ s else s) := rfl
theorem kids_none : ∀ (M : List (List UInt8 × Int)) (d : Int) (s : List UInt8), namesOf M d = 0 → kidsTo M d s = s
  | [], _, _, _ => rfl
  | e :: r, d, s, h => by
    rw [names_cons] at h
    have hne : ¬ e.2 = d := fun e1 => by rw [if_pos e1] at h; omega
    rw [kidsTo_cons, if_neg hne]
    rw [if_neg hne] at h
    exact kids_none r d s (by omega)
def nameOf : List (List UInt8 × Int) → Int → Option (List UInt8)
  | [], _ => none
  | e :: r, d => if e.2 = d then some e.1 else nameOf r d
theorem kids_one : ∀ (M : List (List UInt8 × Int)) (d : Int), namesOf M d = 1 → ∃ x, nameOf M d = some x ∧ (x, d) ∈ M ∧ ∀ s, kidsTo M d s = 47 :: x ++ s
  | [], _, h => by simp [namesOf] at h
  | e :: r, d, h => by
    rw [names_cons] at h
    by_cases e1 : e.2 = d
    · rw [if_pos e1] at h
      refine ⟨e.1, by unfold nameOf; rw [if_pos e1], ?_, fun s => ?_⟩
      · rw [← e1]
        exact List.mem_cons_self
      · rw [kidsTo_cons, if_pos e1]
        exact kids_none r d _ (by omega)
    · rw [if_neg e1] at h
      obtain ⟨x, h1, h2, h3⟩ := kids_one r d (by omega)
      refine ⟨x, by unfold nameOf; rw [if_neg e1]; exact h1, List.mem_cons_of_mem _ h2, fun s => ?_⟩
      rw [kidsTo_cons, if_neg e1]
      exact h3 s
/-- Names with a slash ahead of each. -/
def sl (M : List (List UInt8)) : List UInt8 := M.flatMap fun x => 47 :: x
theorem sl_cons (x : List UInt8) (r : List (List UInt8)) : sl (x :: r) = 47 :: x ++ sl r := rfl
theorem sl_join : ∀ M : List (List UInt8), M ≠ [] → sl M = 47 :: joinL M
  | [], h => absurd rfl h
  | [x], _ => by simp [sl, joinL]
  | x :: y :: r, _ => by
    rw [sl_cons, sl_join (y :: r) (by simp)]
    simp [joinL]
/-- The directory that names lead to from the root. -/
def goDown (L : List Ino) (M : List (List UInt8)) : Int := M.foldl (fun d x => kidL L d x) 0
theorem rk_up {L : List Ino} {d : Int} {j : Nat} (h : Rk L d (j + 1)) : Rk L (nodeAt L d).up j := ⟨h.1, fun i hi => h.2 (i + 1) (by omega)⟩
theorem take_name {x : List UInt8} (h : ∀ c ∈ x, c ≠ 47) (M : List (List UInt8)) : (x ++ sl M).takeWhile (fun c => c != 47) = x := by
  rw [List.takeWhile_append_of_pos (fun c hc => by simpa using h c hc)]
  cases M with
  | nil => simp [sl]
  | cons y r => rw [sl_cons]; simp
theorem sl_inj : ∀ (M N : List (List UInt8)), (∀ x ∈ M, ∀ c ∈ x, c ≠ 47) → (∀ x ∈ N, ∀ c ∈ x, c ≠ 47) → sl M = sl N → M = N
  | [], [], _, _, _ => rfl
  | [], y :: s, _, _, h => by rw [sl_cons] at h; cases h
  | x :: r, [], _, _, h => by rw [sl_cons] at h; cases h
  | x :: r, y :: s, hM, hN, h => by
    rw [sl_cons, sl_cons, List.cons_append, List.cons_append] at h
    have h1 := (List.cons.inj h).2
    have e : x = y := by
      rw [← take_name (hM x List.mem_cons_self) r, h1, take_name (hN y List.mem_cons_self) s]
    subst e
    rw [sl_inj r s (fun z hz => hM z (List.mem_cons_of_mem _ hz)) (fun z hz => hN z (List.mem_cons_of_mem _ hz)) (List.append_cancel_left h1)]
end Go.Proofs.Ytfmaagcomplooaa

namespace Go.Proofs.Ytfmaagcomplooaa
set_option maxRecDepth 100000
open Go.ChangeShapes Go.WideShapes Go.Deep Go.Joins
open Go Go.RowKit

section
variable {H : Type} {enc : TypeId × Value → H} {w : World} {base : Nat} {spare : Nat → Bool} {held : Bool}

theorem add_none (b o n : Nat) : (⟨b, o, none⟩ : Addr).add n = ⟨b, o + n, none⟩ := by
  unfold Addr.add
  split
  · rename_i h
    rw [h]
    rfl
  · rfl

/-- One field of a struct that was read. -/
theorem part_at {e : TypeId} {fs : Array Field} {n : Nat} {cs : List Value} {x : DataW H × List MemPlace} (ht : Try.prog.underlying e = some (.struct fs)) (h : DataW.trod enc Try.prog w base spare held n e cs = some x)
    (j : Nat) (f : Field) (hf : fs[j]? = some f) (ho : f.offset = j) (hc : Try.prog.cellsOf f.type = 1) (v : Value) (hv : cs[j]? = some v) :
    ∃ (n' : Nat) (y : DataW H × List MemPlace), DataW.trod enc Try.prog w base spare held n' f.type [v] = some y ∧ ∀ z ∈ y.1.weights Try.prog f.type, z ∈ x.1.weights Try.prog e := by
  obtain ⟨xs, n', _, rfl, hl, hlen, hfs⟩ := DataW.trod_struct ht h
  have h1 := hfs j f hf
  have hj : j < fs.size := (Array.getElem?_eq_some_iff.1 hf).1
  have hjc : j < cs.length := (List.getElem?_eq_some_iff.1 hv).1
  have e1 : (cs.drop j).take 1 = [v] := by
    rw [List.drop_eq_getElem_cons hjc]
    have : cs[j] = v := (List.getElem?_eq_some_iff.1 hv).2
    simp [this]
  rw [ho, hc, e1] at h1
  have hx : xs[j]? = some (xs[j]'(by omega)) := List.getElem?_eq_getElem (by omega)
  refine ⟨n', xs[j]'(by omega), h1.trans hx, fun z hz => ?_⟩
  show z ∈ DataW.weights Try.prog e (.agg (xs.map (·.1)))
  unfold DataW.weights
  rw [ht]
  refine DataW.weights_mem_each (j := j) (t := f.type) (d := (xs[j]'(by omega)).1) ?_ ?_ z hz
  · rw [List.getElem?_map, Array.getElem?_toList, hf]
    rfl
  · rw [List.getElem?_map, hx]
    rfl

theorem weights_all {P : Program} {e : TypeId} : ∀ (l : List (DataW H)) (i : Nat) (hi : i < l.length), ∀ z ∈ l[i].weights P e, z ∈ DataW.weightsAll P e l
  | d :: r, 0, _, z, hz => by
    simp only [DataW.weightsAll, List.mem_append]
    exact Or.inl hz
  | d :: r, i + 1, hi, z, hz => by
    simp only [DataW.weightsAll, List.mem_append]
    exact Or.inr (weights_all r i (Nat.lt_of_succ_lt_succ hi) z hz)
  | [], _, hi, _, _ => absurd hi (Nat.not_lt_zero _)

/-- A slice of structs that was read, of e: each element's cells. -/
theorem slice_at {t e : TypeId} {k : Nat} {fuel : Nat} {v : Value} {x : DataW H × List MemPlace} (ht : Try.prog.underlying t = some (.slice e)) (hk : Try.prog.cellsOf e = k) (hk0 : 0 < k) (h : DataW.trod enc Try.prog w base (fun _ => true) held fuel t [v] = some x)
    (R : Nat) (hR : ∀ z ∈ x.1.weights Try.prog t, z ≤ R) :
    ∃ (a : Option Addr) (len cap : Nat), v = .slice a len cap ∧ len ≤ cap ∧ cap ≤ maxLen ∧ len * Try.prog.bytesOf e ≤ R ∧
      ∀ i, i < len → ∃ b o, a = some ⟨b, o, none⟩ ∧ ∃ (n : Nat) (cs : List Value) (y : DataW H × List MemPlace), DataW.trod enc Try.prog w base (fun _ => true) held n e cs = some y ∧ (∀ z ∈ y.1.weights Try.prog e, z ≤ R) ∧ cs.length = k ∧ ∀ j, j < k → w.cell? ⟨b, o + i * k + j, none⟩ = cs[j]? := by
  rcases open_slice ht h with ⟨hcs, rfl⟩ | ⟨a, len, cap, m, n, D, Pl, hcs, hb, hl, hm, hmm, rfl, hi⟩
  · have hv : v = .slice none 0 0 := by simpa using hcs
    exact ⟨none, 0, 0, hv, Nat.le_refl _, Nat.zero_le _, by omega, fun i hi => absurd hi (Nat.not_lt_zero _)⟩
  · have hv : v = .slice (some a) len cap := by simpa using hcs
    have hcm : m = cap := by simpa using hmm
    subst hcm
    have hw : ∀ z ∈ DataW.weights Try.prog t (.slice ((List.range len).map D) ((List.range (m - len)).map fun j => D (len + j))), z ≤ R := hR
    unfold DataW.weights at hw
    rw [ht] at hw
    have hlen : len * Try.prog.bytesOf e ≤ R := by
      have h1 := hw ((((List.range len).map D).length + ((List.range (m - len)).map fun j => D (len + j)).length) * Try.prog.bytesOf e) (by simp)
      simp only [List.length_map, List.length_range] at h1
      exact Nat.le_trans (Nat.mul_le_mul_right _ (Nat.le_add_right _ _)) h1
    refine ⟨some a, len, m, hv, hl, hm, hlen, fun i hil => ?_⟩
    obtain ⟨cs, hc, hy⟩ := hi i (by omega)
    rw [hk] at hc
    obtain ⟨_, hcl, hat⟩ := World.cells?_some hc
    have hsp : a.spot = none := by
      obtain ⟨cs0, hc0, _⟩ := hi 0 (by omega)
      rw [hk] at hc0
      obtain ⟨_, hcl0, hat0⟩ := World.cells?_some hc0
      have h1 := hat0 0 hk0
      rw [List.getElem?_eq_getElem (by omega)] at h1
      have h2 := World.cell?_spot h1
      rw [Nat.zero_mul] at h2
      simpa [Addr.add] using h2
    obtain ⟨b, o, s⟩ := a
    have hs : s = none := hsp
    subst hs
    refine ⟨b, o, rfl, n, cs, _, hy, fun z hz => ?_, hcl, fun j hj => ?_⟩
    · refine hw z ?_
      simp only [List.mem_cons, List.mem_append]
      refine Or.inr (Or.inl ?_)
      refine weights_all _ i (by simpa using hil) z ?_
      simpa using hz
    · have h1 := hat j hj
      rw [add_none, add_none] at h1
      exact h1

theorem entry_fields : ∃ f0 f1 : Field, Try.prog.underlying 62 = some (.struct #[f0, f1]) ∧ f0.offset = 0 ∧ f1.offset = 1 ∧ f0.type = 9 ∧ f1.type = 3 :=
  ⟨_, _, Try.underlying62, rfl, rfl, rfl, rfl⟩
theorem inode_fields : ∃ f0 f1 f2 f3 f4 f5 : Field, Try.prog.underlying 29 = some (.struct #[f0, f1, f2, f3, f4, f5]) ∧ f0.offset = 0 ∧ f1.offset = 1 ∧ f2.offset = 2 ∧ f3.offset = 3 ∧ f4.offset = 4 ∧ f5.offset = 5 ∧
    f0.type = 3 ∧ f1.type = 3 ∧ f2.type = 3 ∧ f3.type = 9 ∧ f4.type = 27 ∧ f5.type = 3 :=
  ⟨_, _, _, _, _, _, Try.underlying29, rfl, rfl, rfl, rfl, rfl, rfl, rfl, rfl, rfl, rfl, rfl, rfl⟩
theorem one_int : Try.prog.cellsOf 3 = 1 := by kernel_rfl
theorem one_string : Try.prog.cellsOf 9 = 1 := by kernel_rfl
theorem one_kids : Try.prog.cellsOf 27 = 1 := by kernel_rfl
theorem two_entry : Try.prog.cellsOf 62 = 2 := by kernel_rfl
theorem six_inode : Try.prog.cellsOf 29 = 6 := by kernel_rfl
theorem bytes_entry : Try.prog.bytesOf 62 = 24 := by kernel_rfl
theorem bytes_inode : Try.prog.bytesOf 29 = 72 := by kernel_rfl

theorem some_at {l : List Value} {j : Nat} (h : j < l.length) : l[j]? = some l[j] := List.getElem?_eq_getElem h

theorem open_kids {fuel : Nat} {v : Value} {x : DataW H × List MemPlace} (h : DataW.trod enc Try.prog w base (fun _ => true) held fuel 27 [v] = some x) (R : Nat) (hR : ∀ z ∈ x.1.weights Try.prog 27, z ≤ R) :
    ∃ M : List (List UInt8 × Int), KidsIn w v M ∧ M.length * 24 ≤ R ∧ ∀ e ∈ M, e.1.length ≤ R := by
  obtain ⟨a, len, cap, rfl, hl, hm, hb, hi⟩ := slice_at Try.underlying27 two_entry (by decide) h R hR
  rw [bytes_entry] at hb
  obtain ⟨f0, f1, hu, o0, o1, t0, t1⟩ := entry_fields
  have hone : ∀ i, i < len → ∃ (s : List UInt8) (z : Int), s.length ≤ R ∧ ∃ b o, a = some ⟨b, o, none⟩ ∧ w.cell? ⟨b, o + i * 2, none⟩ = some (.string ⟨s.toArray⟩) ∧ w.cell? ⟨b, o + i * 2 + 1, none⟩ = some (.int .i64 z) := fun i hil => by
    obtain ⟨b, o, ha, n, cs, y, hy, hyR, hcl, hc⟩ := hi i hil
    have c0 := hc 0 (by decide)
    have c1 := hc 1 (by decide)
    rw [some_at (show 0 < cs.length by omega)] at c0
    rw [some_at (show 1 < cs.length by omega)] at c1
    obtain ⟨n0, y0, hy0, hw0⟩ := part_at hu hy 0 f0 rfl o0 (by rw [t0]; exact one_string) _ (some_at (show 0 < cs.length by omega))
    obtain ⟨n1, y1, hy1, hw1⟩ := part_at hu hy 1 f1 rfl o1 (by rw [t1]; exact one_int) _ (some_at (show 1 < cs.length by omega))
    rw [t0] at hy0 hw0
    rw [t1] at hy1
    obtain ⟨s, e0, rfl, hs⟩ := DataW.trod_string Try.underlying9 hy0
    obtain ⟨z, e1, rfl, -⟩ := DataW.trod_int Try.underlying3 hy1
    simp only [List.cons.injEq, and_true] at e0 e1
    rw [e0] at c0
    rw [e1] at c1
    refine ⟨s.data.toList, z, hyR _ (hw0 _ (by simp [DataW.weights])), b, o, ha, c0, c1⟩
  -- the list
  have hex : ∃ M : List (List UInt8 × Int), M.length = len ∧ (∀ e ∈ M, e.1.length ≤ R) ∧ ∀ i (hi : i < M.length), ∃ b o, a = some ⟨b, o, none⟩ ∧ w.cell? ⟨b, o + i * 2, none⟩ = some (.string ⟨M[i].1.toArray⟩) ∧ w.cell? ⟨b, o + i * 2 + 1, none⟩ = some (.int .i64 M[i].2) := by
    clear hl hm hb hi h
    induction len with
    | zero => exact ⟨[], rfl, by simp, fun i hi => absurd hi (Nat.not_lt_zero _)⟩
    | succ len ih =>
      obtain ⟨M, h1, h2, h3⟩ := ih (fun i hi => hone i (by omega))
      obtain ⟨s, z, hs, hc⟩ := hone len (Nat.lt_succ_self _)
      refine ⟨M ++ [(s, z)], by simp [h1], fun e he => ?_, fun i hi => ?_⟩
      · rcases List.mem_append.1 he with he | he
        · exact h2 e he
        · simp only [List.mem_singleton] at he
          subst he
          exact hs
      · by_cases hil : i < M.length
        · rw [List.getElem_append_left hil]
          exact h3 i hil
        · have e : i = M.length := by simp at hi; omega
          subst e
          rw [List.getElem_concat_length rfl, h1]
          exact hc
  obtain ⟨M, h1, h2, h3⟩ := hex
  subst h1
  exact ⟨M, ⟨a, cap, rfl, hl, hm, h3⟩, hb, h2⟩

theorem open_nodes {fuel : Nat} {v : Value} {x : DataW H × List MemPlace} (h : DataW.trod enc Try.prog w base (fun _ => true) held fuel 22 [v] = some x) (R : Nat) (hR : ∀ z ∈ x.1.weights Try.prog 22, z ≤ R) :
    ∃ (L : List Ino) (a : Option Addr) (cap : Nat), v = .slice a L.length cap ∧ NodesIn w a cap L ∧ L.length * 72 ≤ R ∧ ∀ y ∈ L, y.data.length ≤ R ∧ y.kids.length * 24 ≤ R ∧ ∀ e ∈ y.kids, e.1.length ≤ R := by
  obtain ⟨a, len, cap, rfl, hl, hm, hb, hi⟩ := slice_at Try.underlying22 six_inode (by decide) h R hR
  rw [bytes_inode] at hb
  obtain ⟨f0, f1, f2, f3, f4, f5, hu, o0, o1, o2, o3, o4, o5, t0, t1, t2, t3, t4, t5⟩ := inode_fields
  have hone : ∀ i, i < len → ∃ y : Ino, (y.data.length ≤ R ∧ y.kids.length * 24 ≤ R ∧ ∀ e ∈ y.kids, e.1.length ≤ R) ∧ ∃ b o, a = some ⟨b, o, none⟩ ∧ NodeIn w b (o + i * 6) y := fun i hil => by
    obtain ⟨b, o, ha, n, cs, y, hy, hyR, hcl, hc⟩ := hi i hil
    have c0 := hc 0 (by decide)
    have c1 := hc 1 (by decide)
    have c2 := hc 2 (by decide)
    have c3 := hc 3 (by decide)
    have c4 := hc 4 (by decide)
    have c5 := hc 5 (by decide)
    rw [some_at (show 0 < cs.length by omega)] at c0
    rw [some_at (show 1 < cs.length by omega)] at c1
    rw [some_at (show 2 < cs.length by omega)] at c2
    rw [some_at (show 3 < cs.length by omega)] at c3
    rw [some_at (show 4 < cs.length by omega)] at c4
    rw [some_at (show 5 < cs.length by omega)] at c5
    obtain ⟨n0, y0, hy0, hw0⟩ := part_at hu hy 0 f0 rfl o0 (by rw [t0]; exact one_int) _ (some_at (show 0 < cs.length by omega))
    obtain ⟨n1, y1, hy1, hw1⟩ := part_at hu hy 1 f1 rfl o1 (by rw [t1]; exact one_int) _ (some_at (show 1 < cs.length by omega))
    obtain ⟨n2, y2, hy2, hw2⟩ := part_at hu hy 2 f2 rfl o2 (by rw [t2]; exact one_int) _ (some_at (show 2 < cs.length by omega))
    obtain ⟨n3, y3, hy3, hw3⟩ := part_at hu hy 3 f3 rfl o3 (by rw [t3]; exact one_string) _ (some_at (show 3 < cs.length by omega))
    obtain ⟨n4, y4, hy4, hw4⟩ := part_at hu hy 4 f4 rfl o4 (by rw [t4]; exact one_kids) _ (some_at (show 4 < cs.length by omega))
    obtain ⟨n5, y5, hy5, hw5⟩ := part_at hu hy 5 f5 rfl o5 (by rw [t5]; exact one_int) _ (some_at (show 5 < cs.length by omega))
    rw [t0] at hy0
    rw [t1] at hy1
    rw [t2] at hy2
    rw [t3] at hy3 hw3
    rw [t4] at hy4 hw4
    rw [t5] at hy5
    obtain ⟨z0, e0, rfl, -⟩ := DataW.trod_int Try.underlying3 hy0
    obtain ⟨z1, e1, rfl, -⟩ := DataW.trod_int Try.underlying3 hy1
    obtain ⟨z2, e2, rfl, -⟩ := DataW.trod_int Try.underlying3 hy2
    obtain ⟨s, e3, rfl, hs⟩ := DataW.trod_string Try.underlying9 hy3
    obtain ⟨z5, e5, rfl, -⟩ := DataW.trod_int Try.underlying3 hy5
    obtain ⟨M, hM, hM1, hM2⟩ := open_kids hy4 R (fun z hz => hyR z (hw4 z hz))
    simp only [List.cons.injEq, and_true] at e0 e1 e2 e3 e5
    rw [e0] at c0
    rw [e1] at c1
    rw [e2] at c2
    rw [e3] at c3
    rw [e5] at c5
    exact ⟨⟨z0, z1, z2, s.data.toList, M, z5⟩, ⟨hyR _ (hw3 _ (by simp [DataW.weights])), hM1, hM2⟩, b, o, ha, ⟨c0, c1, c2, c3, ⟨_, c4, hM⟩, c5⟩⟩
  have hex : ∃ L : List Ino, L.length = len ∧ (∀ y ∈ L, y.data.length ≤ R ∧ y.kids.length * 24 ≤ R ∧ ∀ e ∈ y.kids, e.1.length ≤ R) ∧ ∀ i (hi : i < L.length), ∃ b o, a = some ⟨b, o, none⟩ ∧ NodeIn w b (o + i * 6) L[i] := by
    clear hl hm hb hi h
    induction len with
    | zero => exact ⟨[], rfl, by simp, fun i hi => absurd hi (Nat.not_lt_zero _)⟩
    | succ len ih =>
      obtain ⟨L, h1, h2, h3⟩ := ih (fun i hi => hone i (by omega))
      obtain ⟨y, hy, hc⟩ := hone len (Nat.lt_succ_self _)
      refine ⟨L ++ [y], by simp [h1], fun e he => ?_, fun i hi => ?_⟩
      · rcases List.mem_append.1 he with he | he
        · exact h2 e he
        · simp only [List.mem_singleton] at he
          subst he
          exact hy
      · by_cases hil : i < L.length
        · rw [List.getElem_append_left hil]
          exact h3 i hil
        · have e : i = L.length := by simp at hi; omega
          subst e
          rw [List.getElem_concat_length rfl, h1]
          exact hc
  obtain ⟨L, h1, h2, h3⟩ := hex
  subst h1
  exact ⟨L, a, cap, rfl, ⟨hl, hm, h3⟩, hb, h2⟩

theorem tree_fields : ∃ f0 f1 f2 : Field, Try.prog.underlying 24 = some (.struct #[f0, f1, f2]) ∧ oneCellFields Try.prog #[f0, f1, f2] = true ∧ f0.type = 22 ∧ f1.type = 3 ∧ f2.type = 3 ∧ f0.offset = 0 :=
  ⟨_, _, _, Try.underlying24, by kernel_rfl, rfl, rfl, rfl, rfl⟩
theorem three_tree : Try.prog.cellsOf 24 = 3 := by kernel_rfl

/-- An argument that is a tree. -/
theorem open_tree {r : Go.Reach} {b0 : Nat} {v : Value} {d : DataW H} {p : List MemPlace} (hv : Value.okWide Try.prog w r b0 24 v) (h : DataW.Trod enc Try.prog w base (fun _ => true) held 24 v d p)
    (R : Nat) (hR0 : R ≤ 140737488355328) (hR : ∀ z ∈ d.weights Try.prog 24, z ≤ R) :
    ∃ (L : List Ino) (a : Option Addr) (cap : Nat) (m b : Int), v = .agg #[.slice a L.length cap, .int .i64 m, .int .i64 b] ∧ NodesIn w a cap L ∧ Proofs.Ytfmaagcomplooaa.Reach L := by
  obtain ⟨f0, f1, f2, hu, hone, t0, t1, t2, -⟩ := tree_fields
  obtain ⟨v0, v1, v2, y0, y1, y2, n, rfl, rfl, rfl, g0, g1, g2⟩ := open_agg3 hu hone three_tree hv h
  rw [t0] at g0
  rw [t1] at g1
  rw [t2] at g2
  obtain ⟨m, e1, rfl, -⟩ := DataW.trod_int Try.underlying3 g1
  obtain ⟨b, e2, rfl, -⟩ := DataW.trod_int Try.underlying3 g2
  simp only [List.cons.injEq, and_true] at e1 e2
  obtain ⟨L, a, cap, rfl, hN, hl, hy⟩ := open_nodes g0 R (fun z hz => hR z (by
    unfold DataW.weights
    rw [hu]
    show z ∈ DataW.weightsEach Try.prog [f0.type, f1.type, f2.type] [y0.1, _, _]
    rw [t0]
    simp only [DataW.weightsEach, List.mem_append]
    exact Or.inl hz))
  refine ⟨L, a, cap, m, b, by rw [e1, e2], hN, ⟨by omega, fun k hk => ?_, fun k hk => ?_, fun k hk => by have := (hy _ (List.getElem_mem hk)).1; omega⟩⟩
  · have := (hy _ (List.getElem_mem hk)).2.1
    omega
  · have h1 := (hy _ (List.getElem_mem hk)).1
    exact ⟨by omega, fun e he => by have := (hy _ (List.getElem_mem hk)).2.2 e he; omega⟩
end
end Go.Proofs.Ytfmaagcomplooaa

namespace Go.Proofs.Ytfmaagcomplooaa
set_option maxRecDepth 100000
open Go Go.RowKit

def rootIno : Ino := ⟨2, 7, 0, [], [], 0⟩
def newT (n : Nat) (b : Int) : Tre := ⟨rootIno :: List.replicate (n - 1) noIno, n, b⟩
def NewFits (n b : Int) : Prop := 1 ≤ n ∧ n ≤ 256 ∧ 0 ≤ b ∧ b ≤ 65536

set_option maxHeartbeats 1000000 in
theorem rnew_no (n b : Int) (h : ¬ NewFits n b) (w : World) :
    Calls Try.prog 23 #[.int .i64 n, .int .i64 b] w fun e w' => e = .returned (.tuple #[.agg #[.slice none 0 0, .int .i64 0, .int .i64 0], .int .i64 22]) ∧ Below w.heap.size w w' := by
  have h4 : n < 1 ∨ (1 ≤ n ∧ 256 < n) ∨ (1 ≤ n ∧ n ≤ 256 ∧ b < 0) ∨ (1 ≤ n ∧ n ≤ 256 ∧ 0 ≤ b ∧ 65536 < b) := by unfold NewFits at h; omega
  have hb := below_box w (.cells #[.slice none 0 0, .int .i64 0, .int .i64 0] 24)
  rcases h4 with h | ⟨h, h1⟩ | ⟨h, h1, h2⟩ | ⟨h, h1, h2, h3⟩
  all_goals
    go_enter Try.func23, Try.ntmps23
    go_wp2_with fail
    exact bodyPost_ret (v := .tuple #[.agg #[.slice none 0 0, .int .i64 0, .int .i64 0], .int .i64 22]) (by simp [results, Try.results23, go_sem]) rfl ⟨rfl, hb⟩

def zeroC : Array Value := #[.int .i64 0, .int .i64 0, .int .i64 0, .string ⟨#[]⟩, .slice none 0 0, .int .i64 0]
theorem infoI : (Try.prog.info? 29).map (fun i => (i.zero, i.size, i.bytes)) = some (some (.agg zeroC), 6, 72) := by kernel_rfl
theorem made_at (n i j : Nat) (hi : i < n) (hj : j < 6) : (madeCells zeroC (n * 6))[i * 6 + j]? = zeroC[j]? := by
  have hlt : i * 6 + j < n * 6 := by omega
  unfold madeCells
  rw [Array.getElem?_map, Array.getElem?_range, if_pos hlt]
  have e : (i * 6 + j) % zeroC.size = j := by show (i * 6 + j) % 6 = j; omega
  simp only [Option.map_some, e]
  match j, hj with
  | 0, _ => rfl
  | 1, _ => rfl
  | 2, _ => rfl
  | 3, _ => rfl
  | 4, _ => rfl
  | 5, _ => rfl

def rootC : Array Value := #[.int .i64 2, .int .i64 7, .int .i64 0, .string ⟨#[]⟩, .slice none 0 0, .int .i64 0]
theorem new_nodes (W : World) (N n : Nat) (h0 : 1 ≤ n) (hm : n ≤ 256) (h : ∀ i j, i < n → j < 6 → W.cell? ⟨N, i * 6 + j, none⟩ = (if i = 0 then rootC else zeroC)[j]?) : NodesIn W (some ⟨N, 0, none⟩) n (rootIno :: List.replicate (n - 1) noIno) := by
  have hl : (rootIno :: List.replicate (n - 1) noIno).length = n := by simp; omega
  refine ⟨by omega, by unfold maxLen; omega, fun i hi => ⟨N, 0, rfl, ?_⟩⟩
  rw [hl] at hi
  rw [Nat.zero_add]
  have hnil : ∀ (W : World), KidsIn W (.slice none 0 0) [] := fun W => ⟨none, 0, rfl, Nat.le_refl _, Nat.zero_le _, fun i hi => absurd hi (Nat.not_lt_zero _)⟩
  by_cases hi0 : i = 0
  · subst hi0
    have g : ∀ j, j < 6 → W.cell? ⟨N, 0 * 6 + j, none⟩ = rootC[j]? := fun j hj => h 0 j hi hj
    exact ⟨g 0 (by decide), g 1 (by decide), g 2 (by decide), g 3 (by decide), ⟨_, g 4 (by decide), hnil W⟩, g 5 (by decide)⟩
  · have g : ∀ j, j < 6 → W.cell? ⟨N, i * 6 + j, none⟩ = zeroC[j]? := fun j hj => by
      have := h i j hi hj
      rw [if_neg hi0] at this
      exact this
    obtain ⟨m, rfl⟩ : ∃ m, i = m + 1 := ⟨i - 1, by omega⟩
    have e : (rootIno :: List.replicate (n - 1) noIno)[m + 1]'(by rw [hl]; exact hi) = noIno := by simp
    rw [e]
    exact ⟨g 0 (by decide), g 1 (by decide), g 2 (by decide), g 3 (by decide), ⟨_, g 4 (by decide), hnil W⟩, g 5 (by decide)⟩

theorem six_set (A : Array Value) (n : Nat) (h1 : 1 ≤ n) (hs : A.size = n * 6) (hA : ∀ i j, i < n → j < 6 → A[i * 6 + j]? = zeroC[j]?) (i j : Nat) (hi : i < n) (hj : j < 6) :
    ((((((A.setIfInBounds 0 (Value.int .i64 2)).setIfInBounds 1 (Value.int .i64 7)).setIfInBounds 2 (Value.int .i64 0)).setIfInBounds 3 (Value.string ⟨#[]⟩)).setIfInBounds 4 (Value.slice none 0 0)).setIfInBounds 5 (Value.int .i64 0))[i * 6 + j]? = (if i = 0 then rootC else zeroC)[j]? := by
  by_cases hi0 : i = 0
  · subst hi0
    rw [if_pos rfl, Nat.zero_mul, Nat.zero_add]
    have hs6 : 6 ≤ A.size := by omega
    match j, hj with
    | 0, _ => rw [Array.getElem?_setIfInBounds_ne (show (5 : Nat) ≠ 0 by decide), Array.getElem?_setIfInBounds_ne (show (4 : Nat) ≠ 0 by decide), Array.getElem?_setIfInBounds_ne (show (3 : Nat) ≠ 0 by decide), Array.getElem?_setIfInBounds_ne (show (2 : Nat) ≠ 0 by decide), Array.getElem?_setIfInBounds_ne (show (1 : Nat) ≠ 0 by decide), Array.getElem?_setIfInBounds, if_pos rfl, if_pos (by (try simp only [Array.size_setIfInBounds]); omega)]; rfl
    | 1, _ => rw [Array.getElem?_setIfInBounds_ne (show (5 : Nat) ≠ 1 by decide), Array.getElem?_setIfInBounds_ne (show (4 : Nat) ≠ 1 by decide), Array.getElem?_setIfInBounds_ne (show (3 : Nat) ≠ 1 by decide), Array.getElem?_setIfInBounds_ne (show (2 : Nat) ≠ 1 by decide), Array.getElem?_setIfInBounds, if_pos rfl, if_pos (by (try simp only [Array.size_setIfInBounds]); omega)]; rfl
    | 2, _ => rw [Array.getElem?_setIfInBounds_ne (show (5 : Nat) ≠ 2 by decide), Array.getElem?_setIfInBounds_ne (show (4 : Nat) ≠ 2 by decide), Array.getElem?_setIfInBounds_ne (show (3 : Nat) ≠ 2 by decide), Array.getElem?_setIfInBounds, if_pos rfl, if_pos (by (try simp only [Array.size_setIfInBounds]); omega)]; rfl
    | 3, _ => rw [Array.getElem?_setIfInBounds_ne (show (5 : Nat) ≠ 3 by decide), Array.getElem?_setIfInBounds_ne (show (4 : Nat) ≠ 3 by decide), Array.getElem?_setIfInBounds, if_pos rfl, if_pos (by (try simp only [Array.size_setIfInBounds]); omega)]; rfl
    | 4, _ => rw [Array.getElem?_setIfInBounds_ne (show (5 : Nat) ≠ 4 by decide), Array.getElem?_setIfInBounds, if_pos rfl, if_pos (by (try simp only [Array.size_setIfInBounds]); omega)]; rfl
    | 5, _ => rw [Array.getElem?_setIfInBounds, if_pos rfl, if_pos (by (try simp only [Array.size_setIfInBounds]); omega)]; rfl
  · rw [if_neg hi0, ← hA i j hi hj]
    rw [Array.getElem?_setIfInBounds_ne (show (5 : Nat) ≠ i * 6 + j by omega), Array.getElem?_setIfInBounds_ne (show (4 : Nat) ≠ i * 6 + j by omega), Array.getElem?_setIfInBounds_ne (show (3 : Nat) ≠ i * 6 + j by omega), Array.getElem?_setIfInBounds_ne (show (2 : Nat) ≠ i * 6 + j by omega), Array.getElem?_setIfInBounds_ne (show (1 : Nat) ≠ i * 6 + j by omega), Array.getElem?_setIfInBounds_ne (show (0 : Nat) ≠ i * 6 + j by omega)]

set_option maxHeartbeats 1000000 in
theorem rnew_yes (n : Nat) (b : Int) (h1 : 1 ≤ n) (h2 : n ≤ 256) (h3 : 0 ≤ b) (h4 : b ≤ 65536) (w : World) :
    Calls Try.prog 23 #[.int .i64 n, .int .i64 b] w fun e w' => (∃ v, e = .returned (.tuple #[v, .int .i64 0]) ∧ TreeIn w' v (newT n b)) ∧ Below w.heap.size w w' := by
  obtain ⟨i0, hi, hz0, hz1, hz2⟩ := info_parts infoI
  have hmk : (Instr.makeSlice 22 (.int .i64 (n : Int)) (.int .i64 (n : Int))).run Try.prog (w.alloc (.cells #[.slice none 0 0, .int .i64 0, .int .i64 0] 24)) =
      .ok (.slice (some ⟨w.heap.size + 1, 0, none⟩) n n) ((w.alloc (.cells #[.slice none 0 0, .int .i64 0, .int .i64 0] 24)).alloc (.cells (madeCells zeroC (n * 6)) 29)) := by
    have h := run_makeSlice (P := Try.prog) (w.alloc (.cells #[.slice none 0 0, .int .i64 0, .int .i64 0] 24)) 22 29 i0 (.agg zeroC) Try.underlying22 hi hz0 .i64 .i64 (n : Int) (n : Int) (by omega) (Int.le_refl _) (by rw [hz1]; simp; omega) (by rw [hz2]; omega) (by omega)
    rw [hz1, World.size_alloc, Int.toNat_natCast] at h
    exact h
  have hA := fun i j hi hj => made_at n i j hi hj
  have hsz : (madeCells zeroC (n * 6)).size = n * 6 := size_madeCells _ _
  generalize madeCells zeroC (n * 6) = A at hmk hA hsz
  have a0 : A[0]? = some (.int .i64 0) := hA 0 0 (by omega) (by omega)
  have a1 : A[1]? = some (.int .i64 0) := hA 0 1 (by omega) (by omega)
  have a2 : A[2]? = some (.int .i64 0) := hA 0 2 (by omega) (by omega)
  have a3 : A[3]? = some (.string ⟨#[]⟩) := hA 0 3 (by omega) (by omega)
  have a4 : A[4]? = some (.slice none 0 0) := hA 0 4 (by omega) (by omega)
  have a5 : A[5]? = some (.int .i64 0) := hA 0 5 (by omega) (by omega)
  have HA := Lib.hid hA
  have HS := Lib.hid hsz
  clear hA hsz hi hz0 hz1 hz2
  go_enter Try.func23, Try.ntmps23
  go_wp2_with fail
  refine bodyPost_ret (v := .tuple #[.agg #[.slice (some ⟨w.heap.size + 1, 0, none⟩) n n, .int .i64 n, .int .i64 b], .int .i64 0]) (by simp [results, Try.results23, go_sem]) rfl ⟨⟨_, rfl, some ⟨w.heap.size + 1, 0, none⟩, n, ?_, ?_⟩, ?_⟩
  · have hl : (newT n b).nodes.length = n := by show (rootIno :: List.replicate (n - 1) noIno).length = n; simp; omega
    rw [hl]
    rfl
  · refine new_nodes _ _ n h1 h2 (fun i j hi hj => ?_)
    rw [← six_set A n h1 HS.out HA.out i j hi hj]
    have e : (w.alloc (.cells #[.slice (some ⟨w.heap.size + 1, 0, none⟩) n n, .int .i64 n, .int .i64 b] 24)).heap.size = w.heap.size + 1 := by simp
    simp only [World.cell?]
    rw [Below.heap_alloc _ _ _ (by simp)]
    have hb := new_block (w.alloc (.cells #[.slice (some ⟨w.heap.size + 1, 0, none⟩) n n, .int .i64 n, .int .i64 b] 24)) (.cells ((((((A.setIfInBounds 0 (Value.int .i64 2)).setIfInBounds 1 (Value.int .i64 7)).setIfInBounds 2 (Value.int .i64 0)).setIfInBounds 3 (Value.string ⟨#[]⟩)).setIfInBounds 4 (Value.slice none 0 0)).setIfInBounds 5 (Value.int .i64 0)) 29)
    rw [e] at hb
    rw [hb]
    rfl
  · exact ((below_box w _).alloc (by simp) _).alloc (by simp; omega) _
end Go.Proofs.Ytfmaagcomplooaa

namespace Go.Proofs.Ytfmaagcomplooaa
set_option maxRecDepth 100000
open Go Go.RowKit

theorem new_len {n : Nat} (b : Int) (h : 1 ≤ n) : (newT n b).nodes.length = n := by show (rootIno :: List.replicate (n - 1) noIno).length = n; simp; omega
theorem new_at {n : Nat} (b : Int) (k : Nat) (hk : k < (newT n b).nodes.length) : (newT n b).nodes[k] = if k = 0 then rootIno else noIno := by
  cases k with
  | zero => rfl
  | succ k =>
    rw [if_neg (by omega)]
    have e : ∀ (M : List Ino) (h : k + 1 < M.length), M = rootIno :: List.replicate (n - 1) noIno → M[k + 1] = noIno := by
      intro M h hM
      subst hM
      simp
    exact e _ hk rfl
theorem new_kids {n : Nat} (b : Int) (k : Nat) (hk : k < (newT n b).nodes.length) : (newT n b).nodes[k].kids = [] := by
  rw [new_at]
  split <;> rfl
theorem new_kidsOf (n : Nat) (b : Int) : kidsOf (newT n b).nodes = [] := by
  unfold kidsOf
  rw [List.flatMap_eq_nil_iff]
  intro x hx
  obtain ⟨k, hk, rfl⟩ := List.getElem_of_mem hx
  exact new_kids b k hk
theorem used_rep : ∀ n : Nat, usedN (List.replicate n noIno) = 0 ∧ usedB (List.replicate n noIno) = 0
  | 0 => ⟨rfl, rfl⟩
  | n + 1 => by
    have h := used_rep n
    rw [List.replicate_succ]
    exact ⟨by simp only [usedN, h.1]; rfl, by simp only [usedB, h.2]; rfl⟩
theorem new_usedN (n : Nat) (b : Int) : usedN (newT n b).nodes = 1 := by
  show usedN (rootIno :: List.replicate (n - 1) noIno) = 1
  simp only [usedN, (used_rep (n - 1)).1]
  rfl
theorem new_usedB (n : Nat) (b : Int) : usedB (newT n b).nodes = 0 := by
  show usedB (rootIno :: List.replicate (n - 1) noIno) = 0
  simp only [usedB, (used_rep (n - 1)).2]
  rfl
theorem new_fit {n : Nat} {b : Int} (h1 : 1 ≤ n) (h2 : n ≤ 256) (h3 : 0 ≤ b) (h4 : b ≤ 65536) : FitP (newT n b).nodes (n : Int) b := by
  have hl := new_len b h1
  have hI : AllFit (newT n b).nodes := fun k hk => by
    rw [new_kids]
    refine ⟨?_, Nat.zero_le _, fun i hi => absurd hi (Nat.not_lt_zero _)⟩
    rw [new_at]
    split <;> rfl
  have hdir : ∀ k (hk : k < (newT n b).nodes.length), dirB (newT n b).nodes (k : Int) = true → k = 0 := fun k hk hd => by
    have h5 := (dir_nat hk).1 hd
    rw [new_at] at h5
    by_cases e : k = 0
    · exact e
    · rw [if_neg e] at h5
      cases h5
  refine ⟨⟨by omega, by omega, by omega, by rw [new_usedB]; omega, h4⟩, ?_, rfl, hI, ⟨fun d hd e he => ?_, fun k hk => ?_⟩, fun k hk hd => ?_⟩
  · exact (dir_nat (L := (newT n b).nodes) (n := 0) (by omega)).2 rfl
  · rw [new_kids] at he
    cases he
  · have hc : (countL (newT n b).nodes)[k]'(by rw [countL_len]; exact hk) = 0 := by
      rw [countL_get _ (kids_pos (kids_there hI)) k hk, new_kidsOf]
      rfl
    rw [hc]
    refine ⟨by rw [new_at]; split <;> rfl, ?_⟩
    unfold MayHave
    rw [if_pos]
    rw [new_at]
    by_cases e : k = 0
    · exact Or.inl (by omega)
    · rw [if_neg e]
      exact Or.inr rfl
  · have e := hdir k hk hd
    subst e
    rw [hl]
    obtain ⟨t, rfl⟩ : ∃ t, n = t + 1 := ⟨n - 1, by omega⟩
    rfl
theorem new_sized (n : Nat) (b : Int) : Sized (newT n b).nodes := fun k hk => by
  rw [new_kids]
  refine ⟨?_, fun e he => by cases he⟩
  rw [new_at]
  split <;> exact Nat.zero_le _
theorem new_short (n : Nat) (b : Int) : Short64 (newT n b).nodes := fun k hk => by
  rw [new_kids]
  exact ⟨Nat.zero_le _, fun e he => by cases he⟩
theorem new_kid (n : Nat) (b : Int) (s : List UInt8) : kidL (newT n b).nodes 0 s = -1 := by
  unfold kidL
  split
  · rfl
  · rfl
end Go.Proofs.Ytfmaagcomplooaa
