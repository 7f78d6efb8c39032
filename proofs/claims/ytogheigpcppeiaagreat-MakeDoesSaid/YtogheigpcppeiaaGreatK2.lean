/-
  Plain laws on the order of names, and on looking one up in names that rise.
  The reference's Place: a directory's path from the root.
  Plain laws on trees that can be: names, places, ranks (no landed code in it).
  A tree that can be read as data lies in memory as NodesIn says, and nothing of it is longer than any machine's.
  strings.IndexByte, strings.Index and strings.Cut at a text of one slash: what stands ahead of the first slash, and what behind it.
  strings.Cut at a text of one slash.
  strings.HasPrefix and strings.HasSuffix at a slash.
  path's Name, of the landed code.
  Plain laws on a path's names.
  Ways through a tree, in plain words: a name's step, a way, Walk and Parent; where a way leads.
  Trees with a new inode, one more name, another mode, in plain words: they stay fit.
  Chapter 5 in plain words: a new name, a new inode, and the five functions; what a new name is.
-/
import Derived.Lib.Bytealg
import Derived.Test.YtogheigpcppeiaaGreatK1
import Derived.Deep.Slices
import Derived.Deep.Fields
import Derived.Lib.SmallJoins
import Derived.SizedLaws
import Derived.Lib.IndexLaws
import Derived.Lib.Strings
import Derived.Deep.Draws
import Derived.Laws.Strings3
import Derived.BigRegion
namespace Go.Proofs.YtogheigpcppeiaaGreat
set_option maxRecDepth 100000
open Go Go.RowKit

theorem less_irrefl : ∀ a : List UInt8, Op.bytesLess a a = false
  | [] => rfl
  | c :: r => by
    simp only [Op.bytesLess, less_irrefl r, Bool.and_false, Bool.or_false, decide_eq_false_iff_not]
    exact UInt8.lt_irrefl c
theorem less_trans : ∀ a b c : List UInt8, Op.bytesLess a b = true → Op.bytesLess b c = true → Op.bytesLess a c = true
  | _, [], _, h, _ => by simp [Op.bytesLess] at h
  | _, _ :: _, [], _, h => by simp [Op.bytesLess] at h
  | [], _ :: _, _ :: _, _, _ => rfl
  | x :: a, y :: b, z :: c, h1, h2 => by
    simp only [Op.bytesLess, Bool.or_eq_true, decide_eq_true_eq, Bool.and_eq_true, beq_iff_eq] at h1 h2 ⊢
    rcases h1 with h1 | ⟨rfl, h1⟩
    · rcases h2 with h2 | ⟨rfl, h2⟩
      · exact Or.inl (UInt8.lt_trans h1 h2)
      · exact Or.inl h1
    · rcases h2 with h2 | ⟨rfl, h2⟩
      · exact Or.inl h2
      · exact Or.inr ⟨rfl, less_trans a b c h1 h2⟩
theorem cmp_cases : ∀ a b : List UInt8, (Lib.compareBytes a b = -1 ∧ Op.bytesLess a b = true) ∨ (Lib.compareBytes a b = 0 ∧ a = b) ∨ (Lib.compareBytes a b = 1 ∧ Op.bytesLess b a = true)
  | [], [] => Or.inr (Or.inl ⟨rfl, rfl⟩)
  | [], _ :: _ => Or.inl ⟨rfl, rfl⟩
  | _ :: _, [] => Or.inr (Or.inr ⟨rfl, rfl⟩)
  | x :: a, y :: b => by
    simp only [Lib.compareBytes, Op.bytesLess, Bool.or_eq_true, decide_eq_true_eq, Bool.and_eq_true, beq_iff_eq]
    by_cases h1 : x < y
    · rw [if_pos h1]
      exact Or.inl ⟨rfl, Or.inl h1⟩
    · rw [if_neg h1]
      by_cases h2 : y < x
      · rw [if_pos h2]
        exact Or.inr (Or.inr ⟨rfl, Or.inl h2⟩)
      · rw [if_neg h2]
        have e : x = y := by
          apply UInt8.toNat_inj.1
          have a1 : ¬ x.toNat < y.toNat := h1
          have a2 : ¬ y.toNat < x.toNat := h2
          omega
        subst e
        rcases cmp_cases a b with ⟨h, h'⟩ | ⟨h, rfl⟩ | ⟨h, h'⟩
        · exact Or.inl ⟨h, Or.inr ⟨rfl, h'⟩⟩
        · exact Or.inr (Or.inl ⟨h, rfl⟩)
        · exact Or.inr (Or.inr ⟨h, Or.inr ⟨rfl, h'⟩⟩)
theorem cmp_less {a b : List UInt8} : Lib.compareBytes a b < 0 ↔ Op.bytesLess a b = true := by
  rcases cmp_cases a b with ⟨h, h'⟩ | ⟨h, rfl⟩ | ⟨h, h'⟩
  · simp [h, h']
  · simp [h, less_irrefl]
  · constructor
    · intro h2; omega
    · intro h2
      have := less_trans a b a h2 h'
      rw [less_irrefl] at this
      cases this
theorem cmp_zero {a b : List UInt8} : Lib.compareBytes a b = 0 ↔ a = b := by
  rcases cmp_cases a b with ⟨h, h'⟩ | ⟨h, rfl⟩ | ⟨h, h'⟩
  · constructor
    · intro h2; omega
    · rintro rfl; rw [less_irrefl] at h'; cases h'
  · simp [h]
  · constructor
    · intro h2; omega
    · rintro rfl; rw [less_irrefl] at h'; cases h'
theorem cmp_le1 (a b : List UInt8) : -1 ≤ Lib.compareBytes a b ∧ Lib.compareBytes a b ≤ 1 := by
  rcases cmp_cases a b with ⟨h, _⟩ | ⟨h, _⟩ | ⟨h, _⟩ <;> omega

/-- Names that rise. -/
def Rises (M : List (List UInt8 × Int)) : Prop := ∀ k (h : k < M.length), ∀ t (ht : k = t + 1), Op.bytesLess (M[t]'(by omega)).1 M[k].1 = true
theorem Rises.lt {M : List (List UInt8 × Int)} (h : Rises M) (i : Nat) : ∀ (j : Nat) (hj : j < M.length) (hij : i < j), Op.bytesLess (M[i]'(by omega)).1 M[j].1 = true := by
  intro j
  induction j with
  | zero => intro _ h; omega
  | succ j ih =>
    intro hj hij
    have h1 := h (j + 1) hj j rfl
    by_cases e : i = j
    · subst e
      exact h1
    · exact less_trans _ _ _ (ih (by omega) (by omega)) h1

theorem findK_none (M : List (List UInt8 × Int)) (s : List UInt8) (h : ∀ k (hk : k < M.length), M[k].1 ≠ s) : findK M s = -1 := by
  induction M with
  | nil => rfl
  | cons e r ih =>
    unfold findK
    rw [if_neg (show e.1 ≠ s from h 0 (Nat.succ_pos _))]
    exact ih (fun k hk => h (k + 1) (Nat.succ_lt_succ hk))
theorem findK_some (M : List (List UInt8 × Int)) (s : List UInt8) (i : Nat) (hi : i < M.length) (hs : M[i].1 = s) (h : ∀ k (hk : k < i), (M[k]'(by omega)).1 ≠ s) : findK M s = M[i].2 := by
  induction M generalizing i with
  | nil => exact absurd hi (Nat.not_lt_zero _)
  | cons e r ih =>
    unfold findK
    cases i with
    | zero =>
      rw [if_pos (show e.1 = s from hs)]
      rfl
    | succ i =>
      rw [if_neg (show e.1 ≠ s from h 0 (Nat.succ_pos _))]
      exact ih i (Nat.lt_of_succ_lt_succ hi) hs (fun k hk => h (k + 1) (Nat.succ_lt_succ hk))
/-- In names that rise what stands at the first place that is not ahead of a name is it, or there is none. -/
theorem findK_at {M : List (List UInt8 × Int)} (h : Rises M) (s : List UInt8) (i : Nat) (h1 : ∀ k (hk : k < M.length), k < i → Op.bytesLess M[k].1 s = true) (h2 : ∀ k (hk : k < M.length), i ≤ k → Op.bytesLess M[k].1 s = false) :
    (∀ hi : i < M.length, M[i].1 = s → findK M s = M[i].2) ∧ ((∀ hi : i < M.length, M[i].1 ≠ s) → findK M s = -1) := by
  have ha : ∀ k (hk : k < M.length), k < i → M[k].1 ≠ s := fun k hk hki e => by
    have := h1 k hk hki
    rw [e, less_irrefl] at this
    cases this
  refine ⟨fun hi e => findK_some M s i hi e (fun k hk => ha k (by omega) hk), fun hn => findK_none M s (fun k hk => ?_)⟩
  by_cases hki : k < i
  · exact ha k hk hki
  · by_cases e : k = i
    · subst e
      exact hn hk
    · intro es
      have h3 := h.lt i k hk (by omega)
      rw [es] at h3
      rw [h2 i (by omega) (Nat.le_refl _)] at h3
      cases h3
end Go.Proofs.YtogheigpcppeiaaGreat

namespace Go.Proofs.YtogheigpcppeiaaGreat
set_option maxRecDepth 100000
open Go Go.RowKit

def kidsTo (M : List (List UInt8 × Int)) (d : Int) (s : List UInt8) : List UInt8 := M.foldl (fun s e => if e.2 = d then 47 :: e.1 ++ s else s) s
def placeGo (L : List Ino) : Nat → Int → List UInt8 → List UInt8
  | 0, _, s => s
  | n + 1, d, s => if d = 0 then s else placeGo L n (nodeAt L d).up (kidsTo (nodeAt L (nodeAt L d).up).kids d s)
def placeL (L : List Ino) (d : Int) : List UInt8 := if dirB L d then (if placeGo L (L.length + 1) d [] = [] then [47] else placeGo L (L.length + 1) d []) else []

theorem place_succ (L : List Ino) (n : Nat) (d : Int) (s : List UInt8) : placeGo L (n + 1) d s = if d = 0 then s else placeGo L n (nodeAt L d).up (kidsTo (nodeAt L (nodeAt L d).up).kids d s) := rfl
theorem kidsTo_drop (M : List (List UInt8 × Int)) (k : Nat) (hk : k < M.length) (d : Int) (s : List UInt8) : kidsTo (M.drop k) d s = kidsTo (M.drop (k + 1)) d (if M[k].2 = d then 47 :: M[k].1 ++ s else s) := by
  rw [List.drop_eq_getElem_cons hk]
  rfl

/-- What going up asks of a tree: each directory's Up is one; names and directories are not too long. -/
def Climbs (L : List Ino) : Prop := ∀ k (h : k < L.length), (L[k].kind = 2 → dirB L L[k].up = true) ∧ L[k].kids.length ≤ 1024 ∧ ∀ e ∈ L[k].kids, e.1.length ≤ 64

theorem slash_cat3 (x s : List UInt8) : ((⟨#[47]⟩ : ByteArray) ++ (⟨x.toArray⟩ : ByteArray)) ++ (⟨s.toArray⟩ : ByteArray) = ⟨(47 :: x ++ s).toArray⟩ := by
  rw [show (⟨#[47]⟩ : ByteArray) = ⟨[47].toArray⟩ from rfl, ByteArray.mk_append_mk, ByteArray.mk_append_mk]
  rfl

def PlaceRel (L : List Ino) (n0 : Nat) (dv sv iv : Value) : Prop :=
  ∃ (d i : Nat) (s : List UInt8), d < L.length ∧ dirB L d = true ∧ i ≤ L.length + 1 ∧ dv = .int .i64 d ∧ iv = .int .i64 i ∧ sv = .string ⟨s.toArray⟩ ∧ s.length ≤ i * 66560 ∧ Hid (placeGo L (L.length + 1) (n0 : Int) [] = placeGo L (L.length + 1 - i) (d : Int) s)

end Go.Proofs.YtogheigpcppeiaaGreat

namespace Go.Proofs.YtogheigpcppeiaaGreat
set_option maxRecDepth 100000
open Go Go.RowKit

/-- No list is longer than any machine's. -/
structure Reach (L : List Ino) : Prop where
  nodes : L.length ≤ 281474976710656
  kids : ∀ k (h : k < L.length), L[k].kids.length ≤ 281474976710656
  texts : Sized L
  data : ∀ k (h : k < L.length), L[k].data.length ≤ 140737488355328
theorem fit_small {L : List Ino} {m b : Int} (h : FitP L m b) : L.length ≤ 256 ∧ usedB L ≤ 65536 ∧ b ≤ 65536 := by
  obtain ⟨h1, h2, h3, h4, h5⟩ := h.limits
  exact ⟨by omega, by omega, h5⟩
theorem used_pos {L : List Ino} (h : dirB L 0 = true) : 1 ≤ usedN L := by
  obtain ⟨z, hz, hl⟩ := dir_lt h
  cases L with
  | nil => exact absurd hl (Nat.not_lt_zero _)
  | cons x r =>
    have h2 := node_kind_of h
    have h3 : x.kind = 2 := h2
    simp only [usedN, h3]
    rw [if_neg (by decide)]
    omega
theorem nil_nodes (w : World) : NodesIn w none 0 ([] : List Ino) := ⟨Nat.le_refl _, Nat.zero_le _, fun _i hi => absurd hi (Nat.not_lt_zero _)⟩
theorem kids_rise {L : List Ino} (h : AllFit L) : ∀ k (h : k < L.length), L[k].kids.length ≤ 1024 ∧ Rises L[k].kids := fun k hk => ⟨(h k hk).2.1, fun i hi t ht => ((h k hk).2.2 i hi).order t ht⟩
theorem findK_mem {M : List (List UInt8 × Int)} (hR : Rises M) (i : Nat) (hi : i < M.length) : findK M M[i].1 = M[i].2 := by
  refine findK_some M M[i].1 i hi rfl (fun k hk e => ?_)
  have h := hR.lt k i hi hk
  rw [e, less_irrefl] at h
  cases h
theorem findK_has : ∀ (M : List (List UInt8 × Int)) (s : List UInt8), 0 ≤ findK M s → ∃ e ∈ M, e.1 = s
  | [], _, h => absurd (show (0 : Int) ≤ -1 from h) (by decide)
  | e :: r, s, h => by
    unfold findK at h
    by_cases hs : e.1 = s
    · exact ⟨e, List.mem_cons_self, hs⟩
    · rw [if_neg hs] at h
      obtain ⟨e', he, hs'⟩ := findK_has r s h
      exact ⟨e', List.mem_cons_of_mem _ he, hs'⟩
/-- Each name of a directory is found. -/
theorem kid_of {L : List Ino} {m b : Int} (hF : FitP L m b) (d : Nat) (hd : d < L.length) (i : Nat) (hi : i < L[d].kids.length) : kidL L (d : Int) L[d].kids[i].1 = L[d].kids[i].2 := by
  have h2 := dir_of_kids (hF.ins d hd).1 (List.ne_nil_of_mem (List.getElem_mem hi))
  unfold kidL
  rw [(dir_nat hd).2 h2, if_pos rfl, node_nat L d hd]
  exact findK_mem (kids_rise hF.ins d hd).2 i hi
/-- What a name that can be is. -/
theorem name_parts {x : List UInt8} (h : nameOkL x = true) : x ≠ [] ∧ wholeL x = false ∧ x.getLast? ≠ some 47 ∧ x.length ≤ 64 ∧ ∀ c ∈ x, c ≠ 47 := by
  unfold nameOkL at h
  simp only [Bool.and_eq_true, List.all_eq_true, decide_eq_true_eq] at h
  obtain ⟨⟨⟨⟨h1, h2⟩, h3⟩, -⟩, -⟩ := h
  have hc : ∀ c ∈ x, c ≠ 47 := fun c hc => by
    have := (h1 c hc).1
    simpa using this
  refine ⟨fun e => by subst e; simp at h2, ?_, fun e => hc 47 (List.mem_of_getLast? e) rfl, h3, hc⟩
  cases x with
  | nil => rfl
  | cons c r =>
    have := hc c List.mem_cons_self
    simpa [wholeL] using this
theorem name_of {L : List Ino} (h : AllFit L) {d : Nat} (hd : d < L.length) {e : List UInt8 × Int} (he : e ∈ L[d].kids) : nameOkL e.1 = true ∧ thereB L e.2 = true := by
  obtain ⟨i, hi, rfl⟩ := List.getElem_of_mem he
  exact ⟨((h d hd).2.2 i hi).name, ((h d hd).2.2 i hi).there⟩
theorem short_of {L : List Ino} (h : AllFit L) : Short64 L := fun k hk => ⟨(h k hk).2.1, fun _ he => (name_parts (name_of h hk he).1).2.2.2.1⟩
/-- The root has no name. -/
theorem name_pos {L : List Ino} {m b : Int} (hF : FitP L m b) {d : Nat} (hd : d < L.length) {e : List UInt8 × Int} (he : e ∈ L[d].kids) : e.2 ≠ 0 := fun h0 => by
  have hl : 0 < L.length := by omega
  have h1 := (hF.names.2 0 hl).2
  rw [countL_get L (kids_pos (kids_there hF.ins)) 0 hl] at h1
  unfold MayHave at h1
  rw [if_pos (Or.inl (by rfl))] at h1
  have h2 := names_pos (mem_kidsOf.2 ⟨d, hd, he⟩)
  rw [h0] at h2
  have h3 : namesOf (kidsOf L) 0 = 0 := Int.ofNat.inj h1
  omega
/-- How many steps up lead to the root first. -/
def Rk (L : List Ino) (k : Int) (j : Nat) : Prop := upN L j k = 0 ∧ ∀ i, i < j → upN L i k ≠ 0
theorem rk_root (L : List Ino) : Rk L 0 0 := ⟨rfl, fun _ h => absurd h (Nat.not_lt_zero _)⟩
theorem rk_down {L : List Ino} {k d : Int} {j : Nat} (h : Rk L d j) (hk : k ≠ 0) (hu : (nodeAt L k).up = d) : Rk L k (j + 1) := by
  refine ⟨?_, fun i hi => ?_⟩
  · show upN L j (nodeAt L k).up = 0
    rw [hu]
    exact h.1
  · cases i with
    | zero => exact hk
    | succ i =>
      show upN L i (nodeAt L k).up ≠ 0
      rw [hu]
      exact h.2 i (by omega)
theorem rk_lt {L : List Ino} (hl : AllLead L) {k : Int} (hd : dirB L k = true) {j : Nat} (h : Rk L k j) : j < L.length := by
  obtain ⟨z, rfl, hz⟩ := dir_lt hd
  obtain ⟨i, hi, he⟩ := (leads_iff L _ _).1 (hl z hz hd)
  rcases Nat.lt_or_ge i j with h1 | h1
  · exact absurd he (h.2 i h1)
  · omega
theorem rk_of {L : List Ino} {k : Int} : ∀ (n : Nat), (∃ i, i < n ∧ upN L i k = 0) → ∃ j, Rk L k j
  | 0, ⟨_, h, _⟩ => absurd h (Nat.not_lt_zero _)
  | n + 1, ⟨i, hi, he⟩ => by
    by_cases h : ∃ i, i < n ∧ upN L i k = 0
    · exact rk_of n h
    · exact ⟨i, he, fun j hj e => h ⟨j, by omega, e⟩⟩
theorem rk_one {L : List Ino} {k : Int} {i j : Nat} (h : Rk L k i) (h' : Rk L k j) : i = j := by
  rcases Nat.lt_trichotomy i j with h1 | h1 | h1
  · exact absurd h.1 (h'.2 i h1)
  · exact h1
  · exact absurd h'.1 (h.2 j h1)
theorem ups_of {L : List Ino} {m b : Int} (hF : FitP L m b) : ∀ (i : Nat) (k : Int), dirB L k = true → dirB L (upN L i k) = true
  | 0, _, h => h
  | i + 1, k, h => by
    obtain ⟨z, rfl, hz⟩ := dir_lt h
    refine ups_of hF i _ ?_
    rw [node_nat L z hz]
    exact ups_in hF.root hF.rootUp hF.ins hF.names z hz ((dir_nat hz).1 h)
theorem up_next (L : List Ino) (i : Nat) (k : Int) : upN L (i + 1) k = (nodeAt L (upN L i k)).up := upN_add L i 1 k
theorem names_app (A B : List (List UInt8 × Int)) (c : Int) : namesOf (A ++ B) c = namesOf A c + namesOf B c := by
  unfold namesOf
  rw [List.filter_append, List.length_append]
theorem names_le {L : List Ino} {d : Nat} (hd : d < L.length) (c : Int) : namesOf L[d].kids c ≤ namesOf (kidsOf L) c := by
  have h : kidsOf L = kidsOf (L.take (d + 1)) ++ kidsOf (L.drop (d + 1)) := by
    unfold kidsOf
    rw [← List.flatMap_append, List.take_append_drop]
  rw [h, kidsOf_take L d hd, names_app, names_app]
  omega
/-- Each directory but the root has one name, in its Up. -/
theorem one_name {L : List Ino} {m b : Int} (hF : FitP L m b) {d : Nat} (hd : d < L.length) {c : Int} (hc : dirB L c = true) (hc0 : c ≠ 0) (hu : (nodeAt L c).up = (d : Int)) : namesOf L[d].kids c = 1 := by
  obtain ⟨z, rfl, hz⟩ := dir_lt hc
  have h1 := (hF.names.2 z hz).2
  rw [countL_get L (kids_pos (kids_there hF.ins)) z hz] at h1
  unfold MayHave at h1
  have hk := (dir_nat hz).1 hc
  rw [if_neg (by omega), if_pos hk] at h1
  have h2 : namesOf (kidsOf L) (z : Int) = 1 := Int.ofNat.inj h1
  have h3 := names_le hd (z : Int)
  obtain ⟨e, he⟩ := List.exists_mem_of_length_pos (show 0 < ((kidsOf L).filter fun e => e.2 == (z : Int)).length by unfold namesOf at h2; omega)
  obtain ⟨he1, he2⟩ := List.mem_filter.1 he
  obtain ⟨d', hd', hed⟩ := mem_kidsOf.1 he1
  have hek : e.2 = (z : Int) := by simpa using he2
  have hup := hF.names.1 d' hd' e hed (by rw [hek]; exact hc)
  rw [hek, hu] at hup
  have hdd : d = d' := by omega
  subst hdd
  have h4 := names_pos hed
  rw [hek] at h4
  omega
def sumL {α : Type} : List α → (α → Nat) → Nat
  | [], _ => 0
  | e :: r, g => g e + sumL r g
theorem names_sum (c : Int) : ∀ M : List (List UInt8 × Int), namesOf M c = sumL M (fun e => if e.2 = c then 1 else 0)
  | [] => rfl
  | e :: r => by
    show namesOf (e :: r) c = (if e.2 = c then 1 else 0) + sumL r (fun e => if e.2 = c then 1 else 0)
    rw [← names_sum c r]
    unfold namesOf
    by_cases h : e.2 = c
    · rw [if_pos h, List.filter_cons_of_pos (by simpa using h), List.length_cons]
      omega
    · rw [if_neg h, List.filter_cons_of_neg (by simpa using h)]
      omega
theorem names_cons (e : List UInt8 × Int) (r : List (List UInt8 × Int)) (c : Int) : namesOf (e :: r) c = (if e.2 = c then 1 else 0) + namesOf r c := by
  rw [names_sum, names_sum]
  rfl
theorem kidsTo_cons (e : List UInt8 × Int) (r : List (List UInt8 × Int)) (d : Int) (s : List UInt8) : kidsTo (e :: r) d s = kidsTo r d (if e.2 = d then 47 :: e.1 ++ s else s) := rfl
theorem kids_none : ∀ (M : List (List UInt8 × Int)) (d : Int) (s : List UInt8), namesOf M d = 0 → kidsTo M d s = s
  | [], _, _, _ => rfl
  | e :: r, d, s, h => by
    rw [names_cons] at h
    have hne : ¬ e.2 = d := fun e1 => by rw [if_pos e1] at h; omega
    rw [kidsTo_cons, if_neg hne]
    rw [if_neg hne] at h
    exact kids_none r d s (by omega)
def nameOf : List (List UInt8 × Int) → Int → Option (List UInt8)
  | [], _ => none
  | e :: r, d => if e.2 = d then some e.1 else nameOf r d
theorem kids_one : ∀ (M : List (List UInt8 × Int)) (d : Int), namesOf M d = 1 → ∃ x, nameOf M d = some x ∧ (x, d) ∈ M ∧ ∀ s, kidsTo M d s = 47 :: x ++ s
  | [], _, h => by simp [namesOf] at h
  | e :: r, d, h => by
    rw [names_cons] at h
    by_cases e1 : e.2 = d
    · rw [if_pos e1] at h
      refine ⟨e.1, by unfold nameOf; rw [if_pos e1], ?_, fun s => ?_⟩
      · rw [← e1]
        exact List.mem_cons_self
      · rw [kidsTo_cons, if_pos e1]
        exact kids_none r d _ (by omega)
    · rw [if_neg e1] at h
      obtain ⟨x, h1, h2, h3⟩ := kids_one r d (by omega)
      refine ⟨x, by unfold nameOf; rw [if_neg e1]; exact h1, List.mem_cons_of_mem _ h2, fun s => ?_⟩
      rw [kidsTo_cons, if_neg e1]
      exact h3 s
/-- Names with a slash ahead of each. -/
def sl (M : List (List UInt8)) : List UInt8 := M.flatMap fun x => 47 :: x
theorem sl_cons (x : List UInt8) (r : List (List UInt8)) : sl (x :: r) = 47 :: x ++ sl r := rfl
theorem sl_join : ∀ M : List (List UInt8), M ≠ [] → sl M = 47 :: joinL M
  | [], h => absurd rfl h
  | [x], _ => by simp [sl, joinL]
  | x :: y :: r, _ => by
    rw [sl_cons, sl_join (y :: r) (by simp)]
    simp [joinL]
/-- The directory that names lead to from the root. -/
def goDown (L : List Ino) (M : List (List UInt8)) : Int := M.foldl (fun d x => kidL L d x) 0
theorem rk_up {L : List Ino} {d : Int} {j : Nat} (h : Rk L d (j + 1)) : Rk L (nodeAt L d).up j := ⟨h.1, fun i hi => h.2 (i + 1) (by omega)⟩
theorem take_name {x : List UInt8} (h : ∀ c ∈ x, c ≠ 47) (M : List (List UInt8)) : (x ++ sl M).takeWhile (fun c => c != 47) = x := by
  rw [List.takeWhile_append_of_pos (fun c hc => by simpa using h c hc)]
  cases M with
  | nil => simp [sl]
  | cons y r => rw [sl_cons]; simp
theorem sl_inj : ∀ (M N : List (List UInt8)), (∀ x ∈ M, ∀ c ∈ x, c ≠ 47) → (∀ x ∈ N, ∀ c ∈ x, c ≠ 47) → sl M = sl N → M = N
  | [], [], _, _, _ => rfl
  | [], y :: s, _, _, h => by rw [sl_cons] at h; cases h
  | x :: r, [], _, _, h => by rw [sl_cons] at h; cases h
  | x :: r, y :: s, hM, hN, h => by
    rw [sl_cons, sl_cons, List.cons_append, List.cons_append] at h
    have h1 := (List.cons.inj h).2
    have e : x = y := by
      rw [← take_name (hM x List.mem_cons_self) r, h1, take_name (hN y List.mem_cons_self) s]
    subst e
    rw [sl_inj r s (fun z hz => hM z (List.mem_cons_of_mem _ hz)) (fun z hz => hN z (List.mem_cons_of_mem _ hz)) (List.append_cancel_left h1)]
end Go.Proofs.YtogheigpcppeiaaGreat

namespace Go.Proofs.YtogheigpcppeiaaGreat
set_option maxRecDepth 100000
open Go.ChangeShapes Go.WideShapes Go.Deep Go.Joins
open Go Go.RowKit

section
variable {H : Type} {enc : TypeId × Value → H} {w : World} {base : Nat} {spare : Nat → Bool} {held : Bool}

theorem add_none (b o n : Nat) : (⟨b, o, none⟩ : Addr).add n = ⟨b, o + n, none⟩ := by
  unfold Addr.add
  split
  · rename_i h
    rw [h]
    rfl
  · rfl

/-- One field of a struct that was read. -/
theorem part_at {e : TypeId} {fs : Array Field} {n : Nat} {cs : List Value} {x : DataW H × List MemPlace} (ht : Tryz.prog.underlying e = some (.struct fs)) (h : DataW.trod enc Tryz.prog w base spare held n e cs = some x)
    (j : Nat) (f : Field) (hf : fs[j]? = some f) (ho : f.offset = j) (hc : Tryz.prog.cellsOf f.type = 1) (v : Value) (hv : cs[j]? = some v) :
    ∃ (n' : Nat) (y : DataW H × List MemPlace), DataW.trod enc Tryz.prog w base spare held n' f.type [v] = some y ∧ ∀ z ∈ y.1.weights Tryz.prog f.type, z ∈ x.1.weights Tryz.prog e := by
  obtain ⟨xs, n', _, rfl, hl, hlen, hfs⟩ := DataW.trod_struct ht h
  have h1 := hfs j f hf
  have hj : j < fs.size := (Array.getElem?_eq_some_iff.1 hf).1
  have hjc : j < cs.length := (List.getElem?_eq_some_iff.1 hv).1
  have e1 : (cs.drop j).take 1 = [v] := by
    rw [List.drop_eq_getElem_cons hjc]
    have : cs[j] = v := (List.getElem?_eq_some_iff.1 hv).2
    simp [this]
  rw [ho, hc, e1] at h1
  have hx : xs[j]? = some (xs[j]'(by omega)) := List.getElem?_eq_getElem (by omega)
  refine ⟨n', xs[j]'(by omega), h1.trans hx, fun z hz => ?_⟩
  show z ∈ DataW.weights Tryz.prog e (.agg (xs.map (·.1)))
  unfold DataW.weights
  rw [ht]
  refine DataW.weights_mem_each (j := j) (t := f.type) (d := (xs[j]'(by omega)).1) ?_ ?_ z hz
  · rw [List.getElem?_map, Array.getElem?_toList, hf]
    rfl
  · rw [List.getElem?_map, hx]
    rfl

theorem weights_all {P : Program} {e : TypeId} : ∀ (l : List (DataW H)) (i : Nat) (hi : i < l.length), ∀ z ∈ l[i].weights P e, z ∈ DataW.weightsAll P e l
  | d :: r, 0, _, z, hz => by
    simp only [DataW.weightsAll, List.mem_append]
    exact Or.inl hz
  | d :: r, i + 1, hi, z, hz => by
    simp only [DataW.weightsAll, List.mem_append]
    exact Or.inr (weights_all r i (Nat.lt_of_succ_lt_succ hi) z hz)
  | [], _, hi, _, _ => absurd hi (Nat.not_lt_zero _)

/-- A slice of structs that was read, of e: each element's cells. -/
theorem slice_at {t e : TypeId} {k : Nat} {fuel : Nat} {v : Value} {x : DataW H × List MemPlace} (ht : Tryz.prog.underlying t = some (.slice e)) (hk : Tryz.prog.cellsOf e = k) (hk0 : 0 < k) (h : DataW.trod enc Tryz.prog w base (fun _ => true) held fuel t [v] = some x)
    (R : Nat) (hR : ∀ z ∈ x.1.weights Tryz.prog t, z ≤ R) :
    ∃ (a : Option Addr) (len cap : Nat), v = .slice a len cap ∧ len ≤ cap ∧ cap ≤ maxLen ∧ len * Tryz.prog.bytesOf e ≤ R ∧
      ∀ i, i < len → ∃ b o, a = some ⟨b, o, none⟩ ∧ ∃ (n : Nat) (cs : List Value) (y : DataW H × List MemPlace), DataW.trod enc Tryz.prog w base (fun _ => true) held n e cs = some y ∧ (∀ z ∈ y.1.weights Tryz.prog e, z ≤ R) ∧ cs.length = k ∧ ∀ j, j < k → w.cell? ⟨b, o + i * k + j, none⟩ = cs[j]? := by
  rcases open_slice ht h with ⟨hcs, rfl⟩ | ⟨a, len, cap, m, n, D, Pl, hcs, hb, hl, hm, hmm, rfl, hi⟩
  · have hv : v = .slice none 0 0 := by simpa using hcs
    exact ⟨none, 0, 0, hv, Nat.le_refl _, Nat.zero_le _, by omega, fun i hi => absurd hi (Nat.not_lt_zero _)⟩
  · have hv : v = .slice (some a) len cap := by simpa using hcs
    have hcm : m = cap := by simpa using hmm
    subst hcm
    have hw : ∀ z ∈ DataW.weights Tryz.prog t (.slice ((List.range len).map D) ((List.range (m - len)).map fun j => D (len + j))), z ≤ R := hR
    unfold DataW.weights at hw
    rw [ht] at hw
    have hlen : len * Tryz.prog.bytesOf e ≤ R := by
      have h1 := hw ((((List.range len).map D).length + ((List.range (m - len)).map fun j => D (len + j)).length) * Tryz.prog.bytesOf e) (by simp)
      simp only [List.length_map, List.length_range] at h1
      exact Nat.le_trans (Nat.mul_le_mul_right _ (Nat.le_add_right _ _)) h1
    refine ⟨some a, len, m, hv, hl, hm, hlen, fun i hil => ?_⟩
    obtain ⟨cs, hc, hy⟩ := hi i (by omega)
    rw [hk] at hc
    obtain ⟨_, hcl, hat⟩ := World.cells?_some hc
    have hsp : a.spot = none := by
      obtain ⟨cs0, hc0, _⟩ := hi 0 (by omega)
      rw [hk] at hc0
      obtain ⟨_, hcl0, hat0⟩ := World.cells?_some hc0
      have h1 := hat0 0 hk0
      rw [List.getElem?_eq_getElem (by omega)] at h1
      have h2 := World.cell?_spot h1
      rw [Nat.zero_mul] at h2
      simpa [Addr.add] using h2
    obtain ⟨b, o, s⟩ := a
    have hs : s = none := hsp
    subst hs
    refine ⟨b, o, rfl, n, cs, _, hy, fun z hz => ?_, hcl, fun j hj => ?_⟩
    · refine hw z ?_
      simp only [List.mem_cons, List.mem_append]
      refine Or.inr (Or.inl ?_)
      refine weights_all _ i (by simpa using hil) z ?_
      simpa using hz
    · have h1 := hat j hj
      rw [add_none, add_none] at h1
      exact h1

theorem entry_fields : ∃ f0 f1 : Field, Tryz.prog.underlying 58 = some (.struct #[f0, f1]) ∧ f0.offset = 0 ∧ f1.offset = 1 ∧ f0.type = 9 ∧ f1.type = 3 :=
  ⟨_, _, Tryz.underlying58, rfl, rfl, rfl, rfl⟩
theorem inode_fields : ∃ f0 f1 f2 f3 f4 f5 : Field, Tryz.prog.underlying 49 = some (.struct #[f0, f1, f2, f3, f4, f5]) ∧ f0.offset = 0 ∧ f1.offset = 1 ∧ f2.offset = 2 ∧ f3.offset = 3 ∧ f4.offset = 4 ∧ f5.offset = 5 ∧
    f0.type = 3 ∧ f1.type = 3 ∧ f2.type = 3 ∧ f3.type = 9 ∧ f4.type = 47 ∧ f5.type = 3 :=
  ⟨_, _, _, _, _, _, Tryz.underlying49, rfl, rfl, rfl, rfl, rfl, rfl, rfl, rfl, rfl, rfl, rfl, rfl⟩
theorem one_int : Tryz.prog.cellsOf 3 = 1 := by kernel_rfl
theorem one_string : Tryz.prog.cellsOf 9 = 1 := by kernel_rfl
theorem one_kids : Tryz.prog.cellsOf 47 = 1 := by kernel_rfl
theorem two_entry : Tryz.prog.cellsOf 58 = 2 := by kernel_rfl
theorem six_inode : Tryz.prog.cellsOf 49 = 6 := by kernel_rfl
theorem bytes_entry : Tryz.prog.bytesOf 58 = 24 := by kernel_rfl
theorem bytes_inode : Tryz.prog.bytesOf 49 = 72 := by kernel_rfl

theorem some_at {l : List Value} {j : Nat} (h : j < l.length) : l[j]? = some l[j] := List.getElem?_eq_getElem h

theorem open_kids {fuel : Nat} {v : Value} {x : DataW H × List MemPlace} (h : DataW.trod enc Tryz.prog w base (fun _ => true) held fuel 47 [v] = some x) (R : Nat) (hR : ∀ z ∈ x.1.weights Tryz.prog 47, z ≤ R) :
    ∃ M : List (List UInt8 × Int), KidsIn w v M ∧ M.length * 24 ≤ R ∧ ∀ e ∈ M, e.1.length ≤ R := by
  obtain ⟨a, len, cap, rfl, hl, hm, hb, hi⟩ := slice_at Tryz.underlying47 two_entry (by decide) h R hR
  rw [bytes_entry] at hb
  obtain ⟨f0, f1, hu, o0, o1, t0, t1⟩ := entry_fields
  have hone : ∀ i, i < len → ∃ (s : List UInt8) (z : Int), s.length ≤ R ∧ ∃ b o, a = some ⟨b, o, none⟩ ∧ w.cell? ⟨b, o + i * 2, none⟩ = some (.string ⟨s.toArray⟩) ∧ w.cell? ⟨b, o + i * 2 + 1, none⟩ = some (.int .i64 z) := fun i hil => by
    obtain ⟨b, o, ha, n, cs, y, hy, hyR, hcl, hc⟩ := hi i hil
    have c0 := hc 0 (by decide)
    have c1 := hc 1 (by decide)
    rw [some_at (show 0 < cs.length by omega)] at c0
    rw [some_at (show 1 < cs.length by omega)] at c1
    obtain ⟨n0, y0, hy0, hw0⟩ := part_at hu hy 0 f0 rfl o0 (by rw [t0]; exact one_string) _ (some_at (show 0 < cs.length by omega))
    obtain ⟨n1, y1, hy1, hw1⟩ := part_at hu hy 1 f1 rfl o1 (by rw [t1]; exact one_int) _ (some_at (show 1 < cs.length by omega))
    rw [t0] at hy0 hw0
    rw [t1] at hy1
    obtain ⟨s, e0, rfl, hs⟩ := DataW.trod_string Tryz.underlying9 hy0
    obtain ⟨z, e1, rfl, -⟩ := DataW.trod_int Tryz.underlying3 hy1
    simp only [List.cons.injEq, and_true] at e0 e1
    rw [e0] at c0
    rw [e1] at c1
    refine ⟨s.data.toList, z, hyR _ (hw0 _ (by simp [DataW.weights])), b, o, ha, c0, c1⟩
  -- the list
  have hex : ∃ M : List (List UInt8 × Int), M.length = len ∧ (∀ e ∈ M, e.1.length ≤ R) ∧ ∀ i (hi : i < M.length), ∃ b o, a = some ⟨b, o, none⟩ ∧ w.cell? ⟨b, o + i * 2, none⟩ = some (.string ⟨M[i].1.toArray⟩) ∧ w.cell? ⟨b, o + i * 2 + 1, none⟩ = some (.int .i64 M[i].2) := by
    clear hl hm hb hi h
    induction len with
    | zero => exact ⟨[], rfl, by simp, fun i hi => absurd hi (Nat.not_lt_zero _)⟩
    | succ len ih =>
      obtain ⟨M, h1, h2, h3⟩ := ih (fun i hi => hone i (by omega))
      obtain ⟨s, z, hs, hc⟩ := hone len (Nat.lt_succ_self _)
      refine ⟨M ++ [(s, z)], by simp [h1], fun e he => ?_, fun i hi => ?_⟩
      · rcases List.mem_append.1 he with he | he
        · exact h2 e he
        · simp only [List.mem_singleton] at he
          subst he
          exact hs
      · by_cases hil : i < M.length
        · rw [List.getElem_append_left hil]
          exact h3 i hil
        · have e : i = M.length := by simp at hi; omega
          subst e
          rw [List.getElem_concat_length rfl, h1]
          exact hc
  obtain ⟨M, h1, h2, h3⟩ := hex
  subst h1
  exact ⟨M, ⟨a, cap, rfl, hl, hm, h3⟩, hb, h2⟩

theorem open_nodes {fuel : Nat} {v : Value} {x : DataW H × List MemPlace} (h : DataW.trod enc Tryz.prog w base (fun _ => true) held fuel 22 [v] = some x) (R : Nat) (hR : ∀ z ∈ x.1.weights Tryz.prog 22, z ≤ R) :
    ∃ (L : List Ino) (a : Option Addr) (cap : Nat), v = .slice a L.length cap ∧ NodesIn w a cap L ∧ L.length * 72 ≤ R ∧ ∀ y ∈ L, y.data.length ≤ R ∧ y.kids.length * 24 ≤ R ∧ ∀ e ∈ y.kids, e.1.length ≤ R := by
  obtain ⟨a, len, cap, rfl, hl, hm, hb, hi⟩ := slice_at Tryz.underlying22 six_inode (by decide) h R hR
  rw [bytes_inode] at hb
  obtain ⟨f0, f1, f2, f3, f4, f5, hu, o0, o1, o2, o3, o4, o5, t0, t1, t2, t3, t4, t5⟩ := inode_fields
  have hone : ∀ i, i < len → ∃ y : Ino, (y.data.length ≤ R ∧ y.kids.length * 24 ≤ R ∧ ∀ e ∈ y.kids, e.1.length ≤ R) ∧ ∃ b o, a = some ⟨b, o, none⟩ ∧ NodeIn w b (o + i * 6) y := fun i hil => by
    obtain ⟨b, o, ha, n, cs, y, hy, hyR, hcl, hc⟩ := hi i hil
    have c0 := hc 0 (by decide)
    have c1 := hc 1 (by decide)
    have c2 := hc 2 (by decide)
    have c3 := hc 3 (by decide)
    have c4 := hc 4 (by decide)
    have c5 := hc 5 (by decide)
    rw [some_at (show 0 < cs.length by omega)] at c0
    rw [some_at (show 1 < cs.length by omega)] at c1
    rw [some_at (show 2 < cs.length by omega)] at c2
    rw [some_at (show 3 < cs.length by omega)] at c3
    rw [some_at (show 4 < cs.length by omega)] at c4
    rw [some_at (show 5 < cs.length by omega)] at c5
    obtain ⟨n0, y0, hy0, hw0⟩ := part_at hu hy 0 f0 rfl o0 (by rw [t0]; exact one_int) _ (some_at (show 0 < cs.length by omega))
    obtain ⟨n1, y1, hy1, hw1⟩ := part_at hu hy 1 f1 rfl o1 (by rw [t1]; exact one_int) _ (some_at (show 1 < cs.length by omega))
    obtain ⟨n2, y2, hy2, hw2⟩ := part_at hu hy 2 f2 rfl o2 (by rw [t2]; exact one_int) _ (some_at (show 2 < cs.length by omega))
    obtain ⟨n3, y3, hy3, hw3⟩ := part_at hu hy 3 f3 rfl o3 (by rw [t3]; exact one_string) _ (some_at (show 3 < cs.length by omega))
    obtain ⟨n4, y4, hy4, hw4⟩ := part_at hu hy 4 f4 rfl o4 (by rw [t4]; exact one_kids) _ (some_at (show 4 < cs.length by omega))
    obtain ⟨n5, y5, hy5, hw5⟩ := part_at hu hy 5 f5 rfl o5 (by rw [t5]; exact one_int) _ (some_at (show 5 < cs.length by omega))
    rw [t0] at hy0
    rw [t1] at hy1
    rw [t2] at hy2
    rw [t3] at hy3 hw3
    rw [t4] at hy4 hw4
    rw [t5] at hy5
    obtain ⟨z0, e0, rfl, -⟩ := DataW.trod_int Tryz.underlying3 hy0
    obtain ⟨z1, e1, rfl, -⟩ := DataW.trod_int Tryz.underlying3 hy1
    obtain ⟨z2, e2, rfl, -⟩ := DataW.trod_int Tryz.underlying3 hy2
    obtain ⟨s, e3, rfl, hs⟩ := DataW.trod_string Tryz.underlying9 hy3
    obtain ⟨z5, e5, rfl, -⟩ := DataW.trod_int Tryz.underlying3 hy5
    obtain ⟨M, hM, hM1, hM2⟩ := open_kids hy4 R (fun z hz => hyR z (hw4 z hz))
    simp only [List.cons.injEq, and_true] at e0 e1 e2 e3 e5
    rw [e0] at c0
    rw [e1] at c1
    rw [e2] at c2
    rw [e3] at c3
    rw [e5] at c5
    exact ⟨⟨z0, z1, z2, s.data.toList, M, z5⟩, ⟨hyR _ (hw3 _ (by simp [DataW.weights])), hM1, hM2⟩, b, o, ha, ⟨c0, c1, c2, c3, ⟨_, c4, hM⟩, c5⟩⟩
  have hex : ∃ L : List Ino, L.length = len ∧ (∀ y ∈ L, y.data.length ≤ R ∧ y.kids.length * 24 ≤ R ∧ ∀ e ∈ y.kids, e.1.length ≤ R) ∧ ∀ i (hi : i < L.length), ∃ b o, a = some ⟨b, o, none⟩ ∧ NodeIn w b (o + i * 6) L[i] := by
    clear hl hm hb hi h
    induction len with
    | zero => exact ⟨[], rfl, by simp, fun i hi => absurd hi (Nat.not_lt_zero _)⟩
    | succ len ih =>
      obtain ⟨L, h1, h2, h3⟩ := ih (fun i hi => hone i (by omega))
      obtain ⟨y, hy, hc⟩ := hone len (Nat.lt_succ_self _)
      refine ⟨L ++ [y], by simp [h1], fun e he => ?_, fun i hi => ?_⟩
      · rcases List.mem_append.1 he with he | he
        · exact h2 e he
        · simp only [List.mem_singleton] at he
          subst he
          exact hy
      · by_cases hil : i < L.length
        · rw [List.getElem_append_left hil]
          exact h3 i hil
        · have e : i = L.length := by simp at hi; omega
          subst e
          rw [List.getElem_concat_length rfl, h1]
          exact hc
  obtain ⟨L, h1, h2, h3⟩ := hex
  subst h1
  exact ⟨L, a, cap, rfl, ⟨hl, hm, h3⟩, hb, h2⟩

theorem tree_fields : ∃ f0 f1 f2 : Field, Tryz.prog.underlying 24 = some (.struct #[f0, f1, f2]) ∧ oneCellFields Tryz.prog #[f0, f1, f2] = true ∧ f0.type = 22 ∧ f1.type = 3 ∧ f2.type = 3 ∧ f0.offset = 0 :=
  ⟨_, _, _, Tryz.underlying24, by kernel_rfl, rfl, rfl, rfl, rfl⟩
theorem three_tree : Tryz.prog.cellsOf 24 = 3 := by kernel_rfl

/-- An argument that is a tree. -/
theorem open_tree {r : Go.Reach} {b0 : Nat} {v : Value} {d : DataW H} {p : List MemPlace} (hv : Value.okWide Tryz.prog w r b0 24 v) (h : DataW.Trod enc Tryz.prog w base (fun _ => true) held 24 v d p)
    (R : Nat) (hR0 : R ≤ 140737488355328) (hR : ∀ z ∈ d.weights Tryz.prog 24, z ≤ R) :
    ∃ (L : List Ino) (a : Option Addr) (cap : Nat) (m b : Int), v = .agg #[.slice a L.length cap, .int .i64 m, .int .i64 b] ∧ NodesIn w a cap L ∧ Proofs.YtogheigpcppeiaaGreat.Reach L := by
  obtain ⟨f0, f1, f2, hu, hone, t0, t1, t2, -⟩ := tree_fields
  obtain ⟨v0, v1, v2, y0, y1, y2, n, rfl, rfl, rfl, g0, g1, g2⟩ := open_agg3 hu hone three_tree hv h
  rw [t0] at g0
  rw [t1] at g1
  rw [t2] at g2
  obtain ⟨m, e1, rfl, -⟩ := DataW.trod_int Tryz.underlying3 g1
  obtain ⟨b, e2, rfl, -⟩ := DataW.trod_int Tryz.underlying3 g2
  simp only [List.cons.injEq, and_true] at e1 e2
  obtain ⟨L, a, cap, rfl, hN, hl, hy⟩ := open_nodes g0 R (fun z hz => hR z (by
    unfold DataW.weights
    rw [hu]
    show z ∈ DataW.weightsEach Tryz.prog [f0.type, f1.type, f2.type] [y0.1, _, _]
    rw [t0]
    simp only [DataW.weightsEach, List.mem_append]
    exact Or.inl hz))
  refine ⟨L, a, cap, m, b, by rw [e1, e2], hN, ⟨by omega, fun k hk => ?_, fun k hk => ?_, fun k hk => by have := (hy _ (List.getElem_mem hk)).1; omega⟩⟩
  · have := (hy _ (List.getElem_mem hk)).2.1
    omega
  · have h1 := (hy _ (List.getElem_mem hk)).1
    exact ⟨by omega, fun e he => by have := (hy _ (List.getElem_mem hk)).2.2 e he; omega⟩
end
end Go.Proofs.YtogheigpcppeiaaGreat

namespace Go.Proofs.YtogheigpcppeiaaGreat
set_option maxRecDepth 100000
open Go Go.RowKit

/-- What stands ahead of the first slash; what stands behind it. -/
def headL : List UInt8 → List UInt8
  | [] => []
  | c :: r => if c = 47 then [] else c :: headL r
def tailL : List UInt8 → List UInt8
  | [] => []
  | c :: r => if c = 47 then r else tailL r

theorem tail_len : ∀ r : List UInt8, (tailL r).length ≤ r.length
  | [] => Nat.le_refl _
  | c :: r => by
    unfold tailL
    split
    · simp
    · have := tail_len r; simp only [List.length_cons]; omega
theorem tail_less (r : List UInt8) (h : r ≠ []) : (tailL r).length < r.length := by
  cases r with
  | nil => exact absurd rfl h
  | cons c r =>
    unfold tailL
    split
    · simp
    · have := tail_len r; simp only [List.length_cons]; omega
theorem head_len : ∀ r : List UInt8, (headL r).length ≤ r.length
  | [] => Nat.le_refl _
  | c :: r => by
    unfold headL
    split
    · simp
    · have := head_len r; simp only [List.length_cons]; omega

theorem go_step : ∀ (r cur : List UInt8), partsGo cur r = (if cur ++ headL r = [] then [] else [cur ++ headL r]) ++ partsL (tailL r)
  | [], cur => by simp [partsGo, headL, tailL, partsL]
  | c :: r, cur => by
    by_cases hc : c = 47
    · subst hc
      by_cases h : cur = []
      · simp [partsGo, headL, tailL, partsL, h]
      · simp [partsGo, headL, tailL, partsL, h]
    · have ih := go_step r (cur ++ [c])
      simp only [partsGo, headL, tailL, if_neg hc]
      rw [ih]
      simp
theorem parts_step (r : List UInt8) : partsL r = (if headL r = [] then [] else [headL r]) ++ partsL (tailL r) := go_step r []

theorem cut_none : ∀ (r : List UInt8), Lib.indexByte r 47 = -1 → headL r = r ∧ tailL r = []
  | [], _ => ⟨rfl, rfl⟩
  | c :: r, h => by
    have hn := Lib.indexByte_none h
    have hc : c ≠ 47 := fun e => hn 0 (by rw [e]; rfl)
    have hr : Lib.indexByte r 47 = -1 := by
      unfold Lib.indexByte at h
      rw [if_neg (by simpa using hc)] at h
      split at h
      · rename_i h1; simpa using h1
      · have := Lib.indexByte_ge r 47; omega
    have ih := cut_none r hr
    simp only [headL, tailL, if_neg hc]
    exact ⟨by rw [ih.1], ih.2⟩
theorem cut_at : ∀ (r : List UInt8) (i : Nat), Lib.indexByte r 47 = (i : Int) → i < r.length ∧ headL r = r.take i ∧ tailL r = r.drop (i + 1)
  | [], i, h => by
    simp only [Lib.indexByte] at h
    omega
  | c :: r, i, h => by
    unfold Lib.indexByte at h
    by_cases hc : c = 47
    · rw [if_pos (by simpa using hc)] at h
      obtain rfl : i = 0 := by omega
      simp [headL, tailL, hc]
    · rw [if_neg (by simpa using hc)] at h
      split at h
      · omega
      · rename_i hne
        have hge := Lib.indexByte_ge r 47
        have hne' : Lib.indexByte r 47 ≠ -1 := fun e => hne (by simpa using e)
        obtain ⟨j, rfl⟩ : ∃ j, i = j + 1 := ⟨i - 1, by omega⟩
        have ih := cut_at r j (by push_cast at h; omega)
        simp only [headL, tailL, if_neg hc]
        refine ⟨by simp only [List.length_cons]; omega, by rw [ih.2.1]; rfl, by rw [ih.2.2]; rfl⟩

theorem index_cases (r : List UInt8) : Lib.indexByte r 47 = -1 ∨ ∃ i : Nat, Lib.indexByte r 47 = (i : Int) := by
  have := Lib.indexByte_ge r 47
  by_cases h : Lib.indexByte r 47 = -1
  · exact Or.inl h
  · exact Or.inr ⟨(Lib.indexByte r 47).toNat, by omega⟩

set_option maxHeartbeats 1000000 in
theorem lite_any (s : ByteArray) (c : Int) (w : World) :
    Calls Tryz.prog 50 #[.string s, .int .u8 c] w fun e w' => e = .returned (.int .i64 (Lib.indexByte s.data.toList c.toNat.toUInt8)) ∧ w = w' := by
  go_enter Tryz.func50, Tryz.ntmps50
  go_wp2_with fail
  rw [run_callFunc_extern Tryz.func71 (by kernel_rfl) (by kernel_rfl) (by kernel_rfl) (e := Extern.BytealgIndexByte.indexByte) (by kernel_rfl), Lib.run_indexByteString]
  simp only [Result.andThen]
  rw [Oper.upon_value]
  go_wp2_with fail
  go_ret
  exact ⟨rfl, rfl⟩

set_option maxHeartbeats 1000000 in
theorem ibyte_any (s : ByteArray) (c : Int) (w : World) :
    Calls Tryz.prog 28 #[.string s, .int .u8 c] w fun e w' => e = .returned (.int .i64 (Lib.indexByte s.data.toList c.toNat.toUInt8)) ∧ w = w' := by
  go_enter Tryz.func28, Tryz.ntmps28
  go_wp2_with fail
  refine (lite_any _ _ _).mono ?_
  rintro e w' ⟨rfl, rfl⟩
  go_wp2_with fail
  go_ret
  exact ⟨rfl, rfl⟩

set_option maxHeartbeats 1000000 in
theorem index_slash (s : ByteArray) (w : World) :
    Calls Tryz.prog 99 #[.string s, .string ⟨#[47]⟩] w fun e w' => e = .returned (.int .i64 (Lib.indexByte s.data.toList 47)) ∧ w = w' := by
  go_enter Tryz.func99, Tryz.ntmps99
  go_wp2_with (go_at_call 50; refine (lite_any _ _ _).mono ?_; rintro e w' ⟨rfl, rfl⟩)
  · rename_i h
    go_ret
    refine ⟨?_, rfl⟩
    have e : s.data.toList = [47] := by
      have h' := beq_iff_eq.1 h
      rw [ByteArray.toList_eq] at h'
      exact h'.symm
    rw [e]
    rfl
  · go_ret
    exact ⟨rfl, rfl⟩
end Go.Proofs.YtogheigpcppeiaaGreat

namespace Go.Proofs.YtogheigpcppeiaaGreat
set_option maxRecDepth 100000
open Go Go.RowKit

/-- A world that differs from another in how often order was drawn alone. -/
def Drawn (w w' : World) : Prop := ∃ n, w' = w.drewN n

theorem cut_strs (s : ByteArray) (i : Nat) (h : Lib.indexByte s.data.toList 47 = (i : Int)) :
    Value.string (s.extract 0 i) = .string ⟨(headL s.data.toList).toArray⟩ ∧ Value.string (s.extract (i + 1) s.size) = .string ⟨(tailL s.data.toList).toArray⟩ := by
  obtain ⟨_, h1, h2⟩ := cut_at _ _ h
  rw [extract_val, extract_val, h1, h2]
  refine ⟨rfl, ?_⟩
  unfold strv
  rw [List.take_of_length_le (by rw [size_list]; exact Nat.le_refl _)]

set_option maxRecDepth 100000 in
set_option maxHeartbeats 2000000 in
theorem litecut_any (s : ByteArray) (hs : s.size ≤ 1073741824) (w : World) :
    Calls Tryz.prog 98 #[.string s, .string ⟨#[47]⟩] w fun e w' => (∃ b, e = .returned (.tuple #[.string ⟨(headL s.data.toList).toArray⟩, .string ⟨(tailL s.data.toList).toArray⟩, .bool b])) ∧ Drawn w w' := by
  rcases index_cases s.data.toList with hix | ⟨i, hix⟩
  · obtain ⟨h1, h2⟩ := cut_none _ hix
    rw [h1, h2]
    have HI := Lib.hid hix
    clear hix h1 h2
    go_enter Tryz.func98, Tryz.ntmps98
    go_wp2_with (go_at_call 99; refine (index_slash _ _).mono ?_; rintro e w' ⟨rfl, rfl⟩; rw [HI.out])
    go_ret3
    exact ⟨⟨false, rfl⟩, 0, rfl⟩
  · obtain ⟨hi, -, -⟩ := cut_at _ _ hix
    rw [size_list] at hi
    obtain ⟨h1, h2⟩ := cut_strs s i hix
    rw [← h1, ← h2]
    have c1 : (0 : Int) ≤ ↑i := by omega
    have c2 : (↑i : Int) ≤ ↑s.size := by omega
    have c3 : (0 : Int) ≤ ↑i + 1 := by omega
    have c4 : (↑i + 1 : Int) ≤ ↑s.size := by omega
    have HI := Lib.hid hix
    clear hix h1 h2
    go_enter Tryz.func98, Tryz.ntmps98
    go_wp2_with (go_at_call 99; refine (index_slash _ _).mono ?_; rintro e w' ⟨rfl, rfl⟩; rw [HI.out])
    go_region
    go_wp2_with fail
    go_ret3
    exact ⟨⟨true, rfl⟩, 1, rfl⟩

set_option maxHeartbeats 1000000 in
theorem cut_any (s : ByteArray) (hs : s.size ≤ 1073741824) (w : World) :
    Calls Tryz.prog 96 #[.string s, .string ⟨#[47]⟩] w fun e w' => (∃ b, e = .returned (.tuple #[.string ⟨(headL s.data.toList).toArray⟩, .string ⟨(tailL s.data.toList).toArray⟩, .bool b])) ∧ Drawn w w' := by
  go_enter Tryz.func96, Tryz.ntmps96
  go_wp2_with (go_at_call 98; refine (litecut_any _ hs _).mono ?_; rintro e w' ⟨⟨b, rfl⟩, hd⟩)
  go_ret3
  exact ⟨⟨b, rfl⟩, hd⟩
end Go.Proofs.YtogheigpcppeiaaGreat

namespace Go.Proofs.YtogheigpcppeiaaGreat
set_option maxRecDepth 100000
open Go Go.RowKit

theorem str_eta (s : ByteArray) (l : List UInt8) (h : s.data.toList = l) : Value.string s = .string ⟨l.toArray⟩ := by
  subst h
  rfl
theorem list_ne (s : ByteArray) (h : 0 < s.size) : s.data.toList ≠ [] := by
  intro e
  have := size_list s
  rw [e] at this
  simp at this
  omega
theorem last_byte (s : ByteArray) (h : 0 < s.size) : s.data.toList.getLast? = some (s[s.size - 1]'(by omega)) := by
  rw [List.getLast?_eq_getElem?, size_list, List.getElem?_eq_getElem (by rw [size_list]; omega)]
  rfl
theorem cat_two (a b : ByteArray) : (a ++ b).data.toList = a.data.toList ++ b.data.toList := by
  rcases a with ⟨⟨x⟩⟩
  rcases b with ⟨⟨y⟩⟩
  rw [ByteArray.mk_append_mk]

theorem pre_eq (s : ByteArray) : ((s.extract 0 1).toList == [47]) = wholeL s.data.toList := by
  rw [ByteArray.toList_eq, extract_list]
  cases h : s.data.toList with
  | nil => rfl
  | cons c r =>
    simp only [wholeL, List.take_succ_cons, List.take_zero, List.drop_zero]
    by_cases hc : c = 47 <;> simp [hc]
def endL (l : List UInt8) : Bool := l.getLast? == some 47
theorem suf_eq (s : ByteArray) : ((s.extract (s.size - 1) s.size).toList == [47]) = endL s.data.toList := by
  rw [ByteArray.toList_eq, extract_list, ← size_list, List.take_length]
  unfold endL
  by_cases h : s.data.toList = []
  · rw [h]
    rfl
  · obtain ⟨L, x, hx⟩ : ∃ L x, s.data.toList = L ++ [x] := ⟨s.data.toList.dropLast, s.data.toList.getLast h, (List.dropLast_concat_getLast h).symm⟩
    rw [hx]
    simp only [List.length_append, List.length_cons, List.length_nil, Nat.zero_add, Nat.add_sub_cancel, List.drop_left, List.getLast?_concat]
    by_cases hc : x = 47 <;> simp [hc]

theorem none_pre (s : ByteArray) (h : ¬ 1 ≤ s.size) : wholeL s.data.toList = false := by
  have h0 : s.data.toList.length = 0 := by rw [size_list]; omega
  rw [List.length_eq_zero_iff.1 h0]
  rfl
theorem none_suf (s : ByteArray) (h : ¬ 1 ≤ s.size) : endL s.data.toList = false := by
  have h0 : s.data.toList.length = 0 := by rw [size_list]; omega
  rw [List.length_eq_zero_iff.1 h0]
  rfl

set_option maxHeartbeats 1000000 in
theorem litepre_any (s : ByteArray) (w : World) : Calls Tryz.prog 90 #[.string s, .string ⟨#[47]⟩] w fun e w' => e = .returned (.bool (wholeL s.data.toList)) ∧ w = w' := by
  by_cases h : 1 ≤ s.size
  · rw [← pre_eq]
    go_enter Tryz.func90, Tryz.ntmps90
    go_wp2_with fail
    go_ret
    exact ⟨rfl, rfl⟩
  · rw [none_pre s h]
    obtain h0 : s.size = 0 := by omega
    go_enter Tryz.func90, Tryz.ntmps90
    go_wp2_with fail
    go_ret
    exact ⟨rfl, rfl⟩
set_option maxHeartbeats 1000000 in
theorem litesuf_any (s : ByteArray) (hs : s.size ≤ 1073741824) (w : World) : Calls Tryz.prog 75 #[.string s, .string ⟨#[47]⟩] w fun e w' => e = .returned (.bool (endL s.data.toList)) ∧ w = w' := by
  by_cases h : 1 ≤ s.size
  · rw [← suf_eq]
    go_enter Tryz.func75, Tryz.ntmps75
    go_wp2_with fail
    go_ret
    exact ⟨rfl, rfl⟩
  · rw [none_suf s h]
    obtain h0 : s.size = 0 := by omega
    go_enter Tryz.func75, Tryz.ntmps75
    go_wp2_with fail
    go_ret
    exact ⟨rfl, rfl⟩

set_option maxHeartbeats 1000000 in
theorem hassuf_known (s : ByteArray) (hs : s.size ≤ 1073741824) (b : Bool) (h : endL s.data.toList = b) (w : World) : Calls Tryz.prog 52 #[.string s, .string ⟨#[47]⟩] w fun e w' => e = .returned (.bool b) ∧ w = w' := by
  subst h
  go_enter Tryz.func52, Tryz.ntmps52
  go_wp2_with (go_at_call 75; refine (litesuf_any _ hs _).mono ?_; rintro e w' ⟨rfl, rfl⟩)
  go_ret
  exact ⟨rfl, rfl⟩
end Go.Proofs.YtogheigpcppeiaaGreat

namespace Go.Proofs.YtogheigpcppeiaaGreat
set_option maxRecDepth 100000
open Go Go.RowKit

theorem none_of (l : List UInt8) (c : UInt8) : decide (Lib.indexByte l c < 0) = l.all (fun x => x != c) := by
  induction l with
  | nil => rfl
  | cons b r ih =>
    have hge := Lib.indexByte_ge r c
    unfold Lib.indexByte
    by_cases hb : b = c
    · simp [hb]
    · have e1 : (b == c) = false := by simpa using hb
      rw [e1]
      simp only [List.all_cons, bne, e1, Bool.not_false, Bool.true_and]
      rw [show (r.all fun x => !(x == c)) = r.all (fun x => x != c) from rfl, ← ih]
      by_cases hr : Lib.indexByte r c = -1
      · simp [hr]
      · have : ¬ Lib.indexByte r c + 1 < 0 := by omega
        have h2 : ¬ Lib.indexByte r c < 0 := by omega
        simp [hr, this, h2]
theorem name_eq (l : List UInt8) : nameOkL l = (!l.isEmpty && decide (l.length ≤ 64) && !(l == [46]) && !(l == [46, 46]) && decide (Lib.indexByte l 47 < 0) && decide (Lib.indexByte l 0 < 0)) := by
  unfold nameOkL
  rw [none_of, none_of]
  have : l.all (fun c => c != 47 && c != 0) = (l.all (fun x => x != 47) && l.all (fun x => x != 0)) := by
    induction l with
    | nil => rfl
    | cons b r ih =>
      simp only [List.all_cons, ih]
      cases (b != 47) <;> cases (b != 0) <;> simp
  rw [this]
  cases (l.all fun x => x != 47) <;> cases (l.all fun x => x != 0) <;> simp

theorem ibyte_known (s : ByteArray) (c : Int) (i : Int) (h : Lib.indexByte s.data.toList c.toNat.toUInt8 = i) (w : World) :
    Calls Tryz.prog 28 #[.string s, .int .u8 c] w fun e w' => e = .returned (.int .i64 i) ∧ w = w' := by
  subst h
  exact ibyte_any s c w

set_option maxHeartbeats 2000000 in
theorem name_any (s : ByteArray) (w : World) : Calls Tryz.prog 58 #[.string s] w fun e w' => e = .returned (.bool (nameOkL s.data.toList)) ∧ w = w' := by
  have hlen := size_list s
  obtain ⟨i1, hi1⟩ : ∃ i, Lib.indexByte s.data.toList (47 : Int).toNat.toUInt8 = i := ⟨_, rfl⟩
  obtain ⟨i0, hi0⟩ : ∃ i, Lib.indexByte s.data.toList (0 : Int).toNat.toUInt8 = i := ⟨_, rfl⟩
  have hfin : nameOkL s.data.toList = (!s.toList.isEmpty && decide (s.size ≤ 64) && !(s.toList == [46]) && !(s.toList == [46, 46]) && decide (i1 < 0) && decide (i0 < 0)) := by
    rw [name_eq, hlen, ByteArray.toList_eq, ← hi1, ← hi0]
    rfl
  have H1 := Lib.hid hi1
  have H0 := Lib.hid hi0
  have HF := Lib.hid hfin
  clear hi1 hi0 hfin hlen
  cases he : s.toList.isEmpty <;> cases h1 : (s.toList == [46]) <;> cases h2 : (s.toList == [46, 46]) <;> by_cases h64 : s.size ≤ 64 <;> by_cases hn1 : i1 < 0 <;> by_cases hn0 : i0 < 0
  all_goals
    go_enter Tryz.func58, Tryz.ntmps58
    go_wp2_with (first | (go_at_call 28; refine (ibyte_known _ _ _ (by first | exact H1.out | exact H0.out) _).mono ?_; rintro e w' ⟨rfl, rfl⟩) | fail)
    go_ret
    exact ⟨by rw [HF.out, he, h1, h2]; simp [h64, hn1, hn0], rfl⟩
theorem lname_known (s : List UInt8) (v : Bool) (h : nameOkL s = v) (w : World) : Calls Tryz.prog 58 #[.string ⟨s.toArray⟩] w fun e w' => e = .returned (.bool v) ∧ w = w' := by
  subst h
  exact name_any ⟨s.toArray⟩ w
end Go.Proofs.YtogheigpcppeiaaGreat

namespace Go.Proofs.YtogheigpcppeiaaGreat
set_option maxRecDepth 100000
open Go Go.RowKit

/-- A name: not empty, without a slash. -/
def NameL (x : List UInt8) : Prop := x ≠ [] ∧ ∀ c ∈ x, c ≠ 47
theorem go_names : ∀ (l cur : List UInt8), (∀ c ∈ cur, c ≠ 47) → ∀ x ∈ partsGo cur l, NameL x
  | [], cur, hc, x, hx => by
    unfold partsGo at hx
    split at hx
    · cases hx
    · rename_i h
      rw [List.mem_singleton] at hx
      subst hx
      exact ⟨h, hc⟩
  | c :: r, cur, hc, x, hx => by
    unfold partsGo at hx
    split at hx
    · split at hx
      · exact go_names r [] (fun _ h => by cases h) x hx
      · rename_i h
        rw [List.mem_cons] at hx
        rcases hx with rfl | hx
        · exact ⟨h, hc⟩
        · exact go_names r [] (fun _ h => by cases h) x hx
    · rename_i h
      refine go_names r (cur ++ [c]) (fun d hd => ?_) x hx
      rw [List.mem_append, List.mem_singleton] at hd
      rcases hd with hd | rfl
      · exact hc d hd
      · exact h
theorem parts_names (l : List UInt8) : ∀ x ∈ partsL l, NameL x := go_names l [] (fun _ h => by cases h)
theorem go_slash (b : List UInt8) : ∀ (a cur : List UInt8), partsGo cur (a ++ 47 :: b) = partsGo cur a ++ partsL b
  | [], cur => by
    simp only [List.nil_append, partsGo, if_true, partsL]
    split
    · rfl
    · rfl
  | c :: r, cur => by
    simp only [List.cons_append]
    rw [partsGo, partsGo]
    split
    · split
      · exact go_slash b r []
      · rw [go_slash b r []]; rfl
    · exact go_slash b r (cur ++ [c])
theorem parts_slash (a b : List UInt8) : partsL (a ++ 47 :: b) = partsL a ++ partsL b := go_slash b a []
theorem go_name : ∀ (x cur : List UInt8), (∀ c ∈ x, c ≠ 47) → cur ++ x ≠ [] → partsGo cur x = [cur ++ x]
  | [], cur, _, h => by
    rw [partsGo, if_neg (by simpa using h)]
    simp
  | c :: r, cur, hx, h => by
    rw [partsGo, if_neg (hx c (List.mem_cons_self ..)), go_name r (cur ++ [c]) (fun d hd => hx d (List.mem_cons_of_mem _ hd)) (by simp)]
    simp
theorem parts_name (x : List UInt8) (h : NameL x) : partsL x = [x] := by
  have := go_name x [] h.2 (by simpa using h.1)
  simpa [partsL] using this
theorem parts_join : ∀ (L : List (List UInt8)), (∀ x ∈ L, NameL x) → partsL (joinL L) = L
  | [], _ => by simp [joinL, partsL, partsGo]
  | [x], h => by simp only [joinL]; exact parts_name x (h x (List.mem_singleton.2 rfl))
  | x :: y :: r, h => by
    simp only [joinL]
    rw [parts_slash, parts_name x (h x (List.mem_cons_self ..)), parts_join (y :: r) (fun z hz => h z (List.mem_cons_of_mem _ hz))]
    rfl
theorem parts_root (L : List (List UInt8)) (h : ∀ x ∈ L, NameL x) : partsL (47 :: joinL L) = L := by
  have := parts_slash [] (joinL L)
  rw [List.nil_append] at this
  rw [this, parts_join L h]
  simp [partsL, partsGo]
end Go.Proofs.YtogheigpcppeiaaGreat

namespace Go.Proofs.YtogheigpcppeiaaGreat
set_option maxRecDepth 100000
open Go Go.RowKit

/-- There, and not free. -/
def liveB (L : List Ino) (k : Int) : Bool := thereB L k && (nodeAt L k).kind != 0
def kindL (L : List Ino) (k : Int) : Int := if thereB L k then (nodeAt L k).kind else 0
/-- Mode m has all bits of what. -/
def bitsB (m what : Int) : Bool := (what / 4 == 0 || m / 4 == 1) && (what / 2 % 2 == 0 || m / 2 % 2 == 1) && (what % 2 == 0 || m % 2 == 1)
def mayL (L : List Ino) (k what : Int) : Bool := decide (0 ≤ what) && decide (what ≤ 7) && liveB L k && bitsB (nodeAt L k).mode what

def stepW (L : List Ino) (a : Int) (x : List UInt8) : Int × Int :=
  if dirB L a = false then (0, 20) else if mayL L a 1 = false then (0, 13) else if x = [46] then (a, 0) else if x = [46, 46] then ((nodeAt L a).up, 0)
  else if kidL L a x < 0 then (0, 2) else (kidL L a x, 0)

/-- A way's names up to the next link that is followed. -/
def wayIn (L : List Ino) (last : Bool) (f : List (List UInt8) → Int → Int × Int) : List (List UInt8) → Int → Int × Int
  | [], a => (a, 0)
  | x :: r, a => if (stepW L a x).2 ≠ 0 then (0, (stepW L a x).2) else
    if (nodeAt L (stepW L a x).1).kind ≠ 3 ∨ (r = [] ∧ last = false) then wayIn L last f r (stepW L a x).1
    else f (partsL (nodeAt L (stepW L a x).1).data ++ r) (if wholeL (nodeAt L (stepW L a x).1).data then 0 else a)
/-- A way on which n links more may be followed. -/
def wayW (L : List Ino) (last : Bool) : Nat → List (List UInt8) → Int → Int × Int
  | 0 => wayIn L last (fun _ _ => (0, 40))
  | n + 1 => wayIn L last (wayW L last n)
theorem wayW_nil (L : List Ino) (last : Bool) (n : Nat) (a : Int) : wayW L last n [] a = (a, 0) := by cases n <;> rfl
theorem wayW_err (L : List Ino) (last : Bool) (n : Nat) (x : List UInt8) (r : List (List UInt8)) (a : Int) (h : (stepW L a x).2 ≠ 0) : wayW L last n (x :: r) a = (0, (stepW L a x).2) := by
  cases n <;> (unfold wayW wayIn; rw [if_pos h])
theorem wayW_on (L : List Ino) (last : Bool) (n : Nat) (x : List UInt8) (r : List (List UInt8)) (a k : Int) (h : stepW L a x = (k, 0)) (h2 : (nodeAt L k).kind ≠ 3 ∨ (r = [] ∧ last = false)) : wayW L last n (x :: r) a = wayW L last n r k := by
  cases n with
  | zero => show wayIn L last _ (x :: r) a = _; rw [wayIn, h]; simp only [ne_eq, not_true, if_false]; rw [if_pos h2]; rfl
  | succ n => show wayIn L last _ (x :: r) a = _; rw [wayIn, h]; simp only [ne_eq, not_true, if_false]; rw [if_pos h2]; rfl
theorem wayW_loop (L : List Ino) (last : Bool) (x : List UInt8) (r : List (List UInt8)) (a k : Int) (h : stepW L a x = (k, 0)) (h2 : ¬ ((nodeAt L k).kind ≠ 3 ∨ (r = [] ∧ last = false))) : wayW L last 0 (x :: r) a = (0, 40) := by
  show wayIn L last _ (x :: r) a = _
  rw [wayIn, h]; simp only [ne_eq, not_true, if_false]; rw [if_neg h2]
theorem wayW_link (L : List Ino) (last : Bool) (n : Nat) (x : List UInt8) (r : List (List UInt8)) (a k : Int) (h : stepW L a x = (k, 0)) (h2 : ¬ ((nodeAt L k).kind ≠ 3 ∨ (r = [] ∧ last = false))) :
    wayW L last (n + 1) (x :: r) a = wayW L last n (partsL (nodeAt L k).data ++ r) (if wholeL (nodeAt L k).data then 0 else a) := by
  show wayIn L last _ (x :: r) a = _
  rw [wayIn, h]; simp only [ne_eq, not_true, if_false]; rw [if_neg h2]

def longB (p : List UInt8) : Bool := decide (1024 < p.length) || (partsL p).any fun x => decide (64 < x.length)
def badW (L : List Ino) (cwd : Int) (p : List UInt8) : Int := if p = [] ∨ dirB L cwd = false then 2 else if longB p then 36 else 0
def beginW (cwd : Int) (p : List UInt8) : Int := if wholeL p then 0 else cwd
def walkW (L : List Ino) (cwd : Int) (p : List UInt8) (follow : Bool) : Int × Int :=
  if badW L cwd p ≠ 0 then (0, badW L cwd p) else
    if (wayW L (follow || endL p) 8 (partsL p) (beginW cwd p)).2 ≠ 0 then (0, (wayW L (follow || endL p) 8 (partsL p) (beginW cwd p)).2) else
      if endL p = true ∧ dirB L (wayW L (follow || endL p) 8 (partsL p) (beginW cwd p)).1 = false then (0, 20) else ((wayW L (follow || endL p) 8 (partsL p) (beginW cwd p)).1, 0)
def parentW (L : List Ino) (cwd : Int) (p : List UInt8) : Int × List UInt8 × Int :=
  if badW L cwd p ≠ 0 then (0, [], badW L cwd p) else if partsL p = [] then (0, [], 17) else
    if (wayW L true 8 (partsL p).dropLast (beginW cwd p)).2 ≠ 0 then (0, [], (wayW L true 8 (partsL p).dropLast (beginW cwd p)).2) else
      if dirB L (wayW L true 8 (partsL p).dropLast (beginW cwd p)).1 = false then (0, [], 20) else ((wayW L true 8 (partsL p).dropLast (beginW cwd p)).1, (partsL p).getLastD [], 0)

theorem count_parts (l : List UInt8) : (partsL l).length ≤ l.length + 1 := by
  have h : ∀ L : List (List UInt8), L.length ≤ total L := by
    intro L
    induction L with
    | nil => simp [total]
    | cons x r ih => simp only [List.length_cons, total]; omega
  exact Nat.le_trans (h _) (total_parts l)

/-! ### Fit trees -/

theorem live_of_dir {L : List Ino} {k : Int} (h : dirB L k = true) : liveB L k = true := by
  have h2 := node_kind_of h
  unfold dirB at h
  unfold liveB
  rw [Bool.and_eq_true] at h ⊢
  exact ⟨h.1, by rw [h2]; rfl⟩
theorem live_there {L : List Ino} {k : Int} (h : liveB L k = true) : thereB L k = true := by
  unfold liveB at h
  rw [Bool.and_eq_true] at h
  exact h.1
theorem up_dir {L : List Ino} {m b : Int} (hF : FitP L m b) {k : Int} (h : dirB L k = true) : dirB L (nodeAt L k).up = true := ups_of hF 1 k h

/-- What a name leads to is not free. -/
theorem kid_live {L : List Ino} {m b : Int} (hF : FitP L m b) {d : Int} {x : List UInt8} (h : 0 ≤ kidL L d x) : liveB L (kidL L d x) = true := by
  unfold kidL at h ⊢
  by_cases hd : dirB L d = true
  · rw [if_pos hd] at h ⊢
    obtain ⟨z, rfl, hz⟩ := dir_lt hd
    rw [node_nat L z hz] at h ⊢
    obtain ⟨e, he, hex⟩ := findK_has _ _ h
    obtain ⟨i, hi, rfl⟩ := List.getElem_of_mem he
    have hk := findK_mem (kids_rise hF.ins z hz).2 i hi
    rw [← hex, hk] at h ⊢
    have ht := (name_of hF.ins hz he).2
    obtain ⟨u, hu, hul⟩ := there_nat ht
    unfold liveB
    rw [ht, Bool.true_and]
    rw [hu, node_nat L u hul]
    cases hk0 : (L[u].kind != 0) with
    | true => rfl
    | false =>
      exfalso
      have hk0' : L[u].kind = 0 := by simpa [bne] using hk0
      have h1 := (hF.names.2 u hul).2
      rw [countL_get L (kids_pos (kids_there hF.ins)) u hul] at h1
      unfold MayHave at h1
      rw [if_pos (Or.inr hk0')] at h1
      have h2 := names_pos (mem_kidsOf.2 ⟨z, hz, he⟩)
      rw [hu] at h2
      have h3 : namesOf (kidsOf L) (u : Int) = 0 := Int.ofNat.inj h1
      omega
  · rw [if_neg hd] at h
    exact absurd h (by decide)

theorem step_ok {L : List Ino} {m b : Int} (hF : FitP L m b) {a : Int} {x : List UInt8} (h : (stepW L a x).2 = 0) : liveB L (stepW L a x).1 = true := by
  unfold stepW at h ⊢
  cases hd : dirB L a with
  | false => rw [hd, if_pos rfl] at h; cases h
  | true =>
    rw [hd, if_neg (by simp)] at h
    rw [if_neg (by simp)]
    cases hm : mayL L a 1 with
    | false => rw [hm, if_pos rfl] at h; cases h
    | true =>
      rw [hm, if_neg (by simp)] at h
      rw [if_neg (by simp)]
      by_cases h1 : x = [46]
      · rw [if_pos h1]; exact live_of_dir hd
      · rw [if_neg h1] at h ⊢
        by_cases h2 : x = [46, 46]
        · rw [if_pos h2]; exact live_of_dir (up_dir hF hd)
        · rw [if_neg h2] at h ⊢
          by_cases h3 : kidL L a x < 0
          · rw [if_pos h3] at h; cases h
          · rw [if_neg h3]
            exact kid_live hF (by omega)
theorem step_err (L : List Ino) (a : Int) (x : List UInt8) (h : (stepW L a x).2 ≠ 0) : (stepW L a x).1 = 0 := by
  unfold stepW at h ⊢
  split
  · rfl
  · split
    · rfl
    · rename_i h1 h2
      rw [if_neg h1, if_neg h2] at h
      split
      · rename_i h3; rw [if_pos h3] at h; exact absurd rfl h
      · rename_i h3
        rw [if_neg h3] at h
        split
        · rename_i h4; rw [if_pos h4] at h; exact absurd rfl h
        · rename_i h4
          rw [if_neg h4] at h
          split
          · rfl
          · rename_i h5; rw [if_neg h5] at h; exact absurd rfl h
theorem step_range (L : List Ino) (a : Int) (x : List UInt8) : 0 ≤ (stepW L a x).2 ∧ (stepW L a x).2 ≤ 20 := by
  unfold stepW
  repeat' split
  all_goals exact ⟨by simp, by simp⟩

theorem link_data {L : List Ino} (hI : AllFit L) {k : Int} (ht : thereB L k = true) : (nodeAt L k).kind = 3 → (nodeAt L k).data.length ≤ 1024 ∧ (nodeAt L k).data ≠ [] := by
  obtain ⟨u, rfl, hu⟩ := there_nat ht
  rw [node_nat L u hu]
  intro h3
  have h := (hI u hu).1
  unfold aloneB at h
  rw [if_neg (show ¬ L[u].kind = 0 by omega)] at h
  split at h
  · cases h
  · rename_i hm
    rw [if_neg (show ¬ L[u].kind = 1 by omega)] at h
    try rw [if_pos h3] at h
    simp only [Bool.and_eq_true, decide_eq_true_eq, Bool.not_eq_true'] at h
    exact ⟨h.2, by
      have := h.1.2
      intro e
      rw [e] at this
      cases this⟩
theorem mode_range {L : List Ino} (hI : AllFit L) {k : Int} (ht : thereB L k = true) : 0 ≤ (nodeAt L k).mode ∧ (nodeAt L k).mode ≤ 7 := by
  obtain ⟨u, rfl, hu⟩ := there_nat ht
  rw [node_nat L u hu]
  have h := (hI u hu).1
  unfold aloneB at h
  by_cases h0 : L[u].kind = 0
  · rw [if_pos h0] at h
    simp only [Bool.and_eq_true, decide_eq_true_eq] at h
    have := h.1.1.1.1
    omega
  · rw [if_neg h0] at h
    split at h
    · cases h
    · omega

/-- What a way's names hold of a tree's inodes: where it ends is not free. -/
theorem way_in {L : List Ino} {m b : Int} (hF : FitP L m b) (last : Bool) (f : List (List UInt8) → Int → Int × Int) (hf : ∀ N a, liveB L a = true → (f N a).2 = 0 → liveB L (f N a).1 = true ∧ (last = true → (N = [] → (nodeAt L a).kind ≠ 3) → (nodeAt L (f N a).1).kind ≠ 3)) :
    ∀ (N : List (List UInt8)) (a : Int), liveB L a = true → (wayIn L last f N a).2 = 0 → liveB L (wayIn L last f N a).1 = true ∧ (last = true → (N = [] → (nodeAt L a).kind ≠ 3) → (nodeAt L (wayIn L last f N a).1).kind ≠ 3)
  | [], a, ha, _ => ⟨ha, fun _ h => h rfl⟩
  | x :: r, a, ha, h => by
    unfold wayIn at h ⊢
    by_cases h1 : (stepW L a x).2 ≠ 0
    · rw [if_pos h1] at h; exact absurd h h1
    · rw [if_neg h1] at h ⊢
      have hk := step_ok hF (by simpa using h1)
      by_cases h2 : (nodeAt L (stepW L a x).1).kind ≠ 3 ∨ (r = [] ∧ last = false)
      · rw [if_pos h2] at h ⊢
        obtain ⟨i1, i2⟩ := way_in hF last f hf r _ hk h
        refine ⟨i1, fun hl _ => i2 hl fun hr => ?_⟩
        rcases h2 with h2 | ⟨_, h2⟩
        · exact h2
        · rw [hl] at h2; cases h2
      · rw [if_neg h2] at h ⊢
        have hd : dirB L a = true := by
          cases hd : dirB L a with
          | true => rfl
          | false =>
            exfalso
            apply h1
            unfold stepW
            rw [hd, if_pos rfl]
            decide
        have hb : liveB L (if wholeL (nodeAt L (stepW L a x).1).data then 0 else a) = true := by
          split
          · exact live_of_dir hF.root
          · exact ha
        obtain ⟨i1, i2⟩ := hf _ _ hb h
        refine ⟨i1, fun hl _ => i2 hl fun _ => ?_⟩
        split
        · rw [node_kind_of hF.root]; decide
        · rw [node_kind_of hd]; decide
theorem way_ends {L : List Ino} {m b : Int} (hF : FitP L m b) (last : Bool) : ∀ (n : Nat) (N : List (List UInt8)) (a : Int), liveB L a = true → (wayW L last n N a).2 = 0 → liveB L (wayW L last n N a).1 = true ∧ (last = true → (N = [] → (nodeAt L a).kind ≠ 3) → (nodeAt L (wayW L last n N a).1).kind ≠ 3)
  | 0, N, a, ha, h => way_in hF last _ (fun _ _ _ h => absurd h (by decide)) N a ha h
  | n + 1, N, a, ha, h => way_in hF last _ (fun N' a' h1 h2 => way_ends hF last n N' a' h1 h2) N a ha h

theorem way_err0 (L : List Ino) (last : Bool) (f : List (List UInt8) → Int → Int × Int) (hf : ∀ N a, (f N a).2 ≠ 0 → (f N a).1 = 0) : ∀ (N : List (List UInt8)) (a : Int), (wayIn L last f N a).2 ≠ 0 → (wayIn L last f N a).1 = 0
  | [], a, h => absurd rfl h
  | x :: r, a, h => by
    unfold wayIn at h ⊢
    split
    · rfl
    · rename_i h1
      rw [if_neg h1] at h
      split
      · rename_i h2; rw [if_pos h2] at h; exact way_err0 L last f hf r _ h
      · rename_i h2; rw [if_neg h2] at h; exact hf _ _ h

theorem begin_live {L : List Ino} {m b : Int} (hF : FitP L m b) {cwd : Int} {p : List UInt8} (h : badW L cwd p = 0) : dirB L (beginW cwd p) = true := by
  unfold badW at h
  split at h
  · cases h
  · rename_i h1
    unfold beginW
    split
    · exact hF.root
    · cases hd : dirB L cwd with
      | true => rfl
      | false => exact absurd (Or.inr hd) h1

/-- P4.5. -/
theorem walk_ends {L : List Ino} {m b : Int} (hF : FitP L m b) (cwd : Int) (p : List UInt8) : ((walkW L cwd p true).2 ≠ 0 → (walkW L cwd p true).1 = 0) ∧ ((walkW L cwd p true).2 = 0 → liveB L (walkW L cwd p true).1 = true ∧ (nodeAt L (walkW L cwd p true).1).kind ≠ 3) := by
  unfold walkW
  by_cases h1 : badW L cwd p ≠ 0
  · rw [if_pos h1]
    exact ⟨fun _ => rfl, fun h => absurd h h1⟩
  · rw [if_neg h1]
    have hb := begin_live hF (by simpa using h1)
    split
    · rename_i h2
      exact ⟨fun _ => rfl, fun h => absurd h h2⟩
    · rename_i h2
      obtain ⟨i1, i2⟩ := way_ends hF (true || endL p) 8 (partsL p) (beginW cwd p) (live_of_dir hb) (by simpa using h2)
      split
      · exact ⟨fun _ => rfl, fun h => absurd h (by decide)⟩
      · exact ⟨fun h => absurd rfl h, fun _ => ⟨i1, i2 (by simp) (fun _ => by rw [node_kind_of hb]; decide)⟩⟩
end Go.Proofs.YtogheigpcppeiaaGreat

namespace Go.Proofs.YtogheigpcppeiaaGreat
set_option maxRecDepth 100000
open Go Go.RowKit

/-- Names with one more, in its place. -/
def namedL : List (List UInt8 × Int) → List UInt8 → Int → List (List UInt8 × Int)
  | [], s, k => [(s, k)]
  | e :: r, s, k => if Op.bytesLess e.1 s = true then e :: namedL r s k else (s, k) :: (e :: r).filter fun e => e.1 != s

theorem less_or {a b : List UInt8} (h1 : ¬ Op.bytesLess a b = true) (h2 : a ≠ b) : Op.bytesLess b a = true := by
  rcases cmp_cases a b with ⟨-, h⟩ | ⟨-, h⟩ | ⟨-, h⟩
  · exact absurd h h1
  · exact absurd h h2
  · exact h
theorem filter_out {M : List (List UInt8 × Int)} {s : List UInt8} (h : ∀ e ∈ M, e.1 ≠ s) : M.filter (fun e => e.1 != s) = M := List.filter_eq_self.2 fun e he => by simpa using h e he
theorem named_at : ∀ (M : List (List UInt8 × Int)) (s : List UInt8) (k : Int), (∀ e ∈ M, e.1 ≠ s) → ∃ A B, M = A ++ B ∧ namedL M s k = A ++ (s, k) :: B ∧ (∀ e ∈ A, Op.bytesLess e.1 s = true) ∧ ∀ e r, B = e :: r → Op.bytesLess s e.1 = true
  | [], s, k, _ => ⟨[], [], rfl, rfl, (fun _ h => by cases h), (fun _ _ h => by cases h)⟩
  | e :: r, s, k, h => by
    rw [namedL]
    by_cases hl : Op.bytesLess e.1 s = true
    · obtain ⟨A, B, h1, h2, h3, h4⟩ := named_at r s k (fun x hx => h x (List.mem_cons_of_mem _ hx))
      rw [if_pos hl, h2]
      refine ⟨e :: A, B, by rw [h1]; rfl, rfl, fun x hx => ?_, h4⟩
      rcases List.mem_cons.1 hx with rfl | hx
      · exact hl
      · exact h3 x hx
    · rw [if_neg hl, filter_out h]
      refine ⟨[], e :: r, rfl, rfl, (fun _ h => by cases h), fun x y hxy => ?_⟩
      cases hxy
      exact less_or hl (h e List.mem_cons_self)
theorem named_len {M : List (List UInt8 × Int)} {s : List UInt8} (k : Int) (h : ∀ e ∈ M, e.1 ≠ s) : (namedL M s k).length = M.length + 1 := by
  obtain ⟨A, B, h1, h2, -, -⟩ := named_at M s k h
  rw [h2, h1, List.length_append, List.length_append, List.length_cons]
  omega
theorem named_mem {M : List (List UInt8 × Int)} {s : List UInt8} (k : Int) (h : ∀ e ∈ M, e.1 ≠ s) {e : List UInt8 × Int} : e ∈ namedL M s k ↔ e = (s, k) ∨ e ∈ M := by
  obtain ⟨A, B, h1, h2, -, -⟩ := named_at M s k h
  rw [h2, h1, List.mem_append, List.mem_append, List.mem_cons]
  constructor
  · rintro (h | h | h)
    · exact Or.inr (Or.inl h)
    · exact Or.inl h
    · exact Or.inr (Or.inr h)
  · rintro (h | h | h)
    · exact Or.inr (Or.inl h)
    · exact Or.inl h
    · exact Or.inr (Or.inr h)
theorem names_one (e : List UInt8 × Int) (c : Int) : namesOf [e] c = if e.2 = c then 1 else 0 := by rw [names_cons]; rfl
theorem named_names {M : List (List UInt8 × Int)} {s : List UInt8} (k : Int) (h : ∀ e ∈ M, e.1 ≠ s) (c : Int) : namesOf (namedL M s k) c = namesOf M c + (if k = c then 1 else 0) := by
  obtain ⟨A, B, h1, h2, -, -⟩ := named_at M s k h
  rw [h2, h1, names_app, names_app, names_cons]
  show _ + ((if k = c then 1 else 0) + _) = _
  omega

/-! ### Rising names, as pairs -/

theorem rises_pair (M : List (List UInt8 × Int)) : Rises M ↔ M.Pairwise fun a b => Op.bytesLess a.1 b.1 = true := by
  constructor
  · intro h
    rw [List.pairwise_iff_getElem]
    intro i j hi hj hij
    exact h.lt i j hj hij
  · intro h k hk t ht
    subst ht
    exact (List.pairwise_iff_getElem.1 h) t (t + 1) (by omega) hk (by omega)
theorem named_rises {M : List (List UInt8 × Int)} {s : List UInt8} (k : Int) (h : ∀ e ∈ M, e.1 ≠ s) (hR : Rises M) : Rises (namedL M s k) := by
  obtain ⟨A, B, h1, h2, h3, h4⟩ := named_at M s k h
  rw [rises_pair] at hR ⊢
  rw [h1, List.pairwise_append] at hR
  obtain ⟨hA, hB, hAB⟩ := hR
  rw [h2, List.pairwise_append, List.pairwise_cons]
  refine ⟨hA, ⟨fun x hx => ?_, hB⟩, fun a ha x hx => ?_⟩
  · cases B with
    | nil => cases hx
    | cons e r =>
      have he := h4 e r rfl
      rcases List.mem_cons.1 hx with rfl | hx
      · exact he
      · exact less_trans _ _ _ he ((List.pairwise_cons.1 hB).1 x hx)
  · rcases List.mem_cons.1 hx with rfl | hx
    · exact h3 a ha
    · exact hAB a ha x hx

/-! ### One inode put in another's place -/

theorem names_set : ∀ (L : List Ino) (k : Nat) (h : k < L.length) (x : Ino) (c : Int), namesOf (kidsOf (L.set k x)) c + namesOf L[k].kids c = namesOf (kidsOf L) c + namesOf x.kids c
  | y :: r, 0, _, x, c => by
    show namesOf (x.kids ++ kidsOf r) c + namesOf y.kids c = namesOf (y.kids ++ kidsOf r) c + _
    rw [names_app, names_app]
    omega
  | y :: r, k + 1, h, x, c => by
    have ih := names_set r k (Nat.lt_of_succ_lt_succ h) x c
    show namesOf (y.kids ++ kidsOf (r.set k x)) c + namesOf (r[k]'(Nat.lt_of_succ_lt_succ h)).kids c = namesOf (y.kids ++ kidsOf r) c + _
    rw [names_app, names_app]
    omega
theorem usedB_set : ∀ (L : List Ino) (k : Nat) (h : k < L.length) (x : Ino), usedB (L.set k x) + L[k].data.length = usedB L + x.data.length
  | y :: r, 0, _, x => by
    show x.data.length + usedB r + y.data.length = y.data.length + usedB r + _
    omega
  | y :: r, k + 1, h, x => by
    have ih := usedB_set r k (Nat.lt_of_succ_lt_succ h) x
    show y.data.length + usedB (r.set k x) + (r[k]'(Nat.lt_of_succ_lt_succ h)).data.length = y.data.length + usedB r + _
    omega
theorem there_set (L : List Ino) (k : Nat) (x : Ino) (c : Int) : thereB (L.set k x) c = thereB L c := by
  unfold thereB
  rw [List.length_set]

def withKids (y : Ino) (M : List (List UInt8 × Int)) : Ino := { y with kids := M }
/-- A tree in which inode k is x, and the directory d has the name s of it besides. -/
def addL (L : List Ino) (d k : Nat) (s : List UInt8) (x : Ino) : List Ino := (L.set k x).set d (withKids (nodeAt L d) (namedL (nodeAt L d).kids s k))
theorem add_len (L : List Ino) (d k : Nat) (s : List UInt8) (x : Ino) : (addL L d k s x).length = L.length := by unfold addL; rw [List.length_set, List.length_set]
theorem add_get {L : List Ino} {d k : Nat} (hd : d < L.length) (s : List UInt8) (x : Ino) (j : Nat) (hj : j < L.length) :
    (addL L d k s x)[j]'(by rw [add_len]; exact hj) = if d = j then withKids L[d] (namedL L[d].kids s k) else if k = j then x else L[j] := by
  simp only [addL, List.getElem_set, node_nat L d hd]
theorem add_node {L : List Ino} {d k : Nat} (hd : d < L.length) (s : List UInt8) (x : Ino) (j : Nat) (hj : j < L.length) :
    nodeAt (addL L d k s x) (j : Int) = if d = j then withKids L[d] (namedL L[d].kids s k) else if k = j then x else L[j] := by
  rw [node_nat _ j (by rw [add_len]; exact hj)]
  exact add_get hd s x j hj
theorem add_there (L : List Ino) (d k : Nat) (s : List UInt8) (x : Ino) (c : Int) : thereB (addL L d k s x) c = thereB L c := by
  unfold thereB
  rw [add_len]

/-- What is asked of an inode that gets a name more, or is new. -/
structure Adds (L : List Ino) (m b : Int) (d k : Nat) (s : List UInt8) (x : Ino) : Prop where
  fit : FitP L m b
  dlt : d < L.length
  dir : L[d].kind = 2
  klt : k < L.length
  nodir : L[k].kind ≠ 2
  name : nameOkL s = true
  new : ∀ e ∈ L[d].kids, e.1 ≠ s
  room : L[d].kids.length < 1024
  alone : aloneB x = true
  used : x.kind ≠ 0
  kids : x.kids = []
  links : x.links = L[k].links + 1
  up : x.kind = 2 → x.up = d ∧ L[k].kind = 0
  bytes : (usedB L : Int) + x.data.length ≤ b + L[k].data.length

section
variable {L : List Ino} {m b : Int} {d k : Nat} {s : List UInt8} {x : Ino}
theorem Adds.ne (h : Adds L m b d k s x) : d ≠ k := fun e => by
  have h1 := h.dir
  subst e
  exact h.nodir h1
theorem free_kids (hF : FitP L m b) (hk : k < L.length) (h : L[k].kind ≠ 2) : L[k].kids = [] := by
  cases hq : L[k].kids with
  | nil => rfl
  | cons e r => exact absurd (dir_of_kids (hF.ins k hk).1 (by rw [hq]; simp)) h
theorem Adds.names (h : Adds L m b d k s x) (c : Int) : namesOf (kidsOf (addL L d k s x)) c = namesOf (kidsOf L) c + (if (k : Int) = c then 1 else 0) := by
  have h1 := names_set L k h.klt x c
  have hd : d < (L.set k x).length := by rw [List.length_set]; exact h.dlt
  have h2 := names_set (L.set k x) d hd (withKids (nodeAt L d) (namedL (nodeAt L d).kids s k)) c
  have e1 : (L.set k x)[d] = L[d]'h.dlt := by rw [List.getElem_set, if_neg (fun e => h.ne e.symm)]
  rw [e1] at h2
  have h3 : namesOf (namedL (nodeAt L d).kids s k) c = namesOf (nodeAt L d).kids c + (if (k : Int) = c then 1 else 0) := named_names (k : Int) (by rw [node_nat L d h.dlt]; exact h.new) c
  have h4 : namesOf (kidsOf (addL L d k s x)) c + namesOf (L[d]'h.dlt).kids c = namesOf (kidsOf (L.set k x)) c + namesOf (namedL (nodeAt L d).kids s k) c := h2
  rw [h3, node_nat L d h.dlt] at h4
  rw [free_kids h.fit h.klt h.nodir, h.kids] at h1
  omega
theorem Adds.bytesUsed (h : Adds L m b d k s x) : usedB (addL L d k s x) + (L[k]'h.klt).data.length = usedB L + x.data.length := by
  have h1 := usedB_set L k h.klt x
  have hd : d < (L.set k x).length := by rw [List.length_set]; exact h.dlt
  have h2 := usedB_set (L.set k x) d hd (withKids (nodeAt L d) (namedL (nodeAt L d).kids s k))
  have e1 : (L.set k x)[d] = L[d]'h.dlt := by rw [List.getElem_set, if_neg (fun e => h.ne e.symm)]
  rw [e1] at h2
  have h4 : usedB (addL L d k s x) + (L[d]'h.dlt).data.length = usedB (L.set k x) + (nodeAt L d).data.length := h2
  rw [node_nat L d h.dlt] at h4
  omega
theorem Adds.node (h : Adds L m b d k s x) (j : Nat) (hj : j < L.length) (hjk : j ≠ k) : (nodeAt (addL L d k s x) (j : Int)).kind = L[j].kind ∧ (nodeAt (addL L d k s x) (j : Int)).up = L[j].up ∧ (nodeAt (addL L d k s x) (j : Int)).links = L[j].links := by
  rw [add_node h.dlt s x j hj]
  by_cases e : d = j
  · subst e
    rw [if_pos rfl]
    exact ⟨rfl, rfl, rfl⟩
  · rw [if_neg e, if_neg (fun e => hjk e.symm)]
    exact ⟨rfl, rfl, rfl⟩
theorem Adds.nodeK (h : Adds L m b d k s x) : nodeAt (addL L d k s x) (k : Int) = x := by rw [add_node h.dlt s x k h.klt, if_neg h.ne, if_pos rfl]
theorem Adds.dirs (h : Adds L m b d k s x) {c : Int} (hc : c ≠ (k : Int)) : dirB (addL L d k s x) c = dirB L c := by
  unfold dirB
  rw [add_there]
  cases ht : thereB L c with
  | false => rfl
  | true =>
    obtain ⟨j, rfl, hj⟩ := there_nat ht
    rw [(h.node j hj (fun e => hc (by rw [e]))).1, node_nat L j hj]
theorem Adds.ins (h : Adds L m b d k s x) : AllFit (addL L d k s x) := fun j hj => by
  rw [add_len] at hj
  rw [add_get h.dlt s x j hj]
  by_cases e : d = j
  · subst e
    rw [if_pos rfl]
    have hI := h.fit.ins d h.dlt
    refine ⟨?_, ?_, fun i hi => ?_⟩
    · have h1 := hI.1
      unfold aloneB at h1 ⊢
      simpa [withKids, h.dir] using h1
    · show (namedL L[d].kids s k).length ≤ 1024
      rw [named_len _ h.new]
      have := h.room
      omega
    · have hR := named_rises (k : Int) h.new (kids_rise h.fit.ins d h.dlt).2
      have hi' : i < (namedL L[d].kids s k).length := hi
      have hm : (namedL L[d].kids s k)[i] ∈ namedL L[d].kids s k := List.getElem_mem _
      rw [named_mem (k : Int) h.new] at hm
      refine ⟨?_, fun t ht => hR i hi' t ht, ?_⟩
      · show nameOkL (namedL L[d].kids s k)[i].1 = true
        rcases hm with hm | hm
        · rw [hm]; exact h.name
        · exact (name_of h.fit.ins h.dlt hm).1
      · show thereB (addL L d k s x) (namedL L[d].kids s k)[i].2 = true
        rw [add_there]
        rcases hm with hm | hm
        · rw [hm]; exact there_of L k h.klt
        · exact (name_of h.fit.ins h.dlt hm).2
  · rw [if_neg e]
    by_cases e2 : k = j
    · rw [if_pos e2]
      refine ⟨h.alone, by rw [h.kids]; exact Nat.zero_le _, fun i hi => ?_⟩
      rw [h.kids] at hi
      exact absurd hi (Nat.not_lt_zero _)
    · rw [if_neg e2]
      have hI := h.fit.ins j hj
      exact ⟨hI.1, hI.2.1, fun i hi => ⟨(hI.2.2 i hi).name, (hI.2.2 i hi).order, by rw [add_there]; exact (hI.2.2 i hi).there⟩⟩
theorem Adds.count (h : Adds L m b d k s x) (j : Nat) (hj : j < L.length) : (countL (addL L d k s x))[j]'(by rw [countL_len, add_len]; exact hj) = (namesOf (kidsOf L) j : Int) + (if k = j then 1 else 0) := by
  rw [countL_get _ (kids_pos (kids_there h.ins)) j (by rw [add_len]; exact hj), h.names]
  by_cases e : k = j
  · rw [if_pos e, if_pos (by rw [e])]; rfl
  · rw [if_neg e, if_neg (fun e2 => e (by omega))]; rfl
theorem Adds.count0 (h : Adds L m b d k s x) : (L[k]'h.klt).links = (namesOf (kidsOf L) k : Int) := by
  rw [(h.fit.names.2 k h.klt).1, countL_get L (kids_pos (kids_there h.fit.ins)) k h.klt]
theorem Adds.noname (h : Adds L m b d k s x) (hx : x.kind = 2) : ∀ e ∈ kidsOf L, e.2 ≠ (k : Int) := fun e he ek => by
  have h0 := (h.up hx).2
  have hm := (h.fit.names.2 k h.klt).2
  rw [countL_get L (kids_pos (kids_there h.fit.ins)) k h.klt] at hm
  unfold MayHave at hm
  rw [if_pos (Or.inr h0)] at hm
  have := names_pos he
  rw [ek] at this
  omega
theorem Adds.upfits (h : Adds L m b d k s x) : UpFits (addL L d k s x) := fun d' hd' e he hdir => by
  rw [add_len] at hd'
  have old : ∀ (c : Nat) (hc : c < L.length), e ∈ L[c].kids → (nodeAt (addL L d k s x) e.2).up = (c : Int) := fun c hc he2 => by
    have hk : e ∈ kidsOf L := mem_kidsOf.2 ⟨c, hc, he2⟩
    by_cases ek : e.2 = (k : Int)
    · rw [ek] at hdir
      have hx : x.kind = 2 := by
        have := node_kind_of hdir
        rw [h.nodeK] at this
        exact this
      exact absurd ek (h.noname hx e hk)
    · rw [h.dirs ek] at hdir
      obtain ⟨j, hj1, hj⟩ := dir_lt hdir
      have h2 := h.fit.names.1 c hc e he2 hdir
      rw [hj1] at h2 ek ⊢
      rw [(h.node j hj (fun e3 => ek (by rw [e3]))).2.1, ← node_nat L j hj]
      exact h2
  rw [add_get h.dlt s x d' hd'] at he
  by_cases e1 : d = d'
  · subst e1
    rw [if_pos rfl] at he
    have he' : e ∈ namedL L[d].kids s k := he
    rw [named_mem (k : Int) h.new] at he'
    rcases he' with he' | he'
    · rw [he'] at hdir ⊢
      have hx : x.kind = 2 := by
        have := node_kind_of hdir
        rw [h.nodeK] at this
        exact this
      rw [h.nodeK]
      exact (h.up hx).1
    · exact old d h.dlt he'
  · rw [if_neg e1] at he
    by_cases e2 : k = d'
    · rw [if_pos e2, h.kids] at he
      cases he
    · rw [if_neg e2] at he
      exact old d' hd' he
theorem Adds.linksfit (h : Adds L m b d k s x) : LinksFit (addL L d k s x) := fun j hj => by
  have hj' := hj
  rw [add_len] at hj'
  rw [h.count j hj']
  obtain ⟨h1, h2⟩ := h.fit.names.2 j hj'
  rw [countL_get L (kids_pos (kids_there h.fit.ins)) j hj'] at h1 h2
  have hn := node_nat (addL L d k s x) j hj
  by_cases e : k = j
  · subst e
    rw [if_pos rfl, ← hn, h.nodeK]
    refine ⟨by rw [h.links, h1], ?_⟩
    have hk0 : k ≠ 0 := fun e0 => by
      subst e0
      have hr := h.fit.root
      have hr2 : L[0].kind = 2 := (dir_nat (n := 0) h.klt).1 hr
      exact h.nodir hr2
    unfold MayHave
    rw [if_neg (by rintro (e0 | e0); exact hk0 (by omega); exact h.used e0)]
    split
    · rename_i hx
      unfold MayHave at h2
      rw [if_pos (Or.inr (h.up hx).2)] at h2
      omega
    · omega
  · obtain ⟨n1, n2, n3⟩ := h.node j hj' (fun e2 => e e2.symm)
    rw [hn] at n1 n3
    rw [if_neg e, n1, n3, Int.add_zero]
    exact ⟨h1, h2⟩
theorem Adds.root (h : Adds L m b d k s x) : dirB (addL L d k s x) 0 = true ∧ (nodeAt (addL L d k s x) 0).up = 0 := by
  have hp : 0 < L.length := Nat.lt_of_le_of_lt (Nat.zero_le _) h.klt
  have hr2 : L[0].kind = 2 := (dir_nat (n := 0) hp).1 h.fit.root
  have hk0 : 0 ≠ k := fun e0 => by
    subst e0
    exact h.nodir hr2
  refine ⟨(h.dirs (c := 0) (by omega)).trans h.fit.root, ?_⟩
  have h1 := (h.node 0 hp hk0).2.1
  have h2 := h.fit.rootUp
  rw [show (0 : Int) = ((0 : Nat) : Int) from rfl, node_nat L 0 hp] at h2
  exact h1.trans h2
theorem Adds.same (h : Adds L m b d k s x) : ∀ (n : Nat) (c : Int), dirB L c = true → leadsL (addL L d k s x) n c = leadsL L n c
  | 0, _, _ => rfl
  | n + 1, c, hc => by
    obtain ⟨j, rfl, hj⟩ := dir_lt hc
    have hjk : j ≠ k := fun e => by
      subst e
      exact h.nodir ((dir_nat hj).1 hc)
    rw [leads_succ, leads_succ, (h.node j hj hjk).2.1, node_nat L j hj]
    split
    · rfl
    · exact Adds.same h n _ (ups_in h.fit.root h.fit.rootUp h.fit.ins h.fit.names j hj ((dir_nat hj).1 hc))

/-- The tree stays fit. -/
theorem Adds.fits (h : Adds L m b d k s x) : FitP (addL L d k s x) m b := by
  have hU := ups_in h.root.1 h.root.2 h.ins ⟨h.upfits, h.linksfit⟩
  refine ⟨?_, h.root.1, h.root.2, h.ins, ⟨h.upfits, h.linksfit⟩, fun j hj hdir => ?_⟩
  · obtain ⟨l1, l2, l3, l4, l5⟩ := h.fit.limits
    have h1 := h.bytesUsed
    have h2 := h.bytes
    refine ⟨by rw [add_len]; exact l1, by rw [add_len]; exact l2, l3, by omega, l5⟩
  · have hj' := hj
    rw [add_len] at hj'
    by_cases e : j = k
    · subst e
      have hx : x.kind = 2 := by
        have := node_kind_of hdir
        rw [h.nodeK] at this
        exact this
      have hdd := (dir_nat h.dlt).2 h.dir
      have h1 : leadsL (addL L d j s x) (L.length + 1) (j : Int) = true := by
        rw [leads_succ, h.nodeK, (h.up hx).1]
        split
        · rfl
        · rw [h.same _ _ hdd]
          exact h.fit.leads d h.dlt hdd
      refine up_leads hdir ?_
      rw [add_len]
      exact leads_up hU _ _ _ (Nat.le_refl _) hdir h1
    · have hdl : dirB L (j : Int) = true := by
        rw [h.dirs (by omega)] at hdir
        exact hdir
      rw [add_len, h.same _ _ hdl]
      exact h.fit.leads j hj' hdl
end

/-! ### Another mode, other data -/

section
variable {L : List Ino} {m b : Int} {k : Nat} {x : Ino}
/-- Inode k is x, which has all but its mode and its data as before. -/
structure Puts (L : List Ino) (m b : Int) (k : Nat) (x : Ino) : Prop where
  fit : FitP L m b
  klt : k < L.length
  kind : x.kind = L[k].kind
  links : x.links = L[k].links
  kids : x.kids = L[k].kids
  up : x.up = L[k].up
  alone : aloneB x = true
  bytes : (usedB L : Int) + x.data.length ≤ b + L[k].data.length
theorem Puts.at (h : Puts L m b k x) (j : Nat) (hj : j < L.length) : ((L.set k x)[j]'(by rw [List.length_set]; exact hj)).kind = L[j].kind ∧ ((L.set k x)[j]'(by rw [List.length_set]; exact hj)).links = L[j].links ∧ ((L.set k x)[j]'(by rw [List.length_set]; exact hj)).kids = L[j].kids ∧ ((L.set k x)[j]'(by rw [List.length_set]; exact hj)).up = L[j].up := by
  rw [List.getElem_set]
  by_cases e : k = j
  · subst e
    rw [if_pos rfl]
    exact ⟨h.kind, h.links, h.kids, h.up⟩
  · rw [if_neg e]
    exact ⟨rfl, rfl, rfl, rfl⟩
theorem Puts.node (h : Puts L m b k x) (j : Nat) (hj : j < L.length) : (nodeAt (L.set k x) (j : Int)).kind = L[j].kind ∧ (nodeAt (L.set k x) (j : Int)).up = L[j].up := by
  rw [node_nat _ j (by rw [List.length_set]; exact hj)]
  exact ⟨(h.at j hj).1, (h.at j hj).2.2.2⟩
theorem Puts.dirs (h : Puts L m b k x) (c : Int) : dirB (L.set k x) c = dirB L c := by
  unfold dirB
  rw [there_set]
  cases ht : thereB L c with
  | false => rfl
  | true =>
    obtain ⟨j, rfl, hj⟩ := there_nat ht
    rw [(h.node j hj).1, node_nat L j hj]
theorem Puts.names (h : Puts L m b k x) (c : Int) : namesOf (kidsOf (L.set k x)) c = namesOf (kidsOf L) c := by
  have h1 := names_set L k h.klt x c
  rw [h.kids] at h1
  omega
theorem Puts.ins (h : Puts L m b k x) : AllFit (L.set k x) := fun j hj => by
  rw [List.length_set] at hj
  have hI := h.fit.ins j hj
  refine ⟨?_, ?_⟩
  · rw [List.getElem_set]
    split
    · exact h.alone
    · exact hI.1
  · rw [(h.at j hj).2.2.1]
    exact ⟨hI.2.1, fun i hi => ⟨(hI.2.2 i hi).name, (hI.2.2 i hi).order, by rw [there_set]; exact (hI.2.2 i hi).there⟩⟩
theorem Puts.leads (h : Puts L m b k x) : ∀ (n : Nat) (c : Int), dirB L c = true → leadsL (L.set k x) n c = leadsL L n c
  | 0, _, _ => rfl
  | n + 1, c, hc => by
    obtain ⟨j, rfl, hj⟩ := dir_lt hc
    rw [leads_succ, leads_succ, (h.node j hj).2, node_nat L j hj]
    split
    · rfl
    · exact Puts.leads h n _ (ups_in h.fit.root h.fit.rootUp h.fit.ins h.fit.names j hj ((dir_nat hj).1 hc))
theorem Puts.fits (h : Puts L m b k x) : FitP (L.set k x) m b := by
  have hp : 0 < L.length := Nat.lt_of_le_of_lt (Nat.zero_le _) h.klt
  refine ⟨?_, (h.dirs 0).trans h.fit.root, ?_, h.ins, ⟨fun d hd e he hdir => ?_, fun j hj => ?_⟩, fun j hj hdir => ?_⟩
  · obtain ⟨l1, l2, l3, l4, l5⟩ := h.fit.limits
    have h1 := usedB_set L k h.klt x
    have h2 := h.bytes
    refine ⟨by rw [List.length_set]; exact l1, by rw [List.length_set]; exact l2, l3, by omega, l5⟩
  · have h2 := h.fit.rootUp
    rw [show (0 : Int) = ((0 : Nat) : Int) from rfl, node_nat L 0 hp] at h2
    exact (h.node 0 hp).2.trans h2
  · rw [List.length_set] at hd
    rw [(h.at d hd).2.2.1] at he
    rw [h.dirs] at hdir
    have h2 := h.fit.names.1 d hd e he hdir
    obtain ⟨j, hj1, hj⟩ := dir_lt hdir
    rw [hj1] at h2 ⊢
    rw [(h.node j hj).2, ← node_nat L j hj]
    exact h2
  · have hj' := hj
    rw [List.length_set] at hj'
    obtain ⟨h1, h2⟩ := h.fit.names.2 j hj'
    rw [countL_get L (kids_pos (kids_there h.fit.ins)) j hj'] at h1 h2
    rw [countL_get _ (kids_pos (kids_there h.ins)) j hj, h.names, (h.at j hj').1, (h.at j hj').2.1]
    exact ⟨h1, h2⟩
  · rw [List.length_set] at hj
    rw [h.dirs] at hdir
    rw [List.length_set, h.leads _ _ hdir]
    exact h.fit.leads j hj hdir
end
end Go.Proofs.YtogheigpcppeiaaGreat

namespace Go.Proofs.YtogheigpcppeiaaGreat
set_option maxRecDepth 100000
open Go Go.RowKit

/-- A new name at a path: its directory, and it. -/
def freshW (L : List Ino) (cwd : Int) (p : List UInt8) (dirs : Bool) : Int × List UInt8 × Int :=
  if (parentW L cwd p).2.2 ≠ 0 then (0, [], (parentW L cwd p).2.2) else
  if (parentW L cwd p).2.1 = [46] ∨ (parentW L cwd p).2.1 = [46, 46] ∨ 0 ≤ kidL L (parentW L cwd p).1 (parentW L cwd p).2.1 then (0, [], 17) else
  if nameOkL (parentW L cwd p).2.1 = false then (0, [], 22) else
  if mayL L (parentW L cwd p).1 3 = false then (0, [], 13) else
  if dirs = false ∧ endL p = true then (0, [], 20) else ((parentW L cwd p).1, (parentW L cwd p).2.1, 0)
/-- The first free inode from k on. -/
def freeW (L : List Ino) : Nat → Nat → Option Nat
  | 0, _ => none
  | n + 1, k => if (nodeAt L (k : Int)).kind = 0 then some k else freeW L n (k + 1)
/-- A tree with a new inode of a name. -/
def addedW (L : List Ino) (d : Int) (s : List UInt8) (x : Ino) : List Ino × Int × Int :=
  if 1024 ≤ (nodeAt L d).kids.length then (L, 0, 28) else
  match freeW L L.length 0 with
  | none => (L, 0, 28)
  | some k => (addL L d.toNat k s { x with links := 1 }, (k : Int), 0)
def newIno (kind mode : Int) (data : List UInt8) (up : Int) : Ino := ⟨kind, mode, 0, data, [], up⟩
def modeB (q : Int) : Bool := decide (0 ≤ q) && decide (q ≤ 7)
def mkdirW (L : List Ino) (cwd : Int) (p : List UInt8) (q : Int) : List Ino × Int × Int :=
  if modeB q = false then (L, 0, 22) else
  if (freshW L cwd p true).2.2 ≠ 0 then (L, 0, (freshW L cwd p true).2.2) else addedW L (freshW L cwd p true).1 (freshW L cwd p true).2.1 (newIno 2 q [] (freshW L cwd p true).1)
def createW (L : List Ino) (cwd : Int) (p : List UInt8) (q : Int) : List Ino × Int × Int :=
  if modeB q = false then (L, 0, 22) else
  if (freshW L cwd p false).2.2 ≠ 0 then (L, 0, (freshW L cwd p false).2.2) else addedW L (freshW L cwd p false).1 (freshW L cwd p false).2.1 (newIno 1 q [] 0)
def symlinkW (L : List Ino) (b : Int) (cwd : Int) (to p : List UInt8) : List Ino × Int × Int :=
  if to = [] ∨ to.any (fun c => c == 0) = true then (L, 0, 22) else
  if 1024 < to.length then (L, 0, 36) else
  if (freshW L cwd p false).2.2 ≠ 0 then (L, 0, (freshW L cwd p false).2.2) else
  if b < (usedB L : Int) + to.length then (L, 0, 28) else addedW L (freshW L cwd p false).1 (freshW L cwd p false).2.1 (newIno 3 7 to 0)
def linkW (L : List Ino) (cwd : Int) (old p : List UInt8) : List Ino × Int :=
  if (walkW L cwd old false).2 ≠ 0 then (L, (walkW L cwd old false).2) else
  if (nodeAt L (walkW L cwd old false).1).kind = 2 then (L, 1) else
  if (freshW L cwd p false).2.2 ≠ 0 then (L, (freshW L cwd p false).2.2) else
  if 1024 ≤ (nodeAt L (freshW L cwd p false).1).kids.length then (L, 28) else
  (addL L (freshW L cwd p false).1.toNat (walkW L cwd old false).1.toNat (freshW L cwd p false).2.1 { nodeAt L (walkW L cwd old false).1 with links := (nodeAt L (walkW L cwd old false).1).links + 1 }, 0)
def chmodW (L : List Ino) (cwd : Int) (p : List UInt8) (q : Int) : List Ino × Int :=
  if modeB q = false then (L, 22) else
  if (walkW L cwd p true).2 ≠ 0 then (L, (walkW L cwd p true).2) else
  (L.set (walkW L cwd p true).1.toNat { nodeAt L (walkW L cwd p true).1 with mode := q }, 0)

theorem kid_new {L : List Ino} {m b : Int} (hF : FitP L m b) {d : Nat} (hd : d < L.length) {s : List UInt8} (h : ¬ 0 ≤ kidL L (d : Int) s) : ∀ e ∈ L[d].kids, e.1 ≠ s := fun e he hs => by
  obtain ⟨i, hi, rfl⟩ := List.getElem_of_mem he
  have h1 := kid_of hF d hd i hi
  rw [hs] at h1
  have h2 := there_pos (((hF.ins d hd).2.2 i hi).there)
  rw [h1] at h
  exact h h2
/-- What a new name is. -/
theorem fresh_ok {L : List Ino} {m b : Int} (hF : FitP L m b) {cwd : Int} {p : List UInt8} {dirs : Bool} (h : (freshW L cwd p dirs).2.2 = 0) :
    ∃ (d : Nat) (s : List UInt8) (hd : d < L.length), parentW L cwd p = ((d : Int), s, 0) ∧ freshW L cwd p dirs = ((d : Int), s, 0) ∧ L[d].kind = 2 ∧ nameOkL s = true ∧ (∀ e ∈ L[d].kids, e.1 ≠ s) ∧ mayL L (d : Int) 3 = true := by
  unfold freshW at h ⊢
  split at h
  · rename_i h1
    exact absurd h h1
  rename_i h1
  rw [if_neg h1]
  split at h
  · exact absurd h (by decide)
  rename_i h2
  rw [if_neg h2]
  split at h
  · exact absurd h (by decide)
  rename_i h3
  rw [if_neg h3]
  split at h
  · exact absurd h (by decide)
  rename_i h4
  rw [if_neg h4]
  split at h
  · exact absurd h (by decide)
  rename_i h5
  rw [if_neg h5]
  have hdir : dirB L (parentW L cwd p).1 = true := by
    have h6 : (parentW L cwd p).2.2 = 0 := by simpa using h1
    unfold parentW at h6 ⊢
    split at h6
    · rename_i g1; exact absurd h6 g1
    · rename_i g1
      rw [if_neg g1]
      split at h6
      · exact absurd h6 (by decide)
      · rename_i g2
        rw [if_neg g2]
        split at h6
        · rename_i g3; exact absurd h6 g3
        · rename_i g3
          rw [if_neg g3]
          split at h6
          · exact absurd h6 (by decide)
          · rename_i g4
            rw [if_neg g4]
            simpa using g4
  obtain ⟨d, hde, hd⟩ := dir_lt hdir
  have h3' : nameOkL (parentW L cwd p).2.1 = true := by simpa using h3
  have h4' : mayL L (parentW L cwd p).1 3 = true := by simpa using h4
  have h2' : ¬ 0 ≤ kidL L (parentW L cwd p).1 (parentW L cwd p).2.1 := fun g => h2 (Or.inr (Or.inr g))
  rw [hde] at h2' h4' hdir
  refine ⟨d, (parentW L cwd p).2.1, hd, ?_, ?_, (dir_nat hd).1 hdir, h3', kid_new hF hd h2', h4'⟩
  · exact Prod.ext hde (Prod.ext rfl (by simpa using h1))
  · rw [hde]
theorem free_some : ∀ (n k : Nat) {L : List Ino} {t : Nat}, freeW L n k = some t → k ≤ t ∧ t < k + n ∧ (nodeAt L (t : Int)).kind = 0
  | 0, _, _, _, h => by cases h
  | n + 1, k, L, t, h => by
    rw [freeW] at h
    split at h
    · rename_i h0
      cases h
      exact ⟨Nat.le_refl _, by omega, h0⟩
    · obtain ⟨h1, h2, h3⟩ := free_some n (k + 1) h
      exact ⟨by omega, by omega, h3⟩
theorem free_none : ∀ (n k : Nat) {L : List Ino}, freeW L n k = none → ∀ t, k ≤ t → t < k + n → (nodeAt L (t : Int)).kind ≠ 0
  | 0, _, _, _, t, h1, h2 => by omega
  | n + 1, k, L, h, t, h1, h2 => by
    rw [freeW] at h
    split at h
    · cases h
    · rename_i h0
      by_cases e : t = k
      · rw [e]; exact h0
      · exact free_none n (k + 1) h t (by omega) (by omega)

theorem free_links {x : Ino} (h : aloneB x = true) (h0 : x.kind = 0) : x.links = 0 ∧ x.data = [] := by
  unfold aloneB at h
  rw [if_pos h0] at h
  simp only [Bool.and_eq_true, decide_eq_true_eq, List.isEmpty_iff] at h
  exact ⟨h.1.1.1.2, h.1.1.2⟩
/-- A new inode of a new name. -/
theorem added_adds {L : List Ino} {m b : Int} (hF : FitP L m b) {d : Nat} (hd : d < L.length) (hdir : L[d].kind = 2) {s : List UInt8} (hs : nameOkL s = true) (hn : ∀ e ∈ L[d].kids, e.1 ≠ s) {k : Nat} (hk : freeW L L.length 0 = some k) (hroom : L[d].kids.length < 1024)
    {x : Ino} (ha : aloneB { x with links := 1 } = true) (h0 : x.kind ≠ 0) (hkids : x.kids = []) (hup : x.kind = 2 → x.up = d) (hub : (usedB L : Int) + x.data.length ≤ b) : ∃ h : k < L.length, L[k].kind = 0 ∧ Adds L m b d k s { x with links := 1 } := by
  obtain ⟨-, h1, h2⟩ := free_some L.length 0 hk
  have hkl : k < L.length := by omega
  rw [node_nat L k hkl] at h2
  obtain ⟨h3, h4⟩ := free_links (hF.ins k hkl).1 h2
  exact ⟨hkl, h2, ⟨hF, hd, hdir, hkl, by rw [h2]; decide, hs, hn, hroom, ha, h0, hkids, by rw [h3]; rfl, fun hx => ⟨hup hx, h2⟩, by rw [h4]; simpa using hub⟩⟩
theorem alone_dir (q : Int) (d : Int) (hq : modeB q = true) : aloneB { newIno 2 q [] d with links := 1 } = true := by
  unfold modeB at hq
  rw [Bool.and_eq_true, decide_eq_true_eq, decide_eq_true_eq] at hq
  show aloneB ⟨2, q, 1, [], [], d⟩ = true
  unfold aloneB
  simp
  omega
theorem alone_file (q : Int) (hq : modeB q = true) : aloneB { newIno 1 q [] 0 with links := 1 } = true := by
  unfold modeB at hq
  rw [Bool.and_eq_true, decide_eq_true_eq, decide_eq_true_eq] at hq
  show aloneB ⟨1, q, 1, [], [], 0⟩ = true
  unfold aloneB
  simp
  omega
theorem alone_link (to : List UInt8) (h0 : to ≠ []) (h1 : to.any (fun c => c == 0) = false) (h2 : to.length ≤ 1024) : aloneB { newIno 3 7 to 0 with links := 1 } = true := by
  show aloneB ⟨3, 7, 1, to, [], 0⟩ = true
  unfold aloneB
  have h3 : to.all (fun c => c != 0) = true := by
    rw [List.all_eq_true]
    intro c hc
    have := List.any_eq_false.1 h1 c hc
    simpa using this
  simp only [h3]
  simp [h0, h2]

theorem parts_of_walk {L : List Ino} {cwd : Int} {p : List UInt8} {f : Bool} (h : (walkW L cwd p f).2 = 0) : (wayW L (f || endL p) 8 (partsL p) (beginW cwd p)).2 = 0 ∧ (walkW L cwd p f).1 = (wayW L (f || endL p) 8 (partsL p) (beginW cwd p)).1 ∧ badW L cwd p = 0 := by
  unfold walkW at h ⊢
  split at h
  · rename_i h1; exact absurd h h1
  · rename_i h1
    rw [if_neg h1]
    split at h
    · rename_i h2; exact absurd h h2
    · rename_i h2
      rw [if_neg h2]
      split at h
      · exact absurd h (by decide)
      · rename_i h3
        rw [if_neg h3]
        exact ⟨by simpa using h2, rfl, by simpa using h1⟩
/-- What a way tells, if it tells no error, is there. -/
theorem walk_live {L : List Ino} {m b : Int} (hF : FitP L m b) {cwd : Int} {p : List UInt8} {f : Bool} (h : (walkW L cwd p f).2 = 0) : liveB L (walkW L cwd p f).1 = true := by
  obtain ⟨h1, h2, h3⟩ := parts_of_walk h
  rw [h2]
  exact (way_ends hF _ 8 _ _ (live_of_dir (begin_live hF h3)) h1).1
theorem live_ino {L : List Ino} {c : Int} (h : liveB L c = true) : ∃ (k : Nat) (hk : k < L.length), c = (k : Int) ∧ L[k].kind ≠ 0 := by
  obtain ⟨k, rfl, hk⟩ := there_nat (live_there h)
  unfold liveB at h
  rw [Bool.and_eq_true, node_nat L k hk] at h
  exact ⟨k, hk, rfl, by simpa using h.2⟩
/-- Links play no part in what an inode is by itself, if it is used. -/
theorem alone_links {x : Ino} (n : Int) (h0 : x.kind ≠ 0) (h : aloneB x = true) : aloneB { x with links := n } = true := by
  unfold aloneB at h ⊢
  rw [if_neg h0] at h
  show (if x.kind = 0 then _ else _) = true
  rw [if_neg h0]
  exact h
/-- One more name of what is no directory. -/
theorem link_adds {L : List Ino} {m b : Int} (hF : FitP L m b) {d k : Nat} (hd : d < L.length) (hdir : L[d].kind = 2) {s : List UInt8} (hs : nameOkL s = true) (hn : ∀ e ∈ L[d].kids, e.1 ≠ s) (hroom : L[d].kids.length < 1024)
    (hk : k < L.length) (h0 : L[k].kind ≠ 0) (h2 : L[k].kind ≠ 2) : Adds L m b d k s { L[k] with links := L[k].links + 1 } :=
  ⟨hF, hd, hdir, hk, h2, hs, hn, hroom, alone_links _ h0 (hF.ins k hk).1, h0, free_kids hF hk h2, rfl, fun h => absurd h h2, by
    obtain ⟨-, -, -, l4, -⟩ := hF.limits
    show (usedB L : Int) + L[k].data.length ≤ b + L[k].data.length
    omega⟩
theorem alone_mode {x : Ino} {q : Int} (h0 : x.kind ≠ 0) (h : aloneB x = true) (hq : modeB q = true) : aloneB { x with mode := q } = true := by
  unfold modeB at hq
  rw [Bool.and_eq_true, decide_eq_true_eq, decide_eq_true_eq] at hq
  unfold aloneB at h ⊢
  rw [if_neg h0] at h
  show (if x.kind = 0 then _ else if q < 0 ∨ 7 < q then false else _) = true
  rw [if_neg h0, if_neg (by omega)]
  split at h
  · cases h
  · exact h
/-- Another mode. -/
theorem mode_puts {L : List Ino} {m b : Int} (hF : FitP L m b) {k : Nat} (hk : k < L.length) (h0 : L[k].kind ≠ 0) {q : Int} (hq : modeB q = true) : Puts L m b k { L[k] with mode := q } :=
  ⟨hF, hk, rfl, rfl, rfl, rfl, alone_mode h0 (hF.ins k hk).1 hq, by
    obtain ⟨-, -, -, l4, -⟩ := hF.limits
    show (usedB L : Int) + L[k].data.length ≤ b + L[k].data.length
    omega⟩
end Go.Proofs.YtogheigpcppeiaaGreat
