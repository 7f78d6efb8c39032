/-
  Plain laws on trees that can be: names, places, ranks (no landed code in it).
-/
import Derived.Test.YtclhpedecimicaaGreatK15
import Derived.Test.YtclhpedecimicaaGreatK8
import Derived.Test.YtclhpedecimicaaGreatK6
import Derived.Test.YtclhpedecimicaaGreatK7
namespace Go.Proofs.YtclhpedecimicaaGreat
set_option maxRecDepth 100000
open Go Go.RowKit

/-- No list is longer than any machine's. -/
structure Reach (L : List Ino) : Prop where
  nodes : L.length ≤ 281474976710656
  kids : ∀ k (h : k < L.length), L[k].kids.length ≤ 281474976710656
  texts : Sized L
  data : ∀ k (h : k < L.length), L[k].data.length ≤ 140737488355328
theorem fit_small {L : List Ino} {m b : Int} (h : FitP L m b) : L.length ≤ 256 ∧ usedB L ≤ 65536 ∧ b ≤ 65536 := by
  obtain ⟨h1, h2, h3, h4, h5⟩ := h.limits
  exact ⟨by omega, by omega, h5⟩
theorem used_pos {L : List Ino} (h : dirB L 0 = true) : 1 ≤ usedN L := by
  obtain ⟨z, hz, hl⟩ := dir_lt h
  cases L with
  | nil => exact absurd hl (Nat.not_lt_zero _)
  | cons x r =>
    have h2 := node_kind_of h
    have h3 : x.kind = 2 := h2
    simp only [usedN, h3]
    rw [if_neg (by decide)]
    omega
theorem nil_nodes (w : World) : NodesIn w none 0 ([] : List Ino) := ⟨Nat.le_refl _, Nat.zero_le _, fun _i hi => absurd hi (Nat.not_lt_zero _)⟩
theorem kids_rise {L : List Ino} (h : AllFit L) : ∀ k (h : k < L.length), L[k].kids.length ≤ 1024 ∧ Rises L[k].kids := fun k hk => ⟨(h k hk).2.1, fun i hi t ht => ((h k hk).2.2 i hi).order t ht⟩
theorem findK_mem {M : List (List UInt8 × Int)} (hR : Rises M) (i : Nat) (hi : i < M.length) : findK M M[i].1 = M[i].2 := by
  refine findK_some M M[i].1 i hi rfl (fun k hk e => ?_)
  have h := hR.lt k i hi hk
  rw [e, less_irrefl] at h
  cases h
theorem findK_has : ∀ (M : List (List UInt8 × Int)) (s : List UInt8), 0 ≤ findK M s → ∃ e ∈ M, e.1 = s
  | [], _, h => absurd (show (0 : Int) ≤ -1 from h) (by decide)
  | e :: r, s, h => by
    unfold findK at h
    by_cases hs : e.1 = s
    · exact ⟨e, List.mem_cons_self, hs⟩
    · rw [if_neg hs] at h
      obtain ⟨e', he, hs'⟩ := findK_has r s h
      exact ⟨e', List.mem_cons_of_mem _ he, hs'⟩
/-- Each name of a directory is found. -/
theorem kid_of {L : List Ino} {m b : Int} (hF : FitP L m b) (d : Nat) (hd : d < L.length) (i : Nat) (hi : i < L[d].kids.length) : kidL L (d : Int) L[d].kids[i].1 = L[d].kids[i].2 := by
  have h2 := dir_of_kids (hF.ins d hd).1 (List.ne_nil_of_mem (List.getElem_mem hi))
  unfold kidL
  rw [(dir_nat hd).2 h2, if_pos rfl, node_nat L d hd]
  exact findK_mem (kids_rise hF.ins d hd).2 i hi
/-- What a name that can be is. -/
theorem name_parts {x : List UInt8} (h : nameOkL x = true) : x ≠ [] ∧ wholeL x = false ∧ x.getLast? ≠ some 47 ∧ x.length ≤ 64 ∧ ∀ c ∈ x, c ≠ 47 := by
  unfold nameOkL at h
  simp only [Bool.and_eq_true, List.all_eq_true, decide_eq_true_eq] at h
  obtain ⟨⟨⟨⟨h1, h2⟩, h3⟩, -⟩, -⟩ := h
  have hc : ∀ c ∈ x, c ≠ 47 := fun c hc => by
    have := (h1 c hc).1
    simpa using this
  refine ⟨fun e => by subst e; simp at h2, ?_, fun e => hc 47 (List.mem_of_getLast? e) rfl, h3, hc⟩
  cases x with
  | nil => rfl
  | cons c r =>
    have := hc c List.mem_cons_self
    simpa [wholeL] using this
theorem name_of {L : List Ino} (h : AllFit L) {d : Nat} (hd : d < L.length) {e : List UInt8 × Int} (he : e ∈ L[d].kids) : nameOkL e.1 = true ∧ thereB L e.2 = true := by
  obtain ⟨i, hi, rfl⟩ := List.getElem_of_mem he
  exact ⟨((h d hd).2.2 i hi).name, ((h d hd).2.2 i hi).there⟩
theorem short_of {L : List Ino} (h : AllFit L) : Short64 L := fun k hk => ⟨(h k hk).2.1, fun _ he => (name_parts (name_of h hk he).1).2.2.2.1⟩
/-- The root has no name. -/
theorem name_pos {L : List Ino} {m b : Int} (hF : FitP L m b) {d : Nat} (hd : d < L.length) {e : List UInt8 × Int} (he : e ∈ L[d].kids) : e.2 ≠ 0 := fun h0 => by
  have hl : 0 < L.length := by omega
  have h1 := (hF.names.2 0 hl).2
  rw [countL_get L (kids_pos (kids_there hF.ins)) 0 hl] at h1
  unfold MayHave at h1
  rw [if_pos (Or.inl (by rfl))] at h1
  have h2 := names_pos (mem_kidsOf.2 ⟨d, hd, he⟩)
  rw [h0] at h2
  have h3 : namesOf (kidsOf L) 0 = 0 := Int.ofNat.inj h1
  omega
/-- How many steps up lead to the root first. -/
def Rk (L : List Ino) (k : Int) (j : Nat) : Prop := upN L j k = 0 ∧ ∀ i, i < j → upN L i k ≠ 0
theorem rk_root (L : List Ino) : Rk L 0 0 := ⟨rfl, fun _ h => absurd h (Nat.not_lt_zero _)⟩
theorem rk_down {L : List Ino} {k d : Int} {j : Nat} (h : Rk L d j) (hk : k ≠ 0) (hu : (nodeAt L k).up = d) : Rk L k (j + 1) := by
  refine ⟨?_, fun i hi => ?_⟩
  · show upN L j (nodeAt L k).up = 0
    rw [hu]
    exact h.1
  · cases i with
    | zero => exact hk
    | succ i =>
      show upN L i (nodeAt L k).up ≠ 0
      rw [hu]
      exact h.2 i (by omega)
theorem rk_lt {L : List Ino} (hl : AllLead L) {k : Int} (hd : dirB L k = true) {j : Nat} (h : Rk L k j) : j < L.length := by
  obtain ⟨z, rfl, hz⟩ := dir_lt hd
  obtain ⟨i, hi, he⟩ := (leads_iff L _ _).1 (hl z hz hd)
  rcases Nat.lt_or_ge i j with h1 | h1
  · exact absurd he (h.2 i h1)
  · omega
theorem rk_of {L : List Ino} {k : Int} : ∀ (n : Nat), (∃ i, i < n ∧ upN L i k = 0) → ∃ j, Rk L k j
  | 0, ⟨_, h, _⟩ => absurd h (Nat.not_lt_zero _)
  | n + 1, ⟨i, hi, he⟩ => by
    by_cases h : ∃ i, i < n ∧ upN L i k = 0
    · exact rk_of n h
    · exact ⟨i, he, fun j hj e => h ⟨j, by omega, e⟩⟩
theorem rk_one {L : List Ino} {k : Int} {i j : Nat} (h : Rk L k i) (h' : Rk L k j) : i = j := by
  rcases Nat.lt_trichotomy i j with h1 | h1 | h1
  · exact absurd h.1 (h'.2 i h1)
  · exact h1
  · exact absurd h'.1 (h.2 j h1)
theorem ups_of {L : List Ino} {m b : Int} (hF : FitP L m b) : ∀ (i : Nat) (k : Int), dirB L k = true → dirB L (upN L i k) = true
  | 0, _, h => h
  | i + 1, k, h => by
    obtain ⟨z, rfl, hz⟩ := dir_lt h
    refine ups_of hF i _ ?_
    rw [node_nat L z hz]
    exact ups_in hF.root hF.rootUp hF.ins hF.names z hz ((dir_nat hz).1 h)
theorem up_next (L : List Ino) (i : Nat) (k : Int) : upN L (i + 1) k = (nodeAt L (upN L i k)).up := upN_add L i 1 k
theorem names_app (A B : List (List UInt8 × Int)) (c : Int) : namesOf (A ++ B) c = namesOf A c + namesOf B c := by
  unfold namesOf
  rw [List.filter_append, List.length_append]
theorem names_le {L : List Ino} {d : Nat} (hd : d < L.length) (c : Int) : namesOf L[d].kids c ≤ namesOf (kidsOf L) c := by
  have h : kidsOf L = kidsOf (L.take (d + 1)) ++ kidsOf (L.drop (d + 1)) := by
    unfold kidsOf
    rw [← List.flatMap_append, List.take_append_drop]
  rw [h, kidsOf_take L d hd, names_app, names_app]
  omega
/-- Each directory but the root has one name, in its Up. -/
theorem one_name {L : List Ino} {m b : Int} (hF : FitP L m b) {d : Nat} (hd : d < L.length) {c : Int} (hc : dirB L c = true) (hc0 : c ≠ 0) (hu : (nodeAt L c).up = (d : Int)) : namesOf L[d].kids c = 1 := by
  obtain ⟨z, rfl, hz⟩ := dir_lt hc
  have h1 := (hF.names.2 z hz).2
  rw [countL_get L (kids_pos (kids_there hF.ins)) z hz] at h1
  unfold MayHave at h1
  have hk := (dir_nat hz).1 hc
  rw [if_neg (by omega), if_pos hk] at h1
  have h2 : namesOf (kidsOf L) (z : Int) = 1 := Int.ofNat.inj h1
  have h3 := names_le hd (z : Int)
  obtain ⟨e, he⟩ := List.exists_mem_of_length_pos (show 0 < ((kidsOf L).filter fun e => e.2 == (z : Int)).length by unfold namesOf at h2; omega)
  obtain ⟨he1, he2⟩ := List.mem_filter.1 he
  obtain ⟨d', hd', hed⟩ := mem_kidsOf.1 he1
  have hek : e.2 = (z : Int) := by simpa using he2
  have hup := hF.names.1 d' hd' e hed (by rw [hek]; exact hc)
  rw [hek, hu] at hup
  have hdd : d = d' := by omega
  subst hdd
  have h4 := names_pos hed
  rw [hek] at h4
  omega
def sumL {α : Type} : List α → (α → Nat) → Nat
  | [], _ => 0
  | e :: r, g => g e + sumL r g
theorem names_sum (c : Int) : ∀ M : List (List UInt8 × Int), namesOf M c = sumL M (fun e => if e.2 = c then 1 else 0)
  | [] => rfl
  | e :: r => by
    show namesOf (e :: r) c = (if e.2 = c then 1 else 0) + sumL r (fun e => if e.2 = c then 1 else 0)
    rw [← names_sum c r]
    unfold namesOf
    by_cases h : e.2 = c
    · rw [if_pos h, List.filter_cons_of_pos (by simpa using h), List.length_cons]
      omega
    · rw [if_neg h, List.filter_cons_of_neg (by simpa using h)]
      omega
theorem names_cons (e : List UInt8 × Int) (r : List (List UInt8 × Int)) (c : Int) : namesOf (e :: r) c = (if e.2 = c then 1 else 0) + namesOf r c := by
  rw [names_sum, names_sum]
  rfl
theorem kidsTo_cons (e : List UInt8 × Int) (r : List (List UInt8 × Int)) (d : Int) (s : List UInt8) : kidsTo (e :: r) d s = kidsTo r d (if e.2 = d then 47 :: e.1 ++ s else s) := rfl
theorem kids_none : ∀ (M : List (List UInt8 × Int)) (d : Int) (s : List UInt8), namesOf M d = 0 → kidsTo M d s = s
  | [], _, _, _ => rfl
  | e :: r, d, s, h => by
    rw [names_cons] at h
    have hne : ¬ e.2 = d := fun e1 => by rw [if_pos e1] at h; omega
    rw [kidsTo_cons, if_neg hne]
    rw [if_neg hne] at h
    exact kids_none r d s (by omega)
def nameOf : List (List UInt8 × Int) → Int → Option (List UInt8)
  | [], _ => none
  | e :: r, d => if e.2 = d then some e.1 else nameOf r d
theorem kids_one : ∀ (M : List (List UInt8 × Int)) (d : Int), namesOf M d = 1 → ∃ x, nameOf M d = some x ∧ (x, d) ∈ M ∧ ∀ s, kidsTo M d s = 47 :: x ++ s
  | [], _, h => by simp [namesOf] at h
  | e :: r, d, h => by
    rw [names_cons] at h
    by_cases e1 : e.2 = d
    · rw [if_pos e1] at h
      refine ⟨e.1, by unfold nameOf; rw [if_pos e1], ?_, fun s => ?_⟩
      · rw [← e1]
        exact List.mem_cons_self
      · rw [kidsTo_cons, if_pos e1]
        exact kids_none r d _ (by omega)
    · rw [if_neg e1] at h
      obtain ⟨x, h1, h2, h3⟩ := kids_one r d (by omega)
      refine ⟨x, by unfold nameOf; rw [if_neg e1]; exact h1, List.mem_cons_of_mem _ h2, fun s => ?_⟩
      rw [kidsTo_cons, if_neg e1]
      exact h3 s
/-- Names with a slash ahead of each. -/
def sl (M : List (List UInt8)) : List UInt8 := M.flatMap fun x => 47 :: x
theorem sl_cons (x : List UInt8) (r : List (List UInt8)) : sl (x :: r) = 47 :: x ++ sl r := rfl
theorem sl_join : ∀ M : List (List UInt8), M ≠ [] → sl M = 47 :: joinL M
  | [], h => absurd rfl h
  | [x], _ => by simp [sl, joinL]
  | x :: y :: r, _ => by
    rw [sl_cons, sl_join (y :: r) (by simp)]
    simp [joinL]
/-- The directory that names lead to from the root. -/
def goDown (L : List Ino) (M : List (List UInt8)) : Int := M.foldl (fun d x => kidL L d x) 0
theorem rk_up {L : List Ino} {d : Int} {j : Nat} (h : Rk L d (j + 1)) : Rk L (nodeAt L d).up j := ⟨h.1, fun i hi => h.2 (i + 1) (by omega)⟩
theorem take_name {x : List UInt8} (h : ∀ c ∈ x, c ≠ 47) (M : List (List UInt8)) : (x ++ sl M).takeWhile (fun c => c != 47) = x := by
  rw [List.takeWhile_append_of_pos (fun c hc => by simpa using h c hc)]
  cases M with
  | nil => simp [sl]
  | cons y r => rw [sl_cons]; simp
theorem sl_inj : ∀ (M N : List (List UInt8)), (∀ x ∈ M, ∀ c ∈ x, c ≠ 47) → (∀ x ∈ N, ∀ c ∈ x, c ≠ 47) → sl M = sl N → M = N
  | [], [], _, _, _ => rfl
  | [], y :: s, _, _, h => by rw [sl_cons] at h; cases h
  | x :: r, [], _, _, h => by rw [sl_cons] at h; cases h
  | x :: r, y :: s, hM, hN, h => by
    rw [sl_cons, sl_cons, List.cons_append, List.cons_append] at h
    have h1 := (List.cons.inj h).2
    have e : x = y := by
      rw [← take_name (hM x List.mem_cons_self) r, h1, take_name (hN y List.mem_cons_self) s]
    subst e
    rw [sl_inj r s (fun z hz => hM z (List.mem_cons_of_mem _ hz)) (fun z hz => hN z (List.mem_cons_of_mem _ hz)) (List.append_cancel_left h1)]
end Go.Proofs.YtclhpedecimicaaGreat
