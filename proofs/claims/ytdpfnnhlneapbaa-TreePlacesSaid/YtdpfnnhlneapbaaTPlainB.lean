/-
  Plain laws on trees: what is told down from the root, by the code and by the reference, is the same; going down ends.
  Plain laws on trees: there are as many paths as names.
  Plain laws on trees: where a directory is, by the code and by the reference, is the same; unlike directories are at unlike places.
-/
import Derived.Test.YtdpfnnhlneapbaaTPlain2
import Derived.Test.YtdpfnnhlneapbaaTPathsAll
import Derived.Test.YtdpfnnhlneapbaaTreeListDefs
import Derived.Test.YtdpfnnhlneapbaaTLPlace
import Derived.Test.YtdpfnnhlneapbaaTreePlace
import Derived.Test.YtdpfnnhlneapbaaTKidsLaw
namespace Go.Proofs.Ytdpfnnhlneapbaa
open Go Go.RowKit

theorem flat_congr {α β : Type} : ∀ (M : List α) (f g : α → List β), (∀ e ∈ M, f e = g e) → M.flatMap f = M.flatMap g
  | [], _, _, _ => rfl
  | e :: r, f, g, h => by
    rw [List.flatMap_cons, List.flatMap_cons, h e List.mem_cons_self, flat_congr r f g (fun x hx => h x (List.mem_cons_of_mem _ hx))]

/-- What a name that can be is. -/
theorem name_parts {x : List UInt8} (h : nameOkL x = true) : x ≠ [] ∧ wholeL x = false ∧ x.getLast? ≠ some 47 ∧ x.length ≤ 64 ∧ ∀ c ∈ x, c ≠ 47 := by
  unfold nameOkL at h
  simp only [Bool.and_eq_true, List.all_eq_true, decide_eq_true_eq] at h
  obtain ⟨⟨⟨⟨h1, h2⟩, h3⟩, -⟩, -⟩ := h
  have hc : ∀ c ∈ x, c ≠ 47 := fun c hc => by
    have := (h1 c hc).1
    simpa using this
  refine ⟨fun e => by subst e; simp at h2, ?_, fun e => hc 47 (List.mem_of_getLast? e) rfl, h3, hc⟩
  cases x with
  | nil => rfl
  | cons c r =>
    have := hc c List.mem_cons_self
    simpa [wholeL] using this

theorem name_of {L : List Ino} (h : AllFit L) {d : Nat} (hd : d < L.length) {e : List UInt8 × Int} (he : e ∈ L[d].kids) : nameOkL e.1 = true ∧ thereB L e.2 = true := by
  obtain ⟨i, hi, rfl⟩ := List.getElem_of_mem he
  exact ⟨((h d hd).2.2 i hi).name, ((h d hd).2.2 i hi).there⟩
theorem short_of {L : List Ino} (h : AllFit L) : Short64 L := fun k hk => ⟨(h k hk).2.1, fun _ he => (name_parts (name_of h hk he).1).2.2.2.1⟩
theorem falls_of {L : List Ino} (h : AllFit L) : Falls L := fun _ hk _ he => ⟨(name_of h hk he).2, (name_parts (name_of h hk he).1).2.2.2.1⟩

/-- The root's place is a slash; the reference begins with nothing. -/
def placeOf (p : List UInt8) : List UInt8 := if p = [] then [47] else p
theorem join_at {p x : List UInt8} (hp : p.getLast? ≠ some 47) (hx : nameOkL x = true) : joinP (placeOf p) x = p ++ 47 :: x := by
  obtain ⟨h1, h2, -⟩ := name_parts hx
  unfold joinP placeOf
  by_cases hn : p = []
  · subst hn
    rw [if_pos rfl, if_neg (by simp [h2]), if_neg h1, if_pos (show [(47 : UInt8)].getLast? = some 47 from rfl)]
    rfl
  · rw [if_neg hn, if_neg (by simp [hn, h2]), if_neg h1, if_neg hp]
theorem place_next {p x : List UInt8} (hx : nameOkL x = true) : placeOf (p ++ 47 :: x) = p ++ 47 :: x ∧ (p ++ 47 :: x).getLast? ≠ some 47 := by
  obtain ⟨h1, -, h3, -⟩ := name_parts hx
  refine ⟨by unfold placeOf; rw [if_neg (by simp)], ?_⟩
  obtain ⟨y, hy⟩ : ∃ y, x.getLast? = some y := ⟨_, List.getLast?_eq_some_getLast h1⟩
  rw [List.getLast?_append, List.getLast?_cons, hy]
  rw [hy] at h3
  simpa using h3

theorem lpaths_list {L : List Ino} (hA : AllFit L) : ∀ (n : Nat) (d : Int) (p : List UInt8), p.getLast? ≠ some 47 → lpathsGo L n d (placeOf p) = if dirB L d = true then listGo L n d p else []
  | 0, d, p, _ => by split <;> rfl
  | n + 1, d, p, hp => by
    cases hd : dirB L d with
    | false => rw [lpaths_not L _ d _ hd]; rfl
    | true =>
      rw [lpaths_dir L n d _ hd, if_pos rfl, list_succ]
      obtain ⟨z, rfl, hz⟩ := dir_lt hd
      rw [node_nat L z hz]
      refine flat_congr _ _ _ fun e he => ?_
      obtain ⟨hx, ht⟩ := name_of hA hz he
      obtain ⟨hq, hl⟩ := place_next (p := p) hx
      have ih := lpaths_list hA n e.2 (p ++ 47 :: e.1) hl
      rw [hq] at ih
      unfold lpathOne listOne
      rw [join_at hp hx, ih]
      have hk : dirB L e.2 = true ↔ (nodeAt L e.2).kind = 2 := by
        unfold dirB
        rw [ht]
        simp
      by_cases h2 : (nodeAt L e.2).kind = 2
      · rw [if_pos h2, if_pos (hk.2 h2)]
      · rw [if_neg h2, if_neg (fun h => h2 (hk.1 h))]
theorem lpaths_root {L : List Ino} (hA : AllFit L) (hr : dirB L 0 = true) (n : Nat) : lpathsGo L n 0 [47] = listGo L n 0 [] := by
  have h := lpaths_list hA n 0 [] (by simp)
  rw [if_pos hr] at h
  exact h

/-- The root has no name. -/
theorem name_pos {L : List Ino} {m b : Int} (hF : FitP L m b) {d : Nat} (hd : d < L.length) {e : List UInt8 × Int} (he : e ∈ L[d].kids) : e.2 ≠ 0 := fun h0 => by
  have hl : 0 < L.length := by omega
  have h1 := (hF.names.2 0 hl).2
  rw [countL_get L (kids_pos (kids_there hF.ins)) 0 hl] at h1
  unfold MayHave at h1
  rw [if_pos (Or.inl (by rfl))] at h1
  have h2 := names_pos (mem_kidsOf.2 ⟨d, hd, he⟩)
  rw [h0] at h2
  have h3 : namesOf (kidsOf L) 0 = 0 := Int.ofNat.inj h1
  omega

/-- How many steps up lead to the root first. -/
def Rk (L : List Ino) (k : Int) (j : Nat) : Prop := upN L j k = 0 ∧ ∀ i, i < j → upN L i k ≠ 0
theorem rk_root (L : List Ino) : Rk L 0 0 := ⟨rfl, fun _ h => absurd h (Nat.not_lt_zero _)⟩
theorem rk_down {L : List Ino} {k d : Int} {j : Nat} (h : Rk L d j) (hk : k ≠ 0) (hu : (nodeAt L k).up = d) : Rk L k (j + 1) := by
  refine ⟨?_, fun i hi => ?_⟩
  · show upN L j (nodeAt L k).up = 0
    rw [hu]
    exact h.1
  · cases i with
    | zero => exact hk
    | succ i =>
      show upN L i (nodeAt L k).up ≠ 0
      rw [hu]
      exact h.2 i (by omega)
theorem rk_lt {L : List Ino} (hl : AllLead L) {k : Int} (hd : dirB L k = true) {j : Nat} (h : Rk L k j) : j < L.length := by
  obtain ⟨z, rfl, hz⟩ := dir_lt hd
  obtain ⟨i, hi, he⟩ := (leads_iff L _ _).1 (hl z hz hd)
  rcases Nat.lt_or_ge i j with h1 | h1
  · exact absurd he (h.2 i h1)
  · omega
theorem depth_not (L : List Ino) (f : Nat) (d : Int) (h : dirB L d = false) : Depth L f d := by
  cases f with
  | zero => exact h
  | succ f =>
    intro hd
    rw [h] at hd
    cases hd
theorem depth_of {L : List Ino} {m b : Int} (hF : FitP L m b) : ∀ (f : Nat) (d : Int) (j : Nat), dirB L d = true → Rk L d j → L.length ≤ f + j → Depth L f d
  | 0, d, j, hd, hr, hj => absurd (rk_lt hF.leads hd hr) (by omega)
  | f + 1, d, j, hd, hr, hj => fun _ e he => by
    cases hde : dirB L e.2 with
    | false => exact depth_not L f _ hde
    | true =>
      obtain ⟨z, rfl, hz⟩ := dir_lt hd
      rw [node_nat L z hz] at he
      exact depth_of hF f e.2 (j + 1) hde (rk_down hr (name_pos hF hz he) (hF.names.1 z hz e he hde)) (by omega)
theorem depth_root {L : List Ino} {m b : Int} (hF : FitP L m b) : Depth L (L.length + 1) 0 := depth_of hF _ 0 0 hF.root (rk_root L) (by omega)
end Go.Proofs.Ytdpfnnhlneapbaa

namespace Go.Proofs.Ytdpfnnhlneapbaa
open Go Go.RowKit

def sumN : Nat → (Nat → Nat) → Nat
  | 0, _ => 0
  | n + 1, f => sumN n f + f n
theorem sumN_congr : ∀ (n : Nat) (f g : Nat → Nat), (∀ k, k < n → f k = g k) → sumN n f = sumN n g
  | 0, _, _, _ => rfl
  | n + 1, f, g, h => by
    unfold sumN
    rw [sumN_congr n f g (fun k hk => h k (by omega)), h n (by omega)]
theorem sumN_add : ∀ (n : Nat) (f g : Nat → Nat), sumN n (fun k => f k + g k) = sumN n f + sumN n g
  | 0, _, _ => rfl
  | n + 1, f, g => by
    show sumN n (fun k => f k + g k) + (f n + g n) = (sumN n f + f n) + (sumN n g + g n)
    rw [sumN_add n f g]
    omega
theorem sumN_zero : ∀ (n : Nat) (f : Nat → Nat), (∀ k, k < n → f k = 0) → sumN n f = 0
  | 0, _, _ => rfl
  | n + 1, f, h => by
    unfold sumN
    rw [sumN_zero n f (fun k hk => h k (by omega)), h n (by omega)]
theorem sumN_one : ∀ (n : Nat) (f : Nat → Nat) (d : Nat), d < n → (∀ k, k < n → k ≠ d → f k = 0) → sumN n f = f d
  | 0, _, _, h, _ => absurd h (Nat.not_lt_zero _)
  | n + 1, f, d, hd, h => by
    unfold sumN
    by_cases e : d = n
    · subst e
      rw [sumN_zero d f (fun k hk => h k (by omega) (by omega)), Nat.zero_add]
    · rw [sumN_one n f d (by omega) (fun k hk hne => h k (by omega) hne), h n (by omega) (fun x => e x.symm)]
      omega

def sumL {α : Type} : List α → (α → Nat) → Nat
  | [], _ => 0
  | e :: r, g => g e + sumL r g
theorem flat_sum {α β : Type} : ∀ (M : List α) (f : α → List β), (M.flatMap f).length = sumL M (fun e => (f e).length)
  | [], _ => rfl
  | e :: r, f => by
    rw [List.flatMap_cons, List.length_append, flat_sum r f]
    rfl
theorem sumL_congr {α : Type} : ∀ (M : List α) (f g : α → Nat), (∀ e ∈ M, f e = g e) → sumL M f = sumL M g
  | [], _, _, _ => rfl
  | e :: r, f, g, h => by
    unfold sumL
    rw [sumL_congr r f g (fun x hx => h x (List.mem_cons_of_mem _ hx)), h e List.mem_cons_self]
theorem sumL_ones {α : Type} : ∀ (M : List α) (f : α → Nat), sumL M (fun e => 1 + f e) = M.length + sumL M f
  | [], _ => rfl
  | e :: r, f => by
    show 1 + f e + sumL r (fun e => 1 + f e) = (e :: r).length + (f e + sumL r f)
    rw [sumL_ones r f, List.length_cons]
    omega
theorem sumL_zero {α : Type} : ∀ (M : List α) (f : α → Nat), (∀ e ∈ M, f e = 0) → sumL M f = 0
  | [], _, _ => rfl
  | e :: r, f, h => by
    unfold sumL
    rw [sumL_zero r f (fun x hx => h x (List.mem_cons_of_mem _ hx)), h e List.mem_cons_self]
theorem sum_swap {α : Type} (n : Nat) (c : Nat → Nat) : ∀ (M : List α) (g : α → Nat → Nat), sumL M (fun e => sumN n (fun k => g e k * c k)) = sumN n (fun k => sumL M (fun e => g e k) * c k)
  | [], g => (sumN_zero n _ (fun k _ => by simp [sumL])).symm
  | e :: r, g => by
    unfold sumL
    rw [sum_swap n c r g, ← sumN_add]
    exact sumN_congr n _ _ (fun k _ => by rw [Nat.add_mul])

theorem names_sum (c : Int) : ∀ M : List (List UInt8 × Int), namesOf M c = sumL M (fun e => if e.2 = c then 1 else 0)
  | [] => rfl
  | e :: r => by
    show namesOf (e :: r) c = (if e.2 = c then 1 else 0) + sumL r (fun e => if e.2 = c then 1 else 0)
    rw [← names_sum c r]
    unfold namesOf
    by_cases h : e.2 = c
    · rw [if_pos h, List.filter_cons_of_pos (by simpa using h), List.length_cons]
      omega
    · rw [if_neg h, List.filter_cons_of_neg (by simpa using h)]
      omega
theorem names_app (A B : List (List UInt8 × Int)) (c : Int) : namesOf (A ++ B) c = namesOf A c + namesOf B c := by
  unfold namesOf
  rw [List.filter_append, List.length_append]
theorem names_in {L : List Ino} {d : Nat} (hd : d < L.length) (c : Int) : namesOf L[d].kids c ≤ namesOf (kidsOf L) c := by
  have h : kidsOf L = kidsOf (L.take (d + 1)) ++ kidsOf (L.drop (d + 1)) := by
    unfold kidsOf
    rw [← List.flatMap_append, List.take_append_drop]
  rw [h, kidsOf_take L d hd, names_app, names_app]
  omega
theorem kids_sum : ∀ L : List Ino, (kidsOf L).length = sumN L.length (fun k => (nodeAt L (k : Int)).kids.length) := by
  intro L
  have h : ∀ n, n ≤ L.length → (kidsOf (L.take n)).length = sumN n (fun k => (nodeAt L (k : Int)).kids.length) := by
    intro n
    induction n with
    | zero => intro _; rfl
    | succ n ih =>
      intro hn
      rw [kidsOf_take L n (by omega), List.length_append, ih (by omega)]
      show _ = sumN n _ + (nodeAt L (n : Int)).kids.length
      rw [node_nat L n (by omega)]
  have h2 := h L.length (Nat.le_refl _)
  rw [List.take_length] at h2
  exact h2

theorem rk_one {L : List Ino} {k : Int} {i j : Nat} (h : Rk L k i) (h' : Rk L k j) : i = j := by
  rcases Nat.lt_trichotomy i j with h1 | h1 | h1
  · exact absurd h.1 (h'.2 i h1)
  · exact h1
  · exact absurd h'.1 (h.2 j h1)
/-- k lies in d, at whatever depth, or is d. -/
def Anc (L : List Ino) (d k : Int) : Prop := dirB L k = true ∧ ∃ i j, Rk L d j ∧ Rk L k (i + j) ∧ upN L i k = d

theorem ups_of {L : List Ino} {m b : Int} (hF : FitP L m b) : ∀ (i : Nat) (k : Int), dirB L k = true → dirB L (upN L i k) = true
  | 0, _, h => h
  | i + 1, k, h => by
    obtain ⟨z, rfl, hz⟩ := dir_lt h
    refine ups_of hF i _ ?_
    rw [node_nat L z hz]
    exact ups_in hF.root hF.rootUp hF.ins hF.names z hz ((dir_nat hz).1 h)
theorem up_next (L : List Ino) (i : Nat) (k : Int) : upN L (i + 1) k = (nodeAt L (upN L i k)).up := upN_add L i 1 k

/-- Each directory but the root has one name, in its Up. -/
theorem one_name {L : List Ino} {m b : Int} (hF : FitP L m b) {d : Nat} (hd : d < L.length) {c : Int} (hc : dirB L c = true) (hc0 : c ≠ 0) (hu : (nodeAt L c).up = (d : Int)) : namesOf L[d].kids c = 1 := by
  obtain ⟨z, rfl, hz⟩ := dir_lt hc
  have h1 := (hF.names.2 z hz).2
  rw [countL_get L (kids_pos (kids_there hF.ins)) z hz] at h1
  unfold MayHave at h1
  have hk := (dir_nat hz).1 hc
  rw [if_neg (by omega), if_pos hk] at h1
  have h2 : namesOf (kidsOf L) (z : Int) = 1 := Int.ofNat.inj h1
  have h3 := names_in hd (z : Int)
  obtain ⟨e, he⟩ := List.exists_mem_of_length_pos (show 0 < ((kidsOf L).filter fun e => e.2 == (z : Int)).length by unfold namesOf at h2; omega)
  obtain ⟨he1, he2⟩ := List.mem_filter.1 he
  obtain ⟨d', hd', hed⟩ := mem_kidsOf.1 he1
  have hek : e.2 = (z : Int) := by simpa using he2
  have hup := hF.names.1 d' hd' e hed (by rw [hek]; exact hc)
  rw [hek, hu] at hup
  have hdd : d = d' := by omega
  subst hdd
  have h4 := names_pos hed
  rw [hek] at h4
  omega

open Classical in
theorem anc_count {L : List Ino} {m b : Int} (hF : FitP L m b) {d : Nat} (hd : d < L.length) (hdir : dirB L (d : Int) = true) {j : Nat} (hj : Rk L (d : Int) j) (k : Nat) (hk : k < L.length) :
    (if Anc L (d : Int) (k : Int) then 1 else 0) = (if k = d then 1 else 0) + sumL L[d].kids (fun e => if dirB L e.2 = true ∧ Anc L e.2 (k : Int) then 1 else 0) := by
  have hkid : ∀ e ∈ L[d].kids, dirB L e.2 = true → Rk L e.2 (j + 1) ∧ (nodeAt L e.2).up = (d : Int) := fun e he h => ⟨rk_down hj (name_pos hF hd he) (hF.names.1 d hd e he h), hF.names.1 d hd e he h⟩
  by_cases hkd : k = d
  · subst hkd
    rw [if_pos ⟨hdir, 0, j, hj, by rw [Nat.zero_add]; exact hj, rfl⟩, if_pos rfl, sumL_zero]
    intro e he
    rw [if_neg]
    rintro ⟨h1, -, i, j', hr, hrk, -⟩
    have e1 := rk_one hr (hkid e he h1).1
    have e2 := rk_one hrk hj
    omega
  · rw [if_neg hkd, Nat.zero_add]
    by_cases hA : Anc L (d : Int) (k : Int)
    · rw [if_pos hA]
      obtain ⟨hkdir, i, j', hr, hrk, hup⟩ := hA
      obtain rfl := rk_one hr hj
      cases i with
      | zero =>
        have : (k : Int) = (d : Int) := hup
        exact absurd (by omega) hkd
      | succ i =>
        obtain ⟨c, hc⟩ : ∃ c, c = upN L i (k : Int) := ⟨_, rfl⟩
        rw [up_next, ← hc] at hup
        have hc0 : c ≠ 0 := by rw [hc]; exact hrk.2 i (by omega)
        have hcd : dirB L c = true := by rw [hc]; exact ups_of hF i _ hkdir
        have hone := one_name hF hd hcd hc0 hup
        rw [names_sum] at hone
        refine hone.symm.trans (sumL_congr _ _ _ fun e he => ?_)
        by_cases hec : e.2 = c
        · rw [if_pos hec, if_pos]
          rw [hec]
          exact ⟨hcd, hkdir, i, j' + 1, rk_down hr hc0 hup, by rw [show i + (j' + 1) = i + 1 + j' by omega]; exact hrk, hc.symm⟩
        · rw [if_neg hec, if_neg]
          rintro ⟨h1, -, i2, j2, hr2, hrk2, hup2⟩
          have e1 := rk_one hr2 (hkid e he h1).1
          have e2 := rk_one hrk2 hrk
          have e3 : i2 = i := by omega
          subst e3
          exact hec (hup2.symm.trans hc.symm)
    · rw [if_neg hA, sumL_zero]
      intro e he
      rw [if_neg]
      rintro ⟨h1, hkdir, i, j', hr, hrk, hup⟩
      have e1 := rk_one hr (hkid e he h1).1
      refine hA ⟨hkdir, i + 1, j, hj, by rw [show i + 1 + j = i + j' by omega]; exact hrk, ?_⟩
      rw [up_next, hup]
      exact (hkid e he h1).2

open Classical in
theorem list_len {L : List Ino} {m b : Int} (hF : FitP L m b) : ∀ (f : Nat) (d : Nat) (j : Nat) (p : List UInt8) (_ : d < L.length), dirB L (d : Int) = true → Rk L (d : Int) j → L.length ≤ f + j →
    (listGo L f (d : Int) p).length = sumN L.length (fun k => (if Anc L (d : Int) (k : Int) then 1 else 0) * (nodeAt L (k : Int)).kids.length)
  | 0, d, j, p, hd, hdir, hr, hj => absurd (rk_lt hF.leads hdir hr) (by omega)
  | f + 1, d, j, p, hd, hdir, hr, hj => by
    rw [list_succ, flat_sum, node_nat L d hd]
    have h1 : sumL L[d].kids (fun e => (listOne L f p e).length) = sumL L[d].kids (fun e => 1 + sumN L.length (fun k => (if dirB L e.2 = true ∧ Anc L e.2 (k : Int) then 1 else 0) * (nodeAt L (k : Int)).kids.length)) := by
      refine sumL_congr _ _ _ fun e he => ?_
      have ht := (name_of hF.ins hd he).2
      unfold listOne
      rw [List.length_cons, Nat.add_comm]
      congr 1
      by_cases h2 : (nodeAt L e.2).kind = 2
      · have hde : dirB L e.2 = true := by unfold dirB; rw [ht, h2]; rfl
        rw [if_pos h2]
        have hup := hF.names.1 d hd e he hde
        have hrk := rk_down hr (name_pos hF hd he) hup
        obtain ⟨u, hu, hul⟩ := dir_lt hde
        rw [hu] at hde hrk ⊢
        rw [list_len hF f u (j + 1) _ hul hde hrk (by omega)]
        refine sumN_congr _ _ _ fun k _ => ?_
        congr 1
        simp only [hde, true_and]
      · have hde : ¬ dirB L e.2 = true := fun h => by
          unfold dirB at h
          rw [ht] at h
          exact h2 (by simpa using h)
        rw [if_neg h2]
        refine (sumN_zero _ _ fun k _ => ?_).symm
        rw [if_neg (fun h => hde h.1), Nat.zero_mul]
    rw [h1, sumL_ones, sum_swap]
    have h2 : L[d].kids.length = sumN L.length (fun k => (if k = d then 1 else 0) * (nodeAt L (k : Int)).kids.length) := by
      rw [sumN_one L.length _ d hd (fun k _ hne => by rw [if_neg hne, Nat.zero_mul]), if_pos rfl, Nat.one_mul, node_nat L d hd]
    rw [h2, ← sumN_add]
    refine sumN_congr _ _ _ fun k hk => ?_
    rw [anc_count hF hd hdir hr k hk, Nat.add_mul]

theorem rk_of {L : List Ino} {k : Int} : ∀ (n : Nat), (∃ i, i < n ∧ upN L i k = 0) → ∃ j, Rk L k j
  | 0, ⟨_, h, _⟩ => absurd h (Nat.not_lt_zero _)
  | n + 1, ⟨i, hi, he⟩ => by
    by_cases h : ∃ i, i < n ∧ upN L i k = 0
    · exact rk_of n h
    · exact ⟨i, he, fun j hj e => h ⟨j, by omega, e⟩⟩

open Classical in
/-- There are as many paths as names. -/
theorem list_count {L : List Ino} {m b : Int} (hF : FitP L m b) : (listGo L (L.length + 1) 0 []).length = (kidsOf L).length := by
  obtain ⟨z, hz, hl⟩ := dir_lt hF.root
  have hz0 : z = 0 := by omega
  subst hz0
  have h := list_len hF (L.length + 1) 0 0 [] hl hF.root (rk_root L) (by omega)
  refine (show _ = _ from h).trans ?_
  rw [kids_sum]
  refine sumN_congr _ _ _ fun k hk => ?_
  by_cases hne : L[k].kids = []
  · rw [node_nat L k hk, hne]
    simp
  · have hkd : dirB L (k : Int) = true := (dir_nat hk).2 (dir_of_kids (hF.ins k hk).1 hne)
    obtain ⟨j, hj⟩ := rk_of L.length ((leads_iff L _ _).1 (hF.leads k hk hkd))
    rw [if_pos ⟨hkd, j, 0, rk_root L, hj, hj.1⟩, Nat.one_mul]
end Go.Proofs.Ytdpfnnhlneapbaa

namespace Go.Proofs.Ytdpfnnhlneapbaa
open Go Go.RowKit

theorem names_cons (e : List UInt8 × Int) (r : List (List UInt8 × Int)) (c : Int) : namesOf (e :: r) c = (if e.2 = c then 1 else 0) + namesOf r c := by
  rw [names_sum, names_sum]
  rfl
theorem kidsTo_cons (e : List UInt8 × Int) (r : List (List UInt8 × Int)) (d : Int) (s : List UInt8) : kidsTo (e :: r) d s = kidsTo r d (if e.2 = d then 47 :: e.1 ++ s else s) := rfl
theorem kids_none : ∀ (M : List (List UInt8 × Int)) (d : Int) (s : List UInt8), namesOf M d = 0 → kidsTo M d s = s
  | [], _, _, _ => rfl
  | e :: r, d, s, h => by
    rw [names_cons] at h
    have hne : ¬ e.2 = d := fun e1 => by rw [if_pos e1] at h; omega
    rw [kidsTo_cons, if_neg hne]
    rw [if_neg hne] at h
    exact kids_none r d s (by omega)
theorem kids_one : ∀ (M : List (List UInt8 × Int)) (d : Int), namesOf M d = 1 → ∃ x, nameOf M d = some x ∧ (x, d) ∈ M ∧ ∀ s, kidsTo M d s = 47 :: x ++ s
  | [], _, h => by simp [namesOf] at h
  | e :: r, d, h => by
    rw [names_cons] at h
    by_cases e1 : e.2 = d
    · rw [if_pos e1] at h
      refine ⟨e.1, by unfold nameOf; rw [if_pos e1], ?_, fun s => ?_⟩
      · rw [← e1]
        exact List.mem_cons_self
      · rw [kidsTo_cons, if_pos e1]
        exact kids_none r d _ (by omega)
    · rw [if_neg e1] at h
      obtain ⟨x, h1, h2, h3⟩ := kids_one r d (by omega)
      refine ⟨x, by unfold nameOf; rw [if_neg e1]; exact h1, List.mem_cons_of_mem _ h2, fun s => ?_⟩
      rw [kidsTo_cons, if_neg e1]
      exact h3 s

/-- Names with a slash ahead of each. -/
def sl (M : List (List UInt8)) : List UInt8 := M.flatMap fun x => 47 :: x
theorem sl_cons (x : List UInt8) (r : List (List UInt8)) : sl (x :: r) = 47 :: x ++ sl r := rfl
theorem sl_join : ∀ M : List (List UInt8), M ≠ [] → sl M = 47 :: joinL M
  | [], h => absurd rfl h
  | [x], _ => by simp [sl, joinL]
  | x :: y :: r, _ => by
    rw [sl_cons, sl_join (y :: r) (by simp)]
    simp [joinL]
/-- The directory that names lead to from the root. -/
def goDown (L : List Ino) (M : List (List UInt8)) : Int := M.foldl (fun d x => kidL L d x) 0

theorem rk_up {L : List Ino} {d : Int} {j : Nat} (h : Rk L d (j + 1)) : Rk L (nodeAt L d).up j := ⟨h.1, fun i hi => h.2 (i + 1) (by omega)⟩

/-- Going up from d. -/
theorem both_places {L : List Ino} {m b : Int} (hF : FitP L m b) : ∀ (j : Nat) (d : Int), dirB L d = true → Rk L d j → ∃ A : List (List UInt8), goDown L A = d ∧ (∀ x ∈ A, nameOkL x = true) ∧
    ∀ (n k : Nat) (N : List (List UInt8)), j < n → j < k → placeGo L n d (sl N.reverse) = sl (A ++ N.reverse) ∧ lplaceGo L k d N = 47 :: joinL (A ++ N.reverse)
  | 0, d, hd, hr => by
    have h0 : d = 0 := hr.1
    refine ⟨[], h0.symm, by simp, fun n k N hn hk => ?_⟩
    obtain ⟨n, rfl⟩ : ∃ n', n = n' + 1 := ⟨n - 1, by omega⟩
    obtain ⟨k, rfl⟩ : ∃ k', k = k' + 1 := ⟨k - 1, by omega⟩
    rw [place_succ, lplace_succ, if_pos h0, if_pos hd, if_pos h0]
    exact ⟨rfl, rfl⟩
  | j + 1, d, hd, hr => by
    have h0 : d ≠ 0 := hr.2 0 (by omega)
    obtain ⟨z, hz, hzl⟩ := dir_lt hd
    have hup : dirB L (nodeAt L d).up = true := by
      have h := ups_of hF 1 d hd
      exact h
    obtain ⟨u, hu, hul⟩ := dir_lt hup
    obtain ⟨A, hA1, hA2, hA3⟩ := both_places hF j _ hup (rk_up hr)
    obtain ⟨x, hx1, hx2, hx3⟩ := kids_one _ d (one_name hF hul hd h0 hu)
    obtain ⟨i, hi, hie⟩ := List.getElem_of_mem hx2
    have hkid : kidL L (nodeAt L d).up x = d := by
      have h := kid_of hF u hul i hi
      rw [hie] at h
      rw [hu]
      exact h
    have hok : nameOkL x = true := (name_of hF.ins hul hx2).1
    refine ⟨A ++ [x], ?_, fun y hy => ?_, fun n k N hn hk => ?_⟩
    · unfold goDown at hA1 ⊢
      rw [List.foldl_append, hA1]
      exact hkid
    · rcases List.mem_append.1 hy with h | h
      · exact hA2 y h
      · rw [List.mem_singleton.1 h]
        exact hok
    · obtain ⟨n, rfl⟩ : ∃ n', n = n' + 1 := ⟨n - 1, by omega⟩
      obtain ⟨k, rfl⟩ : ∃ k', k = k' + 1 := ⟨k - 1, by omega⟩
      have hans : nameAns L (nodeAt L d).up d = (x, true) := by
        unfold nameAns
        rw [if_pos hup, hu, node_nat L u hul, hx1]
      rw [place_succ, lplace_succ, if_neg h0, if_pos hd, if_neg h0, hans, if_pos rfl]
      have h := hA3 n k (N ++ [x]) (by omega) (by omega)
      rw [List.reverse_append] at h
      have e1 : sl ([x].reverse ++ N.reverse) = kidsTo (nodeAt L (nodeAt L d).up).kids d (sl N.reverse) := by
        rw [hu, node_nat L u hul, hx3]
        rfl
      rw [e1] at h
      rw [h.1, h.2, List.append_assoc]
      exact ⟨rfl, rfl⟩

/-- Where a directory is. -/
theorem place_of {L : List Ino} {m b : Int} (hF : FitP L m b) {d : Int} (hd : dirB L d = true) : ∃ A : List (List UInt8), goDown L A = d ∧ (∀ x ∈ A, nameOkL x = true) ∧ placeL L d = 47 :: joinL A ∧ lplaceL L d = 47 :: joinL A := by
  obtain ⟨z, rfl, hz⟩ := dir_lt hd
  obtain ⟨j, hj⟩ := rk_of L.length ((leads_iff L _ _).1 (hF.leads z hz hd))
  have hlt := rk_lt hF.leads hd hj
  obtain ⟨A, h1, h2, h3⟩ := both_places hF j _ hd hj
  have hlim := hF.limits
  obtain ⟨h4, h5⟩ := h3 (L.length + 1) 256 [] (by omega) (by unfold Limits at hlim; omega)
  have h4' : placeGo L (L.length + 1) (z : Int) [] = sl A := by
    have e : sl (A ++ ([] : List (List UInt8)).reverse) = sl A := by simp
    rw [e] at h4
    exact h4
  refine ⟨A, h1, h2, ?_, ?_⟩
  · unfold placeL
    rw [if_pos hd, h4']
    by_cases hA : A = []
    · subst hA
      rfl
    · rw [sl_join A hA, if_neg (by simp)]
  · have e : A ++ ([] : List (List UInt8)).reverse = A := by simp
    rw [e] at h5
    exact h5
theorem place_same {L : List Ino} {m b : Int} (hF : FitP L m b) (d : Int) : lplaceL L d = placeL L d := by
  cases hd : dirB L d with
  | false =>
    unfold lplaceL placeL
    rw [lplace_succ, hd]
    rfl
  | true =>
    obtain ⟨A, -, -, h1, h2⟩ := place_of hF hd
    rw [h1, h2]

theorem take_name {x : List UInt8} (h : ∀ c ∈ x, c ≠ 47) (M : List (List UInt8)) : (x ++ sl M).takeWhile (fun c => c != 47) = x := by
  rw [List.takeWhile_append_of_pos (fun c hc => by simpa using h c hc)]
  cases M with
  | nil => simp [sl]
  | cons y r => rw [sl_cons]; simp
theorem sl_inj : ∀ (M N : List (List UInt8)), (∀ x ∈ M, ∀ c ∈ x, c ≠ 47) → (∀ x ∈ N, ∀ c ∈ x, c ≠ 47) → sl M = sl N → M = N
  | [], [], _, _, _ => rfl
  | [], y :: s, _, _, h => by rw [sl_cons] at h; cases h
  | x :: r, [], _, _, h => by rw [sl_cons] at h; cases h
  | x :: r, y :: s, hM, hN, h => by
    rw [sl_cons, sl_cons, List.cons_append, List.cons_append] at h
    have h1 := (List.cons.inj h).2
    have e : x = y := by
      rw [← take_name (hM x List.mem_cons_self) r, h1, take_name (hN y List.mem_cons_self) s]
    subst e
    rw [sl_inj r s (fun z hz => hM z (List.mem_cons_of_mem _ hz)) (fun z hz => hN z (List.mem_cons_of_mem _ hz)) (List.append_cancel_left h1)]
/-- Unlike directories are at unlike places. -/
theorem place_inj {L : List Ino} {m b : Int} (hF : FitP L m b) {d d' : Int} (hd : dirB L d = true) (hd' : dirB L d' = true) (h : placeL L d = placeL L d') : d = d' := by
  obtain ⟨A, a1, a2, a3, -⟩ := place_of hF hd
  obtain ⟨C, c1, c2, c3, -⟩ := place_of hF hd'
  rw [a3, c3] at h
  have hj : ∀ (X : List (List UInt8)), (∀ x ∈ X, nameOkL x = true) → X ≠ [] → joinL X ≠ [] := fun X hX hne e => by
    have h1 := sl_join X hne
    rw [e] at h1
    cases X with
    | nil => exact hne rfl
    | cons x r =>
      rw [sl_cons] at h1
      have h2 := (name_parts (hX x List.mem_cons_self)).1
      have h3 := congrArg List.length h1
      have h4 : 0 < x.length := List.length_pos_iff.2 h2
      simp at h3
      exact h2 (by simpa using h3.1)
  have e : A = C := by
    by_cases hA : A = []
    · subst hA
      by_cases hC : C = []
      · exact hC.symm
      · exact absurd (List.cons.inj h).2.symm (hj C c2 hC)
    · by_cases hC : C = []
      · subst hC
        exact absurd (List.cons.inj h).2 (hj A a2 hA)
      · rw [← sl_join A hA, ← sl_join C hC] at h
        exact sl_inj A C (fun x hx => (name_parts (a2 x hx)).2.2.2.2) (fun x hx => (name_parts (c2 x hx)).2.2.2.2) h
  rw [← a1, ← c1, e]
end Go.Proofs.Ytdpfnnhlneapbaa
