/-
  There are as many paths as names, in plain words; a tree with one more name has one path more.
-/
import Derived.Test.YtmaiphibpdngnaaGreatK2
import Derived.Test.YtmaiphibpdngnaaGreatK7
import Derived.Test.YtmaiphibpdngnaaGreatK8
namespace Go.Proofs.YtmaiphibpdngnaaGreat
set_option maxRecDepth 100000
open Go Go.RowKit

theorem falls_of {L : List Ino} (h : AllFit L) : Falls L := fun _ hk _ he => ⟨(name_of h hk he).2, (name_parts (name_of h hk he).1).2.2.2.1⟩
def sumN : Nat → (Nat → Nat) → Nat
  | 0, _ => 0
  | n + 1, f => sumN n f + f n
theorem sumN_congr : ∀ (n : Nat) (f g : Nat → Nat), (∀ k, k < n → f k = g k) → sumN n f = sumN n g
  | 0, _, _, _ => rfl
  | n + 1, f, g, h => by
    unfold sumN
    rw [sumN_congr n f g (fun k hk => h k (by omega)), h n (by omega)]
theorem sumN_add : ∀ (n : Nat) (f g : Nat → Nat), sumN n (fun k => f k + g k) = sumN n f + sumN n g
  | 0, _, _ => rfl
  | n + 1, f, g => by
    show sumN n (fun k => f k + g k) + (f n + g n) = (sumN n f + f n) + (sumN n g + g n)
    rw [sumN_add n f g]
    omega
theorem sumN_zero : ∀ (n : Nat) (f : Nat → Nat), (∀ k, k < n → f k = 0) → sumN n f = 0
  | 0, _, _ => rfl
  | n + 1, f, h => by
    unfold sumN
    rw [sumN_zero n f (fun k hk => h k (by omega)), h n (by omega)]
theorem sumN_one : ∀ (n : Nat) (f : Nat → Nat) (d : Nat), d < n → (∀ k, k < n → k ≠ d → f k = 0) → sumN n f = f d
  | 0, _, _, h, _ => absurd h (Nat.not_lt_zero _)
  | n + 1, f, d, hd, h => by
    unfold sumN
    by_cases e : d = n
    · subst e
      rw [sumN_zero d f (fun k hk => h k (by omega) (by omega)), Nat.zero_add]
    · rw [sumN_one n f d (by omega) (fun k hk hne => h k (by omega) hne), h n (by omega) (fun x => e x.symm)]
      omega

theorem flat_sum {α β : Type} : ∀ (M : List α) (f : α → List β), (M.flatMap f).length = sumL M (fun e => (f e).length)
  | [], _ => rfl
  | e :: r, f => by
    rw [List.flatMap_cons, List.length_append, flat_sum r f]
    rfl
theorem sumL_congr {α : Type} : ∀ (M : List α) (f g : α → Nat), (∀ e ∈ M, f e = g e) → sumL M f = sumL M g
  | [], _, _, _ => rfl
  | e :: r, f, g, h => by
    unfold sumL
    rw [sumL_congr r f g (fun x hx => h x (List.mem_cons_of_mem _ hx)), h e List.mem_cons_self]
theorem sumL_ones {α : Type} : ∀ (M : List α) (f : α → Nat), sumL M (fun e => 1 + f e) = M.length + sumL M f
  | [], _ => rfl
  | e :: r, f => by
    show 1 + f e + sumL r (fun e => 1 + f e) = (e :: r).length + (f e + sumL r f)
    rw [sumL_ones r f, List.length_cons]
    omega
theorem sumL_zero {α : Type} : ∀ (M : List α) (f : α → Nat), (∀ e ∈ M, f e = 0) → sumL M f = 0
  | [], _, _ => rfl
  | e :: r, f, h => by
    unfold sumL
    rw [sumL_zero r f (fun x hx => h x (List.mem_cons_of_mem _ hx)), h e List.mem_cons_self]
theorem sum_swap {α : Type} (n : Nat) (c : Nat → Nat) : ∀ (M : List α) (g : α → Nat → Nat), sumL M (fun e => sumN n (fun k => g e k * c k)) = sumN n (fun k => sumL M (fun e => g e k) * c k)
  | [], g => (sumN_zero n _ (fun k _ => by simp [sumL])).symm
  | e :: r, g => by
    unfold sumL
    rw [sum_swap n c r g, ← sumN_add]
    exact sumN_congr n _ _ (fun k _ => by rw [Nat.add_mul])

theorem kids_sum : ∀ L : List Ino, (kidsOf L).length = sumN L.length (fun k => (nodeAt L (k : Int)).kids.length) := by
  intro L
  have h : ∀ n, n ≤ L.length → (kidsOf (L.take n)).length = sumN n (fun k => (nodeAt L (k : Int)).kids.length) := by
    intro n
    induction n with
    | zero => intro _; rfl
    | succ n ih =>
      intro hn
      rw [kidsOf_take L n (by omega), List.length_append, ih (by omega)]
      show _ = sumN n _ + (nodeAt L (n : Int)).kids.length
      rw [node_nat L n (by omega)]
  have h2 := h L.length (Nat.le_refl _)
  rw [List.take_length] at h2
  exact h2

/-- k lies in d, at whatever depth, or is d. -/
def Anc (L : List Ino) (d k : Int) : Prop := dirB L k = true ∧ ∃ i j, Rk L d j ∧ Rk L k (i + j) ∧ upN L i k = d

open Classical in
theorem anc_count {L : List Ino} {m b : Int} (hF : FitP L m b) {d : Nat} (hd : d < L.length) (hdir : dirB L (d : Int) = true) {j : Nat} (hj : Rk L (d : Int) j) (k : Nat) (_hk : k < L.length) :
    (if Anc L (d : Int) (k : Int) then 1 else 0) = (if k = d then 1 else 0) + sumL L[d].kids (fun e => if dirB L e.2 = true ∧ Anc L e.2 (k : Int) then 1 else 0) := by
  have hkid : ∀ e ∈ L[d].kids, dirB L e.2 = true → Rk L e.2 (j + 1) ∧ (nodeAt L e.2).up = (d : Int) := fun e he h => ⟨rk_down hj (name_pos hF hd he) (hF.names.1 d hd e he h), hF.names.1 d hd e he h⟩
  by_cases hkd : k = d
  · subst hkd
    rw [if_pos ⟨hdir, 0, j, hj, by rw [Nat.zero_add]; exact hj, rfl⟩, if_pos rfl, sumL_zero]
    intro e he
    rw [if_neg]
    rintro ⟨h1, -, i, j', hr, hrk, -⟩
    have e1 := rk_one hr (hkid e he h1).1
    have e2 := rk_one hrk hj
    omega
  · rw [if_neg hkd, Nat.zero_add]
    by_cases hA : Anc L (d : Int) (k : Int)
    · rw [if_pos hA]
      obtain ⟨hkdir, i, j', hr, hrk, hup⟩ := hA
      obtain rfl := rk_one hr hj
      cases i with
      | zero =>
        have : (k : Int) = (d : Int) := hup
        exact absurd (by omega) hkd
      | succ i =>
        obtain ⟨c, hc⟩ : ∃ c, c = upN L i (k : Int) := ⟨_, rfl⟩
        rw [up_next, ← hc] at hup
        have hc0 : c ≠ 0 := by rw [hc]; exact hrk.2 i (by omega)
        have hcd : dirB L c = true := by rw [hc]; exact ups_of hF i _ hkdir
        have hone := one_name hF hd hcd hc0 hup
        rw [names_sum] at hone
        refine hone.symm.trans (sumL_congr _ _ _ fun e he => ?_)
        by_cases hec : e.2 = c
        · rw [if_pos hec, if_pos]
          rw [hec]
          exact ⟨hcd, hkdir, i, j' + 1, rk_down hr hc0 hup, by rw [show i + (j' + 1) = i + 1 + j' by omega]; exact hrk, hc.symm⟩
        · rw [if_neg hec, if_neg]
          rintro ⟨h1, -, i2, j2, hr2, hrk2, hup2⟩
          have e1 := rk_one hr2 (hkid e he h1).1
          have e2 := rk_one hrk2 hrk
          have e3 : i2 = i := by omega
          subst e3
          exact hec (hup2.symm.trans hc.symm)
    · rw [if_neg hA, sumL_zero]
      intro e he
      rw [if_neg]
      rintro ⟨h1, hkdir, i, j', hr, hrk, hup⟩
      have e1 := rk_one hr (hkid e he h1).1
      refine hA ⟨hkdir, i + 1, j, hj, by rw [show i + 1 + j = i + j' by omega]; exact hrk, ?_⟩
      rw [up_next, hup]
      exact (hkid e he h1).2

open Classical in
theorem list_len {L : List Ino} {m b : Int} (hF : FitP L m b) : ∀ (f : Nat) (d : Nat) (j : Nat) (p : List UInt8) (_ : d < L.length), dirB L (d : Int) = true → Rk L (d : Int) j → L.length ≤ f + j →
    (listGo L f (d : Int) p).length = sumN L.length (fun k => (if Anc L (d : Int) (k : Int) then 1 else 0) * (nodeAt L (k : Int)).kids.length)
  | 0, d, j, p, hd, hdir, hr, hj => absurd (rk_lt hF.leads hdir hr) (by omega)
  | f + 1, d, j, p, hd, hdir, hr, hj => by
    rw [list_succ, flat_sum, node_nat L d hd]
    have h1 : sumL L[d].kids (fun e => (listOne L f p e).length) = sumL L[d].kids (fun e => 1 + sumN L.length (fun k => (if dirB L e.2 = true ∧ Anc L e.2 (k : Int) then 1 else 0) * (nodeAt L (k : Int)).kids.length)) := by
      refine sumL_congr _ _ _ fun e he => ?_
      have ht := (name_of hF.ins hd he).2
      unfold listOne
      rw [List.length_cons, Nat.add_comm]
      congr 1
      by_cases h2 : (nodeAt L e.2).kind = 2
      · have hde : dirB L e.2 = true := by unfold dirB; rw [ht, h2]; rfl
        rw [if_pos h2]
        have hup := hF.names.1 d hd e he hde
        have hrk := rk_down hr (name_pos hF hd he) hup
        obtain ⟨u, hu, hul⟩ := dir_lt hde
        rw [hu] at hde hrk ⊢
        rw [list_len hF f u (j + 1) _ hul hde hrk (by omega)]
        refine sumN_congr _ _ _ fun k _ => ?_
        congr 1
        simp only [hde, true_and]
      · have hde : ¬ dirB L e.2 = true := fun h => by
          unfold dirB at h
          rw [ht] at h
          exact h2 (by simpa using h)
        rw [if_neg h2]
        refine (sumN_zero _ _ fun k _ => ?_).symm
        rw [if_neg (fun h => hde h.1), Nat.zero_mul]
    rw [h1, sumL_ones, sum_swap]
    have h2 : L[d].kids.length = sumN L.length (fun k => (if k = d then 1 else 0) * (nodeAt L (k : Int)).kids.length) := by
      rw [sumN_one L.length _ d hd (fun k _ hne => by rw [if_neg hne, Nat.zero_mul]), if_pos rfl, Nat.one_mul, node_nat L d hd]
    rw [h2, ← sumN_add]
    refine sumN_congr _ _ _ fun k hk => ?_
    rw [anc_count hF hd hdir hr k hk, Nat.add_mul]

open Classical in
/-- There are as many paths as names. -/
theorem list_count {L : List Ino} {m b : Int} (hF : FitP L m b) : (listGo L (L.length + 1) 0 []).length = (kidsOf L).length := by
  obtain ⟨z, hz, hl⟩ := dir_lt hF.root
  have hz0 : z = 0 := by omega
  subst hz0
  have h := list_len hF (L.length + 1) 0 0 [] hl hF.root (rk_root L) (by omega)
  refine (show _ = _ from h).trans ?_
  rw [kids_sum]
  refine sumN_congr _ _ _ fun k hk => ?_
  by_cases hne : L[k].kids = []
  · rw [node_nat L k hk, hne]
    simp
  · have hkd : dirB L (k : Int) = true := (dir_nat hk).2 (dir_of_kids (hF.ins k hk).1 hne)
    obtain ⟨j, hj⟩ := rk_of L.length ((leads_iff L _ _).1 (hF.leads k hk hkd))
    rw [if_pos ⟨hkd, j, 0, rk_root L, hj, hj.1⟩, Nat.one_mul]

theorem kids_set_len : ∀ (L : List Ino) (k : Nat) (h : k < L.length) (x : Ino), (kidsOf (L.set k x)).length + L[k].kids.length = (kidsOf L).length + x.kids.length
  | y :: r, 0, _, x => by
    show (x.kids ++ kidsOf r).length + y.kids.length = (y.kids ++ kidsOf r).length + _
    rw [List.length_append, List.length_append]
    omega
  | y :: r, k + 1, h, x => by
    have ih := kids_set_len r k (Nat.lt_of_succ_lt_succ h) x
    show (y.kids ++ kidsOf (r.set k x)).length + (r[k]'(Nat.lt_of_succ_lt_succ h)).kids.length = (y.kids ++ kidsOf r).length + _
    rw [List.length_append, List.length_append]
    omega
theorem Adds.count1 {L : List Ino} {m b : Int} {d k : Nat} {s : List UInt8} {x : Ino} (h : Adds L m b d k s x) : (kidsOf (addL L d k s x)).length = (kidsOf L).length + 1 := by
  have h1 := kids_set_len L k h.klt x
  have hd : d < (L.set k x).length := by rw [List.length_set]; exact h.dlt
  have h2 := kids_set_len (L.set k x) d hd (withKids (nodeAt L d) (namedL (nodeAt L d).kids s k))
  have e1 : (L.set k x)[d] = L[d]'h.dlt := by rw [List.getElem_set, if_neg (fun e => h.ne e.symm)]
  rw [e1] at h2
  have h3 : (namedL (nodeAt L d).kids s k).length = (nodeAt L d).kids.length + 1 := named_len (k : Int) (by rw [node_nat L d h.dlt]; exact h.new)
  have h4 : (kidsOf (addL L d k s x)).length + (L[d]'h.dlt).kids.length = (kidsOf (L.set k x)).length + (namedL (nodeAt L d).kids s k).length := h2
  rw [h3, node_nat L d h.dlt] at h4
  rw [free_kids h.fit h.klt h.nodir, h.kids] at h1
  simp only [List.length_nil] at h1
  omega
/-- One path more. -/
theorem Adds.paths1 {L : List Ino} {m b : Int} {d k : Nat} {s : List UInt8} {x : Ino} (h : Adds L m b d k s x) : (listGo (addL L d k s x) ((addL L d k s x).length + 1) 0 []).length = (listGo L (L.length + 1) 0 []).length + 1 := by
  rw [list_count h.fits, list_count h.fit, h.count1]
theorem few_paths {L : List Ino} {m b : Int} (hF : FitP L m b) : (listGo L (L.length + 1) 0 []).length ≤ 262144 := by
  rw [list_count hF]
  have h2 : ∀ (l : List Ino), (∀ x ∈ l, x.kids.length ≤ 1024) → (kidsOf l).length ≤ 1024 * l.length := fun l => by
    induction l with
    | nil => exact fun _ => Nat.le_refl _
    | cons x r ih =>
      intro h
      have e1 := ih (fun y hy => h y (List.mem_cons_of_mem _ hy))
      have e2 := h x List.mem_cons_self
      show (x.kids ++ kidsOf r).length ≤ 1024 * (r.length + 1)
      rw [List.length_append]
      omega
  have h4 := h2 L (fun x hx => by obtain ⟨j, hj, rfl⟩ := List.getElem_of_mem hx; exact (hF.ins j hj).2.1)
  obtain ⟨l1, l2, l3, l4, l5⟩ := hF.limits
  omega
end Go.Proofs.YtmaiphibpdngnaaGreat
