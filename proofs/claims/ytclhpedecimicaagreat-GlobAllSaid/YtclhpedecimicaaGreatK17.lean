/-
  Plain laws on new trees: they can be, and use just their root.
  Trees with a new inode, one more name, another mode, in plain words: they stay fit.
  Trees whose inodes lie in one block that may be written, whatever their names' slices are: for both sides of drop.
  What is written into trees that lie in one block; trees behind stores into boxes; what a call of the reference leaves.
  The reference's Own and Same: a copy of a tree; trees that are alike.
-/
import Derived.Test.YtclhpedecimicaaGreatK11
import Derived.Test.YtclhpedecimicaaGreatK15
import Derived.Test.YtclhpedecimicaaGreatTPlain3
import Derived.Test.YtclhpedecimicaaGreatK12
namespace Go.Proofs.YtclhpedecimicaaGreat
set_option maxRecDepth 100000
open Go Go.RowKit

theorem new_len {n : Nat} (b : Int) (h : 1 ≤ n) : (newT n b).nodes.length = n := by show (rootIno :: List.replicate (n - 1) noIno).length = n; simp; omega
theorem new_at {n : Nat} (b : Int) (k : Nat) (hk : k < (newT n b).nodes.length) : (newT n b).nodes[k] = if k = 0 then rootIno else noIno := by
  cases k with
  | zero => rfl
  | succ k =>
    rw [if_neg (by omega)]
    have e : ∀ (M : List Ino) (h : k + 1 < M.length), M = rootIno :: List.replicate (n - 1) noIno → M[k + 1] = noIno := by
      intro M h hM
      subst hM
      simp
    exact e _ hk rfl
theorem new_kids {n : Nat} (b : Int) (k : Nat) (hk : k < (newT n b).nodes.length) : (newT n b).nodes[k].kids = [] := by
  rw [new_at]
  split <;> rfl
theorem new_kidsOf (n : Nat) (b : Int) : kidsOf (newT n b).nodes = [] := by
  unfold kidsOf
  rw [List.flatMap_eq_nil_iff]
  intro x hx
  obtain ⟨k, hk, rfl⟩ := List.getElem_of_mem hx
  exact new_kids b k hk
theorem used_rep : ∀ n : Nat, usedN (List.replicate n noIno) = 0 ∧ usedB (List.replicate n noIno) = 0
  | 0 => ⟨rfl, rfl⟩
  | n + 1 => by
    have h := used_rep n
    rw [List.replicate_succ]
    exact ⟨by simp only [usedN, h.1]; rfl, by simp only [usedB, h.2]; rfl⟩
theorem new_usedN (n : Nat) (b : Int) : usedN (newT n b).nodes = 1 := by
  show usedN (rootIno :: List.replicate (n - 1) noIno) = 1
  simp only [usedN, (used_rep (n - 1)).1]
  rfl
theorem new_usedB (n : Nat) (b : Int) : usedB (newT n b).nodes = 0 := by
  show usedB (rootIno :: List.replicate (n - 1) noIno) = 0
  simp only [usedB, (used_rep (n - 1)).2]
  rfl
theorem new_fit {n : Nat} {b : Int} (h1 : 1 ≤ n) (h2 : n ≤ 256) (h3 : 0 ≤ b) (h4 : b ≤ 65536) : FitP (newT n b).nodes (n : Int) b := by
  have hl := new_len b h1
  have hI : AllFit (newT n b).nodes := fun k hk => by
    rw [new_kids]
    refine ⟨?_, Nat.zero_le _, fun i hi => absurd hi (Nat.not_lt_zero _)⟩
    rw [new_at]
    split <;> rfl
  have hdir : ∀ k (hk : k < (newT n b).nodes.length), dirB (newT n b).nodes (k : Int) = true → k = 0 := fun k hk hd => by
    have h5 := (dir_nat hk).1 hd
    rw [new_at] at h5
    by_cases e : k = 0
    · exact e
    · rw [if_neg e] at h5
      cases h5
  refine ⟨⟨by omega, by omega, by omega, by rw [new_usedB]; omega, h4⟩, ?_, rfl, hI, ⟨fun d hd e he => ?_, fun k hk => ?_⟩, fun k hk hd => ?_⟩
  · exact (dir_nat (L := (newT n b).nodes) (n := 0) (by omega)).2 rfl
  · rw [new_kids] at he
    cases he
  · have hc : (countL (newT n b).nodes)[k]'(by rw [countL_len]; exact hk) = 0 := by
      rw [countL_get _ (kids_pos (kids_there hI)) k hk, new_kidsOf]
      rfl
    rw [hc]
    refine ⟨by rw [new_at]; split <;> rfl, ?_⟩
    unfold MayHave
    rw [if_pos]
    rw [new_at]
    by_cases e : k = 0
    · exact Or.inl (by omega)
    · rw [if_neg e]
      exact Or.inr rfl
  · have e := hdir k hk hd
    subst e
    rw [hl]
    obtain ⟨t, rfl⟩ : ∃ t, n = t + 1 := ⟨n - 1, by omega⟩
    rfl
theorem new_sized (n : Nat) (b : Int) : Sized (newT n b).nodes := fun k hk => by
  rw [new_kids]
  refine ⟨?_, fun e he => by cases he⟩
  rw [new_at]
  split <;> exact Nat.zero_le _
theorem new_short (n : Nat) (b : Int) : Short64 (newT n b).nodes := fun k hk => by
  rw [new_kids]
  exact ⟨Nat.zero_le _, fun e he => by cases he⟩
theorem new_kid (n : Nat) (b : Int) (s : List UInt8) : kidL (newT n b).nodes 0 s = -1 := by
  unfold kidL
  split
  · rfl
  · rfl
end Go.Proofs.YtclhpedecimicaaGreat

namespace Go.Proofs.YtclhpedecimicaaGreat
set_option maxRecDepth 100000
open Go Go.RowKit

/-- Names with one more, in its place. -/
def namedL : List (List UInt8 × Int) → List UInt8 → Int → List (List UInt8 × Int)
  | [], s, k => [(s, k)]
  | e :: r, s, k => if Op.bytesLess e.1 s = true then e :: namedL r s k else (s, k) :: (e :: r).filter fun e => e.1 != s

theorem less_or {a b : List UInt8} (h1 : ¬ Op.bytesLess a b = true) (h2 : a ≠ b) : Op.bytesLess b a = true := by
  rcases cmp_cases a b with ⟨-, h⟩ | ⟨-, h⟩ | ⟨-, h⟩
  · exact absurd h h1
  · exact absurd h h2
  · exact h
theorem filter_out {M : List (List UInt8 × Int)} {s : List UInt8} (h : ∀ e ∈ M, e.1 ≠ s) : M.filter (fun e => e.1 != s) = M := List.filter_eq_self.2 fun e he => by simpa using h e he
theorem named_at : ∀ (M : List (List UInt8 × Int)) (s : List UInt8) (k : Int), (∀ e ∈ M, e.1 ≠ s) → ∃ A B, M = A ++ B ∧ namedL M s k = A ++ (s, k) :: B ∧ (∀ e ∈ A, Op.bytesLess e.1 s = true) ∧ ∀ e r, B = e :: r → Op.bytesLess s e.1 = true
  | [], s, k, _ => ⟨[], [], rfl, rfl, (fun _ h => by cases h), (fun _ _ h => by cases h)⟩
  | e :: r, s, k, h => by
    rw [namedL]
    by_cases hl : Op.bytesLess e.1 s = true
    · obtain ⟨A, B, h1, h2, h3, h4⟩ := named_at r s k (fun x hx => h x (List.mem_cons_of_mem _ hx))
      rw [if_pos hl, h2]
      refine ⟨e :: A, B, by rw [h1]; rfl, rfl, fun x hx => ?_, h4⟩
      rcases List.mem_cons.1 hx with rfl | hx
      · exact hl
      · exact h3 x hx
    · rw [if_neg hl, filter_out h]
      refine ⟨[], e :: r, rfl, rfl, (fun _ h => by cases h), fun x y hxy => ?_⟩
      cases hxy
      exact less_or hl (h e List.mem_cons_self)
theorem named_len {M : List (List UInt8 × Int)} {s : List UInt8} (k : Int) (h : ∀ e ∈ M, e.1 ≠ s) : (namedL M s k).length = M.length + 1 := by
  obtain ⟨A, B, h1, h2, -, -⟩ := named_at M s k h
  rw [h2, h1, List.length_append, List.length_append, List.length_cons]
  omega
theorem named_mem {M : List (List UInt8 × Int)} {s : List UInt8} (k : Int) (h : ∀ e ∈ M, e.1 ≠ s) {e : List UInt8 × Int} : e ∈ namedL M s k ↔ e = (s, k) ∨ e ∈ M := by
  obtain ⟨A, B, h1, h2, -, -⟩ := named_at M s k h
  rw [h2, h1, List.mem_append, List.mem_append, List.mem_cons]
  constructor
  · rintro (h | h | h)
    · exact Or.inr (Or.inl h)
    · exact Or.inl h
    · exact Or.inr (Or.inr h)
  · rintro (h | h | h)
    · exact Or.inr (Or.inl h)
    · exact Or.inl h
    · exact Or.inr (Or.inr h)
theorem names_one (e : List UInt8 × Int) (c : Int) : namesOf [e] c = if e.2 = c then 1 else 0 := by rw [names_cons]; rfl
theorem named_names {M : List (List UInt8 × Int)} {s : List UInt8} (k : Int) (h : ∀ e ∈ M, e.1 ≠ s) (c : Int) : namesOf (namedL M s k) c = namesOf M c + (if k = c then 1 else 0) := by
  obtain ⟨A, B, h1, h2, -, -⟩ := named_at M s k h
  rw [h2, h1, names_app, names_app, names_cons]
  show _ + ((if k = c then 1 else 0) + _) = _
  omega

/-! ### Rising names, as pairs -/

theorem rises_pair (M : List (List UInt8 × Int)) : Rises M ↔ M.Pairwise fun a b => Op.bytesLess a.1 b.1 = true := by
  constructor
  · intro h
    rw [List.pairwise_iff_getElem]
    intro i j hi hj hij
    exact h.lt i j hj hij
  · intro h k hk t ht
    subst ht
    exact (List.pairwise_iff_getElem.1 h) t (t + 1) (by omega) hk (by omega)
theorem named_rises {M : List (List UInt8 × Int)} {s : List UInt8} (k : Int) (h : ∀ e ∈ M, e.1 ≠ s) (hR : Rises M) : Rises (namedL M s k) := by
  obtain ⟨A, B, h1, h2, h3, h4⟩ := named_at M s k h
  rw [rises_pair] at hR ⊢
  rw [h1, List.pairwise_append] at hR
  obtain ⟨hA, hB, hAB⟩ := hR
  rw [h2, List.pairwise_append, List.pairwise_cons]
  refine ⟨hA, ⟨fun x hx => ?_, hB⟩, fun a ha x hx => ?_⟩
  · cases B with
    | nil => cases hx
    | cons e r =>
      have he := h4 e r rfl
      rcases List.mem_cons.1 hx with rfl | hx
      · exact he
      · exact less_trans _ _ _ he ((List.pairwise_cons.1 hB).1 x hx)
  · rcases List.mem_cons.1 hx with rfl | hx
    · exact h3 a ha
    · exact hAB a ha x hx

/-! ### One inode put in another's place -/

theorem names_set : ∀ (L : List Ino) (k : Nat) (h : k < L.length) (x : Ino) (c : Int), namesOf (kidsOf (L.set k x)) c + namesOf L[k].kids c = namesOf (kidsOf L) c + namesOf x.kids c
  | y :: r, 0, _, x, c => by
    show namesOf (x.kids ++ kidsOf r) c + namesOf y.kids c = namesOf (y.kids ++ kidsOf r) c + _
    rw [names_app, names_app]
    omega
  | y :: r, k + 1, h, x, c => by
    have ih := names_set r k (Nat.lt_of_succ_lt_succ h) x c
    show namesOf (y.kids ++ kidsOf (r.set k x)) c + namesOf (r[k]'(Nat.lt_of_succ_lt_succ h)).kids c = namesOf (y.kids ++ kidsOf r) c + _
    rw [names_app, names_app]
    omega
theorem usedB_set : ∀ (L : List Ino) (k : Nat) (h : k < L.length) (x : Ino), usedB (L.set k x) + L[k].data.length = usedB L + x.data.length
  | y :: r, 0, _, x => by
    show x.data.length + usedB r + y.data.length = y.data.length + usedB r + _
    omega
  | y :: r, k + 1, h, x => by
    have ih := usedB_set r k (Nat.lt_of_succ_lt_succ h) x
    show y.data.length + usedB (r.set k x) + (r[k]'(Nat.lt_of_succ_lt_succ h)).data.length = y.data.length + usedB r + _
    omega
theorem there_set (L : List Ino) (k : Nat) (x : Ino) (c : Int) : thereB (L.set k x) c = thereB L c := by
  unfold thereB
  rw [List.length_set]

def withKids (y : Ino) (M : List (List UInt8 × Int)) : Ino := { y with kids := M }
/-- A tree in which inode k is x, and the directory d has the name s of it besides. -/
def addL (L : List Ino) (d k : Nat) (s : List UInt8) (x : Ino) : List Ino := (L.set k x).set d (withKids (nodeAt L d) (namedL (nodeAt L d).kids s k))
theorem add_len (L : List Ino) (d k : Nat) (s : List UInt8) (x : Ino) : (addL L d k s x).length = L.length := by unfold addL; rw [List.length_set, List.length_set]
theorem add_get {L : List Ino} {d k : Nat} (hd : d < L.length) (s : List UInt8) (x : Ino) (j : Nat) (hj : j < L.length) :
    (addL L d k s x)[j]'(by rw [add_len]; exact hj) = if d = j then withKids L[d] (namedL L[d].kids s k) else if k = j then x else L[j] := by
  simp only [addL, List.getElem_set, node_nat L d hd]
theorem add_node {L : List Ino} {d k : Nat} (hd : d < L.length) (s : List UInt8) (x : Ino) (j : Nat) (hj : j < L.length) :
    nodeAt (addL L d k s x) (j : Int) = if d = j then withKids L[d] (namedL L[d].kids s k) else if k = j then x else L[j] := by
  rw [node_nat _ j (by rw [add_len]; exact hj)]
  exact add_get hd s x j hj
theorem add_there (L : List Ino) (d k : Nat) (s : List UInt8) (x : Ino) (c : Int) : thereB (addL L d k s x) c = thereB L c := by
  unfold thereB
  rw [add_len]

/-- What is asked of an inode that gets a name more, or is new. -/
structure Adds (L : List Ino) (m b : Int) (d k : Nat) (s : List UInt8) (x : Ino) : Prop where
  fit : FitP L m b
  dlt : d < L.length
  dir : L[d].kind = 2
  klt : k < L.length
  nodir : L[k].kind ≠ 2
  name : nameOkL s = true
  new : ∀ e ∈ L[d].kids, e.1 ≠ s
  room : L[d].kids.length < 1024
  alone : aloneB x = true
  used : x.kind ≠ 0
  kids : x.kids = []
  links : x.links = L[k].links + 1
  up : x.kind = 2 → x.up = d ∧ L[k].kind = 0
  bytes : (usedB L : Int) + x.data.length ≤ b + L[k].data.length

section
variable {L : List Ino} {m b : Int} {d k : Nat} {s : List UInt8} {x : Ino}
theorem Adds.ne (h : Adds L m b d k s x) : d ≠ k := fun e => by
  have h1 := h.dir
  subst e
  exact h.nodir h1
theorem free_kids (hF : FitP L m b) (hk : k < L.length) (h : L[k].kind ≠ 2) : L[k].kids = [] := by
  cases hq : L[k].kids with
  | nil => rfl
  | cons e r => exact absurd (dir_of_kids (hF.ins k hk).1 (by rw [hq]; simp)) h
theorem Adds.names (h : Adds L m b d k s x) (c : Int) : namesOf (kidsOf (addL L d k s x)) c = namesOf (kidsOf L) c + (if (k : Int) = c then 1 else 0) := by
  have h1 := names_set L k h.klt x c
  have hd : d < (L.set k x).length := by rw [List.length_set]; exact h.dlt
  have h2 := names_set (L.set k x) d hd (withKids (nodeAt L d) (namedL (nodeAt L d).kids s k)) c
  have e1 : (L.set k x)[d] = L[d]'h.dlt := by rw [List.getElem_set, if_neg (fun e => h.ne e.symm)]
  rw [e1] at h2
  have h3 : namesOf (namedL (nodeAt L d).kids s k) c = namesOf (nodeAt L d).kids c + (if (k : Int) = c then 1 else 0) := named_names (k : Int) (by rw [node_nat L d h.dlt]; exact h.new) c
  have h4 : namesOf (kidsOf (addL L d k s x)) c + namesOf (L[d]'h.dlt).kids c = namesOf (kidsOf (L.set k x)) c + namesOf (namedL (nodeAt L d).kids s k) c := h2
  rw [h3, node_nat L d h.dlt] at h4
  rw [free_kids h.fit h.klt h.nodir, h.kids] at h1
  omega
theorem Adds.bytesUsed (h : Adds L m b d k s x) : usedB (addL L d k s x) + (L[k]'h.klt).data.length = usedB L + x.data.length := by
  have h1 := usedB_set L k h.klt x
  have hd : d < (L.set k x).length := by rw [List.length_set]; exact h.dlt
  have h2 := usedB_set (L.set k x) d hd (withKids (nodeAt L d) (namedL (nodeAt L d).kids s k))
  have e1 : (L.set k x)[d] = L[d]'h.dlt := by rw [List.getElem_set, if_neg (fun e => h.ne e.symm)]
  rw [e1] at h2
  have h4 : usedB (addL L d k s x) + (L[d]'h.dlt).data.length = usedB (L.set k x) + (nodeAt L d).data.length := h2
  rw [node_nat L d h.dlt] at h4
  omega
theorem Adds.node (h : Adds L m b d k s x) (j : Nat) (hj : j < L.length) (hjk : j ≠ k) : (nodeAt (addL L d k s x) (j : Int)).kind = L[j].kind ∧ (nodeAt (addL L d k s x) (j : Int)).up = L[j].up ∧ (nodeAt (addL L d k s x) (j : Int)).links = L[j].links := by
  rw [add_node h.dlt s x j hj]
  by_cases e : d = j
  · subst e
    rw [if_pos rfl]
    exact ⟨rfl, rfl, rfl⟩
  · rw [if_neg e, if_neg (fun e => hjk e.symm)]
    exact ⟨rfl, rfl, rfl⟩
theorem Adds.nodeK (h : Adds L m b d k s x) : nodeAt (addL L d k s x) (k : Int) = x := by rw [add_node h.dlt s x k h.klt, if_neg h.ne, if_pos rfl]
theorem Adds.dirs (h : Adds L m b d k s x) {c : Int} (hc : c ≠ (k : Int)) : dirB (addL L d k s x) c = dirB L c := by
  unfold dirB
  rw [add_there]
  cases ht : thereB L c with
  | false => rfl
  | true =>
    obtain ⟨j, rfl, hj⟩ := there_nat ht
    rw [(h.node j hj (fun e => hc (by rw [e]))).1, node_nat L j hj]
theorem Adds.ins (h : Adds L m b d k s x) : AllFit (addL L d k s x) := fun j hj => by
  rw [add_len] at hj
  rw [add_get h.dlt s x j hj]
  by_cases e : d = j
  · subst e
    rw [if_pos rfl]
    have hI := h.fit.ins d h.dlt
    refine ⟨?_, ?_, fun i hi => ?_⟩
    · have h1 := hI.1
      unfold aloneB at h1 ⊢
      simpa [withKids, h.dir] using h1
    · show (namedL L[d].kids s k).length ≤ 1024
      rw [named_len _ h.new]
      have := h.room
      omega
    · have hR := named_rises (k : Int) h.new (kids_rise h.fit.ins d h.dlt).2
      have hi' : i < (namedL L[d].kids s k).length := hi
      have hm : (namedL L[d].kids s k)[i] ∈ namedL L[d].kids s k := List.getElem_mem _
      rw [named_mem (k : Int) h.new] at hm
      refine ⟨?_, fun t ht => hR i hi' t ht, ?_⟩
      · show nameOkL (namedL L[d].kids s k)[i].1 = true
        rcases hm with hm | hm
        · rw [hm]; exact h.name
        · exact (name_of h.fit.ins h.dlt hm).1
      · show thereB (addL L d k s x) (namedL L[d].kids s k)[i].2 = true
        rw [add_there]
        rcases hm with hm | hm
        · rw [hm]; exact there_of L k h.klt
        · exact (name_of h.fit.ins h.dlt hm).2
  · rw [if_neg e]
    by_cases e2 : k = j
    · rw [if_pos e2]
      refine ⟨h.alone, by rw [h.kids]; exact Nat.zero_le _, fun i hi => ?_⟩
      rw [h.kids] at hi
      exact absurd hi (Nat.not_lt_zero _)
    · rw [if_neg e2]
      have hI := h.fit.ins j hj
      exact ⟨hI.1, hI.2.1, fun i hi => ⟨(hI.2.2 i hi).name, (hI.2.2 i hi).order, by rw [add_there]; exact (hI.2.2 i hi).there⟩⟩
theorem Adds.count (h : Adds L m b d k s x) (j : Nat) (hj : j < L.length) : (countL (addL L d k s x))[j]'(by rw [countL_len, add_len]; exact hj) = (namesOf (kidsOf L) j : Int) + (if k = j then 1 else 0) := by
  rw [countL_get _ (kids_pos (kids_there h.ins)) j (by rw [add_len]; exact hj), h.names]
  by_cases e : k = j
  · rw [if_pos e, if_pos (by rw [e])]; rfl
  · rw [if_neg e, if_neg (fun e2 => e (by omega))]; rfl
theorem Adds.count0 (h : Adds L m b d k s x) : (L[k]'h.klt).links = (namesOf (kidsOf L) k : Int) := by
  rw [(h.fit.names.2 k h.klt).1, countL_get L (kids_pos (kids_there h.fit.ins)) k h.klt]
theorem Adds.noname (h : Adds L m b d k s x) (hx : x.kind = 2) : ∀ e ∈ kidsOf L, e.2 ≠ (k : Int) := fun e he ek => by
  have h0 := (h.up hx).2
  have hm := (h.fit.names.2 k h.klt).2
  rw [countL_get L (kids_pos (kids_there h.fit.ins)) k h.klt] at hm
  unfold MayHave at hm
  rw [if_pos (Or.inr h0)] at hm
  have := names_pos he
  rw [ek] at this
  omega
theorem Adds.upfits (h : Adds L m b d k s x) : UpFits (addL L d k s x) := fun d' hd' e he hdir => by
  rw [add_len] at hd'
  have old : ∀ (c : Nat) (hc : c < L.length), e ∈ L[c].kids → (nodeAt (addL L d k s x) e.2).up = (c : Int) := fun c hc he2 => by
    have hk : e ∈ kidsOf L := mem_kidsOf.2 ⟨c, hc, he2⟩
    by_cases ek : e.2 = (k : Int)
    · rw [ek] at hdir
      have hx : x.kind = 2 := by
        have := node_kind_of hdir
        rw [h.nodeK] at this
        exact this
      exact absurd ek (h.noname hx e hk)
    · rw [h.dirs ek] at hdir
      obtain ⟨j, hj1, hj⟩ := dir_lt hdir
      have h2 := h.fit.names.1 c hc e he2 hdir
      rw [hj1] at h2 ek ⊢
      rw [(h.node j hj (fun e3 => ek (by rw [e3]))).2.1, ← node_nat L j hj]
      exact h2
  rw [add_get h.dlt s x d' hd'] at he
  by_cases e1 : d = d'
  · subst e1
    rw [if_pos rfl] at he
    have he' : e ∈ namedL L[d].kids s k := he
    rw [named_mem (k : Int) h.new] at he'
    rcases he' with he' | he'
    · rw [he'] at hdir ⊢
      have hx : x.kind = 2 := by
        have := node_kind_of hdir
        rw [h.nodeK] at this
        exact this
      rw [h.nodeK]
      exact (h.up hx).1
    · exact old d h.dlt he'
  · rw [if_neg e1] at he
    by_cases e2 : k = d'
    · rw [if_pos e2, h.kids] at he
      cases he
    · rw [if_neg e2] at he
      exact old d' hd' he
theorem Adds.linksfit (h : Adds L m b d k s x) : LinksFit (addL L d k s x) := fun j hj => by
  have hj' := hj
  rw [add_len] at hj'
  rw [h.count j hj']
  obtain ⟨h1, h2⟩ := h.fit.names.2 j hj'
  rw [countL_get L (kids_pos (kids_there h.fit.ins)) j hj'] at h1 h2
  have hn := node_nat (addL L d k s x) j hj
  by_cases e : k = j
  · subst e
    rw [if_pos rfl, ← hn, h.nodeK]
    refine ⟨by rw [h.links, h1], ?_⟩
    have hk0 : k ≠ 0 := fun e0 => by
      subst e0
      have hr := h.fit.root
      have hr2 : L[0].kind = 2 := (dir_nat (n := 0) h.klt).1 hr
      exact h.nodir hr2
    unfold MayHave
    rw [if_neg (by rintro (e0 | e0); exact hk0 (by omega); exact h.used e0)]
    split
    · rename_i hx
      unfold MayHave at h2
      rw [if_pos (Or.inr (h.up hx).2)] at h2
      omega
    · omega
  · obtain ⟨n1, n2, n3⟩ := h.node j hj' (fun e2 => e e2.symm)
    rw [hn] at n1 n3
    rw [if_neg e, n1, n3, Int.add_zero]
    exact ⟨h1, h2⟩
theorem Adds.root (h : Adds L m b d k s x) : dirB (addL L d k s x) 0 = true ∧ (nodeAt (addL L d k s x) 0).up = 0 := by
  have hp : 0 < L.length := Nat.lt_of_le_of_lt (Nat.zero_le _) h.klt
  have hr2 : L[0].kind = 2 := (dir_nat (n := 0) hp).1 h.fit.root
  have hk0 : 0 ≠ k := fun e0 => by
    subst e0
    exact h.nodir hr2
  refine ⟨(h.dirs (c := 0) (by omega)).trans h.fit.root, ?_⟩
  have h1 := (h.node 0 hp hk0).2.1
  have h2 := h.fit.rootUp
  rw [show (0 : Int) = ((0 : Nat) : Int) from rfl, node_nat L 0 hp] at h2
  exact h1.trans h2
theorem Adds.same (h : Adds L m b d k s x) : ∀ (n : Nat) (c : Int), dirB L c = true → leadsL (addL L d k s x) n c = leadsL L n c
  | 0, _, _ => rfl
  | n + 1, c, hc => by
    obtain ⟨j, rfl, hj⟩ := dir_lt hc
    have hjk : j ≠ k := fun e => by
      subst e
      exact h.nodir ((dir_nat hj).1 hc)
    rw [leads_succ, leads_succ, (h.node j hj hjk).2.1, node_nat L j hj]
    split
    · rfl
    · exact Adds.same h n _ (ups_in h.fit.root h.fit.rootUp h.fit.ins h.fit.names j hj ((dir_nat hj).1 hc))

/-- The tree stays fit. -/
theorem Adds.fits (h : Adds L m b d k s x) : FitP (addL L d k s x) m b := by
  have hU := ups_in h.root.1 h.root.2 h.ins ⟨h.upfits, h.linksfit⟩
  refine ⟨?_, h.root.1, h.root.2, h.ins, ⟨h.upfits, h.linksfit⟩, fun j hj hdir => ?_⟩
  · obtain ⟨l1, l2, l3, l4, l5⟩ := h.fit.limits
    have h1 := h.bytesUsed
    have h2 := h.bytes
    refine ⟨by rw [add_len]; exact l1, by rw [add_len]; exact l2, l3, by omega, l5⟩
  · have hj' := hj
    rw [add_len] at hj'
    by_cases e : j = k
    · subst e
      have hx : x.kind = 2 := by
        have := node_kind_of hdir
        rw [h.nodeK] at this
        exact this
      have hdd := (dir_nat h.dlt).2 h.dir
      have h1 : leadsL (addL L d j s x) (L.length + 1) (j : Int) = true := by
        rw [leads_succ, h.nodeK, (h.up hx).1]
        split
        · rfl
        · rw [h.same _ _ hdd]
          exact h.fit.leads d h.dlt hdd
      refine up_leads hdir ?_
      rw [add_len]
      exact leads_up hU _ _ _ (Nat.le_refl _) hdir h1
    · have hdl : dirB L (j : Int) = true := by
        rw [h.dirs (by omega)] at hdir
        exact hdir
      rw [add_len, h.same _ _ hdl]
      exact h.fit.leads j hj' hdl
end

/-! ### Another mode, other data -/

section
variable {L : List Ino} {m b : Int} {k : Nat} {x : Ino}
/-- Inode k is x, which has all but its mode and its data as before. -/
structure Puts (L : List Ino) (m b : Int) (k : Nat) (x : Ino) : Prop where
  fit : FitP L m b
  klt : k < L.length
  kind : x.kind = L[k].kind
  links : x.links = L[k].links
  kids : x.kids = L[k].kids
  up : x.up = L[k].up
  alone : aloneB x = true
  bytes : (usedB L : Int) + x.data.length ≤ b + L[k].data.length
theorem Puts.at (h : Puts L m b k x) (j : Nat) (hj : j < L.length) : ((L.set k x)[j]'(by rw [List.length_set]; exact hj)).kind = L[j].kind ∧ ((L.set k x)[j]'(by rw [List.length_set]; exact hj)).links = L[j].links ∧ ((L.set k x)[j]'(by rw [List.length_set]; exact hj)).kids = L[j].kids ∧ ((L.set k x)[j]'(by rw [List.length_set]; exact hj)).up = L[j].up := by
  rw [List.getElem_set]
  by_cases e : k = j
  · subst e
    rw [if_pos rfl]
    exact ⟨h.kind, h.links, h.kids, h.up⟩
  · rw [if_neg e]
    exact ⟨rfl, rfl, rfl, rfl⟩
theorem Puts.node (h : Puts L m b k x) (j : Nat) (hj : j < L.length) : (nodeAt (L.set k x) (j : Int)).kind = L[j].kind ∧ (nodeAt (L.set k x) (j : Int)).up = L[j].up := by
  rw [node_nat _ j (by rw [List.length_set]; exact hj)]
  exact ⟨(h.at j hj).1, (h.at j hj).2.2.2⟩
theorem Puts.dirs (h : Puts L m b k x) (c : Int) : dirB (L.set k x) c = dirB L c := by
  unfold dirB
  rw [there_set]
  cases ht : thereB L c with
  | false => rfl
  | true =>
    obtain ⟨j, rfl, hj⟩ := there_nat ht
    rw [(h.node j hj).1, node_nat L j hj]
theorem Puts.names (h : Puts L m b k x) (c : Int) : namesOf (kidsOf (L.set k x)) c = namesOf (kidsOf L) c := by
  have h1 := names_set L k h.klt x c
  rw [h.kids] at h1
  omega
theorem Puts.ins (h : Puts L m b k x) : AllFit (L.set k x) := fun j hj => by
  rw [List.length_set] at hj
  have hI := h.fit.ins j hj
  refine ⟨?_, ?_⟩
  · rw [List.getElem_set]
    split
    · exact h.alone
    · exact hI.1
  · rw [(h.at j hj).2.2.1]
    exact ⟨hI.2.1, fun i hi => ⟨(hI.2.2 i hi).name, (hI.2.2 i hi).order, by rw [there_set]; exact (hI.2.2 i hi).there⟩⟩
theorem Puts.leads (h : Puts L m b k x) : ∀ (n : Nat) (c : Int), dirB L c = true → leadsL (L.set k x) n c = leadsL L n c
  | 0, _, _ => rfl
  | n + 1, c, hc => by
    obtain ⟨j, rfl, hj⟩ := dir_lt hc
    rw [leads_succ, leads_succ, (h.node j hj).2, node_nat L j hj]
    split
    · rfl
    · exact Puts.leads h n _ (ups_in h.fit.root h.fit.rootUp h.fit.ins h.fit.names j hj ((dir_nat hj).1 hc))
theorem Puts.fits (h : Puts L m b k x) : FitP (L.set k x) m b := by
  have hp : 0 < L.length := Nat.lt_of_le_of_lt (Nat.zero_le _) h.klt
  refine ⟨?_, (h.dirs 0).trans h.fit.root, ?_, h.ins, ⟨fun d hd e he hdir => ?_, fun j hj => ?_⟩, fun j hj hdir => ?_⟩
  · obtain ⟨l1, l2, l3, l4, l5⟩ := h.fit.limits
    have h1 := usedB_set L k h.klt x
    have h2 := h.bytes
    refine ⟨by rw [List.length_set]; exact l1, by rw [List.length_set]; exact l2, l3, by omega, l5⟩
  · have h2 := h.fit.rootUp
    rw [show (0 : Int) = ((0 : Nat) : Int) from rfl, node_nat L 0 hp] at h2
    exact (h.node 0 hp).2.trans h2
  · rw [List.length_set] at hd
    rw [(h.at d hd).2.2.1] at he
    rw [h.dirs] at hdir
    have h2 := h.fit.names.1 d hd e he hdir
    obtain ⟨j, hj1, hj⟩ := dir_lt hdir
    rw [hj1] at h2 ⊢
    rw [(h.node j hj).2, ← node_nat L j hj]
    exact h2
  · have hj' := hj
    rw [List.length_set] at hj'
    obtain ⟨h1, h2⟩ := h.fit.names.2 j hj'
    rw [countL_get L (kids_pos (kids_there h.fit.ins)) j hj'] at h1 h2
    rw [countL_get _ (kids_pos (kids_there h.ins)) j hj, h.names, (h.at j hj').1, (h.at j hj').2.1]
    exact ⟨h1, h2⟩
  · rw [List.length_set] at hj
    rw [h.dirs] at hdir
    rw [List.length_set, h.leads _ _ hdir]
    exact h.fit.leads j hj hdir
end
end Go.Proofs.YtclhpedecimicaaGreat

namespace Go.Proofs.YtclhpedecimicaaGreat
set_option maxRecDepth 100000
open Go Go.RowKit

theorem sets_keep : ∀ (l : List Value) (b o : Nat) (W : World), (W.setCells b o l).os = W.os ∧ (W.setCells b o l).tape = W.tape ∧ (W.setCells b o l).output = W.output
  | [], _, _, _ => ⟨rfl, rfl, rfl⟩
  | v :: r, b, o, W => sets_keep r b (o + 1) (W.setCell ⟨b, o, none⟩ v)

/-- All that was there but block g is as it was. -/
structure Off (g : Nat) (w w' : World) : Prop where
  os : w'.os = w.os
  tape : w'.tape = w.tape
  output : w'.output = w.output
  size : w.heap.size ≤ w'.heap.size
  block : ∀ j, j ≠ g → j < w.heap.size → w'.heap[j]? = w.heap[j]?
section
variable {g : Nat} {w w' w'' : World}
theorem Off.refl (g : Nat) (w : World) : Off g w w := ⟨rfl, rfl, rfl, Nat.le_refl _, fun _ _ _ => rfl⟩
theorem Off.trans (h : Off g w w') (k : Off g w' w'') : Off g w w'' := ⟨k.os.trans h.os, k.tape.trans h.tape, k.output.trans h.output, Nat.le_trans h.size k.size, fun j hj hl => (k.block j hj (Nat.lt_of_lt_of_le hl h.size)).trans (h.block j hj hl)⟩
theorem Off.of_below (h : Below w.heap.size w w') : Off g w w' := ⟨h.os, h.tape, h.output, h.size, fun j _ hl => h.block j hl⟩
theorem Off.below (h : Off g w w') {B : Nat} (hg : B ≤ g) (hB : B ≤ w.heap.size) : Below B w w' := ⟨h.os, h.tape, h.output, h.size, fun j hj => h.block j (by omega) (by omega)⟩
theorem Off.set (h : Off g w w') (o : Nat) (v : Value) : Off g w (w'.setCell ⟨g, o, none⟩ v) := ⟨h.os, h.tape, h.output, by simpa [World.setCell] using h.size, fun j hj hl => (Below.heap_setCell _ _ _ _ hj).trans (h.block j hj hl)⟩
theorem Off.sets (h : Off g w w') (o : Nat) (l : List Value) : Off g w (w'.setCells g o l) := by
  obtain ⟨h1, h2, h3⟩ := sets_keep l g o w'
  exact ⟨h1.trans h.os, h2.trans h.tape, h3.trans h.output, by rw [size_sets]; exact h.size, fun j hj hl => (heap_sets _ _ _ _ _ hj).trans (h.block j hj hl)⟩
end

theorem KidsIn.cells {W W' : World} {v : Value} {K : List (List UInt8 × Int)} (h : KidsIn W v K) (hb : ∀ j, j < W.heap.size → W'.heap[j]? = W.heap[j]?) : KidsIn W' v K := by
  obtain ⟨a, cap, h1, h2, h3, h4⟩ := h
  refine ⟨a, cap, h1, h2, h3, fun i hi => ?_⟩
  obtain ⟨b, o, e1, e2, e3⟩ := h4 i hi
  have hl := cell_lt e2
  exact ⟨b, o, e1, (World.cell?_of_block (a := ⟨b, o + i * 2, none⟩) (hb b hl)).trans e2, (World.cell?_of_block (a := ⟨b, o + i * 2 + 1, none⟩) (hb b hl)).trans e3⟩

/-- Block g holds the inodes L, whose names' slices are vs and lie elsewhere. -/
structure RefT (W : World) (g cap : Nat) (L : List Ino) (vs : List Value) : Prop where
  nodes : NodesOwn W g cap L vs
  kids : ∀ i (hi : i < L.length) (hv : i < vs.length) (W' : World), (∀ j, j ≠ g → j < W.heap.size → W'.heap[j]? = W.heap[j]?) → KidsIn W' vs[i] L[i].kids
section
variable {W W' : World} {base g cap : Nat} {L : List Ino} {vs : List Value}
theorem RefT.nodesIn (h : RefT W g cap L vs) : NodesIn W (some ⟨g, 0, none⟩) cap L := h.nodes.nodesIn fun i hi hv => h.kids i hi hv W fun _ _ _ => rfl
theorem RefT.stay (h : RefT W g cap L vs) (hs : W.heap.size ≤ W'.heap.size) (hb : ∀ j, j < W.heap.size → W'.heap[j]? = W.heap[j]?) : RefT W' g cap L vs :=
  ⟨h.nodes.same (hb g h.nodes.lt), fun i hi hv W'' hw => h.kids i hi hv W'' fun j hj hl => (hw j hj (Nat.lt_of_lt_of_le hl hs)).trans (hb j hl)⟩
theorem RefT.below (h : RefT W g cap L vs) (hb : Below W.heap.size W W') : RefT W' g cap L vs := h.stay hb.size hb.block
theorem OwnT.refT (h : OwnT W base g cap L vs) : RefT W g cap L vs :=
  ⟨h.nodes, fun i hi hv _W' hw => ((h.kids i hi hv).same fun k hk => hw k (fun e => h.off i hv (e ▸ hk)) ((h.kids i hi hv).lt k hk).2).kidsIn⟩
/-- The reference's copy: the names' slices are those of before. -/
theorem RefT.of_kids {w : World} (hN : NodesOwn W g cap L vs) (hk : ∀ i (hi : i < L.length) (hv : i < vs.length), KidsIn w vs[i] L[i].kids) (hg : w.heap.size ≤ g) (hs : w.heap.size ≤ W.heap.size) (hb : ∀ j, j < w.heap.size → W.heap[j]? = w.heap[j]?) : RefT W g cap L vs :=
  ⟨hN, fun i hi hv _ hw => (hk i hi hv).cells fun j hj => (hw j (by omega) (by omega)).trans (hb j hj)⟩
theorem RefT.setKids (h : RefT W g cap L vs) {d : Nat} (hd : d < L.length) (hv : d < vs.length) {w5 : World} {v : Value} {M : List (List UInt8 × Int)} (hk : KidsOwn w5 W.heap.size v M) (hb : Below W.heap.size W w5) :
    RefT (w5.setCell ⟨g, d * 6 + 4, none⟩ v) g cap (L.set d { L[d] with kids := M }) (vs.set d v) := by
  refine ⟨(h.nodes.below hb).setKids hd hv v M, fun i hi hvi W' hw => ?_⟩
  have hw5 : ∀ j, j ≠ g → j < w5.heap.size → W'.heap[j]? = w5.heap[j]? := fun j hj hl => (hw j hj (by simpa [World.setCell] using hl)).trans (Below.heap_setCell _ _ _ _ hj)
  have hgl := h.nodes.lt
  by_cases e : d = i
  · subst e
    rw [List.getElem_set_self, List.getElem_set_self]
    exact (hk.same fun j hj => by
      have := hk.lt j hj
      exact hw5 j (by omega) this.2).kidsIn
  · rw [List.length_set] at hi hvi
    rw [List.getElem_set_ne e, List.getElem_set_ne e]
    exact h.kids i hi hvi W' fun j hj hl => (hw5 j hj (Nat.lt_of_lt_of_le hl hb.size)).trans (hb.block j hl)
/-- What is written of the block of the inodes alone. -/
theorem RefT.turn (h : RefT W g cap L vs) {L' : List Ino} {vs' : List Value} (hN : NodesOwn W' g cap L' vs') (hl : L'.length = L.length) (hs : W'.heap.size = W.heap.size) (hb : ∀ j, j ≠ g → W'.heap[j]? = W.heap[j]?)
    (hk : ∀ i (hi : i < L'.length) (hv : i < vs'.length) (hi2 : i < L.length) (hv2 : i < vs.length), (L'[i].kids = L[i].kids ∧ vs'[i] = vs[i]) ∨ (L'[i].kids = [] ∧ vs'[i] = .slice none 0 0)) : RefT W' g cap L' vs' := by
  refine ⟨hN, fun i hi hv W'' hw => ?_⟩
  have hi2 : i < L.length := by rw [← hl]; exact hi
  rcases hk i hi hv hi2 (by rw [h.nodes.len]; exact hi2) with ⟨e1, e2⟩ | ⟨e1, e2⟩
  · rw [e1, e2]
    exact h.kids i hi2 _ W'' fun j hj hjl => (hw j hj (by rw [hs]; exact hjl)).trans (hb j hj)
  · rw [e1, e2]
    exact ⟨none, 0, rfl, Nat.le_refl _, Nat.zero_le _, fun i hi => absurd hi (Nat.not_lt_zero _)⟩
theorem RefT.setLinks (h : RefT W g cap L vs) {i : Nat} (hi : i < L.length) (z : Int) : RefT (W.setCell ⟨g, i * 6 + 2, none⟩ (.int .i64 z)) g cap (L.set i { L[i] with links := z }) vs := by
  have hv : i < vs.length := by rw [h.nodes.len]; exact hi
  have hN := h.nodes.setLinks hi hv z
  rw [set_self] at hN
  refine h.turn hN (List.length_set ..) (size_set _ _) (fun j hj => Below.heap_setCell _ _ _ _ hj) fun j hj _ hj2 _ => .inl ⟨?_, rfl⟩
  rw [List.getElem_set]
  split
  · rename_i e; subst e; rfl
  · rfl
theorem NodesOwn.setUp (h : NodesOwn W g cap L vs) {i : Nat} (hi : i < L.length) (hv : i < vs.length) (z : Int) : NodesOwn (W.setCell ⟨g, i * 6 + 5, none⟩ (.int .i64 z)) g cap (L.set i { L[i] with up := z }) (vs.set i vs[i]) := by
  have hn := h.node i hi hv
  have hc := cell_set (u := .int .i64 z) hn.up
  refine h.put hi (size_set _ _) (fun j => World.frozen?_setCell ..) (fun j hj => by rw [hc, if_neg (by omega)]) ⟨?_, ?_, ?_, ?_, ?_, ?_⟩
  · rw [hc, if_neg (by omega)]; exact hn.kind
  · rw [hc, if_neg (by omega)]; exact hn.mode
  · rw [hc, if_neg (by omega)]; exact hn.links
  · rw [hc, if_neg (by omega)]; exact hn.data
  · rw [hc, if_neg (by omega)]; exact hn.kids
  · rw [hc, if_pos rfl]
theorem RefT.setUp (h : RefT W g cap L vs) {i : Nat} (hi : i < L.length) (z : Int) : RefT (W.setCell ⟨g, i * 6 + 5, none⟩ (.int .i64 z)) g cap (L.set i { L[i] with up := z }) vs := by
  have hv : i < vs.length := by rw [h.nodes.len]; exact hi
  have hN := h.nodes.setUp hi hv z
  rw [set_self] at hN
  refine h.turn hN (List.length_set ..) (size_set _ _) (fun j hj => Below.heap_setCell _ _ _ _ hj) fun j hj _ hj2 _ => .inl ⟨?_, rfl⟩
  rw [List.getElem_set]
  split
  · rename_i e; subst e; rfl
  · rfl
theorem RefT.setNode (h : RefT W g cap L vs) {i : Nat} (hi : i < L.length) (x : Ino) (hx : x.kids = []) : RefT (W.setCells g (i * 6) (inoC x (.slice none 0 0))) g cap (L.set i x) (vs.set i (.slice none 0 0)) := by
  have hv : i < vs.length := by rw [h.nodes.len]; exact hi
  refine h.turn (h.nodes.setNode hi hv x _) (List.length_set ..) (size_sets _ _ _ _) (fun j hj => heap_sets _ _ _ _ _ hj) fun j hj hvj _ _ => ?_
  rw [List.getElem_set, List.getElem_set]
  by_cases e : i = j
  · rw [if_pos e, if_pos e]; exact .inr ⟨hx, rfl⟩
  · rw [if_neg e, if_neg e]; exact .inl ⟨rfl, rfl⟩
theorem RefT.node (h : RefT W g cap L vs) {i : Nat} (hi : i < L.length) : ∃ v, NodeAt W g (i * 6) L[i] v ∧ KidsIn W v L[i].kids ∧ ∀ j, W.frozen? ⟨g, j, none⟩ = false := by
  have hv : i < vs.length := by rw [h.nodes.len]; exact hi
  exact ⟨vs[i], h.nodes.node i hi hv, h.kids i hi hv W fun _ _ _ => rfl, h.nodes.free⟩
end

/-- What is there behind the names of a directory were written. -/
structure Named1 (g cap d k : Nat) (M : List (List UInt8 × Int)) (L : List Ino) (w W : World) (vs : List Value) : Prop where
  ref : RefT W g cap (L.set d (withKids (nodeAt L d) M)) vs
  off : Off g w W
theorem Named1.links {g cap d k : Nat} {M : List (List UInt8 × Int)} {L : List Ino} {w W : World} {vs : List Value} (h : Named1 g cap d k M L w W vs) (hk : k < L.length) (hdk : d ≠ k) (z : Int) :
    RefT (W.setCell ⟨g, k * 6 + 2, none⟩ (.int .i64 z)) g cap ((L.set d (withKids (nodeAt L d) M)).set k { L[k] with links := z }) vs ∧ Off g w (W.setCell ⟨g, k * 6 + 2, none⟩ (.int .i64 z)) := by
  have hk' : k < (L.set d (withKids (nodeAt L d) M)).length := by rw [List.length_set]; exact hk
  have h1 := h.ref.setLinks hk' z
  rw [List.getElem_set_ne hdk] at h1
  exact ⟨h1, h.off.set _ _⟩
/-- What a change of a tree in its own block leaves. -/
def TurnAns (g cap : Nat) (L' : List Ino) (w : World) (e : Ending) (w' : World) : Prop := e = .returned (.tuple #[]) ∧ (∃ vs', RefT w' g cap L' vs') ∧ Off g w w'
end Go.Proofs.YtclhpedecimicaaGreat

namespace Go.Proofs.YtclhpedecimicaaGreat
set_option maxRecDepth 100000
open Go Go.RowKit

/-- What a call of the reference leaves: a tree that can be read. -/
def RefAns (w : World) (m b : Int) (L' : List Ino) (rest : List Value) (e : Ending) (w' : World) : Prop :=
  (∃ a' cap', e = .returned (.tuple (#[.agg #[.slice a' L'.length cap', .int .i64 m, .int .i64 b]] ++ rest.toArray)) ∧ NodesIn w' a' cap' L') ∧ Below w.heap.size w w'
/-- A result's box that is still empty is no part of a tree. -/
theorem nodes_put3 {W : World} {c : Nat} {t : TypeId} {a : Option Addr} {cap : Nat} {L : List Ino} (h : NodesIn W a cap L) (hc : W.heap[c]? = some (.cells #[.slice none 0 0, .int .i64 0, .int .i64 0] t (0, 0))) (x y z : Value) : NodesIn (put3 W c x y z) a cap L := by
  have hcell : ∀ j u, W.cell? ⟨c, j, none⟩ = some u → (∀ s, u ≠ .string s) ∧ j < 3 := fun j u hu => by
    rw [blk_cell hc j] at hu
    match j, hu with
    | 0, hu => have h := Option.some.inj hu; subst h; exact ⟨(fun s e => by cases e), by omega⟩
    | 1, hu => have h := Option.some.inj hu; subst h; exact ⟨(fun s e => by cases e), by omega⟩
    | 2, hu => have h := Option.some.inj hu; subst h; exact ⟨(fun s e => by cases e), by omega⟩
    | j + 3, hu => simp at hu
  have hsame : ∀ b j, b ≠ c → (put3 W c x y z).cell? ⟨b, j, none⟩ = W.cell? ⟨b, j, none⟩ := fun b j hb => World.cell?_of_block (a := ⟨b, j, none⟩) (put3_other hb x y z)
  refine ⟨h.1, h.2.1, fun i hi => ?_⟩
  obtain ⟨b, o, e, hn⟩ := h.2.2 i hi
  have hb : b ≠ c := fun e => by
    subst e
    have := (hcell _ _ hn.up).2
    omega
  obtain ⟨v, hv, ka, kc, rfl, h1, h2, h3⟩ := hn.kids
  exact ⟨b, o, e, ⟨(hsame b _ hb).trans hn.kind, (hsame b _ hb).trans hn.mode, (hsame b _ hb).trans hn.links, (hsame b _ hb).trans hn.data, ⟨_, (hsame b _ hb).trans hv, ka, kc, rfl, h1, h2, fun j hj => by
    obtain ⟨b', o', e', c0, c1⟩ := h3 j hj
    have hb' : b' ≠ c := fun e => by
      subst e
      exact (hcell _ _ c0).1 _ rfl
    exact ⟨b', o', e', (hsame b' _ hb').trans c0, (hsame b' _ hb').trans c1⟩⟩, (hsame b _ hb).trans hn.up⟩⟩
theorem RefT.setK {W w5 : World} {g cap : Nat} {L : List Ino} {vs : List Value} (h : RefT W g cap L vs) {d : Nat} (hd : d < L.length) {v : Value} {M : List (List UInt8 × Int)} (hb : Below W.heap.size W w5)
    (hk : ∀ W', (∀ j, j ≠ g → j < w5.heap.size → W'.heap[j]? = w5.heap[j]?) → KidsIn W' v M) : RefT (w5.setCell ⟨g, d * 6 + 4, none⟩ v) g cap (L.set d { L[d] with kids := M }) (vs.set d v) := by
  have hv : d < vs.length := by rw [h.nodes.len]; exact hd
  refine ⟨(h.nodes.below hb).setKids hd hv v M, fun i hi hvi W' hw => ?_⟩
  have hw5 : ∀ j, j ≠ g → j < w5.heap.size → W'.heap[j]? = w5.heap[j]? := fun j hj hl => (hw j hj (by simpa [World.setCell] using hl)).trans (Below.heap_setCell _ _ _ _ hj)
  by_cases e : d = i
  · subst e
    rw [List.getElem_set_self, List.getElem_set_self]
    exact hk W' hw5
  · rw [List.length_set] at hi hvi
    rw [List.getElem_set_ne e, List.getElem_set_ne e]
    exact h.kids i hi hvi W' fun j hj hl => (hw5 j hj (Nat.lt_of_lt_of_le hl hb.size)).trans (hb.block j hl)
theorem RefT.setN {W w5 : World} {g cap : Nat} {L : List Ino} {vs : List Value} (h : RefT W g cap L vs) {d : Nat} (hd : d < L.length) (x : Ino) {v : Value} (hb : Below W.heap.size W w5)
    (hk : ∀ W', (∀ j, j ≠ g → j < w5.heap.size → W'.heap[j]? = w5.heap[j]?) → KidsIn W' v x.kids) : RefT (w5.setCells g (d * 6) (inoC x v)) g cap (L.set d x) (vs.set d v) := by
  have hv : d < vs.length := by rw [h.nodes.len]; exact hd
  refine ⟨(h.nodes.below hb).setNode hd hv x v, fun i hi hvi W' hw => ?_⟩
  have hw5 : ∀ j, j ≠ g → j < w5.heap.size → W'.heap[j]? = w5.heap[j]? := fun j hj hl => (hw j hj (by rw [size_sets]; exact hl)).trans (heap_sets _ _ _ _ _ hj)
  by_cases e : d = i
  · subst e
    rw [List.getElem_set_self, List.getElem_set_self]
    exact hk W' hw5
  · rw [List.length_set] at hi hvi
    rw [List.getElem_set_ne e, List.getElem_set_ne e]
    exact h.kids i hi hvi W' fun j hj hl => (hw5 j hj (Nat.lt_of_lt_of_le hl hb.size)).trans (hb.block j hl)
theorem RefT.bare {W W' : World} {g cap : Nat} {L : List Ino} {vs : List Value} (h : RefT W g cap L vs) (h0 : ∀ x ∈ L, x.kids = []) (hg : W'.heap[g]? = W.heap[g]?) : RefT W' g cap L vs := by
  refine ⟨h.nodes.same hg, fun i hi hv W'' _ => ?_⟩
  have h1 := h.kids i hi hv W fun _ _ _ => rfl
  rw [h0 _ (List.getElem_mem hi)] at h1 ⊢
  obtain ⟨a, c, e, h2, h3, -⟩ := h1
  exact ⟨a, c, e, h2, h3, fun i hi => absurd hi (Nat.not_lt_zero _)⟩
theorem sets_alloc (g : Nat) (obj : Obj) : ∀ (l : List Value) (o : Nat) (W : World), g < W.heap.size → (W.setCells g o l).alloc obj = (W.alloc obj).setCells g o l
  | [], _, _, _ => rfl
  | v :: r, o, W, h => by
    show ((W.setCell ⟨g, o, none⟩ v).setCells g (o + 1) r).alloc obj = ((W.alloc obj).setCell ⟨g, o, none⟩ v).setCells g (o + 1) r
    rw [sets_alloc g obj r (o + 1) _ (by simpa [World.setCell] using h), World.setCell_alloc_past (w := W) obj g o v h]
theorem below_sets {B : Nat} {w W : World} (h : Below B w W) {g : Nat} (hg : B ≤ g) (o : Nat) (l : List Value) : Below B w (W.setCells g o l) := by
  induction l generalizing o W with
  | nil => exact h
  | cons v r ih => exact ih (h.setCell hg _) (o + 1)
theorem nodes_tree {W : World} {c : Nat} {t : TypeId} {a a0 : Option Addr} {cap n0 c0 : Nat} {z1 z2 : Int} {L : List Ino} (h : NodesIn W a cap L) (hc : W.heap[c]? = some (.cells #[.slice a0 n0 c0, .int .i64 z1, .int .i64 z2] t (0, 0))) (x y z : Value) : NodesIn (put3 W c x y z) a cap L := by
  have hcell : ∀ j u, W.cell? ⟨c, j, none⟩ = some u → (∀ s, u ≠ .string s) ∧ j < 3 := fun j u hu => by
    rw [blk_cell hc j] at hu
    match j, hu with
    | 0, hu => have h := Option.some.inj hu; subst h; exact ⟨(fun s e => by cases e), by omega⟩
    | 1, hu => have h := Option.some.inj hu; subst h; exact ⟨(fun s e => by cases e), by omega⟩
    | 2, hu => have h := Option.some.inj hu; subst h; exact ⟨(fun s e => by cases e), by omega⟩
    | j + 3, hu => simp at hu
  have hsame : ∀ b j, b ≠ c → (put3 W c x y z).cell? ⟨b, j, none⟩ = W.cell? ⟨b, j, none⟩ := fun b j hb => World.cell?_of_block (a := ⟨b, j, none⟩) (put3_other hb x y z)
  refine ⟨h.1, h.2.1, fun i hi => ?_⟩
  obtain ⟨b, o, e, hn⟩ := h.2.2 i hi
  have hb : b ≠ c := fun e => by
    subst e
    have := (hcell _ _ hn.up).2
    omega
  obtain ⟨v, hv, ka, kc, rfl, h1, h2, h3⟩ := hn.kids
  exact ⟨b, o, e, ⟨(hsame b _ hb).trans hn.kind, (hsame b _ hb).trans hn.mode, (hsame b _ hb).trans hn.links, (hsame b _ hb).trans hn.data, ⟨_, (hsame b _ hb).trans hv, ka, kc, rfl, h1, h2, fun j hj => by
    obtain ⟨b', o', e', c0, c1⟩ := h3 j hj
    have hb' : b' ≠ c := fun e => by
      subst e
      exact (hcell _ _ c0).1 _ rfl
    exact ⟨b', o', e', (hsame b' _ hb').trans c0, (hsame b' _ hb').trans c1⟩⟩, (hsame b _ hb).trans hn.up⟩⟩
theorem set_sizes (W : World) (a : Addr) (v : Value) : (W.setCell a v).heap.size = W.heap.size := by simp [World.setCell]
/-- What the walk asks of an inode that is written. -/
theorem RefT.cells {W : World} {g cap : Nat} {L : List Ino} {vs : List Value} (h : RefT W g cap L vs) {i : Nat} (hi : i < L.length) (j : Nat) (hj : j < 6) : (∃ u, W.cell? ⟨g, i * 6 + j, none⟩ = some u) ∧ W.frozen? ⟨g, i * 6 + j, none⟩ = false := by
  obtain ⟨v, hn, -, hf⟩ := h.node hi
  refine ⟨?_, hf _⟩
  match j, hj with
  | 0, _ => exact ⟨_, hn.kind⟩
  | 1, _ => exact ⟨_, hn.mode⟩
  | 2, _ => exact ⟨_, hn.links⟩
  | 3, _ => exact ⟨_, hn.data⟩
  | 4, _ => exact ⟨_, hn.kids⟩
  | 5, _ => exact ⟨_, hn.up⟩
theorem kids_just {w5 : World} {g B : Nat} {t : TypeId} {s : List UInt8} {k : Int} (hB : w5.heap[B]? = some (.cells #[.string ⟨s.toArray⟩, .int .i64 k] t (0, 0))) (hne : B ≠ g) (W' : World) (h : ∀ j, j ≠ g → j < w5.heap.size → W'.heap[j]? = w5.heap[j]?) : KidsIn W' (.slice (some ⟨B, 0, none⟩) 1 1) [(s, k)] := by
  have h1 := (h B hne (lt_of_block hB)).trans hB
  refine ⟨_, 1, rfl, Nat.le_refl _, by unfold maxLen; decide, fun i hi => ⟨B, 0, rfl, ?_⟩⟩
  have hi' : i < 1 := hi
  obtain rfl : i = 0 := by omega
  exact ⟨blk_cell h1 0, blk_cell h1 1⟩
end Go.Proofs.YtclhpedecimicaaGreat

namespace Go.Proofs.YtclhpedecimicaaGreat
set_option maxRecDepth 100000
open Go Go.RowKit

theorem rown6 (a : Option Addr) (cap : Nat) (m b : Int) (L : List Ino) (hF : FitP L m b) (w : World) (hN : NodesIn w a cap L) :
    Calls Tryz.prog 16 #[.agg #[.slice a L.length cap, .int .i64 m, .int .i64 b]] w fun e w' => ∃ g cap' vs, e = .returned (.agg #[.slice (some ⟨g, 0, none⟩) L.length cap', .int .i64 m, .int .i64 b]) ∧ RefT w' g cap' L vs ∧ w.heap.size ≤ g ∧ Below w.heap.size w w' := by
  obtain ⟨l1, l2, l3, l4, l5⟩ := hF.limits
  refine (rown_any a cap m b L (by omega) (by omega) w hN).mono ?_
  rintro e w' ⟨g, cap', vs, rfl, h1, h2, h3, h4⟩
  refine ⟨g, cap', vs, rfl, ?_, h2, h4⟩
  exact RefT.of_kids h1 h3 h2 h4.size h4.block
end Go.Proofs.YtclhpedecimicaaGreat
