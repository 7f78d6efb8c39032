/-
  Trees with a new inode, one more name, another mode, in plain words: they stay fit.
-/
import Derived.Test.YtblmlgpajmaliaaTPlain3
namespace Go.Proofs.Ytblmlgpajmaliaa
set_option maxRecDepth 100000
open Go Go.RowKit

/-- Names with one more, in its place. -/
def namedL : List (List UInt8 × Int) → List UInt8 → Int → List (List UInt8 × Int)
  | [], s, k => [(s, k)]
  | e :: r, s, k => if Op.bytesLess e.1 s = true then e :: namedL r s k else (s, k) :: (e :: r).filter fun e => e.1 != s

theorem less_or {a b : List UInt8} (h1 : ¬ Op.bytesLess a b = true) (h2 : a ≠ b) : Op.bytesLess b a = true := by
  rcases cmp_cases a b with ⟨-, h⟩ | ⟨-, h⟩ | ⟨-, h⟩
  · exact absurd h h1
  · exact absurd h h2
  · exact h
theorem filter_out {M : List (List UInt8 × Int)} {s : List UInt8} (h : ∀ e ∈ M, e.1 ≠ s) : M.filter (fun e => e.1 != s) = M := List.filter_eq_self.2 fun e he => by simpa using h e he
theorem named_at : ∀ (M : List (List UInt8 × Int)) (s : List UInt8) (k : Int), (∀ e ∈ M, e.1 ≠ s) → ∃ A B, M = A ++ B ∧ namedL M s k = A ++ (s, k) :: B ∧ (∀ e ∈ A, Op.bytesLess e.1 s = true) ∧ ∀ e r, B = e :: r → Op.bytesLess s e.1 = true
  | [], s, k, _ => ⟨[], [], rfl, rfl, (fun _ h => by cases h), (fun _ _ h => by cases h)⟩
  | e :: r, s, k, h => by
    rw [namedL]
    by_cases hl : Op.bytesLess e.1 s = true
    · obtain ⟨A, B, h1, h2, h3, h4⟩ := named_at r s k (fun x hx => h x (List.mem_cons_of_mem _ hx))
      rw [if_pos hl, h2]
      refine ⟨e :: A, B, by rw [h1]; rfl, rfl, fun x hx => ?_, h4⟩
      rcases List.mem_cons.1 hx with rfl | hx
      · exact hl
      · exact h3 x hx
    · rw [if_neg hl, filter_out h]
      refine ⟨[], e :: r, rfl, rfl, (fun _ h => by cases h), fun x y hxy => ?_⟩
      cases hxy
      exact less_or hl (h e List.mem_cons_self)
theorem named_len {M : List (List UInt8 × Int)} {s : List UInt8} (k : Int) (h : ∀ e ∈ M, e.1 ≠ s) : (namedL M s k).length = M.length + 1 := by
  obtain ⟨A, B, h1, h2, -, -⟩ := named_at M s k h
  rw [h2, h1, List.length_append, List.length_append, List.length_cons]
  omega
theorem named_mem {M : List (List UInt8 × Int)} {s : List UInt8} (k : Int) (h : ∀ e ∈ M, e.1 ≠ s) {e : List UInt8 × Int} : e ∈ namedL M s k ↔ e = (s, k) ∨ e ∈ M := by
  obtain ⟨A, B, h1, h2, -, -⟩ := named_at M s k h
  rw [h2, h1, List.mem_append, List.mem_append, List.mem_cons]
  constructor
  · rintro (h | h | h)
    · exact Or.inr (Or.inl h)
    · exact Or.inl h
    · exact Or.inr (Or.inr h)
  · rintro (h | h | h)
    · exact Or.inr (Or.inl h)
    · exact Or.inl h
    · exact Or.inr (Or.inr h)
theorem names_one (e : List UInt8 × Int) (c : Int) : namesOf [e] c = if e.2 = c then 1 else 0 := by rw [names_cons]; rfl
theorem named_names {M : List (List UInt8 × Int)} {s : List UInt8} (k : Int) (h : ∀ e ∈ M, e.1 ≠ s) (c : Int) : namesOf (namedL M s k) c = namesOf M c + (if k = c then 1 else 0) := by
  obtain ⟨A, B, h1, h2, -, -⟩ := named_at M s k h
  rw [h2, h1, names_app, names_app, names_cons]
  show _ + ((if k = c then 1 else 0) + _) = _
  omega

/-! ### Rising names, as pairs -/

theorem rises_pair (M : List (List UInt8 × Int)) : Rises M ↔ M.Pairwise fun a b => Op.bytesLess a.1 b.1 = true := by
  constructor
  · intro h
    rw [List.pairwise_iff_getElem]
    intro i j hi hj hij
    exact h.lt i j hj hij
  · intro h k hk t ht
    subst ht
    exact (List.pairwise_iff_getElem.1 h) t (t + 1) (by omega) hk (by omega)
theorem named_rises {M : List (List UInt8 × Int)} {s : List UInt8} (k : Int) (h : ∀ e ∈ M, e.1 ≠ s) (hR : Rises M) : Rises (namedL M s k) := by
  obtain ⟨A, B, h1, h2, h3, h4⟩ := named_at M s k h
  rw [rises_pair] at hR ⊢
  rw [h1, List.pairwise_append] at hR
  obtain ⟨hA, hB, hAB⟩ := hR
  rw [h2, List.pairwise_append, List.pairwise_cons]
  refine ⟨hA, ⟨fun x hx => ?_, hB⟩, fun a ha x hx => ?_⟩
  · cases B with
    | nil => cases hx
    | cons e r =>
      have he := h4 e r rfl
      rcases List.mem_cons.1 hx with rfl | hx
      · exact he
      · exact less_trans _ _ _ he ((List.pairwise_cons.1 hB).1 x hx)
  · rcases List.mem_cons.1 hx with rfl | hx
    · exact h3 a ha
    · exact hAB a ha x hx

/-! ### One inode put in another's place -/

theorem names_set : ∀ (L : List Ino) (k : Nat) (h : k < L.length) (x : Ino) (c : Int), namesOf (kidsOf (L.set k x)) c + namesOf L[k].kids c = namesOf (kidsOf L) c + namesOf x.kids c
  | y :: r, 0, _, x, c => by
    show namesOf (x.kids ++ kidsOf r) c + namesOf y.kids c = namesOf (y.kids ++ kidsOf r) c + _
    rw [names_app, names_app]
    omega
  | y :: r, k + 1, h, x, c => by
    have ih := names_set r k (Nat.lt_of_succ_lt_succ h) x c
    show namesOf (y.kids ++ kidsOf (r.set k x)) c + namesOf (r[k]'(Nat.lt_of_succ_lt_succ h)).kids c = namesOf (y.kids ++ kidsOf r) c + _
    rw [names_app, names_app]
    omega
theorem usedB_set : ∀ (L : List Ino) (k : Nat) (h : k < L.length) (x : Ino), usedB (L.set k x) + L[k].data.length = usedB L + x.data.length
  | y :: r, 0, _, x => by
    show x.data.length + usedB r + y.data.length = y.data.length + usedB r + _
    omega
  | y :: r, k + 1, h, x => by
    have ih := usedB_set r k (Nat.lt_of_succ_lt_succ h) x
    show y.data.length + usedB (r.set k x) + (r[k]'(Nat.lt_of_succ_lt_succ h)).data.length = y.data.length + usedB r + _
    omega
theorem there_set (L : List Ino) (k : Nat) (x : Ino) (c : Int) : thereB (L.set k x) c = thereB L c := by
  unfold thereB
  rw [List.length_set]

def withKids (y : Ino) (M : List (List UInt8 × Int)) : Ino := { y with kids := M }
/-- A tree in which inode k is x, and the directory d has the name s of it besides. -/
def addL (L : List Ino) (d k : Nat) (s : List UInt8) (x : Ino) : List Ino := (L.set k x).set d (withKids (nodeAt L d) (namedL (nodeAt L d).kids s k))
theorem add_len (L : List Ino) (d k : Nat) (s : List UInt8) (x : Ino) : (addL L d k s x).length = L.length := by unfold addL; rw [List.length_set, List.length_set]
theorem add_get {L : List Ino} {d k : Nat} (hd : d < L.length) (s : List UInt8) (x : Ino) (j : Nat) (hj : j < L.length) :
    (addL L d k s x)[j]'(by rw [add_len]; exact hj) = if d = j then withKids L[d] (namedL L[d].kids s k) else if k = j then x else L[j] := by
  simp only [addL, List.getElem_set, node_nat L d hd]
theorem add_node {L : List Ino} {d k : Nat} (hd : d < L.length) (s : List UInt8) (x : Ino) (j : Nat) (hj : j < L.length) :
    nodeAt (addL L d k s x) (j : Int) = if d = j then withKids L[d] (namedL L[d].kids s k) else if k = j then x else L[j] := by
  rw [node_nat _ j (by rw [add_len]; exact hj)]
  exact add_get hd s x j hj
theorem add_there (L : List Ino) (d k : Nat) (s : List UInt8) (x : Ino) (c : Int) : thereB (addL L d k s x) c = thereB L c := by
  unfold thereB
  rw [add_len]

/-- What is asked of an inode that gets a name more, or is new. -/
structure Adds (L : List Ino) (m b : Int) (d k : Nat) (s : List UInt8) (x : Ino) : Prop where
  fit : FitP L m b
  dlt : d < L.length
  dir : L[d].kind = 2
  klt : k < L.length
  nodir : L[k].kind ≠ 2
  name : nameOkL s = true
  new : ∀ e ∈ L[d].kids, e.1 ≠ s
  room : L[d].kids.length < 1024
  alone : aloneB x = true
  used : x.kind ≠ 0
  kids : x.kids = []
  links : x.links = L[k].links + 1
  up : x.kind = 2 → x.up = d ∧ L[k].kind = 0
  bytes : (usedB L : Int) + x.data.length ≤ b + L[k].data.length

section
variable {L : List Ino} {m b : Int} {d k : Nat} {s : List UInt8} {x : Ino}
theorem Adds.ne (h : Adds L m b d k s x) : d ≠ k := fun e => by
  have h1 := h.dir
  subst e
  exact h.nodir h1
theorem free_kids (hF : FitP L m b) (hk : k < L.length) (h : L[k].kind ≠ 2) : L[k].kids = [] := by
  cases hq : L[k].kids with
  | nil => rfl
  | cons e r => exact absurd (dir_of_kids (hF.ins k hk).1 (by rw [hq]; simp)) h
theorem Adds.names (h : Adds L m b d k s x) (c : Int) : namesOf (kidsOf (addL L d k s x)) c = namesOf (kidsOf L) c + (if (k : Int) = c then 1 else 0) := by
  have h1 := names_set L k h.klt x c
  have hd : d < (L.set k x).length := by rw [List.length_set]; exact h.dlt
  have h2 := names_set (L.set k x) d hd (withKids (nodeAt L d) (namedL (nodeAt L d).kids s k)) c
  have e1 : (L.set k x)[d] = L[d]'h.dlt := by rw [List.getElem_set, if_neg (fun e => h.ne e.symm)]
  rw [e1] at h2
  have h3 : namesOf (namedL (nodeAt L d).kids s k) c = namesOf (nodeAt L d).kids c + (if (k : Int) = c then 1 else 0) := named_names (k : Int) (by rw [node_nat L d h.dlt]; exact h.new) c
  have h4 : namesOf (kidsOf (addL L d k s x)) c + namesOf (L[d]'h.dlt).kids c = namesOf (kidsOf (L.set k x)) c + namesOf (namedL (nodeAt L d).kids s k) c := h2
  rw [h3, node_nat L d h.dlt] at h4
  rw [free_kids h.fit h.klt h.nodir, h.kids] at h1
  omega
theorem Adds.bytesUsed (h : Adds L m b d k s x) : usedB (addL L d k s x) + (L[k]'h.klt).data.length = usedB L + x.data.length := by
  have h1 := usedB_set L k h.klt x
  have hd : d < (L.set k x).length := by rw [List.length_set]; exact h.dlt
  have h2 := usedB_set (L.set k x) d hd (withKids (nodeAt L d) (namedL (nodeAt L d).kids s k))
  have e1 : (L.set k x)[d] = L[d]'h.dlt := by rw [List.getElem_set, if_neg (fun e => h.ne e.symm)]
  rw [e1] at h2
  have h4 : usedB (addL L d k s x) + (L[d]'h.dlt).data.length = usedB (L.set k x) + (nodeAt L d).data.length := h2
  rw [node_nat L d h.dlt] at h4
  omega
theorem Adds.node (h : Adds L m b d k s x) (j : Nat) (hj : j < L.length) (hjk : j ≠ k) : (nodeAt (addL L d k s x) (j : Int)).kind = L[j].kind ∧ (nodeAt (addL L d k s x) (j : Int)).up = L[j].up ∧ (nodeAt (addL L d k s x) (j : Int)).links = L[j].links := by
  rw [add_node h.dlt s x j hj]
  by_cases e : d = j
  · subst e
    rw [if_pos rfl]
    exact ⟨rfl, rfl, rfl⟩
  · rw [if_neg e, if_neg (fun e => hjk e.symm)]
    exact ⟨rfl, rfl, rfl⟩
theorem Adds.nodeK (h : Adds L m b d k s x) : nodeAt (addL L d k s x) (k : Int) = x := by rw [add_node h.dlt s x k h.klt, if_neg h.ne, if_pos rfl]
theorem Adds.dirs (h : Adds L m b d k s x) {c : Int} (hc : c ≠ (k : Int)) : dirB (addL L d k s x) c = dirB L c := by
  unfold dirB
  rw [add_there]
  cases ht : thereB L c with
  | false => rfl
  | true =>
    obtain ⟨j, rfl, hj⟩ := there_nat ht
    rw [(h.node j hj (fun e => hc (by rw [e]))).1, node_nat L j hj]
theorem Adds.ins (h : Adds L m b d k s x) : AllFit (addL L d k s x) := fun j hj => by
  rw [add_len] at hj
  rw [add_get h.dlt s x j hj]
  by_cases e : d = j
  · subst e
    rw [if_pos rfl]
    have hI := h.fit.ins d h.dlt
    refine ⟨?_, ?_, fun i hi => ?_⟩
    · have h1 := hI.1
      unfold aloneB at h1 ⊢
      simpa [withKids, h.dir] using h1
    · show (namedL L[d].kids s k).length ≤ 1024
      rw [named_len _ h.new]
      have := h.room
      omega
    · have hR := named_rises (k : Int) h.new (kids_rise h.fit.ins d h.dlt).2
      have hi' : i < (namedL L[d].kids s k).length := hi
      have hm : (namedL L[d].kids s k)[i] ∈ namedL L[d].kids s k := List.getElem_mem _
      rw [named_mem (k : Int) h.new] at hm
      refine ⟨?_, fun t ht => hR i hi' t ht, ?_⟩
      · show nameOkL (namedL L[d].kids s k)[i].1 = true
        rcases hm with hm | hm
        · rw [hm]; exact h.name
        · exact (name_of h.fit.ins h.dlt hm).1
      · show thereB (addL L d k s x) (namedL L[d].kids s k)[i].2 = true
        rw [add_there]
        rcases hm with hm | hm
        · rw [hm]; exact there_of L k h.klt
        · exact (name_of h.fit.ins h.dlt hm).2
  · rw [if_neg e]
    by_cases e2 : k = j
    · rw [if_pos e2]
      refine ⟨h.alone, by rw [h.kids]; exact Nat.zero_le _, fun i hi => ?_⟩
      rw [h.kids] at hi
      exact absurd hi (Nat.not_lt_zero _)
    · rw [if_neg e2]
      have hI := h.fit.ins j hj
      exact ⟨hI.1, hI.2.1, fun i hi => ⟨(hI.2.2 i hi).name, (hI.2.2 i hi).order, by rw [add_there]; exact (hI.2.2 i hi).there⟩⟩
theorem Adds.count (h : Adds L m b d k s x) (j : Nat) (hj : j < L.length) : (countL (addL L d k s x))[j]'(by rw [countL_len, add_len]; exact hj) = (namesOf (kidsOf L) j : Int) + (if k = j then 1 else 0) := by
  rw [countL_get _ (kids_pos (kids_there h.ins)) j (by rw [add_len]; exact hj), h.names]
  by_cases e : k = j
  · rw [if_pos e, if_pos (by rw [e])]; rfl
  · rw [if_neg e, if_neg (fun e2 => e (by omega))]; rfl
theorem Adds.count0 (h : Adds L m b d k s x) : (L[k]'h.klt).links = (namesOf (kidsOf L) k : Int) := by
  rw [(h.fit.names.2 k h.klt).1, countL_get L (kids_pos (kids_there h.fit.ins)) k h.klt]
theorem Adds.noname (h : Adds L m b d k s x) (hx : x.kind = 2) : ∀ e ∈ kidsOf L, e.2 ≠ (k : Int) := fun e he ek => by
  have h0 := (h.up hx).2
  have hm := (h.fit.names.2 k h.klt).2
  rw [countL_get L (kids_pos (kids_there h.fit.ins)) k h.klt] at hm
  unfold MayHave at hm
  rw [if_pos (Or.inr h0)] at hm
  have := names_pos he
  rw [ek] at this
  omega
theorem Adds.upfits (h : Adds L m b d k s x) : UpFits (addL L d k s x) := fun d' hd' e he hdir => by
  rw [add_len] at hd'
  have old : ∀ (c : Nat) (hc : c < L.length), e ∈ L[c].kids → (nodeAt (addL L d k s x) e.2).up = (c : Int) := fun c hc he2 => by
    have hk : e ∈ kidsOf L := mem_kidsOf.2 ⟨c, hc, he2⟩
    by_cases ek : e.2 = (k : Int)
    · rw [ek] at hdir
      have hx : x.kind = 2 := by
        have := node_kind_of hdir
        rw [h.nodeK] at this
        exact this
      exact absurd ek (h.noname hx e hk)
    · rw [h.dirs ek] at hdir
      obtain ⟨j, hj1, hj⟩ := dir_lt hdir
      have h2 := h.fit.names.1 c hc e he2 hdir
      rw [hj1] at h2 ek ⊢
      rw [(h.node j hj (fun e3 => ek (by rw [e3]))).2.1, ← node_nat L j hj]
      exact h2
  rw [add_get h.dlt s x d' hd'] at he
  by_cases e1 : d = d'
  · subst e1
    rw [if_pos rfl] at he
    have he' : e ∈ namedL L[d].kids s k := he
    rw [named_mem (k : Int) h.new] at he'
    rcases he' with he' | he'
    · rw [he'] at hdir ⊢
      have hx : x.kind = 2 := by
        have := node_kind_of hdir
        rw [h.nodeK] at this
        exact this
      rw [h.nodeK]
      exact (h.up hx).1
    · exact old d h.dlt he'
  · rw [if_neg e1] at he
    by_cases e2 : k = d'
    · rw [if_pos e2, h.kids] at he
      cases he
    · rw [if_neg e2] at he
      exact old d' hd' he
theorem Adds.linksfit (h : Adds L m b d k s x) : LinksFit (addL L d k s x) := fun j hj => by
  have hj' := hj
  rw [add_len] at hj'
  rw [h.count j hj']
  obtain ⟨h1, h2⟩ := h.fit.names.2 j hj'
  rw [countL_get L (kids_pos (kids_there h.fit.ins)) j hj'] at h1 h2
  have hn := node_nat (addL L d k s x) j hj
  by_cases e : k = j
  · subst e
    rw [if_pos rfl, ← hn, h.nodeK]
    refine ⟨by rw [h.links, h1], ?_⟩
    have hk0 : k ≠ 0 := fun e0 => by
      subst e0
      have hr := h.fit.root
      have hr2 : L[0].kind = 2 := (dir_nat (n := 0) h.klt).1 hr
      exact h.nodir hr2
    unfold MayHave
    rw [if_neg (by rintro (e0 | e0); exact hk0 (by omega); exact h.used e0)]
    split
    · rename_i hx
      unfold MayHave at h2
      rw [if_pos (Or.inr (h.up hx).2)] at h2
      omega
    · omega
  · obtain ⟨n1, n2, n3⟩ := h.node j hj' (fun e2 => e e2.symm)
    rw [hn] at n1 n3
    rw [if_neg e, n1, n3, Int.add_zero]
    exact ⟨h1, h2⟩
theorem Adds.root (h : Adds L m b d k s x) : dirB (addL L d k s x) 0 = true ∧ (nodeAt (addL L d k s x) 0).up = 0 := by
  have hp : 0 < L.length := Nat.lt_of_le_of_lt (Nat.zero_le _) h.klt
  have hr2 : L[0].kind = 2 := (dir_nat (n := 0) hp).1 h.fit.root
  have hk0 : 0 ≠ k := fun e0 => by
    subst e0
    exact h.nodir hr2
  refine ⟨(h.dirs (c := 0) (by omega)).trans h.fit.root, ?_⟩
  have h1 := (h.node 0 hp hk0).2.1
  have h2 := h.fit.rootUp
  rw [show (0 : Int) = ((0 : Nat) : Int) from rfl, node_nat L 0 hp] at h2
  exact h1.trans h2
theorem Adds.same (h : Adds L m b d k s x) : ∀ (n : Nat) (c : Int), dirB L c = true → leadsL (addL L d k s x) n c = leadsL L n c
  | 0, _, _ => rfl
  | n + 1, c, hc => by
    obtain ⟨j, rfl, hj⟩ := dir_lt hc
    have hjk : j ≠ k := fun e => by
      subst e
      exact h.nodir ((dir_nat hj).1 hc)
    rw [leads_succ, leads_succ, (h.node j hj hjk).2.1, node_nat L j hj]
    split
    · rfl
    · exact Adds.same h n _ (ups_in h.fit.root h.fit.rootUp h.fit.ins h.fit.names j hj ((dir_nat hj).1 hc))

/-- The tree stays fit. -/
theorem Adds.fits (h : Adds L m b d k s x) : FitP (addL L d k s x) m b := by
  have hU := ups_in h.root.1 h.root.2 h.ins ⟨h.upfits, h.linksfit⟩
  refine ⟨?_, h.root.1, h.root.2, h.ins, ⟨h.upfits, h.linksfit⟩, fun j hj hdir => ?_⟩
  · obtain ⟨l1, l2, l3, l4, l5⟩ := h.fit.limits
    have h1 := h.bytesUsed
    have h2 := h.bytes
    refine ⟨by rw [add_len]; exact l1, by rw [add_len]; exact l2, l3, by omega, l5⟩
  · have hj' := hj
    rw [add_len] at hj'
    by_cases e : j = k
    · subst e
      have hx : x.kind = 2 := by
        have := node_kind_of hdir
        rw [h.nodeK] at this
        exact this
      have hdd := (dir_nat h.dlt).2 h.dir
      have h1 : leadsL (addL L d j s x) (L.length + 1) (j : Int) = true := by
        rw [leads_succ, h.nodeK, (h.up hx).1]
        split
        · rfl
        · rw [h.same _ _ hdd]
          exact h.fit.leads d h.dlt hdd
      refine up_leads hdir ?_
      rw [add_len]
      exact leads_up hU _ _ _ (Nat.le_refl _) hdir h1
    · have hdl : dirB L (j : Int) = true := by
        rw [h.dirs (by omega)] at hdir
        exact hdir
      rw [add_len, h.same _ _ hdl]
      exact h.fit.leads j hj' hdl
end

/-! ### Another mode, other data -/

section
variable {L : List Ino} {m b : Int} {k : Nat} {x : Ino}
/-- Inode k is x, which has all but its mode and its data as before. -/
structure Puts (L : List Ino) (m b : Int) (k : Nat) (x : Ino) : Prop where
  fit : FitP L m b
  klt : k < L.length
  kind : x.kind = L[k].kind
  links : x.links = L[k].links
  kids : x.kids = L[k].kids
  up : x.up = L[k].up
  alone : aloneB x = true
  bytes : (usedB L : Int) + x.data.length ≤ b + L[k].data.length
theorem Puts.at (h : Puts L m b k x) (j : Nat) (hj : j < L.length) : ((L.set k x)[j]'(by rw [List.length_set]; exact hj)).kind = L[j].kind ∧ ((L.set k x)[j]'(by rw [List.length_set]; exact hj)).links = L[j].links ∧ ((L.set k x)[j]'(by rw [List.length_set]; exact hj)).kids = L[j].kids ∧ ((L.set k x)[j]'(by rw [List.length_set]; exact hj)).up = L[j].up := by
  rw [List.getElem_set]
  by_cases e : k = j
  · subst e
    rw [if_pos rfl]
    exact ⟨h.kind, h.links, h.kids, h.up⟩
  · rw [if_neg e]
    exact ⟨rfl, rfl, rfl, rfl⟩
theorem Puts.node (h : Puts L m b k x) (j : Nat) (hj : j < L.length) : (nodeAt (L.set k x) (j : Int)).kind = L[j].kind ∧ (nodeAt (L.set k x) (j : Int)).up = L[j].up := by
  rw [node_nat _ j (by rw [List.length_set]; exact hj)]
  exact ⟨(h.at j hj).1, (h.at j hj).2.2.2⟩
theorem Puts.dirs (h : Puts L m b k x) (c : Int) : dirB (L.set k x) c = dirB L c := by
  unfold dirB
  rw [there_set]
  cases ht : thereB L c with
  | false => rfl
  | true =>
    obtain ⟨j, rfl, hj⟩ := there_nat ht
    rw [(h.node j hj).1, node_nat L j hj]
theorem Puts.names (h : Puts L m b k x) (c : Int) : namesOf (kidsOf (L.set k x)) c = namesOf (kidsOf L) c := by
  have h1 := names_set L k h.klt x c
  rw [h.kids] at h1
  omega
theorem Puts.ins (h : Puts L m b k x) : AllFit (L.set k x) := fun j hj => by
  rw [List.length_set] at hj
  have hI := h.fit.ins j hj
  refine ⟨?_, ?_⟩
  · rw [List.getElem_set]
    split
    · exact h.alone
    · exact hI.1
  · rw [(h.at j hj).2.2.1]
    exact ⟨hI.2.1, fun i hi => ⟨(hI.2.2 i hi).name, (hI.2.2 i hi).order, by rw [there_set]; exact (hI.2.2 i hi).there⟩⟩
theorem Puts.leads (h : Puts L m b k x) : ∀ (n : Nat) (c : Int), dirB L c = true → leadsL (L.set k x) n c = leadsL L n c
  | 0, _, _ => rfl
  | n + 1, c, hc => by
    obtain ⟨j, rfl, hj⟩ := dir_lt hc
    rw [leads_succ, leads_succ, (h.node j hj).2, node_nat L j hj]
    split
    · rfl
    · exact Puts.leads h n _ (ups_in h.fit.root h.fit.rootUp h.fit.ins h.fit.names j hj ((dir_nat hj).1 hc))
theorem Puts.fits (h : Puts L m b k x) : FitP (L.set k x) m b := by
  have hp : 0 < L.length := Nat.lt_of_le_of_lt (Nat.zero_le _) h.klt
  refine ⟨?_, (h.dirs 0).trans h.fit.root, ?_, h.ins, ⟨fun d hd e he hdir => ?_, fun j hj => ?_⟩, fun j hj hdir => ?_⟩
  · obtain ⟨l1, l2, l3, l4, l5⟩ := h.fit.limits
    have h1 := usedB_set L k h.klt x
    have h2 := h.bytes
    refine ⟨by rw [List.length_set]; exact l1, by rw [List.length_set]; exact l2, l3, by omega, l5⟩
  · have h2 := h.fit.rootUp
    rw [show (0 : Int) = ((0 : Nat) : Int) from rfl, node_nat L 0 hp] at h2
    exact (h.node 0 hp).2.trans h2
  · rw [List.length_set] at hd
    rw [(h.at d hd).2.2.1] at he
    rw [h.dirs] at hdir
    have h2 := h.fit.names.1 d hd e he hdir
    obtain ⟨j, hj1, hj⟩ := dir_lt hdir
    rw [hj1] at h2 ⊢
    rw [(h.node j hj).2, ← node_nat L j hj]
    exact h2
  · have hj' := hj
    rw [List.length_set] at hj'
    obtain ⟨h1, h2⟩ := h.fit.names.2 j hj'
    rw [countL_get L (kids_pos (kids_there h.fit.ins)) j hj'] at h1 h2
    rw [countL_get _ (kids_pos (kids_there h.ins)) j hj, h.names, (h.at j hj').1, (h.at j hj').2.1]
    exact ⟨h1, h2⟩
  · rw [List.length_set] at hj
    rw [h.dirs] at hdir
    rw [List.length_set, h.leads _ _ hdir]
    exact h.fit.leads j hj hdir
end
end Go.Proofs.Ytblmlgpajmaliaa
