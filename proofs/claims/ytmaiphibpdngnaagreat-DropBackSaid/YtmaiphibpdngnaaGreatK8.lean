/-
  All paths of a tree with a new inode, in plain words: those of the tree, and the new one.
  Trees without a name, in plain words: they stay fit; the name put back, they are as before.
  Trees in which a name is another one, in plain words: they stay fit; moved back, they are as before.
  drop's ups and liesIn of the landed code: an iterator over a directory and those that it lies in, and whether one is among them.
  The closures by which drop asks, of the landed code, each with its answer.
-/
import Derived.Test.YtmaiphibpdngnaaGreatK3
import Derived.Test.YtmaiphibpdngnaaGreatK7
import Derived.Test.YtmaiphibpdngnaaGreatK4
import Derived.Test.YtmaiphibpdngnaaGreatK2
namespace Go.Proofs.YtmaiphibpdngnaaGreat
set_option maxRecDepth 100000
open Go Go.RowKit

/-- All paths beneath a directory, each with its inode. -/
def listP (L : List Ino) : Nat → Int → List UInt8 → List (List UInt8 × Int)
  | 0, _, _ => []
  | n + 1, c, p => (nodeAt L c).kids.flatMap fun e => (p ++ 47 :: e.1, e.2) :: (if (nodeAt L e.2).kind = 2 then listP L n e.2 (p ++ 47 :: e.1) else [])
theorem listP_succ (L : List Ino) (n : Nat) (c : Int) (p : List UInt8) : listP L (n + 1) c p = (nodeAt L c).kids.flatMap fun e => (p ++ 47 :: e.1, e.2) :: (if (nodeAt L e.2).kind = 2 then listP L n e.2 (p ++ 47 :: e.1) else []) := rfl
theorem flatMap_same {α β : Type} : ∀ (M : List α) (f g : α → List β), (∀ e ∈ M, f e = g e) → M.flatMap f = M.flatMap g
  | [], _, _, _ => rfl
  | a :: r, f, g, h => by
    rw [List.flatMap_cons, List.flatMap_cons, h a List.mem_cons_self, flatMap_same r f g fun e he => h e (List.mem_cons_of_mem _ he)]
theorem listP_none {L : List Ino} {c : Int} (h : (nodeAt L c).kids = []) : ∀ (n : Nat) (p : List UInt8), listP L n c p = []
  | 0, _ => rfl
  | n + 1, p => by rw [listP_succ, h]; rfl

section
variable {L : List Ino} {m b : Int} {d k : Nat} {s : List UInt8} {x : Ino}
theorem Adds.free (h : Adds L m b d k s x) (h0 : (L[k]'h.klt).kind = 0) : ∀ e ∈ kidsOf L, e.2 ≠ (k : Int) := fun e he ek => by
  have hm := (h.fit.names.2 k h.klt).2
  rw [countL_get L (kids_pos (kids_there h.fit.ins)) k h.klt] at hm
  unfold MayHave at hm
  rw [if_pos (Or.inr h0)] at hm
  have := names_pos he
  rw [ek] at this
  omega
theorem Adds.listed (h : Adds L m b d k s x) (h0 : (L[k]'h.klt).kind = 0) : ∀ (n : Nat) (c : Int) (p : List UInt8), dirB L c = true → (listP (addL L d k s x) n c p).filter (fun e => e.2 != (k : Int)) = listP L n c p
  | 0, _, _, _ => rfl
  | n + 1, c, p, hc => by
    obtain ⟨j, rfl, hj⟩ := dir_lt hc
    have hjk : j ≠ k := fun e => by
      subst e
      exact h.nodir ((dir_nat hj).1 hc)
    have one : ∀ e ∈ L[j].kids, ((p ++ 47 :: e.1, e.2) :: (if (nodeAt (addL L d k s x) e.2).kind = 2 then listP (addL L d k s x) n e.2 (p ++ 47 :: e.1) else [])).filter (fun e => e.2 != (k : Int)) = (p ++ 47 :: e.1, e.2) :: (if (nodeAt L e.2).kind = 2 then listP L n e.2 (p ++ 47 :: e.1) else []) := fun e he => by
      have hne := h.free h0 e (mem_kidsOf.2 ⟨j, hj, he⟩)
      have hth := (name_of h.fit.ins hj he).2
      obtain ⟨t, ht, htl⟩ := there_nat hth
      rw [List.filter_cons, if_pos (by simpa using hne)]
      congr 1
      rw [ht] at hne ⊢
      rw [(h.node t htl (fun e2 => hne (by rw [e2]))).1, node_nat L t htl]
      split
      · rename_i hk2
        exact Adds.listed h h0 n _ _ ((dir_nat htl).2 hk2)
      · rfl
    rw [listP_succ, listP_succ, List.filter_flatMap, add_node h.dlt s x j hj, node_nat L j hj]
    by_cases e1 : d = j
    · subst e1
      rw [if_pos rfl]
      obtain ⟨A, B, n1, n2, -, -⟩ := named_at L[d].kids s (k : Int) h.new
      show (namedL L[d].kids s k).flatMap _ = _
      rw [n2, List.flatMap_append, List.flatMap_cons]
      have hnew : ((p ++ 47 :: s, (k : Int)) :: (if (nodeAt (addL L d k s x) (k : Int)).kind = 2 then listP (addL L d k s x) n (k : Int) (p ++ 47 :: s) else [])).filter (fun e => e.2 != (k : Int)) = [] := by
        rw [List.filter_cons, if_neg (by simp), listP_none (by rw [h.nodeK]; exact h.kids)]
        split <;> rfl
      rw [hnew, List.nil_append]
      have hA := flatMap_same A _ _ (fun e he => one e (by rw [n1]; exact List.mem_append_left _ he))
      have hB := flatMap_same B _ _ (fun e he => one e (by rw [n1]; exact List.mem_append_right _ he))
      rw [hA, hB, ← List.flatMap_append, ← n1]
    · rw [if_neg e1, if_neg (fun e => hjk e.symm)]
      exact flatMap_same _ _ _ one
end

/-! ### Where a directory is, piece by piece -/

/-- A directory's place, the root's empty. -/
def atL (L : List Ino) (c : Int) : List UInt8 := placeGo L (L.length + 1) c []
theorem go_acc {L : List Ino} {m b : Int} (hF : FitP L m b) : ∀ (n : Nat) (c : Int) (s : List UInt8), dirB L c = true → placeGo L n c s = placeGo L n c [] ++ s
  | 0, _, s, _ => rfl
  | n + 1, c, s, hc => by
    rw [place_succ, place_succ]
    by_cases h0 : c = 0
    · rw [if_pos h0, if_pos h0]; rfl
    · rw [if_neg h0, if_neg h0]
      have hup : dirB L (nodeAt L c).up = true := ups_of hF 1 c hc
      obtain ⟨u, hu, hul⟩ := dir_lt hup
      obtain ⟨x, -, -, hx⟩ := kids_one _ c (one_name hF hul hc h0 hu)
      rw [hu] at hup ⊢
      rw [node_nat L u hul, hx, hx, go_acc hF n _ (47 :: x ++ s) hup, go_acc hF n _ (47 :: x ++ []) hup, List.append_nil, List.append_assoc]
theorem go_more {L : List Ino} : ∀ (j n : Nat) (c : Int) (s : List UInt8), Rk L c j → j < n → placeGo L (n + 1) c s = placeGo L n c s
  | 0, n, c, s, hr, hn => by
    obtain ⟨n, rfl⟩ : ∃ n', n = n' + 1 := ⟨n - 1, by omega⟩
    have h0 : c = 0 := hr.1
    rw [place_succ L (n + 1) c s, place_succ L n c s, if_pos h0, if_pos h0]
  | j + 1, n, c, s, hr, hn => by
    obtain ⟨n, rfl⟩ : ∃ n', n = n' + 1 := ⟨n - 1, by omega⟩
    have h0 : c ≠ 0 := hr.2 0 (by omega)
    rw [place_succ L (n + 1) c s, place_succ L n c s, if_neg h0, if_neg h0]
    exact go_more j n _ _ (rk_up hr) (by omega)
/-- Beneath a directory. -/
theorem at_kid {L : List Ino} {m b : Int} (hF : FitP L m b) {c : Nat} (hc : c < L.length) (hd : dirB L (c : Int) = true) {e : List UInt8 × Int} (he : e ∈ L[c].kids) (hde : dirB L e.2 = true) : atL L e.2 = atL L (c : Int) ++ 47 :: e.1 := by
  have h0 := name_pos hF hc he
  have hu := hF.names.1 c hc e he hde
  obtain ⟨x, -, hx2, hx⟩ := kids_one _ e.2 (one_name hF hc hde h0 hu)
  have hex : x = e.1 := by
    have h1 := one_name hF hc hde h0 hu
    by_cases h : x = e.1
    · exact h
    · exfalso
      have hne : (x, e.2) ≠ e := fun h2 => h (by rw [← h2])
      have : 2 ≤ namesOf L[c].kids e.2 := by
        unfold namesOf
        have m1 : (x, e.2) ∈ L[c].kids.filter (fun y => y.2 == e.2) := List.mem_filter.2 ⟨hx2, by simp⟩
        have m2 : e ∈ L[c].kids.filter (fun y => y.2 == e.2) := List.mem_filter.2 ⟨he, by simp⟩
        obtain ⟨i, hi, hi2⟩ := List.getElem_of_mem m1
        obtain ⟨t, ht, ht2⟩ := List.getElem_of_mem m2
        by_cases hit : i = t
        · subst hit
          exact absurd (hi2.symm.trans ht2) hne
        · omega
      omega
  subst hex
  obtain ⟨j, hj⟩ := rk_of L.length ((leads_iff L _ _).1 (hF.leads c hc hd))
  have hlt := rk_lt hF.leads hd hj
  unfold atL
  rw [place_succ, if_neg h0, hu, node_nat L c hc, hx, List.append_nil, go_acc hF _ _ _ hd, go_more j L.length (c : Int) [] hj hlt]
/-- What is listed beneath a directory, at its place. -/
theorem listP_in {L : List Ino} {m b : Int} (hF : FitP L m b) : ∀ (n : Nat) (c : Int), dirB L c = true → ∀ y ∈ listP L n c (atL L c), ∃ c' : Nat, ∃ h : c' < L.length, dirB L (c' : Int) = true ∧ ∃ e ∈ L[c'].kids, y = (atL L (c' : Int) ++ 47 :: e.1, e.2)
  | 0, _, _, _, hy => by cases hy
  | n + 1, c, hc, y, hy => by
    obtain ⟨j, rfl, hj⟩ := dir_lt hc
    rw [listP_succ, node_nat L j hj, List.mem_flatMap] at hy
    obtain ⟨e, he, hy⟩ := hy
    rcases List.mem_cons.1 hy with rfl | hy
    · exact ⟨j, hj, hc, e, he, rfl⟩
    · split at hy
      · rename_i h2
        obtain ⟨t, ht, htl⟩ := there_nat (name_of hF.ins hj he).2
        have hde : dirB L e.2 = true := by
          rw [ht] at h2 ⊢
          rw [node_nat L t htl] at h2
          exact (dir_nat htl).2 h2
        rw [← at_kid hF hj hc he hde] at hy
        exact listP_in hF n _ hde y hy
      · cases hy
theorem last_slash : ∀ (A B x y : List UInt8), (∀ c ∈ x, c ≠ 47) → (∀ c ∈ y, c ≠ 47) → A ++ 47 :: x = B ++ 47 :: y → A = B ∧ x = y
  | [], [], x, y, _, _, h => ⟨rfl, (List.cons.inj h).2⟩
  | [], b :: B, x, y, hx, _, h => by
    have h1 := (List.cons.inj h).2
    exact absurd rfl (hx 47 (by rw [h1]; simp))
  | a :: A, [], x, y, _, hy, h => by
    have h1 := (List.cons.inj h).2
    exact absurd rfl (hy 47 (by rw [← h1]; simp))
  | a :: A, b :: B, x, y, hx, hy, h => by
    obtain ⟨h1, h2⟩ := List.cons.inj h
    obtain ⟨h3, h4⟩ := last_slash A B x y hx hy h2
    exact ⟨by rw [h1, h3], h4⟩
theorem at_root (L : List Ino) : atL L 0 = [] := by unfold atL; rw [place_succ, if_pos rfl]
/-- A directory that is not the root is beneath its Up. -/
theorem at_up {L : List Ino} {m b : Int} (hF : FitP L m b) {c : Int} (hc : dirB L c = true) (h0 : c ≠ 0) : ∃ u : Nat, ∃ hu : u < L.length, (nodeAt L c).up = (u : Int) ∧ dirB L (u : Int) = true ∧ ∃ x, (x, c) ∈ L[u].kids ∧ atL L c = atL L (u : Int) ++ 47 :: x := by
  have hup : dirB L (nodeAt L c).up = true := ups_of hF 1 c hc
  obtain ⟨u, hu, hul⟩ := dir_lt hup
  obtain ⟨x, -, hx2, -⟩ := kids_one _ c (one_name hF hul hc h0 hu)
  rw [hu] at hup
  exact ⟨u, hul, hu, hup, x, hx2, at_kid hF hul hup hx2 hc⟩
theorem one_kid {L : List Ino} (hI : AllFit L) {u : Nat} (hu : u < L.length) {e f : List UInt8 × Int} (he : e ∈ L[u].kids) (hf : f ∈ L[u].kids) (h : e.1 = f.1) : e = f := by
  have hR := (kids_rise hI u hu).2
  obtain ⟨i, hi, rfl⟩ := List.getElem_of_mem he
  obtain ⟨t, ht, rfl⟩ := List.getElem_of_mem hf
  rcases Nat.lt_trichotomy i t with h1 | h1 | h1
  · have h2 := hR.lt i t ht h1
    rw [h, less_irrefl] at h2
    cases h2
  · subst h1; rfl
  · have h2 := hR.lt t i hi h1
    rw [h, less_irrefl] at h2
    cases h2
theorem at_inj {L : List Ino} {m b : Int} (hF : FitP L m b) : ∀ (j : Nat) (c c' : Int), Rk L c j → dirB L c = true → dirB L c' = true → atL L c = atL L c' → c = c'
  | 0, c, c', hr, _, hc', h => by
    have h0 : c = 0 := hr.1
    by_cases h1 : c' = 0
    · rw [h0, h1]
    · obtain ⟨u, hu, -, -, x, -, hx⟩ := at_up hF hc' h1
      rw [h0, at_root, hx] at h
      simp at h
  | j + 1, c, c', hr, hc, hc', h => by
    have h0 : c ≠ 0 := hr.2 0 (by omega)
    obtain ⟨u, hu, hue, hud, x, hxm, hx⟩ := at_up hF hc h0
    by_cases h1 : c' = 0
    · rw [h1, at_root, hx] at h
      simp at h
    · obtain ⟨u', hu', hue', hud', x', hxm', hx'⟩ := at_up hF hc' h1
      rw [hx, hx'] at h
      obtain ⟨h2, h3⟩ := last_slash _ _ _ _ (name_parts (name_of hF.ins hu hxm).1).2.2.2.2 (name_parts (name_of hF.ins hu' hxm').1).2.2.2.2 h
      have h4 := at_inj hF j (u : Int) (u' : Int) (by rw [← hue]; exact rk_up hr) hud hud' h2
      obtain rfl : u = u' := by omega
      subst h3
      have h5 := one_kid hF.ins hu hxm hxm' rfl
      exact congrArg Prod.snd h5
theorem list_fst (L : List Ino) : ∀ (n : Nat) (c : Int) (p : List UInt8), listGo L n c p = (listP L n c p).map Prod.fst
  | 0, _, _ => rfl
  | n + 1, c, p => by
    rw [list_succ, listP_succ, List.map_flatMap]
    refine flatMap_same _ _ _ fun e _ => ?_
    unfold listOne
    rw [List.map_cons]
    split
    · rw [list_fst L n]
    · rfl
theorem kidsTo_app (A B : List (List UInt8 × Int)) (c : Int) (s : List UInt8) : kidsTo (A ++ B) c s = kidsTo B c (kidsTo A c s) := by
  unfold kidsTo
  rw [List.foldl_append]

section
variable {L : List Ino} {m b : Int} {d k : Nat} {s : List UInt8} {x : Ino}
theorem Adds.placed (h : Adds L m b d k s x) : ∀ (n : Nat) (c : Int) (p : List UInt8), dirB L c = true → placeGo (addL L d k s x) n c p = placeGo L n c p
  | 0, _, _, _ => rfl
  | n + 1, c, p, hc => by
    obtain ⟨j, rfl, hj⟩ := dir_lt hc
    have hjk : j ≠ k := fun e => by
      subst e
      exact h.nodir ((dir_nat hj).1 hc)
    have hup : dirB L L[j].up = true := ups_in h.fit.root h.fit.rootUp h.fit.ins h.fit.names j hj ((dir_nat hj).1 hc)
    obtain ⟨u, hu, hul⟩ := dir_lt hup
    have huk : u ≠ k := fun e => by
      subst e
      rw [hu] at hup
      exact h.nodir ((dir_nat hul).1 hup)
    rw [place_succ, place_succ, (h.node j hj hjk).2.1, node_nat L j hj, hu, add_node h.dlt s x u hul, node_nat L u hul]
    have hk : kidsTo (if d = u then withKids (L[d]'h.dlt) (namedL (L[d]'h.dlt).kids s k) else if k = u then x else L[u]).kids (j : Int) p = kidsTo L[u].kids (j : Int) p := by
      by_cases e : d = u
      · subst e
        rw [if_pos rfl]
        obtain ⟨A, B, n1, n2, -, -⟩ := named_at L[d].kids s (k : Int) h.new
        show kidsTo (namedL L[d].kids s k) _ p = _
        rw [n2, n1, kidsTo_app, kidsTo_app, kidsTo_cons, if_neg (fun e => hjk (by have e' : (k : Int) = (j : Int) := e; omega))]
      · rw [if_neg e, if_neg (fun e => huk e.symm)]
    rw [hk]
    split
    · rfl
    · rw [← hu]
      exact Adds.placed h n _ _ hup
theorem Adds.same_at (h : Adds L m b d k s x) {c : Int} (hc : dirB L c = true) : atL (addL L d k s x) c = atL L c := by
  unfold atL
  rw [add_len]
  exact h.placed _ _ _ hc

/-- All paths but the new one are those that were there. -/
theorem Adds.paths (h : Adds L m b d k s x) (h0 : (L[k]'h.klt).kind = 0) : (listGo (addL L d k s x) (L.length + 1) 0 []).filter (fun p => p != atL L (d : Int) ++ 47 :: s) = listGo L (L.length + 1) 0 [] := by
  have hdd := (dir_nat h.dlt).2 h.dir
  have hdd' : dirB (addL L d k s x) (d : Int) = true := (h.dirs (fun e => h.ne (by omega))).trans hdd
  have hkk : ∀ y ∈ listP (addL L d k s x) (L.length + 1) 0 [], (y.1 != atL L (d : Int) ++ 47 :: s) = (y.2 != (k : Int)) := fun y hy => by
    rw [← at_root (addL L d k s x)] at hy
    obtain ⟨c, hcl, hcd, e, he, rfl⟩ := listP_in h.fits _ _ h.root.1 y hy
    have hcl' := hcl
    rw [add_len] at hcl'
    have he0 := he
    rw [add_get h.dlt s x c hcl'] at he
    rw [← h.same_at hdd, Bool.eq_iff_iff, bne_iff_ne, bne_iff_ne]
    refine not_congr ?_
    constructor
    · intro hq
      have hok := (name_of h.ins hcl he0).1
      obtain ⟨h1, h2⟩ := last_slash _ _ _ _ (name_parts hok).2.2.2.2 (name_parts h.name).2.2.2.2 hq
      obtain ⟨j, hj⟩ := rk_of (addL L d k s x).length ((leads_iff _ _ _).1 (h.fits.leads c hcl hcd))
      have h3 := at_inj h.fits j _ _ hj hcd hdd' h1
      obtain rfl : c = d := by omega
      rw [if_pos rfl] at he
      have he' : e ∈ namedL L[c].kids s k := he
      rw [named_mem (k : Int) h.new] at he'
      rcases he' with he' | he'
      · rw [he']
      · exact absurd h2 (h.new e he')
    · intro hq
      have hq' : e.2 = (k : Int) := hq
      by_cases e1 : d = c
      · subst e1
        rw [if_pos rfl] at he
        have he' : e ∈ namedL L[d].kids s k := he
        rw [named_mem (k : Int) h.new] at he'
        rcases he' with he' | he'
        · rw [he']
        · exact absurd hq' (h.free h0 e (mem_kidsOf.2 ⟨d, h.dlt, he'⟩))
      · rw [if_neg e1] at he
        by_cases e2 : k = c
        · rw [if_pos e2, h.kids] at he
          cases he
        · rw [if_neg e2] at he
          exact absurd hq' (h.free h0 e (mem_kidsOf.2 ⟨c, hcl', he⟩))
  rw [list_fst, list_fst, List.filter_map, ← h.listed h0 _ _ _ h.fit.root]
  congr 1
  exact List.filter_congr fun y hy => hkk y hy
end

/-- A directory's place as the law takes it: the root's is nothing. -/
theorem place_at {L : List Ino} {m b : Int} (hF : FitP L m b) {c : Int} (hc : dirB L c = true) : (if placeL L c = [47] then [] else placeL L c) = atL L c := by
  have hp : placeL L c = if atL L c = [] then [47] else atL L c := by
    unfold placeL atL
    rw [if_pos hc]
  rw [hp]
  by_cases h0 : c = 0
  · rw [h0, at_root, if_pos rfl, if_pos rfl]
  · obtain ⟨u, hu, -, -, x, hxm, hx⟩ := at_up hF hc h0
    have hne : atL L c ≠ [] := by rw [hx]; simp
    have h47 : atL L c ≠ [47] := fun e => by
      rw [hx] at e
      have h1 := congrArg List.length e
      have h2 : 0 < x.length := List.length_pos_iff.2 (name_parts (name_of hF.ins hu hxm).1).1
      simp only [List.length_append, List.length_cons, List.length_nil] at h1
      omega
    rw [if_neg hne, if_neg h47]
end Go.Proofs.YtmaiphibpdngnaaGreat

namespace Go.Proofs.YtmaiphibpdngnaaGreat
set_option maxRecDepth 100000
open Go Go.RowKit

/-- Names without one. -/
def withoutL (K : List (List UInt8 × Int)) (s : List UInt8) : List (List UInt8 × Int) := K.filter fun e => e.1 != s
theorem without_mem {K : List (List UInt8 × Int)} {s : List UInt8} {e : List UInt8 × Int} : e ∈ withoutL K s ↔ e ∈ K ∧ e.1 ≠ s := by
  unfold withoutL
  rw [List.mem_filter, bne_iff_ne]
theorem without_new {K : List (List UInt8 × Int)} {s : List UInt8} : ∀ e ∈ withoutL K s, e.1 ≠ s := fun _ he => (without_mem.1 he).2
theorem without_none {K : List (List UInt8 × Int)} {s : List UInt8} (h : ∀ e ∈ K, e.1 ≠ s) : withoutL K s = K := filter_out h
theorem without_rises {K : List (List UInt8 × Int)} (s : List UInt8) (h : Rises K) : Rises (withoutL K s) := by
  rw [rises_pair] at h ⊢
  exact h.filter _
theorem without_le (K : List (List UInt8 × Int)) (s : List UInt8) : (withoutL K s).length ≤ K.length := List.length_filter_le _ _
/-- The name put back. -/
theorem named_back : ∀ (K : List (List UInt8 × Int)) (s : List UInt8) (k : Int), Rises K → (s, k) ∈ K → namedL (withoutL K s) s k = K
  | [], _, _, _, h => by cases h
  | e :: r, s, k, hR, h => by
    have hP := (rises_pair _).1 hR
    obtain ⟨h1, h2⟩ := List.pairwise_cons.1 hP
    by_cases he : e.1 = s
    · have hr : ∀ x ∈ r, x.1 ≠ s := fun x hx hxs => by
        have h3 := h1 x hx
        rw [he, hxs, less_irrefl] at h3
        cases h3
      have hes : e = (s, k) := by
        rcases List.mem_cons.1 h with h3 | h3
        · exact h3.symm
        · exact absurd rfl (hr _ h3)
      have hw : withoutL (e :: r) s = r := by
        unfold withoutL
        rw [List.filter_cons, if_neg (by simp [he])]
        exact filter_out hr
      rw [hw]
      subst hes
      cases r with
      | nil => rfl
      | cons f r =>
        have h3 : Op.bytesLess s f.1 = true := h1 f List.mem_cons_self
        have h4 : ¬ Op.bytesLess f.1 s = true := fun h5 => by
          have := less_trans _ _ _ h3 h5
          rw [less_irrefl] at this
          cases this
        rw [namedL, if_neg h4, filter_out hr]
    · have hm : (s, k) ∈ r := by
        rcases List.mem_cons.1 h with h3 | h3
        · exact absurd (by rw [← h3]) he
        · exact h3
      have hw : withoutL (e :: r) s = e :: withoutL r s := by
        unfold withoutL
        rw [List.filter_cons, if_pos (by simpa using he)]
      rw [hw, namedL, if_pos (h1 _ hm), named_back r s k ((rises_pair _).2 h2) hm]
theorem without_named {K : List (List UInt8 × Int)} {s : List UInt8} (k : Int) (h : ∀ e ∈ K, e.1 ≠ s) : withoutL (namedL K s k) s = K := by
  obtain ⟨A, B, h1, h2, -, -⟩ := named_at K s k h
  unfold withoutL
  rw [h2, List.filter_append, List.filter_cons, if_neg (by simp), ← List.filter_append, ← h1]
  exact filter_out h
theorem without_names {K : List (List UInt8 × Int)} {s : List UInt8} {k : Int} (hR : Rises K) (h : (s, k) ∈ K) (c : Int) : namesOf K c = namesOf (withoutL K s) c + (if k = c then 1 else 0) := by
  have h1 := named_names k (without_new (K := K) (s := s)) c
  rw [named_back K s k hR h] at h1
  exact h1
theorem without_len {K : List (List UInt8 × Int)} {s : List UInt8} {k : Int} (hR : Rises K) (h : (s, k) ∈ K) : K.length = (withoutL K s).length + 1 := by
  have h1 := named_len k (without_new (K := K) (s := s))
  rw [named_back K s k hR h] at h1
  exact h1

/-- An inode with one name less; without any it is free. -/
def goneIno (x : Ino) : Ino := if x.links = 1 then noIno else { x with links := x.links - 1 }
/-- A tree in which the directory d has the name s, of inode k, no more. -/
def goneL (L : List Ino) (d k : Nat) (s : List UInt8) : List Ino := (L.set d (withKids (nodeAt L d) (withoutL (nodeAt L d).kids s))).set k (goneIno (nodeAt L k))
theorem gone_len (L : List Ino) (d k : Nat) (s : List UInt8) : (goneL L d k s).length = L.length := by unfold goneL; rw [List.length_set, List.length_set]
theorem gone_get {L : List Ino} {d k : Nat} (hd : d < L.length) (hk : k < L.length) (s : List UInt8) (j : Nat) (hj : j < L.length) :
    (goneL L d k s)[j]'(by rw [gone_len]; exact hj) = if k = j then goneIno L[k] else if d = j then withKids L[d] (withoutL L[d].kids s) else L[j] := by
  simp only [goneL, List.getElem_set, node_nat L d hd, node_nat L k hk]
theorem gone_node {L : List Ino} {d k : Nat} (hd : d < L.length) (hk : k < L.length) (s : List UInt8) (j : Nat) (hj : j < L.length) :
    nodeAt (goneL L d k s) (j : Int) = if k = j then goneIno L[k] else if d = j then withKids L[d] (withoutL L[d].kids s) else L[j] := by
  rw [node_nat _ j (by rw [gone_len]; exact hj)]
  exact gone_get hd hk s j hj
theorem gone_there (L : List Ino) (d k : Nat) (s : List UInt8) (c : Int) : thereB (goneL L d k s) c = thereB L c := by
  unfold thereB
  rw [gone_len]

/-- What is asked of a name that goes. -/
structure Takes (L : List Ino) (m b : Int) (d k : Nat) (s : List UInt8) : Prop where
  fit : FitP L m b
  dlt : d < L.length
  klt : k < L.length
  mem : (s, (k : Int)) ∈ L[d].kids
  empty : L[k].kids = []

section
variable {L : List Ino} {m b : Int} {d k : Nat} {s : List UInt8}
theorem Takes.ne (h : Takes L m b d k s) : d ≠ k := fun e => by
  have h1 := h.mem
  subst e
  rw [h.empty] at h1
  cases h1
theorem Takes.dir (h : Takes L m b d k s) : (L[d]'h.dlt).kind = 2 := dir_of_kids (h.fit.ins d h.dlt).1 (List.ne_nil_of_mem h.mem)
theorem Takes.k0 (h : Takes L m b d k s) : k ≠ 0 := fun e => name_pos h.fit h.dlt h.mem (by show (k : Int) = 0; omega)
theorem Takes.rises (h : Takes L m b d k s) : Rises (L[d]'h.dlt).kids := (kids_rise h.fit.ins d h.dlt).2
theorem Takes.count (h : Takes L m b d k s) : (L[k]'h.klt).links = (namesOf (kidsOf L) k : Int) ∧ 1 ≤ namesOf (kidsOf L) k ∧ (L[k]'h.klt).kind ≠ 0 ∧ ((L[k]'h.klt).kind = 2 → (L[k]'h.klt).links = 1) := by
  obtain ⟨h1, h2⟩ := h.fit.names.2 k h.klt
  rw [countL_get L (kids_pos (kids_there h.fit.ins)) k h.klt] at h1 h2
  have h3 : 1 ≤ namesOf (kidsOf L) k := names_pos (e := (s, (k : Int))) (mem_kidsOf.2 ⟨d, h.dlt, h.mem⟩)
  have hk0 := h.k0
  unfold MayHave at h2
  have h4 : (L[k]'h.klt).kind ≠ 0 := fun e => by
    rw [if_pos (Or.inr e)] at h2
    omega
  refine ⟨h1, h3, h4, fun e => ?_⟩
  rw [if_neg (by rintro (e0 | e0); omega; exact h4 e0), if_pos e] at h2
  omega
theorem Takes.at (h : Takes L m b d k s) (j : Nat) (hj : j < L.length) (hjk : j ≠ k) : (nodeAt (goneL L d k s) (j : Int)).kind = L[j].kind ∧ (nodeAt (goneL L d k s) (j : Int)).up = L[j].up ∧ (nodeAt (goneL L d k s) (j : Int)).links = L[j].links ∧ (nodeAt (goneL L d k s) (j : Int)).mode = L[j].mode ∧ (nodeAt (goneL L d k s) (j : Int)).data = L[j].data := by
  rw [gone_node h.dlt h.klt s j hj, if_neg (fun e => hjk e.symm)]
  by_cases e : d = j
  · subst e
    rw [if_pos rfl]
    exact ⟨rfl, rfl, rfl, rfl, rfl⟩
  · rw [if_neg e]
    exact ⟨rfl, rfl, rfl, rfl, rfl⟩
theorem Takes.atK (h : Takes L m b d k s) : nodeAt (goneL L d k s) (k : Int) = goneIno (L[k]'h.klt) := by
  rw [gone_node h.dlt h.klt s k h.klt, if_pos rfl]
theorem Takes.kids (h : Takes L m b d k s) (j : Nat) (hj : j < L.length) : (nodeAt (goneL L d k s) (j : Int)).kids = if d = j then withoutL L[j].kids s else L[j].kids := by
  by_cases e : k = j
  · subst e
    rw [h.atK, if_neg h.ne, h.empty]
    unfold goneIno
    split
    · rfl
    · exact h.empty
  · rw [gone_node h.dlt h.klt s j hj, if_neg e]
    by_cases e2 : d = j
    · subst e2; rw [if_pos rfl, if_pos rfl]; rfl
    · rw [if_neg e2, if_neg e2]
theorem Takes.sub (h : Takes L m b d k s) (j : Nat) (hj : j < L.length) {e : List UInt8 × Int} (he : e ∈ (nodeAt (goneL L d k s) (j : Int)).kids) : e ∈ L[j].kids := by
  rw [h.kids j hj] at he
  split at he
  · exact (without_mem.1 he).1
  · exact he
theorem Takes.isdir (h : Takes L m b d k s) {c : Int} (hc : dirB (goneL L d k s) c = true) : dirB L c = true ∧ c ≠ (k : Int) ∧ (nodeAt (goneL L d k s) c).up = (nodeAt L c).up := by
  obtain ⟨j, rfl, hj⟩ := dir_lt hc
  have hj' := hj
  rw [gone_len] at hj'
  have hk := node_kind_of hc
  have hjk : j ≠ k := fun e => by
    subst e
    rw [h.atK] at hk
    unfold goneIno at hk
    split at hk
    · cases hk
    · rename_i h1
      exact h1 (h.count.2.2.2 hk)
  obtain ⟨h1, h2, -⟩ := h.at j hj' hjk
  refine ⟨(dir_nat hj').2 (h1 ▸ hk), by omega, ?_⟩
  rw [h2, node_nat L j hj']
theorem Takes.dirs (h : Takes L m b d k s) {c : Int} (hc : dirB L c = true) (hck : c ≠ (k : Int)) : dirB (goneL L d k s) c = true := by
  obtain ⟨j, rfl, hj⟩ := dir_lt hc
  rw [dir_nat (by rw [gone_len]; exact hj), ← node_nat (goneL L d k s) j (by rw [gone_len]; exact hj), (h.at j hj (by omega)).1]
  exact (dir_nat hj).1 hc
theorem Takes.names (h : Takes L m b d k s) (c : Int) : namesOf (kidsOf L) c = namesOf (kidsOf (goneL L d k s)) c + (if (k : Int) = c then 1 else 0) := by
  have h1 := names_set L d h.dlt (withKids (nodeAt L d) (withoutL (nodeAt L d).kids s)) c
  have hk : k < (L.set d (withKids (nodeAt L d) (withoutL (nodeAt L d).kids s))).length := by rw [List.length_set]; exact h.klt
  have h2 := names_set _ k hk (goneIno (nodeAt L k)) c
  have e1 : (L.set d (withKids (nodeAt L d) (withoutL (nodeAt L d).kids s)))[k] = L[k]'h.klt := by rw [List.getElem_set, if_neg h.ne]
  have e2 : (goneIno (nodeAt L k)).kids = [] := by
    have := h.kids k h.klt
    rw [h.atK, if_neg h.ne, h.empty, ← node_nat L k h.klt] at this
    exact this
  rw [e1, h.empty, e2] at h2
  have h3 := without_names h.rises h.mem c
  have h4 : namesOf (kidsOf (L.set d (withKids (nodeAt L d) (withoutL (nodeAt L d).kids s)))) c + namesOf (L[d]'h.dlt).kids c = namesOf (kidsOf L) c + namesOf (withoutL (nodeAt L d).kids s) c := h1
  rw [node_nat L d h.dlt] at h4 h2
  have h5 : namesOf (kidsOf (goneL L d k s)) c = namesOf (kidsOf ((L.set d (withKids (L[d]'h.dlt) (withoutL (L[d]'h.dlt).kids s))).set k (goneIno (nodeAt L k)))) c := by
    unfold goneL
    rw [node_nat L d h.dlt]
  omega
theorem Takes.used (h : Takes L m b d k s) : usedB (goneL L d k s) + (L[k]'h.klt).data.length = usedB L + (goneIno (L[k]'h.klt)).data.length := by
  have h1 := usedB_set L d h.dlt (withKids (nodeAt L d) (withoutL (nodeAt L d).kids s))
  have hk : k < (L.set d (withKids (nodeAt L d) (withoutL (nodeAt L d).kids s))).length := by rw [List.length_set]; exact h.klt
  have h2 := usedB_set _ k hk (goneIno (nodeAt L k))
  have e1 : (L.set d (withKids (nodeAt L d) (withoutL (nodeAt L d).kids s)))[k] = L[k]'h.klt := by rw [List.getElem_set, if_neg h.ne]
  rw [e1, node_nat L k h.klt] at h2
  have h3 : (withKids (nodeAt L d) (withoutL (nodeAt L d).kids s)).data = (L[d]'h.dlt).data := by rw [node_nat L d h.dlt]; rfl
  rw [h3] at h1
  have h5 : usedB (goneL L d k s) = usedB ((L.set d (withKids (nodeAt L d) (withoutL (nodeAt L d).kids s))).set k (goneIno (L[k]'h.klt))) := by
    unfold goneL
    rw [node_nat L k h.klt]
  omega
theorem gone_data (x : Ino) : (goneIno x).data.length ≤ x.data.length := by
  unfold goneIno
  split
  · exact Nat.zero_le _
  · exact Nat.le_refl _
theorem Takes.ins (h : Takes L m b d k s) : AllFit (goneL L d k s) := fun j hj => by
  have hj' := hj
  rw [gone_len] at hj'
  have hI := h.fit.ins j hj'
  have hkids := h.kids j hj'
  rw [← node_nat (goneL L d k s) j hj]
  refine ⟨?_, ?_, fun i hi => ?_⟩
  · rw [gone_node h.dlt h.klt s j hj']
    by_cases e : k = j
    · subst e
      rw [if_pos rfl]
      unfold goneIno
      split
      · rfl
      · exact alone_links _ h.count.2.2.1 hI.1
    · rw [if_neg e]
      by_cases e2 : d = j
      · subst e2
        rw [if_pos rfl]
        have h1 := hI.1
        have h2 := h.dir
        have h3 : ({ L[d] with kids := withoutL L[d].kids s } : Ino) = withKids L[d] (withoutL L[d].kids s) := rfl
        rw [← h3]
        unfold aloneB at h1 ⊢
        simpa [h2] using h1
      · rw [if_neg e2]
        exact hI.1
  · rw [hkids]
    split
    · exact Nat.le_trans (without_le _ _) hI.2.1
    · exact hI.2.1
  · have hR : Rises (nodeAt (goneL L d k s) (j : Int)).kids := by
      rw [hkids]
      split
      · exact without_rises _ (kids_rise h.fit.ins j hj').2
      · exact (kids_rise h.fit.ins j hj').2
    have hm := h.sub j hj' (List.getElem_mem hi)
    exact ⟨(name_of h.fit.ins hj' hm).1, fun t ht => hR i hi t ht, by rw [gone_there]; exact (name_of h.fit.ins hj' hm).2⟩
theorem Takes.root (h : Takes L m b d k s) : dirB (goneL L d k s) 0 = true ∧ (nodeAt (goneL L d k s) 0).up = 0 := by
  have hk0 := h.k0
  have h1 := h.dirs h.fit.root (by omega)
  exact ⟨h1, by rw [(h.isdir h1).2.2]; exact h.fit.rootUp⟩
theorem Takes.upfits (h : Takes L m b d k s) : UpFits (goneL L d k s) := fun d' hd' e he hdir => by
  have hd := hd'
  rw [gone_len] at hd
  rw [← node_nat (goneL L d k s) d' hd'] at he
  obtain ⟨h1, -, h3⟩ := h.isdir hdir
  rw [h3]
  exact h.fit.names.1 d' hd e (h.sub d' hd he) h1
theorem Takes.linksfit (h : Takes L m b d k s) : LinksFit (goneL L d k s) := fun j hj => by
  have hj' := hj
  rw [gone_len] at hj'
  rw [countL_get _ (kids_pos (kids_there h.ins)) j hj]
  have hc := h.names (j : Int)
  obtain ⟨h1, h2⟩ := h.fit.names.2 j hj'
  rw [countL_get L (kids_pos (kids_there h.fit.ins)) j hj'] at h1 h2
  rw [← node_nat (goneL L d k s) j hj]
  by_cases e : j = k
  · subst e
    rw [if_pos rfl] at hc
    rw [h.atK]
    unfold goneIno
    obtain ⟨g1, g2, g3, g4⟩ := h.count
    split
    · rename_i hl
      unfold MayHave
      rw [if_pos (Or.inr (show noIno.kind = 0 from rfl))]
      refine ⟨?_, by omega⟩
      show (0 : Int) = _
      omega
    · rename_i hl
      have hk0 := h.k0
      refine ⟨by show (L[j]'h.klt).links - 1 = _; omega, ?_⟩
      show MayHave (L[j]'h.klt).kind _ _
      unfold MayHave
      rw [if_neg (by rintro (e0 | e0); omega; exact g3 e0), if_neg (fun e0 => hl (g4 e0))]
      omega
  · rw [if_neg (by omega)] at hc
    obtain ⟨n1, n2, n3, -⟩ := h.at j hj' e
    rw [n1, n3]
    have e5 : (namesOf (kidsOf (goneL L d k s)) (j : Int) : Int) = (namesOf (kidsOf L) (j : Int) : Int) := by omega
    rw [e5]
    exact ⟨h1, h2⟩
/-- A directory's Up is not the one that goes. -/
theorem Takes.upk (h : Takes L m b d k s) {c : Int} (hc : dirB L c = true) (h0 : c ≠ 0) : (nodeAt L c).up ≠ (k : Int) := fun e => by
  have h1 := one_name h.fit h.klt hc h0 e
  rw [h.empty] at h1
  cases h1
theorem Takes.same (h : Takes L m b d k s) : ∀ (n : Nat) (c : Int), dirB L c = true → c ≠ (k : Int) → leadsL (goneL L d k s) n c = leadsL L n c
  | 0, _, _, _ => rfl
  | n + 1, c, hc, hck => by
    rw [leads_succ, leads_succ]
    by_cases h0 : c = 0
    · rw [if_pos h0, if_pos h0]
    · rw [if_neg h0, if_neg h0, (h.isdir (h.dirs hc hck)).2.2]
      exact Takes.same h n _ (ups_of h.fit 1 c hc) (h.upk hc h0)
/-- The tree stays fit. -/
theorem Takes.fits (h : Takes L m b d k s) : FitP (goneL L d k s) m b := by
  refine ⟨?_, h.root.1, h.root.2, h.ins, ⟨h.upfits, h.linksfit⟩, fun j hj hdir => ?_⟩
  · obtain ⟨l1, l2, l3, l4, l5⟩ := h.fit.limits
    have h1 := h.used
    have h2 := gone_data (L[k]'h.klt)
    refine ⟨by rw [gone_len]; exact l1, by rw [gone_len]; exact l2, l3, by omega, l5⟩
  · have hj' := hj
    rw [gone_len] at hj'
    obtain ⟨h1, h2, -⟩ := h.isdir hdir
    rw [gone_len, h.same _ _ h1 h2]
    exact h.fit.leads j hj' h1
/-- The name put back. -/
theorem Takes.adds (h : Takes L m b d k s) : Adds (goneL L d k s) m b d k s (L[k]'h.klt) := by
  have hd : d < (goneL L d k s).length := by rw [gone_len]; exact h.dlt
  have hk : k < (goneL L d k s).length := by rw [gone_len]; exact h.klt
  obtain ⟨g1, g2, g3, g4⟩ := h.count
  have ed : (goneL L d k s)[d].kids = withoutL (L[d]'h.dlt).kids s := by
    have := h.kids d h.dlt
    rw [if_pos rfl, node_nat _ d hd] at this
    exact this
  have ek : (goneL L d k s)[k] = goneIno (L[k]'h.klt) := by
    have := h.atK
    rw [node_nat _ k hk] at this
    exact this
  refine ⟨h.fits, hd, ?_, hk, ?_, (name_of h.fit.ins h.dlt h.mem).1, by rw [ed]; exact without_new, ?_, (h.fit.ins k h.klt).1, g3, h.empty, ?_, fun hx => ⟨?_, ?_⟩, ?_⟩
  · have := (h.at d h.dlt h.ne).1
    rw [node_nat _ d hd] at this
    exact this.trans h.dir
  · rw [ek]
    unfold goneIno
    split
    · decide
    · rename_i hl
      exact fun e0 => hl (g4 e0)
  · rw [ed]
    have h1 := without_len h.rises h.mem
    have h2 := (h.fit.ins d h.dlt).2.1
    omega
  · rw [ek]
    unfold goneIno
    split
    · rename_i hl
      rw [hl]; rfl
    · show _ = (L[k]'h.klt).links - 1 + 1
      omega
  · have h1 := h.fit.names.1 d h.dlt _ h.mem ((dir_nat h.klt).2 hx)
    rw [node_nat L k h.klt] at h1
    exact h1
  · rw [ek]
    unfold goneIno
    rw [if_pos (g4 hx)]
    rfl
  · obtain ⟨l1, l2, l3, l4, l5⟩ := h.fit.limits
    have h1 := h.used
    rw [ek]
    omega
theorem Takes.back (h : Takes L m b d k s) : addL (goneL L d k s) d k s (L[k]'h.klt) = L := by
  refine List.ext_getElem (by rw [add_len, gone_len]) fun j h1 h2 => ?_
  have hA := h.adds
  rw [add_get hA.dlt s _ j (by rw [gone_len]; exact h2)]
  have hd : d < (goneL L d k s).length := hA.dlt
  by_cases e : d = j
  · subst e
    rw [if_pos rfl, gone_get h.dlt h.klt s d h.dlt, if_neg (fun e => h.ne e.symm), if_pos rfl]
    show ({ L[d] with kids := namedL (withoutL L[d].kids s) s k } : Ino) = L[d]
    rw [named_back _ _ _ h.rises h.mem]
  · rw [if_neg e]
    by_cases e2 : k = j
    · subst e2
      rw [if_pos rfl]
    · rw [if_neg e2, gone_get h.dlt h.klt s j h2, if_neg e2, if_neg e]
end
end Go.Proofs.YtmaiphibpdngnaaGreat

namespace Go.Proofs.YtmaiphibpdngnaaGreat
set_option maxRecDepth 100000
open Go Go.RowKit

/-- Going Up to the root takes fewer steps than there are inodes. -/
theorem rk_short {L : List Ino} (hU : UpsIn L) {k : Int} (hd : dirB L k = true) {j : Nat} (h : Rk L k j) : j < L.length := by
  rcases Nat.lt_or_ge j L.length with h1 | h1
  · exact h1
  exfalso
  have hall : ∀ i, dirB L (upN L i k) = true := fun i => by
    induction i with
    | zero => exact hd
    | succ i ih =>
      rw [up_next]
      obtain ⟨n, hn, hl⟩ := dir_lt ih
      rw [hn] at ih ⊢
      rw [node_nat L n hl]
      exact hU n hl ((dir_nat hl).1 ih)
  obtain ⟨a, c, hac, hc, he⟩ := pigeon L.length (fun i => (upN L i k).toNat) (fun i _ => by
    obtain ⟨n, hn, hl⟩ := dir_lt (hall i)
    rw [hn]
    simpa using hl)
  have he' : upN L a k = upN L c k := by
    obtain ⟨n, hn, hl⟩ := dir_lt (hall a)
    obtain ⟨n', hn', hl'⟩ := dir_lt (hall c)
    simp only [hn, hn', Int.toNat_natCast] at he
    rw [hn, hn', he]
  have h2 : upN L (a + (j - c)) k = 0 := by
    rw [upN_add, he', ← upN_add, show c + (j - c) = j by omega]
    exact h.1
  exact h.2 (a + (j - c)) (by omega) h2
theorem lead_any {L : List Ino} (hU : UpsIn L) {k : Int} (hd : dirB L k = true) (h : ∃ i, upN L i k = 0) : leadsL L L.length k = true := by
  obtain ⟨i, hi⟩ := h
  obtain ⟨j, hj⟩ := rk_of (i + 1) ⟨i, by omega, hi⟩
  exact (leads_iff L _ _).2 ⟨j, rk_short hU hd hj, hj.1⟩
theorem two_names {M : List (List UInt8 × Int)} {e f : List UInt8 × Int} {c : Int} (he : e ∈ M) (hf : f ∈ M) (h : e ≠ f) (h1 : e.2 = c) (h2 : f.2 = c) : 2 ≤ namesOf M c := by
  unfold namesOf
  have m1 : e ∈ M.filter (fun y => y.2 == c) := List.mem_filter.2 ⟨he, by simpa using h1⟩
  have m2 : f ∈ M.filter (fun y => y.2 == c) := List.mem_filter.2 ⟨hf, by simpa using h2⟩
  obtain ⟨i, hi, hi2⟩ := List.getElem_of_mem m1
  obtain ⟨t, ht, ht2⟩ := List.getElem_of_mem m2
  by_cases hit : i = t
  · subst hit
    exact absurd (hi2.symm.trans ht2) h
  · omega

/-! ### Going Up through one directory -/

def withinB (L : List Ino) : Nat → Int → Int → Bool
  | 0, _, _ => false
  | n + 1, c, k => if c = k then true else if c = 0 then false else withinB L n (nodeAt L c).up k
theorem within_succ (L : List Ino) (n : Nat) (c k : Int) : withinB L (n + 1) c k = if c = k then true else if c = 0 then false else withinB L n (nodeAt L c).up k := rfl
theorem within_more {L : List Ino} {k : Int} : ∀ (j n n' : Nat) (c : Int), Rk L c j → j < n → j < n' → withinB L n c k = withinB L n' c k
  | j, 0, _, _, _, h, _ => absurd h (Nat.not_lt_zero _)
  | j, _, 0, _, _, _, h => absurd h (Nat.not_lt_zero _)
  | 0, n + 1, n' + 1, c, hr, _, _ => by
    have h0 : c = 0 := hr.1
    rw [within_succ, within_succ, if_pos h0, if_pos h0]
  | j + 1, n + 1, n' + 1, c, hr, h, h' => by
    have h0 : c ≠ 0 := hr.2 0 (by omega)
    rw [within_succ, within_succ, if_neg h0, if_neg h0, within_more j n n' _ (rk_up hr) (by omega) (by omega)]
theorem up_zero {L : List Ino} (hr : (nodeAt L 0).up = 0) : ∀ i, upN L i 0 = 0
  | 0 => rfl
  | i + 1 => by
    show upN L i (nodeAt L 0).up = 0
    rw [hr]
    exact up_zero hr i
theorem within_no {L : List Ino} {k : Int} (hroot : (nodeAt L 0).up = 0) (hk : k ≠ 0) : ∀ (j n : Nat) (c : Int), Rk L c j → j < n → withinB L n c k = false → ∀ i, upN L i c ≠ k
  | j, 0, _, _, h, _, _ => absurd h (Nat.not_lt_zero _)
  | 0, n + 1, c, hr, _, _, i => by
    have h0 : c = 0 := hr.1
    rw [h0, up_zero hroot]
    exact fun e => hk e.symm
  | j + 1, n + 1, c, hr, h, hw, i => by
    have h0 : c ≠ 0 := hr.2 0 (by omega)
    rw [within_succ] at hw
    by_cases hck : c = k
    · rw [if_pos hck] at hw
      cases hw
    · rw [if_neg hck, if_neg h0] at hw
      cases i with
      | zero => exact hck
      | succ i => exact within_no hroot hk j n _ (rk_up hr) (by omega) hw i
theorem rank_of {L : List Ino} {m b : Int} (hF : FitP L m b) {c : Int} (hc : dirB L c = true) : ∃ j, Rk L c j ∧ j < L.length := by
  obtain ⟨z, rfl, hz⟩ := dir_lt hc
  obtain ⟨j, hj⟩ := rk_of L.length ((leads_iff L _ _).1 (hF.leads z hz hc))
  exact ⟨j, hj, rk_lt hF.leads hc hj⟩

/-! ### The move -/

def moveD (L : List Ino) (d : Nat) (s : List UInt8) : List Ino := L.set d (withKids (nodeAt L d) (withoutL (nodeAt L d).kids s))
def moveT (L : List Ino) (to k : Nat) (last : List UInt8) : List Ino := L.set to (withKids (nodeAt L to) (namedL (nodeAt L to).kids last k))
def upAt (L : List Ino) (k to : Nat) : List Ino := if (nodeAt L k).kind = 2 then L.set k { nodeAt L k with up := to } else L
/-- A tree in which inode k has the name last in the directory to, in the place of s in d. -/
def moveL (L : List Ino) (d k to : Nat) (s last : List UInt8) : List Ino := upAt (moveT (moveD L d s) to k last) k to
theorem up_len (L : List Ino) (k to : Nat) : (upAt L k to).length = L.length := by
  unfold upAt
  split
  · rw [List.length_set]
  · rfl
theorem move_len (L : List Ino) (d k to : Nat) (s last : List UInt8) : (moveL L d k to s last).length = L.length := by
  unfold moveL
  rw [up_len]
  unfold moveT moveD
  rw [List.length_set, List.length_set]
/-- A directory's names behind the move. -/
def kidsM (K : List (List UInt8 × Int)) (d k to j : Nat) (s last : List UInt8) : List (List UInt8 × Int) :=
  if to = j then namedL (if d = j then withoutL K s else K) last k else if d = j then withoutL K s else K
theorem move_get {L : List Ino} {d k to : Nat} (hd : d < L.length) (hk : k < L.length) (ht : to < L.length) (s last : List UInt8) (j : Nat) (hj : j < L.length) :
    (moveL L d k to s last)[j]'(by rw [move_len]; exact hj) = { L[j] with kids := kidsM L[j].kids d k to j s last, up := if k = j ∧ L[j].kind = 2 then (to : Int) else L[j].up } := by
  have hdl : (moveD L d s).length = L.length := by unfold moveD; rw [List.length_set]
  have htl : (moveT (moveD L d s) to k last).length = L.length := by unfold moveT; rw [List.length_set, hdl]
  have h1 : ∀ i (hi : i < L.length), (moveD L d s)[i]'(by rw [hdl]; exact hi) = { L[i] with kids := if d = i then withoutL L[i].kids s else L[i].kids } := fun i hi => by
    simp only [moveD, List.getElem_set]
    by_cases e : d = i
    · subst e
      rw [if_pos rfl, if_pos rfl, node_nat L d hd]
      rfl
    · rw [if_neg e, if_neg e]
  have h2 : ∀ i (hi : i < L.length), (moveT (moveD L d s) to k last)[i]'(by rw [htl]; exact hi) = { L[i] with kids := kidsM L[i].kids d k to i s last } := fun i hi => by
    simp only [moveT, List.getElem_set]
    unfold kidsM
    by_cases e : to = i
    · subst e
      rw [if_pos rfl, if_pos rfl, node_nat (moveD L d s) to (by rw [hdl]; exact ht), h1 to ht]
      rfl
    · rw [if_neg e, if_neg e, h1 i hi]
  have hkk : (nodeAt (moveT (moveD L d s) to k last) (k : Int)) = { L[k] with kids := kidsM L[k].kids d k to k s last } := by rw [node_nat _ k (by rw [htl]; exact hk), h2 k hk]
  by_cases hk2 : L[k].kind = 2
  · have e0 : moveL L d k to s last = (moveT (moveD L d s) to k last).set k { nodeAt (moveT (moveD L d s) to k last) k with up := to } := by
      unfold moveL upAt
      rw [hkk, if_pos hk2]
    simp only [e0, List.getElem_set]
    by_cases e : k = j
    · subst e
      rw [if_pos rfl, if_pos ⟨rfl, hk2⟩, hkk]
    · rw [if_neg e, if_neg (fun h => e h.1), h2 j hj]
  · have e0 : moveL L d k to s last = moveT (moveD L d s) to k last := by
      unfold moveL upAt
      rw [hkk, if_neg hk2]
    simp only [e0]
    rw [h2 j hj, if_neg]
    rintro ⟨e, e2⟩
    subst e
    exact hk2 e2

/-- What is asked of a name that is another one. -/
structure Moves (L : List Ino) (m b : Int) (d k to : Nat) (s last : List UInt8) : Prop where
  fit : FitP L m b
  dlt : d < L.length
  klt : k < L.length
  tlt : to < L.length
  mem : (s, (k : Int)) ∈ L[d].kids
  tdir : L[to].kind = 2
  name : nameOkL last = true
  new : ∀ e ∈ L[to].kids, e.1 ≠ last
  room : L[to].kids.length < 1024
  out : L[k].kind = 2 → ∀ i, upN L i (to : Int) ≠ (k : Int)
section
variable {L : List Ino} {m b : Int} {d k to : Nat} {s last : List UInt8}
theorem Moves.dir (h : Moves L m b d k to s last) : (L[d]'h.dlt).kind = 2 := dir_of_kids (h.fit.ins d h.dlt).1 (List.ne_nil_of_mem h.mem)
theorem Moves.k0 (h : Moves L m b d k to s last) : k ≠ 0 := fun e => name_pos h.fit h.dlt h.mem (by show (k : Int) = 0; omega)
theorem Moves.upk (h : Moves L m b d k to s last) (hk : (L[k]'h.klt).kind = 2) : (L[k]'h.klt).up = (d : Int) := by
  have h1 := h.fit.names.1 d h.dlt _ h.mem ((dir_nat h.klt).2 hk)
  rw [node_nat L k h.klt] at h1
  exact h1
theorem Moves.dk (h : Moves L m b d k to s last) : d ≠ k := fun e => by
  have h1 := h.dir
  have hk0 := h.k0
  subst e
  have h2 := h.upk h1
  obtain ⟨i, -, hi⟩ := (leads_iff L _ _).1 (h.fit.leads d h.dlt ((dir_nat h.dlt).2 h1))
  have h3 : ∀ i, upN L i (d : Int) = (d : Int) := fun i => by
    induction i with
    | zero => rfl
    | succ i ih =>
      show upN L i (nodeAt L (d : Int)).up = _
      rw [node_nat L d h.dlt, h2]
      exact ih
  rw [h3] at hi
  omega
theorem Moves.tk (h : Moves L m b d k to s last) : to ≠ k := fun e => by
  have h1 := h.tdir
  subst e
  exact h.out h1 0 rfl
theorem Moves.get (h : Moves L m b d k to s last) (j : Nat) (hj : j < L.length) : (moveL L d k to s last)[j]'(by rw [move_len]; exact hj) = { L[j] with kids := kidsM L[j].kids d k to j s last, up := if k = j ∧ L[j].kind = 2 then (to : Int) else L[j].up } := move_get h.dlt h.klt h.tlt s last j hj
theorem Moves.node (h : Moves L m b d k to s last) (j : Nat) (hj : j < L.length) : nodeAt (moveL L d k to s last) (j : Int) = { L[j] with kids := kidsM L[j].kids d k to j s last, up := if k = j ∧ L[j].kind = 2 then (to : Int) else L[j].up } := by
  rw [node_nat _ j (by rw [move_len]; exact hj)]
  exact h.get j hj
theorem Moves.mid (h : Moves L m b d k to s last) : ∀ e ∈ (if d = to then withoutL (L[to]'h.tlt).kids s else (L[to]'h.tlt).kids), e.1 ≠ last := fun e he => by
  split at he
  · exact h.new e (without_mem.1 he).1
  · exact h.new e he
theorem Moves.mem_kids (h : Moves L m b d k to s last) (j : Nat) (hj : j < L.length) {e : List UInt8 × Int} : e ∈ kidsM L[j].kids d k to j s last ↔ (j = to ∧ e = (last, (k : Int))) ∨ (e ∈ L[j].kids ∧ (j = d → e.1 ≠ s)) := by
  have hw : ∀ K : List (List UInt8 × Int), e ∈ (if d = j then withoutL K s else K) ↔ e ∈ K ∧ (j = d → e.1 ≠ s) := fun K => by
    split
    · rename_i e1
      rw [without_mem]
      exact ⟨fun h => ⟨h.1, fun _ => h.2⟩, fun h => ⟨h.1, h.2 e1.symm⟩⟩
    · rename_i e1
      exact ⟨fun h => ⟨h, fun e2 => absurd e2.symm e1⟩, fun h => h.1⟩
  unfold kidsM
  by_cases e1 : to = j
  · subst e1
    rw [if_pos rfl, named_mem (k : Int) h.mid, hw]
    constructor
    · rintro (h1 | h1)
      · exact Or.inl ⟨rfl, h1⟩
      · exact Or.inr h1
    · rintro (h1 | h1)
      · exact Or.inl h1.2
      · exact Or.inr h1
  · rw [if_neg e1, hw]
    constructor
    · exact Or.inr
    · rintro (h1 | h1)
      · exact absurd h1.1.symm e1
      · exact h1
theorem mid_rises {K : List (List UInt8 × Int)} {d j : Nat} {s : List UInt8} (h : Rises K) : Rises (if d = j then withoutL K s else K) := by
  split
  · exact without_rises _ h
  · exact h
theorem Moves.rises (h : Moves L m b d k to s last) (j : Nat) (hj : j < L.length) : Rises (kidsM L[j].kids d k to j s last) := by
  have hR := (kids_rise h.fit.ins j hj).2
  unfold kidsM
  by_cases e1 : to = j
  · subst e1
    rw [if_pos rfl]
    exact named_rises _ h.mid (mid_rises hR)
  · rw [if_neg e1]
    exact mid_rises hR
theorem mid_le (K : List (List UInt8 × Int)) (d j : Nat) (s : List UInt8) : (if d = j then withoutL K s else K).length ≤ K.length := by
  split
  · exact without_le _ _
  · exact Nat.le_refl _
theorem Moves.len (h : Moves L m b d k to s last) (j : Nat) (hj : j < L.length) : (kidsM L[j].kids d k to j s last).length ≤ 1024 := by
  have h1 := (h.fit.ins j hj).2.1
  unfold kidsM
  by_cases e1 : to = j
  · subst e1
    rw [if_pos rfl, named_len _ h.mid]
    have h2 := h.room
    have h3 := mid_le (L[to]'h.tlt).kids d to s
    omega
  · rw [if_neg e1]
    exact Nat.le_trans (mid_le _ _ _ _) h1
theorem Moves.there (_h : Moves L m b d k to s last) (c : Int) : thereB (moveL L d k to s last) c = thereB L c := by
  unfold thereB
  rw [move_len]
theorem Moves.dirs (h : Moves L m b d k to s last) (c : Int) : dirB (moveL L d k to s last) c = dirB L c := by
  unfold dirB
  rw [h.there]
  cases ht : thereB L c with
  | false => rfl
  | true =>
    obtain ⟨j, rfl, hj⟩ := there_nat ht
    rw [h.node j hj, node_nat L j hj]
theorem Moves.names (h : Moves L m b d k to s last) (c : Int) : namesOf (kidsOf (moveL L d k to s last)) c = namesOf (kidsOf L) c := by
  have h1 := names_set L d h.dlt (withKids (nodeAt L d) (withoutL (nodeAt L d).kids s)) c
  have e1 : (withKids (nodeAt L d) (withoutL (nodeAt L d).kids s)).kids = withoutL (L[d]'h.dlt).kids s := by rw [node_nat L d h.dlt]; rfl
  rw [e1] at h1
  have h2 := without_names (kids_rise h.fit.ins d h.dlt).2 h.mem c
  have hdl : (moveD L d s).length = L.length := by unfold moveD; rw [List.length_set]
  have htl : to < (moveD L d s).length := by rw [hdl]; exact h.tlt
  have h3 := names_set (moveD L d s) to htl (withKids (nodeAt (moveD L d s) to) (namedL (nodeAt (moveD L d s) to).kids last k)) c
  have e3 : (moveD L d s)[to].kids = (if d = to then withoutL (L[to]'h.tlt).kids s else (L[to]'h.tlt).kids) := by
    simp only [moveD, List.getElem_set]
    by_cases e : d = to
    · subst e
      rw [if_pos rfl, if_pos rfl, node_nat L d h.dlt]
      rfl
    · rw [if_neg e, if_neg e]
  have h4 := named_names (k : Int) h.mid c
  have e4 : (withKids (nodeAt (moveD L d s) to) (namedL (nodeAt (moveD L d s) to).kids last k)).kids = namedL (if d = to then withoutL (L[to]'h.tlt).kids s else (L[to]'h.tlt).kids) last k := by
    rw [node_nat _ to htl]
    show namedL (moveD L d s)[to].kids last k = _
    rw [e3]
  rw [e4, e3] at h3
  have h5 : namesOf (kidsOf (moveL L d k to s last)) c = namesOf (kidsOf (moveT (moveD L d s) to k last)) c := by
    unfold moveL upAt
    split
    · have hkl : k < (moveT (moveD L d s) to k last).length := by unfold moveT; rw [List.length_set, hdl]; exact h.klt
      have h6 := names_set _ k hkl { nodeAt (moveT (moveD L d s) to k last) k with up := to } c
      have e6 : ({ nodeAt (moveT (moveD L d s) to k last) (k : Int) with up := (to : Int) } : Ino).kids = (moveT (moveD L d s) to k last)[k].kids := by rw [node_nat _ k hkl]
      rw [e6] at h6
      omega
    · rfl
  have h7 : namesOf (kidsOf (moveT (moveD L d s) to k last)) c = namesOf (kidsOf ((moveD L d s).set to (withKids (nodeAt (moveD L d s) to) (namedL (nodeAt (moveD L d s) to).kids last k)))) c := rfl
  have h8 : namesOf (kidsOf (moveD L d s)) c = namesOf (kidsOf (L.set d (withKids (nodeAt L d) (withoutL (nodeAt L d).kids s)))) c := rfl
  omega
theorem used_same : ∀ (L M : List Ino), L.map (·.data.length) = M.map (·.data.length) → usedB L = usedB M
  | [], [], _ => rfl
  | [], _ :: _, h => by cases h
  | _ :: _, [], h => by cases h
  | x :: r, y :: t, h => by
    simp only [List.map_cons, List.cons.injEq] at h
    show x.data.length + usedB r = y.data.length + usedB t
    rw [h.1, used_same r t h.2]
theorem Moves.used (h : Moves L m b d k to s last) : usedB (moveL L d k to s last) = usedB L := by
  refine used_same _ _ (List.ext_getElem (by rw [List.length_map, List.length_map, move_len]) fun j h1 h2 => ?_)
  rw [List.length_map] at h2
  rw [List.getElem_map, List.getElem_map, h.get j h2]
theorem Moves.ins (h : Moves L m b d k to s last) : AllFit (moveL L d k to s last) := fun j hj => by
  have hj' := hj
  rw [move_len] at hj'
  have hI := h.fit.ins j hj'
  rw [h.get j hj']
  refine ⟨?_, h.len j hj', fun i hi => ?_⟩
  · have h1 := hI.1
    by_cases h2 : L[j].kind = 2
    · unfold aloneB at h1 ⊢
      simp [h2] at h1 ⊢
      exact h1
    · have e1 : kidsM L[j].kids d k to j s last = L[j].kids := by
        have hd := h.dir
        have ht := h.tdir
        unfold kidsM
        rw [if_neg (fun e => by subst e; exact h2 ht), if_neg (fun e => by subst e; exact h2 hd)]
      rw [e1, if_neg (fun e => h2 e.2)]
      exact h1
  · have hm := List.getElem_mem hi
    rw [h.mem_kids j hj'] at hm
    refine ⟨?_, fun t ht => h.rises j hj' i hi t ht, ?_⟩
    · rcases hm with ⟨-, e⟩ | ⟨e, -⟩
      · show nameOkL (kidsM L[j].kids d k to j s last)[i].1 = true
        rw [e]
        exact h.name
      · exact (name_of h.fit.ins hj' e).1
    · rw [h.there]
      rcases hm with ⟨-, e⟩ | ⟨e, -⟩
      · show thereB L (kidsM L[j].kids d k to j s last)[i].2 = true
        rw [e]
        exact there_of L k h.klt
      · exact (name_of h.fit.ins hj' e).2
theorem Moves.upfits (h : Moves L m b d k to s last) : UpFits (moveL L d k to s last) := fun d' hd' e he hdir => by
  have hd := hd'
  rw [move_len] at hd
  rw [h.get d' hd] at he
  have he' := (h.mem_kids d' hd).1 he
  rw [h.dirs] at hdir
  obtain ⟨j, hj, hjl⟩ := dir_lt hdir
  rw [hj, h.node j hjl]
  rw [hj] at hdir
  have hk2 := (dir_nat hjl).1 hdir
  show (if k = j ∧ L[j].kind = 2 then (to : Int) else L[j].up) = _
  by_cases ejk : k = j
  · subst ejk
    rw [if_pos ⟨rfl, hk2⟩]
    rcases he' with ⟨e1, e2⟩ | ⟨e1, e2⟩
    · rw [e1]
    · exfalso
      have h1 := h.fit.names.1 d' hd e e1 (by rw [hj]; exact hdir)
      have h2 := h.upk hk2
      rw [hj, node_nat L k hjl, h2] at h1
      obtain rfl : d' = d := by omega
      have h3 := e2 rfl
      have hk0 := h.k0
      have h4 := one_name h.fit hd (c := (k : Int)) hdir (by omega) (by rw [node_nat L k hjl]; exact h2)
      have h5 := two_names e1 h.mem (fun e => h3 (by rw [e])) hj rfl
      omega
  · rw [if_neg (fun e => ejk e.1)]
    rcases he' with ⟨e1, e2⟩ | ⟨e1, e2⟩
    · exfalso
      rw [e2] at hj
      have hj' : (k : Int) = (j : Int) := hj
      omega
    · have h1 := h.fit.names.1 d' hd e e1 (by rw [hj]; exact hdir)
      rw [hj, node_nat L j hjl] at h1
      exact h1
theorem Moves.linksfit (h : Moves L m b d k to s last) : LinksFit (moveL L d k to s last) := fun j hj => by
  have hj' := hj
  rw [move_len] at hj'
  obtain ⟨h1, h2⟩ := h.fit.names.2 j hj'
  rw [countL_get L (kids_pos (kids_there h.fit.ins)) j hj'] at h1 h2
  rw [countL_get _ (kids_pos (kids_there h.ins)) j hj, h.names, h.get j hj']
  exact ⟨h1, h2⟩
theorem Moves.root (h : Moves L m b d k to s last) : dirB (moveL L d k to s last) 0 = true ∧ (nodeAt (moveL L d k to s last) 0).up = 0 := by
  have hp : 0 < L.length := Nat.lt_of_le_of_lt (Nat.zero_le _) h.klt
  refine ⟨(h.dirs 0).trans h.fit.root, ?_⟩
  have h2 := h.fit.rootUp
  rw [show (0 : Int) = ((0 : Nat) : Int) from rfl, node_nat L 0 hp] at h2
  have h3 := h.node 0 hp
  rw [show (0 : Int) = ((0 : Nat) : Int) from rfl, h3]
  show (if k = 0 ∧ L[0].kind = 2 then (to : Int) else L[0].up) = _
  rw [if_neg (fun e => h.k0 e.1)]
  exact h2
theorem Moves.up (h : Moves L m b d k to s last) {c : Int} (hc : dirB L c = true) (hck : c ≠ (k : Int)) : (nodeAt (moveL L d k to s last) c).up = (nodeAt L c).up := by
  obtain ⟨j, rfl, hj⟩ := dir_lt hc
  rw [h.node j hj, node_nat L j hj]
  show (if k = j ∧ L[j].kind = 2 then (to : Int) else L[j].up) = _
  rw [if_neg (fun e => hck (by omega))]
theorem Moves.away (h : Moves L m b d k to s last) : ∀ (i : Nat) (c : Int), dirB L c = true → (∀ i, upN L i c ≠ (k : Int)) → upN (moveL L d k to s last) i c = upN L i c
  | 0, _, _, _ => rfl
  | i + 1, c, hc, ho => by
    show upN (moveL L d k to s last) i (nodeAt (moveL L d k to s last) c).up = upN L i (nodeAt L c).up
    rw [h.up hc (ho 0)]
    exact Moves.away h i _ (ups_of h.fit 1 c hc) (fun i => ho (i + 1))
theorem Moves.comes (h : Moves L m b d k to s last) : ∀ (i : Nat) (c : Int), dirB L c = true → upN L i c = 0 → ∃ i', upN (moveL L d k to s last) i' c = 0
  | 0, _, _, e => ⟨0, e⟩
  | i + 1, c, hc, e => by
    by_cases hck : c = (k : Int)
    · subst hck
      have hk2 := (dir_nat h.klt).1 hc
      have htd : dirB L (to : Int) = true := (dir_nat h.tlt).2 h.tdir
      obtain ⟨j, hj, -⟩ := rank_of h.fit htd
      refine ⟨j + 1, ?_⟩
      show upN (moveL L d k to s last) j (nodeAt (moveL L d k to s last) (k : Int)).up = 0
      rw [h.node k h.klt]
      show upN (moveL L d k to s last) j (if k = k ∧ (L[k]'h.klt).kind = 2 then (to : Int) else (L[k]'h.klt).up) = 0
      rw [if_pos ⟨rfl, hk2⟩, h.away _ _ htd (h.out hk2)]
      exact hj.1
    · obtain ⟨i', hi'⟩ := Moves.comes h i _ (ups_of h.fit 1 c hc) e
      refine ⟨i' + 1, ?_⟩
      show upN (moveL L d k to s last) i' (nodeAt (moveL L d k to s last) c).up = 0
      rw [h.up hc hck]
      exact hi'
/-- The tree stays fit. -/
theorem Moves.fits (h : Moves L m b d k to s last) : FitP (moveL L d k to s last) m b := by
  have hN : NamesFit (moveL L d k to s last) := ⟨h.upfits, h.linksfit⟩
  have hU := ups_in h.root.1 h.root.2 h.ins hN
  refine ⟨?_, h.root.1, h.root.2, h.ins, hN, fun j hj hdir => ?_⟩
  · obtain ⟨l1, l2, l3, l4, l5⟩ := h.fit.limits
    refine ⟨by rw [move_len]; exact l1, by rw [move_len]; exact l2, l3, by rw [h.used]; exact l4, l5⟩
  · have hL := hdir
    rw [h.dirs] at hL
    have hj' := hj
    rw [move_len] at hj'
    obtain ⟨i, -, hi⟩ := (leads_iff L _ _).1 (h.fit.leads j hj' hL)
    exact lead_any hU hdir (h.comes i _ hL hi)
theorem kids_back {K : List (List UInt8 × Int)} {d k to j : Nat} {s last : List UInt8} (hR : Rises K) (hm : j = d → (s, (k : Int)) ∈ K) (hn : j = to → ∀ e ∈ K, e.1 ≠ last) (hsl : d = to → s ≠ last) : kidsM (kidsM K d k to j s last) to k d j last s = K := by
  unfold kidsM
  by_cases e1 : d = j
  · subst e1
    rw [if_pos rfl, if_pos rfl]
    by_cases e2 : to = d
    · subst e2
      rw [if_pos rfl, if_pos rfl, without_named _ (fun e he => hn rfl e (without_mem.1 he).1), named_back _ _ _ hR (hm rfl)]
    · rw [if_neg e2, if_neg e2, named_back _ _ _ hR (hm rfl)]
  · rw [if_neg e1, if_neg e1]
    by_cases e2 : to = j
    · subst e2
      rw [if_pos rfl, if_pos rfl, without_named _ (hn rfl)]
    · rw [if_neg e2, if_neg e2]
/-- Moved back, the tree is as before. -/
theorem Moves.back (h : Moves L m b d k to s last) : moveL (moveL L d k to s last) to k d last s = L := by
  refine List.ext_getElem (by rw [move_len, move_len]) fun j h1 h2 => ?_
  rw [move_get (by rw [move_len]; exact h.tlt) (by rw [move_len]; exact h.klt) (by rw [move_len]; exact h.dlt) last s j (by rw [move_len]; exact h2), h.get j h2]
  have hk : kidsM (kidsM L[j].kids d k to j s last) to k d j last s = L[j].kids := by
    refine kids_back (kids_rise h.fit.ins j h2).2 (fun e => ?_) (fun e => ?_) (fun e => ?_)
    · subst e; exact h.mem
    · subst e; exact h.new
    · subst e
      exact h.new _ h.mem
  simp only [hk]
  by_cases e : k = j ∧ L[j].kind = 2
  · obtain ⟨rfl, e2⟩ := e
    rw [if_pos ⟨rfl, e2⟩, ← h.upk e2]
  · rw [if_neg e, if_neg e]
end
end Go.Proofs.YtmaiphibpdngnaaGreat

namespace Go.Proofs.YtmaiphibpdngnaaGreat
set_option maxRecDepth 100000
open Go Go.RowKit Go.Shelf

attribute [local go_sem] Oper.semAt_some

def upsL (L : List Ino) (n : Nat) (c : Int) : List Int := (List.range n).map fun t => upN L t c
theorem ups_len (L : List Ino) (n : Nat) (c : Int) : (upsL L n c).length = n := by simp [upsL]
theorem ups_succ (L : List Ino) (n : Nat) (c : Int) : upsL L (n + 1) c = upsL L n c ++ [upN L n c] := by simp [upsL, List.range_succ]
theorem ups_mem {L : List Ino} {n : Nat} {c y : Int} : y ∈ upsL L n c ↔ ∃ t, t < n ∧ upN L t c = y := by simp [upsL]
theorem within_iff {L : List Ino} {k : Int} : ∀ (j n : Nat) (c : Int), Rk L c j → j < n → (withinB L n c k = true ↔ ∃ t, t < j + 1 ∧ upN L t c = k)
  | j, 0, _, _, h => absurd h (Nat.not_lt_zero _)
  | 0, n + 1, c, hr, _ => by
    have h0 : c = 0 := hr.1
    rw [within_succ]
    by_cases e : c = k
    · rw [if_pos e]
      exact ⟨fun _ => ⟨0, by omega, e⟩, fun _ => rfl⟩
    · rw [if_neg e, if_pos h0]
      refine ⟨fun h => (by cases h), ?_⟩
      rintro ⟨t, ht, hk⟩
      obtain rfl : t = 0 := by omega
      exact absurd hk e
  | j + 1, n + 1, c, hr, h => by
    have h0 : c ≠ 0 := hr.2 0 (by omega)
    rw [within_succ]
    by_cases e : c = k
    · rw [if_pos e]
      exact ⟨fun _ => ⟨0, by omega, e⟩, fun _ => rfl⟩
    · rw [if_neg e, if_neg h0, within_iff j n _ (rk_up hr) (by omega)]
      constructor
      · rintro ⟨t, ht, hk⟩
        exact ⟨t + 1, by omega, hk⟩
      · rintro ⟨t, ht, hk⟩
        cases t with
        | zero => exact absurd hk e
        | succ t => exact ⟨t, by omega, hk⟩

/-- What the iterator's boxes hold. -/
structure UpBox (W : World) (a : Option Addr) (cap n : Nat) (m b dir : Int) (Bd Bt : Nat) : Prop where
  dir : W.cell? ⟨Bd, 0, none⟩ = some (.int .i64 dir)
  t0 : W.cell? ⟨Bt, 0, none⟩ = some (.slice a n cap)
  t1 : W.cell? ⟨Bt, 1, none⟩ = some (.int .i64 m)
  t2 : W.cell? ⟨Bt, 2, none⟩ = some (.int .i64 b)

theorem UpBox.below {W W' : World} {a : Option Addr} {cap n : Nat} {m b dir : Int} {Bd Bt : Nat} (h : UpBox W a cap n m b dir Bd Bt) (hb : Below W.heap.size W W') : UpBox W' a cap n m b dir Bd Bt := ⟨cell_below hb h.dir, cell_below hb h.t0, cell_below hb h.t1, cell_below hb h.t2⟩

set_option maxRecDepth 100000 in
set_option maxHeartbeats 4000000 in
theorem ups1_in (F : Fence) (hF : Open F) (n : Nat) (hn : 1 ≤ n) (l Bd Bt : Nat) (a : Option Addr) (cap : Nat) (m b dir : Int) (L : List Ino) (hFit : FitP L m b) (hd : dirB L dir = true) (j : Nat) (hj : Rk L dir j) (hjl : j < L.length)
    (J Jx : List Int → World → Prop) (hJ : ∀ pre W W', J pre W → Below W.heap.size W W' → J pre W') (w0 : World)
    (hBox : UpBox w0 a cap L.length m b dir Bd Bt) (hN : NodesIn w0 a cap L)
    (hY : ∀ pre x W, J pre W → pre.length < j + 1 → YieldAt F (n - 1) Tryz.prog l #[.int .i64 x] W fun e W' =>
      (e = .returned (.bool true) ∧ J (pre ++ [x]) W' ∧ Below w0.heap.size W W') ∨ (e = .returned (.bool false) ∧ Jx (pre ++ [x]) W'))
    (W : World) (hW : Below w0.heap.size w0 W) (h0 : J [] W) :
    CallsIn F n Tryz.prog 116 #[.func (.yield l) #[] #[], .pointer (some ⟨Bd, 0, none⟩), .pointer (some ⟨Bt, 0, none⟩)] W fun e W' => (∃ v, e = .returned v) ∧
      ((∃ ys, ys = upsL L (j + 1) dir ∧ J ys W') ∨ (∃ pre, (∃ i, i ≤ j + 1 ∧ pre = upsL L i dir) ∧ Jx pre W')) := by
  have hro : F.round = none := hF.ro
  have hfd : F.fn 32 := hF.fn _
  have HALL := Lib.hid (show ∀ V, Below w0.heap.size w0 V → UpBox V a cap L.length m b dir Bd Bt ∧ NodesIn V a cap L from fun V hV => ⟨hBox.below hV, hN.below hV⟩)
  have HJ := Lib.hid hJ
  have HY := Lib.hid hY
  have HFit := Lib.hid hFit
  have HDir := Lib.hid hd
  have HRk := Lib.hid hj
  have HJ0 := Lib.hid h0
  have hcap := hN.1
  have hmax := hN.2.1
  unfold maxLen at hmax
  have hL1 : L.length ≤ 256 := (fit_small hFit).1
  have hbw := (hBox.below hW)
  have d0 := hbw.dir
  have t0 := hbw.t0
  have gd := cell_lt d0
  have gt := cell_lt t0
  have HW := Lib.hid hW
  clear hN hW hJ hY hFit hd hj hBox h0 hbw
  refine callsIn_of_wp Tryz.func116 rfl (hF.fn _) ?_ hro
  simp only [Tryz.ntmps116, List.size_toArray, List.length_cons, List.length_nil, Nat.reduceAdd, Nat.reduceSub, Array.replicate_succ, Array.replicate_zero, List.push_toArray, List.append_toArray, List.nil_append, List.cons_append]
  gi_wp2
  clear d0 t0 gd gt
  gi_loopw [4, 9] (fun atv iv wr => ∃ i : Nat, i ≤ j ∧ atv = .int .i64 (upN L i dir) ∧ iv = .int .i64 i ∧ Hid (J (upsL L i dir) wr) ∧ Hid (Below w0.heap.size w0 wr)) (fun _ iv _ => L.length - (intOf iv).toNat)
  case atStart => exact ⟨0, by omega, rfl, rfl, HJ0, HW⟩
  case round =>
    obtain ⟨i, hij, rfl, rfl, hJr, hbr⟩ := hrel
    have hil : (i : Int) < (L.length : Int) := by omega
    have hi0 : (0 : Int) ≤ (i : Int) := by omega
    have hcd := ups_of HFit.out i dir HDir.out
    obtain ⟨z, hz, hzl⟩ := dir_lt hcd
    obtain ⟨hbx, hNr⟩ := HALL.out _ hbr.out
    have d0 := hbx.dir
    have t0 := hbx.t0
    have t1 := hbx.t1
    have t2 := hbx.t2
    have gd := cell_lt d0
    have gt := cell_lt t0
    have HNr := Lib.hid hNr
    have hlen : (upsL L i dir).length < j + 1 := by rw [ups_len]; omega
    have HNX := Lib.hid (ups_succ L i dir)
    have HUP := Lib.hid (show upN L (i + 1) dir = (nodeAt L (upN L i dir)).up from up_next L i dir)
    rw [hz] at hcd HNX HUP ⊢
    have HCD := Lib.hid hcd
    have HZ := Lib.hid hz
    clear hbx hNr hcd hz
    by_cases e : i = j
    · have hz0 : (z : Int) = 0 := by
        have h := HRk.out.1
        rw [← e, HZ.out] at h
        exact h
      have hzb : ((z : Int) == 0) = true := by simpa using hz0
      have HIJ := Lib.hid e
      clear e hz0
      gi_wp2_with (gi_at_call 32; refine (hF.calls (ldisdir_known a cap m b z L true HCD.out _ HNr.out)).mono ?_; rintro e w2 ⟨rfl, hb2⟩; obtain ⟨fn, tmps, assign, body, hy, hR⟩ := HY.out (upsL L i dir) z _ (HJ.out _ _ _ hJr.out hb2) hlen)
      refine hR.mono ?_
      rintro e W3 (⟨rfl, hJ3, hk3⟩ | ⟨rfl, hJx3⟩)
      · have HJ3 := Lib.hid hJ3
        clear hJ3 hk3
        gi_wp2
        refine bodyPost_ret (results_none rfl _ _ _) rfl ?_
        exact ⟨⟨_, rfl⟩, .inl ⟨_, by rw [← HIJ.out]; exact HNX.out.symm, HJ3.out⟩⟩
      · have HJ3 := Lib.hid hJx3
        clear hJx3
        gi_wp2
        refine bodyPost_ret (results_none rfl _ _ _) rfl ?_
        exact ⟨⟨_, rfl⟩, .inr ⟨_, ⟨i + 1, by omega, HNX.out.symm⟩, HJ3.out⟩⟩
    · have hz0 : (z : Int) ≠ 0 := by
        rw [← HZ.out]
        exact HRk.out.2 i (by omega)
      have hzb : ((z : Int) == 0) = false := by simpa using hz0
      have hij' : i + 1 ≤ j := by omega
      clear e hz0
      gi_wp2_with (gi_at_call 32; refine (hF.calls (ldisdir_known a cap m b z L true HCD.out _ HNr.out)).mono ?_; rintro e w2 ⟨rfl, hb2⟩; obtain ⟨fn, tmps, assign, body, hy, hR⟩ := HY.out (upsL L i dir) z _ (HJ.out _ _ _ hJr.out hb2) hlen)
      refine hR.mono ?_
      rintro e W3 (⟨rfl, hJ3, hk3⟩ | ⟨rfl, hJx3⟩)
      · have HB3 : Hid (Below w0.heap.size w0 W3) := Lib.hid ((hbr.out.trans (hb2.mono hbr.out.size)).trans hk3)
        obtain ⟨hbx, hN3⟩ := HALL.out _ HB3.out
        have d0 := hbx.dir
        have t0 := hbx.t0
        have t1 := hbx.t1
        have t2 := hbx.t2
        have gd := cell_lt d0
        have gt := cell_lt t0
        obtain ⟨bb, o, rfl, hx⟩ := hN3.2.2 z hzl
        have h5 := hx.up
        have hz1 : (0 : Int) ≤ (z : Int) := by omega
        have hz2 : (z : Int) < (L.length : Int) := by omega
        obtain ⟨u, hu⟩ : ∃ u, u = L[z].up := ⟨_, rfl⟩
        rw [← hu] at h5
        have HU := Lib.hid (show upN L (i + 1) dir = u by rw [HUP.out, node_nat L z hzl, hu])
        have HJ3 := Lib.hid (show J (upsL L (i + 1) dir) W3 by rw [HNX.out]; exact hJ3)
        clear hJ3 hk3 hb2 hbx hN3 hx hu
        gi_wp2
        go_roundw
        case rel => exact ⟨i + 1, hij', by rw [HU.out], by go_num, HJ3, HB3⟩
        case measure => simp [intOf] <;> omega
      · have HJ3 := Lib.hid hJx3
        clear hJx3
        gi_wp2
        refine bodyPost_ret (results_none rfl _ _ _) rfl ?_
        exact ⟨⟨_, rfl⟩, .inr ⟨_, ⟨i + 1, by omega, HNX.out.symm⟩, HJ3.out⟩⟩

theorem ups_stops (F : Fence) (hF : Open F) (n : Nat) (hn : 1 ≤ n) (Bd Bt : Nat) (a : Option Addr) (cap : Nat) (m b dir : Int) (L : List Ino) (hFit : FitP L m b) (hd : dirB L dir = true) (j : Nat) (hj : Rk L dir j) (hjl : j < L.length) (w0 : World)
    (hBox : UpBox w0 a cap L.length m b dir Bd Bt) (hN : NodesIn w0 a cap L) :
    SeqStopsK F n Tryz.prog 116 #[.pointer (some ⟨Bd, 0, none⟩), .pointer (some ⟨Bt, 0, none⟩)] (fun x : Int => #[Value.int .i64 x]) (Below w0.heap.size) (fun ys => ys = upsL L (j + 1) dir) (fun pre => ∃ i, i ≤ j + 1 ∧ pre = upsL L i dir) (j + 1) w0 := fun l J Jx W hW hJ _ hY h0 =>
  ups1_in F hF n hn l Bd Bt a cap m b dir L hFit hd j hj hjl J Jx (fun pre W1 W2 h hb => hJ pre W1 W2 none h ⟨hb.os, hb.tape, hb.output, hb.size, fun k hk _ => hb.block k hk⟩ (fun _ e => by cases e)) w0 hBox hN hY W hW h0
theorem ups_in2 (F : Fence) (hF : Open F) (n : Nat) (v : Value) (a : Option Addr) (cap l : Nat) (m b dir : Int) (hv : v = .agg #[.slice a l cap, .int .i64 m, .int .i64 b]) (w : World) :
    CallsIn F n Tryz.prog 105 #[v, .int .i64 dir] w fun e w' => e = .returned (.func (.func 116) #[] #[.pointer (some ⟨w.heap.size + 1, 0, none⟩), .pointer (some ⟨w.heap.size, 0, none⟩)]) ∧ w' = (w.alloc (.cells #[.slice a l cap, .int .i64 m, .int .i64 b] 24)).alloc (.cells #[.int .i64 dir] 3) := by
  subst hv
  have hro : F.round = none := hF.ro
  refine callsIn_of_wp Tryz.func105 rfl (hF.fn _) ?_ hro
  simp only [Tryz.ntmps105, List.size_toArray, List.length_cons, List.length_nil, Nat.reduceAdd, Nat.reduceSub, Array.replicate_succ, Array.replicate_zero, List.push_toArray, List.append_toArray, List.nil_append, List.cons_append]
  gi_wp2
  go_ret
  exact ⟨rfl, rfl⟩

set_option maxRecDepth 100000 in
set_option maxHeartbeats 4000000 in
theorem lies_in (F : Fence) (hF : Open F) (n : Nat) (hn : 3 ≤ n) (a : Option Addr) (cap : Nat) (m b dir k : Int) (L : List Ino) (hFit : FitP L m b) (hd : dirB L dir = true) (v : Bool) (hv : withinB L L.length dir k = v) (w : World) (hN : NodesIn w a cap L) :
    CallsIn F n Tryz.prog 84 #[.agg #[.slice a L.length cap, .int .i64 m, .int .i64 b], .int .i64 dir, .int .i64 k] w fun e W' => e = .returned (.bool v) ∧ Below w.heap.size w W' := by
  have hro : F.round = none := hF.ro
  have hfu : F.fn 105 := hF.fn _
  have h1 : 1 ≤ n := by omega
  obtain ⟨j, hj, hjl⟩ := rank_of hFit hd
  have HV := Lib.hid (show v = true ↔ ∃ t, t < j + 1 ∧ upN L t dir = k by rw [← hv]; exact within_iff j L.length dir hj hjl)
  obtain ⟨w3, hw3, hb3, hs3, hA, hQ, hR⟩ : ∃ w3, w3 = ((w.alloc (.cells #[.slice a L.length cap, .int .i64 m, .int .i64 b] 24)).alloc (.cells #[.int .i64 k] 3)).alloc (.cells #[.bool false] 4) ∧ Below w.heap.size w w3 ∧ w3.heap.size = w.heap.size + 3 ∧ w3.heap[w.heap.size]? = some (.cells #[.slice a L.length cap, .int .i64 m, .int .i64 b] 24 (0, 0)) ∧ w3.heap[w.heap.size + 1]? = some (.cells #[.int .i64 k] 3 (0, 0)) ∧ w3.heap[w.heap.size + 2]? = some (.cells #[.bool false] 4 (0, 0)) := by
    obtain ⟨w2, hw2, hb2, hs2, hA, hQ⟩ := two_boxes w #[.slice a L.length cap, .int .i64 m, .int .i64 b] #[.int .i64 k] 24 3
    refine ⟨_, rfl, ?_, ?_, ?_, ?_, ?_⟩
    · rw [← hw2]; exact hb2.alloc (by omega) _
    · rw [← hw2]; simp [hs2]
    · rw [← hw2, Below.heap_alloc _ _ _ (by omega)]; exact hA
    · rw [← hw2, Below.heap_alloc _ _ _ (by omega)]; exact hQ
    · rw [← hw2, show w.heap.size + 2 = w2.heap.size by omega]; exact new_block _ _
  obtain ⟨w5, hw5⟩ : ∃ w5, w5 = (w3.alloc (.cells #[.slice a L.length cap, .int .i64 m, .int .i64 b] 24)).alloc (.cells #[.int .i64 dir] 3) := ⟨_, rfl⟩
  obtain ⟨w5', hw5', hb5, hs5, hT5, hD5⟩ := two_boxes w3 #[.slice a L.length cap, .int .i64 m, .int .i64 b] #[.int .i64 dir] 24 3
  rw [← hw5] at hw5'
  subst hw5'
  rw [hs3] at hT5 hD5
  have hB05 : Below w.heap.size w w5' := hb3.trans (hb5.mono (by omega))
  have HSTOP := Lib.hid (ups_stops F hF (n - 1) (by omega) (w.heap.size + 3 + 1) (w.heap.size + 3) a cap m b dir L hFit hd j hj hjl w5' ⟨blk_cell hD5 0, blk_cell hT5 0, blk_cell hT5 1, blk_cell hT5 2⟩ (hN.below hB05))
  have hI5 : Boxed w5' (w.heap.size + 1) 3 (.int .i64 k) := (hb5.block _ (by omega)).trans hQ
  have hR5 : Boxed w5' (w.heap.size + 2) 4 (.bool false) := (hb5.block _ (by omega)).trans hR
  have HI5 := Lib.hid hI5
  have HR5 := Lib.hid hR5
  have HB05 := Lib.hid hB05
  have hs5' : w5'.heap.size = w.heap.size + 5 := by omega
  clear hT5 hD5 hB05 hI5 hR5 hv hj hd hFit hN hA hQ hR hb3 hb5
  refine callsIn_of_wp_marks Tryz.func84 rfl (hF.fn _) ?_ hro
  simp only [Tryz.ntmps84, List.size_toArray, List.length_cons, List.length_nil, Nat.reduceAdd, Nat.reduceSub, Array.replicate_succ, Array.replicate_zero, List.push_toArray, List.append_toArray, List.nil_append, List.cons_append]
  gi_wp2_with (first | (gi_at_call 105; refine (ups_in2 F hF (n - 1) _ a cap L.length m b dir rfl _).mono ?_; rintro e w' ⟨rfl, rfl⟩))
  simp only [Nat.add_assoc, Nat.reduceAdd] at *
  rw [← hw3, ← hw5]
  refine wpIn_rangeFunc_ownG hro h1 (gf := 116) (lb := #[.pointer (some ⟨w.heap.size + 4, 0, none⟩), .pointer (some ⟨w.heap.size + 3, 0, none⟩)]) rfl (hF.fn _) (enters_of Tryz.func116 (by kernel_rfl) rfl)
    HSTOP.out Below.trans (belowK_b (Nat.le_refl _)) (Below.refl _ _) (fun _ => rfl)
    (fun pre W => (∀ y ∈ pre, y ≠ k) ∧ Boxed W (w.heap.size + 2) 4 (.bool false) ∧ Boxed W (w.heap.size + 1) 3 (.int .i64 k) ∧ Below w.heap.size w W)
    (fun c pre W => (c = .ret ∧ k ∈ pre) ∧ Boxed W (w.heap.size + 2) 4 (.bool true) ∧ Below w.heap.size w W)
    (OwnFrom.and (fun _ _ _ _ hs _ _ => hs) (OwnFrom.and (Own.from (boxed_own _ _ (fun _ => .bool false)) _) (OwnFrom.and (Own.from (boxed_own _ _ (fun _ => .int .i64 k)) _) (ownFrom_below (Nat.le_refl _) (by omega)))))
    (fun _ => OwnFrom.and (fun _ _ _ _ hs _ _ => hs) (OwnFrom.and (Own.from (boxed_own _ _ (fun _ => .bool true)) _) (ownFrom_below (Nat.le_refl _) (by omega))))
    ⟨fun _ h => (by cases h), HR5.out, HI5.out, HB05.out⟩
    (fun x => { tmps := #[.agg #[.slice a L.length cap, .int .i64 m, .int .i64 b], .int .i64 dir, .int .i64 k, .pointer (some ⟨w.heap.size, 0, none⟩), undef, .pointer (some ⟨w.heap.size + 1, 0, none⟩), .pointer (some ⟨w.heap.size + 2, 0, none⟩), .int .i64 x, .agg #[.slice a L.length cap, .int .i64 m, .int .i64 b], .int .i64 dir, .func (.func 116) #[] #[.pointer (some ⟨w.heap.size + 4, 0, none⟩), .pointer (some ⟨w.heap.size + 3, 0, none⟩)], .int .i64 x, undef, undef, undef], defers := [] }) ?assign ?body ?done ?stop
  case assign =>
    intro l x W K hK
    gi_wp2
    exact hK
  case body =>
    rintro l pre x W ⟨hne, hr, hi, hB⟩ -
    have hc := hi.cell
    have hrc := hr.cell
    have hrf := hr.frozen
    have hgl := hr.lt
    by_cases e : x = k
    · have hxb : (x == k) = true := by simpa using e
      have HX := Lib.hid e
      clear e
      gi_wp2
      refine ⟨(KeepsOthers.setCell _ _ _).from _, ⟨rfl, by rw [← HX.out]; simp⟩, hr.set _, hB.setCell (p := ⟨w.heap.size + 2, 0, none⟩) (by simp) _⟩
    · have hxb : (x == k) = false := by simpa using e
      have HX := Lib.hid e
      clear e
      gi_wp2
      refine ⟨KeepsFrom.refl _ _, Below.refl _ _, fun y hy => ?_, hr, hi, hB⟩
      rcases List.mem_append.1 hy with h | h
      · exact hne y h
      · rw [List.mem_singleton.1 h]; exact HX.out
  case done =>
    rintro D ys W hD rfl ⟨hne, hr, hi, hB⟩ hK
    have HNE := Lib.hid (show v = false from by
      cases hv : v with
      | false => rfl
      | true =>
        obtain ⟨t, ht, hk⟩ := HV.out.1 hv
        exact absurd hk (hne _ (ups_mem.2 ⟨t, ht, rfl⟩)))
    have hrc := hr.cell
    have hrf := hr.frozen
    have hgl := hr.lt
    clear hne
    have hD' : D ≠ w.heap.size + 2 := by omega
    have hK2 : (W.setCell ⟨w.heap.size + 2, 0, none⟩ (.bool false)).heap[D]? = some (.deferred (some [])) := (Below.heap_setCell _ _ _ _ hD').trans hK
    have hbx := hr.set (.bool false)
    have hB2 : Below w.heap.size w ((W.setCell ⟨w.heap.size + 2, 0, none⟩ (.bool false)).putObj D (.deferred none)) := (hB.setCell (p := ⟨w.heap.size + 2, 0, none⟩) (by simp) _).trans (belowK_b (w := w) (Nat.le_refl _) _ D _ _ (by omega) hK2 rfl rfl)
    have hc2 : ((W.setCell ⟨w.heap.size + 2, 0, none⟩ (.bool false)).putObj D (.deferred none)).cell? ⟨w.heap.size + 2, 0, none⟩ = some (.bool false) := (World.cell?_of_block (a := ⟨w.heap.size + 2, 0, none⟩) (World.putObj_heap_other (fun e => hD' e.symm))).trans hbx.cell
    have HF2 := Lib.hid hc2
    gi_wp2
    refine ⟨by simp, .inl ⟨_, _, rfl, run_takeDeferred hK2, ?_⟩⟩
    rw [HNE.out]
    exact ⟨.bool false, by simp [results, Tryz.results84, go_sem, HF2.out], rfl, hB2⟩
  case stop =>
    rintro D c pre W hD ⟨i, hi, rfl⟩ ⟨⟨rfl, hk⟩, hr, hB⟩ hK
    have HNE := Lib.hid (show v = true from HV.out.2 (by
      obtain ⟨t, ht, hk⟩ := ups_mem.1 hk
      exact ⟨t, by omega, hk⟩))
    have hrc := hr.cell
    have hrf := hr.frozen
    have hgl := hr.lt
    clear hk
    have hD' : D ≠ w.heap.size + 2 := by omega
    have hB2 : Below w.heap.size w (W.putObj D (.deferred none)) := hB.trans (belowK_b (w := w) (Nat.le_refl _) _ D _ _ (by omega) hK rfl rfl)
    have hc2 : (W.putObj D (.deferred none)).cell? ⟨w.heap.size + 2, 0, none⟩ = some (.bool true) := (World.cell?_of_block (a := ⟨w.heap.size + 2, 0, none⟩) (World.putObj_heap_other (fun e => hD' e.symm))).trans hrc
    have HF2 := Lib.hid hc2
    gi_wp2
    refine ⟨by simp, .inl ⟨_, _, rfl, run_takeDeferred hK, ?_⟩⟩
    rw [HNE.out]
    exact ⟨.bool true, by simp [results, Tryz.results84, go_sem, HF2.out], rfl, hB2⟩

theorem lies_any (a : Option Addr) (cap : Nat) (m b dir k : Int) (L : List Ino) (hFit : FitP L m b) (hd : dirB L dir = true) (v : Bool) (hv : withinB L L.length dir k = v) (w : World) (hN : NodesIn w a cap L) :
    Calls Tryz.prog 84 #[.agg #[.slice a L.length cap, .int .i64 m, .int .i64 b], .int .i64 dir, .int .i64 k] w fun e W' => e = .returned (.bool v) ∧ Below w.heap.size w W' :=
  callsIn_wide.1 (lies_in Fence.wide open_wide 3 (Nat.le_refl _) a cap m b dir k L hFit hd v hv w hN)
end Go.Proofs.YtmaiphibpdngnaaGreat

namespace Go.Proofs.YtmaiphibpdngnaaGreat
set_option maxRecDepth 100000
open Go Go.RowKit

/-- At block B lies a spot: a directory, a name, its inode, and whether its path ends with a slash. -/
structure SpotIn (W : World) (B : Nat) (d : Int) (s : List UInt8) (k : Int) (sl : Bool) : Prop where
  dir : W.cell? ⟨B, 0, none⟩ = some (.int .i64 d)
  name : W.cell? ⟨B, 1, none⟩ = some (.string ⟨s.toArray⟩)
  ino : W.cell? ⟨B, 2, none⟩ = some (.int .i64 k)
  slash : W.cell? ⟨B, 3, none⟩ = some (.bool sl)
theorem SpotIn.below {W W' : World} {B : Nat} {d k : Int} {s : List UInt8} {sl : Bool} (h : SpotIn W B d s k sl) (hb : Below W.heap.size W W') : SpotIn W' B d s k sl := ⟨cell_below hb h.dir, cell_below hb h.name, cell_below hb h.ino, cell_below hb h.slash⟩
/-- At block B lies a tree. -/
structure TreeBx (W : World) (B : Nat) (a : Option Addr) (cap n : Nat) (m b : Int) : Prop where
  t0 : W.cell? ⟨B, 0, none⟩ = some (.slice a n cap)
  t1 : W.cell? ⟨B, 1, none⟩ = some (.int .i64 m)
  t2 : W.cell? ⟨B, 2, none⟩ = some (.int .i64 b)
theorem TreeBx.below {W W' : World} {B : Nat} {a : Option Addr} {cap n : Nat} {m b : Int} (h : TreeBx W B a cap n m b) (hb : Below W.heap.size W W') : TreeBx W' B a cap n m b := ⟨cell_below hb h.t0, cell_below hb h.t1, cell_below hb h.t2⟩
def spotV (d : Int) (s : List UInt8) (k : Int) (sl : Bool) : Value := .agg #[.int .i64 d, .string ⟨s.toArray⟩, .int .i64 k, .bool sl]
theorem spot_block {W : World} {B : Nat} {d k : Int} {s : List UInt8} {sl : Bool} {t : TypeId} (h : W.heap[B]? = some (.cells #[.int .i64 d, .string ⟨s.toArray⟩, .int .i64 k, .bool sl] t (0, 0))) : SpotIn W B d s k sl := ⟨blk_cell h 0, blk_cell h 1, blk_cell h 2, blk_cell h 3⟩
theorem tree_block {W : World} {B : Nat} {a : Option Addr} {cap n : Nat} {m b : Int} {t : TypeId} (h : W.heap[B]? = some (.cells #[.slice a n cap, .int .i64 m, .int .i64 b] t (0, 0))) : TreeBx W B a cap n m b := ⟨blk_cell h 0, blk_cell h 1, blk_cell h 2⟩

set_option maxHeartbeats 1000000 in
theorem cname1 (Bs : Nat) (ds : Int) (ss : List UInt8) (ks : Int) (ls : Bool) (W : World) (hSs : SpotIn W Bs ds ss ks ls) : Calls Tryz.prog 72 #[.pointer (some ⟨Bs, 0, none⟩)] W fun e w' => e = .returned (.bool (ss == [46] || ss == [46, 46])) ∧ Below W.heap.size W w' := by
  have xs0 := hSs.dir
  have xs1 := hSs.name
  have xs2 := hSs.ino
  have xs3 := hSs.slash
  have gxs := cell_lt xs0
  cases e1 : (ss == [46]) <;> cases e2 : (ss == [46, 46])
  all_goals
    go_enter Tryz.func72, Tryz.ntmps72
    go_wp2_with (fail)
    go_ret
    exact ⟨rfl, Below.refl _ _⟩
set_option maxHeartbeats 1000000 in
theorem cname2 (Bs : Nat) (ds : Int) (ss : List UInt8) (ks : Int) (ls : Bool) (W : World) (hSs : SpotIn W Bs ds ss ks ls) : Calls Tryz.prog 73 #[.pointer (some ⟨Bs, 0, none⟩)] W fun e w' => e = .returned (.bool (ks == -1)) ∧ Below W.heap.size W w' := by
  have xs0 := hSs.dir
  have xs1 := hSs.name
  have xs2 := hSs.ino
  have xs3 := hSs.slash
  have gxs := cell_lt xs0
  all_goals
    go_enter Tryz.func73, Tryz.ntmps73
    go_wp2_with (fail)
    go_ret
    exact ⟨rfl, Below.refl _ _⟩
set_option maxHeartbeats 1000000 in
theorem cname3 (Bt : Nat) (a : Option Addr) (cap : Nat) (m b : Int) (L : List Ino) (hF : FitP L m b) (Bs : Nat) (ds : Int) (ss : List UInt8) (ks : Int) (ls : Bool) (W : World) (hT : TreeBx W Bt a cap L.length m b) (hN : NodesIn W a cap L) (hSs : SpotIn W Bs ds ss ks ls) (v : Bool) (hv : mayL L ds 3 = v) : Calls Tryz.prog 74 #[.pointer (some ⟨Bt, 0, none⟩), .pointer (some ⟨Bs, 0, none⟩)] W fun e w' => e = .returned (.bool (!v)) ∧ Below W.heap.size W w' := by
  have q0 := hT.t0
  have q1 := hT.t1
  have q2 := hT.t2
  have gq := cell_lt q0
  have xs0 := hSs.dir
  have xs1 := hSs.name
  have xs2 := hSs.ino
  have xs3 := hSs.slash
  have gxs := cell_lt xs0
  have HN := Lib.hid hN
  clear hN hT
  have HV := Lib.hid hv
  clear hv
  all_goals
    go_enter Tryz.func74, Tryz.ntmps74
    go_wp2_with (first | (go_at_call 75; refine (lmayw_known a cap m b _ _ L hF.ins _ HV.out _ HN.out).mono ?_; rintro e w2 ⟨rfl, hb2⟩) | fail)
    go_ret
    exact ⟨rfl, by first | exact hb2 | exact Below.refl _ _⟩
set_option maxHeartbeats 1000000 in
theorem cunl1 (Bt : Nat) (a : Option Addr) (cap : Nat) (m b : Int) (L : List Ino) (Bs : Nat) (ds : Int) (ss : List UInt8) (ks : Int) (ls : Bool) (W : World) (hT : TreeBx W Bt a cap L.length m b) (hN : NodesIn W a cap L) (hSs : SpotIn W Bs ds ss ks ls) (v : Bool) (hv : dirB L ks = v) : Calls Tryz.prog 31 #[.pointer (some ⟨Bt, 0, none⟩), .pointer (some ⟨Bs, 0, none⟩)] W fun e w' => e = .returned (.bool (v)) ∧ Below W.heap.size W w' := by
  have q0 := hT.t0
  have q1 := hT.t1
  have q2 := hT.t2
  have gq := cell_lt q0
  have xs0 := hSs.dir
  have xs1 := hSs.name
  have xs2 := hSs.ino
  have xs3 := hSs.slash
  have gxs := cell_lt xs0
  have HN := Lib.hid hN
  clear hN hT
  have HV := Lib.hid hv
  clear hv
  all_goals
    go_enter Tryz.func31, Tryz.ntmps31
    go_wp2_with (first | (go_at_call 32; refine (ldisdir_known a cap m b _ L _ HV.out _ HN.out).mono ?_; rintro e w2 ⟨rfl, hb2⟩) | fail)
    go_ret
    exact ⟨rfl, by first | exact hb2 | exact Below.refl _ _⟩
set_option maxHeartbeats 1000000 in
theorem cunl2 (Bs : Nat) (ds : Int) (ss : List UInt8) (ks : Int) (ls : Bool) (W : World) (hSs : SpotIn W Bs ds ss ks ls) : Calls Tryz.prog 33 #[.pointer (some ⟨Bs, 0, none⟩)] W fun e w' => e = .returned (.bool (ls)) ∧ Below W.heap.size W w' := by
  have xs0 := hSs.dir
  have xs1 := hSs.name
  have xs2 := hSs.ino
  have xs3 := hSs.slash
  have gxs := cell_lt xs0
  all_goals
    go_enter Tryz.func33, Tryz.ntmps33
    go_wp2_with (fail)
    go_ret
    exact ⟨rfl, Below.refl _ _⟩
set_option maxHeartbeats 1000000 in
theorem crmd1 (Bt : Nat) (a : Option Addr) (cap : Nat) (m b : Int) (L : List Ino) (Bs : Nat) (ds : Int) (ss : List UInt8) (ks : Int) (ls : Bool) (W : World) (hT : TreeBx W Bt a cap L.length m b) (hN : NodesIn W a cap L) (hSs : SpotIn W Bs ds ss ks ls) (v : Bool) (hv : dirB L ks = v) : Calls Tryz.prog 39 #[.pointer (some ⟨Bt, 0, none⟩), .pointer (some ⟨Bs, 0, none⟩)] W fun e w' => e = .returned (.bool (!v)) ∧ Below W.heap.size W w' := by
  have q0 := hT.t0
  have q1 := hT.t1
  have q2 := hT.t2
  have gq := cell_lt q0
  have xs0 := hSs.dir
  have xs1 := hSs.name
  have xs2 := hSs.ino
  have xs3 := hSs.slash
  have gxs := cell_lt xs0
  have HN := Lib.hid hN
  clear hN hT
  have HV := Lib.hid hv
  clear hv
  all_goals
    go_enter Tryz.func39, Tryz.ntmps39
    go_wp2_with (first | (go_at_call 32; refine (ldisdir_known a cap m b _ L _ HV.out _ HN.out).mono ?_; rintro e w2 ⟨rfl, hb2⟩) | fail)
    go_ret
    exact ⟨rfl, by first | exact hb2 | exact Below.refl _ _⟩
set_option maxHeartbeats 1000000 in
theorem crmd2 (Bt : Nat) (a : Option Addr) (cap : Nat) (m b : Int) (L : List Ino) (Bs : Nat) (ds : Int) (ss : List UInt8) (ks : Int) (ls : Bool) (kn : Nat) (hk : ks = (kn : Int)) (hkl : kn < L.length) (W : World) (hT : TreeBx W Bt a cap L.length m b) (hN : NodesIn W a cap L) (hSs : SpotIn W Bs ds ss ks ls) (v : Bool) (hv : decide (0 < (nodeAt L ks).kids.length) = v) : Calls Tryz.prog 40 #[.pointer (some ⟨Bt, 0, none⟩), .pointer (some ⟨Bs, 0, none⟩)] W fun e w' => e = .returned (.bool (v)) ∧ Below W.heap.size W w' := by
  have q0 := hT.t0
  have q1 := hT.t1
  have q2 := hT.t2
  have gq := cell_lt q0
  have xs0 := hSs.dir
  have xs1 := hSs.name
  have xs2 := hSs.ino
  have xs3 := hSs.slash
  have gxs := cell_lt xs0
  have HN := Lib.hid hN
  clear hN hT
  have HV := Lib.hid hv
  clear hv
  subst hk
  all_goals
    go_enter Tryz.func40, Tryz.ntmps40
    go_wp2_with (first | (go_at_call 41; refine (lhaskids_known a cap m b _ L hkl _ HV.out _ HN.out).mono ?_; rintro e w2 ⟨rfl, hb2⟩) | fail)
    go_ret
    exact ⟨rfl, by first | exact hb2 | exact Below.refl _ _⟩
set_option maxHeartbeats 1000000 in
theorem crmd3 (Bs : Nat) (ds : Int) (ss : List UInt8) (ks : Int) (ls : Bool) (Cc : Nat) (c : Int) (W : World) (hSs : SpotIn W Bs ds ss ks ls) (hc : W.cell? ⟨Cc, 0, none⟩ = some (.int .i64 c)) : Calls Tryz.prog 42 #[.pointer (some ⟨Bs, 0, none⟩), .pointer (some ⟨Cc, 0, none⟩)] W fun e w' => e = .returned (.bool (ks == c)) ∧ Below W.heap.size W w' := by
  have xs0 := hSs.dir
  have xs1 := hSs.name
  have xs2 := hSs.ino
  have xs3 := hSs.slash
  have gxs := cell_lt xs0
  have gc := cell_lt hc
  all_goals
    go_enter Tryz.func42, Tryz.ntmps42
    go_wp2_with (fail)
    go_ret
    exact ⟨rfl, Below.refl _ _⟩
set_option maxHeartbeats 1000000 in
theorem cmov1 (Bt : Nat) (dt : Int) (st : List UInt8) (kt : Int) (lt : Bool) (W : World) (hSt : SpotIn W Bt dt st kt lt) (v : Bool) (hv : nameOkL st = v) : Calls Tryz.prog 79 #[.pointer (some ⟨Bt, 0, none⟩)] W fun e w' => e = .returned (.bool (!v)) ∧ Below W.heap.size W w' := by
  have xt0 := hSt.dir
  have xt1 := hSt.name
  have xt2 := hSt.ino
  have xt3 := hSt.slash
  have gxt := cell_lt xt0
  have HV := Lib.hid hv
  clear hv
  all_goals
    go_enter Tryz.func79, Tryz.ntmps79
    go_wp2_with (first | (go_at_call 80; refine (lname_known _ _ HV.out _).mono ?_; rintro e w2 ⟨rfl, rfl⟩) | fail)
    go_ret
    exact ⟨rfl, by first | exact hb2 | exact Below.refl _ _⟩
set_option maxHeartbeats 1000000 in
theorem cmov2 (Bt : Nat) (a : Option Addr) (cap : Nat) (m b : Int) (L : List Ino) (hF : FitP L m b) (Bs : Nat) (ds : Int) (ss : List UInt8) (ks : Int) (ls : Bool) (W : World) (hT : TreeBx W Bt a cap L.length m b) (hN : NodesIn W a cap L) (hSs : SpotIn W Bs ds ss ks ls) (v : Bool) (hv : mayL L ds 3 = v) : Calls Tryz.prog 81 #[.pointer (some ⟨Bt, 0, none⟩), .pointer (some ⟨Bs, 0, none⟩)] W fun e w' => e = .returned (.bool (!v)) ∧ Below W.heap.size W w' := by
  have q0 := hT.t0
  have q1 := hT.t1
  have q2 := hT.t2
  have gq := cell_lt q0
  have xs0 := hSs.dir
  have xs1 := hSs.name
  have xs2 := hSs.ino
  have xs3 := hSs.slash
  have gxs := cell_lt xs0
  have HN := Lib.hid hN
  clear hN hT
  have HV := Lib.hid hv
  clear hv
  all_goals
    go_enter Tryz.func81, Tryz.ntmps81
    go_wp2_with (first | (go_at_call 75; refine (lmayw_known a cap m b _ _ L hF.ins _ HV.out _ HN.out).mono ?_; rintro e w2 ⟨rfl, hb2⟩) | fail)
    go_ret
    exact ⟨rfl, by first | exact hb2 | exact Below.refl _ _⟩
set_option maxHeartbeats 1000000 in
theorem cmov3 (Cdd : Nat) (dd : Bool) (Bf : Nat) (df : Int) (sf : List UInt8) (kf : Int) (lf : Bool) (Bs : Nat) (ds : Int) (ss : List UInt8) (ks : Int) (ls : Bool) (W : World) (hdd : W.cell? ⟨Cdd, 0, none⟩ = some (.bool dd)) (hSf : SpotIn W Bf df sf kf lf) (hSs : SpotIn W Bs ds ss ks ls) : Calls Tryz.prog 82 #[.pointer (some ⟨Cdd, 0, none⟩), .pointer (some ⟨Bf, 0, none⟩), .pointer (some ⟨Bs, 0, none⟩)] W fun e w' => e = .returned (.bool (!dd && (lf || ls))) ∧ Below W.heap.size W w' := by
  have gdd := cell_lt hdd
  have xf0 := hSf.dir
  have xf1 := hSf.name
  have xf2 := hSf.ino
  have xf3 := hSf.slash
  have gxf := cell_lt xf0
  have xs0 := hSs.dir
  have xs1 := hSs.name
  have xs2 := hSs.ino
  have xs3 := hSs.slash
  have gxs := cell_lt xs0
  cases dd <;> cases lf <;> cases ls
  all_goals
    go_enter Tryz.func82, Tryz.ntmps82
    go_wp2_with (fail)
    go_ret
    exact ⟨rfl, Below.refl _ _⟩
set_option maxHeartbeats 1000000 in
theorem cmov4 (Cdd : Nat) (dd : Bool) (Bt : Nat) (a : Option Addr) (cap : Nat) (m b : Int) (L : List Ino) (hF : FitP L m b) (Bs : Nat) (ds : Int) (ss : List UInt8) (ks : Int) (ls : Bool) (hdir : dirB L ds = true) (Bf : Nat) (df : Int) (sf : List UInt8) (kf : Int) (lf : Bool) (W : World) (hdd : W.cell? ⟨Cdd, 0, none⟩ = some (.bool dd)) (hT : TreeBx W Bt a cap L.length m b) (hN : NodesIn W a cap L) (hSs : SpotIn W Bs ds ss ks ls) (hSf : SpotIn W Bf df sf kf lf) (v : Bool) (hv : withinB L L.length ds kf = v) : Calls Tryz.prog 83 #[.pointer (some ⟨Cdd, 0, none⟩), .pointer (some ⟨Bt, 0, none⟩), .pointer (some ⟨Bs, 0, none⟩), .pointer (some ⟨Bf, 0, none⟩)] W fun e w' => e = .returned (.bool (dd && v)) ∧ Below W.heap.size W w' := by
  have gdd := cell_lt hdd
  have q0 := hT.t0
  have q1 := hT.t1
  have q2 := hT.t2
  have gq := cell_lt q0
  have xs0 := hSs.dir
  have xs1 := hSs.name
  have xs2 := hSs.ino
  have xs3 := hSs.slash
  have gxs := cell_lt xs0
  have xf0 := hSf.dir
  have xf1 := hSf.name
  have xf2 := hSf.ino
  have xf3 := hSf.slash
  have gxf := cell_lt xf0
  have HN := Lib.hid hN
  clear hN hT
  have HV := Lib.hid hv
  clear hv
  cases dd
  all_goals
    go_enter Tryz.func83, Tryz.ntmps83
    go_wp2_with (first | (go_at_call 84; refine (lies_any a cap m b _ _ L hF hdir _ HV.out _ HN.out).mono ?_; rintro e w2 ⟨rfl, hb2⟩) | fail)
    go_ret
    exact ⟨rfl, by first | exact hb2 | exact Below.refl _ _⟩
set_option maxHeartbeats 1000000 in
theorem cpla1 (Cth : Nat) (th : Bool) (Cdd : Nat) (dd : Bool) (Bt : Nat) (a : Option Addr) (cap : Nat) (m b : Int) (L : List Ino) (Bs : Nat) (ds : Int) (ss : List UInt8) (ks : Int) (ls : Bool) (W : World) (hth : W.cell? ⟨Cth, 0, none⟩ = some (.bool th)) (hdd : W.cell? ⟨Cdd, 0, none⟩ = some (.bool dd)) (hT : TreeBx W Bt a cap L.length m b) (hN : NodesIn W a cap L) (hSs : SpotIn W Bs ds ss ks ls) (v : Bool) (hv : dirB L ks = v) : Calls Tryz.prog 85 #[.pointer (some ⟨Cth, 0, none⟩), .pointer (some ⟨Cdd, 0, none⟩), .pointer (some ⟨Bt, 0, none⟩), .pointer (some ⟨Bs, 0, none⟩)] W fun e w' => e = .returned (.bool (th && dd && !v)) ∧ Below W.heap.size W w' := by
  have gth := cell_lt hth
  have gdd := cell_lt hdd
  have q0 := hT.t0
  have q1 := hT.t1
  have q2 := hT.t2
  have gq := cell_lt q0
  have xs0 := hSs.dir
  have xs1 := hSs.name
  have xs2 := hSs.ino
  have xs3 := hSs.slash
  have gxs := cell_lt xs0
  have HN := Lib.hid hN
  clear hN hT
  have HV := Lib.hid hv
  clear hv
  cases th <;> cases dd
  all_goals
    go_enter Tryz.func85, Tryz.ntmps85
    go_wp2_with (first | (go_at_call 32; refine (ldisdir_known a cap m b _ L _ HV.out _ HN.out).mono ?_; rintro e w2 ⟨rfl, hb2⟩) | fail)
    go_ret
    exact ⟨rfl, by first | exact hb2 | exact Below.refl _ _⟩
set_option maxHeartbeats 1000000 in
theorem cpla2 (Cth : Nat) (th : Bool) (Cdd : Nat) (dd : Bool) (Bt : Nat) (a : Option Addr) (cap : Nat) (m b : Int) (L : List Ino) (Bs : Nat) (ds : Int) (ss : List UInt8) (ks : Int) (ls : Bool) (W : World) (hth : W.cell? ⟨Cth, 0, none⟩ = some (.bool th)) (hdd : W.cell? ⟨Cdd, 0, none⟩ = some (.bool dd)) (hT : TreeBx W Bt a cap L.length m b) (hN : NodesIn W a cap L) (hSs : SpotIn W Bs ds ss ks ls) (v : Bool) (hv : dirB L ks = v) : Calls Tryz.prog 86 #[.pointer (some ⟨Cth, 0, none⟩), .pointer (some ⟨Cdd, 0, none⟩), .pointer (some ⟨Bt, 0, none⟩), .pointer (some ⟨Bs, 0, none⟩)] W fun e w' => e = .returned (.bool (th && !dd && v)) ∧ Below W.heap.size W w' := by
  have gth := cell_lt hth
  have gdd := cell_lt hdd
  have q0 := hT.t0
  have q1 := hT.t1
  have q2 := hT.t2
  have gq := cell_lt q0
  have xs0 := hSs.dir
  have xs1 := hSs.name
  have xs2 := hSs.ino
  have xs3 := hSs.slash
  have gxs := cell_lt xs0
  have HN := Lib.hid hN
  clear hN hT
  have HV := Lib.hid hv
  clear hv
  cases th <;> cases dd
  all_goals
    go_enter Tryz.func86, Tryz.ntmps86
    go_wp2_with (first | (go_at_call 32; refine (ldisdir_known a cap m b _ L _ HV.out _ HN.out).mono ?_; rintro e w2 ⟨rfl, hb2⟩) | fail)
    go_ret
    exact ⟨rfl, by first | exact hb2 | exact Below.refl _ _⟩
set_option maxHeartbeats 1000000 in
theorem cpla3 (Cth : Nat) (th : Bool) (Bt : Nat) (a : Option Addr) (cap : Nat) (m b : Int) (L : List Ino) (Bs : Nat) (ds : Int) (ss : List UInt8) (ks : Int) (ls : Bool) (kn : Nat) (hk : th = true → ks = (kn : Int)) (hkl : kn < L.length) (W : World) (hth : W.cell? ⟨Cth, 0, none⟩ = some (.bool th)) (hT : TreeBx W Bt a cap L.length m b) (hN : NodesIn W a cap L) (hSs : SpotIn W Bs ds ss ks ls) (v : Bool) (hv : decide (0 < (nodeAt L (kn : Int)).kids.length) = v) : Calls Tryz.prog 87 #[.pointer (some ⟨Cth, 0, none⟩), .pointer (some ⟨Bt, 0, none⟩), .pointer (some ⟨Bs, 0, none⟩)] W fun e w' => e = .returned (.bool (th && v)) ∧ Below W.heap.size W w' := by
  have gth := cell_lt hth
  have q0 := hT.t0
  have q1 := hT.t1
  have q2 := hT.t2
  have gq := cell_lt q0
  have xs0 := hSs.dir
  have xs1 := hSs.name
  have xs2 := hSs.ino
  have xs3 := hSs.slash
  have gxs := cell_lt xs0
  have HN := Lib.hid hN
  clear hN hT
  have HV := Lib.hid hv
  clear hv
  rcases th with _ | _
  rotate_left
  · obtain rfl := hk rfl
    revert HV
    intro HV
    go_enter Tryz.func87, Tryz.ntmps87
    go_wp2_with (first | (go_at_call 41; refine (lhaskids_known a cap m b _ L hkl _ HV.out _ HN.out).mono ?_; rintro e w2 ⟨rfl, hb2⟩) | fail)
    go_ret
    exact ⟨rfl, hb2⟩
  all_goals
    go_enter Tryz.func87, Tryz.ntmps87
    go_wp2_with (fail)
    go_ret
    exact ⟨rfl, Below.refl _ _⟩
set_option maxHeartbeats 1000000 in
theorem cpla4 (Cth : Nat) (th : Bool) (Bs : Nat) (ds : Int) (ss : List UInt8) (ks : Int) (ls : Bool) (Cc : Nat) (c : Int) (W : World) (hth : W.cell? ⟨Cth, 0, none⟩ = some (.bool th)) (hSs : SpotIn W Bs ds ss ks ls) (hc : W.cell? ⟨Cc, 0, none⟩ = some (.int .i64 c)) : Calls Tryz.prog 88 #[.pointer (some ⟨Cth, 0, none⟩), .pointer (some ⟨Bs, 0, none⟩), .pointer (some ⟨Cc, 0, none⟩)] W fun e w' => e = .returned (.bool (th && ks == c)) ∧ Below W.heap.size W w' := by
  have gth := cell_lt hth
  have xs0 := hSs.dir
  have xs1 := hSs.name
  have xs2 := hSs.ino
  have xs3 := hSs.slash
  have gxs := cell_lt xs0
  have gc := cell_lt hc
  cases th
  all_goals
    go_enter Tryz.func88, Tryz.ntmps88
    go_wp2_with (fail)
    go_ret
    exact ⟨rfl, Below.refl _ _⟩
set_option maxHeartbeats 1000000 in
theorem cpla5 (Cth : Nat) (th : Bool) (Bt : Nat) (a : Option Addr) (cap : Nat) (m b : Int) (L : List Ino) (Bs : Nat) (dn : Nat) (ss : List UInt8) (ks : Int) (ls : Bool) (hdl : dn < L.length) (W : World) (hth : W.cell? ⟨Cth, 0, none⟩ = some (.bool th)) (hT : TreeBx W Bt a cap L.length m b) (hN : NodesIn W a cap L) (hSs : SpotIn W Bs dn ss ks ls) : Calls Tryz.prog 89 #[.pointer (some ⟨Cth, 0, none⟩), .pointer (some ⟨Bt, 0, none⟩), .pointer (some ⟨Bs, 0, none⟩)] W fun e w' => e = .returned (.bool (!th && decide (1024 ≤ (nodeAt L (dn : Int)).kids.length))) ∧ Below W.heap.size W w' := by
  have gth := cell_lt hth
  have q0 := hT.t0
  have q1 := hT.t1
  have q2 := hT.t2
  have gq := cell_lt q0
  have xs0 := hSs.dir
  have xs1 := hSs.name
  have xs2 := hSs.ino
  have xs3 := hSs.slash
  have gxs := cell_lt xs0
  have hcap := hN.1
  have hmax := hN.2.1
  unfold maxLen at hmax
  obtain ⟨bb, o, rfl, hx⟩ := hN.2.2 dn hdl
  obtain ⟨kv, h4, hks⟩ := hx.kids
  obtain ⟨K, hK⟩ : ∃ K, K = L[dn].kids := ⟨_, rfl⟩
  rw [← hK] at hks
  obtain ⟨ka, kcap, rfl, hkc, hkm, -⟩ := hks
  have HKK := Lib.hid (show (nodeAt L (dn : Int)).kids = K by rw [node_nat L dn hdl, hK])
  have hlt' : (dn : Int) < (L.length : Int) := by omega
  have hk0 : (0 : Int) ≤ (dn : Int) := by omega
  have gbb := cell_lt h4
  unfold maxLen at hkm
  clear hx hN hT hK
  rcases th with _ | _
  · by_cases hl : 1024 ≤ K.length
    · have hl' : (1024 : Int) ≤ (K.length : Int) := by omega
      go_enter Tryz.func89, Tryz.ntmps89
      go_wp2_with fail
      go_ret
      exact ⟨by rw [HKK.out, decide_eq_true hl]; rfl, Below.refl _ _⟩
    · have hl' : ¬ (1024 : Int) ≤ (K.length : Int) := by omega
      go_enter Tryz.func89, Tryz.ntmps89
      go_wp2_with fail
      go_ret
      exact ⟨by rw [HKK.out, decide_eq_false hl]; rfl, Below.refl _ _⟩
  · go_enter Tryz.func89, Tryz.ntmps89
    go_wp2_with fail
    go_ret
    exact ⟨rfl, Below.refl _ _⟩
end Go.Proofs.YtmaiphibpdngnaaGreat
