/-
  All paths of a tree with a new inode, in plain words: those of the tree, and the new one.
-/
import Derived.Test.YtogheigpcppeiaaK3
import Derived.Test.YtogheigpcppeiaaTreeListDefs
namespace Go.Proofs.Ytogheigpcppeiaa
set_option maxRecDepth 100000
open Go Go.RowKit

/-- All paths beneath a directory, each with its inode. -/
def listP (L : List Ino) : Nat → Int → List UInt8 → List (List UInt8 × Int)
  | 0, _, _ => []
  | n + 1, c, p => (nodeAt L c).kids.flatMap fun e => (p ++ 47 :: e.1, e.2) :: (if (nodeAt L e.2).kind = 2 then listP L n e.2 (p ++ 47 :: e.1) else [])
theorem listP_succ (L : List Ino) (n : Nat) (c : Int) (p : List UInt8) : listP L (n + 1) c p = (nodeAt L c).kids.flatMap fun e => (p ++ 47 :: e.1, e.2) :: (if (nodeAt L e.2).kind = 2 then listP L n e.2 (p ++ 47 :: e.1) else []) := rfl
theorem flatMap_same {α β : Type} : ∀ (M : List α) (f g : α → List β), (∀ e ∈ M, f e = g e) → M.flatMap f = M.flatMap g
  | [], _, _, _ => rfl
  | a :: r, f, g, h => by
    rw [List.flatMap_cons, List.flatMap_cons, h a List.mem_cons_self, flatMap_same r f g fun e he => h e (List.mem_cons_of_mem _ he)]
theorem listP_none {L : List Ino} {c : Int} (h : (nodeAt L c).kids = []) : ∀ (n : Nat) (p : List UInt8), listP L n c p = []
  | 0, _ => rfl
  | n + 1, p => by rw [listP_succ, h]; rfl

section
variable {L : List Ino} {m b : Int} {d k : Nat} {s : List UInt8} {x : Ino}
theorem Adds.free (h : Adds L m b d k s x) (h0 : (L[k]'h.klt).kind = 0) : ∀ e ∈ kidsOf L, e.2 ≠ (k : Int) := fun e he ek => by
  have hm := (h.fit.names.2 k h.klt).2
  rw [countL_get L (kids_pos (kids_there h.fit.ins)) k h.klt] at hm
  unfold MayHave at hm
  rw [if_pos (Or.inr h0)] at hm
  have := names_pos he
  rw [ek] at this
  omega
theorem Adds.listed (h : Adds L m b d k s x) (h0 : (L[k]'h.klt).kind = 0) : ∀ (n : Nat) (c : Int) (p : List UInt8), dirB L c = true → (listP (addL L d k s x) n c p).filter (fun e => e.2 != (k : Int)) = listP L n c p
  | 0, _, _, _ => rfl
  | n + 1, c, p, hc => by
    obtain ⟨j, rfl, hj⟩ := dir_lt hc
    have hjk : j ≠ k := fun e => by
      subst e
      exact h.nodir ((dir_nat hj).1 hc)
    have one : ∀ e ∈ L[j].kids, ((p ++ 47 :: e.1, e.2) :: (if (nodeAt (addL L d k s x) e.2).kind = 2 then listP (addL L d k s x) n e.2 (p ++ 47 :: e.1) else [])).filter (fun e => e.2 != (k : Int)) = (p ++ 47 :: e.1, e.2) :: (if (nodeAt L e.2).kind = 2 then listP L n e.2 (p ++ 47 :: e.1) else []) := fun e he => by
      have hne := h.free h0 e (mem_kidsOf.2 ⟨j, hj, he⟩)
      have hth := (name_of h.fit.ins hj he).2
      obtain ⟨t, ht, htl⟩ := there_nat hth
      rw [List.filter_cons, if_pos (by simpa using hne)]
      congr 1
      rw [ht] at hne ⊢
      rw [(h.node t htl (fun e2 => hne (by rw [e2]))).1, node_nat L t htl]
      split
      · rename_i hk2
        exact Adds.listed h h0 n _ _ ((dir_nat htl).2 hk2)
      · rfl
    rw [listP_succ, listP_succ, List.filter_flatMap, add_node h.dlt s x j hj, node_nat L j hj]
    by_cases e1 : d = j
    · subst e1
      rw [if_pos rfl]
      obtain ⟨A, B, n1, n2, -, -⟩ := named_at L[d].kids s (k : Int) h.new
      show (namedL L[d].kids s k).flatMap _ = _
      rw [n2, List.flatMap_append, List.flatMap_cons]
      have hnew : ((p ++ 47 :: s, (k : Int)) :: (if (nodeAt (addL L d k s x) (k : Int)).kind = 2 then listP (addL L d k s x) n (k : Int) (p ++ 47 :: s) else [])).filter (fun e => e.2 != (k : Int)) = [] := by
        rw [List.filter_cons, if_neg (by simp), listP_none (by rw [h.nodeK]; exact h.kids)]
        split <;> rfl
      rw [hnew, List.nil_append]
      have hA := flatMap_same A _ _ (fun e he => one e (by rw [n1]; exact List.mem_append_left _ he))
      have hB := flatMap_same B _ _ (fun e he => one e (by rw [n1]; exact List.mem_append_right _ he))
      rw [hA, hB, ← List.flatMap_append, ← n1]
    · rw [if_neg e1, if_neg (fun e => hjk e.symm)]
      exact flatMap_same _ _ _ one
end

/-! ### Where a directory is, piece by piece -/

/-- A directory's place, the root's empty. -/
def atL (L : List Ino) (c : Int) : List UInt8 := placeGo L (L.length + 1) c []
theorem go_acc {L : List Ino} {m b : Int} (hF : FitP L m b) : ∀ (n : Nat) (c : Int) (s : List UInt8), dirB L c = true → placeGo L n c s = placeGo L n c [] ++ s
  | 0, _, s, _ => rfl
  | n + 1, c, s, hc => by
    rw [place_succ, place_succ]
    by_cases h0 : c = 0
    · rw [if_pos h0, if_pos h0]; rfl
    · rw [if_neg h0, if_neg h0]
      have hup : dirB L (nodeAt L c).up = true := ups_of hF 1 c hc
      obtain ⟨u, hu, hul⟩ := dir_lt hup
      obtain ⟨x, -, -, hx⟩ := kids_one _ c (one_name hF hul hc h0 hu)
      rw [hu] at hup ⊢
      rw [node_nat L u hul, hx, hx, go_acc hF n _ (47 :: x ++ s) hup, go_acc hF n _ (47 :: x ++ []) hup, List.append_nil, List.append_assoc]
theorem go_more {L : List Ino} : ∀ (j n : Nat) (c : Int) (s : List UInt8), Rk L c j → j < n → placeGo L (n + 1) c s = placeGo L n c s
  | 0, n, c, s, hr, hn => by
    obtain ⟨n, rfl⟩ : ∃ n', n = n' + 1 := ⟨n - 1, by omega⟩
    have h0 : c = 0 := hr.1
    rw [place_succ L (n + 1) c s, place_succ L n c s, if_pos h0, if_pos h0]
  | j + 1, n, c, s, hr, hn => by
    obtain ⟨n, rfl⟩ : ∃ n', n = n' + 1 := ⟨n - 1, by omega⟩
    have h0 : c ≠ 0 := hr.2 0 (by omega)
    rw [place_succ L (n + 1) c s, place_succ L n c s, if_neg h0, if_neg h0]
    exact go_more j n _ _ (rk_up hr) (by omega)
/-- Beneath a directory. -/
theorem at_kid {L : List Ino} {m b : Int} (hF : FitP L m b) {c : Nat} (hc : c < L.length) (hd : dirB L (c : Int) = true) {e : List UInt8 × Int} (he : e ∈ L[c].kids) (hde : dirB L e.2 = true) : atL L e.2 = atL L (c : Int) ++ 47 :: e.1 := by
  have h0 := name_pos hF hc he
  have hu := hF.names.1 c hc e he hde
  obtain ⟨x, -, hx2, hx⟩ := kids_one _ e.2 (one_name hF hc hde h0 hu)
  have hex : x = e.1 := by
    have h1 := one_name hF hc hde h0 hu
    by_cases h : x = e.1
    · exact h
    · exfalso
      have hne : (x, e.2) ≠ e := fun h2 => h (by rw [← h2])
      have : 2 ≤ namesOf L[c].kids e.2 := by
        unfold namesOf
        have m1 : (x, e.2) ∈ L[c].kids.filter (fun y => y.2 == e.2) := List.mem_filter.2 ⟨hx2, by simp⟩
        have m2 : e ∈ L[c].kids.filter (fun y => y.2 == e.2) := List.mem_filter.2 ⟨he, by simp⟩
        obtain ⟨i, hi, hi2⟩ := List.getElem_of_mem m1
        obtain ⟨t, ht, ht2⟩ := List.getElem_of_mem m2
        by_cases hit : i = t
        · subst hit
          exact absurd (hi2.symm.trans ht2) hne
        · omega
      omega
  subst hex
  obtain ⟨j, hj⟩ := rk_of L.length ((leads_iff L _ _).1 (hF.leads c hc hd))
  have hlt := rk_lt hF.leads hd hj
  unfold atL
  rw [place_succ, if_neg h0, hu, node_nat L c hc, hx, List.append_nil, go_acc hF _ _ _ hd, go_more j L.length (c : Int) [] hj hlt]
/-- What is listed beneath a directory, at its place. -/
theorem listP_in {L : List Ino} {m b : Int} (hF : FitP L m b) : ∀ (n : Nat) (c : Int), dirB L c = true → ∀ y ∈ listP L n c (atL L c), ∃ c' : Nat, ∃ h : c' < L.length, dirB L (c' : Int) = true ∧ ∃ e ∈ L[c'].kids, y = (atL L (c' : Int) ++ 47 :: e.1, e.2)
  | 0, _, _, _, hy => by cases hy
  | n + 1, c, hc, y, hy => by
    obtain ⟨j, rfl, hj⟩ := dir_lt hc
    rw [listP_succ, node_nat L j hj, List.mem_flatMap] at hy
    obtain ⟨e, he, hy⟩ := hy
    rcases List.mem_cons.1 hy with rfl | hy
    · exact ⟨j, hj, hc, e, he, rfl⟩
    · split at hy
      · rename_i h2
        obtain ⟨t, ht, htl⟩ := there_nat (name_of hF.ins hj he).2
        have hde : dirB L e.2 = true := by
          rw [ht] at h2 ⊢
          rw [node_nat L t htl] at h2
          exact (dir_nat htl).2 h2
        rw [← at_kid hF hj hc he hde] at hy
        exact listP_in hF n _ hde y hy
      · cases hy
theorem last_slash : ∀ (A B x y : List UInt8), (∀ c ∈ x, c ≠ 47) → (∀ c ∈ y, c ≠ 47) → A ++ 47 :: x = B ++ 47 :: y → A = B ∧ x = y
  | [], [], x, y, _, _, h => ⟨rfl, (List.cons.inj h).2⟩
  | [], b :: B, x, y, hx, _, h => by
    have h1 := (List.cons.inj h).2
    exact absurd rfl (hx 47 (by rw [h1]; simp))
  | a :: A, [], x, y, _, hy, h => by
    have h1 := (List.cons.inj h).2
    exact absurd rfl (hy 47 (by rw [← h1]; simp))
  | a :: A, b :: B, x, y, hx, hy, h => by
    obtain ⟨h1, h2⟩ := List.cons.inj h
    obtain ⟨h3, h4⟩ := last_slash A B x y hx hy h2
    exact ⟨by rw [h1, h3], h4⟩
theorem at_root (L : List Ino) : atL L 0 = [] := by unfold atL; rw [place_succ, if_pos rfl]
/-- A directory that is not the root is beneath its Up. -/
theorem at_up {L : List Ino} {m b : Int} (hF : FitP L m b) {c : Int} (hc : dirB L c = true) (h0 : c ≠ 0) : ∃ u : Nat, ∃ hu : u < L.length, (nodeAt L c).up = (u : Int) ∧ dirB L (u : Int) = true ∧ ∃ x, (x, c) ∈ L[u].kids ∧ atL L c = atL L (u : Int) ++ 47 :: x := by
  have hup : dirB L (nodeAt L c).up = true := ups_of hF 1 c hc
  obtain ⟨u, hu, hul⟩ := dir_lt hup
  obtain ⟨x, -, hx2, -⟩ := kids_one _ c (one_name hF hul hc h0 hu)
  rw [hu] at hup
  exact ⟨u, hul, hu, hup, x, hx2, at_kid hF hul hup hx2 hc⟩
theorem one_kid {L : List Ino} (hI : AllFit L) {u : Nat} (hu : u < L.length) {e f : List UInt8 × Int} (he : e ∈ L[u].kids) (hf : f ∈ L[u].kids) (h : e.1 = f.1) : e = f := by
  have hR := (kids_rise hI u hu).2
  obtain ⟨i, hi, rfl⟩ := List.getElem_of_mem he
  obtain ⟨t, ht, rfl⟩ := List.getElem_of_mem hf
  rcases Nat.lt_trichotomy i t with h1 | h1 | h1
  · have h2 := hR.lt i t ht h1
    rw [h, less_irrefl] at h2
    cases h2
  · subst h1; rfl
  · have h2 := hR.lt t i hi h1
    rw [h, less_irrefl] at h2
    cases h2
theorem at_inj {L : List Ino} {m b : Int} (hF : FitP L m b) : ∀ (j : Nat) (c c' : Int), Rk L c j → dirB L c = true → dirB L c' = true → atL L c = atL L c' → c = c'
  | 0, c, c', hr, _, hc', h => by
    have h0 : c = 0 := hr.1
    by_cases h1 : c' = 0
    · rw [h0, h1]
    · obtain ⟨u, hu, -, -, x, -, hx⟩ := at_up hF hc' h1
      rw [h0, at_root, hx] at h
      simp at h
  | j + 1, c, c', hr, hc, hc', h => by
    have h0 : c ≠ 0 := hr.2 0 (by omega)
    obtain ⟨u, hu, hue, hud, x, hxm, hx⟩ := at_up hF hc h0
    by_cases h1 : c' = 0
    · rw [h1, at_root, hx] at h
      simp at h
    · obtain ⟨u', hu', hue', hud', x', hxm', hx'⟩ := at_up hF hc' h1
      rw [hx, hx'] at h
      obtain ⟨h2, h3⟩ := last_slash _ _ _ _ (name_parts (name_of hF.ins hu hxm).1).2.2.2.2 (name_parts (name_of hF.ins hu' hxm').1).2.2.2.2 h
      have h4 := at_inj hF j (u : Int) (u' : Int) (by rw [← hue]; exact rk_up hr) hud hud' h2
      obtain rfl : u = u' := by omega
      subst h3
      have h5 := one_kid hF.ins hu hxm hxm' rfl
      exact congrArg Prod.snd h5
theorem list_fst (L : List Ino) : ∀ (n : Nat) (c : Int) (p : List UInt8), listGo L n c p = (listP L n c p).map Prod.fst
  | 0, _, _ => rfl
  | n + 1, c, p => by
    rw [list_succ, listP_succ, List.map_flatMap]
    refine flatMap_same _ _ _ fun e _ => ?_
    unfold listOne
    rw [List.map_cons]
    split
    · rw [list_fst L n]
    · rfl
theorem kidsTo_app (A B : List (List UInt8 × Int)) (c : Int) (s : List UInt8) : kidsTo (A ++ B) c s = kidsTo B c (kidsTo A c s) := by
  unfold kidsTo
  rw [List.foldl_append]

section
variable {L : List Ino} {m b : Int} {d k : Nat} {s : List UInt8} {x : Ino}
theorem Adds.placed (h : Adds L m b d k s x) : ∀ (n : Nat) (c : Int) (p : List UInt8), dirB L c = true → placeGo (addL L d k s x) n c p = placeGo L n c p
  | 0, _, _, _ => rfl
  | n + 1, c, p, hc => by
    obtain ⟨j, rfl, hj⟩ := dir_lt hc
    have hjk : j ≠ k := fun e => by
      subst e
      exact h.nodir ((dir_nat hj).1 hc)
    have hup : dirB L L[j].up = true := ups_in h.fit.root h.fit.rootUp h.fit.ins h.fit.names j hj ((dir_nat hj).1 hc)
    obtain ⟨u, hu, hul⟩ := dir_lt hup
    have huk : u ≠ k := fun e => by
      subst e
      rw [hu] at hup
      exact h.nodir ((dir_nat hul).1 hup)
    rw [place_succ, place_succ, (h.node j hj hjk).2.1, node_nat L j hj, hu, add_node h.dlt s x u hul, node_nat L u hul]
    have hk : kidsTo (if d = u then withKids (L[d]'h.dlt) (namedL (L[d]'h.dlt).kids s k) else if k = u then x else L[u]).kids (j : Int) p = kidsTo L[u].kids (j : Int) p := by
      by_cases e : d = u
      · subst e
        rw [if_pos rfl]
        obtain ⟨A, B, n1, n2, -, -⟩ := named_at L[d].kids s (k : Int) h.new
        show kidsTo (namedL L[d].kids s k) _ p = _
        rw [n2, n1, kidsTo_app, kidsTo_app, kidsTo_cons, if_neg (fun e => hjk (by have e' : (k : Int) = (j : Int) := e; omega))]
      · rw [if_neg e, if_neg (fun e => huk e.symm)]
    rw [hk]
    split
    · rfl
    · rw [← hu]
      exact Adds.placed h n _ _ hup
theorem Adds.same_at (h : Adds L m b d k s x) {c : Int} (hc : dirB L c = true) : atL (addL L d k s x) c = atL L c := by
  unfold atL
  rw [add_len]
  exact h.placed _ _ _ hc

/-- All paths but the new one are those that were there. -/
theorem Adds.paths (h : Adds L m b d k s x) (h0 : (L[k]'h.klt).kind = 0) : (listGo (addL L d k s x) (L.length + 1) 0 []).filter (fun p => p != atL L (d : Int) ++ 47 :: s) = listGo L (L.length + 1) 0 [] := by
  have hdd := (dir_nat h.dlt).2 h.dir
  have hdd' : dirB (addL L d k s x) (d : Int) = true := (h.dirs (fun e => h.ne (by omega))).trans hdd
  have hkk : ∀ y ∈ listP (addL L d k s x) (L.length + 1) 0 [], (y.1 != atL L (d : Int) ++ 47 :: s) = (y.2 != (k : Int)) := fun y hy => by
    rw [← at_root (addL L d k s x)] at hy
    obtain ⟨c, hcl, hcd, e, he, rfl⟩ := listP_in h.fits _ _ h.root.1 y hy
    have hcl' := hcl
    rw [add_len] at hcl'
    have he0 := he
    rw [add_get h.dlt s x c hcl'] at he
    rw [← h.same_at hdd, Bool.eq_iff_iff, bne_iff_ne, bne_iff_ne]
    refine not_congr ?_
    constructor
    · intro hq
      have hok := (name_of h.ins hcl he0).1
      obtain ⟨h1, h2⟩ := last_slash _ _ _ _ (name_parts hok).2.2.2.2 (name_parts h.name).2.2.2.2 hq
      obtain ⟨j, hj⟩ := rk_of (addL L d k s x).length ((leads_iff _ _ _).1 (h.fits.leads c hcl hcd))
      have h3 := at_inj h.fits j _ _ hj hcd hdd' h1
      obtain rfl : c = d := by omega
      rw [if_pos rfl] at he
      have he' : e ∈ namedL L[c].kids s k := he
      rw [named_mem (k : Int) h.new] at he'
      rcases he' with he' | he'
      · rw [he']
      · exact absurd h2 (h.new e he')
    · intro hq
      have hq' : e.2 = (k : Int) := hq
      by_cases e1 : d = c
      · subst e1
        rw [if_pos rfl] at he
        have he' : e ∈ namedL L[d].kids s k := he
        rw [named_mem (k : Int) h.new] at he'
        rcases he' with he' | he'
        · rw [he']
        · exact absurd hq' (h.free h0 e (mem_kidsOf.2 ⟨d, h.dlt, he'⟩))
      · rw [if_neg e1] at he
        by_cases e2 : k = c
        · rw [if_pos e2, h.kids] at he
          cases he
        · rw [if_neg e2] at he
          exact absurd hq' (h.free h0 e (mem_kidsOf.2 ⟨c, hcl', he⟩))
  rw [list_fst, list_fst, List.filter_map, ← h.listed h0 _ _ _ h.fit.root]
  congr 1
  exact List.filter_congr fun y hy => hkk y hy
end

/-- A directory's place as the law takes it: the root's is nothing. -/
theorem place_at {L : List Ino} {m b : Int} (hF : FitP L m b) {c : Int} (hc : dirB L c = true) : (if placeL L c = [47] then [] else placeL L c) = atL L c := by
  have hp : placeL L c = if atL L c = [] then [47] else atL L c := by
    unfold placeL atL
    rw [if_pos hc]
  rw [hp]
  by_cases h0 : c = 0
  · rw [h0, at_root, if_pos rfl, if_pos rfl]
  · obtain ⟨u, hu, -, -, x, hxm, hx⟩ := at_up hF hc h0
    have hne : atL L c ≠ [] := by rw [hx]; simp
    have h47 : atL L c ≠ [47] := fun e => by
      rw [hx] at e
      have h1 := congrArg List.length e
      have h2 : 0 < x.length := List.length_pos_iff.2 (name_parts (name_of hF.ins hu hxm).1).1
      simp only [List.length_append, List.length_cons, List.length_nil] at h1
      omega
    rw [if_neg hne, if_neg h47]
end Go.Proofs.Ytogheigpcppeiaa
