/-
  P11.3 in plain words: what * tells of a directory that may be read and searched.
-/
import Derived.Test.YtclhpedecimicaaGreatK20
import Derived.Test.YtclhpedecimicaaGreatTPlain3
import Derived.Sort.Walk0
namespace Go.Proofs.YtclhpedecimicaaGreat
set_option maxRecDepth 100000
open Go Go.RowKit

theorem less_le (a b : List UInt8) (h : Op.bytesLess a b = true) : a ≤ b := by
  rw [bytesLess_eq, decide_eq_true_eq] at h
  exact List.le_of_lt h
theorem rises_pair11 : ∀ {M : List (List UInt8 × Int)}, Rises M → (M.map Prod.fst).Pairwise (fun x y => leB x y = true) := by
  intro M h
  rw [List.pairwise_iff_getElem]
  intro i j hi hj hij
  rw [List.length_map] at hi hj
  rw [List.getElem_map, List.getElem_map]
  exact decide_eq_true (less_le _ _ (h.lt i j hj hij))
theorem may_parts {L : List Ino} {c : Int} (h : mayL L c 5 = true) : mayL L c 1 = true ∧ mayL L c 4 = true := by
  unfold mayL bitsB at h ⊢
  simp only [Bool.and_eq_true, Bool.or_eq_true, decide_eq_true_eq, beq_iff_eq] at h ⊢
  obtain ⟨⟨_, h1⟩, ⟨h2, h3⟩, h4⟩ := h
  refine ⟨⟨⟨⟨by decide, by decide⟩, h1⟩, ⟨Or.inl (by decide), Or.inl (by decide)⟩, ?_⟩, ⟨⟨by decide, by decide⟩, h1⟩, ⟨?_, Or.inl (by decide)⟩, Or.inl (by decide)⟩
  · rcases h4 with h4 | h4
    · exact absurd h4 (by decide)
    · exact Or.inr h4
  · rcases h2 with h2 | h2
    · exact absurd h2 (by decide)
    · exact Or.inr h2
theorem walk_here {L : List Ino} {c : Int} (hd : dirB L c = true) (hm : mayL L c 1 = true) : walkW L c [46] true = (c, 0) := by
  have hk : (nodeAt L c).kind = 2 := by
    have h2 := hd
    unfold dirB at h2
    rw [Bool.and_eq_true] at h2
    simpa using h2.2
  have hs : stepW L c [46] = (c, 0) := by
    unfold stepW
    rw [if_neg (by rw [hd]; decide), if_neg (by rw [hm]; decide), if_pos rfl]
  have hp : partsL [46] = [[46]] := by decide +kernel
  have hw : wayW L (true || endL [46]) 8 (partsL [46]) (beginW c [46]) = (c, 0) := by
    rw [hp, show beginW c [46] = c from rfl, wayW_on L _ 8 [46] [] c c hs (Or.inl (by rw [hk]; decide)), wayW_nil]
  have hb : badW L c [46] = 0 := by
    unfold badW
    rw [if_neg (by rw [hd]; simp), if_neg (by decide +kernel)]
  unfold walkW
  rw [hb, hw, if_neg (by simp), if_neg (by simp), if_neg (by rw [hd]; simp)]
theorem dir_here {L : List Ino} {c : Int} (hd : dirB L c = true) (hm : mayL L c 1 = true) : dirAtW L c [46] = (c, true) := by
  unfold dirAtW
  rw [walk_here hd hm]
  show (c, (0 == 0 && dirB L c)) = _
  rw [hd]
  rfl
theorem wants_star (n : List UInt8) : wantsW (plL [42] []) n = !(n.head? == some 46) := by
  have h1 : raw (plL [42] []) = [.many] := rfl
  have h2 : Mat (raw (plL [42] [])) n := by
    rw [h1]
    exact ⟨n, [], (List.append_nil n).symm, Or.inl rfl, rfl⟩
  unfold wantsW
  rw [decide_eq_true h2]
  show (!(n.head? == some 46 && true) && true) = _
  rw [Bool.and_true, Bool.and_true]
def starP : Pt := ⟨[42], [], false⟩
theorem glob_all {L : List Ino} {m b c : Int} (hF : FitP L m b) (hd : dirB L c = true) (hm : mayL L c 5 = true) :
    globW L c [42] [] = ((nodeAt L c).kids.map Prod.fst).filter fun n => !(n.head? == some 46) := by
  obtain ⟨hm1, hm4⟩ := may_parts hm
  have hbeg : begW L c [42] = [([], c)] := by
    unfold begW
    rw [show wholeL [42] = false from rfl]
    simp only [Bool.false_eq_true, if_false]
    rw [dir_here hd hm1]
    rfl
  have hpts : ptsL [42] [] = [starP] := by
    have h0 : headL [42] = [42] := by decide +kernel
    rw [pts_last [] (by decide)]
    unfold ptOne
    rw [h0]
    rfl
  have hnam : namesW L c starP = ((nodeAt L c).kids.map Prod.fst).filter fun n => !(n.head? == some 46) := by
    unfold namesW
    rw [if_neg (by decide +kernel), if_pos hm4]
    congr 1
    funext n
    exact wants_star n
  have hone : oneW L c starP ([], c) = (namesW L c starP).map fun n => (n, 0) := by
    have hr : ∀ n : List UInt8, reachW L c (([] : List UInt8) ++ n) starP = some (n, 0) := by
      intro n
      unfold reachW
      rw [if_neg (by decide), if_pos (by decide +kernel), List.nil_append]
    unfold oneW
    show (namesW L c starP).filterMap (fun n => reachW L c (([] : List UInt8) ++ n) starP) = _
    rw [show (fun n => reachW L c (([] : List UInt8) ++ n) starP) = fun n => some (n, (0 : Int)) from funext hr]
    exact List.filterMap_eq_map' (f := fun n => (n, (0 : Int))) ▸ rfl
  have hbeh : behW L c [([], c)] starP = (namesW L c starP).map fun n => (n, 0) := by
    unfold behW
    rw [List.flatMap_singleton, hone]
  have hrun : runW L c (begW L c [42]) (ptsL [42] []) = some ((namesW L c starP).map fun n => (n, 0)) := by
    rw [hbeg, hpts]
    unfold runW
    rw [hbeh, if_neg (by rw [List.length_map]; have := (names_len hF c starP).1; omega)]
    rfl
  unfold globW
  rw [if_neg (by decide +kernel), hrun]
  show (((namesW L c starP).map fun n => (n, (0 : Int))).map Prod.fst).mergeSort leB = _
  rw [List.map_map, show (Prod.fst ∘ fun n : List UInt8 => (n, (0 : Int))) = id from rfl, List.map_id, hnam]
  refine List.mergeSort_of_pairwise (List.Pairwise.filter _ ?_)
  obtain ⟨z, hz, hl⟩ := dir_lt hd
  have hn : nodeAt L c = L[z] := by
    subst hz
    unfold nodeAt
    simp [hl]
  rw [hn]
  exact rises_pair11 (kids_rise hF.ins z hl).2
theorem glob_star1 (L : List Ino) (c : Int) : globW L c [42] [49] = [] := by
  unfold globW
  rw [if_pos (by decide +kernel)]
end Go.Proofs.YtclhpedecimicaaGreat
