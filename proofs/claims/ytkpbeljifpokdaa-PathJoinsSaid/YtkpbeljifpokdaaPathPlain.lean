/-
  Plain laws on paths: names of a path beneath another; a path as it is written, once more; a path's last name beneath what stands ahead of it.
-/
import Derived.Test.YtkpbeljifpokdaaPathRef5
namespace Go.Proofs.Ytkpbeljifpokdaa
open Go

/-- A name: not empty, without a slash. -/
def NameL (x : List UInt8) : Prop := x ≠ [] ∧ ∀ c ∈ x, c ≠ 47

theorem go_names : ∀ (l cur : List UInt8), (∀ c ∈ cur, c ≠ 47) → ∀ x ∈ partsGo cur l, NameL x
  | [], cur, hc, x, hx => by
    unfold partsGo at hx
    split at hx
    · cases hx
    · rename_i h
      rw [List.mem_singleton] at hx
      subst hx
      exact ⟨h, hc⟩
  | c :: r, cur, hc, x, hx => by
    unfold partsGo at hx
    split at hx
    · split at hx
      · exact go_names r [] (fun _ h => by cases h) x hx
      · rename_i h
        rw [List.mem_cons] at hx
        rcases hx with rfl | hx
        · exact ⟨h, hc⟩
        · exact go_names r [] (fun _ h => by cases h) x hx
    · rename_i h
      refine go_names r (cur ++ [c]) (fun d hd => ?_) x hx
      rw [List.mem_append, List.mem_singleton] at hd
      rcases hd with hd | rfl
      · exact hc d hd
      · exact h
theorem parts_names (l : List UInt8) : ∀ x ∈ partsL l, NameL x := go_names l [] (fun _ h => by cases h)

theorem go_slash (b : List UInt8) : ∀ (a cur : List UInt8), partsGo cur (a ++ 47 :: b) = partsGo cur a ++ partsL b
  | [], cur => by
    simp only [List.nil_append, partsGo, if_true, partsL]
    split
    · rfl
    · rfl
  | c :: r, cur => by
    simp only [List.cons_append]
    rw [partsGo, partsGo]
    split
    · split
      · exact go_slash b r []
      · rw [go_slash b r []]; rfl
    · exact go_slash b r (cur ++ [c])
theorem parts_slash (a b : List UInt8) : partsL (a ++ 47 :: b) = partsL a ++ partsL b := go_slash b a []

theorem go_name : ∀ (x cur : List UInt8), (∀ c ∈ x, c ≠ 47) → cur ++ x ≠ [] → partsGo cur x = [cur ++ x]
  | [], cur, _, h => by
    rw [partsGo, if_neg (by simpa using h)]
    simp
  | c :: r, cur, hx, h => by
    rw [partsGo, if_neg (hx c (List.mem_cons_self ..)), go_name r (cur ++ [c]) (fun d hd => hx d (List.mem_cons_of_mem _ hd)) (by simp)]
    simp
theorem parts_name (x : List UInt8) (h : NameL x) : partsL x = [x] := by
  have := go_name x [] h.2 (by simpa using h.1)
  simpa [partsL] using this

theorem parts_join : ∀ (L : List (List UInt8)), (∀ x ∈ L, NameL x) → partsL (joinL L) = L
  | [], _ => by simp [joinL, partsL, partsGo]
  | [x], h => by simp only [joinL]; exact parts_name x (h x (List.mem_singleton.2 rfl))
  | x :: y :: r, h => by
    simp only [joinL]
    rw [parts_slash, parts_name x (h x (List.mem_cons_self ..)), parts_join (y :: r) (fun z hz => h z (List.mem_cons_of_mem _ hz))]
    rfl
theorem parts_root (L : List (List UInt8)) (h : ∀ x ∈ L, NameL x) : partsL (47 :: joinL L) = L := by
  have := parts_slash [] (joinL L)
  rw [List.nil_append] at this
  rw [this, parts_join L h]
  simp [partsL, partsGo]

/-- P2.6. -/
theorem parts_beneath (a b : List UInt8) (hb : wholeL b = false) : partsL (joinP a b) = partsL a ++ partsL b := by
  unfold joinP
  split
  · rename_i h
    rcases h with h | h
    · subst h; simp [partsL, partsGo]
    · rw [hb] at h; cases h
  · split
    · rename_i h; subst h; simp [partsL, partsGo]
    · split
      · rename_i h
        obtain ⟨a', rfl⟩ : ∃ a', a = a' ++ [47] := by
          rw [List.getLast?_eq_some_iff] at h
          exact h
        rw [List.append_assoc, List.singleton_append, parts_slash, parts_slash]
        simp [partsL, partsGo]
      · exact parts_slash a b

/-- Not . and not ... -/
def NoDot (x : List UInt8) : Prop := x ≠ [46] ∧ x ≠ [46, 46]

theorem fold_from (Q : List UInt8 → Prop) : ∀ (L out : List (List UInt8)), (∀ x ∈ L, Q x) → (∀ x ∈ out, Q x ∧ NoDot x) → ∀ x ∈ L.foldl stepF out, Q x ∧ NoDot x
  | [], out, _, ho => ho
  | y :: r, out, hL, ho => by
    rw [List.foldl_cons]
    refine fold_from Q r _ (fun x hx => hL x (List.mem_cons_of_mem _ hx)) fun x hx => ?_
    unfold stepF at hx
    split at hx
    · exact ho x hx
    · split at hx
      · exact ho x (List.dropLast_subset _ hx)
      · rename_i h1 h2
        rw [List.mem_append, List.mem_singleton] at hx
        rcases hx with hx | rfl
        · exact ho x hx
        · exact ⟨hL x (List.mem_cons_self ..), h1, h2⟩
theorem fold_names (l : List UInt8) : ∀ x ∈ foldP (partsL l), NameL x ∧ NoDot x :=
  fold_from NameL (partsL l) [] (parts_names l) (fun _ h => by cases h)
theorem fold_same (L : List (List UInt8)) : ∀ (out : List (List UInt8)), (∀ x ∈ L, NoDot x) → L.foldl stepF out = out ++ L := by
  induction L with
  | nil => intro out _; simp
  | cons y r ih =>
    intro out h
    have hy := h y (List.mem_cons_self ..)
    rw [List.foldl_cons, ih _ (fun x hx => h x (List.mem_cons_of_mem _ hx)), stepF, if_neg hy.1, if_neg hy.2]
    simp

/-- The folded path's names are the folded names. -/
theorem parts_fold (a b : List UInt8) : partsL (foldL a b) = foldP (partsL (if wholeL b then b else joinP a b)) := by
  unfold foldL
  exact parts_root _ (fun x hx => (fold_names _ x hx).1)

/-- P2.5: folded once more, in any cwd. -/
theorem fold_again (c a b : List UInt8) : foldL c (foldL a b) = foldL a b := by
  have hw : wholeL (foldL a b) = true := by simp [foldL, wholeL]
  have hp := parts_fold a b
  have hf : foldP (partsL (foldL a b)) = partsL (foldL a b) := by
    rw [hp]
    have := fold_same (foldP (partsL (if wholeL b then b else joinP a b))) [] (fun x hx => (fold_names _ x hx).2)
    simpa [foldP] using this
  have e : ∀ X, foldL c X = 47 :: joinL (foldP (partsL (if wholeL X then X else joinP c X))) := fun _ => rfl
  rw [e, if_pos hw, hf, hp]
  rfl

theorem join_last : ∀ (L : List (List UInt8)), (∀ x ∈ L, NameL x) → L ≠ [] → ∃ c, (joinL L).getLast? = some c ∧ c ≠ 47
  | [], _, h => absurd rfl h
  | [x], hL, _ => by
    have hx := hL x (List.mem_singleton.2 rfl)
    simp only [joinL]
    cases hl : x.getLast? with
    | none => exact absurd (List.getLast?_eq_none_iff.1 hl) hx.1
    | some c => exact ⟨c, rfl, hx.2 c (List.mem_of_getLast? hl)⟩
  | x :: y :: r, hL, _ => by
    obtain ⟨c, h1, h2⟩ := join_last (y :: r) (fun z hz => hL z (List.mem_cons_of_mem _ hz)) (by simp)
    refine ⟨c, ?_, h2⟩
    simp only [joinL]
    rw [List.getLast?_append, List.getLast?_cons]
    simp [h1]

theorem fold_snoc_dot (A B : List (List UInt8)) : foldP (A ++ [46] :: B) = foldP (A ++ B) := by
  unfold foldP
  rw [List.foldl_append, List.foldl_append, List.foldl_cons]
  rfl

/-- A path without names that does not begin at the root is empty. -/
theorem no_names (l : List UInt8) (h : partsL l = []) (hw : wholeL l = false) : l = [] := by
  cases l with
  | nil => rfl
  | cons c r =>
    exfalso
    have hc : c ≠ 47 := by
      intro e
      subst e
      simp [wholeL] at hw
    have hne : ∀ (l cur : List UInt8), cur ≠ [] → partsGo cur l ≠ [] := by
      intro l
      induction l with
      | nil => intro cur hcur e; rw [partsGo, if_neg hcur] at e; cases e
      | cons d t ih =>
        intro cur hcur e
        rw [partsGo] at e
        split at e
        · cases e
        · exact ih _ (by simp) e
    unfold partsL at h
    rw [partsGo, if_neg hc] at h
    exact hne r _ (by simp) h

theorem name_whole (x : List UInt8) (h : NameL x) (r : List UInt8) : wholeL (x ++ r) = false := by
  cases x with
  | nil => exact absurd rfl h.1
  | cons c t =>
    have := h.2 c (List.mem_cons_self ..)
    simp [wholeL, this]
theorem join_whole (L : List (List UInt8)) (h : ∀ x ∈ L, NameL x) : wholeL (joinL L) = false := by
  cases L with
  | nil => rfl
  | cons x r =>
    have hx := h x (List.mem_cons_self ..)
    cases r with
    | nil =>
      have := name_whole x hx []
      simpa [joinL] using this
    | cons y t => exact name_whole x hx _

theorem fold_parts (cwd q : List UInt8) (hq : wholeL q = false) : foldL cwd q = 47 :: joinL (foldP (partsL cwd ++ partsL q)) := by
  unfold foldL
  rw [if_neg (by rw [hq]; decide), parts_beneath cwd q hq]
theorem fold_root (cwd q : List UInt8) (hq : wholeL q = true) : foldL cwd q = 47 :: joinL (foldP (partsL q)) := by
  unfold foldL
  rw [if_pos hq]

/-- P2.2 to P2.4 together: a path's last name beneath what stands ahead of it leads where the path leads. -/
theorem fold_whole (cwd p : List UInt8) : foldL cwd (joinP (dirL p) (baseL p)) = foldL cwd p := by
  have hN := parts_names p
  have hI : ∀ x ∈ (partsL p).dropLast, NameL x := fun x hx => hN x (List.dropLast_subset _ hx)
  by_cases h0 : partsL p = []
  · cases hw : wholeL p with
    | true =>
      have hd : dirL p = [47] := by simp [dirL, h0, hw, joinL]
      have hb : baseL p = [47] := by simp [baseL, h0, hw]
      rw [hd, hb, fold_root cwd p hw, h0]
      rfl
    | false =>
      have hp := no_names p h0 hw
      subst hp
      have hj : joinP (dirL []) (baseL []) = [46] := by decide
      rw [hj, fold_parts cwd [46] rfl, fold_parts cwd [] rfl]
      have e1 : partsL [46] = [[46]] := by decide
      have e2 : partsL [] = [] := rfl
      rw [e1, e2, fold_snoc_dot]
  · have hlen : 0 < (partsL p).length := List.length_pos_iff.2 h0
    have hL : (partsL p).getLastD [] = (partsL p)[(partsL p).length - 1] := last_at _ hlen
    have hbn : NameL (baseL p) := by
      unfold baseL
      rw [if_neg h0, hL]
      exact hN _ (List.getElem_mem _)
    have hcat : (partsL p).dropLast ++ [baseL p] = partsL p := by
      unfold baseL
      rw [if_neg h0, hL, ← List.getLast_eq_getElem (h := h0), List.dropLast_concat_getLast]
    have hbw : wholeL (baseL p) = false := by have := name_whole (baseL p) hbn []; simpa using this
    have hpb := parts_name (baseL p) hbn
    have hj := parts_beneath (dirL p) (baseL p) hbw
    rw [hpb] at hj
    cases hw : wholeL p with
    | true =>
      have hd : dirL p = 47 :: joinL (partsL p).dropLast := by simp [dirL, hw]
      have hjw : wholeL (joinP (dirL p) (baseL p)) = true := by
        rw [hd]
        unfold joinP
        rw [if_neg (by simp [hbw]), if_neg hbn.1]
        split <;> rfl
      rw [fold_root _ _ hjw, fold_root _ _ hw, hj, hd, parts_root _ hI, hcat]
    | false =>
      by_cases hi : (partsL p).dropLast = []
      · have hd : dirL p = [46] := by simp [dirL, hw, hi, joinL]
        have hjw : wholeL (joinP (dirL p) (baseL p)) = false := by
          rw [hd]
          unfold joinP
          rw [if_neg (by simp [hbw]), if_neg hbn.1]
          rfl
        rw [fold_parts _ _ hjw, fold_parts _ _ hw, hj, hd]
        have e1 : partsL [46] = [[46]] := by decide
        rw [hi, List.nil_append] at hcat
        rw [e1, List.singleton_append, fold_snoc_dot, hcat]
      · have hjn : joinL (partsL p).dropLast ≠ [] := by
          intro e
          obtain ⟨c, h1, _⟩ := join_last _ hI hi
          rw [e] at h1
          cases h1
        have hd : dirL p = joinL (partsL p).dropLast := by simp [dirL, hw, hjn]
        have hdw : wholeL (dirL p) = false := by rw [hd]; exact join_whole _ hI
        have hjw : wholeL (joinP (dirL p) (baseL p)) = false := by
          unfold joinP
          rw [if_neg (by rw [hd]; simp [hbw, hjn]), if_neg hbn.1]
          have hx : ∀ r, wholeL (dirL p ++ r) = false := by
            intro r
            rw [hd] at hdw ⊢
            cases hq : joinL (partsL p).dropLast with
            | nil => exact absurd hq hjn
            | cons c t => rw [hq] at hdw; exact hdw
          split
          · exact hx _
          · exact hx _
        rw [fold_parts _ _ hjw, fold_parts _ _ hw, hj, hd, parts_join _ hI, hcat]
end Go.Proofs.Ytkpbeljifpokdaa
