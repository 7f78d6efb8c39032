/-
  Ways through a tree, in plain words: a name's step, a way, Walk and Parent; where a way leads.
-/
import Derived.Test.YtgmmggdjcgemfaaTPlain3
import Derived.Test.YtgmmggdjcgemfaaPartsPlain
import Derived.Test.YtgmmggdjcgemfaaHasLite
namespace Go.Proofs.Ytgmmggdjcgemfaa
open Go Go.RowKit

/-- There, and not free. -/
def liveB (L : List Ino) (k : Int) : Bool := thereB L k && (nodeAt L k).kind != 0
def kindL (L : List Ino) (k : Int) : Int := if thereB L k then (nodeAt L k).kind else 0
/-- Mode m has all bits of what. -/
def bitsB (m what : Int) : Bool := (what / 4 == 0 || m / 4 == 1) && (what / 2 % 2 == 0 || m / 2 % 2 == 1) && (what % 2 == 0 || m % 2 == 1)
def mayL (L : List Ino) (k what : Int) : Bool := decide (0 ≤ what) && decide (what ≤ 7) && liveB L k && bitsB (nodeAt L k).mode what

def stepW (L : List Ino) (a : Int) (x : List UInt8) : Int × Int :=
  if dirB L a = false then (0, 20) else if mayL L a 1 = false then (0, 13) else if x = [46] then (a, 0) else if x = [46, 46] then ((nodeAt L a).up, 0)
  else if kidL L a x < 0 then (0, 2) else (kidL L a x, 0)

/-- A way's names up to the next link that is followed. -/
def wayIn (L : List Ino) (last : Bool) (f : List (List UInt8) → Int → Int × Int) : List (List UInt8) → Int → Int × Int
  | [], a => (a, 0)
  | x :: r, a => if (stepW L a x).2 ≠ 0 then (0, (stepW L a x).2) else
    if (nodeAt L (stepW L a x).1).kind ≠ 3 ∨ (r = [] ∧ last = false) then wayIn L last f r (stepW L a x).1
    else f (partsL (nodeAt L (stepW L a x).1).data ++ r) (if wholeL (nodeAt L (stepW L a x).1).data then 0 else a)
/-- A way on which n links more may be followed. -/
def wayW (L : List Ino) (last : Bool) : Nat → List (List UInt8) → Int → Int × Int
  | 0 => wayIn L last (fun _ _ => (0, 40))
  | n + 1 => wayIn L last (wayW L last n)
theorem wayW_nil (L : List Ino) (last : Bool) (n : Nat) (a : Int) : wayW L last n [] a = (a, 0) := by cases n <;> rfl
theorem wayW_err (L : List Ino) (last : Bool) (n : Nat) (x : List UInt8) (r : List (List UInt8)) (a : Int) (h : (stepW L a x).2 ≠ 0) : wayW L last n (x :: r) a = (0, (stepW L a x).2) := by
  cases n <;> (unfold wayW wayIn; rw [if_pos h])
theorem wayW_on (L : List Ino) (last : Bool) (n : Nat) (x : List UInt8) (r : List (List UInt8)) (a k : Int) (h : stepW L a x = (k, 0)) (h2 : (nodeAt L k).kind ≠ 3 ∨ (r = [] ∧ last = false)) : wayW L last n (x :: r) a = wayW L last n r k := by
  cases n with
  | zero => show wayIn L last _ (x :: r) a = _; rw [wayIn, h]; simp only [ne_eq, not_true, if_false]; rw [if_pos h2]; rfl
  | succ n => show wayIn L last _ (x :: r) a = _; rw [wayIn, h]; simp only [ne_eq, not_true, if_false]; rw [if_pos h2]; rfl
theorem wayW_loop (L : List Ino) (last : Bool) (x : List UInt8) (r : List (List UInt8)) (a k : Int) (h : stepW L a x = (k, 0)) (h2 : ¬ ((nodeAt L k).kind ≠ 3 ∨ (r = [] ∧ last = false))) : wayW L last 0 (x :: r) a = (0, 40) := by
  show wayIn L last _ (x :: r) a = _
  rw [wayIn, h]; simp only [ne_eq, not_true, if_false]; rw [if_neg h2]
theorem wayW_link (L : List Ino) (last : Bool) (n : Nat) (x : List UInt8) (r : List (List UInt8)) (a k : Int) (h : stepW L a x = (k, 0)) (h2 : ¬ ((nodeAt L k).kind ≠ 3 ∨ (r = [] ∧ last = false))) :
    wayW L last (n + 1) (x :: r) a = wayW L last n (partsL (nodeAt L k).data ++ r) (if wholeL (nodeAt L k).data then 0 else a) := by
  show wayIn L last _ (x :: r) a = _
  rw [wayIn, h]; simp only [ne_eq, not_true, if_false]; rw [if_neg h2]

def longB (p : List UInt8) : Bool := decide (1024 < p.length) || (partsL p).any fun x => decide (64 < x.length)
def badW (L : List Ino) (cwd : Int) (p : List UInt8) : Int := if p = [] ∨ dirB L cwd = false then 2 else if longB p then 36 else 0
def beginW (cwd : Int) (p : List UInt8) : Int := if wholeL p then 0 else cwd
def walkW (L : List Ino) (cwd : Int) (p : List UInt8) (follow : Bool) : Int × Int :=
  if badW L cwd p ≠ 0 then (0, badW L cwd p) else
    if (wayW L (follow || endL p) 8 (partsL p) (beginW cwd p)).2 ≠ 0 then (0, (wayW L (follow || endL p) 8 (partsL p) (beginW cwd p)).2) else
      if endL p = true ∧ dirB L (wayW L (follow || endL p) 8 (partsL p) (beginW cwd p)).1 = false then (0, 20) else ((wayW L (follow || endL p) 8 (partsL p) (beginW cwd p)).1, 0)
def parentW (L : List Ino) (cwd : Int) (p : List UInt8) : Int × List UInt8 × Int :=
  if badW L cwd p ≠ 0 then (0, [], badW L cwd p) else if partsL p = [] then (0, [], 17) else
    if (wayW L true 8 (partsL p).dropLast (beginW cwd p)).2 ≠ 0 then (0, [], (wayW L true 8 (partsL p).dropLast (beginW cwd p)).2) else
      if dirB L (wayW L true 8 (partsL p).dropLast (beginW cwd p)).1 = false then (0, [], 20) else ((wayW L true 8 (partsL p).dropLast (beginW cwd p)).1, (partsL p).getLastD [], 0)

theorem count_parts (l : List UInt8) : (partsL l).length ≤ l.length + 1 := by
  have h : ∀ L : List (List UInt8), L.length ≤ total L := by
    intro L
    induction L with
    | nil => simp [total]
    | cons x r ih => simp only [List.length_cons, total]; omega
  exact Nat.le_trans (h _) (total_parts l)

/-! ### Fit trees -/

theorem live_of_dir {L : List Ino} {k : Int} (h : dirB L k = true) : liveB L k = true := by
  have h2 := node_kind_of h
  unfold dirB at h
  unfold liveB
  rw [Bool.and_eq_true] at h ⊢
  exact ⟨h.1, by rw [h2]; rfl⟩
theorem live_there {L : List Ino} {k : Int} (h : liveB L k = true) : thereB L k = true := by
  unfold liveB at h
  rw [Bool.and_eq_true] at h
  exact h.1
theorem up_dir {L : List Ino} {m b : Int} (hF : FitP L m b) {k : Int} (h : dirB L k = true) : dirB L (nodeAt L k).up = true := ups_of hF 1 k h

/-- What a name leads to is not free. -/
theorem kid_live {L : List Ino} {m b : Int} (hF : FitP L m b) {d : Int} {x : List UInt8} (h : 0 ≤ kidL L d x) : liveB L (kidL L d x) = true := by
  unfold kidL at h ⊢
  by_cases hd : dirB L d = true
  · rw [if_pos hd] at h ⊢
    obtain ⟨z, rfl, hz⟩ := dir_lt hd
    rw [node_nat L z hz] at h ⊢
    obtain ⟨e, he, hex⟩ := findK_has _ _ h
    obtain ⟨i, hi, rfl⟩ := List.getElem_of_mem he
    have hk := findK_mem (kids_rise hF.ins z hz).2 i hi
    rw [← hex, hk] at h ⊢
    have ht := (name_of hF.ins hz he).2
    obtain ⟨u, hu, hul⟩ := there_nat ht
    unfold liveB
    rw [ht, Bool.true_and]
    rw [hu, node_nat L u hul]
    cases hk0 : (L[u].kind != 0) with
    | true => rfl
    | false =>
      exfalso
      have hk0' : L[u].kind = 0 := by simpa [bne] using hk0
      have h1 := (hF.names.2 u hul).2
      rw [countL_get L (kids_pos (kids_there hF.ins)) u hul] at h1
      unfold MayHave at h1
      rw [if_pos (Or.inr hk0')] at h1
      have h2 := names_pos (mem_kidsOf.2 ⟨z, hz, he⟩)
      rw [hu] at h2
      have h3 : namesOf (kidsOf L) (u : Int) = 0 := Int.ofNat.inj h1
      omega
  · rw [if_neg hd] at h
    exact absurd h (by decide)

theorem step_ok {L : List Ino} {m b : Int} (hF : FitP L m b) {a : Int} {x : List UInt8} (h : (stepW L a x).2 = 0) : liveB L (stepW L a x).1 = true := by
  unfold stepW at h ⊢
  cases hd : dirB L a with
  | false => rw [hd, if_pos rfl] at h; cases h
  | true =>
    rw [hd, if_neg (by simp)] at h
    rw [if_neg (by simp)]
    cases hm : mayL L a 1 with
    | false => rw [hm, if_pos rfl] at h; cases h
    | true =>
      rw [hm, if_neg (by simp)] at h
      rw [if_neg (by simp)]
      by_cases h1 : x = [46]
      · rw [if_pos h1]; exact live_of_dir hd
      · rw [if_neg h1] at h ⊢
        by_cases h2 : x = [46, 46]
        · rw [if_pos h2]; exact live_of_dir (up_dir hF hd)
        · rw [if_neg h2] at h ⊢
          by_cases h3 : kidL L a x < 0
          · rw [if_pos h3] at h; cases h
          · rw [if_neg h3]
            exact kid_live hF (by omega)
theorem step_err (L : List Ino) (a : Int) (x : List UInt8) (h : (stepW L a x).2 ≠ 0) : (stepW L a x).1 = 0 := by
  unfold stepW at h ⊢
  split
  · rfl
  · split
    · rfl
    · rename_i h1 h2
      rw [if_neg h1, if_neg h2] at h
      split
      · rename_i h3; rw [if_pos h3] at h; exact absurd rfl h
      · rename_i h3
        rw [if_neg h3] at h
        split
        · rename_i h4; rw [if_pos h4] at h; exact absurd rfl h
        · rename_i h4
          rw [if_neg h4] at h
          split
          · rfl
          · rename_i h5; rw [if_neg h5] at h; exact absurd rfl h
theorem step_range (L : List Ino) (a : Int) (x : List UInt8) : 0 ≤ (stepW L a x).2 ∧ (stepW L a x).2 ≤ 20 := by
  unfold stepW
  repeat' split
  all_goals exact ⟨by simp, by simp⟩

theorem link_data {L : List Ino} (hI : AllFit L) {k : Int} (ht : thereB L k = true) : (nodeAt L k).kind = 3 → (nodeAt L k).data.length ≤ 1024 ∧ (nodeAt L k).data ≠ [] := by
  obtain ⟨u, rfl, hu⟩ := there_nat ht
  rw [node_nat L u hu]
  intro h3
  have h := (hI u hu).1
  unfold aloneB at h
  rw [if_neg (show ¬ L[u].kind = 0 by omega)] at h
  split at h
  · cases h
  · rename_i hm
    rw [if_neg (show ¬ L[u].kind = 1 by omega)] at h
    try rw [if_pos h3] at h
    simp only [Bool.and_eq_true, decide_eq_true_eq, Bool.not_eq_true'] at h
    exact ⟨h.2, by
      have := h.1.2
      intro e
      rw [e] at this
      cases this⟩
theorem mode_range {L : List Ino} (hI : AllFit L) {k : Int} (ht : thereB L k = true) : 0 ≤ (nodeAt L k).mode ∧ (nodeAt L k).mode ≤ 7 := by
  obtain ⟨u, rfl, hu⟩ := there_nat ht
  rw [node_nat L u hu]
  have h := (hI u hu).1
  unfold aloneB at h
  by_cases h0 : L[u].kind = 0
  · rw [if_pos h0] at h
    simp only [Bool.and_eq_true, decide_eq_true_eq] at h
    have := h.1.1.1.1
    omega
  · rw [if_neg h0] at h
    split at h
    · cases h
    · omega

/-- What a way's names hold of a tree's inodes: where it ends is not free. -/
theorem way_in {L : List Ino} {m b : Int} (hF : FitP L m b) (last : Bool) (f : List (List UInt8) → Int → Int × Int) (hf : ∀ N a, liveB L a = true → (f N a).2 = 0 → liveB L (f N a).1 = true ∧ (last = true → (N = [] → (nodeAt L a).kind ≠ 3) → (nodeAt L (f N a).1).kind ≠ 3)) :
    ∀ (N : List (List UInt8)) (a : Int), liveB L a = true → (wayIn L last f N a).2 = 0 → liveB L (wayIn L last f N a).1 = true ∧ (last = true → (N = [] → (nodeAt L a).kind ≠ 3) → (nodeAt L (wayIn L last f N a).1).kind ≠ 3)
  | [], a, ha, _ => ⟨ha, fun _ h => h rfl⟩
  | x :: r, a, ha, h => by
    unfold wayIn at h ⊢
    by_cases h1 : (stepW L a x).2 ≠ 0
    · rw [if_pos h1] at h; exact absurd h h1
    · rw [if_neg h1] at h ⊢
      have hk := step_ok hF (by simpa using h1)
      by_cases h2 : (nodeAt L (stepW L a x).1).kind ≠ 3 ∨ (r = [] ∧ last = false)
      · rw [if_pos h2] at h ⊢
        obtain ⟨i1, i2⟩ := way_in hF last f hf r _ hk h
        refine ⟨i1, fun hl _ => i2 hl fun hr => ?_⟩
        rcases h2 with h2 | ⟨_, h2⟩
        · exact h2
        · rw [hl] at h2; cases h2
      · rw [if_neg h2] at h ⊢
        have hd : dirB L a = true := by
          cases hd : dirB L a with
          | true => rfl
          | false =>
            exfalso
            apply h1
            unfold stepW
            rw [hd, if_pos rfl]
            decide
        have hb : liveB L (if wholeL (nodeAt L (stepW L a x).1).data then 0 else a) = true := by
          split
          · exact live_of_dir hF.root
          · exact ha
        obtain ⟨i1, i2⟩ := hf _ _ hb h
        refine ⟨i1, fun hl _ => i2 hl fun _ => ?_⟩
        split
        · rw [node_kind_of hF.root]; decide
        · rw [node_kind_of hd]; decide
theorem way_ends {L : List Ino} {m b : Int} (hF : FitP L m b) (last : Bool) : ∀ (n : Nat) (N : List (List UInt8)) (a : Int), liveB L a = true → (wayW L last n N a).2 = 0 → liveB L (wayW L last n N a).1 = true ∧ (last = true → (N = [] → (nodeAt L a).kind ≠ 3) → (nodeAt L (wayW L last n N a).1).kind ≠ 3)
  | 0, N, a, ha, h => way_in hF last _ (fun _ _ _ h => absurd h (by decide)) N a ha h
  | n + 1, N, a, ha, h => way_in hF last _ (fun N' a' h1 h2 => way_ends hF last n N' a' h1 h2) N a ha h

theorem way_err0 (L : List Ino) (last : Bool) (f : List (List UInt8) → Int → Int × Int) (hf : ∀ N a, (f N a).2 ≠ 0 → (f N a).1 = 0) : ∀ (N : List (List UInt8)) (a : Int), (wayIn L last f N a).2 ≠ 0 → (wayIn L last f N a).1 = 0
  | [], a, h => absurd rfl h
  | x :: r, a, h => by
    unfold wayIn at h ⊢
    split
    · rfl
    · rename_i h1
      rw [if_neg h1] at h
      split
      · rename_i h2; rw [if_pos h2] at h; exact way_err0 L last f hf r _ h
      · rename_i h2; rw [if_neg h2] at h; exact hf _ _ h

theorem begin_live {L : List Ino} {m b : Int} (hF : FitP L m b) {cwd : Int} {p : List UInt8} (h : badW L cwd p = 0) : dirB L (beginW cwd p) = true := by
  unfold badW at h
  split at h
  · cases h
  · rename_i h1
    unfold beginW
    split
    · exact hF.root
    · cases hd : dirB L cwd with
      | true => rfl
      | false => exact absurd (Or.inr hd) h1

/-- P4.5. -/
theorem walk_ends {L : List Ino} {m b : Int} (hF : FitP L m b) (cwd : Int) (p : List UInt8) : ((walkW L cwd p true).2 ≠ 0 → (walkW L cwd p true).1 = 0) ∧ ((walkW L cwd p true).2 = 0 → liveB L (walkW L cwd p true).1 = true ∧ (nodeAt L (walkW L cwd p true).1).kind ≠ 3) := by
  unfold walkW
  by_cases h1 : badW L cwd p ≠ 0
  · rw [if_pos h1]
    exact ⟨fun _ => rfl, fun h => absurd h h1⟩
  · rw [if_neg h1]
    have hb := begin_live hF (by simpa using h1)
    split
    · rename_i h2
      exact ⟨fun _ => rfl, fun h => absurd h h2⟩
    · rename_i h2
      obtain ⟨i1, i2⟩ := way_ends hF (true || endL p) 8 (partsL p) (beginW cwd p) (live_of_dir hb) (by simpa using h2)
      split
      · exact ⟨fun _ => rfl, fun h => absurd h (by decide)⟩
      · exact ⟨fun h => absurd rfl h, fun _ => ⟨i1, i2 (by simp) (fun _ => by rw [node_kind_of hb]; decide)⟩⟩
end Go.Proofs.Ytgmmggdjcgemfaa
