/-
  Plain laws on a path's names.
  Ways through a tree, in plain words: a name's step, a way, Walk and Parent; where a way leads.
  Trees with a new inode, one more name, another mode, in plain words: they stay fit.
  Chapter 5 in plain words: a new name, a new inode, and the five functions; what a new name is.
  Trees that a call has made: their inodes lie in one block of the call's own, each directory's names in a block of its own.
  path's names: an iterator over a path's names: each in its order, each once; it stops where the loop is left.
-/
import Derived.Test.YtfmaagcomplooaaK1
import Derived.Test.YtfmaagcomplooaaK3
import Derived.Test.YtfmaagcomplooaaK4
import Derived.OneCell
import Derived.Laws.IdiomCopy
import Derived.RangeFuncBox
import Derived.RangeFuncLeaves
import Derived.RangeFuncNested
import Derived.RangeFuncBound
import Derived.RangeFuncCalls
import Derived.Shelf.Abstract
import Derived.WalkKit
import Derived.OwnWalkIn
import Derived.TacticsInMore
import Derived.LoopNIn
import Derived.LoopIn
import Derived.Maps.AppendAt
namespace Go.Proofs.Ytfmaagcomplooaa
set_option maxRecDepth 100000
open Go Go.RowKit

/-- A name: not empty, without a slash. -/
def NameL (x : List UInt8) : Prop := x ≠ [] ∧ ∀ c ∈ x, c ≠ 47
theorem go_names : ∀ (l cur : List UInt8), (∀ c ∈ cur, c ≠ 47) → ∀ x ∈ partsGo cur l, NameL x
  | [], cur, hc, x, hx => by
    unfold partsGo at hx
    split at hx
    · cases hx
    · rename_i h
      rw [List.mem_singleton] at hx
      subst hx
      exact ⟨h, hc⟩
  | c :: r, cur, hc, x, hx => by
    unfold partsGo at hx
    split at hx
    · split at hx
      · exact go_names r [] (fun _ h => by cases h) x hx
      · rename_i h
        rw [List.mem_cons] at hx
        rcases hx with rfl | hx
        · exact ⟨h, hc⟩
        · exact go_names r [] (fun _ h => by cases h) x hx
    · rename_i h
      refine go_names r (cur ++ [c]) (fun d hd => ?_) x hx
      rw [List.mem_append, List.mem_singleton] at hd
      rcases hd with hd | rfl
      · exact hc d hd
      · exact h
theorem parts_names (l : List UInt8) : ∀ x ∈ partsL l, NameL x := go_names l [] (fun _ h => by cases h)
theorem go_slash (b : List UInt8) : ∀ (a cur : List UInt8), partsGo cur (a ++ 47 :: b) = partsGo cur a ++ partsL b
  | [], cur => by
    simp only [List.nil_append, partsGo, if_true, partsL]
    split
    · rfl
    · rfl
  | c :: r, cur => by
    simp only [List.cons_append]
    rw [partsGo, partsGo]
    split
    · split
      · exact go_slash b r []
      · rw [go_slash b r []]; rfl
    · exact go_slash b r (cur ++ [c])
theorem parts_slash (a b : List UInt8) : partsL (a ++ 47 :: b) = partsL a ++ partsL b := go_slash b a []
theorem go_name : ∀ (x cur : List UInt8), (∀ c ∈ x, c ≠ 47) → cur ++ x ≠ [] → partsGo cur x = [cur ++ x]
  | [], cur, _, h => by
    rw [partsGo, if_neg (by simpa using h)]
    simp
  | c :: r, cur, hx, h => by
    rw [partsGo, if_neg (hx c (List.mem_cons_self ..)), go_name r (cur ++ [c]) (fun d hd => hx d (List.mem_cons_of_mem _ hd)) (by simp)]
    simp
theorem parts_name (x : List UInt8) (h : NameL x) : partsL x = [x] := by
  have := go_name x [] h.2 (by simpa using h.1)
  simpa [partsL] using this
theorem parts_join : ∀ (L : List (List UInt8)), (∀ x ∈ L, NameL x) → partsL (joinL L) = L
  | [], _ => by simp [joinL, partsL, partsGo]
  | [x], h => by simp only [joinL]; exact parts_name x (h x (List.mem_singleton.2 rfl))
  | x :: y :: r, h => by
    simp only [joinL]
    rw [parts_slash, parts_name x (h x (List.mem_cons_self ..)), parts_join (y :: r) (fun z hz => h z (List.mem_cons_of_mem _ hz))]
    rfl
theorem parts_root (L : List (List UInt8)) (h : ∀ x ∈ L, NameL x) : partsL (47 :: joinL L) = L := by
  have := parts_slash [] (joinL L)
  rw [List.nil_append] at this
  rw [this, parts_join L h]
  simp [partsL, partsGo]
end Go.Proofs.Ytfmaagcomplooaa

namespace Go.Proofs.Ytfmaagcomplooaa
set_option maxRecDepth 100000
open Go Go.RowKit

/-- There, and not free. -/
def liveB (L : List Ino) (k : Int) : Bool := thereB L k && (nodeAt L k).kind != 0
def kindL (L : List Ino) (k : Int) : Int := if thereB L k then (nodeAt L k).kind else 0
/-- Mode m has all bits of what. -/
def bitsB (m what : Int) : Bool := (what / 4 == 0 || m / 4 == 1) && (what / 2 % 2 == 0 || m / 2 % 2 == 1) && (what % 2 == 0 || m % 2 == 1)
def mayL (L : List Ino) (k what : Int) : Bool := decide (0 ≤ what) && decide (what ≤ 7) && liveB L k && bitsB (nodeAt L k).mode what

def stepW (L : List Ino) (a : Int) (x : List UInt8) : Int × Int :=
  if dirB L a = false then (0, 20) else if mayL L a 1 = false then (0, 13) else if x = [46] then (a, 0) else if x = [46, 46] then ((nodeAt L a).up, 0)
  else if kidL L a x < 0 then (0, 2) else (kidL L a x, 0)

/-- A way's names up to the next link that is followed. -/
def wayIn (L : List Ino) (last : Bool) (f : List (List UInt8) → Int → Int × Int) : List (List UInt8) → Int → Int × Int
  | [], a => (a, 0)
  | x :: r, a => if (stepW L a x).2 ≠ 0 then (0, (stepW L a x).2) else
    if (nodeAt L (stepW L a x).1).kind ≠ 3 ∨ (r = [] ∧ last = false) then wayIn L last f r (stepW L a x).1
    else f (partsL (nodeAt L (stepW L a x).1).data ++ r) (if wholeL (nodeAt L (stepW L a x).1).data then 0 else a)
/-- A way on which n links more may be followed. -/
def wayW (L : List Ino) (last : Bool) : Nat → List (List UInt8) → Int → Int × Int
  | 0 => wayIn L last (fun _ _ => (0, 40))
  | n + 1 => wayIn L last (wayW L last n)
theorem wayW_nil (L : List Ino) (last : Bool) (n : Nat) (a : Int) : wayW L last n [] a = (a, 0) := by cases n <;> rfl
theorem wayW_err (L : List Ino) (last : Bool) (n : Nat) (x : List UInt8) (r : List (List UInt8)) (a : Int) (h : (stepW L a x).2 ≠ 0) : wayW L last n (x :: r) a = (0, (stepW L a x).2) := by
  cases n <;> (unfold wayW wayIn; rw [if_pos h])
theorem wayW_on (L : List Ino) (last : Bool) (n : Nat) (x : List UInt8) (r : List (List UInt8)) (a k : Int) (h : stepW L a x = (k, 0)) (h2 : (nodeAt L k).kind ≠ 3 ∨ (r = [] ∧ last = false)) : wayW L last n (x :: r) a = wayW L last n r k := by
  cases n with
  | zero => show wayIn L last _ (x :: r) a = _; rw [wayIn, h]; simp only [ne_eq, not_true, if_false]; rw [if_pos h2]; rfl
  | succ n => show wayIn L last _ (x :: r) a = _; rw [wayIn, h]; simp only [ne_eq, not_true, if_false]; rw [if_pos h2]; rfl
theorem wayW_loop (L : List Ino) (last : Bool) (x : List UInt8) (r : List (List UInt8)) (a k : Int) (h : stepW L a x = (k, 0)) (h2 : ¬ ((nodeAt L k).kind ≠ 3 ∨ (r = [] ∧ last = false))) : wayW L last 0 (x :: r) a = (0, 40) := by
  show wayIn L last _ (x :: r) a = _
  rw [wayIn, h]; simp only [ne_eq, not_true, if_false]; rw [if_neg h2]
theorem wayW_link (L : List Ino) (last : Bool) (n : Nat) (x : List UInt8) (r : List (List UInt8)) (a k : Int) (h : stepW L a x = (k, 0)) (h2 : ¬ ((nodeAt L k).kind ≠ 3 ∨ (r = [] ∧ last = false))) :
    wayW L last (n + 1) (x :: r) a = wayW L last n (partsL (nodeAt L k).data ++ r) (if wholeL (nodeAt L k).data then 0 else a) := by
  show wayIn L last _ (x :: r) a = _
  rw [wayIn, h]; simp only [ne_eq, not_true, if_false]; rw [if_neg h2]

def longB (p : List UInt8) : Bool := decide (1024 < p.length) || (partsL p).any fun x => decide (64 < x.length)
def badW (L : List Ino) (cwd : Int) (p : List UInt8) : Int := if p = [] ∨ dirB L cwd = false then 2 else if longB p then 36 else 0
def beginW (cwd : Int) (p : List UInt8) : Int := if wholeL p then 0 else cwd
def walkW (L : List Ino) (cwd : Int) (p : List UInt8) (follow : Bool) : Int × Int :=
  if badW L cwd p ≠ 0 then (0, badW L cwd p) else
    if (wayW L (follow || endL p) 8 (partsL p) (beginW cwd p)).2 ≠ 0 then (0, (wayW L (follow || endL p) 8 (partsL p) (beginW cwd p)).2) else
      if endL p = true ∧ dirB L (wayW L (follow || endL p) 8 (partsL p) (beginW cwd p)).1 = false then (0, 20) else ((wayW L (follow || endL p) 8 (partsL p) (beginW cwd p)).1, 0)
def parentW (L : List Ino) (cwd : Int) (p : List UInt8) : Int × List UInt8 × Int :=
  if badW L cwd p ≠ 0 then (0, [], badW L cwd p) else if partsL p = [] then (0, [], 17) else
    if (wayW L true 8 (partsL p).dropLast (beginW cwd p)).2 ≠ 0 then (0, [], (wayW L true 8 (partsL p).dropLast (beginW cwd p)).2) else
      if dirB L (wayW L true 8 (partsL p).dropLast (beginW cwd p)).1 = false then (0, [], 20) else ((wayW L true 8 (partsL p).dropLast (beginW cwd p)).1, (partsL p).getLastD [], 0)

theorem count_parts (l : List UInt8) : (partsL l).length ≤ l.length + 1 := by
  have h : ∀ L : List (List UInt8), L.length ≤ total L := by
    intro L
    induction L with
    | nil => simp [total]
    | cons x r ih => simp only [List.length_cons, total]; omega
  exact Nat.le_trans (h _) (total_parts l)

/-! ### Fit trees -/

theorem live_of_dir {L : List Ino} {k : Int} (h : dirB L k = true) : liveB L k = true := by
  have h2 := node_kind_of h
  unfold dirB at h
  unfold liveB
  rw [Bool.and_eq_true] at h ⊢
  exact ⟨h.1, by rw [h2]; rfl⟩
theorem live_there {L : List Ino} {k : Int} (h : liveB L k = true) : thereB L k = true := by
  unfold liveB at h
  rw [Bool.and_eq_true] at h
  exact h.1
theorem up_dir {L : List Ino} {m b : Int} (hF : FitP L m b) {k : Int} (h : dirB L k = true) : dirB L (nodeAt L k).up = true := ups_of hF 1 k h

/-- What a name leads to is not free. -/
theorem kid_live {L : List Ino} {m b : Int} (hF : FitP L m b) {d : Int} {x : List UInt8} (h : 0 ≤ kidL L d x) : liveB L (kidL L d x) = true := by
  unfold kidL at h ⊢
  by_cases hd : dirB L d = true
  · rw [if_pos hd] at h ⊢
    obtain ⟨z, rfl, hz⟩ := dir_lt hd
    rw [node_nat L z hz] at h ⊢
    obtain ⟨e, he, hex⟩ := findK_has _ _ h
    obtain ⟨i, hi, rfl⟩ := List.getElem_of_mem he
    have hk := findK_mem (kids_rise hF.ins z hz).2 i hi
    rw [← hex, hk] at h ⊢
    have ht := (name_of hF.ins hz he).2
    obtain ⟨u, hu, hul⟩ := there_nat ht
    unfold liveB
    rw [ht, Bool.true_and]
    rw [hu, node_nat L u hul]
    cases hk0 : (L[u].kind != 0) with
    | true => rfl
    | false =>
      exfalso
      have hk0' : L[u].kind = 0 := by simpa [bne] using hk0
      have h1 := (hF.names.2 u hul).2
      rw [countL_get L (kids_pos (kids_there hF.ins)) u hul] at h1
      unfold MayHave at h1
      rw [if_pos (Or.inr hk0')] at h1
      have h2 := names_pos (mem_kidsOf.2 ⟨z, hz, he⟩)
      rw [hu] at h2
      have h3 : namesOf (kidsOf L) (u : Int) = 0 := Int.ofNat.inj h1
      omega
  · rw [if_neg hd] at h
    exact absurd h (by decide)

theorem step_ok {L : List Ino} {m b : Int} (hF : FitP L m b) {a : Int} {x : List UInt8} (h : (stepW L a x).2 = 0) : liveB L (stepW L a x).1 = true := by
  unfold stepW at h ⊢
  cases hd : dirB L a with
  | false => rw [hd, if_pos rfl] at h; cases h
  | true =>
    rw [hd, if_neg (by simp)] at h
    rw [if_neg (by simp)]
    cases hm : mayL L a 1 with
    | false => rw [hm, if_pos rfl] at h; cases h
    | true =>
      rw [hm, if_neg (by simp)] at h
      rw [if_neg (by simp)]
      by_cases h1 : x = [46]
      · rw [if_pos h1]; exact live_of_dir hd
      · rw [if_neg h1] at h ⊢
        by_cases h2 : x = [46, 46]
        · rw [if_pos h2]; exact live_of_dir (up_dir hF hd)
        · rw [if_neg h2] at h ⊢
          by_cases h3 : kidL L a x < 0
          · rw [if_pos h3] at h; cases h
          · rw [if_neg h3]
            exact kid_live hF (by omega)
theorem step_err (L : List Ino) (a : Int) (x : List UInt8) (h : (stepW L a x).2 ≠ 0) : (stepW L a x).1 = 0 := by
  unfold stepW at h ⊢
  split
  · rfl
  · split
    · rfl
    · rename_i h1 h2
      rw [if_neg h1, if_neg h2] at h
      split
      · rename_i h3; rw [if_pos h3] at h; exact absurd rfl h
      · rename_i h3
        rw [if_neg h3] at h
        split
        · rename_i h4; rw [if_pos h4] at h; exact absurd rfl h
        · rename_i h4
          rw [if_neg h4] at h
          split
          · rfl
          · rename_i h5; rw [if_neg h5] at h; exact absurd rfl h
theorem step_range (L : List Ino) (a : Int) (x : List UInt8) : 0 ≤ (stepW L a x).2 ∧ (stepW L a x).2 ≤ 20 := by
  unfold stepW
  repeat' split
  all_goals exact ⟨by simp, by simp⟩

theorem link_data {L : List Ino} (hI : AllFit L) {k : Int} (ht : thereB L k = true) : (nodeAt L k).kind = 3 → (nodeAt L k).data.length ≤ 1024 ∧ (nodeAt L k).data ≠ [] := by
  obtain ⟨u, rfl, hu⟩ := there_nat ht
  rw [node_nat L u hu]
  intro h3
  have h := (hI u hu).1
  unfold aloneB at h
  rw [if_neg (show ¬ L[u].kind = 0 by omega)] at h
  split at h
  · cases h
  · rename_i hm
    rw [if_neg (show ¬ L[u].kind = 1 by omega)] at h
    try rw [if_pos h3] at h
    simp only [Bool.and_eq_true, decide_eq_true_eq, Bool.not_eq_true'] at h
    exact ⟨h.2, by
      have := h.1.2
      intro e
      rw [e] at this
      cases this⟩
theorem mode_range {L : List Ino} (hI : AllFit L) {k : Int} (ht : thereB L k = true) : 0 ≤ (nodeAt L k).mode ∧ (nodeAt L k).mode ≤ 7 := by
  obtain ⟨u, rfl, hu⟩ := there_nat ht
  rw [node_nat L u hu]
  have h := (hI u hu).1
  unfold aloneB at h
  by_cases h0 : L[u].kind = 0
  · rw [if_pos h0] at h
    simp only [Bool.and_eq_true, decide_eq_true_eq] at h
    have := h.1.1.1.1
    omega
  · rw [if_neg h0] at h
    split at h
    · cases h
    · omega

/-- What a way's names hold of a tree's inodes: where it ends is not free. -/
theorem way_in {L : List Ino} {m b : Int} (hF : FitP L m b) (last : Bool) (f : List (List UInt8) → Int → Int × Int) (hf : ∀ N a, liveB L a = true → (f N a).2 = 0 → liveB L (f N a).1 = true ∧ (last = true → (N = [] → (nodeAt L a).kind ≠ 3) → (nodeAt L (f N a).1).kind ≠ 3)) :
    ∀ (N : List (List UInt8)) (a : Int), liveB L a = true → (wayIn L last f N a).2 = 0 → liveB L (wayIn L last f N a).1 = true ∧ (last = true → (N = [] → (nodeAt L a).kind ≠ 3) → (nodeAt L (wayIn L last f N a).1).kind ≠ 3)
  | [], a, ha, _ => ⟨ha, fun _ h => h rfl⟩
  | x :: r, a, ha, h => by
    unfold wayIn at h ⊢
    by_cases h1 : (stepW L a x).2 ≠ 0
    · rw [if_pos h1] at h; exact absurd h h1
    · rw [if_neg h1] at h ⊢
      have hk := step_ok hF (by simpa using h1)
      by_cases h2 : (nodeAt L (stepW L a x).1).kind ≠ 3 ∨ (r = [] ∧ last = false)
      · rw [if_pos h2] at h ⊢
        obtain ⟨i1, i2⟩ := way_in hF last f hf r _ hk h
        refine ⟨i1, fun hl _ => i2 hl fun hr => ?_⟩
        rcases h2 with h2 | ⟨_, h2⟩
        · exact h2
        · rw [hl] at h2; cases h2
      · rw [if_neg h2] at h ⊢
        have hd : dirB L a = true := by
          cases hd : dirB L a with
          | true => rfl
          | false =>
            exfalso
            apply h1
            unfold stepW
            rw [hd, if_pos rfl]
            decide
        have hb : liveB L (if wholeL (nodeAt L (stepW L a x).1).data then 0 else a) = true := by
          split
          · exact live_of_dir hF.root
          · exact ha
        obtain ⟨i1, i2⟩ := hf _ _ hb h
        refine ⟨i1, fun hl _ => i2 hl fun _ => ?_⟩
        split
        · rw [node_kind_of hF.root]; decide
        · rw [node_kind_of hd]; decide
theorem way_ends {L : List Ino} {m b : Int} (hF : FitP L m b) (last : Bool) : ∀ (n : Nat) (N : List (List UInt8)) (a : Int), liveB L a = true → (wayW L last n N a).2 = 0 → liveB L (wayW L last n N a).1 = true ∧ (last = true → (N = [] → (nodeAt L a).kind ≠ 3) → (nodeAt L (wayW L last n N a).1).kind ≠ 3)
  | 0, N, a, ha, h => way_in hF last _ (fun _ _ _ h => absurd h (by decide)) N a ha h
  | n + 1, N, a, ha, h => way_in hF last _ (fun N' a' h1 h2 => way_ends hF last n N' a' h1 h2) N a ha h

theorem way_err0 (L : List Ino) (last : Bool) (f : List (List UInt8) → Int → Int × Int) (hf : ∀ N a, (f N a).2 ≠ 0 → (f N a).1 = 0) : ∀ (N : List (List UInt8)) (a : Int), (wayIn L last f N a).2 ≠ 0 → (wayIn L last f N a).1 = 0
  | [], a, h => absurd rfl h
  | x :: r, a, h => by
    unfold wayIn at h ⊢
    split
    · rfl
    · rename_i h1
      rw [if_neg h1] at h
      split
      · rename_i h2; rw [if_pos h2] at h; exact way_err0 L last f hf r _ h
      · rename_i h2; rw [if_neg h2] at h; exact hf _ _ h

theorem begin_live {L : List Ino} {m b : Int} (hF : FitP L m b) {cwd : Int} {p : List UInt8} (h : badW L cwd p = 0) : dirB L (beginW cwd p) = true := by
  unfold badW at h
  split at h
  · cases h
  · rename_i h1
    unfold beginW
    split
    · exact hF.root
    · cases hd : dirB L cwd with
      | true => rfl
      | false => exact absurd (Or.inr hd) h1

/-- P4.5. -/
theorem walk_ends {L : List Ino} {m b : Int} (hF : FitP L m b) (cwd : Int) (p : List UInt8) : ((walkW L cwd p true).2 ≠ 0 → (walkW L cwd p true).1 = 0) ∧ ((walkW L cwd p true).2 = 0 → liveB L (walkW L cwd p true).1 = true ∧ (nodeAt L (walkW L cwd p true).1).kind ≠ 3) := by
  unfold walkW
  by_cases h1 : badW L cwd p ≠ 0
  · rw [if_pos h1]
    exact ⟨fun _ => rfl, fun h => absurd h h1⟩
  · rw [if_neg h1]
    have hb := begin_live hF (by simpa using h1)
    split
    · rename_i h2
      exact ⟨fun _ => rfl, fun h => absurd h h2⟩
    · rename_i h2
      obtain ⟨i1, i2⟩ := way_ends hF (true || endL p) 8 (partsL p) (beginW cwd p) (live_of_dir hb) (by simpa using h2)
      split
      · exact ⟨fun _ => rfl, fun h => absurd h (by decide)⟩
      · exact ⟨fun h => absurd rfl h, fun _ => ⟨i1, i2 (by simp) (fun _ => by rw [node_kind_of hb]; decide)⟩⟩
end Go.Proofs.Ytfmaagcomplooaa

namespace Go.Proofs.Ytfmaagcomplooaa
set_option maxRecDepth 100000
open Go Go.RowKit

/-- Names with one more, in its place. -/
def namedL : List (List UInt8 × Int) → List UInt8 → Int → List (List UInt8 × Int)
  | [], s, k => [(s, k)]
  | e :: r, s, k => if Op.bytesLess e.1 s = true then e :: namedL r s k else (s, k) :: (e :: r).filter fun e => e.1 != s

theorem less_or {a b : List UInt8} (h1 : ¬ Op.bytesLess a b = true) (h2 : a ≠ b) : Op.bytesLess b a = true := by
  rcases cmp_cases a b with ⟨-, h⟩ | ⟨-, h⟩ | ⟨-, h⟩
  · exact absurd h h1
  · exact absurd h h2
  · exact h
theorem filter_out {M : List (List UInt8 × Int)} {s : List UInt8} (h : ∀ e ∈ M, e.1 ≠ s) : M.filter (fun e => e.1 != s) = M := List.filter_eq_self.2 fun e he => by simpa using h e he
theorem named_at : ∀ (M : List (List UInt8 × Int)) (s : List UInt8) (k : Int), (∀ e ∈ M, e.1 ≠ s) → ∃ A B, M = A ++ B ∧ namedL M s k = A ++ (s, k) :: B ∧ (∀ e ∈ A, Op.bytesLess e.1 s = true) ∧ ∀ e r, B = e :: r → Op.bytesLess s e.1 = true
  | [], s, k, _ => ⟨[], [], rfl, rfl, (fun _ h => by cases h), (fun _ _ h => by cases h)⟩
  | e :: r, s, k, h => by
    rw [namedL]
    by_cases hl : Op.bytesLess e.1 s = true
    · obtain ⟨A, B, h1, h2, h3, h4⟩ := named_at r s k (fun x hx => h x (List.mem_cons_of_mem _ hx))
      rw [if_pos hl, h2]
      refine ⟨e :: A, B, by rw [h1]; rfl, rfl, fun x hx => ?_, h4⟩
      rcases List.mem_cons.1 hx with rfl | hx
      · exact hl
      · exact h3 x hx
    · rw [if_neg hl, filter_out h]
      refine ⟨[], e :: r, rfl, rfl, (fun _ h => by cases h), fun x y hxy => ?_⟩
      cases hxy
      exact less_or hl (h e List.mem_cons_self)
theorem named_len {M : List (List UInt8 × Int)} {s : List UInt8} (k : Int) (h : ∀ e ∈ M, e.1 ≠ s) : (namedL M s k).length = M.length + 1 := by
  obtain ⟨A, B, h1, h2, -, -⟩ := named_at M s k h
  rw [h2, h1, List.length_append, List.length_append, List.length_cons]
  omega
theorem named_mem {M : List (List UInt8 × Int)} {s : List UInt8} (k : Int) (h : ∀ e ∈ M, e.1 ≠ s) {e : List UInt8 × Int} : e ∈ namedL M s k ↔ e = (s, k) ∨ e ∈ M := by
  obtain ⟨A, B, h1, h2, -, -⟩ := named_at M s k h
  rw [h2, h1, List.mem_append, List.mem_append, List.mem_cons]
  constructor
  · rintro (h | h | h)
    · exact Or.inr (Or.inl h)
    · exact Or.inl h
    · exact Or.inr (Or.inr h)
  · rintro (h | h | h)
    · exact Or.inr (Or.inl h)
    · exact Or.inl h
    · exact Or.inr (Or.inr h)
theorem names_one (e : List UInt8 × Int) (c : Int) : namesOf [e] c = if e.2 = c then 1 else 0 := by rw [names_cons]; rfl
theorem named_names {M : List (List UInt8 × Int)} {s : List UInt8} (k : Int) (h : ∀ e ∈ M, e.1 ≠ s) (c : Int) : namesOf (namedL M s k) c = namesOf M c + (if k = c then 1 else 0) := by
  obtain ⟨A, B, h1, h2, -, -⟩ := named_at M s k h
  rw [h2, h1, names_app, names_app, names_cons]
  show _ + ((if k = c then 1 else 0) + _) = _
  omega

/-! ### Rising names, as pairs -/

theorem rises_pair (M : List (List UInt8 × Int)) : Rises M ↔ M.Pairwise fun a b => Op.bytesLess a.1 b.1 = true := by
  constructor
  · intro h
    rw [List.pairwise_iff_getElem]
    intro i j hi hj hij
    exact h.lt i j hj hij
  · intro h k hk t ht
    subst ht
    exact (List.pairwise_iff_getElem.1 h) t (t + 1) (by omega) hk (by omega)
theorem named_rises {M : List (List UInt8 × Int)} {s : List UInt8} (k : Int) (h : ∀ e ∈ M, e.1 ≠ s) (hR : Rises M) : Rises (namedL M s k) := by
  obtain ⟨A, B, h1, h2, h3, h4⟩ := named_at M s k h
  rw [rises_pair] at hR ⊢
  rw [h1, List.pairwise_append] at hR
  obtain ⟨hA, hB, hAB⟩ := hR
  rw [h2, List.pairwise_append, List.pairwise_cons]
  refine ⟨hA, ⟨fun x hx => ?_, hB⟩, fun a ha x hx => ?_⟩
  · cases B with
    | nil => cases hx
    | cons e r =>
      have he := h4 e r rfl
      rcases List.mem_cons.1 hx with rfl | hx
      · exact he
      · exact less_trans _ _ _ he ((List.pairwise_cons.1 hB).1 x hx)
  · rcases List.mem_cons.1 hx with rfl | hx
    · exact h3 a ha
    · exact hAB a ha x hx

/-! ### One inode put in another's place -/

theorem names_set : ∀ (L : List Ino) (k : Nat) (h : k < L.length) (x : Ino) (c : Int), namesOf (kidsOf (L.set k x)) c + namesOf L[k].kids c = namesOf (kidsOf L) c + namesOf x.kids c
  | y :: r, 0, _, x, c => by
    show namesOf (x.kids ++ kidsOf r) c + namesOf y.kids c = namesOf (y.kids ++ kidsOf r) c + _
    rw [names_app, names_app]
    omega
  | y :: r, k + 1, h, x, c => by
    have ih := names_set r k (Nat.lt_of_succ_lt_succ h) x c
    show namesOf (y.kids ++ kidsOf (r.set k x)) c + namesOf (r[k]'(Nat.lt_of_succ_lt_succ h)).kids c = namesOf (y.kids ++ kidsOf r) c + _
    rw [names_app, names_app]
    omega
theorem usedB_set : ∀ (L : List Ino) (k : Nat) (h : k < L.length) (x : Ino), usedB (L.set k x) + L[k].data.length = usedB L + x.data.length
  | y :: r, 0, _, x => by
    show x.data.length + usedB r + y.data.length = y.data.length + usedB r + _
    omega
  | y :: r, k + 1, h, x => by
    have ih := usedB_set r k (Nat.lt_of_succ_lt_succ h) x
    show y.data.length + usedB (r.set k x) + (r[k]'(Nat.lt_of_succ_lt_succ h)).data.length = y.data.length + usedB r + _
    omega
theorem there_set (L : List Ino) (k : Nat) (x : Ino) (c : Int) : thereB (L.set k x) c = thereB L c := by
  unfold thereB
  rw [List.length_set]

def withKids (y : Ino) (M : List (List UInt8 × Int)) : Ino := { y with kids := M }
/-- A tree in which inode k is x, and the directory d has the name s of it besides. -/
def addL (L : List Ino) (d k : Nat) (s : List UInt8) (x : Ino) : List Ino := (L.set k x).set d (withKids (nodeAt L d) (namedL (nodeAt L d).kids s k))
theorem add_len (L : List Ino) (d k : Nat) (s : List UInt8) (x : Ino) : (addL L d k s x).length = L.length := by unfold addL; rw [List.length_set, List.length_set]
theorem add_get {L : List Ino} {d k : Nat} (hd : d < L.length) (s : List UInt8) (x : Ino) (j : Nat) (hj : j < L.length) :
    (addL L d k s x)[j]'(by rw [add_len]; exact hj) = if d = j then withKids L[d] (namedL L[d].kids s k) else if k = j then x else L[j] := by
  simp only [addL, List.getElem_set, node_nat L d hd]
theorem add_node {L : List Ino} {d k : Nat} (hd : d < L.length) (s : List UInt8) (x : Ino) (j : Nat) (hj : j < L.length) :
    nodeAt (addL L d k s x) (j : Int) = if d = j then withKids L[d] (namedL L[d].kids s k) else if k = j then x else L[j] := by
  rw [node_nat _ j (by rw [add_len]; exact hj)]
  exact add_get hd s x j hj
theorem add_there (L : List Ino) (d k : Nat) (s : List UInt8) (x : Ino) (c : Int) : thereB (addL L d k s x) c = thereB L c := by
  unfold thereB
  rw [add_len]

/-- What is asked of an inode that gets a name more, or is new. -/
structure Adds (L : List Ino) (m b : Int) (d k : Nat) (s : List UInt8) (x : Ino) : Prop where
  fit : FitP L m b
  dlt : d < L.length
  dir : L[d].kind = 2
  klt : k < L.length
  nodir : L[k].kind ≠ 2
  name : nameOkL s = true
  new : ∀ e ∈ L[d].kids, e.1 ≠ s
  room : L[d].kids.length < 1024
  alone : aloneB x = true
  used : x.kind ≠ 0
  kids : x.kids = []
  links : x.links = L[k].links + 1
  up : x.kind = 2 → x.up = d ∧ L[k].kind = 0
  bytes : (usedB L : Int) + x.data.length ≤ b + L[k].data.length

section
variable {L : List Ino} {m b : Int} {d k : Nat} {s : List UInt8} {x : Ino}
theorem Adds.ne (h : Adds L m b d k s x) : d ≠ k := fun e => by
  have h1 := h.dir
  subst e
  exact h.nodir h1
theorem free_kids (hF : FitP L m b) (hk : k < L.length) (h : L[k].kind ≠ 2) : L[k].kids = [] := by
  cases hq : L[k].kids with
  | nil => rfl
  | cons e r => exact absurd (dir_of_kids (hF.ins k hk).1 (by rw [hq]; simp)) h
theorem Adds.names (h : Adds L m b d k s x) (c : Int) : namesOf (kidsOf (addL L d k s x)) c = namesOf (kidsOf L) c + (if (k : Int) = c then 1 else 0) := by
  have h1 := names_set L k h.klt x c
  have hd : d < (L.set k x).length := by rw [List.length_set]; exact h.dlt
  have h2 := names_set (L.set k x) d hd (withKids (nodeAt L d) (namedL (nodeAt L d).kids s k)) c
  have e1 : (L.set k x)[d] = L[d]'h.dlt := by rw [List.getElem_set, if_neg (fun e => h.ne e.symm)]
  rw [e1] at h2
  have h3 : namesOf (namedL (nodeAt L d).kids s k) c = namesOf (nodeAt L d).kids c + (if (k : Int) = c then 1 else 0) := named_names (k : Int) (by rw [node_nat L d h.dlt]; exact h.new) c
  have h4 : namesOf (kidsOf (addL L d k s x)) c + namesOf (L[d]'h.dlt).kids c = namesOf (kidsOf (L.set k x)) c + namesOf (namedL (nodeAt L d).kids s k) c := h2
  rw [h3, node_nat L d h.dlt] at h4
  rw [free_kids h.fit h.klt h.nodir, h.kids] at h1
  omega
theorem Adds.bytesUsed (h : Adds L m b d k s x) : usedB (addL L d k s x) + (L[k]'h.klt).data.length = usedB L + x.data.length := by
  have h1 := usedB_set L k h.klt x
  have hd : d < (L.set k x).length := by rw [List.length_set]; exact h.dlt
  have h2 := usedB_set (L.set k x) d hd (withKids (nodeAt L d) (namedL (nodeAt L d).kids s k))
  have e1 : (L.set k x)[d] = L[d]'h.dlt := by rw [List.getElem_set, if_neg (fun e => h.ne e.symm)]
  rw [e1] at h2
  have h4 : usedB (addL L d k s x) + (L[d]'h.dlt).data.length = usedB (L.set k x) + (nodeAt L d).data.length := h2
  rw [node_nat L d h.dlt] at h4
  omega
theorem Adds.node (h : Adds L m b d k s x) (j : Nat) (hj : j < L.length) (hjk : j ≠ k) : (nodeAt (addL L d k s x) (j : Int)).kind = L[j].kind ∧ (nodeAt (addL L d k s x) (j : Int)).up = L[j].up ∧ (nodeAt (addL L d k s x) (j : Int)).links = L[j].links := by
  rw [add_node h.dlt s x j hj]
  by_cases e : d = j
  · subst e
    rw [if_pos rfl]
    exact ⟨rfl, rfl, rfl⟩
  · rw [if_neg e, if_neg (fun e => hjk e.symm)]
    exact ⟨rfl, rfl, rfl⟩
theorem Adds.nodeK (h : Adds L m b d k s x) : nodeAt (addL L d k s x) (k : Int) = x := by rw [add_node h.dlt s x k h.klt, if_neg h.ne, if_pos rfl]
theorem Adds.dirs (h : Adds L m b d k s x) {c : Int} (hc : c ≠ (k : Int)) : dirB (addL L d k s x) c = dirB L c := by
  unfold dirB
  rw [add_there]
  cases ht : thereB L c with
  | false => rfl
  | true =>
    obtain ⟨j, rfl, hj⟩ := there_nat ht
    rw [(h.node j hj (fun e => hc (by rw [e]))).1, node_nat L j hj]
theorem Adds.ins (h : Adds L m b d k s x) : AllFit (addL L d k s x) := fun j hj => by
  rw [add_len] at hj
  rw [add_get h.dlt s x j hj]
  by_cases e : d = j
  · subst e
    rw [if_pos rfl]
    have hI := h.fit.ins d h.dlt
    refine ⟨?_, ?_, fun i hi => ?_⟩
    · have h1 := hI.1
      unfold aloneB at h1 ⊢
      simpa [withKids, h.dir] using h1
    · show (namedL L[d].kids s k).length ≤ 1024
      rw [named_len _ h.new]
      have := h.room
      omega
    · have hR := named_rises (k : Int) h.new (kids_rise h.fit.ins d h.dlt).2
      have hi' : i < (namedL L[d].kids s k).length := hi
      have hm : (namedL L[d].kids s k)[i] ∈ namedL L[d].kids s k := List.getElem_mem _
      rw [named_mem (k : Int) h.new] at hm
      refine ⟨?_, fun t ht => hR i hi' t ht, ?_⟩
      · show nameOkL (namedL L[d].kids s k)[i].1 = true
        rcases hm with hm | hm
        · rw [hm]; exact h.name
        · exact (name_of h.fit.ins h.dlt hm).1
      · show thereB (addL L d k s x) (namedL L[d].kids s k)[i].2 = true
        rw [add_there]
        rcases hm with hm | hm
        · rw [hm]; exact there_of L k h.klt
        · exact (name_of h.fit.ins h.dlt hm).2
  · rw [if_neg e]
    by_cases e2 : k = j
    · rw [if_pos e2]
      refine ⟨h.alone, by rw [h.kids]; exact Nat.zero_le _, fun i hi => ?_⟩
      rw [h.kids] at hi
      exact absurd hi (Nat.not_lt_zero _)
    · rw [if_neg e2]
      have hI := h.fit.ins j hj
      exact ⟨hI.1, hI.2.1, fun i hi => ⟨(hI.2.2 i hi).name, (hI.2.2 i hi).order, by rw [add_there]; exact (hI.2.2 i hi).there⟩⟩
theorem Adds.count (h : Adds L m b d k s x) (j : Nat) (hj : j < L.length) : (countL (addL L d k s x))[j]'(by rw [countL_len, add_len]; exact hj) = (namesOf (kidsOf L) j : Int) + (if k = j then 1 else 0) := by
  rw [countL_get _ (kids_pos (kids_there h.ins)) j (by rw [add_len]; exact hj), h.names]
  by_cases e : k = j
  · rw [if_pos e, if_pos (by rw [e])]; rfl
  · rw [if_neg e, if_neg (fun e2 => e (by omega))]; rfl
theorem Adds.count0 (h : Adds L m b d k s x) : (L[k]'h.klt).links = (namesOf (kidsOf L) k : Int) := by
  rw [(h.fit.names.2 k h.klt).1, countL_get L (kids_pos (kids_there h.fit.ins)) k h.klt]
theorem Adds.noname (h : Adds L m b d k s x) (hx : x.kind = 2) : ∀ e ∈ kidsOf L, e.2 ≠ (k : Int) := fun e he ek => by
  have h0 := (h.up hx).2
  have hm := (h.fit.names.2 k h.klt).2
  rw [countL_get L (kids_pos (kids_there h.fit.ins)) k h.klt] at hm
  unfold MayHave at hm
  rw [if_pos (Or.inr h0)] at hm
  have := names_pos he
  rw [ek] at this
  omega
theorem Adds.upfits (h : Adds L m b d k s x) : UpFits (addL L d k s x) := fun d' hd' e he hdir => by
  rw [add_len] at hd'
  have old : ∀ (c : Nat) (hc : c < L.length), e ∈ L[c].kids → (nodeAt (addL L d k s x) e.2).up = (c : Int) := fun c hc he2 => by
    have hk : e ∈ kidsOf L := mem_kidsOf.2 ⟨c, hc, he2⟩
    by_cases ek : e.2 = (k : Int)
    · rw [ek] at hdir
      have hx : x.kind = 2 := by
        have := node_kind_of hdir
        rw [h.nodeK] at this
        exact this
      exact absurd ek (h.noname hx e hk)
    · rw [h.dirs ek] at hdir
      obtain ⟨j, hj1, hj⟩ := dir_lt hdir
      have h2 := h.fit.names.1 c hc e he2 hdir
      rw [hj1] at h2 ek ⊢
      rw [(h.node j hj (fun e3 => ek (by rw [e3]))).2.1, ← node_nat L j hj]
      exact h2
  rw [add_get h.dlt s x d' hd'] at he
  by_cases e1 : d = d'
  · subst e1
    rw [if_pos rfl] at he
    have he' : e ∈ namedL L[d].kids s k := he
    rw [named_mem (k : Int) h.new] at he'
    rcases he' with he' | he'
    · rw [he'] at hdir ⊢
      have hx : x.kind = 2 := by
        have := node_kind_of hdir
        rw [h.nodeK] at this
        exact this
      rw [h.nodeK]
      exact (h.up hx).1
    · exact old d h.dlt he'
  · rw [if_neg e1] at he
    by_cases e2 : k = d'
    · rw [if_pos e2, h.kids] at he
      cases he
    · rw [if_neg e2] at he
      exact old d' hd' he
theorem Adds.linksfit (h : Adds L m b d k s x) : LinksFit (addL L d k s x) := fun j hj => by
  have hj' := hj
  rw [add_len] at hj'
  rw [h.count j hj']
  obtain ⟨h1, h2⟩ := h.fit.names.2 j hj'
  rw [countL_get L (kids_pos (kids_there h.fit.ins)) j hj'] at h1 h2
  have hn := node_nat (addL L d k s x) j hj
  by_cases e : k = j
  · subst e
    rw [if_pos rfl, ← hn, h.nodeK]
    refine ⟨by rw [h.links, h1], ?_⟩
    have hk0 : k ≠ 0 := fun e0 => by
      subst e0
      have hr := h.fit.root
      have hr2 : L[0].kind = 2 := (dir_nat (n := 0) h.klt).1 hr
      exact h.nodir hr2
    unfold MayHave
    rw [if_neg (by rintro (e0 | e0); exact hk0 (by omega); exact h.used e0)]
    split
    · rename_i hx
      unfold MayHave at h2
      rw [if_pos (Or.inr (h.up hx).2)] at h2
      omega
    · omega
  · obtain ⟨n1, n2, n3⟩ := h.node j hj' (fun e2 => e e2.symm)
    rw [hn] at n1 n3
    rw [if_neg e, n1, n3, Int.add_zero]
    exact ⟨h1, h2⟩
theorem Adds.root (h : Adds L m b d k s x) : dirB (addL L d k s x) 0 = true ∧ (nodeAt (addL L d k s x) 0).up = 0 := by
  have hp : 0 < L.length := Nat.lt_of_le_of_lt (Nat.zero_le _) h.klt
  have hr2 : L[0].kind = 2 := (dir_nat (n := 0) hp).1 h.fit.root
  have hk0 : 0 ≠ k := fun e0 => by
    subst e0
    exact h.nodir hr2
  refine ⟨(h.dirs (c := 0) (by omega)).trans h.fit.root, ?_⟩
  have h1 := (h.node 0 hp hk0).2.1
  have h2 := h.fit.rootUp
  rw [show (0 : Int) = ((0 : Nat) : Int) from rfl, node_nat L 0 hp] at h2
  exact h1.trans h2
theorem Adds.same (h : Adds L m b d k s x) : ∀ (n : Nat) (c : Int), dirB L c = true → leadsL (addL L d k s x) n c = leadsL L n c
  | 0, _, _ => rfl
  | n + 1, c, hc => by
    obtain ⟨j, rfl, hj⟩ := dir_lt hc
    have hjk : j ≠ k := fun e => by
      subst e
      exact h.nodir ((dir_nat hj).1 hc)
    rw [leads_succ, leads_succ, (h.node j hj hjk).2.1, node_nat L j hj]
    split
    · rfl
    · exact Adds.same h n _ (ups_in h.fit.root h.fit.rootUp h.fit.ins h.fit.names j hj ((dir_nat hj).1 hc))

/-- The tree stays fit. -/
theorem Adds.fits (h : Adds L m b d k s x) : FitP (addL L d k s x) m b := by
  have hU := ups_in h.root.1 h.root.2 h.ins ⟨h.upfits, h.linksfit⟩
  refine ⟨?_, h.root.1, h.root.2, h.ins, ⟨h.upfits, h.linksfit⟩, fun j hj hdir => ?_⟩
  · obtain ⟨l1, l2, l3, l4, l5⟩ := h.fit.limits
    have h1 := h.bytesUsed
    have h2 := h.bytes
    refine ⟨by rw [add_len]; exact l1, by rw [add_len]; exact l2, l3, by omega, l5⟩
  · have hj' := hj
    rw [add_len] at hj'
    by_cases e : j = k
    · subst e
      have hx : x.kind = 2 := by
        have := node_kind_of hdir
        rw [h.nodeK] at this
        exact this
      have hdd := (dir_nat h.dlt).2 h.dir
      have h1 : leadsL (addL L d j s x) (L.length + 1) (j : Int) = true := by
        rw [leads_succ, h.nodeK, (h.up hx).1]
        split
        · rfl
        · rw [h.same _ _ hdd]
          exact h.fit.leads d h.dlt hdd
      refine up_leads hdir ?_
      rw [add_len]
      exact leads_up hU _ _ _ (Nat.le_refl _) hdir h1
    · have hdl : dirB L (j : Int) = true := by
        rw [h.dirs (by omega)] at hdir
        exact hdir
      rw [add_len, h.same _ _ hdl]
      exact h.fit.leads j hj' hdl
end

/-! ### Another mode, other data -/

section
variable {L : List Ino} {m b : Int} {k : Nat} {x : Ino}
/-- Inode k is x, which has all but its mode and its data as before. -/
structure Puts (L : List Ino) (m b : Int) (k : Nat) (x : Ino) : Prop where
  fit : FitP L m b
  klt : k < L.length
  kind : x.kind = L[k].kind
  links : x.links = L[k].links
  kids : x.kids = L[k].kids
  up : x.up = L[k].up
  alone : aloneB x = true
  bytes : (usedB L : Int) + x.data.length ≤ b + L[k].data.length
theorem Puts.at (h : Puts L m b k x) (j : Nat) (hj : j < L.length) : ((L.set k x)[j]'(by rw [List.length_set]; exact hj)).kind = L[j].kind ∧ ((L.set k x)[j]'(by rw [List.length_set]; exact hj)).links = L[j].links ∧ ((L.set k x)[j]'(by rw [List.length_set]; exact hj)).kids = L[j].kids ∧ ((L.set k x)[j]'(by rw [List.length_set]; exact hj)).up = L[j].up := by
  rw [List.getElem_set]
  by_cases e : k = j
  · subst e
    rw [if_pos rfl]
    exact ⟨h.kind, h.links, h.kids, h.up⟩
  · rw [if_neg e]
    exact ⟨rfl, rfl, rfl, rfl⟩
theorem Puts.node (h : Puts L m b k x) (j : Nat) (hj : j < L.length) : (nodeAt (L.set k x) (j : Int)).kind = L[j].kind ∧ (nodeAt (L.set k x) (j : Int)).up = L[j].up := by
  rw [node_nat _ j (by rw [List.length_set]; exact hj)]
  exact ⟨(h.at j hj).1, (h.at j hj).2.2.2⟩
theorem Puts.dirs (h : Puts L m b k x) (c : Int) : dirB (L.set k x) c = dirB L c := by
  unfold dirB
  rw [there_set]
  cases ht : thereB L c with
  | false => rfl
  | true =>
    obtain ⟨j, rfl, hj⟩ := there_nat ht
    rw [(h.node j hj).1, node_nat L j hj]
theorem Puts.names (h : Puts L m b k x) (c : Int) : namesOf (kidsOf (L.set k x)) c = namesOf (kidsOf L) c := by
  have h1 := names_set L k h.klt x c
  rw [h.kids] at h1
  omega
theorem Puts.ins (h : Puts L m b k x) : AllFit (L.set k x) := fun j hj => by
  rw [List.length_set] at hj
  have hI := h.fit.ins j hj
  refine ⟨?_, ?_⟩
  · rw [List.getElem_set]
    split
    · exact h.alone
    · exact hI.1
  · rw [(h.at j hj).2.2.1]
    exact ⟨hI.2.1, fun i hi => ⟨(hI.2.2 i hi).name, (hI.2.2 i hi).order, by rw [there_set]; exact (hI.2.2 i hi).there⟩⟩
theorem Puts.leads (h : Puts L m b k x) : ∀ (n : Nat) (c : Int), dirB L c = true → leadsL (L.set k x) n c = leadsL L n c
  | 0, _, _ => rfl
  | n + 1, c, hc => by
    obtain ⟨j, rfl, hj⟩ := dir_lt hc
    rw [leads_succ, leads_succ, (h.node j hj).2, node_nat L j hj]
    split
    · rfl
    · exact Puts.leads h n _ (ups_in h.fit.root h.fit.rootUp h.fit.ins h.fit.names j hj ((dir_nat hj).1 hc))
theorem Puts.fits (h : Puts L m b k x) : FitP (L.set k x) m b := by
  have hp : 0 < L.length := Nat.lt_of_le_of_lt (Nat.zero_le _) h.klt
  refine ⟨?_, (h.dirs 0).trans h.fit.root, ?_, h.ins, ⟨fun d hd e he hdir => ?_, fun j hj => ?_⟩, fun j hj hdir => ?_⟩
  · obtain ⟨l1, l2, l3, l4, l5⟩ := h.fit.limits
    have h1 := usedB_set L k h.klt x
    have h2 := h.bytes
    refine ⟨by rw [List.length_set]; exact l1, by rw [List.length_set]; exact l2, l3, by omega, l5⟩
  · have h2 := h.fit.rootUp
    rw [show (0 : Int) = ((0 : Nat) : Int) from rfl, node_nat L 0 hp] at h2
    exact (h.node 0 hp).2.trans h2
  · rw [List.length_set] at hd
    rw [(h.at d hd).2.2.1] at he
    rw [h.dirs] at hdir
    have h2 := h.fit.names.1 d hd e he hdir
    obtain ⟨j, hj1, hj⟩ := dir_lt hdir
    rw [hj1] at h2 ⊢
    rw [(h.node j hj).2, ← node_nat L j hj]
    exact h2
  · have hj' := hj
    rw [List.length_set] at hj'
    obtain ⟨h1, h2⟩ := h.fit.names.2 j hj'
    rw [countL_get L (kids_pos (kids_there h.fit.ins)) j hj'] at h1 h2
    rw [countL_get _ (kids_pos (kids_there h.ins)) j hj, h.names, (h.at j hj').1, (h.at j hj').2.1]
    exact ⟨h1, h2⟩
  · rw [List.length_set] at hj
    rw [h.dirs] at hdir
    rw [List.length_set, h.leads _ _ hdir]
    exact h.fit.leads j hj hdir
end
end Go.Proofs.Ytfmaagcomplooaa

namespace Go.Proofs.Ytfmaagcomplooaa
set_option maxRecDepth 100000
open Go Go.RowKit

/-- A new name at a path: its directory, and it. -/
def freshW (L : List Ino) (cwd : Int) (p : List UInt8) (dirs : Bool) : Int × List UInt8 × Int :=
  if (parentW L cwd p).2.2 ≠ 0 then (0, [], (parentW L cwd p).2.2) else
  if (parentW L cwd p).2.1 = [46] ∨ (parentW L cwd p).2.1 = [46, 46] ∨ 0 ≤ kidL L (parentW L cwd p).1 (parentW L cwd p).2.1 then (0, [], 17) else
  if nameOkL (parentW L cwd p).2.1 = false then (0, [], 22) else
  if mayL L (parentW L cwd p).1 3 = false then (0, [], 13) else
  if dirs = false ∧ endL p = true then (0, [], 20) else ((parentW L cwd p).1, (parentW L cwd p).2.1, 0)
/-- The first free inode from k on. -/
def freeW (L : List Ino) : Nat → Nat → Option Nat
  | 0, _ => none
  | n + 1, k => if (nodeAt L (k : Int)).kind = 0 then some k else freeW L n (k + 1)
/-- A tree with a new inode of a name. -/
def addedW (L : List Ino) (d : Int) (s : List UInt8) (x : Ino) : List Ino × Int × Int :=
  if 1024 ≤ (nodeAt L d).kids.length then (L, 0, 28) else
  match freeW L L.length 0 with
  | none => (L, 0, 28)
  | some k => (addL L d.toNat k s { x with links := 1 }, (k : Int), 0)
def newIno (kind mode : Int) (data : List UInt8) (up : Int) : Ino := ⟨kind, mode, 0, data, [], up⟩
def modeB (q : Int) : Bool := decide (0 ≤ q) && decide (q ≤ 7)
def mkdirW (L : List Ino) (cwd : Int) (p : List UInt8) (q : Int) : List Ino × Int × Int :=
  if modeB q = false then (L, 0, 22) else
  if (freshW L cwd p true).2.2 ≠ 0 then (L, 0, (freshW L cwd p true).2.2) else addedW L (freshW L cwd p true).1 (freshW L cwd p true).2.1 (newIno 2 q [] (freshW L cwd p true).1)
def createW (L : List Ino) (cwd : Int) (p : List UInt8) (q : Int) : List Ino × Int × Int :=
  if modeB q = false then (L, 0, 22) else
  if (freshW L cwd p false).2.2 ≠ 0 then (L, 0, (freshW L cwd p false).2.2) else addedW L (freshW L cwd p false).1 (freshW L cwd p false).2.1 (newIno 1 q [] 0)
def symlinkW (L : List Ino) (b : Int) (cwd : Int) (to p : List UInt8) : List Ino × Int × Int :=
  if to = [] ∨ to.any (fun c => c == 0) = true then (L, 0, 22) else
  if 1024 < to.length then (L, 0, 36) else
  if (freshW L cwd p false).2.2 ≠ 0 then (L, 0, (freshW L cwd p false).2.2) else
  if b < (usedB L : Int) + to.length then (L, 0, 28) else addedW L (freshW L cwd p false).1 (freshW L cwd p false).2.1 (newIno 3 7 to 0)
def linkW (L : List Ino) (cwd : Int) (old p : List UInt8) : List Ino × Int :=
  if (walkW L cwd old false).2 ≠ 0 then (L, (walkW L cwd old false).2) else
  if (nodeAt L (walkW L cwd old false).1).kind = 2 then (L, 1) else
  if (freshW L cwd p false).2.2 ≠ 0 then (L, (freshW L cwd p false).2.2) else
  if 1024 ≤ (nodeAt L (freshW L cwd p false).1).kids.length then (L, 28) else
  (addL L (freshW L cwd p false).1.toNat (walkW L cwd old false).1.toNat (freshW L cwd p false).2.1 { nodeAt L (walkW L cwd old false).1 with links := (nodeAt L (walkW L cwd old false).1).links + 1 }, 0)
def chmodW (L : List Ino) (cwd : Int) (p : List UInt8) (q : Int) : List Ino × Int :=
  if modeB q = false then (L, 22) else
  if (walkW L cwd p true).2 ≠ 0 then (L, (walkW L cwd p true).2) else
  (L.set (walkW L cwd p true).1.toNat { nodeAt L (walkW L cwd p true).1 with mode := q }, 0)

theorem kid_new {L : List Ino} {m b : Int} (hF : FitP L m b) {d : Nat} (hd : d < L.length) {s : List UInt8} (h : ¬ 0 ≤ kidL L (d : Int) s) : ∀ e ∈ L[d].kids, e.1 ≠ s := fun e he hs => by
  obtain ⟨i, hi, rfl⟩ := List.getElem_of_mem he
  have h1 := kid_of hF d hd i hi
  rw [hs] at h1
  have h2 := there_pos (((hF.ins d hd).2.2 i hi).there)
  rw [h1] at h
  exact h h2
/-- What a new name is. -/
theorem fresh_ok {L : List Ino} {m b : Int} (hF : FitP L m b) {cwd : Int} {p : List UInt8} {dirs : Bool} (h : (freshW L cwd p dirs).2.2 = 0) :
    ∃ (d : Nat) (s : List UInt8) (hd : d < L.length), parentW L cwd p = ((d : Int), s, 0) ∧ freshW L cwd p dirs = ((d : Int), s, 0) ∧ L[d].kind = 2 ∧ nameOkL s = true ∧ (∀ e ∈ L[d].kids, e.1 ≠ s) ∧ mayL L (d : Int) 3 = true := by
  unfold freshW at h ⊢
  split at h
  · rename_i h1
    exact absurd h h1
  rename_i h1
  rw [if_neg h1]
  split at h
  · exact absurd h (by decide)
  rename_i h2
  rw [if_neg h2]
  split at h
  · exact absurd h (by decide)
  rename_i h3
  rw [if_neg h3]
  split at h
  · exact absurd h (by decide)
  rename_i h4
  rw [if_neg h4]
  split at h
  · exact absurd h (by decide)
  rename_i h5
  rw [if_neg h5]
  have hdir : dirB L (parentW L cwd p).1 = true := by
    have h6 : (parentW L cwd p).2.2 = 0 := by simpa using h1
    unfold parentW at h6 ⊢
    split at h6
    · rename_i g1; exact absurd h6 g1
    · rename_i g1
      rw [if_neg g1]
      split at h6
      · exact absurd h6 (by decide)
      · rename_i g2
        rw [if_neg g2]
        split at h6
        · rename_i g3; exact absurd h6 g3
        · rename_i g3
          rw [if_neg g3]
          split at h6
          · exact absurd h6 (by decide)
          · rename_i g4
            rw [if_neg g4]
            simpa using g4
  obtain ⟨d, hde, hd⟩ := dir_lt hdir
  have h3' : nameOkL (parentW L cwd p).2.1 = true := by simpa using h3
  have h4' : mayL L (parentW L cwd p).1 3 = true := by simpa using h4
  have h2' : ¬ 0 ≤ kidL L (parentW L cwd p).1 (parentW L cwd p).2.1 := fun g => h2 (Or.inr (Or.inr g))
  rw [hde] at h2' h4' hdir
  refine ⟨d, (parentW L cwd p).2.1, hd, ?_, ?_, (dir_nat hd).1 hdir, h3', kid_new hF hd h2', h4'⟩
  · exact Prod.ext hde (Prod.ext rfl (by simpa using h1))
  · rw [hde]
theorem free_some : ∀ (n k : Nat) {L : List Ino} {t : Nat}, freeW L n k = some t → k ≤ t ∧ t < k + n ∧ (nodeAt L (t : Int)).kind = 0
  | 0, _, _, _, h => by cases h
  | n + 1, k, L, t, h => by
    rw [freeW] at h
    split at h
    · rename_i h0
      cases h
      exact ⟨Nat.le_refl _, by omega, h0⟩
    · obtain ⟨h1, h2, h3⟩ := free_some n (k + 1) h
      exact ⟨by omega, by omega, h3⟩
theorem free_none : ∀ (n k : Nat) {L : List Ino}, freeW L n k = none → ∀ t, k ≤ t → t < k + n → (nodeAt L (t : Int)).kind ≠ 0
  | 0, _, _, _, t, h1, h2 => by omega
  | n + 1, k, L, h, t, h1, h2 => by
    rw [freeW] at h
    split at h
    · cases h
    · rename_i h0
      by_cases e : t = k
      · rw [e]; exact h0
      · exact free_none n (k + 1) h t (by omega) (by omega)

theorem free_links {x : Ino} (h : aloneB x = true) (h0 : x.kind = 0) : x.links = 0 ∧ x.data = [] := by
  unfold aloneB at h
  rw [if_pos h0] at h
  simp only [Bool.and_eq_true, decide_eq_true_eq, List.isEmpty_iff] at h
  exact ⟨h.1.1.1.2, h.1.1.2⟩
/-- A new inode of a new name. -/
theorem added_adds {L : List Ino} {m b : Int} (hF : FitP L m b) {d : Nat} (hd : d < L.length) (hdir : L[d].kind = 2) {s : List UInt8} (hs : nameOkL s = true) (hn : ∀ e ∈ L[d].kids, e.1 ≠ s) {k : Nat} (hk : freeW L L.length 0 = some k) (hroom : L[d].kids.length < 1024)
    {x : Ino} (ha : aloneB { x with links := 1 } = true) (h0 : x.kind ≠ 0) (hkids : x.kids = []) (hup : x.kind = 2 → x.up = d) (hub : (usedB L : Int) + x.data.length ≤ b) : ∃ h : k < L.length, L[k].kind = 0 ∧ Adds L m b d k s { x with links := 1 } := by
  obtain ⟨-, h1, h2⟩ := free_some L.length 0 hk
  have hkl : k < L.length := by omega
  rw [node_nat L k hkl] at h2
  obtain ⟨h3, h4⟩ := free_links (hF.ins k hkl).1 h2
  exact ⟨hkl, h2, ⟨hF, hd, hdir, hkl, by rw [h2]; decide, hs, hn, hroom, ha, h0, hkids, by rw [h3]; rfl, fun hx => ⟨hup hx, h2⟩, by rw [h4]; simpa using hub⟩⟩
theorem alone_dir (q : Int) (d : Int) (hq : modeB q = true) : aloneB { newIno 2 q [] d with links := 1 } = true := by
  unfold modeB at hq
  rw [Bool.and_eq_true, decide_eq_true_eq, decide_eq_true_eq] at hq
  show aloneB ⟨2, q, 1, [], [], d⟩ = true
  unfold aloneB
  simp
  omega
theorem alone_file (q : Int) (hq : modeB q = true) : aloneB { newIno 1 q [] 0 with links := 1 } = true := by
  unfold modeB at hq
  rw [Bool.and_eq_true, decide_eq_true_eq, decide_eq_true_eq] at hq
  show aloneB ⟨1, q, 1, [], [], 0⟩ = true
  unfold aloneB
  simp
  omega
theorem alone_link (to : List UInt8) (h0 : to ≠ []) (h1 : to.any (fun c => c == 0) = false) (h2 : to.length ≤ 1024) : aloneB { newIno 3 7 to 0 with links := 1 } = true := by
  show aloneB ⟨3, 7, 1, to, [], 0⟩ = true
  unfold aloneB
  have h3 : to.all (fun c => c != 0) = true := by
    rw [List.all_eq_true]
    intro c hc
    have := List.any_eq_false.1 h1 c hc
    simpa using this
  simp only [h3]
  simp [h0, h2]

theorem parts_of_walk {L : List Ino} {cwd : Int} {p : List UInt8} {f : Bool} (h : (walkW L cwd p f).2 = 0) : (wayW L (f || endL p) 8 (partsL p) (beginW cwd p)).2 = 0 ∧ (walkW L cwd p f).1 = (wayW L (f || endL p) 8 (partsL p) (beginW cwd p)).1 ∧ badW L cwd p = 0 := by
  unfold walkW at h ⊢
  split at h
  · rename_i h1; exact absurd h h1
  · rename_i h1
    rw [if_neg h1]
    split at h
    · rename_i h2; exact absurd h h2
    · rename_i h2
      rw [if_neg h2]
      split at h
      · exact absurd h (by decide)
      · rename_i h3
        rw [if_neg h3]
        exact ⟨by simpa using h2, rfl, by simpa using h1⟩
/-- What a way tells, if it tells no error, is there. -/
theorem walk_live {L : List Ino} {m b : Int} (hF : FitP L m b) {cwd : Int} {p : List UInt8} {f : Bool} (h : (walkW L cwd p f).2 = 0) : liveB L (walkW L cwd p f).1 = true := by
  obtain ⟨h1, h2, h3⟩ := parts_of_walk h
  rw [h2]
  exact (way_ends hF _ 8 _ _ (live_of_dir (begin_live hF h3)) h1).1
theorem live_ino {L : List Ino} {c : Int} (h : liveB L c = true) : ∃ (k : Nat) (hk : k < L.length), c = (k : Int) ∧ L[k].kind ≠ 0 := by
  obtain ⟨k, rfl, hk⟩ := there_nat (live_there h)
  unfold liveB at h
  rw [Bool.and_eq_true, node_nat L k hk] at h
  exact ⟨k, hk, rfl, by simpa using h.2⟩
/-- Links play no part in what an inode is by itself, if it is used. -/
theorem alone_links {x : Ino} (n : Int) (h0 : x.kind ≠ 0) (h : aloneB x = true) : aloneB { x with links := n } = true := by
  unfold aloneB at h ⊢
  rw [if_neg h0] at h
  show (if x.kind = 0 then _ else _) = true
  rw [if_neg h0]
  exact h
/-- One more name of what is no directory. -/
theorem link_adds {L : List Ino} {m b : Int} (hF : FitP L m b) {d k : Nat} (hd : d < L.length) (hdir : L[d].kind = 2) {s : List UInt8} (hs : nameOkL s = true) (hn : ∀ e ∈ L[d].kids, e.1 ≠ s) (hroom : L[d].kids.length < 1024)
    (hk : k < L.length) (h0 : L[k].kind ≠ 0) (h2 : L[k].kind ≠ 2) : Adds L m b d k s { L[k] with links := L[k].links + 1 } :=
  ⟨hF, hd, hdir, hk, h2, hs, hn, hroom, alone_links _ h0 (hF.ins k hk).1, h0, free_kids hF hk h2, rfl, fun h => absurd h h2, by
    obtain ⟨-, -, -, l4, -⟩ := hF.limits
    show (usedB L : Int) + L[k].data.length ≤ b + L[k].data.length
    omega⟩
theorem alone_mode {x : Ino} {q : Int} (h0 : x.kind ≠ 0) (h : aloneB x = true) (hq : modeB q = true) : aloneB { x with mode := q } = true := by
  unfold modeB at hq
  rw [Bool.and_eq_true, decide_eq_true_eq, decide_eq_true_eq] at hq
  unfold aloneB at h ⊢
  rw [if_neg h0] at h
  show (if x.kind = 0 then _ else if q < 0 ∨ 7 < q then false else _) = true
  rw [if_neg h0, if_neg (by omega)]
  split at h
  · cases h
  · exact h
/-- Another mode. -/
theorem mode_puts {L : List Ino} {m b : Int} (hF : FitP L m b) {k : Nat} (hk : k < L.length) (h0 : L[k].kind ≠ 0) {q : Int} (hq : modeB q = true) : Puts L m b k { L[k] with mode := q } :=
  ⟨hF, hk, rfl, rfl, rfl, rfl, alone_mode h0 (hF.ins k hk).1 hq, by
    obtain ⟨-, -, -, l4, -⟩ := hF.limits
    show (usedB L : Int) + L[k].data.length ≤ b + L[k].data.length
    omega⟩
end Go.Proofs.Ytfmaagcomplooaa

namespace Go.Proofs.Ytfmaagcomplooaa
set_option maxRecDepth 100000
open Go Go.RowKit

theorem blk_cell {W : World} {k : Nat} {cs : Array Value} {t : TypeId} (h : W.heap[k]? = some (.cells cs t (0, 0))) (j : Nat) : W.cell? ⟨k, j, none⟩ = cs[j]? := cell_of_row W k j cs t (0, 0) h
theorem blk_free {W : World} {k : Nat} {cs : Array Value} {t : TypeId} (h : W.heap[k]? = some (.cells cs t (0, 0))) (j : Nat) : W.frozen? ⟨k, j, none⟩ = false := by simp [World.frozen?, h]
theorem blk_set {W : World} {k : Nat} {cs : Array Value} {t : TypeId} (h : W.heap[k]? = some (.cells cs t (0, 0))) (j : Nat) (u : Value) : (W.setCell ⟨k, j, none⟩ u).heap[k]? = some (.cells (cs.setIfInBounds j u) t (0, 0)) := by
  have hlt := lt_of_block h
  have h' : W.heap[k] = .cells cs t (0, 0) := by simpa [Array.getElem?_eq_getElem hlt] using h
  show (W.heap.modify k _)[k]? = _
  rw [Array.getElem?_eq_getElem (by simpa using hlt), Array.getElem_modify_self, h']
  rfl
/-- A tree is stored in a block of three. -/
def put3 (W : World) (k : Nat) (x y z : Value) : World := ((W.setCell ⟨k, 0, none⟩ x).setCell ⟨k, 1, none⟩ y).setCell ⟨k, 2, none⟩ z
theorem put3_block {W : World} {k : Nat} {a b c : Value} {t : TypeId} (h : W.heap[k]? = some (.cells #[a, b, c] t (0, 0))) (x y z : Value) : (put3 W k x y z).heap[k]? = some (.cells #[x, y, z] t (0, 0)) := blk_set (blk_set (blk_set h 0 x) 1 y) 2 z
theorem put3_cells {W : World} {k : Nat} {a b c : Value} {t : TypeId} (h : W.heap[k]? = some (.cells #[a, b, c] t (0, 0))) (x y z : Value) : (put3 W k x y z).cell? ⟨k, 0, none⟩ = some x ∧ (put3 W k x y z).cell? ⟨k, 1, none⟩ = some y ∧ (put3 W k x y z).cell? ⟨k, 2, none⟩ = some z :=
  ⟨blk_cell (put3_block h x y z) 0, blk_cell (put3_block h x y z) 1, blk_cell (put3_block h x y z) 2⟩
theorem put3_other {W : World} {k j : Nat} (h : j ≠ k) (x y z : Value) : (put3 W k x y z).heap[j]? = W.heap[j]? :=
  (Below.heap_setCell _ _ _ _ h).trans ((Below.heap_setCell _ _ _ _ h).trans (Below.heap_setCell _ _ _ _ h))
theorem put3_below {B : Nat} {w W : World} {k : Nat} (h : Below B w W) (hk : B ≤ k) (x y z : Value) : Below B w (put3 W k x y z) := ((h.setCell hk _).setCell hk _).setCell hk _
theorem put3_size (W : World) (k : Nat) (x y z : Value) : (put3 W k x y z).heap.size = W.heap.size := by unfold put3; simp [World.setCell]
/-- Two boxes that are laid one behind the other. -/
theorem two_boxes (w : World) (A B : Array Value) (s t : TypeId) : ∃ w2, w2 = (w.alloc (.cells A s)).alloc (.cells B t) ∧ Below w.heap.size w w2 ∧ w2.heap.size = w.heap.size + 2 ∧ w2.heap[w.heap.size]? = some (.cells A s (0, 0)) ∧ w2.heap[w.heap.size + 1]? = some (.cells B t (0, 0)) := by
  refine ⟨_, rfl, (below_box w _).alloc (by simp) _, by simp, ?_, ?_⟩
  · rw [Below.heap_alloc _ _ _ (by simp)]; exact new_block _ _
  · have := new_block (w.alloc (.cells A s)) (.cells B t)
    rw [World.size_alloc] at this
    exact this
/-- At block g, place o, lies the inode x, whose names' slice is v. -/
structure NodeAt (W : World) (g o : Nat) (x : Ino) (v : Value) : Prop where
  kind : W.cell? ⟨g, o, none⟩ = some (.int .i64 x.kind)
  mode : W.cell? ⟨g, o + 1, none⟩ = some (.int .i64 x.mode)
  links : W.cell? ⟨g, o + 2, none⟩ = some (.int .i64 x.links)
  data : W.cell? ⟨g, o + 3, none⟩ = some (.string ⟨x.data.toArray⟩)
  kids : W.cell? ⟨g, o + 4, none⟩ = some v
  up : W.cell? ⟨g, o + 5, none⟩ = some (.int .i64 x.up)

/-- Block g holds the inodes L, whose names' slices are vs. -/
structure NodesOwn (W : World) (g cap : Nat) (L : List Ino) (vs : List Value) : Prop where
  len : vs.length = L.length
  le : L.length ≤ cap
  max : cap ≤ maxLen
  lt : g < W.heap.size
  free : ∀ j, W.frozen? ⟨g, j, none⟩ = false
  node : ∀ i (hi : i < L.length) (hv : i < vs.length), NodeAt W g (i * 6) L[i] vs[i]

section
variable {W W' : World} {g cap : Nat} {L : List Ino} {vs : List Value}
theorem NodeAt.same {o : Nat} {x : Ino} {v : Value} (h : NodeAt W g o x v) (he : W'.heap[g]? = W.heap[g]?) : NodeAt W' g o x v := by
  have hc : ∀ j, W'.cell? ⟨g, j, none⟩ = W.cell? ⟨g, j, none⟩ := fun j => World.cell?_of_block (a := ⟨g, j, none⟩) he
  exact ⟨(hc _).trans h.kind, (hc _).trans h.mode, (hc _).trans h.links, (hc _).trans h.data, (hc _).trans h.kids, (hc _).trans h.up⟩
theorem lt_of_same (hl : g < W.heap.size) (he : W'.heap[g]? = W.heap[g]?) : g < W'.heap.size := by
  rw [Array.getElem?_eq_getElem hl] at he
  exact (Array.getElem?_eq_some_iff.1 he).1
theorem NodesOwn.same (h : NodesOwn W g cap L vs) (he : W'.heap[g]? = W.heap[g]?) : NodesOwn W' g cap L vs :=
  ⟨h.len, h.le, h.max, lt_of_same h.lt he, fun j => (World.frozen?_of_block (a := ⟨g, j, none⟩) he).trans (h.free j), fun i hi hv => (h.node i hi hv).same he⟩
theorem NodesOwn.below (h : NodesOwn W g cap L vs) (hb : Below W.heap.size W W') : NodesOwn W' g cap L vs := h.same (hb.block g h.lt)
theorem NodesOwn.nodesIn (h : NodesOwn W g cap L vs) (hk : ∀ i (hi : i < L.length) (hv : i < vs.length), KidsIn W vs[i] L[i].kids) : NodesIn W (some ⟨g, 0, none⟩) cap L :=
  ⟨h.le, h.max, fun i hi => ⟨g, 0, rfl, by
    rw [Nat.zero_add]
    have hv : i < vs.length := by rw [h.len]; exact hi
    have hn := h.node i hi hv
    exact ⟨hn.kind, hn.mode, hn.links, hn.data, ⟨_, hn.kids, hk i hi hv⟩, hn.up⟩⟩⟩

/-- One cell of an inode is written. -/
theorem cell_set {a : Nat} {u old : Value} (h : W.cell? ⟨g, a, none⟩ = some old) (j : Nat) : (W.setCell ⟨g, a, none⟩ u).cell? ⟨g, j, none⟩ = if j = a then some u else W.cell? ⟨g, j, none⟩ := by
  by_cases e : j = a
  · subst e
    rw [if_pos rfl]
    exact World.cell?_setCell_same W ⟨g, j, none⟩ u h
  · rw [if_neg e]
    exact World.cell?_setCell_other W ⟨g, a, none⟩ ⟨g, j, none⟩ u (fun e2 => e (Addr.mk.inj e2).2.1.symm)
theorem size_set (a : Addr) (u : Value) : (W.setCell a u).heap.size = W.heap.size := by simp [World.setCell]

/-- What is written of an inode: of the six cells from i * 6 on. -/
theorem NodesOwn.put (h : NodesOwn W g cap L vs) {i : Nat} (_hi : i < L.length) {x : Ino} {v : Value} (hs : W'.heap.size = W.heap.size) (hf : ∀ j, W'.frozen? ⟨g, j, none⟩ = W.frozen? ⟨g, j, none⟩)
    (hout : ∀ j, j < i * 6 ∨ i * 6 + 6 ≤ j → W'.cell? ⟨g, j, none⟩ = W.cell? ⟨g, j, none⟩) (hin : NodeAt W' g (i * 6) x v) : NodesOwn W' g cap (L.set i x) (vs.set i v) := by
  refine ⟨by rw [List.length_set, List.length_set, h.len], by rw [List.length_set]; exact h.le, h.max, by rw [hs]; exact h.lt, fun j => (hf j).trans (h.free j), fun j hj hv => ?_⟩
  rw [List.length_set] at hj hv
  by_cases e : i = j
  · subst e
    rw [List.getElem_set_self, List.getElem_set_self]
    exact hin
  · rw [List.getElem_set_ne e, List.getElem_set_ne e]
    have hn := h.node j hj hv
    have ho : ∀ t, t < 6 → W'.cell? ⟨g, j * 6 + t, none⟩ = W.cell? ⟨g, j * 6 + t, none⟩ := fun t ht => hout _ (by omega)
    exact ⟨(ho 0 (by decide)).trans hn.kind, (ho 1 (by decide)).trans hn.mode, (ho 2 (by decide)).trans hn.links, (ho 3 (by decide)).trans hn.data, (ho 4 (by decide)).trans hn.kids, (ho 5 (by decide)).trans hn.up⟩

theorem NodesOwn.setKids (h : NodesOwn W g cap L vs) {i : Nat} (hi : i < L.length) (hv : i < vs.length) (v : Value) (M : List (List UInt8 × Int)) : NodesOwn (W.setCell ⟨g, i * 6 + 4, none⟩ v) g cap (L.set i { L[i] with kids := M }) (vs.set i v) := by
  have hn := h.node i hi hv
  have hc := cell_set (u := v) hn.kids
  refine h.put hi (size_set _ _) (fun j => World.frozen?_setCell ..) (fun j hj => by rw [hc, if_neg (by omega)]) ⟨?_, ?_, ?_, ?_, ?_, ?_⟩
  · rw [hc, if_neg (by omega)]; exact hn.kind
  · rw [hc, if_neg (by omega)]; exact hn.mode
  · rw [hc, if_neg (by omega)]; exact hn.links
  · rw [hc, if_neg (by omega)]; exact hn.data
  · rw [hc, if_pos rfl]
  · rw [hc, if_neg (by omega)]; exact hn.up
theorem NodesOwn.setLinks (h : NodesOwn W g cap L vs) {i : Nat} (hi : i < L.length) (hv : i < vs.length) (z : Int) : NodesOwn (W.setCell ⟨g, i * 6 + 2, none⟩ (.int .i64 z)) g cap (L.set i { L[i] with links := z }) (vs.set i vs[i]) := by
  have hn := h.node i hi hv
  have hc := cell_set (u := .int .i64 z) hn.links
  refine h.put hi (size_set _ _) (fun j => World.frozen?_setCell ..) (fun j hj => by rw [hc, if_neg (by omega)]) ⟨?_, ?_, ?_, ?_, ?_, ?_⟩
  · rw [hc, if_neg (by omega)]; exact hn.kind
  · rw [hc, if_neg (by omega)]; exact hn.mode
  · rw [hc, if_pos rfl]
  · rw [hc, if_neg (by omega)]; exact hn.data
  · rw [hc, if_neg (by omega)]; exact hn.kids
  · rw [hc, if_neg (by omega)]; exact hn.up
theorem NodesOwn.setMode (h : NodesOwn W g cap L vs) {i : Nat} (hi : i < L.length) (hv : i < vs.length) (z : Int) : NodesOwn (W.setCell ⟨g, i * 6 + 1, none⟩ (.int .i64 z)) g cap (L.set i { L[i] with mode := z }) (vs.set i vs[i]) := by
  have hn := h.node i hi hv
  have hc := cell_set (u := .int .i64 z) hn.mode
  refine h.put hi (size_set _ _) (fun j => World.frozen?_setCell ..) (fun j hj => by rw [hc, if_neg (by omega)]) ⟨?_, ?_, ?_, ?_, ?_, ?_⟩
  · rw [hc, if_neg (by omega)]; exact hn.kind
  · rw [hc, if_pos rfl]
  · rw [hc, if_neg (by omega)]; exact hn.links
  · rw [hc, if_neg (by omega)]; exact hn.data
  · rw [hc, if_neg (by omega)]; exact hn.kids
  · rw [hc, if_neg (by omega)]; exact hn.up
def inoC (x : Ino) (v : Value) : List Value := [.int .i64 x.kind, .int .i64 x.mode, .int .i64 x.links, .string ⟨x.data.toArray⟩, v, .int .i64 x.up]
theorem size_sets (b : Nat) : ∀ (l : List Value) (o : Nat) (w : World), (w.setCells b o l).heap.size = w.heap.size
  | [], _, _ => rfl
  | v :: r, o, w => by
    show ((w.setCell ⟨b, o, none⟩ v).setCells b (o + 1) r).heap.size = _
    rw [size_sets b r, size_set]
theorem NodesOwn.setNode (h : NodesOwn W g cap L vs) {i : Nat} (hi : i < L.length) (hv : i < vs.length) (x : Ino) (v : Value) : NodesOwn (W.setCells g (i * 6) (inoC x v)) g cap (L.set i x) (vs.set i v) := by
  have hn := h.node i hi hv
  have hin := World.cell?_setCells_in g (inoC x v) (i * 6) W (fun j hj => by
    have hj' : j < 6 := hj
    match j, hj' with
    | 0, _ => exact Option.isSome_of_eq_some hn.kind
    | 1, _ => exact Option.isSome_of_eq_some hn.mode
    | 2, _ => exact Option.isSome_of_eq_some hn.links
    | 3, _ => exact Option.isSome_of_eq_some hn.data
    | 4, _ => exact Option.isSome_of_eq_some hn.kids
    | 5, _ => exact Option.isSome_of_eq_some hn.up)
  refine h.put hi (size_sets _ _ _ _) (fun j => World.frozen?_setCells ..) (fun j hj => World.cell?_setCells_out _ _ _ _ _ (fun _ _ => hj)) ⟨?_, ?_, ?_, ?_, ?_, ?_⟩
  · exact hin 0 (show 0 < 6 by decide)
  · exact hin 1 (show 1 < 6 by decide)
  · exact hin 2 (show 2 < 6 by decide)
  · exact hin 3 (show 3 < 6 by decide)
  · exact hin 4 (show 4 < 6 by decide)
  · exact hin 5 (show 5 < 6 by decide)
end

/-! ### Names in a block of the call's own -/

def kidC : List (List UInt8 × Int) → List Value
  | [] => []
  | e :: r => .string ⟨e.1.toArray⟩ :: .int .i64 e.2 :: kidC r
theorem kidC_len : ∀ K, (kidC K).length = K.length * 2
  | [] => rfl
  | e :: r => by simp only [kidC, List.length_cons, kidC_len r]; omega
theorem kidC_app : ∀ A B, kidC (A ++ B) = kidC A ++ kidC B
  | [], B => rfl
  | e :: r, B => by simp only [List.cons_append, kidC, kidC_app r B]
theorem kidC_get0 : ∀ (K : List (List UInt8 × Int)) (i : Nat) (h : i < K.length), (kidC K)[i * 2]? = some (.string ⟨K[i].1.toArray⟩)
  | e :: r, 0, _ => rfl
  | e :: r, i + 1, h => by
    have := kidC_get0 r i (Nat.lt_of_succ_lt_succ h)
    rw [show (i + 1) * 2 = i * 2 + 1 + 1 by omega, kidC, List.getElem?_cons_succ, List.getElem?_cons_succ, this]
    rfl
theorem kidC_get1 : ∀ (K : List (List UInt8 × Int)) (i : Nat) (h : i < K.length), (kidC K)[i * 2 + 1]? = some (.int .i64 K[i].2)
  | e :: r, 0, _ => rfl
  | e :: r, i + 1, h => by
    have := kidC_get1 r i (Nat.lt_of_succ_lt_succ h)
    rw [show (i + 1) * 2 + 1 = i * 2 + 1 + 1 + 1 by omega, kidC, List.getElem?_cons_succ, List.getElem?_cons_succ, this]
    rfl
theorem kidC_one : ∀ (K : List (List UInt8 × Int)), ∀ u ∈ kidC K, u.oneCell' = true
  | [], _, h => by cases h
  | e :: r, u, h => by
    rcases List.mem_cons.1 h with rfl | h
    · rfl
    · rcases List.mem_cons.1 h with rfl | h
      · rfl
      · exact kidC_one r u h
/-- Names as they lie, cell by cell. -/
theorem kidC_cells {W : World} {K : List (List UInt8 × Int)} {b o : Nat} (h : ∀ i (hi : i < K.length), W.cell? ⟨b, o + i * 2, none⟩ = some (.string ⟨K[i].1.toArray⟩) ∧ W.cell? ⟨b, o + i * 2 + 1, none⟩ = some (.int .i64 K[i].2)) (j : Nat) (u : Value) (hu : (kidC K)[j]? = some u) : W.cell? ⟨b, o + j, none⟩ = some u := by
  have hj : j < K.length * 2 := by rw [← kidC_len]; exact (List.getElem?_eq_some_iff.1 hu).1
  have hi : j / 2 < K.length := by omega
  rcases Nat.mod_two_eq_zero_or_one j with e | e
  · obtain ⟨i, rfl⟩ : ∃ i, j = i * 2 := ⟨j / 2, by omega⟩
    have hi' : i < K.length := by omega
    rw [kidC_get0 K i hi'] at hu
    cases hu
    exact (h i hi').1
  · obtain ⟨i, rfl⟩ : ∃ i, j = i * 2 + 1 := ⟨j / 2, by omega⟩
    have hi' : i < K.length := by omega
    rw [kidC_get1 K i hi'] at hu
    cases hu
    rw [← Nat.add_assoc]
    exact (h i hi').2
def KidsOwn (W : World) (base : Nat) (v : Value) (K : List (List UInt8 × Int)) : Prop := W.ownsRow base 62 2 v K.length (kidC K)
theorem zero_add_addr (g j : Nat) : (⟨g, 0, none⟩ : Addr).add j = ⟨g, j, none⟩ := by
  unfold Addr.add
  split
  · rename_i h; rw [h]
  · show (⟨g, 0 + j, none⟩ : Addr) = _; rw [Nat.zero_add]
theorem KidsOwn.kidsIn {W : World} {base : Nat} {v : Value} {K : List (List UInt8 × Int)} (h : KidsOwn W base v K) : KidsIn W v K := by
  rcases h.2 with ⟨rfl, h0⟩ | ⟨g, cap, cur, rfl, hb, hg, hn, hc, hs, ht⟩
  · have e : K = [] := List.length_eq_zero_iff.1 h0
    subst e
    exact ⟨none, 0, rfl, Nat.le_refl _, Nat.zero_le _, fun i hi => absurd hi (Nat.not_lt_zero _)⟩
  · refine ⟨some ⟨g, 0, none⟩, cap, rfl, hn, hc, fun i hi => ⟨g, 0, rfl, ?_, ?_⟩⟩
    · have := h.cells rfl _ _ (kidC_get0 K i hi)
      rw [zero_add_addr] at this
      rw [Nat.zero_add]
      exact this
    · have := h.cells rfl _ _ (kidC_get1 K i hi)
      rw [zero_add_addr] at this
      rw [Nat.zero_add]
      exact this
theorem KidsOwn.form {W : World} {B : Nat} {v : Value} {K : List (List UInt8 × Int)} (h : KidsOwn W B v K) : ∃ a c, v = .slice a K.length c := by
  rcases h.2 with ⟨rfl, h0⟩ | ⟨g, cap, cur, e, -⟩
  · exact ⟨none, 0, by rw [h0]⟩
  · exact ⟨_, _, e⟩
theorem KidsOwn.lower {W : World} {B B' : Nat} {v : Value} {K : List (List UInt8 × Int)} (h : KidsOwn W B v K) (hb : B' ≤ B) : KidsOwn W B' v K := by
  refine ⟨h.1, ?_⟩
  rcases h.2 with hn | ⟨g, cap, cur, e, hg, rest⟩
  · exact .inl hn
  · exact .inr ⟨g, cap, cur, e, Nat.le_trans hb hg, rest⟩
theorem KidsOwn.nil (W : World) (base : Nat) : KidsOwn W base (.slice none 0 0) [] := World.ownsRow_nil W base _ 2
theorem KidsOwn.same {W W' : World} {base : Nat} {v : Value} {K : List (List UInt8 × Int)} (h : KidsOwn W base v K) (he : ∀ k, v.ownBlock = some k → W'.heap[k]? = W.heap[k]?) : KidsOwn W' base v K := by
  refine ⟨h.1, ?_⟩
  rcases h.2 with hn | ⟨g, cap, cur, rfl, hb, hg, rest⟩
  · exact .inl hn
  · exact .inr ⟨g, cap, cur, rfl, hb, (he g rfl).trans hg, rest⟩

/-- A tree that is the call's own from block base on. -/
structure OwnT (W : World) (base g cap : Nat) (L : List Ino) (vs : List Value) : Prop where
  nodes : NodesOwn W g cap L vs
  hbase : base ≤ g
  kids : ∀ i (hi : i < L.length) (hv : i < vs.length), KidsOwn W base vs[i] L[i].kids
  apart : ∀ i j (hi : i < vs.length) (hj : j < vs.length), i ≠ j → vs[i].ownBlock = none ∨ vs[i].ownBlock ≠ vs[j].ownBlock
  off : ∀ i (hi : i < vs.length), vs[i].ownBlock ≠ some g
section
variable {W W' : World} {base g cap : Nat} {L : List Ino} {vs : List Value}
theorem OwnT.nodesIn (h : OwnT W base g cap L vs) : NodesIn W (some ⟨g, 0, none⟩) cap L := h.nodes.nodesIn fun i hi hv => (h.kids i hi hv).kidsIn
theorem OwnT.below (h : OwnT W base g cap L vs) (hb : Below W.heap.size W W') : OwnT W' base g cap L vs :=
  ⟨h.nodes.below hb, h.hbase, fun i hi hv => (h.kids i hi hv).same fun k hk => hb.block k ((h.kids i hi hv).lt k hk).2, h.apart, h.off⟩
/-- What lies below base may change. -/
theorem OwnT.low (h : OwnT W base g cap L vs) (hb : ∀ k, base ≤ k → W'.heap[k]? = W.heap[k]?) : OwnT W' base g cap L vs :=
  ⟨h.nodes.same (hb g h.hbase), h.hbase, fun i hi hv => (h.kids i hi hv).same fun k hk => hb k ((h.kids i hi hv).lt k hk).1, h.apart, h.off⟩
theorem OwnT.lower {base' : Nat} (h : OwnT W base g cap L vs) (hb : base' ≤ base) : OwnT W base' g cap L vs :=
  ⟨h.nodes, Nat.le_trans hb h.hbase, fun i hi hv => (h.kids i hi hv).lower hb, h.apart, h.off⟩
/-- Names of one directory are others: in its own block, or in a new one; the rest stays. -/
theorem OwnT.setKids (h : OwnT W base g cap L vs) {d : Nat} (hd : d < L.length) (hv : d < vs.length) {v : Value} {M : List (List UInt8 × Int)} (hg : W.grownBy W' vs[d].ownBlock) (ho : KidsOwn W' base v M) (hb : ∀ k, v.ownBlock = some k → vs[d].ownBlock = some k ∨ W.heap.size ≤ k) :
    OwnT (W'.setCell ⟨g, d * 6 + 4, none⟩ v) base g cap (L.set d { L[d] with kids := M }) (vs.set d v) := by
  have hsame : W'.heap[g]? = W.heap[g]? := hg.block g h.nodes.lt (fun e => h.off d hv e.symm)
  have hN := (h.nodes.same hsame).setKids hd hv v M
  have hoff : ∀ k, v.ownBlock = some k → k ≠ g := fun k hk e => by
    subst e
    rcases hb k hk with h1 | h1
    · exact h.off d hv h1
    · have := h.nodes.lt; omega
  have hap : ∀ j (hj : j < vs.length), j ≠ d → ∀ k, vs[j].ownBlock = some k → v.ownBlock ≠ some k := fun j hj hjd k hk e => by
    rcases hb k e with h1 | h1
    · rcases h.apart j d hj hv hjd with h2 | h2
      · rw [h2] at hk; cases hk
      · exact h2 (hk.trans h1.symm)
    · have := ((h.kids j (by rw [← h.nodes.len]; exact hj) hj).lt k hk).2
      omega
  have hst : ∀ k, k ≠ g → (W'.setCell ⟨g, d * 6 + 4, none⟩ v).heap[k]? = W'.heap[k]? := fun k hk => Below.heap_setCell _ _ _ _ hk
  refine ⟨hN, h.hbase, fun i hi hvi => ?_, fun i j hi hj hij => ?_, fun i hi => ?_⟩
  · rw [List.length_set] at hi hvi
    by_cases e : d = i
    · subst e
      rw [List.getElem_set_self]
      have e2 : (L.set d { L[d] with kids := M })[d]'(by rw [List.length_set]; exact hi) = { L[d] with kids := M } := List.getElem_set_self ..
      rw [e2]
      exact ho.same fun k hk => hst k (hoff k hk)
    · rw [List.getElem_set_ne e, List.getElem_set_ne e]
      have hki := h.kids i hi hvi
      refine hki.same fun k hk => ?_
      rw [hst k (fun e3 => h.off i hvi (e3 ▸ hk))]
      refine hg.block k (hki.lt k hk).2 (fun e3 => ?_)
      rcases h.apart i d hvi hv (fun e4 => e e4.symm) with h2 | h2
      · rw [h2] at hk; cases hk
      · exact h2 (hk.trans e3)
  · rw [List.length_set] at hi hj
    rw [List.getElem_set, List.getElem_set]
    by_cases e1 : d = i
    · rw [if_pos e1]
      rw [if_neg (fun e2 => hij (e1.symm.trans e2))]
      cases hq : v.ownBlock with
      | none => exact Or.inl rfl
      | some k => exact Or.inr fun e3 => hap j hj (fun e2 => hij (e1.symm.trans e2.symm)) k e3.symm hq
    · rw [if_neg e1]
      by_cases e2 : d = j
      · rw [if_pos e2]
        cases hq : vs[i].ownBlock with
        | none => exact Or.inl rfl
        | some k => exact Or.inr fun e3 => hap i hi (fun e4 => e1 e4.symm) k hq e3.symm
      · rw [if_neg e2]
        exact h.apart i j hi hj hij
  · rw [List.length_set] at hi
    rw [List.getElem_set]
    by_cases e : d = i
    · rw [if_pos e]
      exact fun e3 => hoff g e3 rfl
    · rw [if_neg e]
      exact h.off i hi
theorem set_self {vs : List Value} {i : Nat} (hi : i < vs.length) : vs.set i vs[i] = vs := List.set_getElem_self ..
theorem OwnT.setLinks (h : OwnT W base g cap L vs) {i : Nat} (hi : i < L.length) (z : Int) : OwnT (W.setCell ⟨g, i * 6 + 2, none⟩ (.int .i64 z)) base g cap (L.set i { L[i] with links := z }) vs := by
  have hv : i < vs.length := by rw [h.nodes.len]; exact hi
  have hN := h.nodes.setLinks hi hv z
  rw [set_self] at hN
  refine ⟨hN, h.hbase, fun j hj hvj => ?_, h.apart, h.off⟩
  rw [List.length_set] at hj
  have hk := (h.kids j hj hvj).same (W' := W.setCell ⟨g, i * 6 + 2, none⟩ (.int .i64 z)) fun k hk => Below.heap_setCell _ _ _ _ (fun e => h.off j hvj (hk.trans (congrArg some (show k = g from e))))
  rw [List.getElem_set]
  split
  · rename_i e; subst e; exact hk
  · exact hk
theorem OwnT.setMode (h : OwnT W base g cap L vs) {i : Nat} (hi : i < L.length) (z : Int) : OwnT (W.setCell ⟨g, i * 6 + 1, none⟩ (.int .i64 z)) base g cap (L.set i { L[i] with mode := z }) vs := by
  have hv : i < vs.length := by rw [h.nodes.len]; exact hi
  have hN := h.nodes.setMode hi hv z
  rw [set_self] at hN
  refine ⟨hN, h.hbase, fun j hj hvj => ?_, h.apart, h.off⟩
  rw [List.length_set] at hj
  have hk := (h.kids j hj hvj).same (W' := W.setCell ⟨g, i * 6 + 1, none⟩ (.int .i64 z)) fun k hk => Below.heap_setCell _ _ _ _ (fun e => h.off j hvj (hk.trans (congrArg some (show k = g from e))))
  rw [List.getElem_set]
  split
  · rename_i e; subst e; exact hk
  · exact hk
theorem heap_sets (b : Nat) : ∀ (l : List Value) (o : Nat) (w : World) (k : Nat), k ≠ b → (w.setCells b o l).heap[k]? = w.heap[k]?
  | [], _, _, _, _ => rfl
  | v :: r, o, w, k, h => by
    show ((w.setCell ⟨b, o, none⟩ v).setCells b (o + 1) r).heap[k]? = _
    rw [heap_sets b r _ _ k h]
    exact Below.heap_setCell _ _ _ _ h
/-- An inode without names is laid in the place of another one. -/
theorem OwnT.setNode (h : OwnT W base g cap L vs) {i : Nat} (hi : i < L.length) (x : Ino) (hx : x.kids = []) : OwnT (W.setCells g (i * 6) (inoC x (.slice none 0 0))) base g cap (L.set i x) (vs.set i (.slice none 0 0)) := by
  have hv : i < vs.length := by rw [h.nodes.len]; exact hi
  refine ⟨h.nodes.setNode hi hv x _, h.hbase, fun j hj hvj => ?_, fun j k hj hk hjk => ?_, fun j hj => ?_⟩
  · rw [List.length_set] at hj hvj
    by_cases e : i = j
    · subst e
      rw [List.getElem_set_self, List.getElem_set_self, hx]
      exact KidsOwn.nil _ _
    · rw [List.getElem_set_ne e, List.getElem_set_ne e]
      exact (h.kids j hj hvj).same fun k hk => heap_sets _ _ _ _ _ (fun e => h.off j hvj (e ▸ hk))
  · rw [List.length_set] at hj hk
    rw [List.getElem_set, List.getElem_set]
    by_cases e1 : i = j
    · rw [if_pos e1]
      exact Or.inl rfl
    · rw [if_neg e1]
      by_cases e2 : i = k
      · rw [if_pos e2]
        cases hq : vs[j].ownBlock with
        | none => exact Or.inl rfl
        | some k => exact Or.inr fun e3 => by cases e3
      · rw [if_neg e2]
        exact h.apart j k hj hk hjk
  · rw [List.length_set] at hj
    rw [List.getElem_set]
    split
    · exact fun e => by cases e
    · exact h.off j hj
end
end Go.Proofs.Ytfmaagcomplooaa

namespace Go.Proofs.Ytfmaagcomplooaa
set_option maxRecDepth 100000
open Go Go.RowKit Go.Shelf

attribute [local go_sem] Oper.semAt_some

/-- Block Bn stands as it stood. -/
def KeepB (Bn : Nat) (W W' : World) : Prop := W'.heap[Bn]? = W.heap[Bn]?
theorem keepB_t {Bn : Nat} {A B C : World} (h : KeepB Bn A B) (k : KeepB Bn B C) : KeepB Bn A C := Eq.trans k h
theorem keepB_b {Bn : Nat} {w : World} (hb : Bn < w.heap.size) (W : World) (l : Nat) (o o' : Obj) (hl : w.heap.size ≤ l) (_ : W.heap[l]? = some o) (_ : o.isCells = false) (_ : o.isWalk = false) : KeepB Bn W (W.putObj l o') :=
  by
  show (W.putObj l o').heap[Bn]? = W.heap[Bn]?
  simp only [World.putObj]
  rw [Array.getElem?_setIfInBounds_ne (by omega)]

/-- The names D are done, the rest r stands before us. -/
def Rest (s : List UInt8) (D : List (List UInt8)) (r : List UInt8) : Prop := r.length ≤ s.length ∧ partsL s = D ++ partsL r
theorem Rest.start (s : List UInt8) : Rest s [] s := ⟨Nat.le_refl _, rfl⟩
theorem Rest.skip {s r : List UInt8} {D : List (List UInt8)} (h : Rest s D r) (hh : headL r = []) : Rest s D (tailL r) := by
  refine ⟨Nat.le_trans (tail_len r) h.1, ?_⟩
  rw [h.2, parts_step r, if_pos hh, List.nil_append]
theorem Rest.takes {s r : List UInt8} {D : List (List UInt8)} (h : Rest s D r) (hh : headL r ≠ []) : Rest s (D ++ [headL r]) (tailL r) := by
  refine ⟨Nat.le_trans (tail_len r) h.1, ?_⟩
  rw [h.2, parts_step r, if_neg hh, List.append_assoc]
theorem Rest.done {s : List UInt8} {D : List (List UInt8)} (h : Rest s D []) : D = partsL s := by
  rw [h.2]
  simp [partsL, partsGo]
theorem Rest.pre {s r : List UInt8} {D : List (List UInt8)} (h : Rest s D r) : D <+: partsL s := ⟨partsL r, h.2.symm⟩

def IRel (s : ByteArray) (Bn : Nat) (J : List (List UInt8) → World → Prop) (r : Value) (wr : World) : Prop :=
  ∃ (l : List UInt8) (D : List (List UInt8)), r = .string ⟨l.toArray⟩ ∧ Rest s.data.toList D l ∧ J D wr ∧ wr.cell? ⟨Bn, 0, none⟩ = some (.string s)

def lenOf : Value → Nat
  | .string b => b.size
  | _ => 0

theorem list_empty (l : List UInt8) : ((⟨l.toArray⟩ : ByteArray).toList.isEmpty) = l.isEmpty := by rw [ByteArray.toList_eq]

theorem cut_list (l : List UInt8) (hs : l.length ≤ 1073741824) (w : World) :
    Calls Try.prog 93 #[.string ⟨l.toArray⟩, .string ⟨#[47]⟩] w fun e w' => (∃ b, e = .returned (.tuple #[.string ⟨(headL l).toArray⟩, .string ⟨(tailL l).toArray⟩, .bool b])) ∧ Drawn w w' :=
  cut_any ⟨l.toArray⟩ (by show l.toArray.size ≤ _; simpa using hs) w

/-- A fence that shuts nothing out. -/
structure Open (F : Fence) : Prop where
  fn : ∀ f, F.fn f
  ro : F.round = none
  calls : ∀ {n : Nat} {P : Program} {f : FuncId} {args : Array Value} {w : World} {R : Ending → World → Prop}, Calls P f args w R → CallsIn F n P f args w R
theorem open_wide : Open Fence.wide := ⟨fun _ => trivial, rfl, fun h => callsIn_wide.2 h⟩

set_option maxRecDepth 100000 in
set_option maxHeartbeats 2000000 in
theorem names1_in (F : Fence) (hF : Open F) (n : Nat) (hn : 1 ≤ n) (l Bn : Nat) (s : ByteArray) (hs : s.size ≤ 1073741824) (J Jx : List (List UInt8) → World → Prop) (hdr : ∀ pre W m, J pre W → J pre (W.drewN m))
    (hY : ∀ pre x W, J pre W → pre.length < (partsL s.data.toList).length → YieldAt F (n - 1) Try.prog l #[.string ⟨x.toArray⟩] W fun e W' =>
      (e = .returned (.bool true) ∧ J (pre ++ [x]) W' ∧ KeepB Bn W W') ∨ (e = .returned (.bool false) ∧ Jx (pre ++ [x]) W'))
    (W : World) (hBn : W.cell? ⟨Bn, 0, none⟩ = some (.string s)) (h0 : J [] W) :
    CallsIn F n Try.prog 92 #[.func (.yield l) #[] #[], .pointer (some ⟨Bn, 0, none⟩)] W fun e W' => (∃ v, e = .returned v) ∧
      ((∃ ys, ys = partsL s.data.toList ∧ J ys W') ∨ (∃ pre, pre <+: partsL s.data.toList ∧ Jx pre W')) := by
  have hsl := size_list s
  have hro : F.round = none := hF.ro
  have hfc : F.fn 93 := hF.fn _
  refine callsIn_of_wp Try.func92 rfl (hF.fn _) ?_ hro
  simp only [Try.ntmps92, List.size_toArray, List.length_cons, List.length_nil, Nat.reduceAdd, Nat.reduceSub, Array.replicate_succ, Array.replicate_zero, List.push_toArray, List.append_toArray, List.nil_append, List.cons_append]
  gi_wp2
  gi_loopw [3, 4] (fun r _ wr => IRel s Bn J r wr) (fun r _ _ => lenOf r)
  case atStart => exact ⟨s.data.toList, [], rfl, Rest.start _, h0, hBn⟩
  case round =>
    obtain ⟨r, D, rfl, hrest, hJ, hcell⟩ := hrel
    have HR := Lib.hid hrest
    have HJ := Lib.hid hJ
    clear hrest hJ
    have he := list_empty r
    cases hr : r.isEmpty with
    | true =>
      obtain rfl : r = [] := by simpa using hr
      have hfin := Lib.hid (Rest.done HR.out)
      gi_wp2
      go_end0
      exact ⟨⟨_, rfl⟩, .inl ⟨D, hfin.out, HJ.out⟩⟩
    | false =>
      have hrl : r.length ≤ 1073741824 := by have := HR.out.1; omega
      have hrn : r ≠ [] := fun e => by rw [e] at hr; cases hr
      have htl := tail_less r hrn
      have HT := Lib.hid htl
      clear htl hrn
      have he2 := list_empty (headL r)
      cases hh : (headL r).isEmpty with
      | true =>
        have hnext := Lib.hid (HR.out.skip (by simpa using hh))
        gi_wp2_with (gi_at_call 93; refine (hF.calls (cut_list r hrl _)).mono ?_; rintro e w' ⟨⟨b, rfl⟩, m, rfl⟩)
        refine ⟨fun _ h => (by cases h), ?_⟩
        gi_wp2
        go_roundw
        case rel => exact ⟨tailL r, D, rfl, hnext.out, hdr _ _ _ HJ.out, hcell⟩
        case measure => exact HT.out
      | false =>
        have hnext := Lib.hid (HR.out.takes (by simpa using hh))
        have hlen : D.length < (partsL s.data.toList).length := by
          have := (Rest.pre hnext.out).length_le
          simp at this
          omega
        gi_wp2_with (gi_at_call 93; refine (hF.calls (cut_list r hrl _)).mono ?_; rintro e w' ⟨⟨b, rfl⟩, m, rfl⟩; obtain ⟨fn, tmps, assign, body, hy, hR⟩ := hY D (headL r) _ (hdr _ _ m HJ.out) hlen)
        refine hR.mono ?_
        rintro e W3 (⟨rfl, hJ3, hk3⟩ | ⟨rfl, hJx3⟩)
        · have hcell3 : W3.cell? ⟨Bn, 0, none⟩ = some (.string s) := (World.cell?_of_block (w := wr.drewN m) (a := ⟨Bn, 0, none⟩) (show W3.heap[Bn]? = (wr.drewN m).heap[Bn]? from hk3)).trans hcell
          gi_wp2
          go_roundw
          case rel => exact ⟨tailL r, D ++ [headL r], rfl, hnext.out, hJ3, hcell3⟩
          case measure => exact HT.out
        · have hpre := Rest.pre hnext.out
          gi_wp2
          refine bodyPost_ret (results_none rfl _ _ _) rfl ?_
          exact ⟨⟨_, rfl⟩, .inr ⟨D ++ [headL r], hpre, hJx3⟩⟩

theorem names_in (F : Fence) (hF : Open F) (n : Nat) (s : ByteArray) (w : World) :
    CallsIn F n Try.prog 85 #[.string s] w fun e w' => e = .returned (.func (.func 92) #[] #[.pointer (some ⟨w.heap.size, 0, none⟩)]) ∧ w' = w.alloc (.cells #[.string s] 9) := by
  have hro : F.round = none := hF.ro
  refine callsIn_of_wp Try.func85 rfl (hF.fn _) ?_ hro
  simp only [Try.ntmps85, List.size_toArray, List.length_cons, List.length_nil, Nat.reduceAdd, Nat.reduceSub, Array.replicate_succ, Array.replicate_zero, List.push_toArray, List.append_toArray, List.nil_append, List.cons_append]
  gi_wp2
  go_ret
  exact ⟨rfl, rfl⟩

theorem drewN_grownBy (W : World) (m : Nat) : W.grownBy (W.drewN m) none := ⟨rfl, rfl, rfl, Nat.le_refl _, fun _ _ _ => rfl⟩

theorem names_stops (F : Fence) (hF : Open F) (n : Nat) (hn : 1 ≤ n) (Bn : Nat) (s : ByteArray) (hs : s.size ≤ 1073741824) (w : World) (hBn : Bn < w.heap.size)
    (hc : w.cell? ⟨Bn, 0, none⟩ = some (.string s)) :
    SeqStopsK F n Try.prog 92 #[.pointer (some ⟨Bn, 0, none⟩)] (fun x : List UInt8 => #[Value.string ⟨x.toArray⟩]) (KeepB Bn) (fun ys => ys = partsL s.data.toList) (fun pre => pre <+: partsL s.data.toList) (partsL s.data.toList).length w := fun l J Jx W hW hJ _ hY h0 =>
  names1_in F hF n hn l Bn s hs J Jx (fun pre W m h => hJ pre W _ none h (drewN_grownBy W m) (fun _ e => by cases e)) hY W ((hW.cell (p := ⟨Bn, 0, none⟩) hBn).trans hc) h0
end Go.Proofs.Ytfmaagcomplooaa
