/-
  Ways through a tree, in plain words: a name's step, a way, Walk and Parent; where a way leads.
  The reference's there, dir, May, step, begin and bad, walked.
  The reference's step, begin and bad, walked.
  The reference's way, walked.
  The reference's bad, Walk and Parent, walked.
  walk's kind, May and refused, of the landed code.
-/
import Derived.Test.YtclhpedecimicaaGreatTPlain3
import Derived.Test.YtclhpedecimicaaGreatK10
import Derived.Test.YtclhpedecimicaaGreatK8
import Derived.Deep.QuietTactic
import Derived.BigQuiet
import Derived.Test.YtclhpedecimicaaGreatK2
import Derived.Test.YtclhpedecimicaaGreatK11
namespace Go.Proofs.YtclhpedecimicaaGreat
set_option maxRecDepth 100000
open Go Go.RowKit

/-- There, and not free. -/
def liveB (L : List Ino) (k : Int) : Bool := thereB L k && (nodeAt L k).kind != 0
def kindL (L : List Ino) (k : Int) : Int := if thereB L k then (nodeAt L k).kind else 0
/-- Mode m has all bits of what. -/
def bitsB (m what : Int) : Bool := (what / 4 == 0 || m / 4 == 1) && (what / 2 % 2 == 0 || m / 2 % 2 == 1) && (what % 2 == 0 || m % 2 == 1)
def mayL (L : List Ino) (k what : Int) : Bool := decide (0 ≤ what) && decide (what ≤ 7) && liveB L k && bitsB (nodeAt L k).mode what

def stepW (L : List Ino) (a : Int) (x : List UInt8) : Int × Int :=
  if dirB L a = false then (0, 20) else if mayL L a 1 = false then (0, 13) else if x = [46] then (a, 0) else if x = [46, 46] then ((nodeAt L a).up, 0)
  else if kidL L a x < 0 then (0, 2) else (kidL L a x, 0)

/-- A way's names up to the next link that is followed. -/
def wayIn (L : List Ino) (last : Bool) (f : List (List UInt8) → Int → Int × Int) : List (List UInt8) → Int → Int × Int
  | [], a => (a, 0)
  | x :: r, a => if (stepW L a x).2 ≠ 0 then (0, (stepW L a x).2) else
    if (nodeAt L (stepW L a x).1).kind ≠ 3 ∨ (r = [] ∧ last = false) then wayIn L last f r (stepW L a x).1
    else f (partsL (nodeAt L (stepW L a x).1).data ++ r) (if wholeL (nodeAt L (stepW L a x).1).data then 0 else a)
/-- A way on which n links more may be followed. -/
def wayW (L : List Ino) (last : Bool) : Nat → List (List UInt8) → Int → Int × Int
  | 0 => wayIn L last (fun _ _ => (0, 40))
  | n + 1 => wayIn L last (wayW L last n)
theorem wayW_nil (L : List Ino) (last : Bool) (n : Nat) (a : Int) : wayW L last n [] a = (a, 0) := by cases n <;> rfl
theorem wayW_err (L : List Ino) (last : Bool) (n : Nat) (x : List UInt8) (r : List (List UInt8)) (a : Int) (h : (stepW L a x).2 ≠ 0) : wayW L last n (x :: r) a = (0, (stepW L a x).2) := by
  cases n <;> (unfold wayW wayIn; rw [if_pos h])
theorem wayW_on (L : List Ino) (last : Bool) (n : Nat) (x : List UInt8) (r : List (List UInt8)) (a k : Int) (h : stepW L a x = (k, 0)) (h2 : (nodeAt L k).kind ≠ 3 ∨ (r = [] ∧ last = false)) : wayW L last n (x :: r) a = wayW L last n r k := by
  cases n with
  | zero => show wayIn L last _ (x :: r) a = _; rw [wayIn, h]; simp only [ne_eq, not_true, if_false]; rw [if_pos h2]; rfl
  | succ n => show wayIn L last _ (x :: r) a = _; rw [wayIn, h]; simp only [ne_eq, not_true, if_false]; rw [if_pos h2]; rfl
theorem wayW_loop (L : List Ino) (last : Bool) (x : List UInt8) (r : List (List UInt8)) (a k : Int) (h : stepW L a x = (k, 0)) (h2 : ¬ ((nodeAt L k).kind ≠ 3 ∨ (r = [] ∧ last = false))) : wayW L last 0 (x :: r) a = (0, 40) := by
  show wayIn L last _ (x :: r) a = _
  rw [wayIn, h]; simp only [ne_eq, not_true, if_false]; rw [if_neg h2]
theorem wayW_link (L : List Ino) (last : Bool) (n : Nat) (x : List UInt8) (r : List (List UInt8)) (a k : Int) (h : stepW L a x = (k, 0)) (h2 : ¬ ((nodeAt L k).kind ≠ 3 ∨ (r = [] ∧ last = false))) :
    wayW L last (n + 1) (x :: r) a = wayW L last n (partsL (nodeAt L k).data ++ r) (if wholeL (nodeAt L k).data then 0 else a) := by
  show wayIn L last _ (x :: r) a = _
  rw [wayIn, h]; simp only [ne_eq, not_true, if_false]; rw [if_neg h2]

def longB (p : List UInt8) : Bool := decide (1024 < p.length) || (partsL p).any fun x => decide (64 < x.length)
def badW (L : List Ino) (cwd : Int) (p : List UInt8) : Int := if p = [] ∨ dirB L cwd = false then 2 else if longB p then 36 else 0
def beginW (cwd : Int) (p : List UInt8) : Int := if wholeL p then 0 else cwd
def walkW (L : List Ino) (cwd : Int) (p : List UInt8) (follow : Bool) : Int × Int :=
  if badW L cwd p ≠ 0 then (0, badW L cwd p) else
    if (wayW L (follow || endL p) 8 (partsL p) (beginW cwd p)).2 ≠ 0 then (0, (wayW L (follow || endL p) 8 (partsL p) (beginW cwd p)).2) else
      if endL p = true ∧ dirB L (wayW L (follow || endL p) 8 (partsL p) (beginW cwd p)).1 = false then (0, 20) else ((wayW L (follow || endL p) 8 (partsL p) (beginW cwd p)).1, 0)
def parentW (L : List Ino) (cwd : Int) (p : List UInt8) : Int × List UInt8 × Int :=
  if badW L cwd p ≠ 0 then (0, [], badW L cwd p) else if partsL p = [] then (0, [], 17) else
    if (wayW L true 8 (partsL p).dropLast (beginW cwd p)).2 ≠ 0 then (0, [], (wayW L true 8 (partsL p).dropLast (beginW cwd p)).2) else
      if dirB L (wayW L true 8 (partsL p).dropLast (beginW cwd p)).1 = false then (0, [], 20) else ((wayW L true 8 (partsL p).dropLast (beginW cwd p)).1, (partsL p).getLastD [], 0)

theorem count_parts (l : List UInt8) : (partsL l).length ≤ l.length + 1 := by
  have h : ∀ L : List (List UInt8), L.length ≤ total L := by
    intro L
    induction L with
    | nil => simp [total]
    | cons x r ih => simp only [List.length_cons, total]; omega
  exact Nat.le_trans (h _) (total_parts l)

/-! ### Fit trees -/

theorem live_of_dir {L : List Ino} {k : Int} (h : dirB L k = true) : liveB L k = true := by
  have h2 := node_kind_of h
  unfold dirB at h
  unfold liveB
  rw [Bool.and_eq_true] at h ⊢
  exact ⟨h.1, by rw [h2]; rfl⟩
theorem live_there {L : List Ino} {k : Int} (h : liveB L k = true) : thereB L k = true := by
  unfold liveB at h
  rw [Bool.and_eq_true] at h
  exact h.1
theorem up_dir {L : List Ino} {m b : Int} (hF : FitP L m b) {k : Int} (h : dirB L k = true) : dirB L (nodeAt L k).up = true := ups_of hF 1 k h

/-- What a name leads to is not free. -/
theorem kid_live {L : List Ino} {m b : Int} (hF : FitP L m b) {d : Int} {x : List UInt8} (h : 0 ≤ kidL L d x) : liveB L (kidL L d x) = true := by
  unfold kidL at h ⊢
  by_cases hd : dirB L d = true
  · rw [if_pos hd] at h ⊢
    obtain ⟨z, rfl, hz⟩ := dir_lt hd
    rw [node_nat L z hz] at h ⊢
    obtain ⟨e, he, hex⟩ := findK_has _ _ h
    obtain ⟨i, hi, rfl⟩ := List.getElem_of_mem he
    have hk := findK_mem (kids_rise hF.ins z hz).2 i hi
    rw [← hex, hk] at h ⊢
    have ht := (name_of hF.ins hz he).2
    obtain ⟨u, hu, hul⟩ := there_nat ht
    unfold liveB
    rw [ht, Bool.true_and]
    rw [hu, node_nat L u hul]
    cases hk0 : (L[u].kind != 0) with
    | true => rfl
    | false =>
      exfalso
      have hk0' : L[u].kind = 0 := by simpa [bne] using hk0
      have h1 := (hF.names.2 u hul).2
      rw [countL_get L (kids_pos (kids_there hF.ins)) u hul] at h1
      unfold MayHave at h1
      rw [if_pos (Or.inr hk0')] at h1
      have h2 := names_pos (mem_kidsOf.2 ⟨z, hz, he⟩)
      rw [hu] at h2
      have h3 : namesOf (kidsOf L) (u : Int) = 0 := Int.ofNat.inj h1
      omega
  · rw [if_neg hd] at h
    exact absurd h (by decide)

theorem step_ok {L : List Ino} {m b : Int} (hF : FitP L m b) {a : Int} {x : List UInt8} (h : (stepW L a x).2 = 0) : liveB L (stepW L a x).1 = true := by
  unfold stepW at h ⊢
  cases hd : dirB L a with
  | false => rw [hd, if_pos rfl] at h; cases h
  | true =>
    rw [hd, if_neg (by simp)] at h
    rw [if_neg (by simp)]
    cases hm : mayL L a 1 with
    | false => rw [hm, if_pos rfl] at h; cases h
    | true =>
      rw [hm, if_neg (by simp)] at h
      rw [if_neg (by simp)]
      by_cases h1 : x = [46]
      · rw [if_pos h1]; exact live_of_dir hd
      · rw [if_neg h1] at h ⊢
        by_cases h2 : x = [46, 46]
        · rw [if_pos h2]; exact live_of_dir (up_dir hF hd)
        · rw [if_neg h2] at h ⊢
          by_cases h3 : kidL L a x < 0
          · rw [if_pos h3] at h; cases h
          · rw [if_neg h3]
            exact kid_live hF (by omega)
theorem step_err (L : List Ino) (a : Int) (x : List UInt8) (h : (stepW L a x).2 ≠ 0) : (stepW L a x).1 = 0 := by
  unfold stepW at h ⊢
  split
  · rfl
  · split
    · rfl
    · rename_i h1 h2
      rw [if_neg h1, if_neg h2] at h
      split
      · rename_i h3; rw [if_pos h3] at h; exact absurd rfl h
      · rename_i h3
        rw [if_neg h3] at h
        split
        · rename_i h4; rw [if_pos h4] at h; exact absurd rfl h
        · rename_i h4
          rw [if_neg h4] at h
          split
          · rfl
          · rename_i h5; rw [if_neg h5] at h; exact absurd rfl h
theorem step_range (L : List Ino) (a : Int) (x : List UInt8) : 0 ≤ (stepW L a x).2 ∧ (stepW L a x).2 ≤ 20 := by
  unfold stepW
  repeat' split
  all_goals exact ⟨by simp, by simp⟩

theorem link_data {L : List Ino} (hI : AllFit L) {k : Int} (ht : thereB L k = true) : (nodeAt L k).kind = 3 → (nodeAt L k).data.length ≤ 1024 ∧ (nodeAt L k).data ≠ [] := by
  obtain ⟨u, rfl, hu⟩ := there_nat ht
  rw [node_nat L u hu]
  intro h3
  have h := (hI u hu).1
  unfold aloneB at h
  rw [if_neg (show ¬ L[u].kind = 0 by omega)] at h
  split at h
  · cases h
  · rename_i hm
    rw [if_neg (show ¬ L[u].kind = 1 by omega)] at h
    try rw [if_pos h3] at h
    simp only [Bool.and_eq_true, decide_eq_true_eq, Bool.not_eq_true'] at h
    exact ⟨h.2, by
      have := h.1.2
      intro e
      rw [e] at this
      cases this⟩
theorem mode_range {L : List Ino} (hI : AllFit L) {k : Int} (ht : thereB L k = true) : 0 ≤ (nodeAt L k).mode ∧ (nodeAt L k).mode ≤ 7 := by
  obtain ⟨u, rfl, hu⟩ := there_nat ht
  rw [node_nat L u hu]
  have h := (hI u hu).1
  unfold aloneB at h
  by_cases h0 : L[u].kind = 0
  · rw [if_pos h0] at h
    simp only [Bool.and_eq_true, decide_eq_true_eq] at h
    have := h.1.1.1.1
    omega
  · rw [if_neg h0] at h
    split at h
    · cases h
    · omega

/-- What a way's names hold of a tree's inodes: where it ends is not free. -/
theorem way_in {L : List Ino} {m b : Int} (hF : FitP L m b) (last : Bool) (f : List (List UInt8) → Int → Int × Int) (hf : ∀ N a, liveB L a = true → (f N a).2 = 0 → liveB L (f N a).1 = true ∧ (last = true → (N = [] → (nodeAt L a).kind ≠ 3) → (nodeAt L (f N a).1).kind ≠ 3)) :
    ∀ (N : List (List UInt8)) (a : Int), liveB L a = true → (wayIn L last f N a).2 = 0 → liveB L (wayIn L last f N a).1 = true ∧ (last = true → (N = [] → (nodeAt L a).kind ≠ 3) → (nodeAt L (wayIn L last f N a).1).kind ≠ 3)
  | [], a, ha, _ => ⟨ha, fun _ h => h rfl⟩
  | x :: r, a, ha, h => by
    unfold wayIn at h ⊢
    by_cases h1 : (stepW L a x).2 ≠ 0
    · rw [if_pos h1] at h; exact absurd h h1
    · rw [if_neg h1] at h ⊢
      have hk := step_ok hF (by simpa using h1)
      by_cases h2 : (nodeAt L (stepW L a x).1).kind ≠ 3 ∨ (r = [] ∧ last = false)
      · rw [if_pos h2] at h ⊢
        obtain ⟨i1, i2⟩ := way_in hF last f hf r _ hk h
        refine ⟨i1, fun hl _ => i2 hl fun hr => ?_⟩
        rcases h2 with h2 | ⟨_, h2⟩
        · exact h2
        · rw [hl] at h2; cases h2
      · rw [if_neg h2] at h ⊢
        have hd : dirB L a = true := by
          cases hd : dirB L a with
          | true => rfl
          | false =>
            exfalso
            apply h1
            unfold stepW
            rw [hd, if_pos rfl]
            decide
        have hb : liveB L (if wholeL (nodeAt L (stepW L a x).1).data then 0 else a) = true := by
          split
          · exact live_of_dir hF.root
          · exact ha
        obtain ⟨i1, i2⟩ := hf _ _ hb h
        refine ⟨i1, fun hl _ => i2 hl fun _ => ?_⟩
        split
        · rw [node_kind_of hF.root]; decide
        · rw [node_kind_of hd]; decide
theorem way_ends {L : List Ino} {m b : Int} (hF : FitP L m b) (last : Bool) : ∀ (n : Nat) (N : List (List UInt8)) (a : Int), liveB L a = true → (wayW L last n N a).2 = 0 → liveB L (wayW L last n N a).1 = true ∧ (last = true → (N = [] → (nodeAt L a).kind ≠ 3) → (nodeAt L (wayW L last n N a).1).kind ≠ 3)
  | 0, N, a, ha, h => way_in hF last _ (fun _ _ _ h => absurd h (by decide)) N a ha h
  | n + 1, N, a, ha, h => way_in hF last _ (fun N' a' h1 h2 => way_ends hF last n N' a' h1 h2) N a ha h

theorem way_err0 (L : List Ino) (last : Bool) (f : List (List UInt8) → Int → Int × Int) (hf : ∀ N a, (f N a).2 ≠ 0 → (f N a).1 = 0) : ∀ (N : List (List UInt8)) (a : Int), (wayIn L last f N a).2 ≠ 0 → (wayIn L last f N a).1 = 0
  | [], a, h => absurd rfl h
  | x :: r, a, h => by
    unfold wayIn at h ⊢
    split
    · rfl
    · rename_i h1
      rw [if_neg h1] at h
      split
      · rename_i h2; rw [if_pos h2] at h; exact way_err0 L last f hf r _ h
      · rename_i h2; rw [if_neg h2] at h; exact hf _ _ h

theorem begin_live {L : List Ino} {m b : Int} (hF : FitP L m b) {cwd : Int} {p : List UInt8} (h : badW L cwd p = 0) : dirB L (beginW cwd p) = true := by
  unfold badW at h
  split at h
  · cases h
  · rename_i h1
    unfold beginW
    split
    · exact hF.root
    · cases hd : dirB L cwd with
      | true => rfl
      | false => exact absurd (Or.inr hd) h1

/-- P4.5. -/
theorem walk_ends {L : List Ino} {m b : Int} (hF : FitP L m b) (cwd : Int) (p : List UInt8) : ((walkW L cwd p true).2 ≠ 0 → (walkW L cwd p true).1 = 0) ∧ ((walkW L cwd p true).2 = 0 → liveB L (walkW L cwd p true).1 = true ∧ (nodeAt L (walkW L cwd p true).1).kind ≠ 3) := by
  unfold walkW
  by_cases h1 : badW L cwd p ≠ 0
  · rw [if_pos h1]
    exact ⟨fun _ => rfl, fun h => absurd h h1⟩
  · rw [if_neg h1]
    have hb := begin_live hF (by simpa using h1)
    split
    · rename_i h2
      exact ⟨fun _ => rfl, fun h => absurd h h2⟩
    · rename_i h2
      obtain ⟨i1, i2⟩ := way_ends hF (true || endL p) 8 (partsL p) (beginW cwd p) (live_of_dir hb) (by simpa using h2)
      split
      · exact ⟨fun _ => rfl, fun h => absurd h (by decide)⟩
      · exact ⟨fun h => absurd rfl h, fun _ => ⟨i1, i2 (by simp) (fun _ => by rw [node_kind_of hb]; decide)⟩⟩
end Go.Proofs.YtclhpedecimicaaGreat

namespace Go.Proofs.YtclhpedecimicaaGreat
set_option maxRecDepth 100000
open Go Go.RowKit

theorem live_nat {L : List Ino} {n : Nat} (hn : n < L.length) : liveB L (n : Int) = (L[n].kind != 0) := by
  unfold liveB
  rw [there_of L n hn, node_nat L n hn, Bool.true_and]

set_option maxHeartbeats 1000000 in
theorem there4_known (a : Option Addr) (cap : Nat) (m b k : Int) (L : List Ino) (v : Bool) (hv : liveB L k = v) (w : World) (hN : NodesIn w a cap L) :
    Calls Tryz.prog 28 #[.agg #[.slice a L.length cap, .int .i64 m, .int .i64 b], .int .i64 k] w fun e w' => e = .returned (.bool v) ∧ Below w.heap.size w w' := by
  subst hv
  have hb1 := below_box w (.cells #[.slice a L.length cap, .int .i64 m, .int .i64 b] 24)
  have HB1 := Lib.hid hb1
  have hcap := hN.1
  have hmax := hN.2.1
  unfold maxLen at hmax
  cases ht : thereB L k with
  | true =>
    obtain ⟨n, rfl, hn⟩ := there_nat ht
    obtain ⟨bb, o, rfl, hx⟩ := (hN.below hb1).2.2 n hn
    have h1 := hx.kind
    have hd0 : (0 : Int) ≤ (n : Int) := by omega
    have hd1 : (n : Int) < (L.length : Int) := by omega
    have HV := Lib.hid (live_nat (L := L) hn)
    clear hN hb1 ht hx
    cases hk : (L[n].kind != 0)
    all_goals
      have HK := Lib.hid hk
      go_enter Tryz.func28, Tryz.ntmps28
      go_wp2_with fail
      go_ret
      exact ⟨by rw [HV.out, HK.out]; rfl, HB1.out⟩
  | false =>
    have hv : liveB L k = false := by unfold liveB; rw [ht]; rfl
    have HV := Lib.hid hv
    rcases there_not ht with h | h
    · clear hN hb1 ht hv
      go_enter Tryz.func28, Tryz.ntmps28
      go_wp2_with fail
      go_ret
      exact ⟨by rw [HV.out]; rfl, HB1.out⟩
    · have h0 : (0 : Int) ≤ k := by omega
      have h1 : ¬ k < (L.length : Int) := by omega
      have h2 : decide (k < (L.length : Int)) = false := decide_eq_false h1
      clear hN hb1 ht hv
      go_enter Tryz.func28, Tryz.ntmps28
      go_wp2_with fail
      go_ret
      exact ⟨by rw [HV.out]; rfl, HB1.out⟩

theorem dir_live (L : List Ino) (k : Int) : dirB L k = (liveB L k && (nodeAt L k).kind == 2) := by
  unfold dirB liveB
  cases thereB L k with
  | false => rfl
  | true =>
    rw [Bool.true_and, Bool.true_and]
    by_cases h : (nodeAt L k).kind = 2
    · rw [h]; rfl
    · have : ((nodeAt L k).kind == 2) = false := by simpa using h
      rw [this, Bool.and_false]

set_option maxHeartbeats 1000000 in
theorem dir4_known (a : Option Addr) (cap : Nat) (m b k : Int) (L : List Ino) (v : Bool) (hv : dirB L k = v) (w : World) (hN : NodesIn w a cap L) :
    Calls Tryz.prog 61 #[.agg #[.slice a L.length cap, .int .i64 m, .int .i64 b], .int .i64 k] w fun e w' => e = .returned (.bool v) ∧ Below w.heap.size w w' := by
  subst hv
  have hb1 := below_box w (.cells #[.slice a L.length cap, .int .i64 m, .int .i64 b] 24)
  have HB1 := Lib.hid hb1
  have hcap := hN.1
  have hmax := hN.2.1
  unfold maxLen at hmax
  have HM := Lib.hid (hN.below hb1)
  have HD := Lib.hid (dir_live L k)
  cases hl : liveB L k with
  | false =>
    have HL := Lib.hid hl
    have HV := Lib.hid (show dirB L k = false by rw [HD.out, hl]; rfl)
    clear hN hb1 hl
    go_enter Tryz.func61, Tryz.ntmps61
    go_wp2_with (first | (go_at_call 28; refine (there4_known _ _ _ _ _ L _ HL.out _ HM.out).mono ?_; rintro e w2 ⟨rfl, hb2⟩) | fail)
    go_ret
    exact ⟨by rw [HV.out]; rfl, HB1.out.trans (hb2.mono (by simp))⟩
  | true =>
    obtain ⟨n, rfl, hn⟩ := there_nat (live_there hl)
    have HL := Lib.hid hl
    obtain ⟨bb, o, rfl, hx⟩ := HM.out.2.2 n hn
    have h1 := hx.kind
    have hd0 : (0 : Int) ≤ (n : Int) := by omega
    have hd1 : (n : Int) < (L.length : Int) := by omega
    have HV := Lib.hid (show dirB L (n : Int) = (L[n].kind == 2) by rw [HD.out, hl, Bool.true_and, node_nat L n hn])
    clear hN hb1 hl hx
    cases hk : (L[n].kind == 2)
    all_goals
      have HK := Lib.hid hk
      go_enter Tryz.func61, Tryz.ntmps61
      go_wp2_with (first | (go_at_call 28; refine (there4_known _ _ _ _ _ L _ HL.out _ HM.out).mono ?_; rintro e w2 ⟨rfl, hb2⟩; obtain ⟨q0, q1, q2⟩ := box3 hb2; have h2 := cell_below hb2 h1) | fail)
      go_ret
      exact ⟨by rw [HV.out, HK.out]; rfl, HB1.out.trans (hb2.mono (by simp))⟩

/-- The reference's May, where what is asked for is out of its range. -/
theorem may4_out (a : Option Addr) (cap : Nat) (m b k what : Int) (L : List Ino) (h : what < 0 ∨ 7 < what) (w : World) :
    Calls Tryz.prog 13 #[.agg #[.slice a L.length cap, .int .i64 m, .int .i64 b], .int .i64 k, .int .i64 what] w fun e w' => e = .returned (.bool false) ∧ Below w.heap.size w w' := by
  have HB1 := Lib.hid (below_box w (.cells #[.slice a L.length cap, .int .i64 m, .int .i64 b] 24))
  rcases h with h | h
  · go_enter Tryz.func13, Tryz.ntmps13
    go_wp2_with fail
    go_ret
    exact ⟨rfl, HB1.out⟩
  · have h0 : ¬ what < 0 := by omega
    go_enter Tryz.func13, Tryz.ntmps13
    go_wp2_with fail
    go_ret
    exact ⟨rfl, HB1.out⟩

set_option maxHeartbeats 2000000 in
theorem may4_known (a : Option Addr) (cap : Nat) (m b k what : Int) (L : List Ino) (hw1 : 0 ≤ what) (hw2 : what ≤ 7) (hI : AllFit L) (w : World) (hN : NodesIn w a cap L) :
    Calls Tryz.prog 13 #[.agg #[.slice a L.length cap, .int .i64 m, .int .i64 b], .int .i64 k, .int .i64 what] w fun e w' => e = .returned (.bool (mayL L k what)) ∧ Below w.heap.size w w' := by
  have hb1 := below_box w (.cells #[.slice a L.length cap, .int .i64 m, .int .i64 b] 24)
  have HB1 := Lib.hid hb1
  have hcap := hN.1
  have hmax := hN.2.1
  unfold maxLen at hmax
  have HM := Lib.hid (hN.below hb1)
  cases hl : liveB L k with
  | false =>
    have HL := Lib.hid hl
    have HV := Lib.hid (show mayL L k what = false by unfold mayL; rw [hl]; simp)
    clear hN hb1 hl
    go_enter Tryz.func13, Tryz.ntmps13
    go_wp2_with (first | (go_at_call 28; refine (there4_known _ _ _ _ _ L _ HL.out _ HM.out).mono ?_; rintro e w2 ⟨rfl, hb2⟩) | fail)
    go_ret
    exact ⟨by rw [HV.out]; rfl, HB1.out.trans (hb2.mono (by simp))⟩
  | true =>
    obtain ⟨n, rfl, hn⟩ := there_nat (live_there hl)
    have HL := Lib.hid hl
    obtain ⟨bb, o, rfl, hx⟩ := HM.out.2.2 n hn
    have h1 := hx.mode
    have hd0 : (0 : Int) ≤ (n : Int) := by omega
    have hd1 : (n : Int) < (L.length : Int) := by omega
    have HV := Lib.hid (show mayL L (n : Int) what = bitsB L[n].mode what by unfold mayL; rw [hl, node_nat L n hn, decide_eq_true hw1, decide_eq_true hw2]; rfl)
    have hmr := mode_range hI (there_of L n hn)
    rw [node_nat L n hn] at hmr
    obtain ⟨q, hq⟩ : ∃ q, q = L[n].mode := ⟨_, rfl⟩
    rw [← hq] at h1 HV hmr
    obtain ⟨hq1, hq2⟩ := hmr
    rw [HV.out]
    have HB2 := Lib.hid (show ∀ w2, Below (w.alloc (.cells #[.slice (some ⟨bb, o, none⟩) L.length cap, .int .i64 m, .int .i64 b] 24)).heap.size (w.alloc (.cells #[.slice (some ⟨bb, o, none⟩) L.length cap, .int .i64 m, .int .i64 b] 24)) w2 → Below w.heap.size w w2 from fun w2 h => HB1.out.trans (h.mono (by simp)))
    clear hN hb1 hl hx hq hI
    go_enter Tryz.func13, Tryz.ntmps13
    go_wp2_with (first | (go_at_call 28; refine (there4_known _ _ _ _ _ L _ HL.out _ HM.out).mono ?_; rintro e w2 ⟨rfl, hb2⟩; obtain ⟨q0, q1, q2⟩ := box3 hb2; have h2 := cell_below hb2 h1) | fail)
    all_goals
      go_ret
      refine ⟨?_, HB2.out _ hb2⟩
      show Ending.returned (Value.bool _) = Ending.returned (Value.bool _)
      congr 2
      unfold bitsB
      simp [*]
end Go.Proofs.YtclhpedecimicaaGreat

namespace Go.Proofs.YtclhpedecimicaaGreat
set_option maxRecDepth 100000
open Go Go.RowKit

theorem may4_at (a : Option Addr) (cap : Nat) (m b k what : Int) (L : List Ino) (hI : AllFit L) (v : Bool) (hv : mayL L k what = v) (w : World) (hN : NodesIn w a cap L) :
    Calls Tryz.prog 13 #[.agg #[.slice a L.length cap, .int .i64 m, .int .i64 b], .int .i64 k, .int .i64 what] w fun e w' => e = .returned (.bool v) ∧ Below w.heap.size w w' := by
  subst hv
  by_cases h : 0 ≤ what ∧ what ≤ 7
  · exact may4_known a cap m b k what L h.1 h.2 hI w hN
  · have e : mayL L k what = false := by
      unfold mayL
      by_cases h1 : 0 ≤ what
      · rw [decide_eq_false (show ¬ what ≤ 7 from fun h2 => h ⟨h1, h2⟩)]
        simp
      · rw [decide_eq_false h1]
        rfl
    rw [e]
    exact may4_out a cap m b k what L (by omega) w
theorem rkid_known (a : Option Addr) (cap : Nat) (m b d : Int) (nm : List UInt8) (L : List Ino) (z : Int) (hz : kidL L d nm = z) (w : World) (hN : NodesIn w a cap L) :
    Calls Tryz.prog 104 #[.agg #[.slice a L.length cap, .int .i64 m, .int .i64 b], .int .i64 d, .string ⟨nm.toArray⟩] w fun e w' => e = .returned (.int .i64 z) ∧ Below w.heap.size w w' := by
  subst hz
  exact rkid_any a cap m b d nm L w hN

theorem str_dot (x : List UInt8) : (((⟨x.toArray⟩ : ByteArray)).toList == [46]) = (x == [46]) := by rw [ByteArray.toList_eq]
set_option maxRecDepth 100000 in
set_option maxHeartbeats 4000000 in
theorem step4_any (a : Option Addr) (cap : Nat) (m b p : Int) (x : List UInt8) (L : List Ino) (hI : AllFit L) (w : World) (hN : NodesIn w a cap L) :
    Calls Tryz.prog 83 #[.agg #[.slice a L.length cap, .int .i64 m, .int .i64 b], .int .i64 p, .string ⟨x.toArray⟩] w fun e w' => e = .returned (.tuple #[.int .i64 (stepW L p x).1, .int .i64 (stepW L p x).2]) ∧ Below w.heap.size w w' := by
  obtain ⟨w1, hw1⟩ : ∃ w1, w1 = w.alloc (.cells #[.slice a L.length cap, .int .i64 m, .int .i64 b] 24) := ⟨_, rfl⟩
  have hb1 := below_box w (.cells #[.slice a L.length cap, .int .i64 m, .int .i64 b] 24)
  have hM := hN.below hb1
  have hsz : w1.heap.size = w.heap.size + 1 := by rw [hw1]; simp
  have hbox : ∀ W', Below w1.heap.size w1 W' → W'.cell? ⟨w.heap.size, 0, none⟩ = some (.slice a L.length cap) ∧ W'.cell? ⟨w.heap.size, 1, none⟩ = some (.int .i64 m) ∧ W'.cell? ⟨w.heap.size, 2, none⟩ = some (.int .i64 b) := fun W' h => box3 (by rw [← hw1]; exact h)
  rw [← hw1] at hM hb1
  have HM := Lib.hid hM
  have HB := Lib.hid hb1
  have HX := Lib.hid hbox
  have HEND := Lib.hid (show ∀ W', Below w1.heap.size w1 W' → Below w.heap.size w W' from fun W' h => HB.out.trans (h.mono (by rw [hsz]; omega)))
  have hcap := hN.1
  have hmax := hN.2.1
  unfold maxLen at hmax
  have HI := Lib.hid hI
  obtain ⟨F, hF⟩ : ∃ F, F = stepW L p x := ⟨_, rfl⟩
  rw [← hF]
  have HF := Lib.hid hF
  clear hM hN hb1 hbox hsz hI hF
  cases hd : dirB L p with
  | false =>
    have HD := Lib.hid hd
    have HV := Lib.hid (show F = (0, 20) by rw [HF.out]; unfold stepW; rw [hd, if_pos rfl])
    clear hd
    go_enter Tryz.func83, Tryz.ntmps83
    go_wp2_with fail
    rw [← hw1]
    refine (dir4_known _ _ _ _ _ L _ HD.out _ HM.out).mono ?_
    rintro e w2 ⟨rfl, hb2⟩
    go_wp2_with fail
    go_ret2
    exact ⟨by rw [HV.out]; rfl, HEND.out _ hb2⟩
  | true =>
    obtain ⟨n, rfl, hn⟩ := dir_lt hd
    obtain ⟨bb, o, rfl, hx⟩ := HM.out.2.2 n hn
    have h5' := hx.up
    have HD := Lib.hid hd
    have hd0 : (0 : Int) ≤ (n : Int) := by omega
    have hd1 : (n : Int) < (L.length : Int) := by omega
    clear hx hd
    cases hm : mayL L (n : Int) 1 with
    | false =>
      have HMY := Lib.hid hm
      have HV := Lib.hid (show F = (0, 13) by rw [HF.out]; unfold stepW; rw [HD.out, hm, if_neg (by simp), if_pos rfl])
      clear hm
      go_enter Tryz.func83, Tryz.ntmps83
      go_wp2_with fail
      rw [← hw1]
      refine (dir4_known _ _ _ _ _ L _ HD.out _ HM.out).mono ?_
      rintro e w2 ⟨rfl, hb2⟩
      have HB2 := Lib.hid hb2
      obtain ⟨q0, q1, q2⟩ := HX.out _ hb2
      clear hb2 h5'
      go_wp2_with fail
      refine (may4_at _ _ _ _ _ _ L HI.out _ HMY.out _ (HM.out.below HB2.out)).mono ?_
      rintro e w3 ⟨rfl, hb3⟩
      have HB3 := Lib.hid (HB2.out.trans (hb3.mono HB2.out.size))
      clear hb3 q0 q1 q2
      go_wp2_with fail
      go_ret2
      exact ⟨by rw [HV.out]; rfl, HEND.out _ HB3.out⟩
    | true =>
      have HMY := Lib.hid hm
      have HV := Lib.hid (show F = if x = [46] then ((n : Int), 0) else if x = [46, 46] then ((nodeAt L (n : Int)).up, 0) else if kidL L (n : Int) x < 0 then (0, 2) else (kidL L (n : Int) x, 0) by rw [HF.out]; unfold stepW; rw [HD.out, hm, if_neg (by simp), if_neg (by simp)])
      clear hm
      go_enter Tryz.func83, Tryz.ntmps83
      go_wp2_with fail
      rw [← hw1]
      refine (dir4_known _ _ _ _ _ L _ HD.out _ HM.out).mono ?_
      rintro e w2 ⟨rfl, hb2⟩
      have HB2 := Lib.hid hb2
      obtain ⟨q0, q1, q2⟩ := HX.out _ hb2
      have h5'' := cell_below hb2 h5'
      clear hb2 h5' hw1
      go_wp2_with fail
      refine (may4_at _ _ _ _ _ _ L HI.out _ HMY.out _ (HM.out.below HB2.out)).mono ?_
      rintro e w3 ⟨rfl, hb3⟩
      have HB3 := Lib.hid (HB2.out.trans (hb3.mono HB2.out.size))
      have h5 := cell_below hb3 h5''
      clear hb3 q0 q1 q2 h5''
      obtain ⟨q0, q1, q2⟩ := HX.out _ HB3.out
      cases hx1 : (x == [46]) with
      | true =>
        have HW := Lib.hid (show F = ((n : Int), 0) by rw [HV.out, if_pos (by simpa using hx1)])
        go_wp2_with fail
        go_ret2
        exact ⟨by rw [HW.out]; rfl, HEND.out _ HB3.out⟩
      | false =>
        have hne1 : ¬ x = [46] := by simpa using hx1
        cases hx2 : (x == [46, 46]) with
        | true =>
          have HW := Lib.hid (show F = (L[n].up, 0) by rw [HV.out, if_neg hne1, if_pos (by simpa using hx2), node_nat L n hn])
          clear hne1
          go_wp2_with fail
          go_ret2
          exact ⟨by rw [HW.out]; rfl, HEND.out _ HB3.out⟩
        | false =>
          have hne2 : ¬ x = [46, 46] := by simpa using hx2
          obtain ⟨z, hz⟩ : ∃ z, kidL L (n : Int) x = z := ⟨_, rfl⟩
          have HZ := Lib.hid hz
          have HW := Lib.hid (show F = if z < 0 then (0, 2) else (z, 0) by rw [HV.out, if_neg hne1, if_neg hne2, hz])
          clear hne1 hne2 hz
          go_wp2_with fail
          refine (rkid_known _ _ _ _ _ _ L z HZ.out _ (HM.out.below HB3.out)).mono ?_
          rintro e w4 ⟨rfl, hb4⟩
          have HB4 := Lib.hid (HB3.out.trans (hb4.mono HB3.out.size))
          clear hb4 q0 q1 q2 h5
          by_cases hz0 : z < 0
          · have HW2 := Lib.hid (show F = (0, 2) by rw [HW.out, if_pos hz0])
            go_wp2_with fail
            go_ret2
            exact ⟨by rw [HW2.out]; rfl, HEND.out _ HB4.out⟩
          · have HW2 := Lib.hid (show F = (z, 0) by rw [HW.out, if_neg hz0])
            have hz1 : 0 ≤ z := by omega
            clear hz0
            go_wp2_with fail
            go_ret2
            exact ⟨by rw [HW2.out]; rfl, HEND.out _ HB4.out⟩

set_option maxHeartbeats 1000000 in
theorem begin4_any (cwd : Int) (p : List UInt8) (w : World) :
    Calls Tryz.prog 59 #[.int .i64 cwd, .string ⟨p.toArray⟩] w fun e w' => e = .returned (.int .i64 (beginW cwd p)) ∧ w = w' := by
  cases h : wholeL p
  all_goals
    have HV := Lib.hid h
    have hw := rwhole_any ⟨p.toArray⟩ w
    have e1 : (⟨p.toArray⟩ : ByteArray).data.toList = p := rfl
    rw [e1, h] at hw
    have HW := Lib.hid hw
    clear hw h e1
    go_enter Tryz.func59, Tryz.ntmps59
    go_wp2_with (first | (go_at_call 84; refine HW.out.mono ?_; rintro e w' ⟨rfl, rfl⟩) | fail)
    go_ret
    exact ⟨by unfold beginW; rw [HV.out]; rfl, rfl⟩
end Go.Proofs.YtclhpedecimicaaGreat

namespace Go.Proofs.YtclhpedecimicaaGreat
set_option maxRecDepth 100000
open Go Go.RowKit

def sliceLen : Value → Nat
  | .slice _ n _ => n
  | _ => 0

def WRel (L : List Ino) (last : Bool) (R : Int × Int) (w1 : World) (pv nv lv : Value) (wr : World) : Prop :=
  ∃ (n k : Nat) (N : List (List UInt8)) (p : Int), k + n = 8 ∧ pv = .int .i64 p ∧ lv = .int .i64 k ∧ N.length ≤ 5000 + k * 2000 ∧ Hid (View wr nv N) ∧ Hid (R = wayW L last n N p) ∧ Below w1.heap.size w1 wr

theorem wrel_view {wr : World} {nv : Value} {x : List UInt8} {r : List (List UInt8)} (h : View wr nv (x :: r)) : ∃ b o cap, nv = .slice (some ⟨b, o, none⟩) (r.length + 1) cap ∧ r.length + 1 ≤ cap ∧ cap ≤ maxLen ∧ wr.cell? ⟨b, o, none⟩ = some (.string ⟨x.toArray⟩) := by
  obtain ⟨a, cap, rfl, h1, h2, h3⟩ := h
  obtain ⟨b, o, e, hc⟩ := h3 0 (by simp)
  subst e
  exact ⟨b, o, cap, rfl, h1, h2, hc⟩

set_option maxRecDepth 100000 in
set_option maxHeartbeats 8000000 in
theorem way4_any (a : Option Addr) (cap : Nat) (m b p0 : Int) (last : Bool) (N0 : List (List UInt8)) (hN0 : N0.length ≤ 5000) (v0 : Value) (L : List Ino) (hF : FitP L m b) (w : World) (hN : NodesIn w a cap L) (hV : View w v0 N0) :
    Calls Tryz.prog 58 #[.agg #[.slice a L.length cap, .int .i64 m, .int .i64 b], .int .i64 p0, v0, .bool last] w fun e w' => e = .returned (.tuple #[.int .i64 (wayW L last 8 N0 p0).1, .int .i64 (wayW L last 8 N0 p0).2]) ∧ Below w.heap.size w w' := by
  obtain ⟨w1, hw1⟩ : ∃ w1, w1 = w.alloc (.cells #[.slice a L.length cap, .int .i64 m, .int .i64 b] 24) := ⟨_, rfl⟩
  have hb1 := below_box w (.cells #[.slice a L.length cap, .int .i64 m, .int .i64 b] 24)
  have hM := hN.below hb1
  have hVM := hV.below hb1
  have hsz : w1.heap.size = w.heap.size + 1 := by rw [hw1]; simp
  have hbox : ∀ W', Below w1.heap.size w1 W' → W'.cell? ⟨w.heap.size, 0, none⟩ = some (.slice a L.length cap) ∧ W'.cell? ⟨w.heap.size, 1, none⟩ = some (.int .i64 m) ∧ W'.cell? ⟨w.heap.size, 2, none⟩ = some (.int .i64 b) := fun W' h => box3 (by rw [← hw1]; exact h)
  rw [← hw1] at hM hb1 hVM
  have HM := Lib.hid hM
  have HB := Lib.hid hb1
  have HX := Lib.hid hbox
  have HEND := Lib.hid (show ∀ W', Below w1.heap.size w1 W' → Below w.heap.size w W' from fun W' h => HB.out.trans (h.mono (by rw [hsz]; omega)))
  have hcap := hN.1
  have hmax := hN.2.1
  unfold maxLen at hmax
  have HF := Lib.hid hF
  have HVM := Lib.hid hVM
  have hgw : w.heap.size < w1.heap.size := by omega
  obtain ⟨R, hR⟩ : ∃ R, R = wayW L last 8 N0 p0 := ⟨_, rfl⟩
  rw [← hR]
  have HR := Lib.hid hR
  clear hM hN hV hVM hb1 hbox hsz hF hR
  go_enter Tryz.func58, Tryz.ntmps58
  go_wp2_with fail
  rw [← hw1]
  clear hw1
  go_loopw [1, 2, 10, 11, 12, 13, 14] (fun pv nv lv _ _ _ _ wr => WRel L last R w1 pv nv lv wr) (fun _ nv lv _ _ _ _ _ => (8 - (intOf lv).toNat) * 30000 + sliceLen nv)
  case atStart => exact ⟨8, 0, N0, p0, rfl, rfl, rfl, by omega, HVM, HR, Below.refl _ _⟩
  case round =>
    obtain ⟨n, k, N, p, hkn, rfl, rfl, hNl, hview, hgoal, hbr⟩ := hrel
    have HVW := Lib.hid hview.out
    have HG := Lib.hid hgoal.out
    have HBR := Lib.hid hbr
    have hszr := hbr.size
    obtain ⟨q0, q1, q2⟩ := HX.out _ hbr
    clear hview hgoal hbr
    cases N with
    | nil =>
      obtain ⟨na, ncap, rfl, -, -, -⟩ := HVW.out
      have HW := Lib.hid (show R = (p, 0) by rw [HG.out, wayW_nil])
      clear q0 q1 q2
      go_wp2_with fail
      go_ret2
      exact ⟨by rw [HW.out]; rfl, HEND.out _ HBR.out⟩
    | cons x r =>
      obtain ⟨nb, no, ncap, rfl, hc1, hc2, hx0⟩ := wrel_view HVW.out
      unfold maxLen at hc2
      simp only [List.length_cons] at hNl
      obtain ⟨z, hz⟩ : ∃ z, z = (stepW L p x).1 := ⟨_, rfl⟩
      obtain ⟨er, her⟩ : ∃ er, er = (stepW L p x).2 := ⟨_, rfl⟩
      have HST := Lib.hid (show stepW L p x = (z, er) by rw [hz, her])
      have H1 := Lib.hid (grown_call (wb := wr) (fun W hW => by
        have h := step4_any a cap m b p x L HF.out.ins W (HM.out.below (HBR.out.trans (hW.mono hszr)))
        rw [HST.out] at h
        exact h))
      have f0 := grown_cell q0
      have f1 := grown_cell q1
      have f2 := grown_cell q2
      have f3 := grown_cell hx0
      have hi1 : (1 : Int) ≤ ((r.length : Int) + 1) := by omega
      have hi2 : ((r.length : Int) + 1) ≤ (ncap : Int) := by omega
      have hi3 : (0 : Int) < ((r.length : Int) + 1) := by omega
      have hpos : (0 : Int) < ((r.length + 1 : Nat) : Int) := by omega
      clear hz her q0 q1 q2 hx0
      go_wp2_with fail
      refine wp_region_grown (by kernel_rfl) (by kernel_rfl) ?_
      repeat (first | go_big_quiet_skip | (go_big_quiet_want; go_big_quiet_op; (first | go_big_quiet_on | (refine ⟨_, H1.out, ?_⟩; go_big_quiet_on))))
      refine wpQuiet_nil ?_
      intro w8 hw8
      have hbg : Below wr.heap.size wr w8 := by obtain ⟨x, rfl⟩ := hw8; exact x.below
      have HB8 := Lib.hid (HBR.out.trans (hbg.mono hszr))
      have HV8 := Lib.hid (HVW.out.below hbg)
      obtain ⟨q0, q1, q2⟩ := HX.out _ HB8.out
      have hs8 := HB8.out.size
      clear hw8 hbg f0 f1 f2 f3 H1
      cases he : (er != 0) with
      | true =>
        have HW := Lib.hid (show R = (0, er) by rw [HG.out, wayW_err _ _ _ _ _ _ (by rw [HST.out]; simpa using he), HST.out])
        go_wp2_with fail
        go_ret2
        exact ⟨by rw [HW.out]; rfl, HEND.out _ HB8.out⟩
      | false =>
        have he0 : er = 0 := by simpa using he
        subst he0
        have hlive := step_ok HF.out (show (stepW L p x).2 = 0 by rw [HST.out])
        rw [HST.out] at hlive
        obtain ⟨u, hu, hul⟩ := there_nat (live_there hlive)
        have hzu : z = (u : Int) := hu
        subst hzu
        obtain ⟨bb, o, rfl, hx⟩ := (HM.out.below HB8.out).2.2 u hul
        have x0 := hx.kind
        have x3 := hx.data
        have hd0 : (0 : Int) ≤ (u : Int) := by omega
        have hd1 : (u : Int) < (L.length : Int) := by omega
        obtain ⟨ta, hta⟩ : ∃ ta, (if ncap = 1 then (some ⟨nb, no, none⟩ : Option Addr) else some ⟨nb, no + 1, none⟩) = ta := ⟨_, rfl⟩
        have htl := HV8.out.tail
        rw [hta] at htl
        have HTL := Lib.hid htl
        have HND := Lib.hid (node_nat L u hul)
        clear hx hlive hu he htl
        cases hk3 : (L[u].kind != 3) with
        | true =>
          have HGO := Lib.hid (show R = wayW L last n r (u : Int) by rw [HG.out, wayW_on _ _ _ _ _ _ _ HST.out (Or.inl (by rw [HND.out]; simpa using hk3))])
          clear x3
          go_wp2_with fail
          go_roundw
          case rel => exact ⟨n, k, r, (u : Int), hkn, rfl, rfl, by omega, HTL, HGO, HB8.out⟩
          case measure => simp [intOf, sliceLen] <;> omega
        | false =>
          have hk3' : L[u].kind = 3 := by simpa using hk3
          by_cases hlast : r = [] ∧ last = false
          · obtain ⟨rfl, rfl⟩ := hlast
            have HGO := Lib.hid (show R = wayW L false n [] (u : Int) by rw [HG.out, wayW_on _ _ _ _ _ _ _ HST.out (Or.inr ⟨rfl, rfl⟩)])
            clear x3
            go_wp2_with fail
            go_roundw
            case rel => exact ⟨n, k, [], (u : Int), hkn, rfl, rfl, by simp, HTL, HGO, HB8.out⟩
            case measure => simp [intOf, sliceLen] <;> omega
          · have HNL := Lib.hid (show ¬ ((nodeAt L (u : Int)).kind ≠ 3 ∨ (r = [] ∧ last = false)) from fun h => by
              rcases h with h | h
              · exact h (by rw [HND.out]; exact hk3')
              · exact hlast h)
            obtain ⟨hd1024, -⟩ := link_data HF.out.ins (there_of L u hul) (by rw [HND.out]; exact hk3')
            rw [HND.out] at hd1024
            obtain ⟨d, hde⟩ : ∃ d, d = L[u].data := ⟨_, rfl⟩
            rw [← hde] at x3 hd1024
            have HDE := Lib.hid (show (nodeAt L (u : Int)).data = d by rw [HND.out, hde])
            have HTLV := Lib.hid HTL.out
            cases n with
            | zero =>
              obtain rfl : k = 8 := by omega
              have HW := Lib.hid (show R = (0, 40) by rw [HG.out, wayW_loop _ _ _ _ _ _ HST.out HNL.out])
              clear hde x3
              by_cases hr0 : r = []
              · subst hr0
                obtain rfl : last = true := by
                  cases last with
                  | true => rfl
                  | false => exact absurd ⟨rfl, rfl⟩ hlast
                go_wp2_with fail
                go_ret2
                exact ⟨by rw [HW.out]; rfl, HEND.out _ HB8.out⟩
              · have hrl : ((r.length : Int) == 0) = false := by
                  rw [beq_eq_false_iff_ne]
                  exact fun e => hr0 (List.length_eq_zero_iff.1 (by omega))
                clear hr0
                go_wp2_with fail
                go_ret2
                exact ⟨by rw [HW.out]; rfl, HEND.out _ HB8.out⟩
            | succ n =>
              have hk8 : (k : Int) < 8 := by omega
              have HP := Lib.hid (show (partsL d).length ≤ 1025 by have := count_parts d; omega)
              have HGO := Lib.hid (show R = wayW L last n (partsL d ++ r) (if wholeL d then 0 else p) by rw [HG.out, wayW_link _ _ _ _ _ _ _ HST.out HNL.out, HDE.out])
              have hwh := rwhole_any ⟨d.toArray⟩
              have e1 : (⟨d.toArray⟩ : ByteArray).data.toList = d := rfl
              rw [e1] at hwh
              have HWH := Lib.hid hwh
              have hpa := rparts_any ⟨d.toArray⟩ (by show d.toArray.size ≤ _; simp; omega)
              rw [e1] at hpa
              have HPA := Lib.hid hpa
              have HRL := Lib.hid (show r.length ≤ 5000 + k * 2000 by omega)
              clear hde hwh hpa e1 HTL
              have hcase : (((r.length : Int) == 0) = true ∧ last = true) ∨ ((r.length : Int) == 0) = false := by
                by_cases hr0 : r = []
                · subst hr0
                  cases last with
                  | true => exact Or.inl ⟨by simp, rfl⟩
                  | false => exact absurd ⟨rfl, rfl⟩ hlast
                · refine Or.inr ?_
                  rw [beq_eq_false_iff_ne]
                  exact fun e => hr0 (List.length_eq_zero_iff.1 (by omega))
              clear hlast
              rcases hcase with ⟨hrl, rfl⟩ | hrl
              all_goals
                cases hw : wholeL d
                all_goals
                  have HW := Lib.hid hw
                  rw [hw] at HWH HGO
                  clear hw
                  go_wp2_with (first | (go_at_call 84; refine (HWH.out _).mono ?_; rintro e w' ⟨rfl, rfl⟩) | (go_at_call 60; refine (HPA.out _).mono ?_; rintro e w9 ⟨v9, rfl, hT9, hb9⟩; have HV9 := Lib.hid hT9.view; have HB9 := Lib.hid (HB8.out.trans (hb9.mono hs8)); have HTL9 := Lib.hid (HTLV.out.below hb9); have HP2 := Lib.hid HP.out; clear hT9 hb9 HPA) | (at_builtin; refine append_held (B := w9.heap.size) (L := []) (Or.inl ⟨rfl, rfl⟩) HV9.out (by have := HP2.out; simp only [List.length_nil]; omega) (Nat.le_refl _) rfl _ _ rfl rfl rfl ?_; intro v10 w10 hH10 hg10; rw [List.nil_append] at hH10; have hB10 : Below w9.heap.size w9 w10 := (Below.refl _ _).grown hg10 (Nat.le_refl _) (fun k hk => by cases hk); have HTL10 := Lib.hid (HTL9.out.below hB10); have HH10 := Lib.hid hH10; have hs10 := hB10.size; have HB10 := Lib.hid hB10; clear hH10 hg10 hB10 HP2) | (at_builtin; refine append_held HH10.out HTL10.out (by have := HP.out; have := HRL.out; omega) hs10 rfl _ _ rfl rfl rfl ?_; intro v11 w11 hH11 hg11; have HB11 := Lib.hid (HB9.out.trans ((HB10.out.trans ((Below.refl _ _).grown hg11 hs10 (fun k hk => (HH10.out.own hk).1))).mono HB9.out.size)); (obtain ⟨N2, hN2⟩ : ∃ N2, N2 = partsL d ++ r := ⟨_, rfl⟩); rw [← hN2] at hH11; have HN2 := Lib.hid hN2; have HV11 := Lib.hid hH11.view; (obtain ⟨na, nc, hv11⟩ : ∃ na nc, v11 = .slice na N2.length nc := (by obtain ⟨na, nc, e, -⟩ := HV11.out; exact ⟨na, nc, e⟩)); clear hH11 hg11 hN2; subst hv11) | fail)
                  go_roundw
                  case rel => exact ⟨n, k + 1, N2, _, by omega, rfl, by go_num, by have := HP.out; have := HRL.out; rw [HN2.out, List.length_append]; omega, HV11, by rw [HN2.out]; exact HGO, HB11.out⟩
                  case measure =>
                    have := HP.out
                    have := HRL.out
                    have h2 : N2.length = (partsL d).length + r.length := by rw [HN2.out, List.length_append]
                    simp only [intOf, sliceLen]
                    omega
end Go.Proofs.YtclhpedecimicaaGreat

namespace Go.Proofs.YtclhpedecimicaaGreat
set_option maxRecDepth 100000
open Go Go.RowKit

theorem longB_of (p : List UInt8) (h : p.length ≤ 1024) : longB p = (partsL p).any fun x => decide (64 < x.length) := by
  unfold longB
  rw [decide_eq_false (by omega), Bool.false_or]

set_option maxRecDepth 100000 in
set_option maxHeartbeats 4000000 in
theorem bad4_any (a : Option Addr) (cap : Nat) (m b cwd : Int) (p : List UInt8) (hp : p.length ≤ 1073741824) (L : List Ino) (w : World) (hN : NodesIn w a cap L) :
    Calls Tryz.prog 57 #[.agg #[.slice a L.length cap, .int .i64 m, .int .i64 b], .int .i64 cwd, .string ⟨p.toArray⟩] w fun e w' => e = .returned (.int .i64 (badW L cwd p)) ∧ Below w.heap.size w w' := by
  have hb1 := below_box w (.cells #[.slice a L.length cap, .int .i64 m, .int .i64 b] 24)
  have HM := Lib.hid (hN.below hb1)
  have HB1 := Lib.hid hb1
  have hs := str_len p
  obtain ⟨R, hR⟩ : ∃ R, R = badW L cwd p := ⟨_, rfl⟩
  rw [← hR]
  have HR := Lib.hid hR
  clear hN hb1 hR
  by_cases hp0 : p = []
  · subst hp0
    have HW := Lib.hid (show R = 2 by rw [HR.out]; unfold badW; rw [if_pos (Or.inl rfl)])
    go_enter Tryz.func57, Tryz.ntmps57
    go_wp2_with fail
    go_ret
    exact ⟨by rw [HW.out]; rfl, HB1.out⟩
  · have hpb : (p == []) = false := by simpa using hp0
    cases hd : dirB L cwd with
    | false =>
      have HD := Lib.hid hd
      have HW := Lib.hid (show R = 2 by rw [HR.out]; unfold badW; rw [if_pos (Or.inr hd)])
      clear hd hp0
      go_enter Tryz.func57, Tryz.ntmps57
      go_wp2_with (first | (go_at_call 61; refine (dir4_known _ _ _ _ _ L _ HD.out _ HM.out).mono ?_; rintro e w2 ⟨rfl, hb2⟩) | fail)
      go_ret
      exact ⟨by rw [HW.out]; rfl, HB1.out.trans (hb2.mono (by simp))⟩
    | true =>
      have HD := Lib.hid hd
      have HW := Lib.hid (show R = if longB p then 36 else 0 by rw [HR.out]; unfold badW; rw [if_neg (by simp [hp0, hd])])
      clear hd hp0
      by_cases hl : 1024 < p.length
      · have HW2 := Lib.hid (show R = 36 by rw [HW.out]; unfold longB; rw [decide_eq_true hl]; rfl)
        go_enter Tryz.func57, Tryz.ntmps57
        go_wp2_with (first | (go_at_call 61; refine (dir4_known _ _ _ _ _ L _ HD.out _ HM.out).mono ?_; rintro e w2 ⟨rfl, hb2⟩) | fail)
        go_ret
        exact ⟨by rw [HW2.out]; rfl, HB1.out.trans (hb2.mono (by simp))⟩
      · have HW2 := Lib.hid (show R = if (partsL p).any fun x => decide (64 < x.length) then 36 else 0 by rw [HW.out, longB_of p (by omega)])
        have hpa := rparts_any ⟨p.toArray⟩ (by rw [hs]; exact hp)
        have e1 : (⟨p.toArray⟩ : ByteArray).data.toList = p := rfl
        rw [e1] at hpa
        have HPA := Lib.hid hpa
        have HCL := Lib.hid (count_parts p)
        obtain ⟨N, hNe⟩ : ∃ N, N = partsL p := ⟨_, rfl⟩
        rw [← hNe] at HPA HW2 HCL
        have hl1 : p.length ≤ 1024 := by omega
        clear hpa e1 hNe hl HW
        go_enter Tryz.func57, Tryz.ntmps57
        go_wp2_with fail
        refine (dir4_known _ _ _ _ _ L _ HD.out _ HM.out).mono ?_
        rintro e w2 ⟨rfl, hb2⟩
        have HB2 := Lib.hid (HB1.out.trans (hb2.mono (by simp)))
        have hs2 := HB2.out.size
        clear hb2
        go_wp2_with fail
        refine (HPA.out _).mono ?_
        rintro e w3 ⟨v3, rfl, hT3, hb3⟩
        obtain ⟨na, ncap, rfl, hc1, hc2, hcell⟩ := hT3.view
        have HC := Lib.hid hcell
        have HB3 := Lib.hid (HB2.out.trans (hb3.mono hs2))
        have hN1 : N.length ≤ 1025 := by have := HCL.out; omega
        unfold maxLen at hc2
        clear hT3 hb3 hcell HPA
        go_wp2_with fail
        go_loop [8] (fun iv => ∃ k : Nat, k ≤ N.length ∧ iv = .int .i64 k ∧ Hid (∀ j (hj : j < N.length), j < k → N[j].length ≤ 64)) (fun iv => N.length - (intOf iv).toNat)
        case atStart => exact ⟨0, by omega, rfl, fun _ _ h => absurd h (Nat.not_lt_zero _)⟩
        case round =>
          obtain ⟨k, hk, rfl, hok⟩ := hrel
          by_cases hlt : k < N.length
          · obtain ⟨nb, no, rfl, hx⟩ := HC.out k hlt
            unfold strv at hx
            have hsx := str_len N[k]
            have hk0 : (0 : Int) ≤ (k : Int) := by omega
            by_cases h64 : 64 < N[k].length
            · have HW3 := Lib.hid (show R = 36 by
                rw [HW2.out, if_pos]
                rw [List.any_eq_true]
                exact ⟨N[k], List.getElem_mem _, decide_eq_true h64⟩)
              go_wp2_with fail
              go_ret
              exact ⟨by rw [HW3.out]; rfl, HB3.out⟩
            · have HOK := Lib.hid (show ∀ j (hj : j < N.length), j < k + 1 → N[j].length ≤ 64 from fun j hj hjk => by
                by_cases e : j = k
                · subst e; omega
                · exact hok.out j hj (by omega))
              go_wp2_with fail
              go_round
              case rel => exact ⟨k + 1, by omega, by go_num, HOK⟩
              case measure => simp [intOf] <;> omega
          · have HW3 := Lib.hid (show R = 0 by
              rw [HW2.out, if_neg]
              rw [List.any_eq_true]
              rintro ⟨x, hx, h⟩
              obtain ⟨j, hj, rfl⟩ := List.getElem_of_mem hx
              have h1 := hok.out j hj (by omega)
              have h2 := of_decide_eq_true h
              omega)
            go_wp2_with fail
            go_ret
            exact ⟨by rw [HW3.out]; rfl, HB3.out⟩
end Go.Proofs.YtclhpedecimicaaGreat

namespace Go.Proofs.YtclhpedecimicaaGreat
set_option maxRecDepth 100000
open Go Go.RowKit

set_option maxHeartbeats 1000000 in
theorem kind_known (a : Option Addr) (cap : Nat) (m b k : Int) (L : List Ino) (v : Int) (hv : kindL L k = v) (w : World) (hN : NodesIn w a cap L) :
    Calls Tryz.prog 68 #[.agg #[.slice a L.length cap, .int .i64 m, .int .i64 b], .int .i64 k] w fun e w' => e = .returned (.int .i64 v) ∧ Below w.heap.size w w' := by
  subst hv
  have hb1 := below_box w (.cells #[.slice a L.length cap, .int .i64 m, .int .i64 b] 24)
  have HB1 := Lib.hid hb1
  have hcap := hN.1
  have hmax := hN.2.1
  unfold maxLen at hmax
  cases ht : thereB L k with
  | true =>
    obtain ⟨n, rfl, hn⟩ := there_nat ht
    obtain ⟨bb, o, rfl, hx⟩ := (hN.below hb1).2.2 n hn
    have h1 := hx.kind
    have hd0 : (0 : Int) ≤ (n : Int) := by omega
    have hd1 : (n : Int) < (L.length : Int) := by omega
    have HV := Lib.hid (show kindL L (n : Int) = L[n].kind by unfold kindL; rw [ht, if_pos rfl, node_nat L n hn])
    clear hN hb1 ht hx
    go_enter Tryz.func68, Tryz.ntmps68
    go_wp2_with fail
    go_ret
    exact ⟨by rw [HV.out]; rfl, HB1.out⟩
  | false =>
    have HV := Lib.hid (show kindL L k = 0 by unfold kindL; rw [ht]; rfl)
    rcases there_not ht with h | h
    · clear hN hb1 ht
      go_enter Tryz.func68, Tryz.ntmps68
      go_wp2_with fail
      go_ret
      exact ⟨by rw [HV.out]; rfl, HB1.out⟩
    · have h0 : (0 : Int) ≤ k := by omega
      clear hN hb1 ht
      go_enter Tryz.func68, Tryz.ntmps68
      go_wp2_with fail
      go_ret
      exact ⟨by rw [HV.out]; rfl, HB1.out⟩

theorem kind_dir {L : List Ino} {k : Int} : (kindL L k != 2) = !dirB L k := by
  unfold kindL dirB
  cases thereB L k with
  | false => rfl
  | true => rw [if_pos rfl, Bool.true_and]; rfl
theorem kind_live {L : List Ino} {k : Int} : (kindL L k == 0) = !liveB L k := by
  unfold kindL liveB
  cases thereB L k with
  | false => rfl
  | true => rw [if_pos rfl, Bool.true_and]; simp [bne]

theorem bits_nat : ∀ q : Nat, q < 8 → ∀ x : Nat, x < 8 → (bits BinOp.and IntKind.i64 (q : Int) (x : Int) == (x : Int)) = bitsB (q : Int) (x : Int) := by decide +kernel
theorem bits_ok (q x : Int) (h1 : 0 ≤ q) (h2 : q ≤ 7) (h3 : 0 ≤ x) (h4 : x ≤ 7) : (bits BinOp.and IntKind.i64 q x == x) = bitsB q x := by
  obtain ⟨n, rfl⟩ : ∃ n : Nat, q = (n : Int) := ⟨q.toNat, by omega⟩
  obtain ⟨k, rfl⟩ : ∃ k : Nat, x = (k : Int) := ⟨x.toNat, by omega⟩
  exact bits_nat n (by omega) k (by omega)

set_option maxHeartbeats 2000000 in
theorem lmayw_known (a : Option Addr) (cap : Nat) (m b k what : Int) (L : List Ino) (hI : AllFit L) (v : Bool) (hv : mayL L k what = v) (w : World) (hN : NodesIn w a cap L) :
    Calls Tryz.prog 70 #[.agg #[.slice a L.length cap, .int .i64 m, .int .i64 b], .int .i64 k, .int .i64 what] w fun e w' => e = .returned (.bool v) ∧ Below w.heap.size w w' := by
  subst hv
  have hb1 := below_box w (.cells #[.slice a L.length cap, .int .i64 m, .int .i64 b] 24)
  have HB1 := Lib.hid hb1
  have hcap := hN.1
  have hmax := hN.2.1
  unfold maxLen at hmax
  have HM := Lib.hid (hN.below hb1)
  by_cases hw : 0 ≤ what ∧ what ≤ 7
  · obtain ⟨hw1, hw2⟩ := hw
    cases hl : liveB L k with
    | false =>
      obtain ⟨z, hz⟩ : ∃ z, kindL L k = z := ⟨_, rfl⟩
      have hz0 : z = 0 := by have h := kind_live (L := L) (k := k); rw [hl, hz] at h; simpa using h
      subst hz0
      have HZ := Lib.hid hz
      have HV := Lib.hid (show mayL L k what = false by unfold mayL; rw [hl]; simp)
      clear hN hb1 hl hz
      go_enter Tryz.func70, Tryz.ntmps70
      go_wp2_with (first | (go_at_call 68; refine (kind_known _ _ _ _ _ L _ HZ.out _ HM.out).mono ?_; rintro e w2 ⟨rfl, hb2⟩) | fail)
      go_ret
      exact ⟨by rw [HV.out]; rfl, HB1.out.trans (hb2.mono (by simp))⟩
    | true =>
      obtain ⟨n, rfl, hn⟩ := there_nat (live_there hl)
      obtain ⟨z, hz⟩ : ∃ z, kindL L (n : Int) = z := ⟨_, rfl⟩
      have hz0 : (z == 0) = false := by have h := kind_live (L := L) (k := (n : Int)); rw [hl, hz] at h; simpa using h
      have HZ := Lib.hid hz
      obtain ⟨bb, o, rfl, hx⟩ := HM.out.2.2 n hn
      have h1 := hx.mode
      have hd0 : (0 : Int) ≤ (n : Int) := by omega
      have hd1 : (n : Int) < (L.length : Int) := by omega
      have HV := Lib.hid (show mayL L (n : Int) what = bitsB L[n].mode what by unfold mayL; rw [hl, node_nat L n hn, decide_eq_true hw1, decide_eq_true hw2]; rfl)
      have hmr := mode_range hI (there_of L n hn)
      rw [node_nat L n hn] at hmr
      obtain ⟨q, hq⟩ : ∃ q, q = L[n].mode := ⟨_, rfl⟩
      rw [← hq] at h1 HV hmr
      obtain ⟨hq1, hq2⟩ := hmr
      rw [HV.out]
      clear hN hb1 hl hx hq hI hz
      go_enter Tryz.func70, Tryz.ntmps70
      go_wp2_with (first | (go_at_call 68; refine (kind_known _ _ _ _ _ L _ HZ.out _ HM.out).mono ?_; rintro e w2 ⟨rfl, hb2⟩; obtain ⟨q0, q1, q2⟩ := box3 hb2; have h2 := cell_below hb2 h1) | fail)
      go_ret
      refine ⟨?_, HB1.out.trans (hb2.mono (by simp))⟩
      show Ending.returned (Value.bool _) = Ending.returned (Value.bool _)
      congr 2
      exact bits_ok q what hq1 hq2 hw1 hw2
  · have HV := Lib.hid (show mayL L k what = false by
      unfold mayL
      by_cases h1 : 0 ≤ what
      · rw [decide_eq_false (show ¬ what ≤ 7 from fun h2 => hw ⟨h1, h2⟩)]
        simp
      · rw [decide_eq_false h1]
        rfl)
    by_cases h1 : what < 0
    · clear hN hb1 hw
      go_enter Tryz.func70, Tryz.ntmps70
      go_wp2_with fail
      go_ret
      exact ⟨by rw [HV.out]; rfl, HB1.out⟩
    · have h2 : 7 < what := by omega
      clear hN hb1 hw
      go_enter Tryz.func70, Tryz.ntmps70
      go_wp2_with fail
      go_ret
      exact ⟨by rw [HV.out]; rfl, HB1.out⟩

set_option maxHeartbeats 1000000 in
theorem long_any (x : List UInt8) (w : World) : Calls Tryz.prog 88 #[.string ⟨x.toArray⟩] w fun e w' => e = .returned (.bool (decide (64 < x.length))) ∧ w' = w := by
  have hs := str_len x
  by_cases h : 64 < x.length
  all_goals
    have hh : decide (64 < x.length) = _ := (by first | exact decide_eq_true h | exact decide_eq_false h)
    have HH := Lib.hid hh
    clear hh
    go_enter Tryz.func88, Tryz.ntmps88
    go_wp2_with fail
    go_ret
    refine ⟨?_, rfl⟩
    rw [HH.out]
    show Ending.returned (Value.bool _) = Ending.returned (Value.bool _)
    congr 2
    simp
    omega

set_option maxRecDepth 100000 in
set_option maxHeartbeats 4000000 in
theorem lindexF_any (N : List (List UInt8)) (hN : N.length ≤ 1048576) (v : Value) (w : World) (hV : View w v N) :
    Calls Tryz.prog 107 #[v, .func (.func 88) #[] #[]] w fun e w' => (∃ z : Int, e = .returned (.int .i64 z) ∧ decide (0 ≤ z) = N.any fun x => decide (64 < x.length)) ∧ w' = w := by
  obtain ⟨na, nc, rfl, hc1, hc2, hcell⟩ := hV
  unfold maxLen at hc2
  have HC := Lib.hid hcell
  obtain ⟨R, hR⟩ : ∃ R, R = N.any fun x => decide (64 < x.length) := ⟨_, rfl⟩
  have HR := Lib.hid hR
  rw [← hR]
  clear hcell hR
  go_enter Tryz.func107, Tryz.ntmps107
  go_wp2_with fail
  go_loop [5, 8] (fun _ iv => ∃ k : Nat, k ≤ N.length ∧ iv = .int .i64 k ∧ Hid (∀ j (hj : j < N.length), j < k → N[j].length ≤ 64)) (fun _ iv => N.length - (intOf iv).toNat)
  case atStart => exact ⟨0, by omega, rfl, fun _ _ h => absurd h (Nat.not_lt_zero _)⟩
  case round =>
    obtain ⟨k, hk, rfl, hok⟩ := hrel
    by_cases hlt : k < N.length
    · obtain ⟨nb, no, rfl, hx⟩ := HC.out k hlt
      unfold strv at hx
      have hk0 : (0 : Int) ≤ (k : Int) := by omega
      by_cases h64 : 64 < N[k].length
      · have HL := Lib.hid (long_any N[k])
        have HW3 := Lib.hid (show R = true by
          rw [HR.out, List.any_eq_true]
          exact ⟨N[k], List.getElem_mem _, decide_eq_true h64⟩)
        have HD := Lib.hid (decide_eq_true h64)
        go_wp2_with (first | (go_at_call 88; refine (HL.out _).mono ?_; rintro e w' ⟨rfl, rfl⟩; rw [HD.out]) | fail)
        go_ret
        exact ⟨⟨(k : Int), rfl, by rw [HW3.out]; exact decide_eq_true hk0⟩, rfl⟩
      · have HOK := Lib.hid (show ∀ j (hj : j < N.length), j < k + 1 → N[j].length ≤ 64 from fun j hj hjk => by
          by_cases e : j = k
          · subst e; omega
          · exact hok.out j hj (by omega))
        have HL := Lib.hid (long_any N[k])
        have HD := Lib.hid (decide_eq_false h64)
        go_wp2_with (first | (go_at_call 88; refine (HL.out _).mono ?_; rintro e w' ⟨rfl, rfl⟩; rw [HD.out]) | fail)
        go_round
        case rel => exact ⟨k + 1, by omega, by go_num, HOK⟩
        case measure => simp [intOf] <;> omega
    · have HW3 := Lib.hid (show R = false by
        rw [HR.out, List.any_eq_false]
        intro x hx
        obtain ⟨j, hj, rfl⟩ := List.getElem_of_mem hx
        have h1 := hok.out j hj (by omega)
        simpa using h1)
      go_wp2_with fail
      go_ret
      exact ⟨⟨-1, rfl, by rw [HW3.out]; rfl⟩, rfl⟩
end Go.Proofs.YtclhpedecimicaaGreat
