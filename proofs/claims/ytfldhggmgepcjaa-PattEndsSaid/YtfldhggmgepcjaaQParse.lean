/-
  Chapter 10 in plain words: how a pattern is read.
-/
import Derived.Test.YtfldhggmgepcjaaQPlain
namespace Go.Proofs.Ytfldhggmgepcjaa
set_option maxRecDepth 100000
open Go Go.RowKit

/-- A pattern's bytes, and which of them are plain. -/
def plL : List UInt8 → List UInt8 → List (UInt8 × Bool)
  | [], _ => []
  | a :: p, [] => (a, true) :: plL p []
  | a :: p, b :: q => (a, b != 49) :: plL p q
abbrev Pl := List (UInt8 × Bool)
def isP (L : Pl) (i : Nat) (c : UInt8) : Bool := L[i]? == some (c, true)
theorem pl_len : ∀ (p q : List UInt8), (plL p q).length = p.length
  | [], _ => rfl
  | a :: p, [] => by simp [plL, pl_len p []]
  | a :: p, b :: q => by simp [plL, pl_len p q]
theorem pl_nil : ∀ (p : List UInt8) (i : Nat), (plL p [])[i]? = p[i]?.map fun a => (a, true)
  | [], i => rfl
  | a :: p, 0 => rfl
  | a :: p, i + 1 => by simp only [plL, List.getElem?_cons_succ]; exact pl_nil p i
def flg (q : List UInt8) (i : Nat) : Bool := match q[i]? with | some b => b != 49 | none => true
theorem pl_get : ∀ (p q : List UInt8) (i : Nat), (plL p q)[i]? = p[i]?.map fun a => (a, flg q i)
  | [], _, i => rfl
  | a :: p, [], i => by rw [pl_nil]; rfl
  | a :: p, b :: q, 0 => rfl
  | a :: p, b :: q, i + 1 => by simp only [plL, List.getElem?_cons_succ]; exact pl_get p q i
theorem isP_drop (L : Pl) (k i : Nat) (c : UInt8) : isP (L.drop k) i c = isP L (k + i) c := by unfold isP; rw [List.getElem?_drop]
theorem isP_lt {L : Pl} {i : Nat} {c : UInt8} (h : isP L i c = true) : i < L.length := by
  unfold isP at h
  have : L[i]? = some (c, true) := by simpa using h
  exact (List.getElem?_eq_some_iff.1 this).1
theorem isP_two {L : Pl} {i : Nat} {c d : UInt8} (h : isP L i c = true) (hd : c ≠ d) : isP L i d = false := by
  unfold isP at h ⊢
  have : L[i]? = some (c, true) := by simpa using h
  rw [this]
  simp [hd]
theorem isP_no {L : Pl} {i : Nat} (h : L.length ≤ i) (c : UInt8) : isP L i c = false := by
  unfold isP; rw [List.getElem?_eq_none h]; rfl

/-- A class's name. -/
def low (x : UInt8 × Bool) : Bool := x.2 && (decide (97 ≤ x.1.toNat) && decide (x.1.toNat ≤ 122))
def nameL (L : Pl) : Pl := (L.drop 2).takeWhile low
def clsE (L : Pl) : Option Nat := if isP L 0 91 = true ∧ isP L 1 58 = true ∧ isP L (2 + (nameL L).length) 58 = true ∧ isP L (3 + (nameL L).length) 93 = true then some (nameL L).length else none
def rngB (L : Pl) : Bool := isP L 1 45 && (decide (2 < L.length) && !isP L 2 93)
def byteAt (L : Pl) (i : Nat) : UInt8 := match L[i]? with | some x => x.1 | none => 0
/-- A member, and how many bytes it has. -/
def mbN (L : Pl) : Nat := match clsE L with | some k => k + 4 | none => if rngB L = true then 3 else 1
def mbF (L : Pl) : Mb := match clsE L with | some k => .cls (((L.drop 2).take k).map Prod.fst) | none => if rngB L = true then .span (byteAt L 0) (byteAt L 2) else .span (byteAt L 0) (byteAt L 0)
theorem mbN_pos (L : Pl) : 1 ≤ mbN L := by
  unfold mbN
  split
  · omega
  · split <;> omega
theorem clsE_some {L : Pl} {k : Nat} (h : clsE L = some k) : k = (nameL L).length ∧ isP L 0 91 = true ∧ isP L 1 58 = true ∧ isP L (2 + k) 58 = true ∧ isP L (3 + k) 93 = true := by
  unfold clsE at h
  split at h
  · rename_i hc
    obtain rfl := Option.some.inj h
    exact ⟨rfl, hc⟩
  · cases h
theorem mbN_le {L : Pl} (hL : L ≠ []) : mbN L ≤ L.length := by
  unfold mbN
  split
  · rename_i k hk
    have := isP_lt (clsE_some hk).2.2.2.2
    omega
  · split
    · rename_i h
      unfold rngB at h
      simp only [Bool.and_eq_true, decide_eq_true_eq] at h
      omega
    · have := List.length_pos_iff.2 hL
      omega

/-- Where members end: how many bytes on stands the ] that closes; the members up to it. -/
def clF : Nat → Pl → Option Nat
  | 0, _ => none
  | f + 1, L => if L = [] then none else if isP L 0 93 = true then some 0 else (clF f (L.drop (mbN L))).map (· + mbN L)
def clE (L : Pl) : Option Nat := clF (L.length + 1) L
def mbsF : Nat → Pl → List Mb
  | 0, _ => []
  | f + 1, L => if L = [] then [] else if isP L 0 93 = true then [] else mbF L :: mbsF f (L.drop (mbN L))
def mbs (L : Pl) : List Mb := mbsF (L.length + 1) L
theorem clF_more : ∀ (f g : Nat) (L : Pl), L.length < f → L.length < g → clF f L = clF g L
  | 0, _, _, h, _ => by omega
  | _ + 1, 0, _, _, h => by omega
  | f + 1, g + 1, L, h1, h2 => by
    unfold clF
    by_cases hL : L = []
    · rw [if_pos hL, if_pos hL]
    · rw [if_neg hL, if_neg hL]
      have h3 := mbN_pos L
      have h4 := List.length_pos_iff.2 hL
      rw [clF_more f g (L.drop (mbN L)) (by rw [List.length_drop]; omega) (by rw [List.length_drop]; omega)]
theorem mbsF_more : ∀ (f g : Nat) (L : Pl), L.length < f → L.length < g → mbsF f L = mbsF g L
  | 0, _, _, h, _ => by omega
  | _ + 1, 0, _, _, h => by omega
  | f + 1, g + 1, L, h1, h2 => by
    unfold mbsF
    by_cases hL : L = []
    · rw [if_pos hL, if_pos hL]
    · rw [if_neg hL, if_neg hL]
      have h3 := mbN_pos L
      have h4 := List.length_pos_iff.2 hL
      rw [mbsF_more f g (L.drop (mbN L)) (by rw [List.length_drop]; omega) (by rw [List.length_drop]; omega)]
theorem clE_nil : clE [] = none := rfl
theorem clE_yes {L : Pl} (h : isP L 0 93 = true) : clE L = some 0 := by
  have hL : L ≠ [] := by intro e; subst e; cases h
  unfold clE clF
  rw [if_neg hL, if_pos h]
theorem clE_more {L : Pl} (hL : L ≠ []) (h : isP L 0 93 = false) : clE L = (clE (L.drop (mbN L))).map (· + mbN L) := by
  have h3 := mbN_pos L
  have h4 := List.length_pos_iff.2 hL
  unfold clE
  rw [clF, if_neg hL, if_neg (by simp [h]), clF_more L.length ((L.drop (mbN L)).length + 1) _ (by rw [List.length_drop]; omega) (by omega)]
theorem mbs_nil : mbs [] = [] := rfl
theorem mbs_yes {L : Pl} (h : isP L 0 93 = true) : mbs L = [] := by
  have hL : L ≠ [] := by intro e; subst e; cases h
  unfold mbs mbsF
  rw [if_neg hL, if_pos h]
theorem mbs_more {L : Pl} (hL : L ≠ []) (h : isP L 0 93 = false) : mbs L = mbF L :: mbs (L.drop (mbN L)) := by
  have h3 := mbN_pos L
  have h4 := List.length_pos_iff.2 hL
  unfold mbs
  rw [mbsF, if_neg hL, if_neg (by simp [h]), mbsF_more L.length ((L.drop (mbN L)).length + 1) _ (by rw [List.length_drop]; omega) (by omega)]
theorem clE_lt : ∀ (n : Nat) (L : Pl), L.length ≤ n → ∀ k, clE L = some k → k < L.length ∧ isP L k 93 = true
  | 0, L, h, k, hk => by
    obtain rfl := List.length_eq_zero_iff.1 (Nat.le_zero.1 h)
    cases hk
  | n + 1, L, h, k, hk => by
    by_cases hL : L = []
    · subst hL; cases hk
    · cases hp : isP L 0 93 with
      | true =>
        rw [clE_yes hp] at hk
        obtain rfl := Option.some.inj hk
        exact ⟨List.length_pos_iff.2 hL, hp⟩
      | false =>
        rw [clE_more hL hp] at hk
        have h3 := mbN_pos L
        have h4 := mbN_le hL
        cases hc : clE (L.drop (mbN L)) with
        | none => rw [hc] at hk; cases hk
        | some j =>
          rw [hc] at hk
          obtain rfl : j + mbN L = k := Option.some.inj hk
          obtain ⟨h1, h2⟩ := clE_lt n (L.drop (mbN L)) (by rw [List.length_drop]; omega) j hc
          rw [List.length_drop] at h1
          rw [isP_drop] at h2
          exact ⟨by omega, by rw [Nat.add_comm]; exact h2⟩

/-- A set behind its [: whether it is turned, its members, how many bytes it has. -/
def bang (L : Pl) : Nat := if isP L 0 33 = true then 1 else 0
def setP (L : Pl) : Option (Bool × List Mb × Nat) :=
  if L.drop (bang L) = [] then none else
  match clE ((L.drop (bang L)).drop (mbN (L.drop (bang L)))) with
  | none => none
  | some k => some (isP L 0 33, mbF (L.drop (bang L)) :: mbs ((L.drop (bang L)).drop (mbN (L.drop (bang L)))), bang L + mbN (L.drop (bang L)) + k + 1)
theorem setP_le {L : Pl} {t : Bool} {l : List Mb} {n : Nat} (h : setP L = some (t, l, n)) : 1 ≤ n ∧ n ≤ L.length := by
  unfold setP at h
  split at h
  · cases h
  · rename_i hL
    split at h
    · cases h
    · rename_i k hk
      have := (clE_lt _ _ (Nat.le_refl _) k hk).1
      have h4 := mbN_le hL
      have h5 : 0 < (L.drop (bang L)).length := List.length_pos_iff.2 hL
      simp only [List.length_drop] at this h4 h5
      cases h
      omega
/-- A want, and how many bytes it has. -/
def wt1 (L : Pl) : Wt × Nat :=
  if isP L 0 63 = true then (.one, 1) else if isP L 0 42 = true then (.many, 1) else
  if isP L 0 91 = true then match setP (L.drop 1) with | some (t, l, n) => (.set t l, n + 1) | none => (.span (byteAt L 0) (byteAt L 0), 1)
  else (.span (byteAt L 0) (byteAt L 0), 1)
theorem wt1_pos (L : Pl) : 1 ≤ (wt1 L).2 := by
  unfold wt1
  split
  · exact Nat.le_refl _
  · split
    · exact Nat.le_refl _
    · split
      · split
        · show 1 ≤ _ + 1; omega
        · exact Nat.le_refl _
      · exact Nat.le_refl _
theorem wt1_le {L : Pl} (hL : L ≠ []) : (wt1 L).2 ≤ L.length := by
  have h0 := List.length_pos_iff.2 hL
  unfold wt1
  split
  · exact h0
  · split
    · exact h0
    · split
      · split
        · rename_i t l n hs
          have := (setP_le hs).2
          rw [List.length_drop] at this
          show n + 1 ≤ _
          omega
        · exact h0
      · exact h0
def rawF : Nat → Pl → List Wt
  | 0, _ => []
  | f + 1, L => if L = [] then [] else (wt1 L).1 :: rawF f (L.drop (wt1 L).2)
def raw (L : Pl) : List Wt := rawF L.length L
theorem rawF_more : ∀ (f g : Nat) (L : Pl), L.length ≤ f → L.length ≤ g → rawF f L = rawF g L
  | 0, 0, _, _, _ => rfl
  | 0, g + 1, L, h, _ => by
    obtain rfl := List.length_eq_zero_iff.1 (Nat.le_zero.1 h)
    rfl
  | f + 1, 0, L, _, h => by
    obtain rfl := List.length_eq_zero_iff.1 (Nat.le_zero.1 h)
    rfl
  | f + 1, g + 1, L, h1, h2 => by
    unfold rawF
    by_cases hL : L = []
    · rw [if_pos hL, if_pos hL]
    · rw [if_neg hL, if_neg hL]
      have h3 := wt1_pos L
      have h4 := List.length_pos_iff.2 hL
      rw [rawF_more f g (L.drop (wt1 L).2) (by rw [List.length_drop]; omega) (by rw [List.length_drop]; omega)]
theorem raw_nil : raw [] = [] := rfl
theorem raw_more {L : Pl} (hL : L ≠ []) : raw L = (wt1 L).1 :: raw (L.drop (wt1 L).2) := by
  have h3 := wt1_pos L
  have h4 := List.length_pos_iff.2 hL
  unfold raw
  rw [rawF_more L.length (L.length + 1) L (Nat.le_refl _) (by omega), rawF, if_neg hL, rawF_more L.length (L.drop (wt1 L).2).length _ (by rw [List.length_drop]; omega) (Nat.le_refl _)]
/-- The row that the landed code makes; what Match answers. -/
def rowP (p q : List UInt8) : List Wt := (raw (plL p q)).foldl pushW []
theorem rowP_alone (p q : List UInt8) : Alone (rowP p q) := alone_fold _ alone_nil
theorem rowP_mat (p q s : List UInt8) : Mat (rowP p q) s ↔ Mat (raw (plL p q)) s := by
  unfold rowP; rw [mat_fold]; rfl
theorem fold_len (l : List Wt) : ∀ r, (l.foldl pushW r).length ≤ r.length + l.length := by
  induction l with
  | nil => intro r; simp
  | cons x l ih =>
    intro r
    rw [List.foldl_cons]
    refine Nat.le_trans (ih _) ?_
    have : (pushW r x).length ≤ r.length + 1 := by unfold pushW; split <;> simp
    simp only [List.length_cons]; omega
theorem rawF_len : ∀ (f : Nat) (L : Pl), (rawF f L).length ≤ f
  | 0, _ => by simp [rawF]
  | f + 1, L => by
    unfold rawF
    split
    · simp
    · simp [rawF_len f]
theorem rowP_len (p q : List UInt8) : (rowP p q).length ≤ p.length := by
  refine Nat.le_trans (fold_len _ _) ?_
  have := rawF_len (plL p q).length (plL p q)
  rw [pl_len] at this
  simp only [List.length_nil, Nat.zero_add]
  unfold raw; rw [pl_len]; exact this
end Go.Proofs.Ytfldhggmgepcjaa
