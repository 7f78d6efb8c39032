/-
  The landed code's questions of a pattern: plain, ranges, classEnd, behind.
  The landed code's classEnd and behind.
  The landed code's behind, just and member.
  The landed code's closings: of each place, where a set would close.
  The landed code's set.
  The landed code's want: what is wanted at a place.
  The landed code's takes, of each kind of wants.
  The landed code's wants: the row that a pattern is.
-/
import Derived.Test.YtclhpedecimicaaGreatK3
import Derived.Test.YtclhpedecimicaaGreatK6
import Derived.StillTailTactics
import Derived.Test.YtclhpedecimicaaGreatK2
import Derived.Deep.Cut
import Derived.Test.YtclhpedecimicaaGreatK10
import Derived.Test.YtclhpedecimicaaGreatQSetP
import Derived.Deep.AppendLies
import Derived.Deep.RegionLaw
import Derived.IntWalk
import Derived.Deep.CutRange
namespace Go.Proofs.YtclhpedecimicaaGreat
set_option maxRecDepth 100000
open Go Go.RowKit

theorem size_data (s : ByteArray) : s.data.toList.length = s.size := Array.length_toList
theorem get_data (s : ByteArray) (i : Nat) (h : i < s.size) : s.data.toList[i]? = some s[i] := by
  rw [List.getElem?_eq_getElem (by rw [size_data]; exact h)]
  rfl

theorem isP_yes (P Q : ByteArray) (i : Nat) (c : UInt8) (h : i < P.size) (hc : P[i] = c) (hq : ∀ h : i < Q.size, Q[i] ≠ 49) : isP (plL P.data.toList Q.data.toList) i c = true := by
  unfold isP
  rw [pl_get, get_data P i h, hc]
  unfold flg
  by_cases hk : i < Q.size
  · rw [get_data Q i hk]
    simp [hq hk]
  · rw [List.getElem?_eq_none (by rw [size_data]; omega)]
    simp
theorem isP_quo (P Q : ByteArray) (i : Nat) (c : UInt8) (h : i < P.size) (hk : i < Q.size) (hq : Q[i] = 49) : isP (plL P.data.toList Q.data.toList) i c = false := by
  unfold isP
  rw [pl_get, get_data P i h]
  unfold flg
  rw [get_data Q i hk, hq]
  simp
theorem isP_oth (P Q : ByteArray) (i : Nat) (c : UInt8) (h : i < P.size) (hc : P[i] ≠ c) : isP (plL P.data.toList Q.data.toList) i c = false := by
  unfold isP
  rw [pl_get, get_data P i h]
  simp [hc]
theorem u8_ne {a b : UInt8} (h : a ≠ b) : ((a.toNat : Int) != (b.toNat : Int)) = true := by
  rw [bne_iff_ne]
  intro e
  exact h (UInt8.toNat_inj.1 (by omega))
theorem u8_eq {a b : UInt8} (h : ((a.toNat : Int) != (b.toNat : Int)) = false) : a = b := by
  rw [bne_eq_false_iff_eq] at h
  exact UInt8.toNat_inj.1 (by omega)

set_option maxHeartbeats 1000000 in
theorem lplain (P Q : ByteArray) (a : Option Addr) (n cap i : Nat) (c : UInt8) (x y : Int) (hx : x = (i : Int)) (hy : y = (c.toNat : Int)) (w : World) : Calls Tryz.prog 32 #[.agg #[.string P, .string Q, .slice a n cap], .int .i64 x, .int .u8 y] w fun e w' => e = .returned (.bool (isP (plL P.data.toList Q.data.toList) i c)) ∧ Below w.heap.size w w' := by
  subst hx hy
  have HB := Lib.hid (below_box w (.cells #[.string P, .string Q, .slice a n cap] 73))
  by_cases h1 : i < P.size
  · have h1i : (i : Int) < (P.size : Int) := by omega
    cases hc : ((P[i].toNat : Int) != (c.toNat : Int)) with
    | true =>
      have HR := Lib.hid (isP_oth P Q i c h1 (by rw [bne_iff_ne] at hc; intro e; rw [e] at hc; exact hc rfl))
      go_enter Tryz.func32, Tryz.ntmps32
      go_wp2_with fail
      go_ret
      exact ⟨by rw [HR.out]; rfl, HB.out⟩
    | false =>
      have he := u8_eq hc
      by_cases h2 : i < Q.size
      · have h2i : (i : Int) < (Q.size : Int) := by omega
        cases hq : ((Q[i].toNat : Int) != 49) with
        | true =>
          have HR := Lib.hid (isP_yes P Q i c h1 he fun h e => by rw [e] at hq; cases hq)
          clear he
          go_enter Tryz.func32, Tryz.ntmps32
          go_wp2_with fail
          go_ret
          exact ⟨by rw [HR.out]; rfl, HB.out⟩
        | false =>
          have HR := Lib.hid (isP_quo P Q i c h1 h2 (u8_eq (b := 49) hq))
          clear he
          have hn : ¬ Q.size ≤ i := by omega
          go_enter Tryz.func32, Tryz.ntmps32
          go_wp2_with fail
          go_ret
          exact ⟨by rw [HR.out]; rfl, HB.out⟩
      · have HR := Lib.hid (isP_yes P Q i c h1 he fun h => absurd h h2)
        clear he
        have hn : Q.size ≤ i := by omega
        go_enter Tryz.func32, Tryz.ntmps32
        go_wp2_with fail
        go_ret
        exact ⟨by rw [HR.out]; rfl, HB.out⟩
  · have hd : (decide ((P.size : Int) ≤ (i : Int))) = true := decide_eq_true (by omega)
    have h2 : isP (plL P.data.toList Q.data.toList) i c = false := isP_no (by rw [pl_len, size_data]; omega) c
    rw [h2]
    go_enter Tryz.func32, Tryz.ntmps32
    go_wp2_with fail
    go_ret
    exact ⟨rfl, HB.out⟩

/-- A pattern's box. -/
def PatAt (W : World) (k : Nat) (P Q : ByteArray) (a : Option Addr) (n cap : Nat) : Prop := W.heap[k]? = some (.cells #[.string P, .string Q, .slice a n cap] 73 (0, 0))
theorem PatAt.cells {W : World} {k : Nat} {P Q : ByteArray} {a : Option Addr} {n cap : Nat} (h : PatAt W k P Q a n cap) : W.cell? ⟨k, 0, none⟩ = some (.string P) ∧ W.cell? ⟨k, 1, none⟩ = some (.string Q) ∧ W.cell? ⟨k, 2, none⟩ = some (.slice a n cap) := ⟨blk_cell h 0, blk_cell h 1, blk_cell h 2⟩
theorem kept {W W' : World} {k : Nat} {o : Obj} (hb : Below W.heap.size W W') (h : W.heap[k]? = some o) : W'.heap[k]? = some o := by
  rw [hb.block k (lt_of_block h)]; exact h
theorem PatAt.below {W W' : World} {k : Nat} {P Q : ByteArray} {a : Option Addr} {n cap : Nat} (h : PatAt W k P Q a n cap) (hb : Below W.heap.size W W') : PatAt W' k P Q a n cap := kept hb h
theorem PatAt.new (w : World) (P Q : ByteArray) (a : Option Addr) (n cap : Nat) : PatAt (w.alloc (.cells #[.string P, .string Q, .slice a n cap] 73)) w.heap.size P Q a n cap := new_block _ _
theorem PatAt.other {W : World} {k C : Nat} {P Q : ByteArray} {a : Option Addr} {n cap : Nat} (h : PatAt W k P Q a n cap) (hk : k ≠ C) (j : Nat) (u : Value) : PatAt (W.setCell ⟨C, j, none⟩ u) k P Q a n cap := (Below.heap_setCell _ _ _ _ hk).trans h
theorem below_two {w W W' : World} (h : Below w.heap.size w W) (hb : Below W.heap.size W W') : Below w.heap.size w W' := h.trans (hb.mono h.size)

theorem rng_at (L : Pl) (i : Nat) : rngB (L.drop i) = (isP L (i + 1) 45 && (decide (i + 2 < L.length) && !isP L (i + 2) 93)) := by
  unfold rngB
  rw [isP_drop, isP_drop, List.length_drop]
  congr 2
  rw [decide_eq_decide]; omega

set_option maxHeartbeats 1000000 in
theorem lranges (P Q : ByteArray) (hP : P.size ≤ 100000) (a : Option Addr) (n cap i : Nat) (hi : i ≤ P.size) (x : Int) (hx : x = (i : Int)) (w : World) : Calls Tryz.prog 141 #[.agg #[.string P, .string Q, .slice a n cap], .int .i64 x] w fun e w' => e = .returned (.bool (rngB ((plL P.data.toList Q.data.toList).drop i))) ∧ Below w.heap.size w w' := by
  subst hx
  rw [rng_at, pl_len, size_data]
  have HB := Lib.hid (below_box w (.cells #[.string P, .string Q, .slice a n cap] 73))
  have HP := Lib.hid (PatAt.new w P Q a n cap)
  have K1 := fun W => lplain P Q a n cap (i + 1) 45 ((i : Int) + 1) 45 (by omega) rfl W
  have K2 := fun W => lplain P Q a n cap (i + 2) 93 ((i : Int) + 2) 93 (by omega) rfl W
  cases h1 : isP (plL P.data.toList Q.data.toList) (i + 1) 45 with
  | false =>
    rw [h1] at K1
    go_enter Tryz.func141, Tryz.ntmps141
    go_wp2_with fail
    refine (K1 _).mono ?_
    rintro e w1 ⟨rfl, hb⟩
    have HB1 := Lib.hid (below_two HB.out hb)
    clear hb
    go_wp2_with fail
    go_ret
    exact ⟨rfl, HB1.out⟩
  | true =>
    rw [h1] at K1
    by_cases h2 : i + 2 < P.size
    · have hd : decide ((i : Int) + 2 < (P.size : Int)) = true := decide_eq_true (by omega)
      have hd2 : decide (i + 2 < P.size) = true := decide_eq_true h2
      rw [hd2]
      cases h3 : isP (plL P.data.toList Q.data.toList) (i + 2) 93
      all_goals
        rw [h3] at K2
        go_enter Tryz.func141, Tryz.ntmps141
        go_wp2_with fail
        refine (K1 _).mono ?_
        rintro e w1 ⟨rfl, hb⟩
        obtain ⟨c0, c1, c2⟩ := (HP.out.below hb).cells
        have HB1 := Lib.hid (below_two HB.out hb)
        clear hb
        go_wp2_with fail
        refine (K2 _).mono ?_
        rintro e w2 ⟨rfl, hb⟩
        have HB2 := Lib.hid (below_two HB1.out hb)
        clear hb
        go_wp2_with fail
        go_ret
        exact ⟨rfl, HB2.out⟩
    · have hd : decide ((i : Int) + 2 < (P.size : Int)) = false := decide_eq_false (by omega)
      have hd2 : decide (i + 2 < P.size) = false := decide_eq_false h2
      rw [hd2]
      go_enter Tryz.func141, Tryz.ntmps141
      go_wp2_with fail
      refine (K1 _).mono ?_
      rintro e w1 ⟨rfl, hb⟩
      obtain ⟨c0, c1, c2⟩ := (HP.out.below hb).cells
      have HB1 := Lib.hid (below_two HB.out hb)
      clear hb
      go_wp2_with fail
      go_ret
      exact ⟨rfl, HB1.out⟩
end Go.Proofs.YtclhpedecimicaaGreat

namespace Go.Proofs.YtclhpedecimicaaGreat
set_option maxRecDepth 100000
open Go Go.RowKit

theorem while_in {α : Type} (p : α → Bool) : ∀ (M : List α) (j : Nat) (x : α), j < (M.takeWhile p).length → M[j]? = some x → p x = true
  | [], _, _, h, _ => by simp at h
  | y :: M, j, x, h, hx => by
    rw [List.takeWhile_cons] at h
    cases hy : p y with
    | false => rw [hy] at h; simp at h
    | true =>
      rw [hy] at h
      cases j with
      | zero => simp at hx; rw [← hx]; exact hy
      | succ j => exact while_in p M j x (by simpa using h) (by simpa using hx)
theorem while_out {α : Type} (p : α → Bool) : ∀ (M : List α) (x : α), M[(M.takeWhile p).length]? = some x → p x = false
  | [], _, h => by cases h
  | y :: M, x, h => by
    rw [List.takeWhile_cons] at h
    cases hy : p y with
    | false => rw [hy] at h; simp at h; rw [← h]; exact hy
    | true => rw [hy] at h; exact while_out p M x (by simpa using h)
theorem while_le {α : Type} (p : α → Bool) (M : List α) : (M.takeWhile p).length ≤ M.length := (List.takeWhile_prefix p).length_le

/-- What classEnd answers. -/
def clsX (L : Pl) (i : Nat) : Int × Bool := if isP L i 91 = true ∧ isP L (i + 1) 58 = true then (((i + 2 + (nameL (L.drop i)).length : Nat) : Int) + 2, isP L (i + 2 + (nameL (L.drop i)).length) 58 && isP L (i + 2 + (nameL (L.drop i)).length + 1) 93) else (0, false)
theorem clsX_some {L : Pl} {i k : Nat} (h : clsE (L.drop i) = some k) : clsX L i = (((i + k + 4 : Nat) : Int), true) := by
  obtain ⟨rfl, h1, h2, h3, h4⟩ := clsE_some h
  rw [isP_drop] at h1 h2 h3 h4
  unfold clsX
  rw [if_pos ⟨by simpa using h1, h2⟩]
  rw [← Nat.add_assoc] at h3 h4
  rw [show i + 2 + (nameL (L.drop i)).length + 1 = i + 3 + (nameL (L.drop i)).length by omega, h3, h4]
  congr 1
  omega
theorem clsX_none {L : Pl} {i : Nat} (h : clsE (L.drop i) = none) : (clsX L i).2 = false := by
  unfold clsE at h
  simp only [isP_drop, Nat.add_zero, ← Nat.add_assoc] at h
  unfold clsX
  split
  · rename_i hc
    split at h
    · cases h
    · rename_i hn
      show (_ && _) = false
      rw [show i + 2 + (nameL (L.drop i)).length + 1 = i + 3 + (nameL (L.drop i)).length by omega]
      cases h1 : isP L (i + 2 + (nameL (L.drop i)).length) 58 with
      | false => rfl
      | true =>
        cases h2 : isP L (i + 3 + (nameL (L.drop i)).length) 93 with
        | false => rfl
        | true => exact absurd ⟨hc.1, hc.2, h1, h2⟩ hn
  · rfl

theorem pl_at (P Q : ByteArray) (j : Nat) (h : j < P.size) : (plL P.data.toList Q.data.toList)[j]? = some (P[j], isP (plL P.data.toList Q.data.toList) j P[j]) := by
  unfold isP
  rw [pl_get, get_data P j h]
  cases flg Q.data.toList j <;> simp
theorem name_in (P Q : ByteArray) (i K : Nat) (h : K < (nameL ((plL P.data.toList Q.data.toList).drop i)).length) : ∃ hj : i + 2 + K < P.size, isP (plL P.data.toList Q.data.toList) (i + 2 + K) P[i + 2 + K] = true ∧ 97 ≤ P[i + 2 + K].toNat ∧ P[i + 2 + K].toNat ≤ 122 := by
  unfold nameL at h
  have hl := while_le low (((plL P.data.toList Q.data.toList).drop i).drop 2)
  simp only [List.length_drop, pl_len, size_data] at hl
  have hj : i + 2 + K < P.size := by omega
  refine ⟨hj, ?_⟩
  have := while_in low _ K _ h (by rw [List.getElem?_drop, List.getElem?_drop, ← Nat.add_assoc]; exact pl_at P Q _ hj)
  simpa [low] using this
theorem name_out (P Q : ByteArray) (i : Nat) (hj : i + 2 + (nameL ((plL P.data.toList Q.data.toList).drop i)).length < P.size) : (isP (plL P.data.toList Q.data.toList) (i + 2 + (nameL ((plL P.data.toList Q.data.toList).drop i)).length) P[i + 2 + (nameL ((plL P.data.toList Q.data.toList).drop i)).length] && (decide (97 ≤ P[i + 2 + (nameL ((plL P.data.toList Q.data.toList).drop i)).length].toNat) && decide (P[i + 2 + (nameL ((plL P.data.toList Q.data.toList).drop i)).length].toNat ≤ 122))) = false := by
  have := while_out low (((plL P.data.toList Q.data.toList).drop i).drop 2) _ (by rw [List.getElem?_drop, List.getElem?_drop, ← Nat.add_assoc]; exact pl_at P Q _ hj)
  exact this

set_option maxHeartbeats 4000000 in
theorem lclassEnd (P Q : ByteArray) (hP : P.size ≤ 100000) (a : Option Addr) (n cap i : Nat) (hi : i ≤ P.size) (x : Int) (hx : x = (i : Int)) (w : World) : Calls Tryz.prog 140 #[.agg #[.string P, .string Q, .slice a n cap], .int .i64 x] w fun e w' => e = .returned (.tuple #[.int .i64 (clsX (plL P.data.toList Q.data.toList) i).1, .bool (clsX (plL P.data.toList Q.data.toList) i).2]) ∧ Below w.heap.size w w' := by
  subst hx
  have HB := Lib.hid (below_box w (.cells #[.string P, .string Q, .slice a n cap] 73))
  have HP := Lib.hid (PatAt.new w P Q a n cap)
  obtain ⟨L, hL⟩ : ∃ L, L = plL P.data.toList Q.data.toList := ⟨_, rfl⟩
  have HK := Lib.hid (fun j c x y hx hy W => lplain P Q a n cap j c x y hx hy W)
  rw [← hL] at HK ⊢
  cases h1 : isP L i 91 with
  | false =>
    have HR := Lib.hid (show clsX L i = (0, false) by unfold clsX; rw [if_neg]; rintro ⟨h, -⟩; rw [h1] at h; cases h)
    rw [HR.out]
    have C := HK.out i 91 (i : Int) 91 rfl rfl
    rw [h1] at C
    go_enter Tryz.func140, Tryz.ntmps140
    go_wp2_with fail
    refine (C _).mono ?_
    rintro e w1 ⟨rfl, hb⟩
    have HB1 := Lib.hid (below_two HB.out hb)
    clear hb
    go_wp2_with fail
    go_ret2
    exact ⟨rfl, HB1.out⟩
  | true =>
    have C1 := HK.out i 91 (i : Int) 91 rfl rfl
    rw [h1] at C1
    have C2 := HK.out (i + 1) 58 ((i : Int) + 1) 58 (by omega) rfl
    cases h2 : isP L (i + 1) 58 with
    | false =>
      have HR := Lib.hid (show clsX L i = (0, false) by unfold clsX; rw [if_neg]; rintro ⟨-, h⟩; rw [h2] at h; cases h)
      rw [HR.out]
      rw [h2] at C2
      go_enter Tryz.func140, Tryz.ntmps140
      go_wp2_with fail
      refine (C1 _).mono ?_
      rintro e w1 ⟨rfl, hb⟩
      obtain ⟨c0, c1, c2⟩ := (HP.out.below hb).cells
      have HB1 := Lib.hid (below_two HB.out hb)
      clear hb
      go_wp2_with fail
      refine (C2 _).mono ?_
      rintro e w2 ⟨rfl, hb⟩
      have HB2 := Lib.hid (below_two HB1.out hb)
      clear hb
      go_wp2_with fail
      go_ret2
      exact ⟨rfl, HB2.out⟩
    | true =>
      rw [h2] at C2
      obtain ⟨k, hk⟩ : ∃ k, k = (nameL (L.drop i)).length := ⟨_, rfl⟩
      have HR := Lib.hid (show clsX L i = (((i + 2 + k : Nat) : Int) + 2, isP L (i + 2 + k) 58 && isP L (i + 2 + k + 1) 93) by unfold clsX; rw [if_pos ⟨h1, h2⟩, hk])
      rw [HR.out]
      have HIN := Lib.hid (show ∀ j, i + 2 ≤ j → j < i + 2 + k → ∃ hj : j < P.size, isP L j P[j] = true ∧ 97 ≤ P[j].toNat ∧ P[j].toNat ≤ 122 from fun j h1 h2 => by
        have h := name_in P Q i (j - (i + 2)) (by rw [← hL, ← hk]; omega)
        rw [← hL] at h
        simp only [show i + 2 + (j - (i + 2)) = j by omega] at h
        exact h)
      have HOUT := Lib.hid (show ∀ j, j = i + 2 + k → ∀ hj : j < P.size, (isP L j P[j] && (decide (97 ≤ P[j].toNat) && decide (P[j].toNat ≤ 122))) = false from fun j h1 hj => by
        subst h1
        have h := name_out P Q i (by rw [← hL, ← hk]; exact hj)
        simp only [← hL, ← hk] at h
        exact h)
      have hkl : i + 2 + k ≤ P.size + 2 := by
        have := while_le low ((L.drop i).drop 2)
        unfold nameL at hk
        rw [hL] at hk this
        simp only [List.length_drop, pl_len, size_data] at this
        omega
      clear hk hL
      go_enter Tryz.func140, Tryz.ntmps140
      go_wp2_with fail
      refine (C1 _).mono ?_
      rintro e w1 ⟨rfl, hb⟩
      have HP1 := Lib.hid (HP.out.below hb)
      obtain ⟨c0, c1, c2⟩ := HP1.out.cells
      have HB1 := Lib.hid (below_two HB.out hb)
      clear hb
      go_wp2_with fail
      refine (C2 _).mono ?_
      rintro e w2 ⟨rfl, hb⟩
      have HP2 := Lib.hid (HP1.out.below hb)
      have HB2 := Lib.hid (below_two HB1.out hb)
      clear hb c0 c1 c2
      go_wp2_with fail
      go_loopw [6] (fun v wr => ∃ j : Nat, i + 2 ≤ j ∧ j ≤ i + 2 + k ∧ v = .int .i64 (j : Int) ∧ Hid (PatAt wr w.heap.size P Q a n cap) ∧ Hid (Below w.heap.size w wr)) (fun v _ => i + 2 + k - (intOf v).toNat)
      case atStart => exact ⟨i + 2, Nat.le_refl _, by omega, by simp, HP2, HB2⟩
      case round =>
        obtain ⟨j, hjl, hjh, rfl, HPR, HBR⟩ := hrel
        obtain ⟨c0, c1, c2⟩ := HPR.out.cells
        have hgr := hP
        by_cases hlt : j < i + 2 + k
        · obtain ⟨hj, hp, hlo, hhi⟩ := HIN.out j hjl hlt
          have hji : (j : Int) < (P.size : Int) := by omega
          have hj0 : (0 : Int) ≤ (j : Int) := by omega
          have hl1 : decide ((97 : Int) ≤ (P[j].toNat : Int)) = true := decide_eq_true (by omega)
          have hl2 : decide ((P[j].toNat : Int) ≤ 122) = true := decide_eq_true (by omega)
          have C3 := HK.out j P[j] (j : Int) (P[j].toNat : Int) rfl rfl
          rw [hp] at C3
          have H1 := Lib.hid (grown_call (wb := wr) fun W _ => C3 W)
          have f0 := grown_cell c0
          have f1 := grown_cell c1
          have f2 := grown_cell c2
          clear C3 c0 c1 c2
          go_upto_region 4 with fail
          refine wp_region_grown (by kernel_rfl) (by kernel_rfl) ?_
          repeat (first | go_big_quiet_skip | (go_big_quiet_want; go_big_quiet_op; (first | go_big_quiet_on | (with_reducible refine ⟨_, H1.out, ?_⟩; go_big_quiet_on))))
          refine wpQuiet_nil ?_
          intro w5 hw5
          have hbg : Below wr.heap.size wr w5 := by obtain ⟨x, rfl⟩ := hw5; exact x.below
          have HP5 := Lib.hid (HPR.out.below hbg)
          have HB5 := Lib.hid (below_two HBR.out hbg)
          clear hw5 hbg f0 f1 f2
          go_wp2_with fail
          go_roundw
          case rel => exact ⟨j + 1, by omega, by omega, by simp, HP5, HB5⟩
          case measure => simp only [intOf]; omega
        · have hKk : j = i + 2 + k := by omega
          have HKK := Lib.hid hKk
          clear hKk
          have hst : (decide (j < P.size) = false ∧ (False → Calls Tryz.prog 32 #[] w fun _ _ => True)) ∨ ∃ hj : j < P.size, ((∀ W, Calls Tryz.prog 32 #[.agg #[.string P, .string Q, .slice a n cap], .int .i64 (j : Int), .int .u8 (P[j].toNat : Int)] W fun e w' => e = .returned (.bool false) ∧ Below W.heap.size W w') ∨
              (∀ W, Calls Tryz.prog 32 #[.agg #[.string P, .string Q, .slice a n cap], .int .i64 (j : Int), .int .u8 (P[j].toNat : Int)] W fun e w' => e = .returned (.bool true) ∧ Below W.heap.size W w') ∧ (decide ((97 : Int) ≤ (P[j].toNat : Int)) = false ∨ decide ((97 : Int) ≤ (P[j].toNat : Int)) = true ∧ decide ((P[j].toNat : Int) ≤ 122) = false)) := by
            by_cases hj : j < P.size
            · refine Or.inr ⟨hj, ?_⟩
              have ho := HOUT.out j HKK.out hj
              have C3 := HK.out j P[j] (j : Int) (P[j].toNat : Int) rfl rfl
              cases hp : isP L j P[j] with
              | false => rw [hp] at C3; exact Or.inl C3
              | true =>
                rw [hp] at C3 ho
                refine Or.inr ⟨C3, ?_⟩
                by_cases h97 : 97 ≤ P[j].toNat
                · refine Or.inr ⟨decide_eq_true (by omega), decide_eq_false fun h122 => ?_⟩
                  rw [decide_eq_true h97, decide_eq_true (show P[j].toNat ≤ 122 by omega)] at ho
                  cases ho
                · exact Or.inl (decide_eq_false (by omega))
            · exact Or.inl ⟨decide_eq_false hj, fun h => h.elim⟩
          have hj0 : (0 : Int) ≤ (j : Int) := by omega
          have C4 := HK.out j 58 (j : Int) 58 rfl rfl
          have C5 := HK.out (j + 1) 93 ((j : Int) + 1) 93 (by omega) rfl
          clear HOUT HIN HK
          cases h4 : isP L j 58
          case' true => cases h5 : isP L (j + 1) 93
          all_goals
            rw [h4] at C4
            first | rw [h5] at C5 | skip
            rcases hst with ⟨hji, -⟩ | ⟨hj, C3 | ⟨C3, hl1 | ⟨hl1, hl2⟩⟩⟩
            all_goals
              first | (have hji : (j : Int) < (P.size : Int) := Int.ofNat_lt.2 hj) | skip
              first | have H1 := Lib.hid (grown_call (wb := wr) fun W _ => C3 W) | have H1 := Lib.hid trivial
              have f0 := grown_cell c0
              have f1 := grown_cell c1
              have f2 := grown_cell c2
              clear c0 c1 c2
              first | clear C3 | skip
              go_upto_region 4 with fail
              refine wp_region_grown (by kernel_rfl) (by kernel_rfl) ?_
              repeat (first | go_big_quiet_skip | (go_big_quiet_want; go_big_quiet_op; (first | go_big_quiet_on | (with_reducible refine ⟨_, H1.out, ?_⟩; go_big_quiet_on))))
              refine wpQuiet_nil ?_
              intro w5 hw5
              have hbg : Below wr.heap.size wr w5 := by obtain ⟨x, rfl⟩ := hw5; exact x.below
              have HP5 := Lib.hid (HPR.out.below hbg)
              have HB5 := Lib.hid (below_two HBR.out hbg)
              obtain ⟨c0, c1, c2⟩ := HP5.out.cells
              clear hw5 hbg f0 f1 f2
              go_wp2_with fail
              refine (C4 _).mono ?_
              rintro e w6 ⟨rfl, hb⟩
              have HB6 := Lib.hid (below_two HB5.out hb)
              obtain ⟨c0, c1, c2⟩ := (HP5.out.below hb).cells
              clear hb
              go_wp2_with fail
              first
              | (go_ret2; exact ⟨by rw [← HKK.out, h4]; rfl, HB6.out⟩)
              | (refine (C5 _).mono ?_
                 rintro e w7 ⟨rfl, hb⟩
                 have HB7 := Lib.hid (below_two HB6.out hb)
                 clear hb
                 go_wp2_with fail
                 go_ret2
                 exact ⟨by rw [← HKK.out, h4, h5]; rfl, HB7.out⟩)
end Go.Proofs.YtclhpedecimicaaGreat

namespace Go.Proofs.YtclhpedecimicaaGreat
set_option maxRecDepth 100000
open Go Go.RowKit

theorem mbN_cls {L : Pl} {k : Nat} (hc : clsE L = some k) : mbN L = k + 4 := by unfold mbN; rw [hc]
theorem mbN_three {L : Pl} (hc : clsE L = none) (hr : rngB L = true) : mbN L = 3 := by unfold mbN; rw [hc]; simp [hr]
theorem mbN_one {L : Pl} (hc : clsE L = none) (hr : rngB L = false) : mbN L = 1 := by unfold mbN; rw [hc]; simp [hr]
theorem mbF_cls {L : Pl} {k : Nat} (hc : clsE L = some k) : mbF L = .cls (((L.drop 2).take k).map Prod.fst) := by unfold mbF; rw [hc]
theorem mbF_three {L : Pl} (hc : clsE L = none) (hr : rngB L = true) : mbF L = .span (byteAt L 0) (byteAt L 2) := by unfold mbF; rw [hc]; simp [hr]
theorem mbF_one {L : Pl} (hc : clsE L = none) (hr : rngB L = false) : mbF L = .span (byteAt L 0) (byteAt L 0) := by unfold mbF; rw [hc]; simp [hr]

set_option maxHeartbeats 1000000 in
theorem lbehind (P Q : ByteArray) (hP : P.size ≤ 100000) (a : Option Addr) (n cap i : Nat) (hi : i ≤ P.size) (x : Int) (hx : x = (i : Int)) (w : World) : Calls Tryz.prog 136 #[.agg #[.string P, .string Q, .slice a n cap], .int .i64 x] w fun e w' => e = .returned (.int .i64 ((i + mbN ((plL P.data.toList Q.data.toList).drop i) : Nat) : Int)) ∧ Below w.heap.size w w' := by
  subst hx
  have HB := Lib.hid (below_box w (.cells #[.string P, .string Q, .slice a n cap] 73))
  have HP := Lib.hid (PatAt.new w P Q a n cap)
  have C1 := fun W => lclassEnd P Q hP a n cap i hi (i : Int) rfl W
  have C2 := fun W => lranges P Q hP a n cap i hi (i : Int) rfl W
  obtain ⟨L, hL⟩ : ∃ L, L = plL P.data.toList Q.data.toList := ⟨_, rfl⟩
  rw [← hL] at C1 C2 ⊢
  clear hL
  cases hc : clsE (L.drop i) with
  | some k =>
    have hm := mbN_cls hc
    rw [hm]
    rw [clsX_some hc] at C1
    clear hm hc
    go_enter Tryz.func136, Tryz.ntmps136
    go_wp2_with fail
    refine (C1 _).mono ?_
    rintro e w1 ⟨rfl, hb⟩
    have HB1 := Lib.hid (below_two HB.out hb)
    clear hb
    go_wp2_with fail
    go_ret
    exact ⟨rfl, HB1.out⟩
  | none =>
    obtain ⟨X, hX⟩ : ∃ X, clsX L i = (X, false) := ⟨_, Prod.ext rfl (clsX_none hc)⟩
    rw [hX] at C1
    clear hX
    cases hr : rngB (L.drop i)
    all_goals
      rw [hr] at C2
      first | have hm := mbN_three hc hr | have hm := mbN_one hc hr
      rw [hm]
      clear hm hc hr
      go_enter Tryz.func136, Tryz.ntmps136
      go_wp2_with fail
      refine (C1 _).mono ?_
      rintro e w1 ⟨rfl, hb⟩
      have HB1 := Lib.hid (below_two HB.out hb)
      obtain ⟨c0, c1, c2⟩ := (HP.out.below hb).cells
      clear hb
      go_wp2_with fail
      refine (C2 _).mono ?_
      rintro e w2 ⟨rfl, hb⟩
      have HB2 := Lib.hid (below_two HB1.out hb)
      clear hb
      go_wp2_with fail
      go_ret
      exact ⟨rfl, HB2.out⟩

set_option maxHeartbeats 1000000 in
theorem ljust (c : UInt8) (x : Int) (hx : x = (c.toNat : Int)) (w : World) : Calls Tryz.prog 138 #[.int .u8 x] w fun e w' => e = .returned (.iface 196 (.agg #[.int .u8 (c.toNat : Int), .int .u8 (c.toNat : Int)])) ∧ w = w' := by
  subst hx
  go_enter Tryz.func138, Tryz.ntmps138
  go_wp2_with fail
  go_ret
  exact ⟨rfl, rfl⟩

/-- A member as the landed code has it. -/
def mbV : Mb → Value
  | .span a b => .iface 196 (.agg #[.int .u8 (a.toNat : Int), .int .u8 (b.toNat : Int)])
  | .cls s => .iface 197 (.string ⟨s.toArray⟩)
theorem byte_pl (P Q : ByteArray) (i j : Nat) (h : i + j < P.size) : byteAt ((plL P.data.toList Q.data.toList).drop i) j = P[i + j] := by
  unfold byteAt
  rw [List.getElem?_drop, pl_at P Q _ h]
theorem pl_fst : ∀ (p q : List UInt8), (plL p q).map Prod.fst = p
  | [], _ => rfl
  | a :: p, [] => by simp [plL, pl_fst p []]
  | a :: p, b :: q => by simp [plL, pl_fst p q]
theorem name_text (P Q : ByteArray) (i k : Nat) : (P.extract (i + 2) (i + k + 2)).data.toList = ((((plL P.data.toList Q.data.toList).drop i).drop 2).take k).map Prod.fst := by
  rw [List.map_take, List.map_drop, List.map_drop, pl_fst, extract_list, List.drop_drop, List.drop_take]
  congr 1
  omega

set_option maxHeartbeats 1000000 in
theorem lmember (P Q : ByteArray) (hP : P.size ≤ 100000) (a : Option Addr) (n cap i : Nat) (hi : i < P.size) (x : Int) (hx : x = (i : Int)) (w : World) : Calls Tryz.prog 142 #[.agg #[.string P, .string Q, .slice a n cap], .int .i64 x] w fun e w' => e = .returned (mbV (mbF ((plL P.data.toList Q.data.toList).drop i))) ∧ Below w.heap.size w w' := by
  subst hx
  have HB := Lib.hid (below_box w (.cells #[.string P, .string Q, .slice a n cap] 73))
  have HP := Lib.hid (PatAt.new w P Q a n cap)
  have C1 := fun W => lclassEnd P Q hP a n cap i (by omega) (i : Int) rfl W
  have C2 := fun W => lranges P Q hP a n cap i (by omega) (i : Int) rfl W
  have HN := Lib.hid (name_text P Q i)
  have HBY := Lib.hid (byte_pl P Q i)
  have HL := Lib.hid (show ((plL P.data.toList Q.data.toList).drop i).length = P.size - i by rw [List.length_drop, pl_len, size_data])
  obtain ⟨L, hL⟩ : ∃ L, L = plL P.data.toList Q.data.toList := ⟨_, rfl⟩
  rw [← hL] at C1 C2 HN HBY HL ⊢
  clear hL
  cases hc : clsE (L.drop i) with
  | some k =>
    have hik : i + k + 4 ≤ P.size := by
      have h := isP_lt (clsE_some hc).2.2.2.2
      rw [HL.out] at h
      omega
    have HV := Lib.hid (show mbV (mbF (L.drop i)) = .iface 197 (.string (P.extract (i + 2) (i + k + 2))) by
      rw [mbF_cls hc, ← HN.out k]; rfl)
    rw [HV.out]
    rw [clsX_some hc] at C1
    clear hc
    have HSL := fun W => run_slice_string (P := Tryz.prog) (w := W) 9 P .i64 .i64 ((i : Int) + 2) ((i : Int) + (k : Int) + 4 - 2) Tryz.underlying9 (by omega) (by omega) (by omega)
    rw [show ((i : Int) + 2).toNat = i + 2 by omega, show ((i : Int) + (k : Int) + 4 - 2).toNat = i + k + 2 by omega] at HSL
    go_enter Tryz.func142, Tryz.ntmps142
    go_wp2_with fail
    refine (C1 _).mono ?_
    rintro e w1 ⟨rfl, hb⟩
    have HB1 := Lib.hid (below_two HB.out hb)
    obtain ⟨c0, c1, c2⟩ := (HP.out.below hb).cells
    clear hb
    go_wp2_with fail
    go_ret
    exact ⟨rfl, HB1.out⟩
  | none =>
    obtain ⟨X, hX⟩ : ∃ X, clsX L i = (X, false) := ⟨_, Prod.ext rfl (clsX_none hc)⟩
    rw [hX] at C1
    clear hX
    have hii : (i : Int) < (P.size : Int) := by omega
    cases hr : rngB (L.drop i) with
    | true =>
      rw [hr] at C2
      have h2 : i + 2 < P.size := by
        unfold rngB at hr
        simp only [Bool.and_eq_true, decide_eq_true_eq] at hr
        have := hr.2.1
        rw [HL.out] at this
        omega
      have HV := Lib.hid (show mbV (mbF (L.drop i)) = .iface 196 (.agg #[.int .u8 (P[i].toNat : Int), .int .u8 (P[i + 2].toNat : Int)]) by
        rw [mbF_three hc hr, HBY.out 0 hi, HBY.out 2 h2]; rfl)
      rw [HV.out]
      have h2i : (i : Int) + 2 < (P.size : Int) := by omega
      clear hc hr
      go_enter Tryz.func142, Tryz.ntmps142
      go_wp2_with fail
      refine (C1 _).mono ?_
      rintro e w1 ⟨rfl, hb⟩
      have HB1 := Lib.hid (below_two HB.out hb)
      have HP1 := Lib.hid (HP.out.below hb)
      obtain ⟨c0, c1, c2⟩ := HP1.out.cells
      clear hb
      go_wp2_with fail
      refine (C2 _).mono ?_
      rintro e w2 ⟨rfl, hb⟩
      have HB2 := Lib.hid (below_two HB1.out hb)
      obtain ⟨c0, c1, c2⟩ := (HP1.out.below hb).cells
      clear hb
      go_upto_region 5 with fail
      have f0 := grown_cell c0
      have hi0 : (0 : Int) ≤ (i : Int) := by omega
      have hi2 : (0 : Int) ≤ (i : Int) + 2 := by omega
      clear c0 c1 c2
      refine wp_region_grown (by kernel_rfl) (by kernel_rfl) ?_
      repeat (first | go_big_quiet_skip | (go_big_quiet_want; go_big_quiet_op; go_big_quiet_on))
      refine wpQuiet_nil ?_
      intro w5 hw5
      have hbg : Below w2.heap.size w2 w5 := by obtain ⟨x, rfl⟩ := hw5; exact x.below
      have HB5 := Lib.hid (below_two HB2.out hbg)
      clear hw5 hbg f0
      go_wp2_with fail
      go_ret
      exact ⟨rfl, HB5.out⟩
    | false =>
      rw [hr] at C2
      have HV := Lib.hid (show mbV (mbF (L.drop i)) = .iface 196 (.agg #[.int .u8 (P[i].toNat : Int), .int .u8 (P[i].toNat : Int)]) by
        rw [mbF_one hc hr, HBY.out 0 hi]; rfl)
      rw [HV.out]
      clear hc hr
      have C3 := fun W => ljust P[i] (P[i].toNat : Int) rfl W
      go_enter Tryz.func142, Tryz.ntmps142
      go_wp2_with fail
      refine (C1 _).mono ?_
      rintro e w1 ⟨rfl, hb⟩
      have HB1 := Lib.hid (below_two HB.out hb)
      have HP1 := Lib.hid (HP.out.below hb)
      obtain ⟨c0, c1, c2⟩ := HP1.out.cells
      clear hb
      go_wp2_with fail
      refine (C2 _).mono ?_
      rintro e w2 ⟨rfl, hb⟩
      have HB2 := Lib.hid (below_two HB1.out hb)
      obtain ⟨c0, c1, c2⟩ := (HP1.out.below hb).cells
      clear hb
      go_wp2_with fail
      refine (C3 _).mono ?_
      rintro e w3 ⟨rfl, rfl⟩
      go_wp2_with fail
      go_ret
      exact ⟨rfl, HB2.out⟩
end Go.Proofs.YtclhpedecimicaaGreat

namespace Go.Proofs.YtclhpedecimicaaGreat
set_option maxRecDepth 100000
open Go Go.RowKit

def clAt (L : Pl) (j : Nat) : Int := match clE (L.drop j) with | some k => ((j + k : Nat) : Int) | none => -1
def closesL (L : Pl) : List Value := (List.range (L.length + 1)).map fun j => Value.int .i64 (clAt L j)
theorem closes_get (L : Pl) (j : Nat) (h : j ≤ L.length) : (closesL L)[j]? = some (.int .i64 (clAt L j)) := by
  unfold closesL
  rw [List.getElem?_map, List.getElem?_range (by omega)]
  rfl
theorem closes_len (L : Pl) : (closesL L).length = L.length + 1 := by simp [closesL]
theorem clAt_end (L : Pl) : clAt L L.length = -1 := by
  unfold clAt
  rw [List.drop_length, clE_nil]
theorem clAt_yes {L : Pl} {j : Nat} (h : isP L j 93 = true) : clAt L j = (j : Int) := by
  unfold clAt
  rw [clE_yes (by rw [isP_drop]; exact h)]
  simp
theorem clAt_more {L : Pl} {j : Nat} (hj : j < L.length) (h : isP L j 93 = false) : clAt L j = clAt L (j + mbN (L.drop j)) := by
  have hL : L.drop j ≠ [] := by
    intro e
    have := congrArg List.length e
    rw [List.length_drop] at this
    simp at this; omega
  unfold clAt
  rw [clE_more hL (by rw [isP_drop]; exact h), List.drop_drop]
  cases clE (L.drop (j + mbN (L.drop j))) with
  | none => rfl
  | some k => simp only [Option.map_some]; congr 1; omega

/-- So many places, from the end on, are told. -/
def ClR (L : Pl) (K : Nat) (l : List Value) : Prop := l.length = L.length + 1 ∧ ∀ j, L.length - K ≤ j → j ≤ L.length → l[j]? = some (.int .i64 (clAt L j))
theorem ClR.all {L : Pl} {l : List Value} (h : ClR L L.length l) : l = closesL L := by
  apply List.ext_getElem?
  intro j
  by_cases hj : j ≤ L.length
  · rw [h.2 j (by omega) hj, closes_get L j hj]
  · rw [List.getElem?_eq_none (by rw [h.1]; omega), List.getElem?_eq_none (by rw [closes_len]; omega)]
theorem ClR.next {L : Pl} {K at_ : Nat} {l : List Value} (h : ClR L K l) (hK : at_ + K + 1 = L.length) (v : Int) (hv : v = clAt L at_) : ClR L (K + 1) (l.set at_ (.int .i64 v)) := by
  refine ⟨by rw [List.length_set]; exact h.1, fun j h1 h2 => ?_⟩
  rw [List.getElem?_set]
  by_cases e : at_ = j
  · subst e
    rw [if_pos rfl, if_pos (by rw [h.1]; omega), hv]
  · rw [if_neg e]
    exact h.2 j (by omega) h2

set_option maxHeartbeats 4000000 in
theorem lclosings (P Q : ByteArray) (hP : P.size ≤ 100000) (a : Option Addr) (n cap : Nat) (w : World) : Calls Tryz.prog 129 #[.agg #[.string P, .string Q, .slice a n cap]] w fun e w' => ∃ g, e = .returned (.slice (some ⟨g, 0, none⟩) (P.size + 1) (P.size + 1)) ∧ RowAt w' g (closesL (plL P.data.toList Q.data.toList)) 3 ∧ w.heap.size ≤ g ∧ Below w.heap.size w w' := by
  have HB := Lib.hid (below_box w (.cells #[.string P, .string Q, .slice a n cap] 73))
  have HP := Lib.hid (PatAt.new w P Q a n cap)
  have HK := Lib.hid (fun j c x y hx hy W => lplain P Q a n cap j c x y hx hy W)
  have HM := Lib.hid (fun j hj x hx W => lbehind P Q hP a n cap j hj x hx W)
  obtain ⟨L, hL⟩ : ∃ L, L = plL P.data.toList Q.data.toList := ⟨_, rfl⟩
  have hLP : L.length = P.size := by rw [hL, pl_len, size_data]
  rw [← hL] at HK HM ⊢
  have HLP := Lib.hid hLP
  clear hL hLP
  obtain ⟨w1, hw1⟩ : ∃ w1, w1 = w.alloc (.cells #[.string P, .string Q, .slice a n cap] 73) := ⟨_, rfl⟩
  rw [← hw1] at HB HP
  have hs1 : w1.heap.size = w.heap.size + 1 := by rw [hw1]; simp
  have hmk := run_make_ints w1 ((P.size : Int) + 1) (P.size + 1) (by omega) (by omega)
  obtain ⟨w2, hw2⟩ : ∃ w2, w2 = w1.alloc (.cells (List.replicate (P.size + 1) (.int .i64 0)).toArray 3) := ⟨_, rfl⟩
  rw [← hw2] at hmk
  have hb2 : Below w1.heap.size w1 w2 := by rw [hw2]; exact below_box _ _
  have hR2 : RowAt w2 w1.heap.size (List.replicate (P.size + 1) (.int .i64 0)) 3 := by rw [hw2]; exact new_block _ _
  have HP2 := Lib.hid (HP.out.below hb2)
  have HB2 := Lib.hid (below_two HB.out hb2)
  have HS1 := Lib.hid hs1
  obtain ⟨C, hC⟩ : ∃ C, C = w1.heap.size := ⟨_, rfl⟩
  rw [← hC] at hmk hR2
  have HC := Lib.hid (show w.heap.size < C by omega)
  have hfr := hR2.free P.size
  have hR3 := hR2.set P.size (.int .i64 (-1))
  obtain ⟨w3, hw3⟩ : ∃ w3, w3 = w2.setCell ⟨C, P.size, none⟩ (.int .i64 (-1)) := ⟨_, rfl⟩
  rw [← hw3] at hR3
  have HR3 := Lib.hid hR3
  have hcell : w2.cell? ⟨C, P.size, none⟩ = some (.int .i64 0) := hR2.cell (by rw [List.getElem?_replicate, if_pos (by omega)])
  have HP3 := Lib.hid (show PatAt w3 w.heap.size P Q a n cap by rw [hw3]; exact HP2.out.other (by have := HC.out; omega) _ _)
  have HB3 := Lib.hid (show Below w.heap.size w w3 by rw [hw3]; exact HB2.out.setCell (show w.heap.size ≤ C from Nat.le_of_lt HC.out) _)
  have HW3 := Lib.hid hw3
  clear hb2 hR3 hR2 hs1 hC hw2 hw3
  go_enter Tryz.func129, Tryz.ntmps129
  go_upto_region 2 with fail
  rw [← hw1]
  clear hw1
  go_wp2_with fail
  rw [← HW3.out]
  clear HW3 hmk hcell hfr
  go_loopw [5, 6, 17] (fun _ _ v wr => ∃ K : Nat, K ≤ P.size ∧ v = .int .i64 (K : Int) ∧ Hid (∃ l, RowAt wr C l 3 ∧ ClR L K l) ∧ Hid (PatAt wr w.heap.size P Q a n cap) ∧ Hid (Below w.heap.size w wr)) (fun _ _ v _ => P.size - (intOf v).toNat)
  case atStart =>
    refine ⟨0, Nat.zero_le _, rfl, ⟨_, HR3.out, by rw [List.length_set, List.length_replicate, HLP.out], fun j h1 h2 => ?_⟩, HP3, HB3⟩
    have e : j = P.size := by have := HLP.out; omega
    subst e
    rw [List.getElem?_set_self (by rw [List.length_replicate]; omega), ← HLP.out, clAt_end]
  case round =>
    obtain ⟨K, hK, rfl, HLR, HPR, HBR⟩ := hrel
    obtain ⟨l, hR, hCl⟩ := HLR.out
    by_cases hlt : K < P.size
    · obtain ⟨p, hp⟩ : ∃ p, p + K + 1 = P.size := ⟨P.size - 1 - K, by omega⟩
      have hpe : (P.size : Int) - 1 - (K : Int) = (p : Int) := by omega
      have hpP : p < P.size := by omega
      have HPE := Lib.hid hp
      clear hp
      obtain ⟨c0, c1, c2⟩ := HPR.out.cells
      have C1 := HK.out p 93 (p : Int) 93 rfl rfl
      have C2 := HM.out p (by omega) (p : Int) rfl
      have hfr := hR.free p
      obtain ⟨old, hold⟩ : ∃ v, l[p]? = some v := ⟨l[p]'(by rw [hCl.1, HLP.out]; omega), List.getElem?_eq_getElem _⟩
      have hcell := hR.cell hold
      cases hq : isP L p 93 with
      | true =>
        rw [hq] at C1
        have HN := Lib.hid (hCl.next (at_ := p) (by rw [HPE.out, HLP.out]) (p : Int) (clAt_yes hq).symm)
        go_wp2_with fail
        refine (C1 _).mono ?_
        rintro e w5 ⟨rfl, hb⟩
        have hR5 := hR.below hb
        have hfr5 := hR5.free p
        have hcell5 := hR5.cell hold
        have HW := Lib.hid (show ∃ w6, w6 = w5.setCell ⟨C, p, none⟩ (.int .i64 (p : Int)) ∧ RowAt w6 C (l.set p (.int .i64 (p : Int))) 3 ∧ PatAt w6 w.heap.size P Q a n cap ∧ Below w.heap.size w w6 from
          ⟨_, rfl, hR5.set p _, (HPR.out.below hb).other (by have := HC.out; omega) _ _, (below_two HBR.out hb).setCell (show w.heap.size ≤ C from Nat.le_of_lt HC.out) _⟩)
        clear hb hR hR5 hcell hfr
        go_wp2_with fail
        obtain ⟨w6, hw6, hR6, hP6, hB6⟩ := HW.out
        rw [← hw6]
        go_roundw
        case rel => exact ⟨K + 1, by omega, by simp, ⟨_, hR6, HN.out⟩, hP6, hB6⟩
        case measure => simp only [intOf]; omega
      | false =>
        rw [hq] at C1
        obtain ⟨m, hm⟩ : ∃ m, m = p + mbN (L.drop p) := ⟨_, rfl⟩
        have hml : p < m ∧ m ≤ P.size := by
          have h1 := mbN_pos (L.drop p)
          have hL0 : L.drop p ≠ [] := by
            intro e
            have := congrArg List.length e
            rw [List.length_drop, HLP.out] at this
            simp at this; omega
          have h2 := mbN_le hL0
          rw [List.length_drop, HLP.out] at h2
          omega
        rw [← hm] at C2
        have hlm := hCl.2 m (by have := HPE.out; have := HLP.out; omega) (by rw [HLP.out]; exact hml.2)
        have hcm : clAt L p = clAt L m := by rw [hm]; exact clAt_more (by rw [HLP.out]; exact hpP) hq
        have HN := Lib.hid (hCl.next (at_ := p) (by rw [HPE.out, HLP.out]) (clAt L m) hcm.symm)
        obtain ⟨V, hV⟩ : ∃ V, V = clAt L m := ⟨_, rfl⟩
        rw [← hV] at HN hlm
        have hm1 : p < m := hml.1
        have hm2 : m ≤ P.size := hml.2
        clear hcm hV hm hml
        go_wp2_with fail
        refine (C1 _).mono ?_
        rintro e w5 ⟨rfl, hb⟩
        have HR5 := Lib.hid (hR.below hb)
        have HP5 := Lib.hid (HPR.out.below hb)
        have HB5 := Lib.hid (below_two HBR.out hb)
        obtain ⟨c0, c1, c2⟩ := HP5.out.cells
        clear hb hR hcell hfr
        go_wp2_with fail
        refine (C2 _).mono ?_
        rintro e w7 ⟨rfl, hb⟩
        have hR7 := HR5.out.below hb
        have hfr7 := hR7.free p
        have hcell7 := hR7.cell hold
        have hcellm := hR7.cell hlm
        have HW := Lib.hid (show ∃ w6, w6 = w7.setCell ⟨C, p, none⟩ (.int .i64 V) ∧ RowAt w6 C (l.set p (.int .i64 V)) 3 ∧ PatAt w6 w.heap.size P Q a n cap ∧ Below w.heap.size w w6 from
          ⟨_, rfl, hR7.set p _, (HP5.out.below hb).other (by have := HC.out; omega) _ _, (below_two HB5.out hb).setCell (show w.heap.size ≤ C from Nat.le_of_lt HC.out) _⟩)
        clear hb hR7 hlm
        go_wp2_with fail
        obtain ⟨w6, hw6, hR6, hP6, hB6⟩ := HW.out
        rw [← hw6]
        go_roundw
        case rel => exact ⟨K + 1, by omega, by simp, ⟨_, hR6, HN.out⟩, hP6, hB6⟩
        case measure => simp only [intOf]; omega
    · have hKK : K = P.size := by omega
      have HE := Lib.hid (show l = closesL L by rw [hKK, ← HLP.out] at hCl; exact hCl.all)
      have HR := Lib.hid hR
      clear hKK hR
      go_wp2_with fail
      go_ret
      exact ⟨C, rfl, by rw [← HE.out]; exact HR.out, Nat.le_of_lt HC.out, HBR.out⟩
end Go.Proofs.YtclhpedecimicaaGreat

namespace Go.Proofs.YtclhpedecimicaaGreat
set_option maxRecDepth 100000
open Go Go.RowKit

theorem mbV_iface (x : Mb) : ∃ t v, mbV x = .iface t v := by cases x <;> exact ⟨_, _, rfl⟩
theorem setR_len {L : Pl} {q E p : Nat} {F ms : List Mb} (h : SetR L q E F p ms) : ms.length ≤ F.length := by
  obtain ⟨-, -, ⟨rfl, -⟩ | ⟨h3, -⟩⟩ := h
  · simp
  · rw [h3]; simp
theorem own_below {B : Nat} {t : TypeId} {w W : World} {v : Value} {n : Nat} {xs : List Value} (h : w.ownsRow B t 1 v n xs) (hb : Below w.heap.size w W) : W.ownsRow B t 1 v n xs :=
  h.kept (row := none) ⟨hb.os, hb.tape, hb.output, hb.size, fun k hk _ => hb.block k hk⟩ (by
    cases hv : v.ownBlock with
    | none => exact Or.inl rfl
    | some k => exact Or.inr (by simp))
theorem mbsF_len : ∀ (f : Nat) (L : Pl), L.length < f → (mbsF f L).length ≤ L.length
  | 0, _, h => by omega
  | f + 1, L, h => by
    unfold mbsF
    split
    · simp
    · rename_i hL
      split
      · simp
      · have h3 := mbN_pos L
        have h4 := List.length_pos_iff.2 hL
        have := mbsF_len f (L.drop (mbN L)) (by rw [List.length_drop]; omega)
        rw [List.length_drop] at this
        simp only [List.length_cons]; omega
theorem mbs_len (L : Pl) : (mbs L).length ≤ L.length := mbsF_len _ _ (by omega)
theorem grown_blk {F k : Nat} {t : TypeId} {wn w6 : World} {ob o : Obj} {v : Value} {n : Nat} {xs : List Value} (h : wn.ownsRow (F + 1) t 1 v n xs) (hg : (wn.alloc ob).grownBy w6 v.ownBlock) (hk : wn.heap[k]? = some o) (hkF : k ≤ F) : w6.heap[k]? = some o := by
  have h1 := kept (below_box wn ob) hk
  rw [hg.block k (lt_of_block h1) (fun e => by have := (h.lt k e.symm).1; omega)]
  exact h1
theorem own_set {F j : Nat} {t : TypeId} {w : World} {v u : Value} {n : Nat} {xs : List Value} (h : w.ownsRow (F + 1) t 1 v n xs) : (w.setCell ⟨F, j, none⟩ u).ownsRow (F + 1) t 1 v n xs :=
  h.kept (row := some F) ⟨rfl, rfl, rfl, by rw [set_size]; exact Nat.le_refl _, fun k _ hne => Below.heap_setCell _ _ _ _ (fun e => hne (by rw [e]))⟩ (by
    cases hv : v.ownBlock with
    | none => exact Or.inl rfl
    | some k => refine Or.inr fun e => ?_; have := (h.lt k hv).1; cases e; omega)
theorem own_set_low {B k j : Nat} {t : TypeId} {w : World} {v u : Value} {n : Nat} {xs : List Value} (hk : k < B) (h : w.ownsRow B t 1 v n xs) : (w.setCell ⟨k, j, none⟩ u).ownsRow B t 1 v n xs :=
  h.kept (row := some k) ⟨rfl, rfl, rfl, by rw [set_size]; exact Nat.le_refl _, fun i _ hne => Below.heap_setCell _ _ _ _ (fun e => hne (by rw [e]))⟩ (by
    cases hv : v.ownBlock with
    | none => exact Or.inl rfl
    | some i => refine Or.inr fun e => ?_; have := (h.lt i hv).1; cases e; omega)
theorem own_weak {B B' : Nat} {t : TypeId} {w : World} {v : Value} {n : Nat} {xs : List Value} (h : w.ownsRow B t 1 v n xs) (hb : B' ≤ B) : w.ownsRow B' t 1 v n xs := by
  obtain ⟨h1, h2 | ⟨g, cap, cur, a, b, r⟩⟩ := h
  · exact ⟨h1, Or.inl h2⟩
  · exact ⟨h1, Or.inr ⟨g, cap, cur, a, Nat.le_trans hb b, r⟩⟩
/-- What set answers. -/
def SetAns (w : World) (i : Nat) : Option (Bool × List Mb × Nat) → Ending → World → Prop
  | none, e, w' => e = .returned (.tuple #[.agg #[.bool false, .slice none 0 0], .int .i64 0, .bool false]) ∧ Below w.heap.size w w'
  | some (t, l, n), e, w' => ∃ v, e = .returned (.tuple #[.agg #[.bool t, v], .int .i64 ((i + n : Nat) : Int), .bool true]) ∧ w'.ownsRow w.heap.size 178 1 v l.length (l.map mbV) ∧ Below w.heap.size w w'
theorem infoWt : (Tryz.prog.info? 178).map (fun i => (i.zero, i.size, i.bytes)) = some (some .nilIface, 1, 16) := by kernel_rfl

theorem below_nextq {n : Nat} {A B B' C : World} (h : Below n A B) (k : Below B'.heap.size B' C) (hn : n ≤ B.heap.size) (e : B'.os = B.os ∧ B'.tape = B.tape ∧ B'.output = B.output ∧ B'.heap = B.heap) : Below n A C := by
  have h' : Below n A B' := ⟨e.1.trans h.os, e.2.1.trans h.tape, e.2.2.1.trans h.output, by rw [e.2.2.2]; exact h.size, by rw [e.2.2.2]; exact h.block⟩
  exact h'.trans (k.mono (by rw [e.2.2.2]; exact hn))

set_option maxHeartbeats 8000000 in
theorem lset (P Q : ByteArray) (hP : P.size ≤ 100000) (g i : Nat) (hi : i ≤ P.size) (x : Int) (hx : x = (i : Int)) (w : World) (hG : RowAt w g (closesL (plL P.data.toList Q.data.toList)) 3) : Calls Tryz.prog 137 #[.agg #[.string P, .string Q, .slice (some ⟨g, 0, none⟩) (P.size + 1) (P.size + 1)], .int .i64 x] w (SetAns w i (setP ((plL P.data.toList Q.data.toList).drop i))) := by
  subst hx
  have HG := Lib.hid hG
  have HK := Lib.hid (fun j c x y hx hy W => lplain P Q (some ⟨g, 0, none⟩) (P.size + 1) (P.size + 1) j c x y hx hy W)
  have HM := Lib.hid (fun j hj x hx W => lbehind P Q hP (some ⟨g, 0, none⟩) (P.size + 1) (P.size + 1) j hj x hx W)
  have HE := Lib.hid (fun j hj x hx W => lmember P Q hP (some ⟨g, 0, none⟩) (P.size + 1) (P.size + 1) j hj x hx W)
  obtain ⟨L, hL⟩ : ∃ L, L = plL P.data.toList Q.data.toList := ⟨_, rfl⟩
  have HLP := Lib.hid (show L.length = P.size by rw [hL, pl_len, size_data])
  rw [← hL] at HK HM HE HG ⊢
  clear hL hG
  obtain ⟨w2, hw2, hb2, hs2, hP2, hR2⟩ := two_boxes w #[.string P, .string Q, .slice (some ⟨g, 0, none⟩) (P.size + 1) (P.size + 1)] #[.bool false, .slice none 0 0] 73 189
  have HW2 := Lib.hid hw2
  have HB2 := Lib.hid hb2
  have HP2 := Lib.hid (show PatAt w2 w.heap.size P Q (some ⟨g, 0, none⟩) (P.size + 1) (P.size + 1) from hP2)
  have HR2 := Lib.hid hR2
  have HS2 := Lib.hid hs2
  clear hw2 hb2 hs2 hP2 hR2
  obtain ⟨q, hq⟩ : ∃ q, q = i + bang (L.drop i) := ⟨_, rfl⟩
  have HQ := Lib.hid hq
  rw [bang_at] at hq
  have C1 := HK.out i 33 (i : Int) 33 rfl rfl
  have hq2 : q ≤ P.size := by
    split at hq
    · rename_i h; have := isP_lt h; have := HLP.out; omega
    · omega
  by_cases hA : q = P.size
  · have HANS := Lib.hid (setP_none HQ.out (Or.inl (by have := HLP.out; omega)))
    rw [HANS.out]
    have hqs : ((q : Int) == (P.size : Int)) = true := by simp [hA]
    have hqs2 : (q == P.size) = true := by simp [hA]
    clear hA HQ HANS
    cases hbb : isP L i 33
    all_goals
      rw [hbb] at C1 hq
      first | (have hqe : (i : Int) + 1 = (q : Int) := by simp at hq; omega) | (obtain rfl : q = i := by simp at hq; omega)
      first | clear hq | skip
      go_enter Tryz.func137, Tryz.ntmps137
      go_wp2_with fail
      rw [← HW2.out]
      refine (C1 _).mono ?_
      rintro e w3 ⟨rfl, hb⟩
      have HP3 := Lib.hid (HP2.out.below hb)
      have HR3 := Lib.hid (kept hb HR2.out)
      have HB3 := Lib.hid (below_two HB2.out hb)
      have hs3 := hb.size
      obtain ⟨c0, c1, c2⟩ := HP3.out.cells
      have r0 := blk_free HR3.out 0
      have r1 := blk_free HR3.out 1
      have e0 := blk_cell HR3.out 0
      have e1 := blk_cell HR3.out 1
      have hl0 : w.heap.size < w3.heap.size := by have := HS2.out; omega
      have hl1 : w.heap.size + 1 < w3.heap.size := by have := HS2.out; omega
      clear hb hs3
      have HPUT := Lib.hid (show ∃ wf, wf = (w3.setCell ⟨w.heap.size + 1, 0, none⟩ (.bool false)).setCell ⟨w.heap.size + 1, 1, none⟩ (.slice none 0 0) ∧ wf.cell? ⟨w.heap.size + 1, 0, none⟩ = some (.bool false) ∧ wf.cell? ⟨w.heap.size + 1, 1, none⟩ = some (.slice none 0 0) ∧ Below w.heap.size w wf from
        ⟨_, rfl, blk_cell (blk_set (blk_set HR3.out 0 _) 1 _) 0, blk_cell (blk_set (blk_set HR3.out 0 _) 1 _) 1, (HB3.out.setCell (show w.heap.size ≤ w.heap.size + 1 by omega) _).setCell (show w.heap.size ≤ w.heap.size + 1 by omega) _⟩)
      go_wp2_with fail
      obtain ⟨wf, hwf, z0, z1, hbf⟩ := HPUT.out
      rw [← hwf]
      have hl2 : w.heap.size + 1 < wf.heap.size := cell_lt z0
      clear hwf
      exact bodyPost_ret (v := .tuple #[.agg #[.bool false, .slice none 0 0], .int .i64 0, .bool false]) (by simp [results, Tryz.results137, go_sem, z0, z1, hl2]) rfl ⟨rfl, hbf.alloc (by have := hbf.size; omega) _⟩
  · have hql : q < P.size := by omega
    have hqs : ((q : Int) == (P.size : Int)) = false := by simp; omega
    have hqs2 : (q == P.size) = false := by simp; omega
    have hqi : (q : Int) < (P.size : Int) := by omega
    obtain ⟨m, hm⟩ : ∃ m, m = q + mbN (L.drop q) := ⟨_, rfl⟩
    have C2 := HM.out q (by omega) (q : Int) rfl
    rw [← hm] at C2
    have hml : q < m ∧ m ≤ P.size := by
      have h1 := mbN_pos (L.drop q)
      have hL0 : L.drop q ≠ [] := by
        intro e
        have := congrArg List.length e
        rw [List.length_drop, HLP.out] at this
        simp at this; omega
      have h2 := mbN_le hL0
      rw [List.length_drop, HLP.out] at h2
      omega
    have hm0 : (0 : Int) ≤ (m : Int) := by omega
    have hm1 : (m : Int) < (P.size : Int) + 1 := by omega
    obtain ⟨V, hV⟩ : ∃ V, V = clAt L m := ⟨_, rfl⟩
    have HGL := Lib.hid (show ∀ W, Below w.heap.size w W → W.cell? ⟨g, m, none⟩ = some (.int .i64 V) from fun W hW => by
      rw [hV]
      exact (HG.out.below hW).cell (closes_get L m (by rw [HLP.out]; exact hml.2)))
    have HM2 := Lib.hid hm
    cases hk : clE (L.drop m) with
    | none =>
      have HANS := Lib.hid (setP_none HQ.out (Or.inr (by rw [← hm]; exact hk)))
      rw [HANS.out]
      have hV1 : V = -1 := by rw [hV]; unfold clAt; rw [hk]
      subst hV1
      clear hV hA hm HQ HANS hk HM2 hml
      cases hbb : isP L i 33
      case false =>
        rw [hbb] at C1 hq
        first | (have hqe : (i : Int) + 1 = (q : Int) := by simp at hq; omega) | (obtain rfl : q = i := by simp at hq; omega)
        first | clear hq | skip
        go_enter Tryz.func137, Tryz.ntmps137
        go_wp2_with fail
        rw [← HW2.out]
        refine (C1 _).mono ?_
        rintro e w3 ⟨rfl, hb⟩
        have HP3 := Lib.hid (HP2.out.below hb)
        have HR3 := Lib.hid (kept hb HR2.out)
        have HB3 := Lib.hid (below_two HB2.out hb)
        have hs3 := hb.size
        obtain ⟨c0, c1, c2⟩ := HP3.out.cells
        have r0 := blk_free HR3.out 0
        have r1 := blk_free HR3.out 1
        have e0 := blk_cell HR3.out 0
        have e1 := blk_cell HR3.out 1
        have hl0 : w.heap.size < w3.heap.size := by have := HS2.out; omega
        have hl1 : w.heap.size + 1 < w3.heap.size := by have := HS2.out; omega
        clear hb hs3
        go_upto_region 6 with fail
        obtain ⟨w4, hw4⟩ : ∃ w4, w4 = w3.alloc (.cells #[.bool false, .slice none 0 0] 189) := ⟨_, rfl⟩
        rw [← hw4]
        have hb4 : Below w3.heap.size w3 w4 := by rw [hw4]; exact below_box _ _
        have HF4 := Lib.hid (show w4.heap[w3.heap.size]? = some (.cells #[.bool false, .slice none 0 0] 189 (0, 0)) by rw [hw4]; exact new_block _ _)
        have HS4 := Lib.hid (show w4.heap.size = w3.heap.size + 1 by rw [hw4]; simp)
        have HP4 := Lib.hid (HP3.out.below hb4)
        have HR4 := Lib.hid (kept hb4 HR3.out)
        have HB4 := Lib.hid (below_two HB3.out hb4)
        clear c0 c1 c2 r0 r1 e0 e1 hw4 hb4
        obtain ⟨F, hF⟩ : ∃ F, F = w3.heap.size := ⟨_, rfl⟩
        rw [← hF] at HF4 HS4 hl0 hl1 ⊢
        clear hF
        have HFK := Lib.hid (show w.heap.size + 1 < F from hl1)
        have H1 := Lib.hid (grown_call (wb := w4) fun W _ => C2 W)
        obtain ⟨c0, c1, c2⟩ := HP4.out.cells
        have f0 := grown_cell c0
        have f1 := grown_cell c1
        have f2 := grown_cell c2
        have f3 := grown_cell (HGL.out _ HB4.out)
        clear c0 c1 c2
        refine wp_region_grown (by kernel_rfl) (by kernel_rfl) ?_
        repeat (first | go_big_quiet_skip | (go_big_quiet_want; go_big_quiet_op; (first | go_big_quiet_on | (with_reducible refine ⟨_, H1.out, ?_⟩; go_big_quiet_on))))
        refine wpQuiet_nil ?_
        intro w5 hw5
        have hbg : Below w4.heap.size w4 w5 := by obtain ⟨x, rfl⟩ := hw5; exact x.below
        have HP5 := Lib.hid (HP4.out.below hbg)
        have HF5 := Lib.hid (kept hbg HF4.out)
        have HR5 := Lib.hid (kept hbg HR4.out)
        have HB5 := Lib.hid (below_two HB4.out hbg)
        have HS5 := Lib.hid (show F < w5.heap.size by have := hbg.size; have := HS4.out; omega)
        clear hw5 hbg f0 f1 f2 f3 H1
        have HPUT := Lib.hid (show ∃ wf, wf = (w5.setCell ⟨w.heap.size + 1, 0, none⟩ (.bool false)).setCell ⟨w.heap.size + 1, 1, none⟩ (.slice none 0 0) ∧ wf.cell? ⟨w.heap.size + 1, 0, none⟩ = some (.bool false) ∧ wf.cell? ⟨w.heap.size + 1, 1, none⟩ = some (.slice none 0 0) ∧ Below w.heap.size w wf from
          ⟨_, rfl, blk_cell (blk_set (blk_set HR5.out 0 _) 1 _) 0, blk_cell (blk_set (blk_set HR5.out 0 _) 1 _) 1, (HB5.out.setCell (show w.heap.size ≤ w.heap.size + 1 by omega) _).setCell (show w.heap.size ≤ w.heap.size + 1 by omega) _⟩)
        have r0 := blk_free HR5.out 0
        have r1 := blk_free HR5.out 1
        have e0 := blk_cell HR5.out 0
        have e1 := blk_cell HR5.out 1
        go_wp2_with fail
        obtain ⟨wf, hwf, z0, z1, hbf⟩ := HPUT.out
        rw [← hwf]
        clear hwf
        exact bodyPost_ret (v := .tuple #[.agg #[.bool false, .slice none 0 0], .int .i64 0, .bool false]) (by simp [results, Tryz.results137, go_sem, z0, z1]) rfl ⟨rfl, hbf⟩
      case true =>
        rw [hbb] at C1 hq
        first | (have hqe : (i : Int) + 1 = (q : Int) := by simp at hq; omega) | (obtain rfl : q = i := by simp at hq; omega)
        first | clear hq | skip
        go_enter Tryz.func137, Tryz.ntmps137
        go_wp2_with fail
        rw [← HW2.out]
        refine (C1 _).mono ?_
        rintro e w3 ⟨rfl, hb⟩
        have HP3 := Lib.hid (HP2.out.below hb)
        have HR3 := Lib.hid (kept hb HR2.out)
        have HB3 := Lib.hid (below_two HB2.out hb)
        have hs3 := hb.size
        obtain ⟨c0, c1, c2⟩ := HP3.out.cells
        have r0 := blk_free HR3.out 0
        have r1 := blk_free HR3.out 1
        have e0 := blk_cell HR3.out 0
        have e1 := blk_cell HR3.out 1
        have hl0 : w.heap.size < w3.heap.size := by have := HS2.out; omega
        have hl1 : w.heap.size + 1 < w3.heap.size := by have := HS2.out; omega
        clear hb hs3
        go_upto_region 6 with fail
        obtain ⟨w4, hw4⟩ : ∃ w4, w4 = w3.alloc (.cells #[.bool true, .slice none 0 0] 189) := ⟨_, rfl⟩
        rw [← hw4]
        have hb4 : Below w3.heap.size w3 w4 := by rw [hw4]; exact below_box _ _
        have HF4 := Lib.hid (show w4.heap[w3.heap.size]? = some (.cells #[.bool true, .slice none 0 0] 189 (0, 0)) by rw [hw4]; exact new_block _ _)
        have HS4 := Lib.hid (show w4.heap.size = w3.heap.size + 1 by rw [hw4]; simp)
        have HP4 := Lib.hid (HP3.out.below hb4)
        have HR4 := Lib.hid (kept hb4 HR3.out)
        have HB4 := Lib.hid (below_two HB3.out hb4)
        clear c0 c1 c2 r0 r1 e0 e1 hw4 hb4
        obtain ⟨F, hF⟩ : ∃ F, F = w3.heap.size := ⟨_, rfl⟩
        rw [← hF] at HF4 HS4 hl0 hl1 ⊢
        clear hF
        have HFK := Lib.hid (show w.heap.size + 1 < F from hl1)
        have H1 := Lib.hid (grown_call (wb := w4) fun W _ => C2 W)
        obtain ⟨c0, c1, c2⟩ := HP4.out.cells
        have f0 := grown_cell c0
        have f1 := grown_cell c1
        have f2 := grown_cell c2
        have f3 := grown_cell (HGL.out _ HB4.out)
        clear c0 c1 c2
        refine wp_region_grown (by kernel_rfl) (by kernel_rfl) ?_
        repeat (first | go_big_quiet_skip | (go_big_quiet_want; go_big_quiet_op; (first | go_big_quiet_on | (with_reducible refine ⟨_, H1.out, ?_⟩; go_big_quiet_on))))
        refine wpQuiet_nil ?_
        intro w5 hw5
        have hbg : Below w4.heap.size w4 w5 := by obtain ⟨x, rfl⟩ := hw5; exact x.below
        have HP5 := Lib.hid (HP4.out.below hbg)
        have HF5 := Lib.hid (kept hbg HF4.out)
        have HR5 := Lib.hid (kept hbg HR4.out)
        have HB5 := Lib.hid (below_two HB4.out hbg)
        have HS5 := Lib.hid (show F < w5.heap.size by have := hbg.size; have := HS4.out; omega)
        clear hw5 hbg f0 f1 f2 f3 H1
        have HPUT := Lib.hid (show ∃ wf, wf = (w5.setCell ⟨w.heap.size + 1, 0, none⟩ (.bool false)).setCell ⟨w.heap.size + 1, 1, none⟩ (.slice none 0 0) ∧ wf.cell? ⟨w.heap.size + 1, 0, none⟩ = some (.bool false) ∧ wf.cell? ⟨w.heap.size + 1, 1, none⟩ = some (.slice none 0 0) ∧ Below w.heap.size w wf from
          ⟨_, rfl, blk_cell (blk_set (blk_set HR5.out 0 _) 1 _) 0, blk_cell (blk_set (blk_set HR5.out 0 _) 1 _) 1, (HB5.out.setCell (show w.heap.size ≤ w.heap.size + 1 by omega) _).setCell (show w.heap.size ≤ w.heap.size + 1 by omega) _⟩)
        have r0 := blk_free HR5.out 0
        have r1 := blk_free HR5.out 1
        have e0 := blk_cell HR5.out 0
        have e1 := blk_cell HR5.out 1
        go_wp2_with fail
        obtain ⟨wf, hwf, z0, z1, hbf⟩ := HPUT.out
        rw [← hwf]
        clear hwf
        exact bodyPost_ret (v := .tuple #[.agg #[.bool false, .slice none 0 0], .int .i64 0, .bool false]) (by simp [results, Tryz.results137, go_sem, z0, z1]) rfl ⟨rfl, hbf⟩
    | some k =>
      obtain ⟨E, hE⟩ : ∃ E, E = m + k := ⟨_, rfl⟩
      have HANS := Lib.hid (setP_some HQ.out (by rw [HLP.out]; exact hql) (by rw [← hm]; exact hk))
      rw [HANS.out]
      have hV1 : V = (E : Int) := by rw [hV, hE]; unfold clAt; rw [hk]
      have hEL : E < P.size := by
        have := (clE_lt _ _ (Nat.le_refl _) k hk).1
        rw [List.length_drop, HLP.out] at this
        omega
      have HN := Lib.hid (show i + (q + mbN (L.drop q) + k + 1 - i) = E + 1 by rw [hE, hm]; have := HQ.out; omega)
      obtain ⟨FL, hFL⟩ : ∃ FL, FL = mbF (L.drop q) :: mbs (L.drop (q + mbN (L.drop q))) := ⟨_, rfl⟩
      have HSR := Lib.hid (show SetR L q E FL q [] from ⟨Nat.le_refl _, by omega, Or.inl ⟨rfl, rfl, by omega, by rw [← hm]; omega, hFL, by rw [← hm, hk]; congr 1; omega⟩⟩)
      have HFLN := Lib.hid (show FL.length ≤ P.size + 1 by
        rw [hFL]
        have h2 := mbs_len (L.drop (q + mbN (L.drop q)))
        rw [List.length_drop, HLP.out] at h2
        simp only [List.length_cons]; omega)
      rw [← hFL]
      subst hV1
      have hEv : ((E : Int) == -1) = false := by rw [beq_eq_false_iff_ne]; omega
      have hqE : q < E := by omega
      clear hV hA hm HANS hk HM2 hml hE hFL
      cases hbb : isP L i 33
      case false =>
        rw [hbb] at C1 hq
        first | (have hqe : (i : Int) + 1 = (q : Int) := by simp at hq; omega) | (obtain rfl : q = i := by simp at hq; omega)
        first | clear hq | skip
        go_enter Tryz.func137, Tryz.ntmps137
        go_wp2_with fail
        rw [← HW2.out]
        refine (C1 _).mono ?_
        rintro e w3 ⟨rfl, hb⟩
        have HP3 := Lib.hid (HP2.out.below hb)
        have HR3 := Lib.hid (kept hb HR2.out)
        have HB3 := Lib.hid (below_two HB2.out hb)
        have hs3 := hb.size
        obtain ⟨c0, c1, c2⟩ := HP3.out.cells
        have r0 := blk_free HR3.out 0
        have r1 := blk_free HR3.out 1
        have e0 := blk_cell HR3.out 0
        have e1 := blk_cell HR3.out 1
        have hl0 : w.heap.size < w3.heap.size := by have := HS2.out; omega
        have hl1 : w.heap.size + 1 < w3.heap.size := by have := HS2.out; omega
        clear hb hs3
        go_upto_region 6 with fail
        obtain ⟨w4, hw4⟩ : ∃ w4, w4 = w3.alloc (.cells #[.bool false, .slice none 0 0] 189) := ⟨_, rfl⟩
        rw [← hw4]
        have hb4 : Below w3.heap.size w3 w4 := by rw [hw4]; exact below_box _ _
        have HF4 := Lib.hid (show w4.heap[w3.heap.size]? = some (.cells #[.bool false, .slice none 0 0] 189 (0, 0)) by rw [hw4]; exact new_block _ _)
        have HS4 := Lib.hid (show w4.heap.size = w3.heap.size + 1 by rw [hw4]; simp)
        have HP4 := Lib.hid (HP3.out.below hb4)
        have HR4 := Lib.hid (kept hb4 HR3.out)
        have HB4 := Lib.hid (below_two HB3.out hb4)
        clear c0 c1 c2 r0 r1 e0 e1 hw4 hb4
        obtain ⟨F, hF⟩ : ∃ F, F = w3.heap.size := ⟨_, rfl⟩
        rw [← hF] at HF4 HS4 hl0 hl1 ⊢
        clear hF
        have HFK := Lib.hid (show w.heap.size + 1 < F from hl1)
        have H1 := Lib.hid (grown_call (wb := w4) fun W _ => C2 W)
        obtain ⟨c0, c1, c2⟩ := HP4.out.cells
        have f0 := grown_cell c0
        have f1 := grown_cell c1
        have f2 := grown_cell c2
        have f3 := grown_cell (HGL.out _ HB4.out)
        clear c0 c1 c2
        refine wp_region_grown (by kernel_rfl) (by kernel_rfl) ?_
        repeat (first | go_big_quiet_skip | (go_big_quiet_want; go_big_quiet_op; (first | go_big_quiet_on | (with_reducible refine ⟨_, H1.out, ?_⟩; go_big_quiet_on))))
        refine wpQuiet_nil ?_
        intro w5 hw5
        have hbg : Below w4.heap.size w4 w5 := by obtain ⟨x, rfl⟩ := hw5; exact x.below
        have HP5 := Lib.hid (HP4.out.below hbg)
        have HF5 := Lib.hid (kept hbg HF4.out)
        have HR5 := Lib.hid (kept hbg HR4.out)
        have HB5 := Lib.hid (below_two HB4.out hbg)
        have HS5 := Lib.hid (show F < w5.heap.size by have := hbg.size; have := HS4.out; omega)
        clear hw5 hbg f0 f1 f2 f3 H1
        go_wp2_with fail
        go_loopw [1] (fun v wr => ∃ p ms oa oc, v = .int .i64 ((p : Nat) : Int) ∧ p ≤ E ∧ Hid (SetR L q E FL p ms) ∧ Hid (wr.ownsRow (F + 1) 178 1 (.slice oa ms.length oc) ms.length (ms.map mbV)) ∧ Hid (wr.heap[F]? = some (.cells #[.bool false, .slice oa ms.length oc] 189 (0, 0))) ∧
          Hid (PatAt wr w.heap.size P Q (some ⟨g, 0, none⟩) (P.size + 1) (P.size + 1)) ∧ Hid (wr.heap[w.heap.size + 1]? = some (.cells #[.bool false, .slice none 0 0] 189 (0, 0))) ∧ Hid (Below w.heap.size w wr)) (fun v _ => E - (intOf v).toNat)
        case atStart => exact ⟨q, [], none, 0, rfl, by omega, HSR.out, World.ownsRow_nil _ _ _ _, HF5.out, HP5.out, HR5.out, HB5.out⟩
        case round =>
          obtain ⟨p, ms, oa, oc, rfl, hpE, HSP, HO, HFR, HPR, HRR, HBR⟩ := hrel
          by_cases hlt : p < E
          · have hpP : p < P.size := by omega
            have hpi : (p : Int) < (E : Int) := by omega
            have C3 := HE.out p hpP (p : Int) rfl
            have C4 := HM.out p (by omega) (p : Int) rfl
            have HSN := Lib.hid (setR_next HSP.out hlt (by rw [HLP.out]; exact hEL))
            obtain ⟨p', hp'⟩ : ∃ p', p' = p + mbN (L.drop p) := ⟨_, rfl⟩
            rw [← hp'] at C4 HSN
            have hpp : p < p' := by have := mbN_pos (L.drop p); omega
            have hpE' : p' ≤ E := HSN.out.2.1
            obtain ⟨ti, vi, hX⟩ := mbV_iface (mbF (L.drop p))
            rw [hX] at C3
            obtain ⟨n, hn⟩ : ∃ n, n = ms.length := ⟨_, rfl⟩
            rw [← hn] at HO HFR
            have hnP : n ≤ 200000 := by
              have := setR_len HSP.out
              have := HFLN.out
              omega
            have HX := Lib.hid hX
            have HNN := Lib.hid hn
            have HFC := Lib.hid (show ∀ W, Below wr.heap.size wr W → (W.ownsRow (F + 1) 178 1 (.slice oa n oc) n (ms.map mbV) ∧ W.heap[F]? = some (.cells #[.bool false, .slice oa n oc] 189 (0, 0)) ∧ PatAt W w.heap.size P Q (some ⟨g, 0, none⟩) (P.size + 1) (P.size + 1) ∧ W.heap[w.heap.size + 1]? = some (.cells #[.bool false, .slice none 0 0] 189 (0, 0)) ∧ Below w.heap.size w W) from
              fun W hW => ⟨own_below HO.out hW, kept hW HFR.out, HPR.out.below hW, kept hW HRR.out, below_two HBR.out hW⟩)
            have hFr : F < wr.heap.size := lt_of_block HFR.out
            have hF0 : F + 1 ≤ wr.heap.size := hFr
            obtain ⟨c0, c1, c2⟩ := HPR.out.cells
            have d1 := blk_cell HFR.out 1
            have fr1 := blk_free HFR.out 1
            clear hX hn hp'
            go_upto_region 10 with fail
            go_cut [] from 33 to 46 (fun wx => ∃ oa' oc', wx.ownsRow (F + 1) 178 1 (.slice oa' (n + 1) oc') (n + 1) (ms.map mbV ++ [.iface ti vi]) ∧ wx.heap[F]? = some (.cells #[.bool false, .slice oa' (n + 1) oc'] 189 (0, 0)) ∧ PatAt wx w.heap.size P Q (some ⟨g, 0, none⟩) (P.size + 1) (P.size + 1) ∧ wx.heap[w.heap.size + 1]? = some (.cells #[.bool false, .slice none 0 0] 189 (0, 0)) ∧ Below w.heap.size w wx)
            case first =>
              obtain ⟨i0, hi0, hz0, hz1, hz2⟩ := info_parts infoWt
              go_region_law (first
                | (refine step_append_lies _ (by rfl) _ _ _ (by rfl) (F + 1) 178 i0 _ 1 16 Tryz.underlying161 hi0 hz0 hz1 hz2 rfl (by omega) (.slice oa n oc) n (ms.map mbV) (by rfl) (HO6.out.alloc _)
                    ⟨wn.heap.size, 0, none⟩ 1 1 [.iface ti vi] (by rfl) (by rfl) (World.news_of_block (cs := #[.iface ti vi]) (t := 178) (fr := (0, 0)) (heap_alloc_new wn _)) (by simp [Value.oneCell'])
                    (by omega) (by unfold maxLen; omega) (by omega) (by simp; omega) (wn.heap.size + 1) (by simp) ?_; intro gg cap w6 hown hgrow hat hlt6; have HOW := Lib.hid hown; have HF8 := Lib.hid (grown_blk HO6.out hgrow HFF.out.1 (Nat.le_refl _)); have HP8 := Lib.hid (grown_blk HO6.out hgrow HFF.out.2.1 (by have := HFK.out; omega)); have HR8 := Lib.hid (grown_blk HO6.out hgrow HFF.out.2.2.1 (by have := HFK.out; omega)); have HB8 := Lib.hid ((HFF.out.2.2.2.alloc HFF.out.2.2.2.size _).grown hgrow (by have := HFF.out.2.2.2.size; simp; omega) (fun r hr => by have := (HO6.out.lt r hr).1; have := HFK.out; omega)); have d1 := blk_cell HF8.out 1; have fr1 := blk_free HF8.out 1; clear hown hgrow hat)
                | (go_simp; go_at_call 142; refine (C3 _).mono ?_; rintro e wn ⟨rfl, hbn⟩; obtain ⟨HO6', HF6', HP6', HR6', HB6'⟩ := HFC.out wn ⟨hbn.os, hbn.tape, hbn.output, hbn.size, hbn.block⟩; have HO6 := Lib.hid HO6'; have HFF := Lib.hid (And.intro HF6' (And.intro HP6' (And.intro HR6' HB6'))); have d1 := blk_cell HF6' 1; have fr1 := blk_free HF6' 1; obtain ⟨c0, c1, c2⟩ := HP6'.cells; have hln := lt_of_block HF6'))
              all_goals
                go_wp2_with fail
                go_meet
                exact ⟨_, _, own_set HOW.out, by have h := blk_set HF8.out 1 (.slice (some ⟨gg, 0, none⟩) (n + 1) cap); exact h, (Below.heap_setCell _ _ _ _ (show w.heap.size ≠ F by have := HFK.out; omega)).trans HP8.out, (Below.heap_setCell _ _ _ _ (show w.heap.size + 1 ≠ F by have := HFK.out; omega)).trans HR8.out, HB8.out.setCell (show w.heap.size ≤ F by have := HFK.out; omega) _⟩
            case rest =>
            obtain ⟨oa2, oc2, hO2, hF2, hP2, hR2, hB2⟩ := hcut
            have HO2 := Lib.hid hO2
            have HF2 := Lib.hid hF2
            have HPc := Lib.hid hP2
            have HRc := Lib.hid hR2
            have HBc := Lib.hid hB2
            clear hO2 hF2 hP2 hR2 hB2 c0 c1 c2 d1 fr1
            obtain ⟨c0, c1, c2⟩ := HPc.out.cells
            go_wp2_with fail
            refine (C4 _).mono ?_
            rintro e w9 ⟨rfl, hb⟩
            have e1 : (ms ++ [mbF (L.drop p)]).length = n + 1 := by simp [HNN.out]
            have e2 : (ms ++ [mbF (L.drop p)]).map mbV = ms.map mbV ++ [.iface ti vi] := by simp [HX.out]
            have HREL := Lib.hid (show (w9.ownsRow (F + 1) 178 1 (.slice oa2 (ms ++ [mbF (L.drop p)]).length oc2) (ms ++ [mbF (L.drop p)]).length ((ms ++ [mbF (L.drop p)]).map mbV) ∧ w9.heap[F]? = some (.cells #[.bool false, .slice oa2 (ms ++ [mbF (L.drop p)]).length oc2] 189 (0, 0)) ∧ PatAt w9 w.heap.size P Q (some ⟨g, 0, none⟩) (P.size + 1) (P.size + 1) ∧ w9.heap[w.heap.size + 1]? = some (.cells #[.bool false, .slice none 0 0] 189 (0, 0)) ∧ Below w.heap.size w w9) from
              ⟨by rw [e1, e2]; exact own_below HO2.out hb, by rw [e1]; exact kept hb HF2.out, HPc.out.below hb, kept hb HRc.out, below_two HBc.out hb⟩)
            clear hb e1 e2 c0 c1 c2
            go_wp2_with fail
            go_roundw
            case rel => exact ⟨p', _, oa2, oc2, rfl, hpE', HSN.out, HREL.out.1, HREL.out.2.1, HREL.out.2.2.1, HREL.out.2.2.2.1, HREL.out.2.2.2.2⟩
            case measure => simp only [intOf]; omega
          · have hpE2 : ¬ (p : Int) < (E : Int) := by omega
            have HMS := Lib.hid (setR_end HSP.out hlt)
            have HPUT := Lib.hid (show ∃ wf, wf = (wr.setCell ⟨w.heap.size + 1, 0, none⟩ (.bool false)).setCell ⟨w.heap.size + 1, 1, none⟩ (.slice oa ms.length oc) ∧ wf.cell? ⟨w.heap.size + 1, 0, none⟩ = some (.bool false) ∧ wf.cell? ⟨w.heap.size + 1, 1, none⟩ = some (.slice oa ms.length oc) ∧ Below w.heap.size w wf ∧ wf.ownsRow (F + 1) 178 1 (.slice oa ms.length oc) ms.length (ms.map mbV) from
              ⟨_, rfl, blk_cell (blk_set (blk_set HRR.out 0 _) 1 _) 0, blk_cell (blk_set (blk_set HRR.out 0 _) 1 _) 1, (HBR.out.setCell (show w.heap.size ≤ w.heap.size + 1 by omega) _).setCell (show w.heap.size ≤ w.heap.size + 1 by omega) _, own_set_low (by have := HFK.out; omega) (own_set_low (by have := HFK.out; omega) HO.out)⟩)
            have d0 := blk_cell HFR.out 0
            have d1 := blk_cell HFR.out 1
            have r0 := blk_free HRR.out 0
            have r1 := blk_free HRR.out 1
            have e0 := blk_cell HRR.out 0
            have e1 := blk_cell HRR.out 1
            go_wp2_with fail
            obtain ⟨wf, hwf, z0, z1, hbf, hof⟩ := HPUT.out
            rw [← hwf]
            clear hwf
            refine bodyPost_ret (v := .tuple #[.agg #[.bool false, .slice oa ms.length oc], .int .i64 ((E : Int) + 1), .bool true]) (by simp [results, Tryz.results137, go_sem, z0, z1]) rfl ?_
            refine ⟨.slice oa ms.length oc, ?_, ?_, hbf⟩
            · rw [HN.out]; rfl
            · rw [← HMS.out]
              exact own_weak hof (by have := HFK.out; omega)
      case true =>
        rw [hbb] at C1 hq
        first | (have hqe : (i : Int) + 1 = (q : Int) := by simp at hq; omega) | (obtain rfl : q = i := by simp at hq; omega)
        first | clear hq | skip
        go_enter Tryz.func137, Tryz.ntmps137
        go_wp2_with fail
        rw [← HW2.out]
        refine (C1 _).mono ?_
        rintro e w3 ⟨rfl, hb⟩
        have HP3 := Lib.hid (HP2.out.below hb)
        have HR3 := Lib.hid (kept hb HR2.out)
        have HB3 := Lib.hid (below_two HB2.out hb)
        have hs3 := hb.size
        obtain ⟨c0, c1, c2⟩ := HP3.out.cells
        have r0 := blk_free HR3.out 0
        have r1 := blk_free HR3.out 1
        have e0 := blk_cell HR3.out 0
        have e1 := blk_cell HR3.out 1
        have hl0 : w.heap.size < w3.heap.size := by have := HS2.out; omega
        have hl1 : w.heap.size + 1 < w3.heap.size := by have := HS2.out; omega
        clear hb hs3
        go_upto_region 6 with fail
        obtain ⟨w4, hw4⟩ : ∃ w4, w4 = w3.alloc (.cells #[.bool true, .slice none 0 0] 189) := ⟨_, rfl⟩
        rw [← hw4]
        have hb4 : Below w3.heap.size w3 w4 := by rw [hw4]; exact below_box _ _
        have HF4 := Lib.hid (show w4.heap[w3.heap.size]? = some (.cells #[.bool true, .slice none 0 0] 189 (0, 0)) by rw [hw4]; exact new_block _ _)
        have HS4 := Lib.hid (show w4.heap.size = w3.heap.size + 1 by rw [hw4]; simp)
        have HP4 := Lib.hid (HP3.out.below hb4)
        have HR4 := Lib.hid (kept hb4 HR3.out)
        have HB4 := Lib.hid (below_two HB3.out hb4)
        clear c0 c1 c2 r0 r1 e0 e1 hw4 hb4
        obtain ⟨F, hF⟩ : ∃ F, F = w3.heap.size := ⟨_, rfl⟩
        rw [← hF] at HF4 HS4 hl0 hl1 ⊢
        clear hF
        have HFK := Lib.hid (show w.heap.size + 1 < F from hl1)
        have H1 := Lib.hid (grown_call (wb := w4) fun W _ => C2 W)
        obtain ⟨c0, c1, c2⟩ := HP4.out.cells
        have f0 := grown_cell c0
        have f1 := grown_cell c1
        have f2 := grown_cell c2
        have f3 := grown_cell (HGL.out _ HB4.out)
        clear c0 c1 c2
        refine wp_region_grown (by kernel_rfl) (by kernel_rfl) ?_
        repeat (first | go_big_quiet_skip | (go_big_quiet_want; go_big_quiet_op; (first | go_big_quiet_on | (with_reducible refine ⟨_, H1.out, ?_⟩; go_big_quiet_on))))
        refine wpQuiet_nil ?_
        intro w5 hw5
        have hbg : Below w4.heap.size w4 w5 := by obtain ⟨x, rfl⟩ := hw5; exact x.below
        have HP5 := Lib.hid (HP4.out.below hbg)
        have HF5 := Lib.hid (kept hbg HF4.out)
        have HR5 := Lib.hid (kept hbg HR4.out)
        have HB5 := Lib.hid (below_two HB4.out hbg)
        have HS5 := Lib.hid (show F < w5.heap.size by have := hbg.size; have := HS4.out; omega)
        clear hw5 hbg f0 f1 f2 f3 H1
        go_wp2_with fail
        go_loopw [1] (fun v wr => ∃ p ms oa oc, v = .int .i64 ((p : Nat) : Int) ∧ p ≤ E ∧ Hid (SetR L q E FL p ms) ∧ Hid (wr.ownsRow (F + 1) 178 1 (.slice oa ms.length oc) ms.length (ms.map mbV)) ∧ Hid (wr.heap[F]? = some (.cells #[.bool true, .slice oa ms.length oc] 189 (0, 0))) ∧
          Hid (PatAt wr w.heap.size P Q (some ⟨g, 0, none⟩) (P.size + 1) (P.size + 1)) ∧ Hid (wr.heap[w.heap.size + 1]? = some (.cells #[.bool false, .slice none 0 0] 189 (0, 0))) ∧ Hid (Below w.heap.size w wr)) (fun v _ => E - (intOf v).toNat)
        case atStart => exact ⟨q, [], none, 0, rfl, by omega, HSR.out, World.ownsRow_nil _ _ _ _, HF5.out, HP5.out, HR5.out, HB5.out⟩
        case round =>
          obtain ⟨p, ms, oa, oc, rfl, hpE, HSP, HO, HFR, HPR, HRR, HBR⟩ := hrel
          by_cases hlt : p < E
          · have hpP : p < P.size := by omega
            have hpi : (p : Int) < (E : Int) := by omega
            have C3 := HE.out p hpP (p : Int) rfl
            have C4 := HM.out p (by omega) (p : Int) rfl
            have HSN := Lib.hid (setR_next HSP.out hlt (by rw [HLP.out]; exact hEL))
            obtain ⟨p', hp'⟩ : ∃ p', p' = p + mbN (L.drop p) := ⟨_, rfl⟩
            rw [← hp'] at C4 HSN
            have hpp : p < p' := by have := mbN_pos (L.drop p); omega
            have hpE' : p' ≤ E := HSN.out.2.1
            obtain ⟨ti, vi, hX⟩ := mbV_iface (mbF (L.drop p))
            rw [hX] at C3
            obtain ⟨n, hn⟩ : ∃ n, n = ms.length := ⟨_, rfl⟩
            rw [← hn] at HO HFR
            have hnP : n ≤ 200000 := by
              have := setR_len HSP.out
              have := HFLN.out
              omega
            have HX := Lib.hid hX
            have HNN := Lib.hid hn
            have HFC := Lib.hid (show ∀ W, Below wr.heap.size wr W → (W.ownsRow (F + 1) 178 1 (.slice oa n oc) n (ms.map mbV) ∧ W.heap[F]? = some (.cells #[.bool true, .slice oa n oc] 189 (0, 0)) ∧ PatAt W w.heap.size P Q (some ⟨g, 0, none⟩) (P.size + 1) (P.size + 1) ∧ W.heap[w.heap.size + 1]? = some (.cells #[.bool false, .slice none 0 0] 189 (0, 0)) ∧ Below w.heap.size w W) from
              fun W hW => ⟨own_below HO.out hW, kept hW HFR.out, HPR.out.below hW, kept hW HRR.out, below_two HBR.out hW⟩)
            have hFr : F < wr.heap.size := lt_of_block HFR.out
            have hF0 : F + 1 ≤ wr.heap.size := hFr
            obtain ⟨c0, c1, c2⟩ := HPR.out.cells
            have d1 := blk_cell HFR.out 1
            have fr1 := blk_free HFR.out 1
            clear hX hn hp'
            go_upto_region 10 with fail
            go_cut [] from 33 to 46 (fun wx => ∃ oa' oc', wx.ownsRow (F + 1) 178 1 (.slice oa' (n + 1) oc') (n + 1) (ms.map mbV ++ [.iface ti vi]) ∧ wx.heap[F]? = some (.cells #[.bool true, .slice oa' (n + 1) oc'] 189 (0, 0)) ∧ PatAt wx w.heap.size P Q (some ⟨g, 0, none⟩) (P.size + 1) (P.size + 1) ∧ wx.heap[w.heap.size + 1]? = some (.cells #[.bool false, .slice none 0 0] 189 (0, 0)) ∧ Below w.heap.size w wx)
            case first =>
              obtain ⟨i0, hi0, hz0, hz1, hz2⟩ := info_parts infoWt
              go_region_law (first
                | (refine step_append_lies _ (by rfl) _ _ _ (by rfl) (F + 1) 178 i0 _ 1 16 Tryz.underlying161 hi0 hz0 hz1 hz2 rfl (by omega) (.slice oa n oc) n (ms.map mbV) (by rfl) (HO6.out.alloc _)
                    ⟨wn.heap.size, 0, none⟩ 1 1 [.iface ti vi] (by rfl) (by rfl) (World.news_of_block (cs := #[.iface ti vi]) (t := 178) (fr := (0, 0)) (heap_alloc_new wn _)) (by simp [Value.oneCell'])
                    (by omega) (by unfold maxLen; omega) (by omega) (by simp; omega) (wn.heap.size + 1) (by simp) ?_; intro gg cap w6 hown hgrow hat hlt6; have HOW := Lib.hid hown; have HF8 := Lib.hid (grown_blk HO6.out hgrow HFF.out.1 (Nat.le_refl _)); have HP8 := Lib.hid (grown_blk HO6.out hgrow HFF.out.2.1 (by have := HFK.out; omega)); have HR8 := Lib.hid (grown_blk HO6.out hgrow HFF.out.2.2.1 (by have := HFK.out; omega)); have HB8 := Lib.hid ((HFF.out.2.2.2.alloc HFF.out.2.2.2.size _).grown hgrow (by have := HFF.out.2.2.2.size; simp; omega) (fun r hr => by have := (HO6.out.lt r hr).1; have := HFK.out; omega)); have d1 := blk_cell HF8.out 1; have fr1 := blk_free HF8.out 1; clear hown hgrow hat)
                | (go_simp; go_at_call 142; refine (C3 _).mono ?_; rintro e wn ⟨rfl, hbn⟩; obtain ⟨HO6', HF6', HP6', HR6', HB6'⟩ := HFC.out wn ⟨hbn.os, hbn.tape, hbn.output, hbn.size, hbn.block⟩; have HO6 := Lib.hid HO6'; have HFF := Lib.hid (And.intro HF6' (And.intro HP6' (And.intro HR6' HB6'))); have d1 := blk_cell HF6' 1; have fr1 := blk_free HF6' 1; obtain ⟨c0, c1, c2⟩ := HP6'.cells; have hln := lt_of_block HF6'))
              all_goals
                go_wp2_with fail
                go_meet
                exact ⟨_, _, own_set HOW.out, by have h := blk_set HF8.out 1 (.slice (some ⟨gg, 0, none⟩) (n + 1) cap); exact h, (Below.heap_setCell _ _ _ _ (show w.heap.size ≠ F by have := HFK.out; omega)).trans HP8.out, (Below.heap_setCell _ _ _ _ (show w.heap.size + 1 ≠ F by have := HFK.out; omega)).trans HR8.out, HB8.out.setCell (show w.heap.size ≤ F by have := HFK.out; omega) _⟩
            case rest =>
            obtain ⟨oa2, oc2, hO2, hF2, hP2, hR2, hB2⟩ := hcut
            have HO2 := Lib.hid hO2
            have HF2 := Lib.hid hF2
            have HPc := Lib.hid hP2
            have HRc := Lib.hid hR2
            have HBc := Lib.hid hB2
            clear hO2 hF2 hP2 hR2 hB2 c0 c1 c2 d1 fr1
            obtain ⟨c0, c1, c2⟩ := HPc.out.cells
            go_wp2_with fail
            refine (C4 _).mono ?_
            rintro e w9 ⟨rfl, hb⟩
            have e1 : (ms ++ [mbF (L.drop p)]).length = n + 1 := by simp [HNN.out]
            have e2 : (ms ++ [mbF (L.drop p)]).map mbV = ms.map mbV ++ [.iface ti vi] := by simp [HX.out]
            have HREL := Lib.hid (show (w9.ownsRow (F + 1) 178 1 (.slice oa2 (ms ++ [mbF (L.drop p)]).length oc2) (ms ++ [mbF (L.drop p)]).length ((ms ++ [mbF (L.drop p)]).map mbV) ∧ w9.heap[F]? = some (.cells #[.bool true, .slice oa2 (ms ++ [mbF (L.drop p)]).length oc2] 189 (0, 0)) ∧ PatAt w9 w.heap.size P Q (some ⟨g, 0, none⟩) (P.size + 1) (P.size + 1) ∧ w9.heap[w.heap.size + 1]? = some (.cells #[.bool false, .slice none 0 0] 189 (0, 0)) ∧ Below w.heap.size w w9) from
              ⟨by rw [e1, e2]; exact own_below HO2.out hb, by rw [e1]; exact kept hb HF2.out, HPc.out.below hb, kept hb HRc.out, below_two HBc.out hb⟩)
            clear hb e1 e2 c0 c1 c2
            go_wp2_with fail
            go_roundw
            case rel => exact ⟨p', _, oa2, oc2, rfl, hpE', HSN.out, HREL.out.1, HREL.out.2.1, HREL.out.2.2.1, HREL.out.2.2.2.1, HREL.out.2.2.2.2⟩
            case measure => simp only [intOf]; omega
          · have hpE2 : ¬ (p : Int) < (E : Int) := by omega
            have HMS := Lib.hid (setR_end HSP.out hlt)
            have HPUT := Lib.hid (show ∃ wf, wf = (wr.setCell ⟨w.heap.size + 1, 0, none⟩ (.bool true)).setCell ⟨w.heap.size + 1, 1, none⟩ (.slice oa ms.length oc) ∧ wf.cell? ⟨w.heap.size + 1, 0, none⟩ = some (.bool true) ∧ wf.cell? ⟨w.heap.size + 1, 1, none⟩ = some (.slice oa ms.length oc) ∧ Below w.heap.size w wf ∧ wf.ownsRow (F + 1) 178 1 (.slice oa ms.length oc) ms.length (ms.map mbV) from
              ⟨_, rfl, blk_cell (blk_set (blk_set HRR.out 0 _) 1 _) 0, blk_cell (blk_set (blk_set HRR.out 0 _) 1 _) 1, (HBR.out.setCell (show w.heap.size ≤ w.heap.size + 1 by omega) _).setCell (show w.heap.size ≤ w.heap.size + 1 by omega) _, own_set_low (by have := HFK.out; omega) (own_set_low (by have := HFK.out; omega) HO.out)⟩)
            have d0 := blk_cell HFR.out 0
            have d1 := blk_cell HFR.out 1
            have r0 := blk_free HRR.out 0
            have r1 := blk_free HRR.out 1
            have e0 := blk_cell HRR.out 0
            have e1 := blk_cell HRR.out 1
            go_wp2_with fail
            obtain ⟨wf, hwf, z0, z1, hbf, hof⟩ := HPUT.out
            rw [← hwf]
            clear hwf
            refine bodyPost_ret (v := .tuple #[.agg #[.bool true, .slice oa ms.length oc], .int .i64 ((E : Int) + 1), .bool true]) (by simp [results, Tryz.results137, go_sem, z0, z1]) rfl ?_
            refine ⟨.slice oa ms.length oc, ?_, ?_, hbf⟩
            · rw [HN.out]; rfl
            · rw [← HMS.out]
              exact own_weak hof (by have := HFK.out; omega)
end Go.Proofs.YtclhpedecimicaaGreat

namespace Go.Proofs.YtclhpedecimicaaGreat
set_option maxRecDepth 100000
open Go Go.RowKit

/-- A want as the landed code has it; a set's members lie in a row of the call's own. -/
def WtV (w : World) (B : Nat) (v : Value) : Wt → Prop
  | .one => v = .iface 186 (.agg #[])
  | .many => v = .iface 187 (.agg #[])
  | .span a b => v = .iface 196 (.agg #[.int .u8 (a.toNat : Int), .int .u8 (b.toNat : Int)])
  | .set t l => ∃ oa oc, v = .iface 189 (.agg #[.bool t, .slice oa l.length oc]) ∧ w.ownsRow B 178 1 (.slice oa l.length oc) l.length (l.map mbV)
theorem WtV.below {w W : World} {B : Nat} {v : Value} {x : Wt} (h : WtV w B v x) (hb : Below w.heap.size w W) : WtV W B v x := by
  cases x with
  | set t l => obtain ⟨oa, oc, h1, h2⟩ := h; exact ⟨oa, oc, h1, own_below h2 hb⟩
  | _ => exact h
theorem WtV.weak {w : World} {B B' : Nat} {v : Value} {x : Wt} (h : WtV w B v x) (hb : B' ≤ B) : WtV w B' v x := by
  cases x with
  | set t l => obtain ⟨oa, oc, h1, h2⟩ := h; exact ⟨oa, oc, h1, own_weak h2 hb⟩
  | _ => exact h
theorem own_slice {B : Nat} {t : TypeId} {w : World} {v : Value} {n : Nat} {xs : List Value} (h : w.ownsRow B t 1 v n xs) : ∃ oa oc, v = .slice oa n oc := by
  obtain ⟨-, ⟨h2, h3⟩ | ⟨g, cap, cur, a, -⟩⟩ := h
  · exact ⟨none, 0, by rw [h2, h3]⟩
  · exact ⟨_, _, a⟩
theorem wt1_one {L : Pl} {i : Nat} (h : isP L i 63 = true) : wt1 (L.drop i) = (.one, 1) := by unfold wt1; rw [isP_drop, Nat.add_zero, if_pos h]
theorem wt1_many {L : Pl} {i : Nat} (h0 : isP L i 63 = false) (h : isP L i 42 = true) : wt1 (L.drop i) = (.many, 1) := by
  unfold wt1; rw [isP_drop, isP_drop, Nat.add_zero, if_neg (by simp [h0]), if_pos h]
theorem wt1_set {L : Pl} {i n : Nat} {t : Bool} {l : List Mb} (h0 : isP L i 63 = false) (h1 : isP L i 42 = false) (h2 : isP L i 91 = true) (h : setP (L.drop (i + 1)) = some (t, l, n)) : wt1 (L.drop i) = (.set t l, n + 1) := by
  unfold wt1; rw [isP_drop, isP_drop, isP_drop, Nat.add_zero, if_neg (by simp [h0]), if_neg (by simp [h1]), if_pos h2, List.drop_drop, h]
theorem wt1_open {L : Pl} {i : Nat} (h0 : isP L i 63 = false) (h1 : isP L i 42 = false) (h2 : isP L i 91 = true) (h : setP (L.drop (i + 1)) = none) : wt1 (L.drop i) = (.span (byteAt (L.drop i) 0) (byteAt (L.drop i) 0), 1) := by
  unfold wt1; rw [isP_drop, isP_drop, isP_drop, Nat.add_zero, if_neg (by simp [h0]), if_neg (by simp [h1]), if_pos h2, List.drop_drop, h]
theorem wt1_just {L : Pl} {i : Nat} (h0 : isP L i 63 = false) (h1 : isP L i 42 = false) (h2 : isP L i 91 = false) : wt1 (L.drop i) = (.span (byteAt (L.drop i) 0) (byteAt (L.drop i) 0), 1) := by
  unfold wt1; rw [isP_drop, isP_drop, isP_drop, Nat.add_zero, if_neg (by simp [h0]), if_neg (by simp [h1]), if_neg (by simp [h2])]

def WantAns (w : World) (i : Nat) (x : Wt × Nat) (e : Ending) (w' : World) : Prop := ∃ v, e = .returned (.tuple #[v, .int .i64 ((i + x.2 : Nat) : Int)]) ∧ WtV w' w.heap.size v x.1 ∧ Below w.heap.size w w'

set_option maxHeartbeats 8000000 in
theorem lwant (P Q : ByteArray) (hP : P.size ≤ 100000) (g i : Nat) (hi : i < P.size) (x : Int) (hx : x = (i : Int)) (w : World) (hG : RowAt w g (closesL (plL P.data.toList Q.data.toList)) 3) : Calls Tryz.prog 130 #[.agg #[.string P, .string Q, .slice (some ⟨g, 0, none⟩) (P.size + 1) (P.size + 1)], .int .i64 x] w (WantAns w i (wt1 ((plL P.data.toList Q.data.toList).drop i))) := by
  subst hx
  have HG := Lib.hid hG
  have HK := Lib.hid (fun j c x y hx hy W => lplain P Q (some ⟨g, 0, none⟩) (P.size + 1) (P.size + 1) j c x y hx hy W)
  have HE := Lib.hid (fun j hj x hx W => lset P Q hP g j hj x hx W)
  have HBY := Lib.hid (byte_pl P Q i 0 hi)
  obtain ⟨L, hL⟩ : ∃ L, L = plL P.data.toList Q.data.toList := ⟨_, rfl⟩
  rw [← hL] at HK HE HG HBY ⊢
  have HB := Lib.hid (below_box w (.cells #[.string P, .string Q, .slice (some ⟨g, 0, none⟩) (P.size + 1) (P.size + 1)] 73))
  have HP := Lib.hid (PatAt.new w P Q (some ⟨g, 0, none⟩) (P.size + 1) (P.size + 1))
  have C1 := HK.out i 63 (i : Int) 63 rfl rfl
  have C2 := HK.out i 42 (i : Int) 42 rfl rfl
  have C3 := HK.out i 91 (i : Int) 91 rfl rfl
  have C5 := fun W => ljust P[i] (P[i].toNat : Int) rfl W
  have hii : (i : Int) < (P.size : Int) := by omega
  clear hL hG
  cases h1 : isP L i 63 with
  | true =>
    rw [wt1_one h1]
    rw [h1] at C1
    go_enter Tryz.func130, Tryz.ntmps130
    go_wp2_with fail
    refine (C1 _).mono ?_
    rintro e w1 ⟨rfl, hb⟩
    have HB1 := Lib.hid (below_two HB.out hb)
    clear hb
    go_wp2_with fail
    go_ret2
    exact ⟨_, rfl, rfl, HB1.out⟩
  | false =>
    rw [h1] at C1
    cases h2 : isP L i 42 with
    | true =>
      rw [wt1_many h1 h2]
      rw [h2] at C2
      go_enter Tryz.func130, Tryz.ntmps130
      go_wp2_with fail
      refine (C1 _).mono ?_
      rintro e w1 ⟨rfl, hb⟩
      have HB1 := Lib.hid (below_two HB.out hb)
      have HP1 := Lib.hid (HP.out.below hb)
      obtain ⟨c0, c1, c2⟩ := HP1.out.cells
      clear hb
      go_wp2_with fail
      refine (C2 _).mono ?_
      rintro e w2 ⟨rfl, hb⟩
      have HB2 := Lib.hid (below_two HB1.out hb)
      clear hb
      go_wp2_with fail
      go_ret2
      exact ⟨_, rfl, rfl, HB2.out⟩
    | false =>
      rw [h2] at C2
      cases h3 : isP L i 91 with
      | false =>
        rw [wt1_just h1 h2 h3, HBY.out]
        rw [h3] at C3
        go_enter Tryz.func130, Tryz.ntmps130
        go_wp2_with fail
        refine (C1 _).mono ?_
        rintro e w1 ⟨rfl, hb⟩
        have HB1 := Lib.hid (below_two HB.out hb)
        have HP1 := Lib.hid (HP.out.below hb)
        obtain ⟨c0, c1, c2⟩ := HP1.out.cells
        clear hb
        go_wp2_with fail
        refine (C2 _).mono ?_
        rintro e w2 ⟨rfl, hb⟩
        have HB2 := Lib.hid (below_two HB1.out hb)
        have HP2 := Lib.hid (HP1.out.below hb)
        obtain ⟨c0, c1, c2⟩ := HP2.out.cells
        clear hb
        go_wp2_with fail
        refine (C3 _).mono ?_
        rintro e w3 ⟨rfl, hb⟩
        have HB3 := Lib.hid (below_two HB2.out hb)
        obtain ⟨c0, c1, c2⟩ := (HP2.out.below hb).cells
        clear hb
        go_wp2_with fail
        refine (C5 _).mono ?_
        rintro e w4 ⟨rfl, rfl⟩
        go_wp2_with fail
        go_ret2
        exact ⟨_, rfl, rfl, HB3.out⟩
      | true =>
        rw [h3] at C3
        have C4 := HE.out (i + 1) (by omega) ((i : Int) + 1) (by omega)
        have HGB := Lib.hid (fun W (hW : Below w.heap.size w W) => HG.out.below hW)
        cases hs : setP (L.drop (i + 1)) with
        | none =>
          rw [wt1_open h1 h2 h3 hs, HBY.out]
          rw [hs] at C4
          go_enter Tryz.func130, Tryz.ntmps130
          go_wp2_with fail
          refine (C1 _).mono ?_
          rintro e w1 ⟨rfl, hb⟩
          have HB1 := Lib.hid (below_two HB.out hb)
          have HP1 := Lib.hid (HP.out.below hb)
          obtain ⟨c0, c1, c2⟩ := HP1.out.cells
          clear hb
          go_wp2_with fail
          refine (C2 _).mono ?_
          rintro e w2 ⟨rfl, hb⟩
          have HB2 := Lib.hid (below_two HB1.out hb)
          have HP2 := Lib.hid (HP1.out.below hb)
          obtain ⟨c0, c1, c2⟩ := HP2.out.cells
          clear hb
          go_wp2_with fail
          refine (C3 _).mono ?_
          rintro e w3 ⟨rfl, hb⟩
          have HB3 := Lib.hid (below_two HB2.out hb)
          have HP3 := Lib.hid (HP2.out.below hb)
          obtain ⟨c0, c1, c2⟩ := HP3.out.cells
          clear hb
          go_wp2_with fail
          refine (C4 _ (HGB.out _ HB3.out)).mono ?_
          rintro e w4 ⟨rfl, hb⟩
          have HB4 := Lib.hid (below_two HB3.out hb)
          have HP4 := HP3.out.below hb
          obtain ⟨c0, c1, c2⟩ := HP4.cells
          have hl0 : w.heap.size < w4.heap.size := lt_of_block HP4
          have HBA := Lib.hid (HB4.out.alloc HB4.out.size (.cells #[.bool false, .slice none 0 0] 189))
          clear hb HP4
          go_wp2_with fail
          refine (C5 _).mono ?_
          rintro e w5 ⟨rfl, rfl⟩
          go_wp2_with fail
          go_ret2
          exact ⟨_, rfl, rfl, HBA.out⟩
        | some z =>
          obtain ⟨t, l, n⟩ := z
          rw [wt1_set h1 h2 h3 hs]
          rw [hs] at C4
          go_enter Tryz.func130, Tryz.ntmps130
          go_wp2_with fail
          refine (C1 _).mono ?_
          rintro e w1 ⟨rfl, hb⟩
          have HB1 := Lib.hid (below_two HB.out hb)
          have HP1 := Lib.hid (HP.out.below hb)
          obtain ⟨c0, c1, c2⟩ := HP1.out.cells
          clear hb
          go_wp2_with fail
          refine (C2 _).mono ?_
          rintro e w2 ⟨rfl, hb⟩
          have HB2 := Lib.hid (below_two HB1.out hb)
          have HP2 := Lib.hid (HP1.out.below hb)
          obtain ⟨c0, c1, c2⟩ := HP2.out.cells
          clear hb
          go_wp2_with fail
          refine (C3 _).mono ?_
          rintro e w3 ⟨rfl, hb⟩
          have HB3 := Lib.hid (below_two HB2.out hb)
          have HP3 := Lib.hid (HP2.out.below hb)
          obtain ⟨c0, c1, c2⟩ := HP3.out.cells
          clear hb
          go_wp2_with fail
          refine (C4 _ (HGB.out _ HB3.out)).mono ?_
          rintro e w4 ⟨v, rfl, hO, hb⟩
          obtain ⟨oa, oc, rfl⟩ := own_slice hO
          have HB4 := Lib.hid (below_two HB3.out hb)
          have hl0 : w.heap.size < w4.heap.size := lt_of_block (HP3.out.below hb)
          have HBA := Lib.hid (HB4.out.alloc HB4.out.size (.cells #[.bool t, .slice oa l.length oc] 189))
          have HO4 := Lib.hid (own_weak (own_below hO (below_box w4 (.cells #[.bool t, .slice oa l.length oc] 189))) HB3.out.size)
          clear hb hO
          go_wp2_with fail
          go_ret2
          refine ⟨.iface 189 (.agg #[.bool t, .slice oa l.length oc]), ?_, ⟨oa, oc, rfl, HO4.out⟩, HBA.out⟩
          show _ = Ending.returned (.tuple #[_, .int .i64 ((i + (n + 1) : Nat) : Int)])
          rw [show i + (n + 1) = i + 1 + n by omega]
          rfl
end Go.Proofs.YtclhpedecimicaaGreat

namespace Go.Proofs.YtclhpedecimicaaGreat
set_option maxRecDepth 100000
open Go Go.RowKit

set_option maxHeartbeats 1000000 in
theorem lone (c : Int) (w : World) : Calls Tryz.prog 159 #[.agg #[], .int .u8 c] w fun e w' => e = .returned (.bool true) ∧ Below w.heap.size w w' := by
  have HB := Lib.hid (below_box w (.cells #[] 186))
  go_enter Tryz.func159, Tryz.ntmps159
  go_wp2_with fail
  go_ret
  exact ⟨rfl, HB.out⟩
set_option maxHeartbeats 1000000 in
theorem lmany (c : Int) (w : World) : Calls Tryz.prog 160 #[.agg #[], .int .u8 c] w fun e w' => e = .returned (.bool true) ∧ Below w.heap.size w w' := by
  have HB := Lib.hid (below_box w (.cells #[] 187))
  go_enter Tryz.func160, Tryz.ntmps160
  go_wp2_with fail
  go_ret
  exact ⟨rfl, HB.out⟩
theorem dec_cast (a b : Nat) : decide ((a : Int) ≤ (b : Int)) = decide (a ≤ b) := by rw [decide_eq_decide]; omega
set_option maxHeartbeats 1000000 in
theorem lspan (a b c : UInt8) (w : World) : Calls Tryz.prog 165 #[.agg #[.int .u8 (a.toNat : Int), .int .u8 (b.toNat : Int)], .int .u8 (c.toNat : Int)] w fun e w' => e = .returned (.bool (decide (a.toNat ≤ c.toNat) && decide (c.toNat ≤ b.toNat))) ∧ Below w.heap.size w w' := by
  have HB := Lib.hid (below_box w (.cells #[.int .u8 (a.toNat : Int), .int .u8 (b.toNat : Int)] 196))
  by_cases h1 : a.toNat ≤ c.toNat
  · rw [decide_eq_true h1]
    have h1i : decide ((a.toNat : Int) ≤ (c.toNat : Int)) = true := decide_eq_true (by omega)
    by_cases h2 : c.toNat ≤ b.toNat
    · rw [decide_eq_true h2]
      have h2i : decide ((c.toNat : Int) ≤ (b.toNat : Int)) = true := decide_eq_true (by omega)
      go_enter Tryz.func165, Tryz.ntmps165
      go_wp2_with fail
      go_ret
      exact ⟨rfl, HB.out⟩
    · rw [decide_eq_false h2]
      have h2i : decide ((c.toNat : Int) ≤ (b.toNat : Int)) = false := decide_eq_false (by omega)
      go_enter Tryz.func165, Tryz.ntmps165
      go_wp2_with fail
      go_ret
      exact ⟨rfl, HB.out⟩
  · rw [decide_eq_false h1]
    have h1i : decide ((a.toNat : Int) ≤ (c.toNat : Int)) = false := decide_eq_false (by omega)
    go_enter Tryz.func165, Tryz.ntmps165
    go_wp2_with fail
    go_ret
    exact ⟨rfl, HB.out⟩
set_option maxHeartbeats 1000000 in
theorem lclass (s : List UInt8) (hs : s.length ≤ maxLen) (c : UInt8) (w : World) : Calls Tryz.prog 166 #[.string ⟨s.toArray⟩, .int .u8 (c.toNat : Int)] w fun e w' => e = .returned (.bool (clsB s c.toNat)) ∧ Below w.heap.size w w' := by
  have C1 := fun W => class_any ⟨s.toArray⟩ (by simpa [ByteArray.size] using hs) (c.toNat : Int) W
  go_enter Tryz.func166, Tryz.ntmps166
  go_wp2_with fail
  refine (C1 _).mono ?_
  rintro e w1 ⟨b, rfl, hc, hb⟩
  have HV := Lib.hid (cls_of hc)
  have HB := Lib.hid hb
  clear hc hb
  go_wp2_with fail
  go_ret
  exact ⟨by rw [HV.out]; rfl, HB.out⟩

/-- A class's name is no longer than a text may be. -/
def Mb.ok : Mb → Prop
  | .cls s => s.length ≤ maxLen
  | _ => True
def Wt.ok : Wt → Prop
  | .set _ l => ∀ m ∈ l, m.ok
  | _ => True
set_option maxHeartbeats 2000000 in
theorem lclos (m : Mb) (hm : m.ok) (c : UInt8) (k : Nat) (w : World) (hk : w.cell? ⟨k, 0, none⟩ = some (.int .u8 (c.toNat : Int))) : Calls Tryz.prog 163 #[mbV m, .pointer (some ⟨k, 0, none⟩)] w fun e w' => e = .returned (.bool (m.tk c)) ∧ Below w.heap.size w w' := by
  cases m with
  | span a b =>
    have C1 := fun W => lspan a b c W
    unfold mbV
    go_enter Tryz.func163, Tryz.ntmps163
    go_wp2_with fail
    refine (C1 _).mono ?_
    rintro e w1 ⟨rfl, hb⟩
    have HB := Lib.hid hb
    clear hb
    go_wp2_with fail
    go_ret
    exact ⟨rfl, HB.out⟩
  | cls s =>
    have C1 := fun W => lclass s hm c W
    unfold mbV
    go_enter Tryz.func163, Tryz.ntmps163
    go_wp2_with fail
    refine (C1 _).mono ?_
    rintro e w1 ⟨rfl, hb⟩
    have HB := Lib.hid hb
    clear hb
    go_wp2_with fail
    go_ret
    exact ⟨rfl, HB.out⟩

theorem own_at {B g : Nat} {t : TypeId} {w : World} {n cap : Nat} {xs : List Value} (h : w.ownsRow B t 1 (.slice (some ⟨g, 0, none⟩) n cap) n xs) {j : Nat} {u : Value} (hj : xs[j]? = some u) : w.cell? ⟨g, j, none⟩ = some u := by
  have hl : xs.length = n * 1 := h.1
  have h2 := (List.getElem?_eq_some_iff.1 hj).1
  rw [h.cellAt j (by omega)]
  exact hj
set_option maxHeartbeats 4000000 in
theorem lindex (l : List Mb) (hl : ∀ m ∈ l, m.ok) (hn : l.length ≤ 200000) (c : UInt8) (oa : Option Addr) (oc k B : Nat) (w : World) (hk : w.cell? ⟨k, 0, none⟩ = some (.int .u8 (c.toNat : Int))) (hO : w.ownsRow B 178 1 (.slice oa l.length oc) l.length (l.map mbV)) :
    Calls Tryz.prog 164 #[.slice oa l.length oc, .func (.func 163) #[] #[.pointer (some ⟨k, 0, none⟩)]] w fun e w' => ∃ z : Int, e = .returned (.int .i64 z) ∧ decide (0 ≤ z) = l.any (fun m => m.tk c) ∧ Below w.heap.size w w' := by
  have HO := Lib.hid hO
  have HK := Lib.hid hk
  have HL := Lib.hid hl
  clear hO hk hl
  go_enter Tryz.func164, Tryz.ntmps164
  go_wp2_with fail
  go_loopw [5, 8] (fun _ iv wr => ∃ K : Nat, K ≤ l.length ∧ iv = .int .i64 K ∧ Hid (∀ j (h : j < l.length), j < K → l[j].tk c = false) ∧ Hid (Below w.heap.size w wr)) (fun _ iv _ => l.length - (intOf iv).toNat)
  case atStart => exact ⟨0, Nat.zero_le _, rfl, fun _ _ h => absurd h (Nat.not_lt_zero _), Below.refl _ _⟩
  case round =>
    obtain ⟨K, hK, rfl, HFR, HBR⟩ := hrel
    by_cases hlt : K < l.length
    · have HOR := Lib.hid (own_below HO.out HBR.out)
      obtain ⟨g, rfl⟩ : ∃ g, oa = some ⟨g, 0, none⟩ := by
        obtain ⟨-, ⟨-, h3⟩ | ⟨g, cap, cur, a, -⟩⟩ := HO.out
        · omega
        · exact ⟨g, by cases a; rfl⟩
      obtain ⟨ti, vi, hX⟩ := mbV_iface l[K]
      have hc := own_at HOR.out (j := K) (u := .iface ti vi) (by rw [List.getElem?_map, List.getElem?_eq_getElem hlt, ← hX]; rfl)
      have hlt' : (K : Int) < (l.length : Int) := by omega
      have hk0 : (0 : Int) ≤ (K : Int) := by omega
      have C1 := fun W hW => lclos l[K] (HL.out _ (List.getElem_mem hlt)) c k W hW
      rw [hX] at C1
      have HKR := Lib.hid (cell_below HBR.out HK.out)
      cases ht : l[K].tk c with
      | true =>
        rw [ht] at C1
        have HA := Lib.hid (show l.any (fun m => m.tk c) = true from List.any_eq_true.2 ⟨_, List.getElem_mem hlt, ht⟩)
        clear hX ht
        go_wp2_with fail
        refine (C1 _ HKR.out).mono ?_
        rintro e w2 ⟨rfl, hb⟩
        have HB2 := Lib.hid (below_two HBR.out hb)
        clear hb hc
        go_wp2_with fail
        go_ret
        exact ⟨(K : Int), rfl, by rw [HA.out]; exact decide_eq_true (by omega), HB2.out⟩
      | false =>
        rw [ht] at C1
        have HN := Lib.hid (show ∀ j (h : j < l.length), j < K + 1 → l[j].tk c = false from fun j h h1 => by
          by_cases e : j = K
          · subst e; exact ht
          · exact HFR.out j h (by omega))
        clear hX ht
        go_wp2_with fail
        refine (C1 _ HKR.out).mono ?_
        rintro e w2 ⟨rfl, hb⟩
        have HB2 := Lib.hid (below_two HBR.out hb)
        clear hb hc
        go_wp2_with fail
        go_roundw
        case rel => exact ⟨K + 1, by omega, by simp, HN.out, HB2.out⟩
        case measure => simp only [intOf]; omega
    · have hKK : K = l.length := by omega
      have HA := Lib.hid (show l.any (fun m => m.tk c) = false by
        rw [List.any_eq_false]
        intro m hm
        obtain ⟨j, hj, rfl⟩ := List.getElem_of_mem hm
        rw [HFR.out j hj (by omega)]; simp)
      have hlt' : ¬ (K : Int) < (l.length : Int) := by omega
      clear hKK
      go_wp2_with fail
      go_ret
      exact ⟨-1, rfl, by rw [HA.out]; rfl, HBR.out⟩
set_option maxHeartbeats 2000000 in
theorem lcontains (l : List Mb) (hl : ∀ m ∈ l, m.ok) (hn : l.length ≤ 200000) (c : UInt8) (oa : Option Addr) (oc k B : Nat) (w : World) (hk : w.cell? ⟨k, 0, none⟩ = some (.int .u8 (c.toNat : Int))) (hO : w.ownsRow B 178 1 (.slice oa l.length oc) l.length (l.map mbV)) :
    Calls Tryz.prog 162 #[.slice oa l.length oc, .func (.func 163) #[] #[.pointer (some ⟨k, 0, none⟩)]] w fun e w' => e = .returned (.bool (l.any (fun m => m.tk c))) ∧ Below w.heap.size w w' := by
  have C1 := lindex l hl hn c oa oc k B w hk hO
  go_enter Tryz.func162, Tryz.ntmps162
  go_wp2_with fail
  refine C1.mono ?_
  rintro e w2 ⟨z, rfl, hz, hb⟩
  have HB := Lib.hid hb
  have HZ := Lib.hid hz
  clear hb hz
  go_wp2_with fail
  go_ret
  exact ⟨by rw [← HZ.out]; rfl, HB.out⟩
set_option maxHeartbeats 2000000 in
theorem lset_takes (t : Bool) (l : List Mb) (hl : ∀ m ∈ l, m.ok) (hn : l.length ≤ 200000) (c : UInt8) (oa : Option Addr) (oc B : Nat) (w : World) (hO : w.ownsRow B 178 1 (.slice oa l.length oc) l.length (l.map mbV)) :
    Calls Tryz.prog 161 #[.agg #[.bool t, .slice oa l.length oc], .int .u8 (c.toNat : Int)] w fun e w' => e = .returned (.bool ((l.any (fun m => m.tk c)) != t)) ∧ Below w.heap.size w w' := by
  obtain ⟨w2, hw2, hb2, hs2, hP2, hR2⟩ := two_boxes w #[.bool t, .slice oa l.length oc] #[.int .u8 (c.toNat : Int)] 189 5
  have HW2 := Lib.hid hw2
  have HB2 := Lib.hid hb2
  have HP2 := Lib.hid hP2
  have C1 := lcontains l hl hn c oa oc (w.heap.size + 1) B w2 (blk_cell hR2 0) (own_below hO hb2)
  obtain ⟨v, hv⟩ : ∃ v, v = l.any (fun m => m.tk c) := ⟨_, rfl⟩
  rw [← hv] at C1 ⊢
  clear hw2 hb2 hs2 hP2 hR2 hO hv
  go_enter Tryz.func161, Tryz.ntmps161
  go_wp2_with fail
  rw [← HW2.out]
  refine C1.mono ?_
  rintro e w3 ⟨rfl, hb⟩
  have HB3 := Lib.hid (below_two HB2.out hb)
  have d0 := blk_cell (kept hb HP2.out) 0
  have d1 := blk_cell (kept hb HP2.out) 1
  clear hb
  cases v <;> cases t
  all_goals
    go_wp2_with fail
    go_ret
    exact ⟨rfl, HB3.out⟩
end Go.Proofs.YtclhpedecimicaaGreat

namespace Go.Proofs.YtclhpedecimicaaGreat
set_option maxRecDepth 100000
open Go Go.RowKit

theorem wt_iface {w : World} {B : Nat} {v : Value} {x : Wt} (h : WtV w B v x) : ∃ t u, v = .iface t u := by
  cases x with
  | set t l => obtain ⟨oa, oc, h1, -⟩ := h; exact ⟨_, _, h1⟩
  | _ => exact ⟨_, _, h⟩
theorem as_many (W : World) (v : Value) : (Instr.typeAssert (.iface 187 v) 178 187 true).run Tryz.prog W = .ok (.tuple #[v, .bool true]) W := by kernel_rfl
theorem as_one (W : World) (v : Value) : (Instr.typeAssert (.iface 186 v) 178 187 true).run Tryz.prog W = .ok (.tuple #[.agg #[], .bool false]) W := by kernel_rfl
theorem as_span (W : World) (v : Value) : (Instr.typeAssert (.iface 196 v) 178 187 true).run Tryz.prog W = .ok (.tuple #[.agg #[], .bool false]) W := by kernel_rfl
theorem as_set (W : World) (v : Value) : (Instr.typeAssert (.iface 189 v) 178 187 true).run Tryz.prog W = .ok (.tuple #[.agg #[], .bool false]) W := by kernel_rfl
set_option maxHeartbeats 2000000 in
theorem lrepeats {w : World} {B : Nat} {v : Value} {x : Wt} (h : WtV w B v x) (W : World) : Calls Tryz.prog 131 #[v] W fun e w' => e = .returned (.bool x.rep) ∧ W = w' := by
  have h0 := as_many
  have h1 := as_one
  have h2 := as_span
  have h3 := as_set
  cases x with
  | set t l =>
    obtain ⟨oa, oc, rfl, -⟩ := h
    go_enter Tryz.func131, Tryz.ntmps131
    go_wp2_with fail
    go_ret
    exact ⟨rfl, rfl⟩
  | _ =>
    obtain rfl := h
    go_enter Tryz.func131, Tryz.ntmps131
    go_wp2_with fail
    go_ret
    exact ⟨rfl, rfl⟩

/-- A value's members do not lie in a block. -/
def Apart (u : Value) (g : Nat) : Prop := ∀ t b a n c, u = .iface t (.agg #[.bool b, .slice (some a) n c]) → a.block ≠ g
/-- A row of wants in memory. -/
structure RowW (w : World) (B : Nat) (oa : Option Addr) (oc : Nat) (r : List Wt) (vs : List Value) : Prop where
  own : w.ownsRow B 178 1 (.slice oa r.length oc) r.length vs
  len : vs.length = r.length
  each : ∀ (i : Nat) (x : Wt), r[i]? = some x → ∃ u, vs[i]? = some u ∧ WtV w B u x
  apart : ∀ g, oa = some ⟨g, 0, none⟩ → ∀ u ∈ vs, Apart u g
theorem RowW.below {w W : World} {B : Nat} {oa : Option Addr} {oc : Nat} {r : List Wt} {vs : List Value} (h : RowW w B oa oc r vs) (hb : Below w.heap.size w W) : RowW W B oa oc r vs :=
  ⟨own_below h.own hb, h.len, fun i x hx => by obtain ⟨u, h1, h2⟩ := h.each i x hx; exact ⟨u, h1, h2.below hb⟩, h.apart⟩
theorem RowW.weak {w : World} {B B' : Nat} {oa : Option Addr} {oc : Nat} {r : List Wt} {vs : List Value} (h : RowW w B oa oc r vs) (hb : B' ≤ B) : RowW w B' oa oc r vs :=
  ⟨own_weak h.own hb, h.len, fun i x hx => by obtain ⟨u, h1, h2⟩ := h.each i x hx; exact ⟨u, h1, h2.weak hb⟩, h.apart⟩
theorem RowW.nil (w : World) (B : Nat) : RowW w B none 0 [] [] :=
  ⟨World.ownsRow_nil _ _ _ _, rfl, fun i x h => (by cases h), fun g e => (by cases e)⟩
theorem RowW.some_of {w : World} {B : Nat} {oa : Option Addr} {oc : Nat} {r : List Wt} {vs : List Value} (h : RowW w B oa oc r vs) (hr : 0 < r.length) : ∃ g, oa = some ⟨g, 0, none⟩ ∧ B ≤ g ∧ g < w.heap.size := by
  obtain ⟨-, ⟨-, h3⟩ | ⟨g, cap, cur, a, b, c, -⟩⟩ := h.own
  · omega
  · exact ⟨g, by cases a; rfl, b, lt_of_block c⟩
/-- A value that is made later than a row lies apart from it. -/
theorem wt_apart {w : World} {B g : Nat} {u : Value} {x : Wt} (h : WtV w B u x) (hg : g < B ∨ w.heap.size ≤ g) : Apart u g := by
  intro t b a n c e
  cases x with
  | set t l =>
    obtain ⟨oa, oc, h1, h2⟩ := h
    rw [h1] at e
    cases e
    obtain ⟨-, ⟨h3, -⟩ | ⟨g', cap, cur, h3, h4, h5, -⟩⟩ := h2
    · cases h3
    · cases h3
      have := lt_of_block h5
      show g' ≠ g
      omega
  | one => have h1 : u = _ := h; rw [h1] at e; cases e
  | many => have h1 : u = _ := h; rw [h1] at e; cases e
  | span p q => have h1 : u = _ := h; rw [h1] at e; cases e

/-- A want that grows with a row stays. -/
theorem wt_grown {wn w6 : World} {ob : Obj} {B : Nat} {u : Value} {x : Wt} {row : Option Nat} (h : WtV wn B u x) (hg : (wn.alloc ob).grownBy w6 row) (ha : ∀ g, row = some g → Apart u g) : WtV w6 B u x := by
  cases x with
  | set t l =>
    obtain ⟨oa, oc, h1, h2⟩ := h
    refine ⟨oa, oc, h1, (h2.alloc ob).kept hg ?_⟩
    cases oa with
    | none => exact Or.inl rfl
    | some a =>
      refine Or.inr fun e => ?_
      exact ha a.block e.symm _ _ _ _ _ h1 rfl
  | _ => exact h
end Go.Proofs.YtclhpedecimicaaGreat
