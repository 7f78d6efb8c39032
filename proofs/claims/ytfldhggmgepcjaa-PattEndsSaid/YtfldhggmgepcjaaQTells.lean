/-
  The landed code's questions of a pattern: plain, ranges, classEnd, behind.
-/
import Derived.Test.YtfldhggmgepcjaaQParse
import Derived.Test.YtfldhggmgepcjaaTextCut
import Derived.Test.YtfldhggmgepcjaaBlk
import Derived.StillTailTactics
namespace Go.Proofs.Ytfldhggmgepcjaa
set_option maxRecDepth 100000
open Go Go.RowKit

theorem size_data (s : ByteArray) : s.data.toList.length = s.size := Array.length_toList
theorem get_data (s : ByteArray) (i : Nat) (h : i < s.size) : s.data.toList[i]? = some s[i] := by
  rw [List.getElem?_eq_getElem (by rw [size_data]; exact h)]
  rfl

theorem isP_yes (P Q : ByteArray) (i : Nat) (c : UInt8) (h : i < P.size) (hc : P[i] = c) (hq : ∀ h : i < Q.size, Q[i] ≠ 49) : isP (plL P.data.toList Q.data.toList) i c = true := by
  unfold isP
  rw [pl_get, get_data P i h, hc]
  unfold flg
  by_cases hk : i < Q.size
  · rw [get_data Q i hk]
    simp [hq hk]
  · rw [List.getElem?_eq_none (by rw [size_data]; omega)]
    simp
theorem isP_quo (P Q : ByteArray) (i : Nat) (c : UInt8) (h : i < P.size) (hk : i < Q.size) (hq : Q[i] = 49) : isP (plL P.data.toList Q.data.toList) i c = false := by
  unfold isP
  rw [pl_get, get_data P i h]
  unfold flg
  rw [get_data Q i hk, hq]
  simp
theorem isP_oth (P Q : ByteArray) (i : Nat) (c : UInt8) (h : i < P.size) (hc : P[i] ≠ c) : isP (plL P.data.toList Q.data.toList) i c = false := by
  unfold isP
  rw [pl_get, get_data P i h]
  simp [hc]
theorem u8_ne {a b : UInt8} (h : a ≠ b) : ((a.toNat : Int) != (b.toNat : Int)) = true := by
  rw [bne_iff_ne]
  intro e
  exact h (UInt8.toNat_inj.1 (by omega))
theorem u8_eq {a b : UInt8} (h : ((a.toNat : Int) != (b.toNat : Int)) = false) : a = b := by
  rw [bne_eq_false_iff_eq] at h
  exact UInt8.toNat_inj.1 (by omega)

set_option maxHeartbeats 1000000 in
theorem lplain (P Q : ByteArray) (a : Option Addr) (n cap i : Nat) (c : UInt8) (x y : Int) (hx : x = (i : Int)) (hy : y = (c.toNat : Int)) (w : World) : Calls Try.prog 30 #[.agg #[.string P, .string Q, .slice a n cap], .int .i64 x, .int .u8 y] w fun e w' => e = .returned (.bool (isP (plL P.data.toList Q.data.toList) i c)) ∧ Below w.heap.size w w' := by
  subst hx hy
  have HB := Lib.hid (below_box w (.cells #[.string P, .string Q, .slice a n cap] 51))
  by_cases h1 : i < P.size
  · have h1i : (i : Int) < (P.size : Int) := by omega
    cases hc : ((P[i].toNat : Int) != (c.toNat : Int)) with
    | true =>
      have HR := Lib.hid (isP_oth P Q i c h1 (by rw [bne_iff_ne] at hc; intro e; rw [e] at hc; exact hc rfl))
      go_enter Try.func30, Try.ntmps30
      go_wp2_with fail
      go_ret
      exact ⟨by rw [HR.out]; rfl, HB.out⟩
    | false =>
      have he := u8_eq hc
      by_cases h2 : i < Q.size
      · have h2i : (i : Int) < (Q.size : Int) := by omega
        cases hq : ((Q[i].toNat : Int) != 49) with
        | true =>
          have HR := Lib.hid (isP_yes P Q i c h1 he fun h e => by rw [e] at hq; cases hq)
          clear he
          go_enter Try.func30, Try.ntmps30
          go_wp2_with fail
          go_ret
          exact ⟨by rw [HR.out]; rfl, HB.out⟩
        | false =>
          have HR := Lib.hid (isP_quo P Q i c h1 h2 (u8_eq (b := 49) hq))
          clear he
          have hn : ¬ Q.size ≤ i := by omega
          go_enter Try.func30, Try.ntmps30
          go_wp2_with fail
          go_ret
          exact ⟨by rw [HR.out]; rfl, HB.out⟩
      · have HR := Lib.hid (isP_yes P Q i c h1 he fun h => absurd h h2)
        clear he
        have hn : Q.size ≤ i := by omega
        go_enter Try.func30, Try.ntmps30
        go_wp2_with fail
        go_ret
        exact ⟨by rw [HR.out]; rfl, HB.out⟩
  · have hd : (decide ((P.size : Int) ≤ (i : Int))) = true := decide_eq_true (by omega)
    have h2 : isP (plL P.data.toList Q.data.toList) i c = false := isP_no (by rw [pl_len, size_data]; omega) c
    rw [h2]
    go_enter Try.func30, Try.ntmps30
    go_wp2_with fail
    go_ret
    exact ⟨rfl, HB.out⟩

/-- A pattern's box. -/
def PatAt (W : World) (k : Nat) (P Q : ByteArray) (a : Option Addr) (n cap : Nat) : Prop := W.heap[k]? = some (.cells #[.string P, .string Q, .slice a n cap] 51 (0, 0))
theorem PatAt.cells {W : World} {k : Nat} {P Q : ByteArray} {a : Option Addr} {n cap : Nat} (h : PatAt W k P Q a n cap) : W.cell? ⟨k, 0, none⟩ = some (.string P) ∧ W.cell? ⟨k, 1, none⟩ = some (.string Q) ∧ W.cell? ⟨k, 2, none⟩ = some (.slice a n cap) := ⟨blk_cell h 0, blk_cell h 1, blk_cell h 2⟩
theorem kept {W W' : World} {k : Nat} {o : Obj} (hb : Below W.heap.size W W') (h : W.heap[k]? = some o) : W'.heap[k]? = some o := by
  rw [hb.block k (lt_of_block h)]; exact h
theorem PatAt.below {W W' : World} {k : Nat} {P Q : ByteArray} {a : Option Addr} {n cap : Nat} (h : PatAt W k P Q a n cap) (hb : Below W.heap.size W W') : PatAt W' k P Q a n cap := kept hb h
theorem PatAt.new (w : World) (P Q : ByteArray) (a : Option Addr) (n cap : Nat) : PatAt (w.alloc (.cells #[.string P, .string Q, .slice a n cap] 51)) w.heap.size P Q a n cap := new_block _ _
theorem PatAt.other {W : World} {k C : Nat} {P Q : ByteArray} {a : Option Addr} {n cap : Nat} (h : PatAt W k P Q a n cap) (hk : k ≠ C) (j : Nat) (u : Value) : PatAt (W.setCell ⟨C, j, none⟩ u) k P Q a n cap := (Below.heap_setCell _ _ _ _ hk).trans h
theorem below_two {w W W' : World} (h : Below w.heap.size w W) (hb : Below W.heap.size W W') : Below w.heap.size w W' := h.trans (hb.mono h.size)

theorem rng_at (L : Pl) (i : Nat) : rngB (L.drop i) = (isP L (i + 1) 45 && (decide (i + 2 < L.length) && !isP L (i + 2) 93)) := by
  unfold rngB
  rw [isP_drop, isP_drop, List.length_drop]
  congr 2
  rw [decide_eq_decide]; omega

set_option maxHeartbeats 1000000 in
theorem lranges (P Q : ByteArray) (hP : P.size ≤ 100000) (a : Option Addr) (n cap i : Nat) (hi : i ≤ P.size) (x : Int) (hx : x = (i : Int)) (w : World) : Calls Try.prog 38 #[.agg #[.string P, .string Q, .slice a n cap], .int .i64 x] w fun e w' => e = .returned (.bool (rngB ((plL P.data.toList Q.data.toList).drop i))) ∧ Below w.heap.size w w' := by
  subst hx
  rw [rng_at, pl_len, size_data]
  have HB := Lib.hid (below_box w (.cells #[.string P, .string Q, .slice a n cap] 51))
  have HP := Lib.hid (PatAt.new w P Q a n cap)
  have K1 := fun W => lplain P Q a n cap (i + 1) 45 ((i : Int) + 1) 45 (by omega) rfl W
  have K2 := fun W => lplain P Q a n cap (i + 2) 93 ((i : Int) + 2) 93 (by omega) rfl W
  cases h1 : isP (plL P.data.toList Q.data.toList) (i + 1) 45 with
  | false =>
    rw [h1] at K1
    go_enter Try.func38, Try.ntmps38
    go_wp2_with fail
    refine (K1 _).mono ?_
    rintro e w1 ⟨rfl, hb⟩
    have HB1 := Lib.hid (below_two HB.out hb)
    clear hb
    go_wp2_with fail
    go_ret
    exact ⟨rfl, HB1.out⟩
  | true =>
    rw [h1] at K1
    by_cases h2 : i + 2 < P.size
    · have hd : decide ((i : Int) + 2 < (P.size : Int)) = true := decide_eq_true (by omega)
      have hd2 : decide (i + 2 < P.size) = true := decide_eq_true h2
      rw [hd2]
      cases h3 : isP (plL P.data.toList Q.data.toList) (i + 2) 93
      all_goals
        rw [h3] at K2
        go_enter Try.func38, Try.ntmps38
        go_wp2_with fail
        refine (K1 _).mono ?_
        rintro e w1 ⟨rfl, hb⟩
        obtain ⟨c0, c1, c2⟩ := (HP.out.below hb).cells
        have HB1 := Lib.hid (below_two HB.out hb)
        clear hb
        go_wp2_with fail
        refine (K2 _).mono ?_
        rintro e w2 ⟨rfl, hb⟩
        have HB2 := Lib.hid (below_two HB1.out hb)
        clear hb
        go_wp2_with fail
        go_ret
        exact ⟨rfl, HB2.out⟩
    · have hd : decide ((i : Int) + 2 < (P.size : Int)) = false := decide_eq_false (by omega)
      have hd2 : decide (i + 2 < P.size) = false := decide_eq_false h2
      rw [hd2]
      go_enter Try.func38, Try.ntmps38
      go_wp2_with fail
      refine (K1 _).mono ?_
      rintro e w1 ⟨rfl, hb⟩
      obtain ⟨c0, c1, c2⟩ := (HP.out.below hb).cells
      have HB1 := Lib.hid (below_two HB.out hb)
      clear hb
      go_wp2_with fail
      go_ret
      exact ⟨rfl, HB1.out⟩
end Go.Proofs.Ytfldhggmgepcjaa
