/-
  The landed code's take: a byte more.
-/
import Derived.Test.YtfldhggmgepcjaaQTaking
import Derived.Deep.RegionLaw
import Derived.BigRegion
namespace Go.Proofs.Ytfldhggmgepcjaa
set_option maxRecDepth 100000
open Go Go.RowKit

theorem bits_andNot (a b : Nat) (ha : a < 18446744073709551616) (hb : b < 18446744073709551616) : bits .andNot .u64 (a : Int) (b : Int) = ((a &&& (18446744073709551615 - b) : Nat) : Int) := by
  have hx : a &&& (18446744073709551615 - b) < 2 ^ 64 := Nat.and_lt_two_pow _ (by omega)
  have h1 : (BitVec.ofInt 64 (a : Int)).toNat = a := by
    rw [BitVec.ofInt_natCast, BitVec.toNat_ofNat]; exact Nat.mod_eq_of_lt (by omega)
  have h2 : (BitVec.ofInt 64 (b : Int)).toNat = b := by
    rw [BitVec.ofInt_natCast, BitVec.toNat_ofNat]; exact Nat.mod_eq_of_lt (by omega)
  show IntKind.u64.wrap ((BitVec.ofInt 64 (a : Int) &&& ~~~ BitVec.ofInt 64 (b : Int)).toNat : Int) = _
  rw [BitVec.toNat_and, BitVec.toNat_not, h1, h2, IntKind.wrap_u64]
  show ((a &&& (18446744073709551615 - b) : Nat) : Int) % 18446744073709551616 = _
  omega
theorem not_bit (b k : Nat) (hb : b < 18446744073709551616) (hk : k < 64) : (18446744073709551615 - b).testBit k = !b.testBit k := by
  have h := Nat.testBit_two_pow_sub_succ (x := b) (n := 64) hb k
  rw [show 2 ^ 64 - (b + 1) = 18446744073709551615 - b by omega] at h
  rw [h, decide_eq_true hk, Bool.true_and]

/-- The places behind a byte, bit by bit. -/
def onB (A S W : List Nat) (j : Nat) : Bool := (bit A j && bit W j) && !bit S j
def apB (A S W : List Nat) (j : Nat) : Bool := ((bit A j && bit W j) && bit S j) || (decide (0 < j) && onB A S W (j - 1))
def TakeI (A S W : List Nat) (i : Nat) (X : List Nat) (c : Bool) (left : Nat) : Prop :=
  X.length = A.length ∧ Small X ∧ c = (decide (0 < i) && onB A S W (64 * i - 1)) ∧ (∀ j, bit X j = if j < 64 * i then apB A S W j else bit A j) ∧ left < 18446744073709551616 ∧ (left = 0 ↔ ∀ j, j < 64 * i → apB A S W j = false)
theorem take_start (A S W : List Nat) (h : Small A) : TakeI A S W 0 A false 0 := ⟨rfl, h, rfl, fun j => by rw [if_neg (by omega)], by omega, by simp⟩
theorem zero_bits {x : Nat} (hx : x < 18446744073709551616) (h : ∀ k, k < 64 → x.testBit k = false) : x = 0 := by
  apply Nat.eq_of_testBit_eq
  intro k
  rw [Nat.zero_testBit]
  by_cases hk : k < 64
  · exact h k hk
  · refine Nat.testBit_lt_two_pow (Nat.lt_of_lt_of_le hx ?_)
    have : 2 ^ 64 ≤ 2 ^ k := Nat.pow_le_pow_right (by omega) (by omega)
    exact this
theorem take_next {A S W X : List Nat} {i x s t left : Nat} {c : Bool} (h : TakeI A S W i X c left) (hx : X[i]? = some x) (hs : S[i]? = some s) (ht : W[i]? = some t) (_hx64 : x < 18446744073709551616) (hs64 : s < 18446744073709551616) (_ht64 : t < 18446744073709551616) :
    TakeI A S W (i + 1) (X.set i ((((x &&& t) &&& s) ||| sh1 ((x &&& t) &&& (18446744073709551615 - s))) ||| c.toNat)) (((x &&& t) &&& (18446744073709551615 - s)).testBit 63) (left ||| ((((x &&& t) &&& s) ||| sh1 ((x &&& t) &&& (18446744073709551615 - s))) ||| c.toNat)) := by
  obtain ⟨h1, h2, h3, h4, h5, h6⟩ := h
  have hi : i < X.length := (List.getElem?_eq_some_iff.1 hx).1
  have hc1 : c.toNat < 18446744073709551616 := by cases c <;> decide
  have hxA : ∀ k, k < 64 → x.testBit k = bit A (64 * i + k) := by
    intro k hk
    rw [← bit_word hx hk, h4, if_neg (by omega)]
  have hsS : ∀ k, k < 64 → s.testBit k = bit S (64 * i + k) := fun k hk => (bit_word hs hk).symm
  have htW : ∀ k, k < 64 → t.testBit k = bit W (64 * i + k) := fun k hk => (bit_word ht hk).symm
  have hon : ∀ k, k < 64 → ((x &&& t) &&& (18446744073709551615 - s)).testBit k = onB A S W (64 * i + k) := by
    intro k hk
    rw [Nat.testBit_and, Nat.testBit_and, not_bit _ _ hs64 hk, hxA k hk, hsS k hk, htW k hk]; rfl
  obtain ⟨y, hy⟩ : ∃ y, y = (((x &&& t) &&& s) ||| sh1 ((x &&& t) &&& (18446744073709551615 - s))) ||| c.toNat := ⟨_, rfl⟩
  have hy64 : y < 18446744073709551616 := by
    have h7 : (x &&& t) &&& s < 2 ^ 64 := Nat.and_lt_two_pow _ hs64
    have h8 : ((x &&& t) &&& s) ||| sh1 ((x &&& t) &&& (18446744073709551615 - s)) < 2 ^ 64 := Nat.or_lt_two_pow h7 (sh1_small _)
    have h9 : y < 2 ^ 64 := by rw [hy]; exact Nat.or_lt_two_pow h8 hc1
    exact h9
  have hyb : ∀ k, k < 64 → y.testBit k = apB A S W (64 * i + k) := by
    intro k hk
    rw [hy, or_toNat_bit, Nat.testBit_or, Nat.testBit_and, Nat.testBit_and, sh1_bit _ _ hk, hxA k hk, hsS k hk, htW k hk]
    unfold apB
    by_cases hk0 : k = 0
    · subst hk0
      simp only [Nat.lt_irrefl, decide_false, Bool.false_and, Bool.or_false, decide_true, Bool.and_true, h3]
      congr 1
      by_cases hi0 : 0 < i
      · simp [hi0]
      · have : i = 0 := by omega
        subst this; rfl
    · rw [hon (k - 1) (by omega), show 64 * i + (k - 1) = 64 * i + k - 1 by omega]
      have hp : decide (0 < 64 * i + k) = true := decide_eq_true (by omega)
      simp [hk0, Nat.pos_of_ne_zero hk0, hp]
  rw [← hy]
  refine ⟨by rw [List.length_set]; exact h1, small_set h2 _ hy64, ?_, fun j => ?_, ?_, ?_⟩
  · rw [hon 63 (by omega), show 64 * (i + 1) - 1 = 64 * i + 63 by omega]
    simp
  · rw [bit_set _ _ _ _ hi]
    by_cases e : j / 64 = i
    · obtain ⟨k, hk, rfl⟩ : ∃ k, k < 64 ∧ j = 64 * i + k := ⟨j % 64, by omega, by omega⟩
      rw [if_pos e, if_pos (by omega), show (64 * i + k) % 64 = k by omega, hyb k hk]
    · rw [if_neg e, h4]
      by_cases hj : j < 64 * i
      · rw [if_pos hj, if_pos (by omega)]
      · rw [if_neg hj, if_neg (by omega)]
  · have h9 : left ||| y < 2 ^ 64 := Nat.or_lt_two_pow h5 hy64
    exact h9
  · rw [Nat.or_eq_zero_iff, h6]
    constructor
    · rintro ⟨h7, h8⟩ j hj
      by_cases hj2 : j < 64 * i
      · exact h7 j hj2
      · obtain ⟨k, hk, rfl⟩ : ∃ k, k < 64 ∧ j = 64 * i + k := ⟨j - 64 * i, by omega, by omega⟩
        rw [← hyb k hk, h8, Nat.zero_testBit]
    · intro h7
      exact ⟨fun j hj => h7 j (by omega), zero_bits hy64 fun k hk => by rw [hyb k hk]; exact h7 _ (by omega)⟩

/-- What take answers. -/
def apC (A S : List Nat) (r : List Wt) (c : UInt8) (j : Nat) : Bool := ((bit A j && tkAt r j c) && bit S j) || (decide (0 < j) && ((bit A (j - 1) && tkAt r (j - 1) c) && !bit S (j - 1)))
def TakeAns (w0 : World) (k ga gs nw : Nat) (oa : Option Addr) (oc : Nat) (r : List Wt) (A S : List Nat) (c : UInt8) (e : Ending) (w' : World) : Prop :=
  ∃ (A' : List Nat) (T : List Value) (b : Bool), e = .returned (.bool b) ∧ Way w0 w' k ga gs nw oa oc r A' S T (full r) ∧ (b = false ↔ ∀ j, j < 64 * nw → apC A S r c j = false) ∧ ∀ j, j < 64 * nw → bit A' j = (apC A S r c j || (decide (0 < j) && (apC A S r c (j - 1) && bit S (j - 1))))
theorem apC_eq {A S W : List Nat} {r : List Wt} {c : UInt8} (h : ∀ j, bit W j = tkAt r j c) (j : Nat) : apC A S r c j = apB A S W j := by
  unfold apC apB onB; rw [h, h]

set_option maxHeartbeats 16000000 in
theorem ltake (w0 w : World) (k ga gs nw : Nat) (oa : Option Addr) (oc : Nat) (r : List Wt) (hA : Alone r) (hrl : r.length ≤ 100000) (hok : ∀ x ∈ r, x.fine) (A S : List Nat) (T vs : List Value) (B : Nat) (hR : RowW w0 B oa oc r vs) (hSJ : ∀ j, bit S j = isRep r j) (c : UInt8) (x : Int) (hx : x = (c.toNat : Int)) (hW : Way w0 w k ga gs nw oa oc r A S T (full r)) :
    Calls Try.prog 21 #[.pointer (some ⟨k, 0, none⟩), .int .u8 x] w (TakeAns w0 k ga gs nw oa oc r A S c) := by
  have C1 := ltaking w0 w k ga gs nw oa oc r hrl hok A S T vs B hR c x hx hW
  have HNA := Lib.hid hW.la.symm
  have HSA := Lib.hid (show ∀ j, bit S j = true → bit S (j + 1) = false from fun j hj => by rw [hSJ] at hj ⊢; exact alone_rep hA hj)
  have hnw : nw ≤ 100000 := by have := hW.hw; omega
  clear hA hR hSJ hx hW hok
  go_enter Try.func21, Try.ntmps21
  go_wp2_with fail
  refine C1.mono ?_
  rintro e w1 ⟨g, ws, T1, rfl, hW1, hRw, hgk, hga, hgs, hsm, hwl, hwj⟩
  have HW1 := Lib.hid hW1
  have HRw := Lib.hid hRw
  have HNE := Lib.hid (And.intro hgk (And.intro hga hgs))
  have HSM := Lib.hid (And.intro hsm hwl)
  have HWJ := Lib.hid hwj
  have HT0 := Lib.hid (take_start A S ws hW1.sa)
  have HC := Lib.hid (show ∀ (W : World) (X : List Nat), Way w0 W k ga gs nw oa oc r X S T1 (full r) → W.cell? ⟨k, 1, none⟩ = some (.slice (some ⟨ga, 0, none⟩) nw nw) ∧ W.cell? ⟨k, 2, none⟩ = some (.slice (some ⟨gs, 0, none⟩) nw nw) from fun W X h => ⟨h.cells.2.1, h.cells.2.2⟩)
  obtain ⟨d1, d2⟩ := HC.out w1 A hW1
  clear hW1 hRw hgk hga hgs hsm hwl hwj
  go_wp2_with fail
  go_loopw [6, 7, 8, 9, 10, 11, 20] (fun v6 v7 _ _ _ _ v20 wr => ∃ i X c1 left, v20 = .int .i64 ((i : Nat) : Int) ∧ v7 = .int .u64 ((Bool.toNat c1 : Nat) : Int) ∧ v6 = .int .u64 ((left : Nat) : Int) ∧ i ≤ nw ∧ Hid (Way w0 wr k ga gs nw oa oc r X S T1 (full r)) ∧ Hid (TakeI A S ws i X c1 left) ∧ Hid (RowAt wr g (wv ws) 64)) (fun _ _ _ _ _ _ v20 _ => nw - (intOf v20).toNat)
  case atStart => exact ⟨0, A, false, 0, rfl, rfl, rfl, Nat.zero_le _, HW1, HT0, HRw⟩
  case round =>
    obtain ⟨i, X, c1, left, rfl, rfl, rfl, hiN, HWR, HTI, HRR⟩ := hrel
    by_cases hlt : i < nw
    · obtain ⟨x, hx⟩ : ∃ x, X[i]? = some x := ⟨X[i]'(by rw [HWR.out.la]; exact hlt), List.getElem?_eq_getElem _⟩
      obtain ⟨s, hs⟩ : ∃ s, S[i]? = some s := ⟨S[i]'(by rw [HWR.out.ls]; exact hlt), List.getElem?_eq_getElem _⟩
      obtain ⟨t, ht⟩ : ∃ t, ws[i]? = some t := ⟨ws[i]'(by rw [HSM.out.2]; exact hlt), List.getElem?_eq_getElem _⟩
      have hx64 := HWR.out.sa x (List.mem_of_getElem? hx)
      have hs64 := HWR.out.ss s (List.mem_of_getElem? hs)
      have ht64 := HSM.out.1 t (List.mem_of_getElem? ht)
      have hl64 := HTI.out.2.2.2.2.1
      have HTN := Lib.hid (take_next HTI.out hx hs ht hx64 hs64 ht64)
      obtain ⟨cn, hcn⟩ : ∃ cn, cn = Bool.toNat c1 := ⟨_, rfl⟩
      have hc64 : cn < 18446744073709551616 := by rw [hcn]; cases c1 <;> decide
      obtain ⟨tk, htk⟩ : ∃ tk, tk = x &&& t := ⟨_, rfl⟩
      have htk64 : tk < 18446744073709551616 := by
        have : x &&& t < 2 ^ 64 := Nat.and_lt_two_pow _ ht64
        rw [htk]; exact this
      obtain ⟨on, hon⟩ : ∃ on, on = tk &&& (18446744073709551615 - s) := ⟨_, rfl⟩
      have ho64 : on < 18446744073709551616 := by
        have : tk &&& (18446744073709551615 - s) < 2 ^ 64 := Nat.and_lt_two_pow _ (by omega)
        rw [hon]; exact this
      obtain ⟨st, hst⟩ : ∃ st, st = tk &&& s := ⟨_, rfl⟩
      have hst64 : st < 18446744073709551616 := by
        have : tk &&& s < 2 ^ 64 := Nat.and_lt_two_pow _ hs64
        rw [hst]; exact this
      obtain ⟨o1, ho1⟩ : ∃ o1, o1 = sh1 on := ⟨_, rfl⟩
      have ho164 : o1 < 18446744073709551616 := by rw [ho1]; exact sh1_small _
      obtain ⟨y1, hy1⟩ : ∃ y1, y1 = st ||| o1 := ⟨_, rfl⟩
      have hy164 : y1 < 18446744073709551616 := by
        have : st ||| o1 < 2 ^ 64 := Nat.or_lt_two_pow hst64 ho164
        rw [hy1]; exact this
      obtain ⟨y, hy⟩ : ∃ y, y = y1 ||| cn := ⟨_, rfl⟩
      have hy64 : y < 18446744073709551616 := by
        have : y1 ||| cn < 2 ^ 64 := Nat.or_lt_two_pow hy164 hc64
        rw [hy]; exact this
      obtain ⟨c2, hc2'⟩ : ∃ c2, c2 = Bool.toNat (on.testBit 63) := ⟨_, rfl⟩
      obtain ⟨l2, hl2⟩ : ∃ l2, l2 = left ||| y := ⟨_, rfl⟩
      have e1 : bits .and .u64 (x : Int) (t : Int) = (tk : Int) := by rw [htk]; exact bits_and_u64_nat _ _ hx64 ht64
      have e2 : bits .andNot .u64 (tk : Int) (s : Int) = (on : Int) := by rw [hon]; exact bits_andNot _ _ htk64 hs64
      have e3 : bits .and .u64 (tk : Int) (s : Int) = (st : Int) := by rw [hst]; exact bits_and_u64_nat _ _ htk64 hs64
      have e4 : IntKind.u64.wrap ((on : Int) * 2) = (o1 : Int) := by rw [ho1, IntKind.wrap_u64]; unfold sh1; omega
      have e5 : bits .or .u64 (st : Int) (o1 : Int) = (y1 : Int) := by rw [hy1]; exact bits_or_u64_nat _ _ hst64 ho164
      have e6 : bits .or .u64 (y1 : Int) (cn : Int) = (y : Int) := by rw [hy]; exact bits_or_u64_nat _ _ hy164 hc64
      have e7 : (on : Int) / 9223372036854775808 = (c2 : Int) := by rw [hc2', ← top_bit on ho64]; omega
      have e8 : bits .or .u64 (left : Int) (y : Int) = (l2 : Int) := by rw [hl2]; exact bits_or_u64_nat _ _ hl64 hy64
      rw [← hcn, ← htk, ← hon, ← hst, ← ho1, ← hy1, ← hy, ← hl2] at HTN
      have HCN := Lib.hid hc2'
      have HSY := Lib.hid (And.intro (small_set HWR.out.sa i hy64) (show (X.set i y).length = nw by rw [List.length_set]; exact HWR.out.la))
      rw [← hcn]
      obtain ⟨d1, d2⟩ := HC.out wr X HWR.out
      have hcs := HWR.out.rs.cell (wv_get hs)
      have hcx := HWR.out.ra.cell (wv_get hx)
      have hct := HRR.out.cell (wv_get ht)
      have hfx := HWR.out.ra.free i
      have hii : (i : Int) < (nw : Int) := by omega
      have hi0 : (0 : Int) ≤ (i : Int) := by omega
      have HXL := Lib.hid (show i < X.length by rw [HWR.out.la]; exact hlt)
      clear hcn htk hon hst ho1 hy1 hy hl2 hc2' hx hs ht
      go_upto_region 8 with fail
      go_region
      have hg5 : wr.grownBy ((wr.setCell ⟨ga, i, none⟩ (.int .u64 (y : Int))).drew) (some ga) := set_grown _ _ _ _
      have hr5 : RowAt ((wr.setCell ⟨ga, i, none⟩ (.int .u64 (y : Int))).drew) ga (wv (X.set i y)) 64 := by
        have h := HWR.out.ra.set i (.int .u64 (y : Int))
        rw [wv_set] at h
        exact h
      obtain ⟨w5, hw5⟩ : ∃ w5, w5 = (wr.setCell ⟨ga, i, none⟩ (.int .u64 (y : Int))).drew := ⟨_, rfl⟩
      rw [← hw5] at hg5 hr5 ⊢
      have HW5 := Lib.hid (HWR.out.setA hr5 hg5 HSY.out.2 HSY.out.1)
      have HR5 := Lib.hid (show RowAt w5 g (wv ws) 64 from grown_at hg5 HNE.out.2.1 HRR.out)
      obtain ⟨d1, d2⟩ := HC.out w5 _ HW5.out
      have hcy := HW5.out.ra.cell (wv_get (List.getElem?_set_self HXL.out))
      clear hg5 hr5 hw5 hcs hcx hct hfx
      go_wp2_with fail
      go_roundw
      case rel => exact ⟨i + 1, _, _, l2, by simp, by rw [HCN.out], rfl, by omega, HW5, HTN, HR5⟩
      case measure => simp only [intOf]; omega
    · have hii : ¬ (i : Int) < (nw : Int) := by omega
      have HE := Lib.hid (show i = nw by omega)
      obtain ⟨d1, d2⟩ := HC.out wr X HWR.out
      have C3 := lpass X S HWR.out.sa HWR.out.ss HSA.out k ga gs nw HWR.out.la.symm HWR.out.ls.symm hnw HWR.out.nak HWR.out.nas wr d1 d2 HWR.out.ra HWR.out.rs
      have HXB := Lib.hid (show ∀ j, j < 64 * nw → bit X j = apB A S ws j from fun j hj => by
        have h := HTI.out.2.2.2.1 j
        rw [HE.out, if_pos hj] at h
        exact h)
      have HLB := Lib.hid (show left = 0 ↔ ∀ j, j < 64 * nw → apB A S ws j = false by
        have h := HTI.out.2.2.2.2.2
        rw [HE.out] at h
        exact h)
      go_wp2_with fail
      refine C3.mono ?_
      rintro e w7 ⟨rfl, ⟨X', c', hX, hrX⟩, hg7⟩
      have HPE := Lib.hid hX
      have HW7 := Lib.hid (HWR.out.setA hrX hg7 (hX.1.trans HWR.out.la) hX.2.1)
      have HLA := Lib.hid HWR.out.la
      clear hX hrX hg7 C3
      have HANS := Lib.hid (show ∀ b : Bool, (b = false ↔ left = 0) → TakeAns w0 k ga gs nw oa oc r A S c (.returned (.bool b)) w7 from fun b hb => ⟨X', T1, b, rfl, HW7.out, by
        have hap : ∀ j, apC A S r c j = apB A S ws j := apC_eq HWJ.out
        refine ⟨?_, fun j hj => ?_⟩
        · rw [hb, HLB.out]
          constructor
          · intro h j hj; rw [hap]; exact h j hj
          · intro h j hj; rw [← hap]; exact h j hj
        · have h1 := HPE.out
          rw [← HLA.out] at h1 hj
          rw [pass_end h1 j hj, HXB.out j (by rw [← HLA.out]; exact hj), hap, hap]
          by_cases h0 : 0 < j
          · rw [HXB.out (j - 1) (by rw [← HLA.out]; omega)]
          · rw [decide_eq_false h0]; simp⟩)
      by_cases hl0 : left = 0
      · have hA0 := HANS.out false (by simp [hl0])
        have HAF := Lib.hid hA0
        have hne : ((left : Int) != 0) = false := by simp [hl0]
        have hne2 : (left != 0) = false := by simp [hl0]
        clear hA0 hl0
        go_wp2_with fail
        go_ret
        exact HAF.out
      · have hA0 := HANS.out true (by simp [hl0])
        have HAF := Lib.hid hA0
        have hne : ((left : Int) != 0) = true := by simp [hl0]
        have hne2 : (left != 0) = true := by simp [hl0]
        clear hA0 hl0
        go_wp2_with fail
        go_ret
        exact HAF.out
end Go.Proofs.Ytfldhggmgepcjaa
