/-
  tree's Same, of the landed code: two trees are one, field by field.
-/
import Derived.Test.YtdpfnnhlneapbaaTreeSame
namespace Go.Proofs.Ytdpfnnhlneapbaa
open Go Go.RowKit

/-- A call that tells whether two things are one. -/
def TellsEq {α : Type} (x y : α) (e : Ending) : Prop := ∃ v, e = .returned (.bool v) ∧ (v = true ↔ x = y)
theorem TellsEq.no {α : Type} {x y : α} {e : Ending} (he : e = .returned (.bool false)) (h : ¬ x = y) : TellsEq x y e := ⟨false, he, by simpa using h⟩
theorem TellsEq.yes {α : Type} {x y : α} {e : Ending} (he : e = .returned (.bool true)) (h : x = y) : TellsEq x y e := ⟨true, he, by simpa using h⟩

set_option maxRecDepth 100000 in
set_option maxHeartbeats 2000000 in
theorem lequal_any (P R : List (List UInt8 × Int)) (ka ja : Option Addr) (kc jc : Nat) (w : World) (hP : KidsIn w (.slice ka P.length kc) P) (hR : KidsIn w (.slice ja R.length jc) R) :
    Calls Try.prog 53 #[.slice ka P.length kc, .slice ja R.length jc] w fun e w' => TellsEq P R e ∧ ∃ n, w' = w.drewN n := by
  obtain ⟨a1, g1', e1, hc1, hc2, hzx⟩ := hP
  obtain ⟨a2, g2', e2, hd1, hd2, hzy⟩ := hR
  simp only [Value.slice.injEq] at e1 e2
  obtain ⟨rfl, -, rfl⟩ := e1
  obtain ⟨rfl, -, rfl⟩ := e2
  unfold maxLen at hc2 hd2
  have HX := Lib.hid hzx
  have HY := Lib.hid hzy
  clear hzx hzy
  by_cases hlen : P.length = R.length
  · have hlc : ((P.length : Int) != (R.length : Int)) = false := by simp [hlen]
    have HLEN := Lib.hid hlen
    clear hlen
    go_enter Try.func53, Try.ntmps53
    go_wp2_with fail
    go_loopw [5, 13] (fun _ i w' => ∃ j n : Nat, j ≤ P.length ∧ i = .int .i64 j ∧ Hid (∀ t (h1 : t < P.length) (h2 : t < R.length), t < j → P[t] = R[t]) ∧ w' = w.drewN n) (fun _ i _ => P.length - (intOf i).toNat)
    case atStart => exact ⟨0, 0, by omega, rfl, fun _ _ _ h => absurd h (Nat.not_lt_zero _), rfl⟩
    case round =>
      obtain ⟨j, n, hj, rfl, hpre, rfl⟩ := hrel
      by_cases hjl : j < P.length
      · have hjr : j < R.length := by have := HLEN.out; omega
        obtain ⟨c1, p1, rfl, z0, z1⟩ := HX.out j hjl
        obtain ⟨c2, p2, rfl, z2, z3⟩ := HY.out j hjr
        by_cases t1 : P[j].fst = R[j].fst
        · by_cases t2 : P[j].snd = R[j].snd
          · have hp' := Lib.hid (show ∀ t (h1 : t < P.length) (h2 : t < R.length), t < j + 1 → P[t] = R[t] from fun t h1 h2 ht => by
              by_cases e : t = j
              · subst e
                exact Prod.ext t1 t2
              · exact hpre.out t h1 h2 (by omega))
            go_wp2_with fail
            go_region
            all_goals
              go_wp2_with fail
              go_roundw
              case rel => exact ⟨j + 1, _, by omega, by go_num, hp', rfl⟩
              case measure => simp [intOf] <;> omega
          · have hno := Lib.hid (show P ≠ R from fun e => t2 (by subst e; rfl))
            go_wp2_with fail
            go_region
            all_goals
              go_wp2_with fail
              go_ret
              exact ⟨TellsEq.no rfl hno.out, _, rfl⟩
        · have hno := Lib.hid (show P ≠ R from fun e => t1 (by subst e; rfl))
          go_wp2_with fail
          go_region
          all_goals
            go_wp2_with fail
            go_ret
            exact ⟨TellsEq.no rfl hno.out, _, rfl⟩
      · have hall := Lib.hid (List.ext_getElem HLEN.out (fun t h1 h2 => hpre.out t h1 h2 (by omega)))
        go_wp2_with fail
        go_ret
        exact ⟨TellsEq.yes rfl hall.out, _, rfl⟩
  · have hlc : ((P.length : Int) != (R.length : Int)) = true := by rw [bne_iff_ne]; exact fun e => hlen (by omega)
    have HNE := Lib.hid (show P ≠ R from fun e => hlen (by rw [e]))
    clear hlen
    go_enter Try.func53, Try.ntmps53
    go_wp2_with fail
    go_ret
    exact ⟨TellsEq.no rfl HNE.out, 0, rfl⟩

set_option maxRecDepth 100000 in
set_option maxHeartbeats 4000000 in
theorem lsame_ino (k1 m1 l1 u1 k2 m2 l2 u2 : Int) (d1 d2 : List UInt8) (P R : List (List UInt8 × Int)) (ka ja : Option Addr) (kc jc : Nat) (w : World) (hP : KidsIn w (.slice ka P.length kc) P) (hR : KidsIn w (.slice ja R.length jc) R) :
    Calls Try.prog 36 #[.agg #[.int .i64 k1, .int .i64 m1, .int .i64 l1, .string ⟨d1.toArray⟩, .slice ka P.length kc, .int .i64 u1], .agg #[.int .i64 k2, .int .i64 m2, .int .i64 l2, .string ⟨d2.toArray⟩, .slice ja R.length jc, .int .i64 u2]] w
      fun e w' => TellsEq (⟨k1, m1, l1, d1, P, u1⟩ : Ino) ⟨k2, m2, l2, d2, R, u2⟩ e ∧ Below w.heap.size w w' := by
  obtain ⟨w2, hw2⟩ : ∃ w2, w2 = (w.alloc (.cells #[.int .i64 k1, .int .i64 m1, .int .i64 l1, .string ⟨d1.toArray⟩, .slice ka P.length kc, .int .i64 u1] 45)).alloc (.cells #[.int .i64 k2, .int .i64 m2, .int .i64 l2, .string ⟨d2.toArray⟩, .slice ja R.length jc, .int .i64 u2] 45) := ⟨_, rfl⟩
  have hb2 : Below w.heap.size w w2 := by rw [hw2]; exact ((below_box w _).alloc (by simp) _)
  have HBB := Lib.hid (show ∀ o o', Below w.heap.size w ((w.alloc o).alloc o') from fun o o' => ((below_box w _).alloc (by simp) _))
  have HB2 := Lib.hid hb2
  have HP := Lib.hid (hP.below hb2)
  have HR := Lib.hid (hR.below hb2)
  have hneq : ∀ (x y : Ino), (x.kind ≠ y.kind ∨ x.mode ≠ y.mode ∨ x.links ≠ y.links ∨ x.data ≠ y.data ∨ x.up ≠ y.up ∨ x.kids ≠ y.kids) → ¬ x = y := fun x y h e => by subst e; simp at h
  have HNEQ := Lib.hid hneq
  clear hb2 hP hR hneq
  by_cases c0 : k1 = k2
  · by_cases c1 : m1 = m2
    · by_cases c2 : l1 = l2
      · by_cases c3 : d1 = d2
        · by_cases c4 : u1 = u2
          · subst c0 c1 c2 c3 c4
            go_enter Try.func36, Try.ntmps36
            go_wp2_with fail
            rw [← hw2]
            clear hw2
            refine (lequal_any P R ka ja kc jc w2 HP.out HR.out).mono ?_
            rintro e w' ⟨⟨v, rfl, hv⟩, n, rfl⟩
            have HV := Lib.hid hv
            clear hv
            go_wp2_with fail
            go_ret
            exact ⟨⟨v, rfl, by rw [HV.out]; simp⟩, ⟨HB2.out.os, HB2.out.tape, HB2.out.output, HB2.out.size, HB2.out.block⟩⟩
          · have HN := Lib.hid (HNEQ.out ⟨k1, m1, l1, d1, P, u1⟩ ⟨k2, m2, l2, d2, R, u2⟩ (by simp [c4]))
            go_enter Try.func36, Try.ntmps36
            go_wp2_with fail
            go_ret
            exact ⟨TellsEq.no rfl HN.out, HBB.out _ _⟩
        · have HN := Lib.hid (HNEQ.out ⟨k1, m1, l1, d1, P, u1⟩ ⟨k2, m2, l2, d2, R, u2⟩ (by simp [c3]))
          go_enter Try.func36, Try.ntmps36
          go_wp2_with fail
          go_ret
          exact ⟨TellsEq.no rfl HN.out, HBB.out _ _⟩
      · have HN := Lib.hid (HNEQ.out ⟨k1, m1, l1, d1, P, u1⟩ ⟨k2, m2, l2, d2, R, u2⟩ (by simp [c2]))
        go_enter Try.func36, Try.ntmps36
        go_wp2_with fail
        go_ret
        exact ⟨TellsEq.no rfl HN.out, HBB.out _ _⟩
    · have HN := Lib.hid (HNEQ.out ⟨k1, m1, l1, d1, P, u1⟩ ⟨k2, m2, l2, d2, R, u2⟩ (by simp [c1]))
      go_enter Try.func36, Try.ntmps36
      go_wp2_with fail
      go_ret
      exact ⟨TellsEq.no rfl HN.out, HBB.out _ _⟩
  · have HN := Lib.hid (HNEQ.out ⟨k1, m1, l1, d1, P, u1⟩ ⟨k2, m2, l2, d2, R, u2⟩ (by simp [c0]))
    go_enter Try.func36, Try.ntmps36
    go_wp2_with fail
    go_ret
    exact ⟨TellsEq.no rfl HN.out, HBB.out _ _⟩


def LSRel (L M : List Ino) (w : World) (iv : Value) (wr : World) : Prop :=
  ∃ k : Nat, k ≤ L.length ∧ iv = .int .i64 k ∧ Hid (∀ j (h1 : j < L.length) (h2 : j < M.length), j < k → L[j] = M[j]) ∧ Below w.heap.size w wr

set_option maxRecDepth 100000 in
set_option maxHeartbeats 4000000 in
theorem lequalf_any (a a' : Option Addr) (cap cap' : Nat) (L M : List Ino) (hL : L.length ≤ 1000) (w : World) (hN : NodesIn w a cap L) (hN' : NodesIn w a' cap' M) :
    Calls Try.prog 35 #[.slice a L.length cap, .slice a' M.length cap', .func (.func 36) #[] #[]] w fun e w' => TellsEq L M e ∧ Below w.heap.size w w' := by
  have HN1 := Lib.hid hN
  have HN2 := Lib.hid hN'
  clear hN hN'
  by_cases hlen : L.length = M.length
  · have hlc : ((L.length : Int) != (M.length : Int)) = false := by simp [hlen]
    have HLEN := Lib.hid hlen
    clear hlen
    go_enter Try.func35, Try.ntmps35
    go_wp2_with fail
    go_loopw [7, 17] (fun _ k wr => LSRel L M w k wr) (fun _ k _ => L.length - (intOf k).toNat)
    case atStart => exact ⟨0, by omega, rfl, fun _ _ _ h => absurd h (Nat.not_lt_zero _), Below.refl _ _⟩
    case round =>
      obtain ⟨k, hk, rfl, hsame, hbr⟩ := hrel
      have HBR := Lib.hid hbr
      have hszr := hbr.size
      clear hbr
      by_cases hlt : k < L.length
      · have hlt' : k < M.length := by have := HLEN.out; omega
        obtain ⟨b1, o1, rfl, hx⟩ := (HN1.out.below HBR.out).2.2 k hlt
        obtain ⟨b2, o2, rfl, hy⟩ := (HN2.out.below HBR.out).2.2 k hlt'
        obtain ⟨v1, x4, hkx0⟩ := hx.kids
        obtain ⟨v2, y4, hky0⟩ := hy.kids
        obtain ⟨ka, kc, rfl, hc1, hc2, hkx⟩ := hkx0
        obtain ⟨ja, jc, rfl, hd1, hd2, hky⟩ := hky0
        have x0 := hx.kind
        have x1 := hx.mode
        have x2 := hx.links
        have x3 := hx.data
        have x5 := hx.up
        have y0 := hy.kind
        have y1 := hy.mode
        have y2 := hy.links
        have y3 := hy.data
        have y5 := hy.up
        have g1 : b1 < wr.heap.size := cell_lt x0
        have g2 : b2 < wr.heap.size := cell_lt y0
        have HBB := Lib.hid (show ∀ o o', Below wr.heap.size wr ((wr.alloc o).alloc o') from fun o o' => (below_box wr o).alloc (by simp) o')
        have HKX := Lib.hid (show ∀ o o', KidsIn ((wr.alloc o).alloc o') (.slice ka L[k].kids.length kc) L[k].kids from fun o o' => KidsIn.below ⟨ka, kc, rfl, hc1, hc2, hkx⟩ ((below_box wr o).alloc (by simp) o'))
        have HKY := Lib.hid (show ∀ o o', KidsIn ((wr.alloc o).alloc o') (.slice ja M[k].kids.length jc) M[k].kids from fun o o' => KidsIn.below ⟨ja, jc, rfl, hd1, hd2, hky⟩ ((below_box wr o).alloc (by simp) o'))
        clear hx hy hkx hky hc1 hc2 hd1 hd2
        go_wp2_with fail
        refine (lsame_ino _ _ _ _ _ _ _ _ _ _ _ _ _ _ _ _ _ (HKX.out _ _) (HKY.out _ _)).mono ?_
        rintro e w' ⟨⟨v, rfl, hv⟩, hb3⟩
        have HB3 := Lib.hid (HBR.out.trans (((HBB.out _ _).trans (hb3.mono (by simp; omega))).mono hszr))
        have HV := Lib.hid hv
        clear hv hb3 x0 x1 x2 x3 x4 x5 y0 y1 y2 y3 y4 y5
        cases v with
        | true =>
          have hs' := Lib.hid (show ∀ t (h1 : t < L.length) (h2 : t < M.length), t < k + 1 → L[t] = M[t] from fun t h1 h2 ht => by
            by_cases e : t = k
            · subst e
              exact HV.out.1 rfl
            · exact hsame.out t h1 h2 (by omega))
          go_wp2_with fail
          go_roundw
          case rel => exact ⟨k + 1, by omega, by go_num, hs', HB3.out⟩
          case measure => simp [intOf] <;> omega
        | false =>
          have hno := Lib.hid (show L ≠ M from fun e => by
            have h := HV.out
            subst e
            simp at h)
          go_wp2_with fail
          go_ret
          exact ⟨TellsEq.no rfl hno.out, HB3.out⟩
      · have hall := Lib.hid (List.ext_getElem HLEN.out (fun t h1 h2 => hsame.out t h1 h2 (by omega)))
        go_wp2_with fail
        go_ret
        exact ⟨TellsEq.yes rfl hall.out, HBR.out⟩
  · have hlc : ((L.length : Int) != (M.length : Int)) = true := by rw [bne_iff_ne]; exact fun e => hlen (by omega)
    have HNE := Lib.hid (show L ≠ M from fun e => hlen (by rw [e]))
    clear hlen
    go_enter Try.func35, Try.ntmps35
    go_wp2_with fail
    go_ret
    exact ⟨TellsEq.no rfl HNE.out, Below.refl _ _⟩

set_option maxRecDepth 100000 in
set_option maxHeartbeats 2000000 in
theorem lsame_any (a a' : Option Addr) (cap cap' : Nat) (m b m' b' : Int) (L M : List Ino) (hL : L.length ≤ 1000) (w : World) (hN : NodesIn w a cap L) (hN' : NodesIn w a' cap' M) :
    Calls Try.prog 15 #[.agg #[.slice a L.length cap, .int .i64 m, .int .i64 b], .agg #[.slice a' M.length cap', .int .i64 m', .int .i64 b']] w (TellsSame ⟨L, m, b⟩ ⟨M, m', b'⟩ w) := by
  have HBB := Lib.hid (show ∀ o o', Below w.heap.size w ((w.alloc o).alloc o') from fun o o' => (below_box w o).alloc (by simp) o')
  have HN1 := Lib.hid (show ∀ o o', NodesIn ((w.alloc o).alloc o') a cap L from fun o o' => hN.below ((below_box w o).alloc (by simp) o'))
  have HN2 := Lib.hid (show ∀ o o', NodesIn ((w.alloc o).alloc o') a' cap' M from fun o o' => hN'.below ((below_box w o).alloc (by simp) o'))
  clear hN hN'
  by_cases c0 : m = m'
  · by_cases c1 : b = b'
    · subst c0 c1
      go_enter Try.func15, Try.ntmps15
      go_wp2_with fail
      refine (lequalf_any a a' cap cap' L M hL _ (HN1.out _ _) (HN2.out _ _)).mono ?_
      rintro e w' ⟨⟨v, rfl, hv⟩, hb3⟩
      have HB3 := Lib.hid ((HBB.out _ _).trans (hb3.mono (by simp; omega)))
      have HV := Lib.hid hv
      clear hv hb3
      go_wp2_with fail
      go_ret
      exact ⟨⟨v, rfl, by rw [HV.out]; simp⟩, HB3.out⟩
    · have HN := Lib.hid (show ¬ (⟨L, m, b⟩ : Tre) = ⟨M, m', b'⟩ from fun e => c1 (by simpa using congrArg Tre.maxB e))
      go_enter Try.func15, Try.ntmps15
      go_wp2_with fail
      go_ret
      exact TellsSame.no rfl HN.out (HBB.out _ _)
  · have HN := Lib.hid (show ¬ (⟨L, m, b⟩ : Tre) = ⟨M, m', b'⟩ from fun e => c0 (by simpa using congrArg Tre.maxN e))
    go_enter Try.func15, Try.ntmps15
    go_wp2_with fail
    go_ret
    exact TellsSame.no rfl HN.out (HBB.out _ _)
end Go.Proofs.Ytdpfnnhlneapbaa
