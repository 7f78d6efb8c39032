/-
  The reference's Same: two trees are one, field by field.
  The reference's Named: the names of a directory with one more.
  The reference's added, of chapter 5: a tree with a new inode of a name.
  The reference's Parent, walked.
  The reference's fresh, of chapter 5: a new name: its directory, and it.
  The reference's Mkdir, Create, of chapter 5.
  The reference's Symlink, of chapter 5.
-/
import Derived.BigRegion
import Derived.Deep.QuietTactic
import Derived.BigQuiet
import Derived.Deep.Draws
import Derived.Test.YtogheigpcppeiaaGreatK1
import Derived.Test.YtogheigpcppeiaaGreatK3
import Derived.Test.YtogheigpcppeiaaGreatK6
import Derived.Test.YtogheigpcppeiaaGreatK2
import Derived.Test.YtogheigpcppeiaaGreatK8
import Derived.Test.YtogheigpcppeiaaGreatK7
import Derived.OwnWalk
import Derived.Test.YtogheigpcppeiaaGreatK5
namespace Go.Proofs.YtogheigpcppeiaaGreat
set_option maxRecDepth 100000
open Go Go.RowKit

theorem nodes_ne {L M : List Ino} {m b m' b' : Int} (k : Nat) (h1 : k < L.length) (h2 : k < M.length) (h : L[k] ≠ M[k]) : ¬ (⟨L, m, b⟩ : Tre) = ⟨M, m', b'⟩ := by
  intro e
  simp only [Tre.mk.injEq] at e
  obtain ⟨rfl, -, -⟩ := e
  exact h rfl

/-- A call that tells whether two trees are one. -/
def TellsSame (T U : Tre) (w : World) (e : Ending) (w' : World) : Prop := (∃ v, e = .returned (.bool v) ∧ (v = true ↔ T = U)) ∧ Below w.heap.size w w'
theorem TellsSame.no {T U : Tre} {w w' : World} {e : Ending} (he : e = .returned (.bool false)) (h : ¬ T = U) (hb : Below w.heap.size w w') : TellsSame T U w e w' := ⟨⟨false, he, by simpa using h⟩, hb⟩
theorem TellsSame.yes {T U : Tre} {w w' : World} {e : Ending} (he : e = .returned (.bool true)) (h : T = U) (hb : Below w.heap.size w w') : TellsSame T U w e w' := ⟨⟨true, he, by simpa using h⟩, hb⟩

def SameRel (L M : List Ino) (w1 : World) (iv : Value) (wr : World) : Prop :=
  ∃ k : Nat, k ≤ L.length ∧ iv = .int .i64 k ∧ Hid (∀ j (h1 : j < L.length) (h2 : j < M.length), j < k → L[j] = M[j]) ∧ Below w1.heap.size w1 wr

set_option maxRecDepth 100000 in
set_option maxHeartbeats 4000000 in
theorem rsame3_any (a a' : Option Addr) (cap cap' : Nat) (m b m' b' : Int) (L M : List Ino) (hL : L.length ≤ 1000) (w : World) (hN : NodesIn w a cap L) (hN' : NodesIn w a' cap' M) :
    Calls Tryz.prog 10 #[.agg #[.slice a L.length cap, .int .i64 m, .int .i64 b], .agg #[.slice a' M.length cap', .int .i64 m', .int .i64 b']] w (TellsSame ⟨L, m, b⟩ ⟨M, m', b'⟩ w) := by
  have hb1 := ((below_box w (.cells #[.slice a L.length cap, .int .i64 m, .int .i64 b] 24)).alloc (by simp) (.cells #[.slice a' M.length cap', .int .i64 m', .int .i64 b'] 24))
  obtain ⟨w0, hw0⟩ : ∃ w0, w0 = w.alloc (.cells #[.slice a L.length cap, .int .i64 m, .int .i64 b] 24) := ⟨_, rfl⟩
  obtain ⟨w1, hw1⟩ : ∃ w1, w1 = w0.alloc (.cells #[.slice a' M.length cap', .int .i64 m', .int .i64 b'] 24) := ⟨_, rfl⟩
  by_cases hm : m = m' ∧ b = b' ∧ L.length = M.length
  · obtain ⟨rfl, rfl, hlen⟩ := hm
    have hX : ∀ W', Below w1.heap.size w1 W' → NodesIn W' a cap L ∧ NodesIn W' a' cap' M ∧ W'.cell? ⟨w.heap.size, 0, none⟩ = some (.slice a L.length cap) ∧ W'.cell? ⟨w.heap.size + 1, 0, none⟩ = some (.slice a' M.length cap') := by
      intro W' h
      have g1 : Below w0.heap.size w0 w1 := by rw [hw1]; exact below_box _ _
      have g2 : Below w0.heap.size w0 W' := g1.trans (h.mono g1.size)
      have g0 : Below w.heap.size w w0 := by rw [hw0]; exact below_box _ _
      have g3 : Below w.heap.size w W' := g0.trans (g2.mono g0.size)
      have e1 := (box3 (W' := W') (by rw [← hw0]; exact g2)).1
      have e2 := (box3 (W' := W') (by rw [← hw1]; exact h)).1
      have e3 : w0.heap.size = w.heap.size + 1 := by rw [hw0]; simp
      rw [e3] at e2
      exact ⟨hN.below g3, hN'.below g3, e1, e2⟩
    have HX := Lib.hid hX
    have hb2 : Below w.heap.size w w1 := by rw [hw1, hw0]; exact hb1
    have HB := Lib.hid hb2
    have hww : w1 = (w.alloc (.cells #[.slice a L.length cap, .int .i64 m, .int .i64 b] 24)).alloc (.cells #[.slice a' M.length cap', .int .i64 m, .int .i64 b] 24) := by rw [hw1, hw0]
    clear hX hb1 hb2 hw1 hw0 hN hN'
    have hlc : ((L.length : Int) != (M.length : Int)) = false := by simp [hlen]
    have HLEN := Lib.hid hlen
    clear hlen
    have hsz1 : w.heap.size + 2 ≤ w1.heap.size := by rw [hww]; simp
    go_enter Tryz.func10, Tryz.ntmps10
    go_wp2_with fail
    rw [← hww]
    clear hww
    go_loopw [5] (fun k wr => SameRel L M w1 k wr) (fun k _ => L.length - (intOf k).toNat)
    case atStart => exact ⟨0, by omega, rfl, fun _ _ _ h => absurd h (Nat.not_lt_zero _), Below.refl _ _⟩
    case round =>
      obtain ⟨k, hk, rfl, hsame, hbr⟩ := hrel
      have HBR := Lib.hid hbr
      obtain ⟨hn1, hn2, q1, q2⟩ := HX.out _ hbr
      have HN1 := Lib.hid hn1
      have HN2 := Lib.hid hn2
      clear hbr hn1 hn2
      by_cases hlt : k < L.length
      · have hlt' : k < M.length := by have := HLEN.out; omega
        obtain ⟨b1, o1, rfl, hx⟩ := HN1.out.2.2 k hlt
        obtain ⟨b2, o2, rfl, hy⟩ := HN2.out.2.2 k hlt'
        obtain ⟨v1, x4, hkx0⟩ := hx.kids
        obtain ⟨v2, y4, hky0⟩ := hy.kids
        obtain ⟨P, hP⟩ : ∃ P, P = L[k].kids := ⟨_, rfl⟩
        obtain ⟨R, hR⟩ : ∃ R, R = M[k].kids := ⟨_, rfl⟩
        rw [← hP] at hkx0
        rw [← hR] at hky0
        obtain ⟨ka, kc, rfl, hc1, hc2, hkx⟩ := hkx0
        obtain ⟨ja, jc, rfl, hd1, hd2, hky⟩ := hky0
        unfold maxLen at hc2 hd2
        have x0 := hx.kind
        have x1 := hx.mode
        have x2 := hx.links
        have x3 := hx.data
        have x5 := hx.up
        have y0 := hy.kind
        have y1 := hy.mode
        have y2 := hy.links
        have y3 := hy.data
        have y5 := hy.up
        have hsz2 := HBR.out.size
        have g0 : w.heap.size + 1 < wr.heap.size := by omega
        have g3 : w.heap.size < wr.heap.size := by omega
        have g1 : b1 < wr.heap.size := cell_lt x0
        have g2 : b2 < wr.heap.size := cell_lt y0
        have HKX := Lib.hid hkx
        have HKY := Lib.hid hky
        have HP := Lib.hid hP
        have HR := Lib.hid hR
        have HBB := Lib.hid (show ∀ o o', Below w.heap.size w ((wr.alloc o).alloc o') from fun o o' => ((HB.out.trans (HBR.out.mono HB.out.size)).alloc (by omega) o).alloc (by simp; omega) o')
        clear hx hy hkx hky hP hR
        go_wp2_with fail
        all_goals try (go_ret; exact TellsSame.no rfl (nodes_ne k hlt hlt' (by intro e; rename_i h; first | exact h (by rw [e]) | (rw [HP.out, HR.out, e] at h; simp at h))) (HBB.out _ _))
        rename_i e1 e2 e3 e4 e5 e6
        have hPR : P.length = R.length := by have h6 : ((P.length : Int) != (R.length : Int)) = false := e6; rw [bne_eq_false_iff_eq] at h6; omega
        have HE := Lib.hid (show P = R → L[k] = M[k] from fun h => by
          have h' : L[k].kids = M[k].kids := by rw [← HP.out, ← HR.out, h]
          revert e1 e2 e3 e4 e5 h'
          generalize L[k] = X
          generalize M[k] = Y
          intro e1 e2 e3 e4 e5 h'
          cases X
          cases Y
          simp_all)
        have HPR := Lib.hid hPR
        clear e1 e2 e3 e4 e5 e6 hPR x0 x1 x2 x3 x4 x5 y0 y1 y2 y3 y4 y5 q1 q2
        have kx : ((wr.alloc (.cells #[.int .i64 M[k].kind, .int .i64 M[k].mode, .int .i64 M[k].links, .string ⟨M[k].data.toArray⟩, .slice ka P.length kc, .int .i64 M[k].up] 49)).alloc (.cells #[.int .i64 M[k].kind, .int .i64 M[k].mode, .int .i64 M[k].links, .string ⟨M[k].data.toArray⟩, .slice ja R.length jc, .int .i64 M[k].up] 49)).cell? ⟨wr.heap.size, 4, none⟩ = some (.slice ka P.length kc) := (box6 (below_box _ _)).2.2.2.2.1
        have ky : ((wr.alloc (.cells #[.int .i64 M[k].kind, .int .i64 M[k].mode, .int .i64 M[k].links, .string ⟨M[k].data.toArray⟩, .slice ka P.length kc, .int .i64 M[k].up] 49)).alloc (.cells #[.int .i64 M[k].kind, .int .i64 M[k].mode, .int .i64 M[k].links, .string ⟨M[k].data.toArray⟩, .slice ja R.length jc, .int .i64 M[k].up] 49)).cell? ⟨wr.heap.size + 1, 4, none⟩ = some (.slice ja R.length jc) := by
          have h := (box6 (w := wr.alloc (.cells #[.int .i64 M[k].kind, .int .i64 M[k].mode, .int .i64 M[k].links, .string ⟨M[k].data.toArray⟩, .slice ka P.length kc, .int .i64 M[k].up] 49)) (x0 := .int .i64 M[k].kind) (x1 := .int .i64 M[k].mode) (x2 := .int .i64 M[k].links) (x3 := .string ⟨M[k].data.toArray⟩) (x4 := .slice ja R.length jc) (x5 := .int .i64 M[k].up) (t := 49) (Below.refl _ _)).2.2.2.2.1
          rw [World.size_alloc] at h
          exact h
        have HBW := Lib.hid (HBB.out (.cells #[.int .i64 M[k].kind, .int .i64 M[k].mode, .int .i64 M[k].links, .string ⟨M[k].data.toArray⟩, .slice ka P.length kc, .int .i64 M[k].up] 49) (.cells #[.int .i64 M[k].kind, .int .i64 M[k].mode, .int .i64 M[k].links, .string ⟨M[k].data.toArray⟩, .slice ja R.length jc, .int .i64 M[k].up] 49))
        have HKX2 := Lib.hid (show KidsIn ((wr.alloc (.cells #[.int .i64 M[k].kind, .int .i64 M[k].mode, .int .i64 M[k].links, .string ⟨M[k].data.toArray⟩, .slice ka P.length kc, .int .i64 M[k].up] 49)).alloc (.cells #[.int .i64 M[k].kind, .int .i64 M[k].mode, .int .i64 M[k].links, .string ⟨M[k].data.toArray⟩, .slice ja R.length jc, .int .i64 M[k].up] 49)) (.slice ka P.length kc) P from KidsIn.below ⟨ka, kc, rfl, hc1, by unfold maxLen; exact hc2, HKX.out⟩ ((below_box wr _).alloc (by simp) _))
        have HKY2 := Lib.hid (show KidsIn ((wr.alloc (.cells #[.int .i64 M[k].kind, .int .i64 M[k].mode, .int .i64 M[k].links, .string ⟨M[k].data.toArray⟩, .slice ka P.length kc, .int .i64 M[k].up] 49)).alloc (.cells #[.int .i64 M[k].kind, .int .i64 M[k].mode, .int .i64 M[k].links, .string ⟨M[k].data.toArray⟩, .slice ja R.length jc, .int .i64 M[k].up] 49)) (.slice ja R.length jc) R from KidsIn.below ⟨ja, jc, rfl, hd1, by unfold maxLen; exact hd2, HKY.out⟩ ((below_box wr _).alloc (by simp) _))
        clear HBB HKX HKY
        have HW1 := Lib.hid (show Below w1.heap.size w1 ((wr.alloc (.cells #[.int .i64 M[k].kind, .int .i64 M[k].mode, .int .i64 M[k].links, .string ⟨M[k].data.toArray⟩, .slice ka P.length kc, .int .i64 M[k].up] 49)).alloc (.cells #[.int .i64 M[k].kind, .int .i64 M[k].mode, .int .i64 M[k].links, .string ⟨M[k].data.toArray⟩, .slice ja R.length jc, .int .i64 M[k].up] 49)) from (HBR.out.alloc hsz2 _).alloc (by simp; omega) _)
        generalize ((wr.alloc (.cells #[.int .i64 M[k].kind, .int .i64 M[k].mode, .int .i64 M[k].links, .string ⟨M[k].data.toArray⟩, .slice ka P.length kc, .int .i64 M[k].up] 49)).alloc (.cells #[.int .i64 M[k].kind, .int .i64 M[k].mode, .int .i64 M[k].links, .string ⟨M[k].data.toArray⟩, .slice ja R.length jc, .int .i64 M[k].up] 49)) = W2 at kx ky HBW HKX2 HKY2 HW1 ⊢
        go_loopw [8] (fun i w' => ∃ j n : Nat, j ≤ P.length ∧ i = .int .i64 j ∧ Hid (∀ t (h1 : t < P.length) (h2 : t < R.length), t < j → P[t] = R[t]) ∧ w' = W2.drewN n) (fun i _ => P.length - (intOf i).toNat)
        case atStart => exact ⟨0, 0, by omega, rfl, fun _ _ _ h => absurd h (Nat.not_lt_zero _), rfl⟩
        case round =>
          obtain ⟨j, n, hj, rfl, hpre, rfl⟩ := hrel
          by_cases hjl : j < P.length
          · have hjr : j < R.length := by have := HPR.out; omega
            obtain ⟨a1, g1', e1, -, -, hzx⟩ := HKX2.out
            obtain ⟨a2, g2', e2, -, -, hzy⟩ := HKY2.out
            simp only [Value.slice.injEq] at e1 e2
            obtain ⟨rfl, -, rfl⟩ := e1
            obtain ⟨rfl, -, rfl⟩ := e2
            obtain ⟨c1, p1, rfl, z0, z1⟩ := hzx j hjl
            obtain ⟨c2, p2, rfl, z2, z3⟩ := hzy j hjr
            clear hzx hzy
            have HBN := Lib.hid (show ∀ n, Below w.heap.size w (W2.drewN n) from fun n => ⟨HBW.out.os, HBW.out.tape, HBW.out.output, HBW.out.size, HBW.out.block⟩)
            by_cases t1 : P[j].fst = R[j].fst
            · by_cases t2 : P[j].snd = R[j].snd
              · have hp' := Lib.hid (show ∀ t (h1 : t < P.length) (h2 : t < R.length), t < j + 1 → P[t] = R[t] from fun t h1 h2 ht => by
                  by_cases e : t = j
                  · subst e
                    exact Prod.ext t1 t2
                  · exact hpre.out t h1 h2 (by omega))
                go_wp2_with fail
                go_region
                all_goals
                  go_wp2_with fail
                  go_roundw
                  case rel => exact ⟨j + 1, _, by omega, by go_num, hp', rfl⟩
                  case measure => simp [intOf] <;> omega
              · have hno := Lib.hid (show L[k] ≠ M[k] from fun e => t2 (by
                  have : P = R := by rw [HP.out, HR.out, e]
                  subst this
                  rfl))
                go_wp2_with fail
                go_region
                all_goals
                  go_wp2_with fail
                  go_ret
                  exact TellsSame.no rfl (nodes_ne k hlt hlt' hno.out) (HBN.out _)
            · have hno := Lib.hid (show L[k] ≠ M[k] from fun e => t1 (by
                have : P = R := by rw [HP.out, HR.out, e]
                subst this
                rfl))
              go_wp2_with fail
              go_region
              all_goals
                go_wp2_with fail
                go_ret
                exact TellsSame.no rfl (nodes_ne k hlt hlt' hno.out) (HBN.out _)
          · have hall := Lib.hid (HE.out (List.ext_getElem HPR.out (fun t h1 h2 => hpre.out t h1 h2 (by omega))))
            have hs' := Lib.hid (show ∀ t (h1 : t < L.length) (h2 : t < M.length), t < k + 1 → L[t] = M[t] from fun t h1 h2 ht => by
              by_cases e : t = k
              · subst e
                exact hall.out
              · exact hsame.out t h1 h2 (by omega))
            have HWN := Lib.hid (show Below w1.heap.size w1 (W2.drewN n) from ⟨HW1.out.os, HW1.out.tape, HW1.out.output, HW1.out.size, HW1.out.block⟩)
            go_wp2_with fail
            go_roundw
            case rel => exact ⟨k + 1, by omega, by go_num, hs', HWN.out⟩
            case measure => simp [intOf] <;> omega
      · have hall := Lib.hid (List.ext_getElem HLEN.out (fun t h1 h2 => hsame.out t h1 h2 (by omega)))
        go_wp2_with fail
        go_ret
        exact TellsSame.yes rfl (by rw [hall.out]) (HB.out.trans (HBR.out.mono HB.out.size))
  · have hne : ¬ (⟨L, m, b⟩ : Tre) = ⟨M, m', b'⟩ := by
      intro e
      simp only [Tre.mk.injEq] at e
      exact hm ⟨e.2.1, e.2.2, by rw [e.1]⟩
    have HNE := Lib.hid hne
    go_enter Tryz.func10, Tryz.ntmps10
    clear hne
    by_cases c1 : m = m'
    · by_cases c2 : b = b'
      · have c3 : ((L.length : Int) != (M.length : Int)) = true := by
          rw [bne_iff_ne]
          intro e
          exact hm ⟨c1, c2, by omega⟩
        subst c1 c2
        go_wp2_with fail
        go_ret
        exact TellsSame.no rfl HNE.out hb1
      · have c2' : (b != b') = true := by simpa using c2
        subst c1
        go_wp2_with fail
        go_ret
        exact TellsSame.no rfl HNE.out hb1
    · have c1' : (m != m') = true := by simpa using c1
      go_wp2_with fail
      go_ret
      exact TellsSame.no rfl HNE.out hb1
end Go.Proofs.YtogheigpcppeiaaGreat

namespace Go.Proofs.YtogheigpcppeiaaGreat
set_option maxRecDepth 100000
open Go Go.RowKit

theorem ent_new (W : World) (x y : Value) (t : TypeId) : ∀ j u, [x, y][j]? = some u → (W.alloc (.cells #[x, y] t)).cell? ((⟨W.heap.size, 0, none⟩ : Addr).add j) = some u := fun j u hj => by
  rw [zero_add_addr, blk_cell (new_block W _) j]
  simpa using hj

theorem named_cons (e : List UInt8 × Int) (r : List (List UInt8 × Int)) (s : List UInt8) (k : Int) : namedL (e :: r) s k = if Op.bytesLess e.1 s = true then e :: namedL r s k else (s, k) :: (e :: r).filter fun e => e.1 != s := rfl

def NamRel (M : List (List UInt8 × Int)) (s : List UInt8) (z : Int) (w : World) (ov pv iv : Value) (wr : World) : Prop :=
  ∃ (k : Nat) (out : List (List UInt8 × Int)) (put : Bool), k ≤ M.length ∧ iv = .int .i64 k ∧ pv = .bool put ∧ out.length ≤ k + put.toNat ∧ namedL M s z = out ++ (if put = true then M.drop k else namedL (M.drop k) s z) ∧ KidsOwn wr w.heap.size ov out ∧ Below w.heap.size w wr

set_option maxHeartbeats 8000000 in
theorem rnamed_any (v : Value) (M : List (List UInt8 × Int)) (hM : M.length ≤ 4096) (s : List UInt8) (z : Int) (hnew : ∀ e ∈ M, e.1 ≠ s) (w : World) (hK : KidsIn w v M) :
    Calls Tryz.prog 36 #[v, .string ⟨s.toArray⟩, .int .i64 z] w fun e w' => ∃ v', e = .returned v' ∧ KidsOwn w' w.heap.size v' (namedL M s z) ∧ Below w.heap.size w w' := by
  obtain ⟨i0, hi, hz0, hz1, hz2⟩ := info_parts infoE
  obtain ⟨a, cap, rfl, hc, hm, hk⟩ := hK
  have HK := Lib.hid hk
  have HNEW := Lib.hid hnew
  unfold maxLen at hm
  clear hk hnew
  go_enter Tryz.func36, Tryz.ntmps36
  go_wp2_with fail
  go_loopw [7, 8, 9] (fun ov pv iv wr => NamRel M s z w ov pv iv wr) (fun _ _ iv _ => M.length - (intOf iv).toNat)
  case atStart => exact ⟨0, [], false, by omega, rfl, rfl, by simp, by simp, KidsOwn.nil _ _, Below.refl _ _⟩
  case round =>
    obtain ⟨k, out, put, hk, rfl, rfl, hol, he, ho, hb⟩ := hrel
    have HE0 := Lib.hid he
    have HO := Lib.hid (show wr.ownsRow w.heap.size 58 2 _ out.length (kidC out) from ho)
    have HB := Lib.hid hb
    have hsz := hb.size
    clear he ho hb
    by_cases hlt : k < M.length
    · have hlz : (k : Int) < (M.length : Int) := by omega
      have hk0 : (0 : Int) ≤ (k : Int) := by omega
      obtain ⟨c1, p1, rfl, z0, z1⟩ := HK.out k hlt
      have hx := List.drop_eq_getElem_cons hlt
      have hnew' := HNEW.out M[k] (List.getElem_mem _)
      obtain ⟨nm, hnm⟩ : ∃ x, x = M[k].1 := ⟨_, rfl⟩
      obtain ⟨zi, hzi⟩ : ∃ x, x = M[k].2 := ⟨_, rfl⟩
      have hpair : M[k] = (nm, zi) := by rw [hnm, hzi]
      rw [← hnm] at z0 hnew'
      rw [← hzi] at z1
      rw [hpair] at hx
      have HZ0 := Lib.hid z0
      have HZ1 := Lib.hid z1
      have HXD := Lib.hid hx
      have hne : (nm == s) = false := by simpa using hnew'
      have y0 := cell_below HB.out z0
      have y1 := cell_below HB.out z1
      have hyl := cell_lt y0
      clear hnm hzi hpair z0 z1 hx hnew'
      cases put with
      | true =>
        have hol' : out.length ≤ k + 1 := hol
        have HE := Lib.hid (show namedL M s z = (out ++ [(nm, zi)]) ++ (if true = true then M.drop (k + 1) else namedL (M.drop (k + 1)) s z) by
          have h := HE0.out
          rw [if_pos rfl, HXD.out] at h
          rw [if_pos rfl, h]
          simp)
        go_wp2_with (first | (at_builtin; (refine wpList_append_own _ rfl _ _ 47 rfl w.heap.size 58 i0 _ 2 24 Tryz.underlying47 hi hz0 hz1 hz2 rfl (by decide) _ _ _ rfl (HO.out.alloc _) ⟨wr.heap.size, 0, none⟩ 1 1 [.string ⟨nm.toArray⟩, .int .i64 zi] rfl rfl (ent_new _ _ _ _) (fun x hx => by simp at hx; rcases hx with rfl | rfl <;> rfl) (by unfold maxLen; omega) (by omega) (by simp; omega) ?_); intro v3 w3 hown3 hgrow3 hnil3) | fail)
        have hb3 : Below w.heap.size w w3 := (HB.out.alloc HB.out.size _).grown hgrow3 (by simp; omega) (fun r hr => (HO.out.lt r hr).1)
        have HO3 := Lib.hid (show w3.ownsRow w.heap.size 58 2 _ (out ++ [(nm, zi)]).length (kidC (out ++ [(nm, zi)])) by rw [List.length_append, kidC_app]; exact hown3)
        have HB3 := Lib.hid hb3
        have hs3 := hb3.size
        clear hb3 hown3 hgrow3 hnil3
        go_wp2_with fail
        go_roundw
        case rel => exact ⟨k + 1, out ++ [(nm, zi)], true, by omega, by go_num, rfl, by show _ ≤ k + 1 + 1; simp only [List.length_append, List.length_cons, List.length_nil]; omega, HE.out, HO3.out, HB3.out⟩
        case measure => simp [intOf] <;> omega
      | false =>
        have hol' : out.length ≤ k := hol
        cases hls : Op.bytesLess nm s with
        | true =>
          have HE := Lib.hid (show namedL M s z = (out ++ [(nm, zi)]) ++ (if false = true then M.drop (k + 1) else namedL (M.drop (k + 1)) s z) by
            have h := HE0.out
            rw [if_neg (by decide), HXD.out] at h
            rw [named_cons] at h
            rw [if_pos hls] at h
            rw [if_neg (by decide), List.append_assoc]
            exact h)
          go_wp2_with (first | (at_builtin; (refine wpList_append_own _ rfl _ _ 47 rfl w.heap.size 58 i0 _ 2 24 Tryz.underlying47 hi hz0 hz1 hz2 rfl (by decide) _ _ _ rfl (HO.out.alloc _) ⟨wr.heap.size, 0, none⟩ 1 1 [.string ⟨nm.toArray⟩, .int .i64 zi] rfl rfl (ent_new _ _ _ _) (fun x hx => by simp at hx; rcases hx with rfl | rfl <;> rfl) (by unfold maxLen; omega) (by omega) (by simp; omega) ?_); intro v3 w3 hown3 hgrow3 hnil3) | fail)
          have hb3 : Below w.heap.size w w3 := (HB.out.alloc HB.out.size _).grown hgrow3 (by simp; omega) (fun r hr => (HO.out.lt r hr).1)
          have HO3 := Lib.hid (show w3.ownsRow w.heap.size 58 2 _ (out ++ [(nm, zi)]).length (kidC (out ++ [(nm, zi)])) by rw [List.length_append, kidC_app]; exact hown3)
          have HB3 := Lib.hid hb3
          have hs3 := hb3.size
          clear hb3 hown3 hgrow3 hnil3
          go_wp2_with fail
          go_roundw
          case rel => exact ⟨k + 1, out ++ [(nm, zi)], false, by omega, by go_num, rfl, by show _ ≤ k + 1 + 0; simp only [List.length_append, List.length_cons, List.length_nil]; omega, HE.out, HO3.out, HB3.out⟩
          case measure => simp [intOf] <;> omega
        | false =>
          have HE := Lib.hid (show namedL M s z = ((out ++ [(s, z)]) ++ [(nm, zi)]) ++ (if true = true then M.drop (k + 1) else namedL (M.drop (k + 1)) s z) by
            have h := HE0.out
            rw [if_neg (by decide), HXD.out] at h
            rw [named_cons] at h
            rw [if_neg (by rw [hls]; decide), List.filter_eq_self.2 (fun e he => by
              have h1 := HNEW.out e (List.mem_of_mem_drop (i := k) (by rw [HXD.out]; exact he))
              simpa using h1)] at h
            rw [if_pos rfl, h]
            simp)
          go_wp2_with (first | (at_builtin; (refine wpList_append_own _ rfl _ _ 47 rfl w.heap.size 58 i0 _ 2 24 Tryz.underlying47 hi hz0 hz1 hz2 rfl (by decide) _ _ _ rfl (HO.out.alloc _) ⟨wr.heap.size, 0, none⟩ 1 1 [.string ⟨s.toArray⟩, .int .i64 z] rfl rfl (ent_new _ _ _ _) (fun x hx => by simp at hx; rcases hx with rfl | rfl <;> rfl) (by unfold maxLen; omega) (by omega) (by simp; omega) ?_); intro v3 w3 hown3 hgrow3 hnil3; have hb3 : Below w.heap.size w w3 := (HB.out.alloc HB.out.size _).grown hgrow3 (by simp; omega) (fun r hr => (HO.out.lt r hr).1); have y0' := cell_below hb3 HZ0.out; have y1' := cell_below hb3 HZ1.out; have hyl' := cell_lt y0'; have HB3 := Lib.hid hb3; have hs3 := hb3.size; have ho1 : (out ++ [(s, z)]).length = out.length + 1 := (by simp); have HO3 := Lib.hid (show w3.ownsRow w.heap.size 58 2 v3 (out ++ [(s, z)]).length (kidC (out ++ [(s, z)])) by rw [List.length_append, kidC_app]; exact hown3)) | (at_builtin; (refine wpList_append_own _ rfl _ _ 47 rfl w.heap.size 58 i0 _ 2 24 Tryz.underlying47 hi hz0 hz1 hz2 rfl (by decide) _ _ _ rfl (HO3.out.alloc _) ⟨w3.heap.size, 0, none⟩ 1 1 [.string ⟨nm.toArray⟩, .int .i64 zi] rfl rfl (ent_new _ _ _ _) (fun x hx => by simp at hx; rcases hx with rfl | rfl <;> rfl) (by unfold maxLen; omega) (by omega) (by simp; omega) ?_); intro v4 w4 hown4 hgrow4 hnil4) | fail)
          have HO4 := Lib.hid (show w4.ownsRow w.heap.size 58 2 _ ((out ++ [(s, z)]) ++ [(nm, zi)]).length (kidC ((out ++ [(s, z)]) ++ [(nm, zi)])) by rw [List.length_append, kidC_app]; exact hown4)
          have HB4 := Lib.hid (show Below w.heap.size w w4 from (HB3.out.alloc HB3.out.size _).grown hgrow4 (by simp; omega) (fun r hr => (HO3.out.lt r hr).1))
          clear hown4 hgrow4 hnil4 hown3 hgrow3 hnil3 hb3
          go_wp2_with fail
          go_roundw
          case rel => exact ⟨k + 1, (out ++ [(s, z)]) ++ [(nm, zi)], true, by omega, by go_num, rfl, by show _ ≤ k + 1 + 1; simp only [List.length_append, List.length_cons, List.length_nil]; omega, HE.out, HO4.out, HB4.out⟩
          case measure => simp [intOf] <;> omega
    · obtain rfl : k = M.length := by omega
      have hd : M.drop M.length = [] := List.drop_length
      cases put with
      | true =>
        have HE := Lib.hid (show namedL M s z = out by have h := HE0.out; rw [if_pos rfl, hd, List.append_nil] at h; exact h)
        clear hd
        go_wp2_with fail
        go_ret
        exact ⟨_, rfl, by rw [HE.out]; exact HO.out, HB.out⟩
      | false =>
        have hol' : out.length ≤ M.length := hol
        have HE := Lib.hid (show namedL M s z = out ++ [(s, z)] by have h := HE0.out; rw [if_neg (by decide), hd] at h; exact h)
        clear hd
        go_wp2_with (first | (at_builtin; (refine wpList_append_own _ rfl _ _ 47 rfl w.heap.size 58 i0 _ 2 24 Tryz.underlying47 hi hz0 hz1 hz2 rfl (by decide) _ _ _ rfl (HO.out.alloc _) ⟨wr.heap.size, 0, none⟩ 1 1 [.string ⟨s.toArray⟩, .int .i64 z] rfl rfl (ent_new _ _ _ _) (fun x hx => by simp at hx; rcases hx with rfl | rfl <;> rfl) (by unfold maxLen; omega) (by omega) (by simp; omega) ?_); intro v3 w3 hown3 hgrow3 hnil3) | fail)
        have hb3 : Below w.heap.size w w3 := (HB.out.alloc HB.out.size _).grown hgrow3 (by simp; omega) (fun r hr => (HO.out.lt r hr).1)
        have HO3 := Lib.hid (show w3.ownsRow w.heap.size 58 2 _ (out ++ [(s, z)]).length (kidC (out ++ [(s, z)])) by rw [List.length_append, kidC_app]; exact hown3)
        have HB3 := Lib.hid hb3
        have hs3 := hb3.size
        clear hb3 hown3 hgrow3 hnil3
        go_wp2_with fail
        go_ret
        exact ⟨_, rfl, by rw [HE.out]; exact HO3.out, HB3.out⟩
end Go.Proofs.YtogheigpcppeiaaGreat

namespace Go.Proofs.YtogheigpcppeiaaGreat
set_option maxRecDepth 100000
open Go Go.RowKit

set_option maxHeartbeats 2000000 in
theorem rown_vs (bb o cap : Nat) (m b : Int) (L : List Ino) (vs : List Value) (hL : 0 < L.length) (hb : L.length ≤ 1000) (_hcap : L.length ≤ cap) (_hmax : cap ≤ maxLen) (hl : vs.length = L.length) (hone : ∀ v ∈ vs, v.oneCell' = true) (w : World) (hcell : ∀ j u, (nodeC L vs)[j]? = some u → w.cell? ⟨bb, o + j, none⟩ = some u) :
    Calls Tryz.prog 35 #[.agg #[.slice (some ⟨bb, o, none⟩) L.length cap, .int .i64 m, .int .i64 b]] w fun e w' => ∃ g cap', e = .returned (.agg #[.slice (some ⟨g, 0, none⟩) L.length cap', .int .i64 m, .int .i64 b]) ∧ NodesOwn w' g cap' L vs ∧ w.heap.size ≤ g ∧ Below w.heap.size w w' := by
  obtain ⟨i0, hi, hz0, hz1, hz2⟩ := info_parts infoIn
  obtain ⟨w2, hw2, hb2, hs2, hA, hB⟩ := two_boxes w #[.slice (some ⟨bb, o, none⟩) L.length cap, .int .i64 m, .int .i64 b] #[.slice none 0 0, .int .i64 0, .int .i64 0] 24 24
  have AS : Aside (∀ j u, (nodeC L vs)[j]? = some u → w2.cell? ⟨bb, o + j, none⟩ = some u) := fun j u hj => cell_below hb2 (hcell j u hj)
  have HL := Lib.hid hl
  have HB2 := Lib.hid hb2
  have HA := Lib.hid hA
  have HR := Lib.hid hB
  have a0 := blk_cell hA 0
  have hal := lt_of_block hA
  clear hcell hl hb2 hA hB
  go_enter Tryz.func35, Tryz.ntmps35
  go_wp2_with (at_builtin; refine wpList_append_own _ rfl _ _ 22 rfl (w.heap.size + 2) 49 i0 _ 6 72 Tryz.underlying22 hi hz0 hz1 hz2 rfl (by decide) (.slice none 0 0) 0 [] rfl (World.ownsRow_nil _ _ _ _) ⟨bb, o, none⟩ L.length cap (nodeC L vs) rfl (nodeC_len L vs HL.out) (fun j u hj => by rw [Addr.add_lit, ← hw2]; exact AS.out j u hj) (nodeC_one hone) (by unfold maxLen; omega) (by omega) (by rw [← hw2]; omega) ?_)
  intro v' w3 hown hgrow hnil
  rw [← hw2] at hgrow
  have hb3 : Below w2.heap.size w2 w3 := (Below.refl _ _).grown hgrow (Nat.le_refl _) (fun k hk => by cases hk)
  rcases hown.2 with ⟨rfl, h0⟩ | ⟨g, cap', cur, rfl, hgb, -⟩
  · omega
  have hown2 : w3.ownsRow (w.heap.size + 2) 49 6 (.slice (some ⟨g, 0, none⟩) L.length cap') L.length (nodeC L vs) := by simpa using hown
  have hN3 := (nodes_of_row HL.out hown2).1
  have hA3 := (hb3.block w.heap.size (by omega)).trans HA.out
  have hR3 := (hb3.block (w.heap.size + 1) (by omega)).trans HR.out
  have q0 := blk_cell hA3 0
  have q1 := blk_cell hA3 1
  have q2 := blk_cell hA3 2
  have f0 := blk_free hA3 0
  have r0 := blk_cell hR3 0
  have r1 := blk_cell hR3 1
  have r2 := blk_cell hR3 2
  have s0 := blk_free hR3 0
  have s1 := blk_free hR3 1
  have s2 := blk_free hR3 2
  have hrl := lt_of_block hR3
  have hq := lt_of_block hA3
  obtain ⟨w4, hw4⟩ : ∃ w4, w4 = w3.setCell ⟨w.heap.size, 0, none⟩ (.slice (some ⟨g, 0, none⟩) L.length cap') := ⟨_, rfl⟩
  have hA4 : w4.heap[w.heap.size]? = some (.cells #[.slice (some ⟨g, 0, none⟩) L.length cap', .int .i64 m, .int .i64 b] 24 (0, 0)) := by rw [hw4]; exact blk_set hA3 0 _
  have hst : ∀ k, k ≠ w.heap.size → w4.heap[k]? = w3.heap[k]? := fun k hk => by rw [hw4]; exact Below.heap_setCell _ _ _ _ hk
  have hR4 := (hst (w.heap.size + 1) (by omega)).trans hR3
  have hN4 : NodesOwn w4 g cap' L vs := hN3.same (hst g (by omega))
  have hb4 : Below w.heap.size w w4 := by rw [hw4]; exact (HB2.out.trans (hb3.mono (by omega))).setCell (show w.heap.size ≤ w.heap.size from Nat.le_refl _) _
  have HW4 := Lib.hid hw4
  have HN4 := Lib.hid hN4
  have HB4 := Lib.hid hb4
  have HR4 := Lib.hid hR4
  have HA4 := Lib.hid hA4
  clear hw4 hN4 hb4 hR4 hA4 hst hN3 hown hown2 hgrow hnil hb3 hA3 hR3 a0 hal hw2
  go_wp2_with fail
  change bodyPost _ _ _ _ _ (put3 (w3.setCell ⟨w.heap.size, 0, none⟩ (.slice (some ⟨g, 0, none⟩) L.length cap')) (w.heap.size + 1) (.slice (some ⟨g, 0, none⟩) L.length cap') (.int .i64 m) (.int .i64 b))
  rw [← HW4.out]
  obtain ⟨c0, c1, c2⟩ := put3_cells HR4.out (.slice (some ⟨g, 0, none⟩) L.length cap') (.int .i64 m) (.int .i64 b)
  have HNF := Lib.hid (HN4.out.same (W' := put3 w4 (w.heap.size + 1) (.slice (some ⟨g, 0, none⟩) L.length cap') (.int .i64 m) (.int .i64 b)) (put3_other (by omega) _ _ _))
  have HBF := Lib.hid (put3_below HB4.out (show w.heap.size ≤ w.heap.size + 1 by omega) (.slice (some ⟨g, 0, none⟩) L.length cap') (.int .i64 m) (.int .i64 b))
  generalize put3 w4 (w.heap.size + 1) (.slice (some ⟨g, 0, none⟩) L.length cap') (.int .i64 m) (.int .i64 b) = wF at *
  exact bodyPost_ret (v := .agg #[.slice (some ⟨g, 0, none⟩) L.length cap', .int .i64 m, .int .i64 b]) (by simp [results, Tryz.results35, go_sem, c0, c1, c2]) rfl ⟨g, cap', rfl, HNF.out, by omega, HBF.out⟩
/-- What a call of the reference leaves: a tree that can be read. -/
def RefAns (w : World) (m b : Int) (L' : List Ino) (rest : List Value) (e : Ending) (w' : World) : Prop :=
  (∃ a' cap', e = .returned (.tuple (#[.agg #[.slice a' L'.length cap', .int .i64 m, .int .i64 b]] ++ rest.toArray)) ∧ NodesIn w' a' cap' L') ∧ Below w.heap.size w w'

def FreeRel (L : List Ino) (w2 : World) (iv : Value) (wr : World) : Prop :=
  ∃ k : Nat, k ≤ L.length ∧ iv = .int .i64 k ∧ Below w2.heap.size w2 wr ∧ freeW L L.length 0 = freeW L (L.length - k) k

set_option maxHeartbeats 8000000 in
theorem radded_any (a : Option Addr) (cap : Nat) (m b : Int) (d : Nat) (s : List UInt8) (xk xm xl : Int) (xd : List UInt8) (xu : Int) (L : List Ino) (hd : d < L.length) (hL1 : L.length ≤ 256) (hlen : L[d].kids.length ≤ 1024) (hnew : ∀ e ∈ L[d].kids, e.1 ≠ s) (hdk : L[d].kind ≠ 0)
    (L' : List Ino) (kz er : Int) (hz : addedW L (d : Int) s ⟨xk, xm, xl, xd, [], xu⟩ = (L', kz, er)) (w : World) (hN : NodesIn w a cap L) :
    Calls Tryz.prog 26 #[.agg #[.slice a L.length cap, .int .i64 m, .int .i64 b], .int .i64 d, .string ⟨s.toArray⟩, .agg #[.int .i64 xk, .int .i64 xm, .int .i64 xl, .string ⟨xd.toArray⟩, .slice none 0 0, .int .i64 xu]] w (RefAns w m b L' [.int .i64 kz, .int .i64 er]) := by
  obtain ⟨vs, hvsl, hone, hkk, hcell⟩ := nodes_open hN
  obtain ⟨bb, o, rfl, hx0⟩ := hN.2.2 d hd
  have HCELL := Lib.hid (show ∀ j u, (nodeC L vs)[j]? = some u → w.cell? ⟨bb, o + j, none⟩ = some u from fun j u hj => by
    obtain ⟨b', o', e, hc⟩ := hcell j u hj
    cases e
    exact hc)
  have HKK := Lib.hid hkk
  have HCAP := Lib.hid (show L.length ≤ cap ∧ cap ≤ maxLen from ⟨hN.1, hN.2.1⟩)
  clear hcell hkk hx0
  obtain ⟨w2, hw2, hb2, hs2, hA, hQ, hB⟩ := three_boxes w #[.slice (some ⟨bb, o, none⟩) L.length cap, .int .i64 m, .int .i64 b] #[.int .i64 xk, .int .i64 xm, .int .i64 xl, .string ⟨xd.toArray⟩, .slice none 0 0, .int .i64 xu] #[.slice none 0 0, .int .i64 0, .int .i64 0] 24 49 24
  have HX := Lib.hid (show ∀ W, Below w2.heap.size w2 W → W.cell? ⟨w.heap.size, 0, none⟩ = some (.slice (some ⟨bb, o, none⟩) L.length cap) ∧ W.cell? ⟨w.heap.size, 1, none⟩ = some (.int .i64 m) ∧ W.cell? ⟨w.heap.size, 2, none⟩ = some (.int .i64 b) from fun W hW => by
    have h := (hW.block w.heap.size (by omega)).trans hA
    exact ⟨blk_cell h 0, blk_cell h 1, blk_cell h 2⟩)
  have HQ := Lib.hid (show ∀ W, Below w2.heap.size w2 W → W.heap[w.heap.size + 1]? = some (.cells #[.int .i64 xk, .int .i64 xm, .int .i64 xl, .string ⟨xd.toArray⟩, .slice none 0 0, .int .i64 xu] 49 (0, 0)) from fun W hW => (hW.block _ (by omega)).trans hQ)
  have HR := Lib.hid (show ∀ W, Below w2.heap.size w2 W → W.heap[w.heap.size + 2]? = some (.cells #[.slice none 0 0, .int .i64 0, .int .i64 0] 24 (0, 0)) from fun W hW => (hW.block _ (by omega)).trans hB)
  have HM := Lib.hid (show ∀ W, Below w2.heap.size w2 W → NodesIn W (some ⟨bb, o, none⟩) cap L from fun W hW => hN.below (hb2.trans (hW.mono (by omega))))
  have HB2 := Lib.hid hb2
  have HN := Lib.hid hN
  have HZ := Lib.hid hz
  have HNEW := Lib.hid hnew
  clear hz hN hb2 hA hQ hB hnew
  go_enter Tryz.func26, Tryz.ntmps26
  go_wp2_with fail
  rw [← hw2]
  clear hw2
  go_loopw [11] (fun iv wr => FreeRel L w2 iv wr) (fun iv _ => L.length - (intOf iv).toNat)
  case atStart => exact ⟨0, by omega, rfl, Below.refl _ _, rfl⟩
  case round =>
    obtain ⟨k, hk, rfl, hbr, hfr⟩ := hrel
    have HFR := Lib.hid hfr
    have HBR := Lib.hid hbr
    obtain ⟨q0, q1, q2⟩ := HX.out _ hbr
    have hq := cell_lt q0
    have hNd := HM.out _ hbr
    have hszr := hbr.size
    obtain ⟨b1, o1, e0, hx⟩ := hNd.2.2 d hd
    obtain ⟨rfl, rfl⟩ : bb = b1 ∧ o = o1 := by simpa using e0
    obtain ⟨kv, x4, hks⟩ := hx.kids
    obtain ⟨ka, kc, rfl, hkc, hkm, hkk⟩ := hks
    have hd0 : (0 : Int) ≤ (d : Int) := by omega
    have hd1 : (d : Int) < (L.length : Int) := by omega
    have hRx := HR.out _ hbr
    have HRX := Lib.hid hRx
    have r0 := blk_cell hRx 0
    have r1 := blk_cell hRx 1
    have r2 := blk_cell hRx 2
    have s0 := blk_free hRx 0
    have s1 := blk_free hRx 1
    have s2 := blk_free hRx 2
    have hrl := lt_of_block hRx
    unfold maxLen at hkm
    clear hbr hfr hRx hx hkk e0
    by_cases hlt : k < L.length
    · by_cases hroom : L[d].kids.length < 1024
      · have hroomi : (L[d].kids.length : Int) < 1024 := by omega
        obtain ⟨bb', o', e1, hy⟩ := hNd.2.2 k hlt
        obtain ⟨rfl, rfl⟩ : bb = bb' ∧ o = o' := by simpa using e1
        have y0 := hy.kind
        have hk0 : (0 : Int) ≤ (k : Int) := by omega
        have hk1 : (k : Int) < (L.length : Int) := by omega
        have hbl := cell_lt y0
        clear hy hNd e1
        by_cases hkz : L[k].kind = 0
        · rw [hkz] at y0
          have hfree : freeW L L.length 0 = some k := by
            rw [HFR.out, show L.length - k = (L.length - k - 1) + 1 by omega]
            unfold freeW
            rw [node_nat L k hlt, if_pos hkz]
          have hz2 := HZ.out
          unfold addedW at hz2
          rw [node_nat L d hd, if_neg (by omega), hfree] at hz2
          simp only [Prod.mk.injEq, Int.toNat_natCast] at hz2
          obtain ⟨hL2, rfl, rfl⟩ := hz2
          have HL2 := Lib.hid hL2
          clear hL2 hfree
          go_wp2_with fail
          refine (rown_vs _ _ cap m b L vs (by omega) (by omega) HCAP.out.1 HCAP.out.2 hvsl hone _ (fun j u hj => cell_below (HB2.out.trans (HBR.out.mono (by omega))) (HCELL.out j u hj))).mono ?_
          rintro e w3 ⟨g, cap', rfl, hN3, hg3, hb3⟩
          have hs3 := hb3.size
          have hkv : k < vs.length := by rw [hN3.len]; exact hlt
          have hdv : d < vs.length := by rw [hN3.len]; exact hd
          have HN3 := Lib.hid hN3
          have HB3 := Lib.hid hb3
          have HBR3 := Lib.hid (HBR.out.trans (hb3.mono hszr))
          have hQx := HQ.out _ HBR3.out
          have HQX := Lib.hid hQx
          have v0 := blk_cell hQx 0
          have v1 := blk_cell hQx 1
          have v2 := blk_cell hQx 2
          have v3 := blk_cell hQx 3
          have v4 := blk_cell hQx 4
          have v5 := blk_cell hQx 5
          have vf2 := blk_free hQx 2
          have hvl := lt_of_block hQx
          have hn := hN3.node k hlt hkv
          have n0 := hn.kind
          have n1 := hn.mode
          have n2 := hn.links
          have n3 := hn.data
          have n4 := hn.kids
          have n5 := hn.up
          have f0 := hN3.free (k * 6)
          have f1 := hN3.free (k * 6 + 1)
          have f2 := hN3.free (k * 6 + 2)
          have f3 := hN3.free (k * 6 + 3)
          have f4 := hN3.free (k * 6 + 4)
          have f5 := hN3.free (k * 6 + 5)
          have hgl := hN3.lt
          clear hN3 hb3 hQx hn q0 q1 q2 hq r0 r1 r2 s0 s1 s2 hrl x4 y0 hbl
          go_wp2_with fail
          obtain ⟨wq, hwq⟩ : ∃ p, p = (((((((w3.setCell ⟨w.heap.size + 1, 2, none⟩ (.int .i64 1)).setCell ⟨g, k * 6, none⟩ (.int .i64 xk)).setCell ⟨g, k * 6 + 1, none⟩ (.int .i64 xm)).setCell ⟨g, k * 6 + 2, none⟩ (.int .i64 1)).setCell ⟨g, k * 6 + 3, none⟩ (.string ⟨xd.toArray⟩)).setCell ⟨g, k * 6 + 4, none⟩ (.slice none 0 0)).setCell ⟨g, k * 6 + 5, none⟩ (.int .i64 xu)) := ⟨_, rfl⟩
          rw [← hwq]
          obtain ⟨w4, hw4⟩ : ∃ p, p = wq.alloc (.cells #[.slice (some ⟨g, 0, none⟩) L.length cap', .int .i64 m, .int .i64 b] 24) := ⟨_, rfl⟩
          rw [← hw4]
          have hqx : wq = (w3.setCell ⟨w.heap.size + 1, 2, none⟩ (.int .i64 1)).setCells g (k * 6) (inoC ⟨xk, xm, 1, xd, [], xu⟩ (.slice none 0 0)) := hwq
          have hqs : wq.heap.size = w3.heap.size := by rw [hqx, size_sets]; simp [World.setCell]
          have hgw : w.heap.size + 3 ≤ g := by omega
          have hqb : Below w.heap.size w wq := by
            rw [hwq]
            have h1 : Below w.heap.size w w3 := HB2.out.trans (HBR3.out.mono (by omega))
            exact ((((((h1.setCell (by show w.heap.size ≤ w.heap.size + 1; omega) _).setCell (by show w.heap.size ≤ g; omega) _).setCell (by show w.heap.size ≤ g; omega) _).setCell (by show w.heap.size ≤ g; omega) _).setCell (by show w.heap.size ≤ g; omega) _).setCell (by show w.heap.size ≤ g; omega) _).setCell (by show w.heap.size ≤ g; omega) _
          have hqo : ∀ j, j ≠ g → j ≠ w.heap.size + 1 → wq.heap[j]? = w3.heap[j]? := fun j h1 h2 => by
            rw [hwq, Below.heap_setCell _ _ _ _ h1, Below.heap_setCell _ _ _ _ h1, Below.heap_setCell _ _ _ _ h1, Below.heap_setCell _ _ _ _ h1, Below.heap_setCell _ _ _ _ h1, Below.heap_setCell _ _ _ _ h1, Below.heap_setCell _ _ _ _ h2]
          have hNq : NodesOwn wq g cap' (L.set k ⟨xk, xm, 1, xd, [], xu⟩) (vs.set k (.slice none 0 0)) := by
            rw [hqx]
            exact (HN3.out.same (Below.heap_setCell _ _ _ _ (by show g ≠ w.heap.size + 1; omega))).setNode hlt hkv _ _
          have hb4 : Below wq.heap.size wq w4 := by rw [hw4]; exact below_box wq _
          have hs4 : w4.heap.size = w3.heap.size + 1 := by rw [hw4, World.size_alloc, hqs]
          have HN4 := Lib.hid (hNq.below hb4)
          have HB4 := Lib.hid (hqb.trans (hb4.mono (by omega)))
          have HR4 := Lib.hid (show w4.heap[w.heap.size + 2]? = some (.cells #[.slice none 0 0, .int .i64 0, .int .i64 0] 24 (0, 0)) from (hb4.block _ (by omega)).trans ((hqo _ (by omega) (by omega)).trans (HR.out _ HBR3.out)))
          have HU4 := Lib.hid (show w4.heap[w3.heap.size]? = some (.cells #[.slice (some ⟨g, 0, none⟩) L.length cap', .int .i64 m, .int .i64 b] 24 (0, 0)) by
            have h := new_block wq (.cells #[.slice (some ⟨g, 0, none⟩) L.length cap', .int .i64 m, .int .i64 b] 24)
            rw [hqs, ← hw4] at h
            exact h)
          have hdne : k ≠ d := fun e => by
            subst e
            exact hdk hkz
          obtain ⟨ja, jc, hvd⟩ : ∃ ja jc, vs[d] = .slice ja L[d].kids.length jc := by
            obtain ⟨x1, x2, x3, -⟩ := HKK.out d hd hdv
            exact ⟨x1, x2, x3⟩
          have HVD := Lib.hid hvd
          have HKD := Lib.hid (show ∀ W, Below w.heap.size w W → KidsIn W (.slice ja L[d].kids.length jc) L[d].kids from fun W hW => by
            have h := (HKK.out d hd hdv).below hW
            rw [hvd] at h
            exact h)
          have hd1' : d < (L.set k ⟨xk, xm, 1, xd, [], xu⟩ : List Ino).length := by rw [List.length_set]; exact hd
          have hv1' : d < (vs.set k (.slice none 0 0)).length := by rw [List.length_set]; exact hdv
          have HD4 := Lib.hid (show ∀ W, Below w4.heap.size w4 W → W.cell? ⟨g, d * 6 + 4, none⟩ = some (.slice ja L[d].kids.length jc) ∧ W.frozen? ⟨g, d * 6 + 4, none⟩ = false from fun W hW => by
            have h1 := HN4.out.below hW
            have h2 := (h1.node d hd1' hv1').kids
            rw [List.getElem_set_ne hdne, hvd] at h2
            exact ⟨h2, h1.free _⟩)
          have HUU := Lib.hid (show ∀ W, Below w4.heap.size w4 W → W.cell? ⟨w3.heap.size, 0, none⟩ = some (.slice (some ⟨g, 0, none⟩) L.length cap') ∧ W.cell? ⟨w3.heap.size, 1, none⟩ = some (.int .i64 m) ∧ W.cell? ⟨w3.heap.size, 2, none⟩ = some (.int .i64 b) from fun W hW => by
            have h := (hW.block w3.heap.size (by omega)).trans HU4.out
            exact ⟨blk_cell h 0, blk_cell h 1, blk_cell h 2⟩)
          have HNAM := Lib.hid (show ∀ W, Below w4.heap.size w4 W → Calls Tryz.prog 36 #[.slice ja L[d].kids.length jc, .string ⟨s.toArray⟩, .int .i64 k] W fun e w' => ∃ v', e = .returned v' ∧ KidsOwn w' W.heap.size v' (namedL L[d].kids s k) ∧ Below W.heap.size W w' from fun W hW => rnamed_any _ L[d].kids (by omega) s k HNEW.out W (HKD.out W (HB4.out.trans (hW.mono HB4.out.size))))
          have HQF := Lib.hid (show ∀ w5, Below w4.heap.size w4 w5 → ∀ v, KidsOwn w5 w4.heap.size v (namedL L[d].kids s k) → (w5.setCell ⟨g, d * 6 + 4, none⟩ v).heap[w3.heap.size]? = some (.cells #[.slice (some ⟨g, 0, none⟩) L.length cap', .int .i64 m, .int .i64 b] 24 (0, 0)) ∧ (w5.setCell ⟨g, d * 6 + 4, none⟩ v).heap[w.heap.size + 2]? = some (.cells #[.slice none 0 0, .int .i64 0, .int .i64 0] 24 (0, 0)) ∧
              ∀ x y z, NodesIn (put3 (w5.setCell ⟨g, d * 6 + 4, none⟩ v) (w.heap.size + 2) x y z) (some ⟨g, 0, none⟩) cap' L' ∧ Below w.heap.size w (put3 (w5.setCell ⟨g, d * 6 + 4, none⟩ v) (w.heap.size + 2) x y z) from fun w5 h5 v hv => by
            have hBB : Below w.heap.size w (w5.setCell ⟨g, d * 6 + 4, none⟩ v) := (HB4.out.trans (h5.mono HB4.out.size)).setCell (by show w.heap.size ≤ g; omega) _
            refine ⟨(Below.heap_setCell _ _ _ _ (by show w3.heap.size ≠ g; omega)).trans ((h5.block _ (by omega)).trans HU4.out), (Below.heap_setCell _ _ _ _ (by show w.heap.size + 2 ≠ g; omega)).trans ((h5.block _ (by omega)).trans HR4.out), fun x y z => ⟨?_, put3_below hBB (by omega) x y z⟩⟩
            have hN6 := ((HN4.out.below h5).setKids hd1' hv1' v (namedL L[d].kids s k)).same (W' := put3 (w5.setCell ⟨g, d * 6 + 4, none⟩ v) (w.heap.size + 2) x y z) (put3_other (by omega) x y z)
            have hLL : (L.set k ⟨xk, xm, 1, xd, [], xu⟩ : List Ino).set d { (L.set k ⟨xk, xm, 1, xd, [], xu⟩ : List Ino)[d] with kids := namedL L[d].kids s k } = L' := by
              rw [← HL2.out, List.getElem_set_ne hdne]
              unfold addL
              rw [node_nat L d hd]
              rfl
            rw [hLL] at hN6
            refine hN6.nodesIn fun i hi hv6 => ?_
            have hgi : L'[i] = if d = i then withKids L[d] (namedL L[d].kids s k) else if k = i then ⟨xk, xm, 1, xd, [], xu⟩ else L[i]'(by rw [← HL2.out, add_len] at hi; exact hi) := by
              have hi2 : i < L.length := by rw [← HL2.out, add_len] at hi; exact hi
              have h := add_get (k := k) hd s ⟨xk, xm, 1, xd, [], xu⟩ i hi2
              rw [← h]
              congr 1
              exact HL2.out.symm
            rw [hgi, List.getElem_set]
            by_cases e1 : d = i
            · rw [if_pos e1, if_pos e1]
              exact (hv.same fun j hj => by
                have hj2 := (hv.lt j hj).1
                exact (put3_other (by omega) x y z).trans (Below.heap_setCell _ _ _ _ (by show j ≠ g; omega))).kidsIn
            · rw [if_neg e1, if_neg e1, List.getElem_set]
              by_cases e2 : k = i
              · rw [if_pos e2, if_pos e2]
                exact ⟨none, 0, rfl, Nat.le_refl _, Nat.zero_le _, fun _ hi => absurd hi (Nat.not_lt_zero _)⟩
              · rw [if_neg e2, if_neg e2]
                exact (HKK.out i _ _).below (put3_below hBB (by omega) x y z))
          obtain ⟨u0, u1, u2⟩ := HUU.out _ (Below.refl _ _)
          obtain ⟨z4, zf⟩ := HD4.out _ (Below.refl _ _)
          have hul := cell_lt u0
          have hzl := cell_lt z4
          have hLl : L'.length = L.length := by rw [← HL2.out, add_len]
          clear hwq hw4 hqx hqs hqb hqo hNq hb4 hvd n0 n1 n2 n3 n4 n5 f0 f1 f2 f3 f4 f5 v0 v1 v2 v3 v4 v5 vf2 hvl
          go_region_with (first | (go_at_call 36; refine (HNAM.out _ ?_).mono ?_; (exact ⟨rfl, rfl, rfl, Nat.le_refl _, fun _ _ => rfl⟩); rintro e w5 ⟨v', rfl, hk5, hb5'⟩; have hb5 : Below w4.heap.size w4 w5 := ⟨hb5'.os, hb5'.tape, hb5'.output, hb5'.size, hb5'.block⟩; obtain ⟨va, vc, rfl⟩ := hk5.form; obtain ⟨z4', zf'⟩ := HD4.out w5 hb5; obtain ⟨u0', u1', u2'⟩ := HUU.out w5 hb5; have hul' := cell_lt u0'; have hzl' := cell_lt z4'; have HK5 := Lib.hid hk5; have HB5 := Lib.hid hb5; clear hk5 hb5 hb5'))
          all_goals
            obtain ⟨hU6, hR6, hfin⟩ := HQF.out w5 HB5.out _ HK5.out
            have HFIN := Lib.hid hfin
            have HR6 := Lib.hid hR6
            have t0 := blk_cell hU6 0
            have t1 := blk_cell hU6 1
            have t2 := blk_cell hU6 2
            have r0 := blk_cell hR6 0
            have r1 := blk_cell hR6 1
            have r2 := blk_cell hR6 2
            have s0 := blk_free hR6 0
            have s1 := blk_free hR6 1
            have s2 := blk_free hR6 2
            have htl := lt_of_block hU6
            have hrl := lt_of_block hR6
            clear hU6 hR6 hfin u0 u1 u2 z4 zf hul hzl
            try clear u0' u1' u2' z4' zf' hul' hzl'
            generalize w5.setCell ⟨g, d * 6 + 4, none⟩ (.slice va (namedL L[d].kids s k).length vc) = w6 at *
            go_wp2_with fail
            change bodyPost _ _ _ _ _ (put3 w6 (w.heap.size + 2) (.slice (some ⟨g, 0, none⟩) L.length cap') (.int .i64 m) (.int .i64 b))
            obtain ⟨c0, c1, c2⟩ := put3_cells HR6.out (.slice (some ⟨g, 0, none⟩) L.length cap') (.int .i64 m) (.int .i64 b)
            obtain ⟨hf1, hf2⟩ := HFIN.out (.slice (some ⟨g, 0, none⟩) L.length cap') (.int .i64 m) (.int .i64 b)
            refine bodyPost_ret (v := .tuple #[.agg #[.slice (some ⟨g, 0, none⟩) L'.length cap', .int .i64 m, .int .i64 b], .int .i64 k, .int .i64 0]) (by simp [results, Tryz.results26, go_sem, c0, c1, c2, hLl]) rfl ⟨⟨_, _, rfl, hf1⟩, hf2⟩

        · have hkb : (L[k].kind == 0) = false := by simpa using hkz
          have hnext := Lib.hid (show freeW L L.length 0 = freeW L (L.length - (k + 1)) (k + 1) by
            rw [HFR.out, show L.length - k = (L.length - (k + 1)) + 1 by omega]
            conv => lhs; unfold freeW
            rw [node_nat L k hlt, if_neg hkz])
          clear r0 r1 r2 s0 s1 s2
          go_wp2_with fail
          go_roundw
          case rel => exact ⟨k + 1, by omega, by go_num, ⟨HBR.out.os, HBR.out.tape, HBR.out.output, HBR.out.size, HBR.out.block⟩, hnext.out⟩
          case measure => simp [intOf] <;> omega
      · have hroomi : ¬ (L[d].kids.length : Int) < 1024 := by omega
        have hk0 : (0 : Int) ≤ (k : Int) := by omega
        have hk1 : (k : Int) < (L.length : Int) := by omega
        have hbl := cell_lt x4
        have hz2 := HZ.out
        unfold addedW at hz2
        rw [node_nat L d hd, if_pos (by omega)] at hz2
        simp only [Prod.mk.injEq] at hz2
        obtain ⟨rfl, rfl, rfl⟩ := hz2
        clear hNd
        go_wp2_with fail
        change bodyPost _ _ _ _ _ (put3 wr (w.heap.size + 2) (.slice (some ⟨bb, o, none⟩) L.length cap) (.int .i64 m) (.int .i64 b))
        obtain ⟨c0, c1, c2⟩ := put3_cells HRX.out (.slice (some ⟨bb, o, none⟩) L.length cap) (.int .i64 m) (.int .i64 b)
        have hBF := put3_below (HB2.out.trans (HBR.out.mono (by omega))) (show w.heap.size ≤ w.heap.size + 2 by omega) (.slice (some ⟨bb, o, none⟩) L.length cap) (.int .i64 m) (.int .i64 b)
        refine bodyPost_ret (v := .tuple #[.agg #[.slice (some ⟨bb, o, none⟩) L.length cap, .int .i64 m, .int .i64 b], .int .i64 0, .int .i64 28]) (by simp [results, Tryz.results26, go_sem, c0, c1, c2]) rfl ⟨⟨_, _, rfl, HN.out.below hBF⟩, hBF⟩
    · obtain rfl : k = L.length := by omega
      have hz2 := HZ.out
      have hno : freeW L L.length 0 = none := by
        rw [HFR.out, Nat.sub_self]
        rfl
      unfold addedW at hz2
      have hz3 : (L, (0 : Int), (28 : Int)) = (L', kz, er) := by
        rw [hno] at hz2
        split at hz2 <;> exact hz2
      simp only [Prod.mk.injEq] at hz3
      obtain ⟨rfl, rfl, rfl⟩ := hz3
      clear hNd hz2 hno
      go_wp2_with fail
      change bodyPost _ _ _ _ _ (put3 wr (w.heap.size + 2) (.slice (some ⟨bb, o, none⟩) L.length cap) (.int .i64 m) (.int .i64 b))
      obtain ⟨c0, c1, c2⟩ := put3_cells HRX.out (.slice (some ⟨bb, o, none⟩) L.length cap) (.int .i64 m) (.int .i64 b)
      have hBF := put3_below (HB2.out.trans (HBR.out.mono (by omega))) (show w.heap.size ≤ w.heap.size + 2 by omega) (.slice (some ⟨bb, o, none⟩) L.length cap) (.int .i64 m) (.int .i64 b)
      refine bodyPost_ret (v := .tuple #[.agg #[.slice (some ⟨bb, o, none⟩) L.length cap, .int .i64 m, .int .i64 b], .int .i64 0, .int .i64 28]) (by simp [results, Tryz.results26, go_sem, c0, c1, c2]) rfl ⟨⟨_, _, rfl, HN.out.below hBF⟩, hBF⟩
end Go.Proofs.YtogheigpcppeiaaGreat

namespace Go.Proofs.YtogheigpcppeiaaGreat
set_option maxRecDepth 100000
open Go Go.RowKit

theorem rparts_view (pb : ByteArray) (hp : pb.size ≤ 1073741824) (N : List (List UInt8)) (hN : partsL pb.data.toList = N) (w : World) :
    Calls Tryz.prog 67 #[.string pb] w fun e w' => ∃ v, e = .returned v ∧ View w' v N ∧ Below w.heap.size w w' := by
  subst hN
  exact (rparts_any pb hp w).mono fun e w' ⟨v, h1, h2, h3⟩ => ⟨v, h1, h2.view, h3⟩

set_option maxRecDepth 100000 in
set_option maxHeartbeats 8000000 in
theorem parent4_any (a : Option Addr) (cap : Nat) (m b cwd : Int) (pb : ByteArray) (hp : pb.size ≤ 1073741824) (L : List Ino) (hF : FitP L m b) (w : World) (hN : NodesIn w a cap L) :
    Calls Tryz.prog 46 #[.agg #[.slice a L.length cap, .int .i64 m, .int .i64 b], .int .i64 cwd, .string pb] w fun e w' => e = .returned (.tuple #[.int .i64 (parentW L cwd pb.data.toList).1, .string ⟨(parentW L cwd pb.data.toList).2.1.toArray⟩, .int .i64 (parentW L cwd pb.data.toList).2.2]) ∧ Below w.heap.size w w' := by
  obtain ⟨w1, hw1⟩ : ∃ w1, w1 = w.alloc (.cells #[.slice a L.length cap, .int .i64 m, .int .i64 b] 24) := ⟨_, rfl⟩
  have hb1 := below_box w (.cells #[.slice a L.length cap, .int .i64 m, .int .i64 b] 24)
  have hM := hN.below hb1
  have hsz : w1.heap.size = w.heap.size + 1 := by rw [hw1]; simp
  have hbox : ∀ W', Below w1.heap.size w1 W' → W'.cell? ⟨w.heap.size, 0, none⟩ = some (.slice a L.length cap) ∧ W'.cell? ⟨w.heap.size, 1, none⟩ = some (.int .i64 m) ∧ W'.cell? ⟨w.heap.size, 2, none⟩ = some (.int .i64 b) := fun W' h => box3 (by rw [← hw1]; exact h)
  rw [← hw1] at hM hb1
  have HM := Lib.hid hM
  have HB := Lib.hid hb1
  have HX := Lib.hid hbox
  have HEND := Lib.hid (show ∀ W', Below w1.heap.size w1 W' → Below w.heap.size w W' from fun W' h => HB.out.trans (h.mono (by rw [hsz]; omega)))
  have HF := Lib.hid hF
  obtain ⟨R, hR⟩ : ∃ R, R = parentW L cwd pb.data.toList := ⟨_, rfl⟩
  rw [← hR]
  have HR := Lib.hid hR
  obtain ⟨z, hz⟩ : ∃ z, badW L cwd pb.data.toList = z := ⟨_, rfl⟩
  have HZ := Lib.hid hz
  clear hM hN hb1 hbox hsz hF hR
  by_cases hbad : z ≠ 0
  · have hzb : (z != 0) = true := by simpa using hbad
    have HW := Lib.hid (show R = (0, [], z) by rw [HR.out]; unfold parentW; rw [hz, if_pos hbad])
    clear hbad hz
    go_enter Tryz.func46, Tryz.ntmps46
    go_wp2_with fail
    rw [← hw1]
    refine (bad4_known _ _ _ _ _ _ hp L z HZ.out _ HM.out).mono ?_
    rintro e w2 ⟨rfl, hb2⟩
    go_wp2_with fail
    go_ret3
    exact ⟨by rw [HW.out]; rfl, HEND.out _ hb2⟩
  · obtain rfl : z = 0 := by simpa using hbad
    obtain ⟨st, hst⟩ : ∃ st, beginW cwd pb.data.toList = st := ⟨_, rfl⟩
    have HST := Lib.hid hst
    obtain ⟨N, hNe⟩ : ∃ N, partsL pb.data.toList = N := ⟨_, rfl⟩
    have HNE := Lib.hid hNe
    have hlong : pb.size ≤ 1024 := by
      unfold badW at hz
      by_cases h2 : pb.data.toList = [] ∨ dirB L cwd = false
      · rw [if_pos h2] at hz; cases hz
      · rw [if_neg h2] at hz
        by_cases hl : longB pb.data.toList = true
        · rw [if_pos hl] at hz; cases hz
        · unfold longB at hl
          rw [Bool.or_eq_true, decide_eq_true_eq, size_list] at hl
          omega
    have hNL : N.length ≤ 1025 := by rw [← hNe]; have := count_parts pb.data.toList; rw [size_list] at this; omega
    have HW := Lib.hid (show R = if N = [] then (0, [], 17) else if (wayW L true 8 N.dropLast st).2 ≠ 0 then (0, [], (wayW L true 8 N.dropLast st).2) else if dirB L (wayW L true 8 N.dropLast st).1 = false then (0, [], 20) else ((wayW L true 8 N.dropLast st).1, N.getLastD [], 0) by
      rw [HR.out]
      unfold parentW
      rw [hz, if_neg (by simp), hst, hNe])
    clear hz hst hNe hbad HR
    rcases List.eq_nil_or_concat N with hn | ⟨M, y, hn⟩
    · subst hn
      have HW2 := Lib.hid (show R = (0, [], 17) by rw [HW.out, if_pos rfl])
      go_enter Tryz.func46, Tryz.ntmps46
      go_wp2_with fail
      rw [← hw1]
      refine (bad4_known _ _ _ _ _ _ hp L 0 HZ.out _ HM.out).mono ?_
      rintro e w2 ⟨rfl, hb2⟩
      have HB2 := Lib.hid hb2
      clear hb2
      go_wp2_with fail
      refine (rparts_view _ hp _ HNE.out _).mono ?_
      rintro e w3 ⟨v, rfl, ⟨na, nc, rfl, -, -, -⟩, hb3⟩
      have HB3 := Lib.hid (HB2.out.trans (hb3.mono HB2.out.size))
      clear hb3
      go_wp2_with fail
      go_ret3
      exact ⟨by rw [HW2.out]; rfl, HEND.out _ HB3.out⟩
    · rw [List.concat_eq_append] at hn
      have hlen : N.length = M.length + 1 := by rw [hn]; simp
      obtain ⟨kz, hkz⟩ : ∃ kz, kz = (wayW L true 8 M st).1 := ⟨_, rfl⟩
      obtain ⟨ez, hez⟩ : ∃ ez, ez = (wayW L true 8 M st).2 := ⟨_, rfl⟩
      have HWAY := Lib.hid (show ∀ W v, Below w1.heap.size w1 W → View W v M → Calls Tryz.prog 65 #[.agg #[.slice a L.length cap, .int .i64 m, .int .i64 b], .int .i64 st, v, .bool true] W fun e w' => e = .returned (.tuple #[.int .i64 kz, .int .i64 ez]) ∧ Below W.heap.size W w' from fun W v hW hv => by
        rw [hkz, hez]
        exact way4_any a cap m b st true M (by omega) v L HF.out W (HM.out.below hW) hv)
      obtain ⟨dz, hdz⟩ : ∃ dz, dirB L kz = dz := ⟨_, rfl⟩
      have HDZ := Lib.hid hdz
      have HW2 := Lib.hid (show R = if ez ≠ 0 then (0, [], ez) else if dz = false then (0, [], 20) else (kz, y, 0) by
        rw [HW.out, if_neg (by rw [hn]; simp), hn, List.dropLast_concat, ← hkz, ← hez, hdz]
        congr 3
        simp)
      have HN := Lib.hid hn
      clear hkz hez hdz hn HW
      go_enter Tryz.func46, Tryz.ntmps46
      go_wp2_with fail
      rw [← hw1]
      refine (bad4_known _ _ _ _ _ _ hp L 0 HZ.out _ HM.out).mono ?_
      rintro e w2 ⟨rfl, hb2⟩
      have HB2 := Lib.hid hb2
      obtain ⟨q0, q1, q2⟩ := HX.out _ HB2.out
      clear hb2
      go_wp2_with fail
      refine (rparts_view _ hp _ HNE.out _).mono ?_
      rintro e w3 ⟨v, rfl, hv, hb3⟩
      have HB3 := Lib.hid (HB2.out.trans (hb3.mono HB2.out.size))
      rw [HN.out] at hv
      obtain ⟨na, nc, rfl, hc1, hc2, hcell⟩ := hv
      obtain ⟨nb, no, rfl, hy⟩ := hcell M.length (by simp)
      have hy0 : (M ++ [y])[M.length]'(by simp) = y := by simp
      rw [hy0] at hy
      have hlen2 : (M ++ [y]).length = M.length + 1 := by simp
      rw [hlen2] at hc1
      have HV := Lib.hid (show View w3 (.slice (some ⟨nb, no, none⟩) M.length nc) M from View.init (x := y) (by
        refine ⟨_, nc, by rw [hlen2], by rw [hlen2]; exact hc1, hc2, hcell⟩))
      unfold maxLen at hc2
      unfold strv at hy
      have HBB := Lib.hid HB3.out
      clear hb3 hcell q0 q1 q2 hy0
      obtain ⟨q0, q1, q2⟩ := HX.out _ HBB.out
      have H1 := Lib.hid (grown_call (wb := w3) (fun W hW => (begin4_known cwd pb st HST.out W).mono fun e w' h => (⟨h.1, by rw [← h.2]; exact Below.refl _ _⟩ : _ ∧ Below W.heap.size W w')))
      have H2 := Lib.hid (grown_call (wb := w3) (fun W hW => HWAY.out W _ (HBB.out.trans (hW.mono HBB.out.size)) (HV.out.below hW)))
      have f0 := grown_cell q0
      have f1 := grown_cell q1
      have f2 := grown_cell q2
      have hi1 : (0 : Int) ≤ (M.length : Int) := by omega
      have hi2 : (M.length : Int) ≤ (nc : Int) := by omega
      have hi3 : ((M.length : Int) + 1) ≤ (nc : Int) := by omega
      go_wp2_with fail
      refine wp_region_grown (by kernel_rfl) (by kernel_rfl) ?_
      repeat (first | go_big_quiet_skip | (go_big_quiet_want; go_big_quiet_op; (first | go_big_quiet_on | (refine ⟨_, H1.out, ?_⟩; go_big_quiet_on) | (refine ⟨_, H2.out, ?_⟩; go_big_quiet_on))))
      refine wpQuiet_nil ?_
      intro w8 hw8
      have hbg : Below w3.heap.size w3 w8 := by obtain ⟨x, rfl⟩ := hw8; exact x.below
      have HB8 := Lib.hid (HBB.out.trans (hbg.mono HBB.out.size))
      obtain ⟨q0, q1, q2⟩ := HX.out _ HB8.out
      have hy8 := cell_below hbg hy
      clear hw8 hbg f0 f1 f2 H1 H2
      cases he : (ez != 0) with
      | true =>
        have HW3 := Lib.hid (show R = (0, [], ez) by rw [HW2.out, if_pos (by simpa using he)])
        go_wp2_with fail
        go_ret3
        exact ⟨by rw [HW3.out]; rfl, HEND.out _ HB8.out⟩
      | false =>
        have hz0 : ez = 0 := by simpa using he
        subst hz0
        cases dz with
        | false =>
          have HW3 := Lib.hid (show R = (0, [], 20) by rw [HW2.out, if_neg (by simp), if_pos rfl])
          go_wp2_with (first | (go_at_call 68; refine (dir4_known _ _ _ _ _ L _ HDZ.out _ (HM.out.below HB8.out)).mono ?_; rintro e w9 ⟨rfl, hb9⟩; have HB9 := Lib.hid (HB8.out.trans (hb9.mono HB8.out.size))) | fail)
          go_ret3
          exact ⟨by rw [HW3.out]; rfl, HEND.out _ HB9.out⟩
        | true =>
          have HW3 := Lib.hid (show R = (kz, y, 0) by rw [HW2.out, if_neg (by simp), if_neg (by simp)])
          go_wp2_with fail
          refine (dir4_known _ _ _ _ _ L _ HDZ.out _ (HM.out.below HB8.out)).mono ?_
          rintro e w9 ⟨rfl, hb9⟩
          have HB9 := Lib.hid (HB8.out.trans (hb9.mono HB8.out.size))
          have f0 := grown_cell (cell_below hb9 hy8)
          clear hb9 q0 q1 q2 hy8
          have hj1 : (M.length : Int) < ((M.length : Int) + 1) := by omega
          go_wp2_with fail
          refine wp_region_grown (by kernel_rfl) (by kernel_rfl) ?_
          repeat (first | go_big_quiet_skip | (go_big_quiet_want; go_big_quiet_op; go_big_quiet_on))
          refine wpQuiet_nil ?_
          intro w10 hw10
          have hbg : Below w9.heap.size w9 w10 := by obtain ⟨x, rfl⟩ := hw10; exact x.below
          have HB10 := Lib.hid (HB9.out.trans (hbg.mono HB9.out.size))
          clear hw10 hbg f0
          go_wp2_with fail
          go_ret3
          exact ⟨by rw [HW3.out]; rfl, HEND.out _ HB10.out⟩
end Go.Proofs.YtogheigpcppeiaaGreat

namespace Go.Proofs.YtogheigpcppeiaaGreat
set_option maxRecDepth 100000
open Go Go.RowKit

theorem end_byte5 (s : ByteArray) (n : Nat) (h : s.size = n + 1) : endL s.data.toList = ((s[n].toNat : Int) == 47) := by
  have e : s.data.toList.getLast? = some (s[n]'(by omega)) := by
    rw [List.getLast?_eq_getElem?, size_list, show s.size - 1 = n by omega, List.getElem?_eq_getElem (by rw [size_list]; omega), at_list s n (by omega)]
  unfold endL
  rw [e]
  rw [Bool.eq_iff_iff, beq_iff_eq, beq_iff_eq, Option.some.injEq]
  constructor
  · intro e
    rw [e]
    rfl
  · intro e
    exact UInt8.toNat_inj.1 (by show s[n].toNat = 47; omega)
theorem in_total : ∀ (M : List (List UInt8)) (x : List UInt8), x ∈ M → x.length + 1 ≤ total M
  | [], _, h => by cases h
  | y :: r, x, h => by
    unfold total
    rcases List.mem_cons.1 h with rfl | h
    · omega
    · have := in_total r x h
      omega
theorem par_name {L : List Ino} {cwd : Int} {p : List UInt8} {d : Int} {nm : List UInt8} (h : parentW L cwd p = (d, nm, 0)) : nm.length ≤ p.length ∧ p ≠ [] := by
  unfold parentW at h
  split at h
  · rename_i h1
    simp only [Prod.mk.injEq] at h
    exact absurd h.2.2 h1
  · split at h
    · simp only [Prod.mk.injEq] at h
      exact absurd h.2.2 (by decide)
    · rename_i h2
      have hp : p ≠ [] := fun e => h2 (by rw [e]; rfl)
      split at h
      · rename_i h3
        simp only [Prod.mk.injEq] at h
        exact absurd h.2.2 h3
      · split at h
        · simp only [Prod.mk.injEq] at h
          exact absurd h.2.2 (by decide)
        · simp only [Prod.mk.injEq] at h
          refine ⟨?_, hp⟩
          rw [← h.2.1, List.getLastD_eq_getLast?, List.getLast?_eq_some_getLast h2]
          have h4 := Nat.le_trans (in_total _ _ (List.getLast_mem h2)) (total_parts p)
          exact Nat.le_of_succ_le_succ h4

set_option maxHeartbeats 8000000 in
theorem rfresh_any (a : Option Addr) (cap : Nat) (m b cwd : Int) (pb : ByteArray) (hp : pb.size ≤ 1073741824) (dirs : Bool) (L : List Ino) (hF : FitP L m b) (z : Int) (s : List UInt8) (er : Int) (hz : freshW L cwd pb.data.toList dirs = (z, s, er)) (w : World) (hN : NodesIn w a cap L) :
    Calls Tryz.prog 25 #[.agg #[.slice a L.length cap, .int .i64 m, .int .i64 b], .int .i64 cwd, .string pb, .bool dirs] w fun e w' => e = .returned (.tuple #[.int .i64 z, .string ⟨s.toArray⟩, .int .i64 er]) ∧ Below w.heap.size w w' := by
  obtain ⟨⟨d, nm, pe⟩, hpar⟩ : ∃ r, parentW L cwd pb.data.toList = r := ⟨_, rfl⟩
  obtain ⟨w1, hw1⟩ : ∃ w1, w1 = w.alloc (.cells #[.slice a L.length cap, .int .i64 m, .int .i64 b] 24) := ⟨_, rfl⟩
  have hb1 : Below w.heap.size w w1 := by rw [hw1]; exact below_box w _
  have HX := Lib.hid (show ∀ W', Below w1.heap.size w1 W' → W'.cell? ⟨w.heap.size, 0, none⟩ = some (.slice a L.length cap) ∧ W'.cell? ⟨w.heap.size, 1, none⟩ = some (.int .i64 m) ∧ W'.cell? ⟨w.heap.size, 2, none⟩ = some (.int .i64 b) from fun W' h => box3 (by rw [← hw1]; exact h))
  have hs1 : w1.heap.size = w.heap.size + 1 := by rw [hw1]; simp
  have HM := Lib.hid (show ∀ W', Below w1.heap.size w1 W' → NodesIn W' a cap L from fun W' h => hN.below (hb1.trans (h.mono (by omega))))
  have HEND := Lib.hid (show ∀ W', Below w1.heap.size w1 W' → Below w.heap.size w W' from fun W' h => hb1.trans (h.mono (by omega)))
  have HP := Lib.hid hpar
  have HF := Lib.hid hF
  have HZ := Lib.hid hz
  clear hpar hF hz hN hb1
  go_enter Tryz.func25, Tryz.ntmps25
  go_wp2_with fail
  rw [← hw1]
  clear hw1
  have hpk := parent4_any a cap m b cwd pb hp L HF.out w1 (HM.out _ (Below.refl _ _))
  rw [HP.out] at hpk
  refine hpk.mono ?_
  rintro e w3 ⟨rfl, hb3⟩
  have HB3 := Lib.hid hb3
  have hs3 := hb3.size
  clear hb3 hpk
  by_cases h1 : pe = 0
  · subst h1
    obtain ⟨hnmp, hpne⟩ := par_name HP.out
    rw [size_list] at hnmp
    obtain ⟨n, hn⟩ : ∃ n, pb.size = n + 1 := ⟨pb.size - 1, by
      have h : pb.data.toList.length ≠ 0 := fun e => hpne (List.length_eq_zero_iff.1 e)
      rw [size_list] at h
      omega⟩
    have hnl : (⟨nm.toArray⟩ : ByteArray).size ≤ 9223372036854775807 := by rw [str_len]; omega
    have HEB := Lib.hid (end_byte5 pb n hn)
    obtain ⟨sf, hsf⟩ : ∃ v, endL pb.data.toList = v := ⟨_, rfl⟩
    obtain ⟨kz, hkz⟩ : ∃ v, kidL L d nm = v := ⟨_, rfl⟩
    obtain ⟨mv, hmv⟩ : ∃ v, mayL L d 3 = v := ⟨_, rfl⟩
    obtain ⟨nv, hnv⟩ : ∃ v, nameOkL nm = v := ⟨_, rfl⟩
    have HSF := Lib.hid hsf
    have HK := Lib.hid hkz
    have HMV := Lib.hid hmv
    have HNM := Lib.hid (show nameOkL (⟨nm.toArray⟩ : ByteArray).data.toList = nv from hnv)
    have hz2 := HZ.out
    unfold freshW at hz2
    rw [HP.out] at hz2
    simp only [hkz, hmv, hnv, hsf] at hz2
    clear hsf hkz hmv hnv hpne hnmp
    obtain ⟨q0, q1, q2⟩ := HX.out _ HB3.out
    have hq := cell_lt q0
    by_cases e1 : nm = [46]
    · subst e1
      simp at hz2
      obtain ⟨rfl, rfl, rfl⟩ := hz2
      go_wp2_with fail
      go_ret3
      exact ⟨rfl, HEND.out _ HB3.out⟩
    have e1b : (nm == [46]) = false := by simpa using e1
    by_cases e2 : nm = [46, 46]
    · subst e2
      simp at hz2
      obtain ⟨rfl, rfl, rfl⟩ := hz2
      clear e1 e1b
      go_wp2_with fail
      go_ret3
      exact ⟨rfl, HEND.out _ HB3.out⟩
    have e2b : (nm == [46, 46]) = false := by simpa using e2
    simp only [e1, e2, false_or, ne_eq, not_true_eq_false, if_false] at hz2
    have HZ2 := Lib.hid hz2
    clear e1 e2 hz2 HZ
    go_wp2_with fail
    refine (rkid_known _ _ _ _ _ _ L _ HK.out _ (HM.out _ HB3.out)).mono ?_
    rintro e w4 ⟨rfl, hb4⟩
    have HB4 := Lib.hid (HB3.out.trans (hb4.mono HB3.out.size))
    clear hb4 q0 q1 q2 hq
    obtain ⟨q0, q1, q2⟩ := HX.out _ HB4.out
    have hq := cell_lt q0
    have hz2 := HZ2.out
    by_cases e3 : 0 ≤ kz
    · simp only [e3, if_true, Prod.mk.injEq] at hz2
      obtain ⟨rfl, rfl, rfl⟩ := hz2
      go_wp2_with fail
      go_ret3
      exact ⟨rfl, HEND.out _ HB4.out⟩
    simp only [e3, if_false] at hz2
    cases nv with
    | false =>
      simp only [if_true, Prod.mk.injEq] at hz2
      obtain ⟨rfl, rfl, rfl⟩ := hz2
      go_wp2_with (first | (go_at_call 48; refine (rname_known _ hnl _ (HNM.out) _).mono ?_; rintro e w' ⟨rfl, rfl⟩) | fail)
      go_ret3
      exact ⟨rfl, HEND.out _ HB4.out⟩
    | true =>
      simp only [Bool.true_eq_false, if_false] at hz2
      go_wp2_with (first | (go_at_call 48; refine (rname_known _ hnl _ (HNM.out) _).mono ?_; rintro e w' ⟨rfl, rfl⟩) | fail)
      refine (may4_known _ _ _ _ _ _ L (by decide) (by decide) HF.out.ins _ (HM.out _ HB4.out)).mono ?_
      rintro e w5 ⟨rfl, hb5⟩
      rw [HMV.out]
      have HB5 := Lib.hid (HB4.out.trans (hb5.mono HB4.out.size))
      clear hb5 q0 q1 q2 hq
      cases mv with
      | false =>
        simp only [if_true, Prod.mk.injEq] at hz2
        obtain ⟨rfl, rfl, rfl⟩ := hz2
        go_wp2_with fail
        go_ret3
        exact ⟨rfl, HEND.out _ HB5.out⟩
      | true =>
        simp only [Bool.true_eq_false, if_false] at hz2
        cases dirs with
        | true =>
          simp only [Bool.true_eq_false, false_and, if_false, Prod.mk.injEq] at hz2
          obtain ⟨rfl, rfl, rfl⟩ := hz2
          go_wp2_with fail
          go_ret3
          exact ⟨rfl, HEND.out _ HB5.out⟩
        | false =>
          have hw : IntKind.i64.wrap ((pb.size : Int) - 1) = (n : Int) := by rw [IntWalk.i64_in _ ⟨by omega, by omega⟩]; omega
          have hn0 : (0 : Int) ≤ (n : Int) := by omega
          have hn1 : (n : Int) < (pb.size : Int) := by omega
          have hn2 : n < pb.size := by omega
          cases hl : ((pb[n].toNat : Int) == 47) with
          | true =>
            have hsf : sf = true := by rw [← HSF.out, HEB.out, hl]
            subst hsf
            simp only [and_self, if_true, Prod.mk.injEq] at hz2
            obtain ⟨rfl, rfl, rfl⟩ := hz2
            go_wp2_with fail
            go_ret3
            exact ⟨rfl, HEND.out _ HB5.out⟩
          | false =>
            have hsf : sf = false := by rw [← HSF.out, HEB.out, hl]
            subst hsf
            simp only [Bool.false_eq_true, and_false, if_false, Prod.mk.injEq] at hz2
            obtain ⟨rfl, rfl, rfl⟩ := hz2
            go_wp2_with fail
            go_ret3
            exact ⟨rfl, HEND.out _ HB5.out⟩
  · have hz2 := HZ.out
    unfold freshW at hz2
    rw [HP.out] at hz2
    simp only [h1, ne_eq, not_false_eq_true, if_true, Prod.mk.injEq] at hz2
    obtain ⟨rfl, rfl, rfl⟩ := hz2
    have hb1 : (pe != 0) = true := by simpa using h1
    go_wp2_with fail
    go_ret3
    exact ⟨rfl, HEND.out _ HB3.out⟩
end Go.Proofs.YtogheigpcppeiaaGreat

namespace Go.Proofs.YtogheigpcppeiaaGreat
set_option maxRecDepth 100000
open Go Go.RowKit

/-- A result's box that is still empty is no part of a tree. -/
theorem nodes_put3 {W : World} {c : Nat} {t : TypeId} {a : Option Addr} {cap : Nat} {L : List Ino} (h : NodesIn W a cap L) (hc : W.heap[c]? = some (.cells #[.slice none 0 0, .int .i64 0, .int .i64 0] t (0, 0))) (x y z : Value) : NodesIn (put3 W c x y z) a cap L := by
  have hcell : ∀ j u, W.cell? ⟨c, j, none⟩ = some u → (∀ s, u ≠ .string s) ∧ j < 3 := fun j u hu => by
    rw [blk_cell hc j] at hu
    match j, hu with
    | 0, hu => have h := Option.some.inj hu; subst h; exact ⟨(fun s e => by cases e), by omega⟩
    | 1, hu => have h := Option.some.inj hu; subst h; exact ⟨(fun s e => by cases e), by omega⟩
    | 2, hu => have h := Option.some.inj hu; subst h; exact ⟨(fun s e => by cases e), by omega⟩
    | j + 3, hu => simp at hu
  have hsame : ∀ b j, b ≠ c → (put3 W c x y z).cell? ⟨b, j, none⟩ = W.cell? ⟨b, j, none⟩ := fun b j hb => World.cell?_of_block (a := ⟨b, j, none⟩) (put3_other hb x y z)
  refine ⟨h.1, h.2.1, fun i hi => ?_⟩
  obtain ⟨b, o, e, hn⟩ := h.2.2 i hi
  have hb : b ≠ c := fun e => by
    subst e
    have := (hcell _ _ hn.up).2
    omega
  obtain ⟨v, hv, ka, kc, rfl, h1, h2, h3⟩ := hn.kids
  exact ⟨b, o, e, ⟨(hsame b _ hb).trans hn.kind, (hsame b _ hb).trans hn.mode, (hsame b _ hb).trans hn.links, (hsame b _ hb).trans hn.data, ⟨_, (hsame b _ hb).trans hv, ka, kc, rfl, h1, h2, fun j hj => by
    obtain ⟨b', o', e', c0, c1⟩ := h3 j hj
    have hb' : b' ≠ c := fun e => by
      subst e
      exact (hcell _ _ c0).1 _ rfl
    exact ⟨b', o', e', (hsame b' _ hb').trans c0, (hsame b' _ hb').trans c1⟩⟩, (hsame b _ hb).trans hn.up⟩⟩

theorem rmode5 (q : Int) (v : Bool) (h : modeB q = v) (w : World) : Calls Tryz.prog 24 #[.int .i64 q] w fun e w' => e = .returned (.bool v) ∧ w = w' := by
  subst h
  unfold modeB
  by_cases h0 : 0 ≤ q
  · have hb0 : decide ((0 : Int) ≤ q) = true := decide_eq_true h0
    rw [hb0]
    go_enter Tryz.func24, Tryz.ntmps24
    go_wp2_with fail
    go_ret
    exact ⟨by rfl, rfl⟩
  · have hb0 : decide ((0 : Int) ≤ q) = false := decide_eq_false h0
    rw [hb0]
    go_enter Tryz.func24, Tryz.ntmps24
    go_wp2_with fail
    go_ret
    exact ⟨by rfl, rfl⟩

set_option maxHeartbeats 8000000 in
theorem rmkdir_any (a : Option Addr) (cap : Nat) (m b cwd q : Int) (pb : ByteArray) (hp : pb.size ≤ 1073741824) (L : List Ino) (hF : FitP L m b) (L' : List Ino) (kz er : Int) (hz : mkdirW L cwd pb.data.toList q = (L', kz, er)) (w : World) (hN : NodesIn w a cap L) :
    Calls Tryz.prog 7 #[.agg #[.slice a L.length cap, .int .i64 m, .int .i64 b], .int .i64 cwd, .string pb, .int .i64 q] w (RefAns w m b L' [.int .i64 kz, .int .i64 er]) := by
  obtain ⟨w2, hw2, hb2, hs2, hA, hB⟩ := two_boxes w #[.slice a L.length cap, .int .i64 m, .int .i64 b] #[.slice none 0 0, .int .i64 0, .int .i64 0] 24 24
  obtain ⟨l1, l2, l3, l4, l5⟩ := hF.limits
  have HX := Lib.hid (show ∀ W, Below w2.heap.size w2 W → W.cell? ⟨w.heap.size, 0, none⟩ = some (.slice a L.length cap) ∧ W.cell? ⟨w.heap.size, 1, none⟩ = some (.int .i64 m) ∧ W.cell? ⟨w.heap.size, 2, none⟩ = some (.int .i64 b) from fun W hW => by
    have h := (hW.block w.heap.size (by omega)).trans hA
    exact ⟨blk_cell h 0, blk_cell h 1, blk_cell h 2⟩)
  have HR := Lib.hid (show ∀ W, Below w2.heap.size w2 W → W.heap[w.heap.size + 1]? = some (.cells #[.slice none 0 0, .int .i64 0, .int .i64 0] 24 (0, 0)) from fun W hW => (hW.block _ (by omega)).trans hB)
  have HM := Lib.hid (show ∀ W, Below w2.heap.size w2 W → NodesIn W a cap L from fun W hW => hN.below (hb2.trans (hW.mono (by omega))))
  have HB2 := Lib.hid hb2
  have HZ := Lib.hid hz
  have HF := Lib.hid hF
  have HBW2 := Lib.hid (Below.refl w2.heap.size w2)
  clear hz hN hb2 hA hB hF
  have HBW := HBW2
  cases hqv : modeB q with
  | false =>
    have HQ := Lib.hid hqv
    have hz2 := HZ.out
    unfold mkdirW at hz2
    rw [if_pos hqv] at hz2
    simp only [Prod.mk.injEq] at hz2
    obtain ⟨rfl, rfl, rfl⟩ := hz2
    clear hqv
    go_enter Tryz.func7, Tryz.ntmps7
    obtain ⟨q0, q1, q2⟩ := HX.out _ HBW.out
    have hq := cell_lt q0
    have hRx := HR.out _ HBW.out
    have HRX := Lib.hid hRx
    have r0 := blk_cell hRx 0
    have r1 := blk_cell hRx 1
    have r2 := blk_cell hRx 2
    have s0 := blk_free hRx 0
    have s1 := blk_free hRx 1
    have s2 := blk_free hRx 2
    have hrl := lt_of_block hRx
    clear hRx
    go_wp2_with fail
    rw [← hw2]
    clear hw2
    refine (rmode5 _ _ HQ.out _).mono ?_
    rintro e w' ⟨rfl, rfl⟩
    go_wp2_with fail
    change bodyPost _ _ _ _ _ (put3 w2 (w.heap.size + 1) (.slice a L.length cap) (.int .i64 m) (.int .i64 b))
    obtain ⟨c0, c1, c2⟩ := put3_cells HRX.out (.slice a L.length cap) (.int .i64 m) (.int .i64 b)
    have hBF := put3_below (HB2.out.trans (HBW.out.mono (by omega))) (show w.heap.size ≤ w.heap.size + 1 by omega) (.slice a L.length cap) (.int .i64 m) (.int .i64 b)
    exact bodyPost_ret (v := .tuple #[.agg #[.slice a L.length cap, .int .i64 m, .int .i64 b], .int .i64 0, .int .i64 22]) (by simp [results, Tryz.results7, go_sem, c0, c1, c2]) rfl ⟨⟨_, _, rfl, nodes_put3 (HM.out _ HBW.out) HRX.out _ _ _⟩, hBF⟩
  | true =>
    have HQ := Lib.hid hqv
    have hz2 := HZ.out
    unfold mkdirW at hz2
    rw [if_neg (by rw [hqv]; decide)] at hz2
    obtain ⟨⟨z, s, fe⟩, hf⟩ : ∃ r, freshW L cwd pb.data.toList true = r := ⟨_, rfl⟩
    rw [hf] at hz2
    have HFR := Lib.hid hf
    have HZ2 := Lib.hid hz2
    clear hqv hf hz2
    obtain ⟨q0, q1, q2⟩ := HX.out _ HBW.out
    have hq := cell_lt q0
    go_enter Tryz.func7, Tryz.ntmps7
    go_wp2_with fail
    rw [← hw2]
    clear hw2
    refine (rmode5 _ _ HQ.out _).mono ?_
    rintro e w' ⟨rfl, rfl⟩
    go_wp2_with fail
    clear q0 q1 q2 hq
    refine (rfresh_any _ _ _ _ _ _ hp true L HF.out _ _ _ HFR.out _ (HM.out _ HBW.out)).mono ?_
    rintro e w3 ⟨rfl, hb3⟩
    have HB3 := Lib.hid hb3
    have hs3 := hb3.size
    clear hb3
    obtain ⟨q0, q1, q2⟩ := HX.out _ HB3.out
    have hq := cell_lt q0
    have hRx := HR.out _ HB3.out
    have HRX := Lib.hid hRx
    have r0 := blk_cell hRx 0
    have r1 := blk_cell hRx 1
    have r2 := blk_cell hRx 2
    have s0 := blk_free hRx 0
    have s1 := blk_free hRx 1
    have s2 := blk_free hRx 2
    have hrl := lt_of_block hRx
    clear hRx
    by_cases h1 : fe = 0
    · subst h1
      have hz2 := HZ2.out
      rw [if_neg (by simp)] at hz2
      obtain ⟨d, s2', hd, -, hf2, hdir, -, hn, -⟩ := fresh_ok HF.out (by rw [HFR.out])
      rw [HFR.out] at hf2
      simp only [Prod.mk.injEq, and_true] at hf2
      obtain ⟨rfl, rfl⟩ := hf2
      have HZ3 := Lib.hid hz2
      have HN := Lib.hid hn
      have hkl : L[d].kids.length ≤ 1024 := (HF.out.ins d hd).2.1
      have hdk : L[d].kind ≠ 0 := by rw [hdir]; decide
      clear hz2 hn
      go_wp2_with fail
      refine (radded_any _ _ _ _ d s 2 q 0 [] d L hd (by omega) hkl HN.out hdk L' kz er HZ3.out _ (HM.out _ HB3.out)).mono ?_
      rintro e w5 ⟨⟨a', cap', he, hN5⟩, hb5⟩
      have he' : e = .returned (.tuple #[.agg #[.slice a' L'.length cap', .int .i64 m, .int .i64 b], .int .i64 kz, .int .i64 er]) := he
      subst he'
      have HB5 := Lib.hid (HB3.out.trans (hb5.mono HB3.out.size))
      have HN5 := Lib.hid hN5
      have hs5 := hb5.size
      clear he hN5 hb5
      clear q0 q1 q2 hq HRX r0 r1 r2 s0 s1 s2 hrl
      obtain ⟨q0, q1, q2⟩ := HX.out _ HB5.out
      have hq := cell_lt q0
      have hRx := HR.out _ HB5.out
      have HRX := Lib.hid hRx
      have r0 := blk_cell hRx 0
      have r1 := blk_cell hRx 1
      have r2 := blk_cell hRx 2
      have s0 := blk_free hRx 0
      have s1 := blk_free hRx 1
      have s2 := blk_free hRx 2
      have hrl := lt_of_block hRx
      clear hRx
      go_wp2_with fail
      change bodyPost _ _ _ _ _ (put3 w5 (w.heap.size + 1) (.slice a' L'.length cap') (.int .i64 m) (.int .i64 b))
      obtain ⟨c0, c1, c2⟩ := put3_cells HRX.out (.slice a' L'.length cap') (.int .i64 m) (.int .i64 b)
      have hBF := put3_below (HB2.out.trans (HB5.out.mono (by omega))) (show w.heap.size ≤ w.heap.size + 1 by omega) (.slice a' L'.length cap') (.int .i64 m) (.int .i64 b)
      exact bodyPost_ret (v := .tuple #[.agg #[.slice a' L'.length cap', .int .i64 m, .int .i64 b], .int .i64 kz, .int .i64 er]) (by simp [results, Tryz.results7, go_sem, c0, c1, c2]) rfl ⟨⟨_, _, rfl, nodes_put3 HN5.out HRX.out _ _ _⟩, hBF⟩
    · have hb1 : (fe != 0) = true := by simpa using h1
      have hz2 := HZ2.out
      rw [if_pos (by simpa using h1)] at hz2
      simp only [Prod.mk.injEq] at hz2
      obtain ⟨rfl, rfl, rfl⟩ := hz2
      go_wp2_with fail
      change bodyPost _ _ _ _ _ (put3 w3 (w.heap.size + 1) (.slice a L.length cap) (.int .i64 m) (.int .i64 b))
      obtain ⟨c0, c1, c2⟩ := put3_cells HRX.out (.slice a L.length cap) (.int .i64 m) (.int .i64 b)
      have hBF := put3_below (HB2.out.trans (HB3.out.mono (by omega))) (show w.heap.size ≤ w.heap.size + 1 by omega) (.slice a L.length cap) (.int .i64 m) (.int .i64 b)
      exact bodyPost_ret (v := .tuple #[.agg #[.slice a L.length cap, .int .i64 m, .int .i64 b], .int .i64 0, .int .i64 fe]) (by simp [results, Tryz.results7, go_sem, c0, c1, c2]) rfl ⟨⟨_, _, rfl, nodes_put3 (HM.out _ HB3.out) HRX.out _ _ _⟩, hBF⟩

set_option maxHeartbeats 8000000 in
theorem rcreate_any (a : Option Addr) (cap : Nat) (m b cwd q : Int) (pb : ByteArray) (hp : pb.size ≤ 1073741824) (L : List Ino) (hF : FitP L m b) (L' : List Ino) (kz er : Int) (hz : createW L cwd pb.data.toList q = (L', kz, er)) (w : World) (hN : NodesIn w a cap L) :
    Calls Tryz.prog 9 #[.agg #[.slice a L.length cap, .int .i64 m, .int .i64 b], .int .i64 cwd, .string pb, .int .i64 q] w (RefAns w m b L' [.int .i64 kz, .int .i64 er]) := by
  obtain ⟨w2, hw2, hb2, hs2, hA, hB⟩ := two_boxes w #[.slice a L.length cap, .int .i64 m, .int .i64 b] #[.slice none 0 0, .int .i64 0, .int .i64 0] 24 24
  obtain ⟨l1, l2, l3, l4, l5⟩ := hF.limits
  have HX := Lib.hid (show ∀ W, Below w2.heap.size w2 W → W.cell? ⟨w.heap.size, 0, none⟩ = some (.slice a L.length cap) ∧ W.cell? ⟨w.heap.size, 1, none⟩ = some (.int .i64 m) ∧ W.cell? ⟨w.heap.size, 2, none⟩ = some (.int .i64 b) from fun W hW => by
    have h := (hW.block w.heap.size (by omega)).trans hA
    exact ⟨blk_cell h 0, blk_cell h 1, blk_cell h 2⟩)
  have HR := Lib.hid (show ∀ W, Below w2.heap.size w2 W → W.heap[w.heap.size + 1]? = some (.cells #[.slice none 0 0, .int .i64 0, .int .i64 0] 24 (0, 0)) from fun W hW => (hW.block _ (by omega)).trans hB)
  have HM := Lib.hid (show ∀ W, Below w2.heap.size w2 W → NodesIn W a cap L from fun W hW => hN.below (hb2.trans (hW.mono (by omega))))
  have HB2 := Lib.hid hb2
  have HZ := Lib.hid hz
  have HF := Lib.hid hF
  have HBW2 := Lib.hid (Below.refl w2.heap.size w2)
  clear hz hN hb2 hA hB hF
  have HBW := HBW2
  cases hqv : modeB q with
  | false =>
    have HQ := Lib.hid hqv
    have hz2 := HZ.out
    unfold createW at hz2
    rw [if_pos hqv] at hz2
    simp only [Prod.mk.injEq] at hz2
    obtain ⟨rfl, rfl, rfl⟩ := hz2
    clear hqv
    go_enter Tryz.func9, Tryz.ntmps9
    obtain ⟨q0, q1, q2⟩ := HX.out _ HBW.out
    have hq := cell_lt q0
    have hRx := HR.out _ HBW.out
    have HRX := Lib.hid hRx
    have r0 := blk_cell hRx 0
    have r1 := blk_cell hRx 1
    have r2 := blk_cell hRx 2
    have s0 := blk_free hRx 0
    have s1 := blk_free hRx 1
    have s2 := blk_free hRx 2
    have hrl := lt_of_block hRx
    clear hRx
    go_wp2_with fail
    rw [← hw2]
    clear hw2
    refine (rmode5 _ _ HQ.out _).mono ?_
    rintro e w' ⟨rfl, rfl⟩
    go_wp2_with fail
    change bodyPost _ _ _ _ _ (put3 w2 (w.heap.size + 1) (.slice a L.length cap) (.int .i64 m) (.int .i64 b))
    obtain ⟨c0, c1, c2⟩ := put3_cells HRX.out (.slice a L.length cap) (.int .i64 m) (.int .i64 b)
    have hBF := put3_below (HB2.out.trans (HBW.out.mono (by omega))) (show w.heap.size ≤ w.heap.size + 1 by omega) (.slice a L.length cap) (.int .i64 m) (.int .i64 b)
    exact bodyPost_ret (v := .tuple #[.agg #[.slice a L.length cap, .int .i64 m, .int .i64 b], .int .i64 0, .int .i64 22]) (by simp [results, Tryz.results9, go_sem, c0, c1, c2]) rfl ⟨⟨_, _, rfl, nodes_put3 (HM.out _ HBW.out) HRX.out _ _ _⟩, hBF⟩
  | true =>
    have HQ := Lib.hid hqv
    have hz2 := HZ.out
    unfold createW at hz2
    rw [if_neg (by rw [hqv]; decide)] at hz2
    obtain ⟨⟨z, s, fe⟩, hf⟩ : ∃ r, freshW L cwd pb.data.toList false = r := ⟨_, rfl⟩
    rw [hf] at hz2
    have HFR := Lib.hid hf
    have HZ2 := Lib.hid hz2
    clear hqv hf hz2
    obtain ⟨q0, q1, q2⟩ := HX.out _ HBW.out
    have hq := cell_lt q0
    go_enter Tryz.func9, Tryz.ntmps9
    go_wp2_with fail
    rw [← hw2]
    clear hw2
    refine (rmode5 _ _ HQ.out _).mono ?_
    rintro e w' ⟨rfl, rfl⟩
    go_wp2_with fail
    clear q0 q1 q2 hq
    refine (rfresh_any _ _ _ _ _ _ hp false L HF.out _ _ _ HFR.out _ (HM.out _ HBW.out)).mono ?_
    rintro e w3 ⟨rfl, hb3⟩
    have HB3 := Lib.hid hb3
    have hs3 := hb3.size
    clear hb3
    obtain ⟨q0, q1, q2⟩ := HX.out _ HB3.out
    have hq := cell_lt q0
    have hRx := HR.out _ HB3.out
    have HRX := Lib.hid hRx
    have r0 := blk_cell hRx 0
    have r1 := blk_cell hRx 1
    have r2 := blk_cell hRx 2
    have s0 := blk_free hRx 0
    have s1 := blk_free hRx 1
    have s2 := blk_free hRx 2
    have hrl := lt_of_block hRx
    clear hRx
    by_cases h1 : fe = 0
    · subst h1
      have hz2 := HZ2.out
      rw [if_neg (by simp)] at hz2
      obtain ⟨d, s2', hd, -, hf2, hdir, -, hn, -⟩ := fresh_ok HF.out (by rw [HFR.out])
      rw [HFR.out] at hf2
      simp only [Prod.mk.injEq, and_true] at hf2
      obtain ⟨rfl, rfl⟩ := hf2
      have HZ3 := Lib.hid hz2
      have HN := Lib.hid hn
      have hkl : L[d].kids.length ≤ 1024 := (HF.out.ins d hd).2.1
      have hdk : L[d].kind ≠ 0 := by rw [hdir]; decide
      clear hz2 hn
      go_wp2_with fail
      refine (radded_any _ _ _ _ d s 1 q 0 [] 0 L hd (by omega) hkl HN.out hdk L' kz er HZ3.out _ (HM.out _ HB3.out)).mono ?_
      rintro e w5 ⟨⟨a', cap', he, hN5⟩, hb5⟩
      have he' : e = .returned (.tuple #[.agg #[.slice a' L'.length cap', .int .i64 m, .int .i64 b], .int .i64 kz, .int .i64 er]) := he
      subst he'
      have HB5 := Lib.hid (HB3.out.trans (hb5.mono HB3.out.size))
      have HN5 := Lib.hid hN5
      have hs5 := hb5.size
      clear he hN5 hb5
      clear q0 q1 q2 hq HRX r0 r1 r2 s0 s1 s2 hrl
      obtain ⟨q0, q1, q2⟩ := HX.out _ HB5.out
      have hq := cell_lt q0
      have hRx := HR.out _ HB5.out
      have HRX := Lib.hid hRx
      have r0 := blk_cell hRx 0
      have r1 := blk_cell hRx 1
      have r2 := blk_cell hRx 2
      have s0 := blk_free hRx 0
      have s1 := blk_free hRx 1
      have s2 := blk_free hRx 2
      have hrl := lt_of_block hRx
      clear hRx
      go_wp2_with fail
      change bodyPost _ _ _ _ _ (put3 w5 (w.heap.size + 1) (.slice a' L'.length cap') (.int .i64 m) (.int .i64 b))
      obtain ⟨c0, c1, c2⟩ := put3_cells HRX.out (.slice a' L'.length cap') (.int .i64 m) (.int .i64 b)
      have hBF := put3_below (HB2.out.trans (HB5.out.mono (by omega))) (show w.heap.size ≤ w.heap.size + 1 by omega) (.slice a' L'.length cap') (.int .i64 m) (.int .i64 b)
      exact bodyPost_ret (v := .tuple #[.agg #[.slice a' L'.length cap', .int .i64 m, .int .i64 b], .int .i64 kz, .int .i64 er]) (by simp [results, Tryz.results9, go_sem, c0, c1, c2]) rfl ⟨⟨_, _, rfl, nodes_put3 HN5.out HRX.out _ _ _⟩, hBF⟩
    · have hb1 : (fe != 0) = true := by simpa using h1
      have hz2 := HZ2.out
      rw [if_pos (by simpa using h1)] at hz2
      simp only [Prod.mk.injEq] at hz2
      obtain ⟨rfl, rfl, rfl⟩ := hz2
      go_wp2_with fail
      change bodyPost _ _ _ _ _ (put3 w3 (w.heap.size + 1) (.slice a L.length cap) (.int .i64 m) (.int .i64 b))
      obtain ⟨c0, c1, c2⟩ := put3_cells HRX.out (.slice a L.length cap) (.int .i64 m) (.int .i64 b)
      have hBF := put3_below (HB2.out.trans (HB3.out.mono (by omega))) (show w.heap.size ≤ w.heap.size + 1 by omega) (.slice a L.length cap) (.int .i64 m) (.int .i64 b)
      exact bodyPost_ret (v := .tuple #[.agg #[.slice a L.length cap, .int .i64 m, .int .i64 b], .int .i64 0, .int .i64 fe]) (by simp [results, Tryz.results9, go_sem, c0, c1, c2]) rfl ⟨⟨_, _, rfl, nodes_put3 (HM.out _ HB3.out) HRX.out _ _ _⟩, hBF⟩

end Go.Proofs.YtogheigpcppeiaaGreat

namespace Go.Proofs.YtogheigpcppeiaaGreat
set_option maxRecDepth 100000
open Go Go.RowKit

def ZeroRel (tb : ByteArray) (w2 : World) (iv : Value) (wr : World) : Prop :=
  ∃ k : Nat, k ≤ tb.size ∧ iv = .int .i64 k ∧ Below w2.heap.size w2 wr ∧ ∀ j (h : j < tb.size), j < k → tb[j] ≠ 0

theorem any_yes (tb : ByteArray) (k : Nat) (h : k < tb.size) (h0 : tb[k] = 0) : tb.data.toList.any (fun c => c == 0) = true := by
  rw [List.any_eq_true]
  exact ⟨_, List.getElem_mem (by rw [size_list]; exact h), by rw [at_list tb k h, h0]; rfl⟩
theorem any_no (tb : ByteArray) (h : ∀ j (h : j < tb.size), tb[j] ≠ 0) : tb.data.toList.any (fun c => c == 0) = false := by
  rw [List.any_eq_false]
  intro x hx
  obtain ⟨j, hj, rfl⟩ := List.getElem_of_mem hx
  rw [size_list] at hj
  have := h j hj
  rw [at_list tb j hj]
  simpa using this

set_option maxHeartbeats 8000000 in
theorem rsymlink_any (a : Option Addr) (cap : Nat) (m b cwd : Int) (tb pb : ByteArray) (ht : tb.size ≤ 1073741824) (hp : pb.size ≤ 1073741824) (L : List Ino) (hF : FitP L m b) (L' : List Ino) (kz er : Int) (hz : symlinkW L b cwd tb.data.toList pb.data.toList = (L', kz, er)) (w : World) (hN : NodesIn w a cap L) :
    Calls Tryz.prog 12 #[.agg #[.slice a L.length cap, .int .i64 m, .int .i64 b], .int .i64 cwd, .string tb, .string pb] w (RefAns w m b L' [.int .i64 kz, .int .i64 er]) := by
  obtain ⟨w2, hw2, hb2, hs2, hA, hB⟩ := two_boxes w #[.slice a L.length cap, .int .i64 m, .int .i64 b] #[.slice none 0 0, .int .i64 0, .int .i64 0] 24 24
  obtain ⟨l1, l2, l3, l4, l5⟩ := hF.limits
  have HX := Lib.hid (show ∀ W, Below w2.heap.size w2 W → W.cell? ⟨w.heap.size, 0, none⟩ = some (.slice a L.length cap) ∧ W.cell? ⟨w.heap.size, 1, none⟩ = some (.int .i64 m) ∧ W.cell? ⟨w.heap.size, 2, none⟩ = some (.int .i64 b) from fun W hW => by
    have h := (hW.block w.heap.size (by omega)).trans hA
    exact ⟨blk_cell h 0, blk_cell h 1, blk_cell h 2⟩)
  have HR := Lib.hid (show ∀ W, Below w2.heap.size w2 W → W.heap[w.heap.size + 1]? = some (.cells #[.slice none 0 0, .int .i64 0, .int .i64 0] 24 (0, 0)) from fun W hW => (hW.block _ (by omega)).trans hB)
  have HM := Lib.hid (show ∀ W, Below w2.heap.size w2 W → NodesIn W a cap L from fun W hW => hN.below (hb2.trans (hW.mono (by omega))))
  have HN0 := Lib.hid hN
  have HB2 := Lib.hid hb2
  have HZ := Lib.hid hz
  have HF := Lib.hid hF
  have HBW2 := Lib.hid (Below.refl w2.heap.size w2)
  clear hz hN hb2 hA hB hF
  cases he : tb.toList.isEmpty with
  | true =>
    have hz2 := HZ.out
    unfold symlinkW at hz2
    rw [if_pos (Or.inl (by rw [ByteArray.toList_eq] at he; simpa using he))] at hz2
    simp only [Prod.mk.injEq] at hz2
    obtain ⟨rfl, rfl, rfl⟩ := hz2
    clear hw2
    go_enter Tryz.func12, Tryz.ntmps12
    go_wp2_with fail
    obtain ⟨w6, hw6, hb6, hs6, hA6, hB6⟩ := two_boxes w #[.slice a L.length cap, .int .i64 m, .int .i64 b] #[.slice a L.length cap, .int .i64 m, .int .i64 b] 24 24
    rw [← hw6]
    have c0 := blk_cell hB6 0
    have c1 := blk_cell hB6 1
    have c2 := blk_cell hB6 2
    exact bodyPost_ret (v := .tuple #[.agg #[.slice a L.length cap, .int .i64 m, .int .i64 b], .int .i64 0, .int .i64 22]) (by simp [results, Tryz.results12, go_sem, c0, c1, c2]) rfl ⟨⟨_, _, rfl, HN0.out.below hb6⟩, hb6⟩
  | false =>
    have hne : tb.data.toList ≠ [] := fun e => by rw [ByteArray.toList_eq, e] at he; simp at he
    have HNE := Lib.hid hne
    clear hne
    go_enter Tryz.func12, Tryz.ntmps12
    go_wp2_with fail
    rw [← hw2]
    clear hw2
    go_loopw [11] (fun iv wr => ZeroRel tb w2 iv wr) (fun iv _ => tb.size - (intOf iv).toNat)
    case atStart => exact ⟨0, by omega, rfl, Below.refl _ _, fun j h h2 => by omega⟩
    case round =>
      obtain ⟨k, hk, rfl, hbr, hnz⟩ := hrel
      have HBR := Lib.hid hbr
      have HNZ := Lib.hid hnz
      have hszr := hbr.size
      clear hbr hnz
      obtain ⟨q0, q1, q2⟩ := HX.out _ HBR.out
      have hq := cell_lt q0
      have hRx := HR.out _ HBR.out
      have HRX := Lib.hid hRx
      have r0 := blk_cell hRx 0
      have r1 := blk_cell hRx 1
      have r2 := blk_cell hRx 2
      have s0 := blk_free hRx 0
      have s1 := blk_free hRx 1
      have s2 := blk_free hRx 2
      have hrl := lt_of_block hRx
      clear hRx
      by_cases hlt : k < tb.size
      · have hk0 : (0 : Int) ≤ (k : Int) := by omega
        have hk1 : (k : Int) < (tb.size : Int) := by omega
        cases hc : ((tb[k].toNat : Int) == 0) with
        | true =>
          have h0 : tb[k] = 0 := UInt8.toNat_inj.1 (by have := beq_iff_eq.1 hc; show tb[k].toNat = 0; omega)
          have hz2 := HZ.out
          unfold symlinkW at hz2
          rw [if_pos (Or.inr (any_yes tb k hlt h0))] at hz2
          simp only [Prod.mk.injEq] at hz2
          obtain ⟨rfl, rfl, rfl⟩ := hz2
          go_wp2_with fail
          change bodyPost _ _ _ _ _ (put3 wr (w.heap.size + 1) (.slice a L.length cap) (.int .i64 m) (.int .i64 b))
          obtain ⟨c0, c1, c2⟩ := put3_cells HRX.out (.slice a L.length cap) (.int .i64 m) (.int .i64 b)
          have hBF := put3_below (HB2.out.trans (HBR.out.mono (by omega))) (show w.heap.size ≤ w.heap.size + 1 by omega) (.slice a L.length cap) (.int .i64 m) (.int .i64 b)
          exact bodyPost_ret (v := .tuple #[.agg #[.slice a L.length cap, .int .i64 m, .int .i64 b], .int .i64 0, .int .i64 22]) (by simp [results, Tryz.results12, go_sem, c0, c1, c2]) rfl ⟨⟨_, _, rfl, nodes_put3 (HM.out _ HBR.out) HRX.out _ _ _⟩, hBF⟩
        | false =>
          have hnx := Lib.hid (show ∀ j (h : j < tb.size), j < k + 1 → tb[j] ≠ 0 from fun j h h2 e => by
            by_cases hjk : j = k
            · subst hjk
              rw [e] at hc
              simp at hc
            · exact HNZ.out j h (by omega) e)
          clear q0 q1 q2 hq HRX r0 r1 r2 s0 s1 s2 hrl
          go_wp2_with fail
          go_roundw
          case rel => exact ⟨k + 1, by omega, by go_num, HBR.out, hnx.out⟩
          case measure => simp [intOf] <;> omega
      · obtain rfl : k = tb.size := by omega
        have hz2 := HZ.out
        unfold symlinkW at hz2
        rw [if_neg (by
          rintro (h | h)
          · exact HNE.out h
          · rw [any_no tb (fun j hj => HNZ.out j hj hj)] at h
            cases h), size_list] at hz2
        have HZ2 := Lib.hid hz2
        clear hz2
        by_cases hlong : 1024 < tb.size
        · have hlz : (1024 : Int) < (tb.size : Int) := by omega
          have hz2 := HZ2.out
          rw [if_pos hlong] at hz2
          simp only [Prod.mk.injEq] at hz2
          obtain ⟨rfl, rfl, rfl⟩ := hz2
          go_wp2_with fail
          change bodyPost _ _ _ _ _ (put3 wr (w.heap.size + 1) (.slice a L.length cap) (.int .i64 m) (.int .i64 b))
          obtain ⟨c0, c1, c2⟩ := put3_cells HRX.out (.slice a L.length cap) (.int .i64 m) (.int .i64 b)
          have hBF := put3_below (HB2.out.trans (HBR.out.mono (by omega))) (show w.heap.size ≤ w.heap.size + 1 by omega) (.slice a L.length cap) (.int .i64 m) (.int .i64 b)
          exact bodyPost_ret (v := .tuple #[.agg #[.slice a L.length cap, .int .i64 m, .int .i64 b], .int .i64 0, .int .i64 36]) (by simp [results, Tryz.results12, go_sem, c0, c1, c2]) rfl ⟨⟨_, _, rfl, nodes_put3 (HM.out _ HBR.out) HRX.out _ _ _⟩, hBF⟩
        have hlz : ¬ (1024 : Int) < (tb.size : Int) := by omega
        obtain ⟨⟨z, s, fe⟩, hf⟩ : ∃ r, freshW L cwd pb.data.toList false = r := ⟨_, rfl⟩
        have hz2 := HZ2.out
        rw [if_neg hlong, hf] at hz2
        have HFR := Lib.hid hf
        have HZ3 := Lib.hid hz2
        clear hf hz2
        go_wp2_with fail
        clear q0 q1 q2 hq HRX r0 r1 r2 s0 s1 s2 hrl
        refine (rfresh_any _ _ _ _ _ _ hp false L HF.out _ _ _ HFR.out _ (HM.out _ HBR.out)).mono ?_
        rintro e w3 ⟨rfl, hb3⟩
        have HB3 := Lib.hid (HBR.out.trans (hb3.mono hszr))
        have hs3 := hb3.size
        clear hb3
        obtain ⟨q0, q1, q2⟩ := HX.out _ HB3.out
        have hq := cell_lt q0
        have hRx := HR.out _ HB3.out
        have HRX := Lib.hid hRx
        have r0 := blk_cell hRx 0
        have r1 := blk_cell hRx 1
        have r2 := blk_cell hRx 2
        have s0 := blk_free hRx 0
        have s1 := blk_free hRx 1
        have s2 := blk_free hRx 2
        have hrl := lt_of_block hRx
        clear hRx
        by_cases h1 : fe = 0
        · subst h1
          have hz2 := HZ3.out
          rw [if_neg (by simp)] at hz2
          obtain ⟨d, s2', hd, -, hf2, hdir, -, hn, -⟩ := fresh_ok HF.out (by rw [HFR.out])
          rw [HFR.out] at hf2
          simp only [Prod.mk.injEq, and_true] at hf2
          obtain ⟨rfl, rfl⟩ := hf2
          have HZ4 := Lib.hid hz2
          have HN := Lib.hid hn
          have hkl : L[d].kids.length ≤ 1024 := (HF.out.ins d hd).2.1
          have hdk : L[d].kind ≠ 0 := by rw [hdir]; decide
          clear hz2 hn
          go_wp2_with fail
          clear q0 q1 q2 hq HRX r0 r1 r2 s0 s1 s2 hrl
          refine (rused_any _ _ _ _ L (by omega) (by omega) _ (HM.out _ HB3.out)).mono ?_
          rintro e w4 ⟨rfl, hb4⟩
          have HB4 := Lib.hid (HB3.out.trans (hb4.mono HB3.out.size))
          have hs4 := hb4.size
          clear hb4
          obtain ⟨ub, hub⟩ : ∃ x, x = usedB L := ⟨_, rfl⟩
          have hwr : IntKind.i64.wrap ((ub : Int) + (tb.size : Int)) = (ub : Int) + (tb.size : Int) := by rw [IntWalk.i64_in _ ⟨by omega, by omega⟩]
          have hz2 := HZ4.out
          rw [← hub] at hz2 ⊢
          obtain ⟨q0, q1, q2⟩ := HX.out _ HB4.out
          have hq := cell_lt q0
          have hRx := HR.out _ HB4.out
          have HRX := Lib.hid hRx
          have r0 := blk_cell hRx 0
          have r1 := blk_cell hRx 1
          have r2 := blk_cell hRx 2
          have s0 := blk_free hRx 0
          have s1 := blk_free hRx 1
          have s2 := blk_free hRx 2
          have hrl := lt_of_block hRx
          clear hRx
          by_cases hfull : b < (ub : Int) + (tb.size : Int)
          · rw [if_pos hfull] at hz2
            simp only [Prod.mk.injEq] at hz2
            obtain ⟨rfl, rfl, rfl⟩ := hz2
            go_wp2_with fail
            change bodyPost _ _ _ _ _ (put3 w4 (w.heap.size + 1) (.slice a L.length cap) (.int .i64 m) (.int .i64 b))
            obtain ⟨c0, c1, c2⟩ := put3_cells HRX.out (.slice a L.length cap) (.int .i64 m) (.int .i64 b)
            have hBF := put3_below (HB2.out.trans (HB4.out.mono (by omega))) (show w.heap.size ≤ w.heap.size + 1 by omega) (.slice a L.length cap) (.int .i64 m) (.int .i64 b)
            exact bodyPost_ret (v := .tuple #[.agg #[.slice a L.length cap, .int .i64 m, .int .i64 b], .int .i64 0, .int .i64 28]) (by simp [results, Tryz.results12, go_sem, c0, c1, c2]) rfl ⟨⟨_, _, rfl, nodes_put3 (HM.out _ HB4.out) HRX.out _ _ _⟩, hBF⟩
          rw [if_neg hfull] at hz2
          have HZ5 := Lib.hid hz2
          clear hz2
          go_wp2_with fail
          obtain ⟨to, rfl⟩ : ∃ to : List UInt8, tb = ⟨to.toArray⟩ := ⟨tb.data.toList, rfl⟩
          have hz5 : addedW L (d : Int) s ⟨3, 7, 0, to, [], 0⟩ = (L', kz, er) := by
            have h := HZ5.out
            unfold newIno at h
            simpa using h
          refine (radded_any _ _ _ _ d s 3 7 0 to 0 L hd (by omega) hkl HN.out hdk L' kz er hz5 _ (HM.out _ HB4.out)).mono ?_
          rintro e w5 ⟨⟨a', cap', he, hN5⟩, hb5⟩
          have he' : e = .returned (.tuple #[.agg #[.slice a' L'.length cap', .int .i64 m, .int .i64 b], .int .i64 kz, .int .i64 er]) := he
          subst he'
          have HB5 := Lib.hid (HB4.out.trans (hb5.mono HB4.out.size))
          have HN5 := Lib.hid hN5
          have hs5 := hb5.size
          clear he hN5 hb5
          clear q0 q1 q2 hq HRX r0 r1 r2 s0 s1 s2 hrl
          obtain ⟨q0, q1, q2⟩ := HX.out _ HB5.out
          have hq := cell_lt q0
          have hRx := HR.out _ HB5.out
          have HRX := Lib.hid hRx
          have r0 := blk_cell hRx 0
          have r1 := blk_cell hRx 1
          have r2 := blk_cell hRx 2
          have s0 := blk_free hRx 0
          have s1 := blk_free hRx 1
          have s2 := blk_free hRx 2
          have hrl := lt_of_block hRx
          clear hRx
          go_wp2_with fail
          change bodyPost _ _ _ _ _ (put3 w5 (w.heap.size + 1) (.slice a' L'.length cap') (.int .i64 m) (.int .i64 b))
          obtain ⟨c0, c1, c2⟩ := put3_cells HRX.out (.slice a' L'.length cap') (.int .i64 m) (.int .i64 b)
          have hBF := put3_below (HB2.out.trans (HB5.out.mono (by omega))) (show w.heap.size ≤ w.heap.size + 1 by omega) (.slice a' L'.length cap') (.int .i64 m) (.int .i64 b)
          exact bodyPost_ret (v := .tuple #[.agg #[.slice a' L'.length cap', .int .i64 m, .int .i64 b], .int .i64 kz, .int .i64 er]) (by simp [results, Tryz.results12, go_sem, c0, c1, c2]) rfl ⟨⟨_, _, rfl, nodes_put3 HN5.out HRX.out _ _ _⟩, hBF⟩
        · have hb1 : (fe != 0) = true := by simpa using h1
          have hz2 := HZ3.out
          rw [if_pos (by simpa using h1)] at hz2
          simp only [Prod.mk.injEq] at hz2
          obtain ⟨rfl, rfl, rfl⟩ := hz2
          go_wp2_with fail
          change bodyPost _ _ _ _ _ (put3 w3 (w.heap.size + 1) (.slice a L.length cap) (.int .i64 m) (.int .i64 b))
          obtain ⟨c0, c1, c2⟩ := put3_cells HRX.out (.slice a L.length cap) (.int .i64 m) (.int .i64 b)
          have hBF := put3_below (HB2.out.trans (HB3.out.mono (by omega))) (show w.heap.size ≤ w.heap.size + 1 by omega) (.slice a L.length cap) (.int .i64 m) (.int .i64 b)
          exact bodyPost_ret (v := .tuple #[.agg #[.slice a L.length cap, .int .i64 m, .int .i64 b], .int .i64 0, .int .i64 fe]) (by simp [results, Tryz.results12, go_sem, c0, c1, c2]) rfl ⟨⟨_, _, rfl, nodes_put3 (HM.out _ HB3.out) HRX.out _ _ _⟩, hBF⟩
end Go.Proofs.YtogheigpcppeiaaGreat
