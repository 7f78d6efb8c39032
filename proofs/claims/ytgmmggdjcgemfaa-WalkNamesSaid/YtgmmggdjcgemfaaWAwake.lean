/-
  awake: chapter 4's example; good: which trees the laws speak of.
-/
import Derived.Test.YtgmmggdjcgemfaaTNewFit
import Derived.Test.YtgmmggdjcgemfaaTRFit2
import Derived.Test.YtgmmggdjcgemfaaTreeNew
import Derived.Test.YtgmmggdjcgemfaaWLPar
import Derived.Test.YtgmmggdjcgemfaaWLKind
namespace Go.Proofs.Ytgmmggdjcgemfaa
open Go Go.RowKit

theorem aw_walk1 : walkW (newT 4 100).nodes 0 [47] true = (0, 0) := by decide +kernel
theorem aw_walk2 : walkW (newT 4 100).nodes 0 [120] true = (0, 2) := by decide +kernel
theorem aw_walk3 : walkW (newT 4 100).nodes 0 [46, 46] true = (0, 0) := by decide +kernel
theorem aw_par : parentW (newT 4 100).nodes 0 [120, 47] = (0, [120], 0) := by decide +kernel
theorem aw_may : mayL (newT 4 100).nodes 0 7 = true := by decide +kernel

theorem lwalk_known (a : Option Addr) (cap : Nat) (m b cwd : Int) (pb : ByteArray) (hp : pb.size ≤ 1073741824) (follow : Bool) (L : List Ino) (hF : FitP L m b) (z e : Int) (h : walkW L cwd pb.data.toList follow = (z, e)) (w : World) (hN : NodesIn w a cap L) :
    Calls Try.prog 10 #[.agg #[.slice a L.length cap, .int .i64 m, .int .i64 b], .int .i64 cwd, .string pb, .bool follow] w fun r w' => r = .returned (.tuple #[.int .i64 z, .int .i64 e]) ∧ Below w.heap.size w w' := by
  have := lwalk_any a cap m b cwd pb hp follow L hF w hN
  rw [h] at this
  exact this
theorem lparent_known (a : Option Addr) (cap : Nat) (m b cwd : Int) (pb : ByteArray) (hp : pb.size ≤ 1073741824) (L : List Ino) (hF : FitP L m b) (z : Int) (s : List UInt8) (e : Int) (h : parentW L cwd pb.data.toList = (z, s, e)) (w : World) (hN : NodesIn w a cap L) :
    Calls Try.prog 12 #[.agg #[.slice a L.length cap, .int .i64 m, .int .i64 b], .int .i64 cwd, .string pb] w fun r w' => r = .returned (.tuple #[.int .i64 z, .string ⟨s.toArray⟩, .int .i64 e]) ∧ Below w.heap.size w w' := by
  have := lparent_any a cap m b cwd pb hp L hF w hN
  rw [h] at this
  exact this

set_option maxRecDepth 100000 in
set_option maxHeartbeats 4000000 in
theorem awake4 (w : World) : Calls Try.prog 9 #[] w fun e w' => e = .returned (.bool true) ∧ Below w.heap.size w w' := by
  have hnew : ∀ w, Calls Try.prog 21 #[.int .i64 4, .int .i64 100] w fun e w' => (∃ a cap, e = .returned (.tuple #[.agg #[.slice a (newT 4 100).nodes.length cap, .int .i64 4, .int .i64 100], .int .i64 0]) ∧ NodesIn w' a cap (newT 4 100).nodes) ∧ Below w.heap.size w w' :=
    fun w => (rnew_yes 4 100 (by decide) (by decide) (by decide) (by decide) w).mono fun e w' h => by
      obtain ⟨⟨v, rfl, a, cap, rfl, hN⟩, hb⟩ := h
      exact ⟨⟨a, cap, rfl, hN⟩, hb⟩
  have A1 := Lib.hid aw_walk1
  have A2 := Lib.hid aw_walk2
  have A3 := Lib.hid aw_walk3
  have A4 := Lib.hid aw_par
  have A5 := Lib.hid aw_may
  have HFIT := Lib.hid (show FitP (newT 4 100).nodes 4 100 from new_fit (n := 4) (b := 100) (by decide) (by decide) (by decide) (by decide))
  obtain ⟨L, hLe⟩ : ∃ L, L = (newT 4 100).nodes := ⟨_, rfl⟩
  rw [← hLe] at hnew A1 A2 A3 A4 A5 HFIT
  have HNEW := Lib.hid hnew
  clear hnew hLe
  go_enter Try.func9, Try.ntmps9
  go_wp2_with fail
  refine (HNEW.out _).mono ?_
  rintro e w1 ⟨⟨a, cap, rfl, hN⟩, hb1⟩
  have HN := Lib.hid hN
  have HB1 := Lib.hid hb1
  clear hN hb1
  go_wp2_with fail
  have hbt := below_box w1 (.cells #[.slice a L.length cap, .int .i64 4, .int .i64 100] 24)
  obtain ⟨w2, hw2⟩ : ∃ w2, w2 = w1.alloc (.cells #[.slice a L.length cap, .int .i64 4, .int .i64 100] 24) := ⟨_, rfl⟩
  have HX := Lib.hid (show ∀ W', Below w2.heap.size w2 W' → W'.cell? ⟨w1.heap.size, 0, none⟩ = some (.slice a L.length cap) ∧ W'.cell? ⟨w1.heap.size, 1, none⟩ = some (.int .i64 4) ∧ W'.cell? ⟨w1.heap.size, 2, none⟩ = some (.int .i64 100) from fun W' h => box3 (t := 24) (by rw [← hw2]; exact h))
  rw [← hw2] at hbt
  have HB2 := Lib.hid (HB1.out.trans (hbt.mono HB1.out.size))
  have HN2 := Lib.hid (HN.out.below hbt)
  have hs2 := HB2.out.size
  rw [← hw2]
  clear hw2 hbt
  refine (lwalk_known _ _ _ _ _ _ (by decide) _ L HFIT.out _ _ A1.out _ HN2.out).mono ?_
  rintro e w3 ⟨rfl, hb3⟩
  have HB3 := Lib.hid (show Below w2.heap.size w2 w3 from hb3)
  obtain ⟨q0, q1, q2⟩ := HX.out _ hb3
  clear hb3
  go_wp2_with fail
  refine (lwalk_known _ _ _ _ _ _ (by decide) _ L HFIT.out _ _ A2.out _ (HN2.out.below HB3.out)).mono ?_
  rintro e w4 ⟨rfl, hb4⟩
  have HB4 := Lib.hid (HB3.out.trans (hb4.mono HB3.out.size))
  clear hb4 q0 q1 q2
  obtain ⟨q0, q1, q2⟩ := HX.out _ HB4.out
  go_wp2_with fail
  refine (lwalk_known _ _ _ _ _ _ (by decide) _ L HFIT.out _ _ A3.out _ (HN2.out.below HB4.out)).mono ?_
  rintro e w5 ⟨rfl, hb5⟩
  have HB5 := Lib.hid (HB4.out.trans (hb5.mono HB4.out.size))
  clear hb5 q0 q1 q2
  obtain ⟨q0, q1, q2⟩ := HX.out _ HB5.out
  go_wp2_with fail
  refine (lparent_known _ _ _ _ _ _ (by decide) L HFIT.out _ _ _ A4.out _ (HN2.out.below HB5.out)).mono ?_
  rintro e w6 ⟨rfl, hb6⟩
  have HB6 := Lib.hid (HB5.out.trans (hb6.mono HB5.out.size))
  clear hb6 q0 q1 q2
  obtain ⟨q0, q1, q2⟩ := HX.out _ HB6.out
  go_wp2_with fail
  refine (lmayw_known _ _ _ _ _ _ L HFIT.out.ins _ A5.out _ (HN2.out.below HB6.out)).mono ?_
  rintro e w7 ⟨rfl, hb7⟩
  have HB7 := Lib.hid (HB6.out.trans (hb7.mono HB6.out.size))
  clear hb7
  go_wp2_with fail
  go_ret
  exact ⟨rfl, HB2.out.trans (HB7.out.mono hs2)⟩

/-- good, as the laws call it. -/
theorem good4_any (a : Option Addr) (cap : Nat) (m b : Int) (L : List Ino) (hS : Sized L) (w : World) (hN : NodesIn w a cap L) :
    Calls Try.prog 8 #[.agg #[.slice a L.length cap, .int .i64 m, .int .i64 b]] w fun e w' => (∃ v : Bool, e = .returned (.bool v) ∧ (v = true → L.length ≤ 300 ∧ FitP L m b)) ∧ Below w.heap.size w w' := by
  have hb1 := below_box w (.cells #[.slice a L.length cap, .int .i64 m, .int .i64 b] 24)
  have HM := Lib.hid (hN.below hb1)
  have HB1 := Lib.hid hb1
  have HS := Lib.hid hS
  have hcap := hN.1
  have hmax := hN.2.1
  unfold maxLen at hmax
  clear hN hb1 hS
  by_cases hl : L.length ≤ 300
  · have hl2 : decide ((L.length : Int) ≤ 300) = true := decide_eq_true (by omega)
    go_enter Try.func8, Try.ntmps8
    go_wp2_with fail
    refine (rfit_any _ _ _ _ L hl HS.out _ HM.out).mono ?_
    rintro e w2 ⟨⟨v, rfl, hv⟩, hb2⟩
    have HV := Lib.hid hv
    have HB2 := Lib.hid hb2
    clear hv hb2
    go_wp2_with fail
    go_ret
    exact ⟨⟨v, rfl, fun e => ⟨hl, ref_iff.1 (by subst e; exact HV.out.1 rfl)⟩⟩, HB1.out.trans (HB2.out.mono (by simp))⟩
  · have hl2 : decide ((L.length : Int) ≤ 300) = false := decide_eq_false (by omega)
    go_enter Try.func8, Try.ntmps8
    go_wp2_with fail
    go_ret
    exact ⟨⟨false, rfl, fun e => by cases e⟩, HB1.out⟩
end Go.Proofs.Ytgmmggdjcgemfaa
