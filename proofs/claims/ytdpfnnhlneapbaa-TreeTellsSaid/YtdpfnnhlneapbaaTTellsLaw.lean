/-
  The law TreeTells, walked.
-/
import Derived.Test.YtdpfnnhlneapbaaTUsedLaw
import Derived.Test.YtdpfnnhlneapbaaTreeSame
import Derived.Test.YtdpfnnhlneapbaaTLSame
import Derived.Test.YtdpfnnhlneapbaaGrown
namespace Go.Proofs.Ytdpfnnhlneapbaa
open Go Go.RowKit

theorem lfit_known (a : Option Addr) (cap : Nat) (m b : Int) (L : List Ino) (hL : L.length ≤ 1000) (hS : Sized L) (hB : usedB L ≤ 4611686018427387904) (v : Bool) (hv : v = true ↔ FitP L m b) (w : World) (hN : NodesIn w a cap L) :
    Calls Try.prog 13 #[.agg #[.slice a L.length cap, .int .i64 m, .int .i64 b]] w fun e w' => e = .returned (.bool v) ∧ Below w.heap.size w w' :=
  (lfit_any a cap m b L hL hS hB w hN).mono fun e w' h => by
    obtain ⟨⟨u, h1, h2⟩, h3⟩ := h
    have e : u = v := by rw [Bool.eq_iff_iff, h2, hv]
    subst e
    exact ⟨h1, h3⟩
theorem rfit_known (a : Option Addr) (cap : Nat) (m b : Int) (L : List Ino) (hL : L.length ≤ 300) (hS : Sized L) (v : Bool) (hv : v = true ↔ FitP L m b) (w : World) (hN : NodesIn w a cap L) :
    Calls Try.prog 14 #[.agg #[.slice a L.length cap, .int .i64 m, .int .i64 b]] w fun e w' => e = .returned (.bool v) ∧ Below w.heap.size w w' :=
  (rfit_any a cap m b L hL hS w hN).mono fun e w' h => by
    obtain ⟨⟨u, h1, h2⟩, h3⟩ := h
    have e : u = v := by rw [Bool.eq_iff_iff, h2, hv, ref_iff]
    subst e
    exact ⟨h1, h3⟩
theorem lsame_known (a a' : Option Addr) (cap cap' : Nat) (m b m' b' : Int) (L M : List Ino) (hL : L.length ≤ 1000) (v : Bool) (hv : v = true ↔ (⟨L, m, b⟩ : Tre) = ⟨M, m', b'⟩) (w : World) (hN : NodesIn w a cap L) (hN' : NodesIn w a' cap' M) :
    Calls Try.prog 15 #[.agg #[.slice a L.length cap, .int .i64 m, .int .i64 b], .agg #[.slice a' M.length cap', .int .i64 m', .int .i64 b']] w fun e w' => e = .returned (.bool v) ∧ Below w.heap.size w w' :=
  (lsame_any a a' cap cap' m b m' b' L M hL w hN hN').mono fun e w' h => by
    obtain ⟨⟨u, h1, h2⟩, h3⟩ := h
    have e : u = v := by rw [Bool.eq_iff_iff, h2, hv]
    subst e
    exact ⟨h1, h3⟩
theorem rsame_known (a a' : Option Addr) (cap cap' : Nat) (m b m' b' : Int) (L M : List Ino) (hL : L.length ≤ 1000) (v : Bool) (hv : v = true ↔ (⟨L, m, b⟩ : Tre) = ⟨M, m', b'⟩) (w : World) (hN : NodesIn w a cap L) (hN' : NodesIn w a' cap' M) :
    Calls Try.prog 12 #[.agg #[.slice a L.length cap, .int .i64 m, .int .i64 b], .agg #[.slice a' M.length cap', .int .i64 m', .int .i64 b']] w fun e w' => e = .returned (.bool v) ∧ Below w.heap.size w w' :=
  (rsame3_any a a' cap cap' m b m' b' L M hL w hN hN').mono fun e w' h => by
    obtain ⟨⟨u, h1, h2⟩, h3⟩ := h
    have e : u = v := by rw [Bool.eq_iff_iff, h2, hv]
    subst e
    exact ⟨h1, h3⟩

/-- What a call of New hands back, of either. -/
def NewAns (U : List Ino) (n' c' err : Int) (w : World) (e : Ending) (w' : World) : Prop :=
  (∃ a cap, e = .returned (.tuple #[.agg #[.slice a U.length cap, .int .i64 n', .int .i64 c'], .int .i64 err]) ∧ NodesIn w' a cap U) ∧ Below w.heap.size w w'
theorem new_both (n c : Int) : ∃ (U : List Ino) (n' c' err : Int), U.length ≤ 1000 ∧ (∀ w, Calls Try.prog 10 #[.int .i64 n, .int .i64 c] w (NewAns U n' c' err w)) ∧
    (∀ w, Calls Try.prog 11 #[.int .i64 n, .int .i64 c] w (NewAns U n' c' err w)) := by
  by_cases h : NewFits n c
  · obtain ⟨f1, f2, f3, f4⟩ := h
    obtain ⟨k, rfl⟩ : ∃ k : Nat, n = (k : Int) := ⟨n.toNat, by omega⟩
    refine ⟨(newT k c).nodes, k, c, 0, by rw [new_len c (by omega)]; omega, fun w => ?_, fun w => ?_⟩
    · refine (lnew_yes k c (by omega) (by omega) f3 f4 w).mono fun e w' h => ?_
      obtain ⟨⟨v, rfl, a, cap, rfl, hN⟩, hb⟩ := h
      exact ⟨⟨a, cap, rfl, hN⟩, hb⟩
    · refine (rnew_yes k c (by omega) (by omega) f3 f4 w).mono fun e w' h => ?_
      obtain ⟨⟨v, rfl, a, cap, rfl, hN⟩, hb⟩ := h
      exact ⟨⟨a, cap, rfl, hN⟩, hb⟩
  · refine ⟨[], 0, 0, 22, by decide, fun w => ?_, fun w => ?_⟩
    · refine (lnew_no n c h w).mono fun e w' h => ?_
      obtain ⟨rfl, hb⟩ := h
      exact ⟨⟨none, 0, rfl, nil_nodes _⟩, hb⟩
    · refine (rnew_no n c h w).mono fun e w' h => ?_
      obtain ⟨rfl, hb⟩ := h
      exact ⟨⟨none, 0, rfl, nil_nodes _⟩, hb⟩

theorem few_bytes {L : List Ino} (hL : L.length ≤ 300) (hD : ∀ k (h : k < L.length), L[k].data.length ≤ 140737488355328) : usedB L ≤ 4611686018427387904 := by
  have h := usedB_le 140737488355328 L hD
  have h2 : L.length * 140737488355328 ≤ 300 * 140737488355328 := Nat.mul_le_mul_right _ hL
  omega

set_option maxRecDepth 100000 in
set_option maxHeartbeats 8000000 in
theorem ttells_walk (a a2 : Option Addr) (cap cap2 : Nat) (m b m2 b2 n c : Int) (L M : List Ino) (hR : Reach L) (hR2 : Reach M) (w : World) (hN : NodesIn w a cap L) (hN2 : NodesIn w a2 cap2 M) :
    Calls Try.prog 3 #[.agg #[.slice a L.length cap, .int .i64 m, .int .i64 b], .agg #[.slice a2 M.length cap2, .int .i64 m2, .int .i64 b2], .int .i64 n, .int .i64 c] w fun e w' => e = .returned (.bool true) ∧ Below w.heap.size w w' := by
  obtain ⟨w1, hw1⟩ : ∃ w1, w1 = (w.alloc (.cells #[.slice a L.length cap, .int .i64 m, .int .i64 b] 24)).alloc (.cells #[.slice a2 M.length cap2, .int .i64 m2, .int .i64 b2] 24) := ⟨_, rfl⟩
  have hb1 : Below w.heap.size w w1 := by rw [hw1]; exact (below_box w _).alloc (by simp) _
  have hsz : w1.heap.size = w.heap.size + 2 := by rw [hw1]; simp
  have hbox : ∀ W', Below w1.heap.size w1 W' → W'.cell? ⟨w.heap.size, 0, none⟩ = some (.slice a L.length cap) ∧ W'.cell? ⟨w.heap.size, 1, none⟩ = some (.int .i64 m) ∧ W'.cell? ⟨w.heap.size, 2, none⟩ = some (.int .i64 b) := fun W' h => box3 (t := 24) (w := w) (((below_box _ (.cells #[.slice a2 M.length cap2, .int .i64 m2, .int .i64 b2] 24))).trans (by rw [← hw1]; exact h.mono (by rw [hsz]; simp)))
  have hbox2 : ∀ W', Below w1.heap.size w1 W' → W'.cell? ⟨w.heap.size + 1, 0, none⟩ = some (.slice a2 M.length cap2) ∧ W'.cell? ⟨w.heap.size + 1, 1, none⟩ = some (.int .i64 m2) ∧ W'.cell? ⟨w.heap.size + 1, 2, none⟩ = some (.int .i64 b2) := fun W' h => by
    have h1 := box3 (t := 24) (w := w.alloc (.cells #[.slice a L.length cap, .int .i64 m, .int .i64 b] 24)) (W' := W') (x := .slice a2 M.length cap2) (y := .int .i64 m2) (z := .int .i64 b2) (by rw [← hw1]; exact h)
    rw [World.size_alloc] at h1
    exact h1
  have HM := Lib.hid (hN.below hb1)
  have HM2 := Lib.hid (hN2.below hb1)
  have HB := Lib.hid hb1
  have HX := Lib.hid hbox
  have HX2 := Lib.hid hbox2
  have HR := Lib.hid hR
  have HR2 := Lib.hid hR2
  have HEND := Lib.hid (show ∀ W', Below w1.heap.size w1 W' → Below w.heap.size w W' from fun W' h => HB.out.trans (h.mono (by rw [hsz]; omega)))
  clear hN hN2 hb1 hbox hbox2 hsz hR hR2
  go_enter Try.func3, Try.ntmps3
  go_wp2_with fail
  rw [← hw1]
  clear hw1
  refine (few_any _ _ _ _ L HR.out.nodes HR.out.kids _ HM.out).mono ?_
  rintro e w2 ⟨⟨v, rfl, hv⟩, hb2⟩
  have HV := Lib.hid hv
  have HB2 := Lib.hid hb2
  obtain ⟨q0, q1, q2⟩ := HX2.out _ hb2
  have hs2 := hb2.size
  clear hv hb2
  cases v with
  | false =>
    go_wp2_with fail
    refine (awake3 _).mono ?_
    rintro e w3 ⟨rfl, hb3⟩
    have HB3 := Lib.hid (HB2.out.trans (hb3.mono hs2))
    clear hb3
    go_wp2_with fail
    go_ret
    exact ⟨rfl, HEND.out _ HB3.out⟩
  | true =>
    have HFEW := Lib.hid (HV.out (by simp))
    clear HV
    go_wp2_with fail
    refine (few_any _ _ _ _ M HR2.out.nodes HR2.out.kids _ (HM2.out.below HB2.out)).mono ?_
    rintro e w3 ⟨⟨v, rfl, hv⟩, hb3⟩
    have HV := Lib.hid hv
    have HB3 := Lib.hid (HB2.out.trans (hb3.mono hs2))
    have hs3 := HB3.out.size
    clear hv hb3 q0 q1 q2
    cases v with
    | false =>
      go_wp2_with fail
      refine (awake3 _).mono ?_
      rintro e w4 ⟨rfl, hb4⟩
      have HB4 := Lib.hid (HB3.out.trans (hb4.mono hs3))
      clear hb4
      go_wp2_with fail
      go_ret
      exact ⟨rfl, HEND.out _ HB4.out⟩
    | true =>
      have HFEW2 := Lib.hid (HV.out (by simp))
      clear HV
      obtain ⟨U, n', c', err, hUL, hn1, hn2⟩ := new_both n c
      have HN1 := Lib.hid hn1
      have HN2 := Lib.hid hn2
      clear hn1 hn2
      go_wp2_with fail
      refine (HN1.out _).mono ?_
      rintro e w4 ⟨⟨ua, ucap, rfl, hU⟩, hb4⟩
      have HB4 := Lib.hid (HB3.out.trans (hb4.mono hs3))
      have HU := Lib.hid hU
      have hs4 := HB4.out.size
      clear hU hb4
      go_wp2_with fail
      obtain ⟨w5, hw5⟩ : ∃ w5, w5 = w4.alloc (.cells #[.slice ua U.length ucap, .int .i64 n', .int .i64 c'] 24) := ⟨_, rfl⟩
      have HX5 := Lib.hid (show ∀ W', Below w5.heap.size w5 W' → W'.cell? ⟨w4.heap.size, 0, none⟩ = some (.slice ua U.length ucap) ∧ W'.cell? ⟨w4.heap.size, 1, none⟩ = some (.int .i64 n') ∧ W'.cell? ⟨w4.heap.size, 2, none⟩ = some (.int .i64 c') from fun W' h => box3 (t := 24) (by rw [← hw5]; exact h))
      have hb5 : Below w4.heap.size w4 w5 := by rw [hw5]; exact below_box _ _
      have HB5 := Lib.hid (HB4.out.trans (hb5.mono hs4))
      have HU5 := Lib.hid (HU.out.below hb5)
      have hs5 := HB5.out.size
      rw [← hw5]
      clear hw5 hb5
      refine (HN2.out _).mono ?_
      rintro e w6 ⟨⟨va, vcap, rfl, hV⟩, hb6⟩
      have HB6 := Lib.hid (HB5.out.trans (hb6.mono hs5))
      have HB56 := Lib.hid (show Below w5.heap.size w5 w6 from hb6)
      have HV := Lib.hid hV
      have hs6 := HB6.out.size
      clear hV hb6
      go_wp2_with fail
      obtain ⟨w7, hw7⟩ : ∃ w7, w7 = w6.alloc (.cells #[.slice va U.length vcap, .int .i64 n', .int .i64 c'] 24) := ⟨_, rfl⟩
      have hb7 : Below w6.heap.size w6 w7 := by rw [hw7]; exact below_box _ _
      obtain ⟨r0, r1, r2⟩ := box3 (W' := w7) (w := w6) (x := .slice va U.length vcap) (y := .int .i64 n') (z := .int .i64 c') (t := 24) (by rw [hw7]; exact Below.refl _ _)
      have HB7 := Lib.hid (HB6.out.trans (hb7.mono hs6))
      have hb57 := HB56.out.trans (hb7.mono HB56.out.size)
      obtain ⟨p0, p1, p2⟩ := HX5.out _ hb57
      have HV7 := Lib.hid (HV.out.below hb7)
      have HU7 := Lib.hid (HU5.out.below hb57)
      obtain ⟨q0, q1, q2⟩ := HX.out _ HB7.out
      obtain ⟨s0, s1, s2⟩ := HX2.out _ HB7.out
      have HT7 := Lib.hid (HM.out.below HB7.out)
      have HT72 := Lib.hid (HM2.out.below HB7.out)
      rw [← hw7]
      clear hw7 hb7 hb57
      obtain ⟨fv, hfv⟩ : ∃ fv : Bool, fv = true ↔ FitP L m b := by
        by_cases h : FitP L m b
        · exact ⟨true, by simp [h]⟩
        · exact ⟨false, by simp [h]⟩
      obtain ⟨sv, hsv⟩ : ∃ sv : Bool, sv = true ↔ (⟨L, m, b⟩ : Tre) = ⟨M, m2, b2⟩ := by
        by_cases h : (⟨L, m, b⟩ : Tre) = ⟨M, m2, b2⟩
        · exact ⟨true, by simp [h]⟩
        · exact ⟨false, by simp [h]⟩
      have hL3 : L.length ≤ 300 := HFEW.out.1
      have HUB := Lib.hid (few_bytes hL3 HR.out.data)
      have H1 := Lib.hid (grown_call (wb := w7) (fun W hW => rsame_known ua va ucap vcap n' c' n' c' U U hUL true (by simp) W (HU7.out.below hW) (HV7.out.below hW)))
      have H2 := Lib.hid (grown_call (wb := w7) (fun W hW => lfit_known a cap m b L (by omega) HR.out.texts HUB.out fv hfv W (HT7.out.below hW)))
      have H3 := Lib.hid (grown_call (wb := w7) (fun W hW => rfit_known a cap m b L hL3 HR.out.texts fv hfv W (HT7.out.below hW)))
      have H4 := Lib.hid (grown_call (wb := w7) (fun W hW => lsame_known a a2 cap cap2 m b m2 b2 L M (by omega) sv hsv W (HT7.out.below hW) (HT72.out.below hW)))
      have H5 := Lib.hid (grown_call (wb := w7) (fun W hW => rsame_known a a2 cap cap2 m b m2 b2 L M (by omega) sv hsv W (HT7.out.below hW) (HT72.out.below hW)))
      have H6 := Lib.hid (grown_call (wb := w7) (fun W hW => lsame_known a a cap cap m b m b L L (by omega) true (by simp) W (HT7.out.below hW) (HT7.out.below hW)))
      have H7 := Lib.hid (grown_call (wb := w7) (fun W _ => awake3 W))
      have f0 := grown_cell q0
      have f1 := grown_cell q1
      have f2 := grown_cell q2
      have f3 := grown_cell s0
      have f4 := grown_cell s1
      have f5 := grown_cell s2
      have f6 := grown_cell p0
      have f7 := grown_cell p1
      have f8 := grown_cell p2
      have f9 := grown_cell r0
      have f10 := grown_cell r1
      have f11 := grown_cell r2
      clear q0 q1 q2 s0 s1 s2 p0 p1 p2 r0 r1 r2 hfv hsv
      refine wp_region_grown (by kernel_rfl) (by kernel_rfl) ?_
      repeat (first | go_big_quiet_skip | (go_big_quiet_want; go_big_quiet_op; (first | go_big_quiet_on | ((first | with_reducible refine ⟨_, H1.out, ?_⟩ | with_reducible refine ⟨_, H2.out, ?_⟩ | with_reducible refine ⟨_, H3.out, ?_⟩ | with_reducible refine ⟨_, H4.out, ?_⟩ | with_reducible refine ⟨_, H5.out, ?_⟩ | with_reducible refine ⟨_, H6.out, ?_⟩ | with_reducible refine ⟨_, H7.out, ?_⟩); go_big_quiet_on))))
      refine wpQuiet_nil ?_
      intro w8 hw8
      have hbg : Below w7.heap.size w7 w8 := by obtain ⟨x, rfl⟩ := hw8; exact x.below
      have HB8 := Lib.hid (HB7.out.trans (hbg.mono HB7.out.size))
      clear hw8 hbg f0 f1 f2 f3 f4 f5 f6 f7 f8 f9 f10 f11
      go_wp2_with fail
      go_ret
      exact ⟨rfl, HEND.out _ HB8.out⟩
end Go.Proofs.Ytdpfnnhlneapbaa
