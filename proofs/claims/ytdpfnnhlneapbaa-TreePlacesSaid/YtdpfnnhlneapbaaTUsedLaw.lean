/-
  The law TreeUsed, walked.
-/
import Derived.Test.YtdpfnnhlneapbaaTAwake
import Derived.Test.YtdpfnnhlneapbaaTRFit2
namespace Go.Proofs.Ytdpfnnhlneapbaa
open Go Go.RowKit

/-- No list is longer than any machine's. -/
structure Reach (L : List Ino) : Prop where
  nodes : L.length ≤ 281474976710656
  kids : ∀ k (h : k < L.length), L[k].kids.length ≤ 281474976710656
  texts : Sized L
  data : ∀ k (h : k < L.length), L[k].data.length ≤ 140737488355328

theorem fit_small {L : List Ino} {m b : Int} (h : FitP L m b) : L.length ≤ 256 ∧ usedB L ≤ 65536 ∧ b ≤ 65536 := by
  obtain ⟨h1, h2, h3, h4, h5⟩ := h.limits
  exact ⟨by omega, by omega, h5⟩
theorem used_pos {L : List Ino} (h : dirB L 0 = true) : 1 ≤ usedN L := by
  obtain ⟨z, hz, hl⟩ := dir_lt h
  cases L with
  | nil => exact absurd hl (Nat.not_lt_zero _)
  | cons x r =>
    have h2 := node_kind_of h
    have h3 : x.kind = 2 := h2
    simp only [usedN, h3]
    rw [if_neg (by decide)]
    omega

/-- Used of a new tree. -/
theorem no_new (n b : Int) (h : ¬ NewFits n b) (w : World) :
    Calls Try.prog 10 #[.int .i64 n, .int .i64 b] w fun e w' => e = .returned (.tuple #[.agg #[.slice none 0 0, .int .i64 0, .int .i64 0], .int .i64 22]) ∧ Below w.heap.size w w' := lnew_no n b h w
theorem nil_nodes (w : World) : NodesIn w none 0 ([] : List Ino) := ⟨Nat.le_refl _, Nat.zero_le _, fun i hi => absurd hi (Nat.not_lt_zero _)⟩
theorem lused_nil (m b : Int) (w : World) :
    Calls Try.prog 16 #[.agg #[.slice none 0 0, .int .i64 m, .int .i64 b]] w fun e w' => e = .returned (.tuple #[.int .i64 0, .int .i64 0]) ∧ Below w.heap.size w w' :=
  lused_any none 0 m b [] (by decide) (by decide) w (nil_nodes w)

set_option maxRecDepth 100000 in
set_option maxHeartbeats 8000000 in
theorem tused_walk (a : Option Addr) (cap : Nat) (m b n c : Int) (L : List Ino) (hR : Reach L) (w : World) (hN : NodesIn w a cap L) :
    Calls Try.prog 7 #[.agg #[.slice a L.length cap, .int .i64 m, .int .i64 b], .int .i64 n, .int .i64 c] w fun e w' => e = .returned (.bool true) ∧ Below w.heap.size w w' := by
  have hb1 := below_box w (.cells #[.slice a L.length cap, .int .i64 m, .int .i64 b] 24)
  obtain ⟨w1, hw1⟩ : ∃ w1, w1 = w.alloc (.cells #[.slice a L.length cap, .int .i64 m, .int .i64 b] 24) := ⟨_, rfl⟩
  have hM := hN.below hb1
  have hsz : w1.heap.size = w.heap.size + 1 := by rw [hw1]; simp
  have hbox : ∀ W', Below w1.heap.size w1 W' → W'.cell? ⟨w.heap.size, 0, none⟩ = some (.slice a L.length cap) ∧ W'.cell? ⟨w.heap.size, 1, none⟩ = some (.int .i64 m) ∧ W'.cell? ⟨w.heap.size, 2, none⟩ = some (.int .i64 b) := fun W' h => box3 (by rw [← hw1]; exact h)
  rw [← hw1] at hM hb1
  have HM := Lib.hid hM
  have HB := Lib.hid hb1
  have HX := Lib.hid hbox
  have HR := Lib.hid hR
  have HEND := Lib.hid (show ∀ W', Below w1.heap.size w1 W' → Below w.heap.size w W' from fun W' h => HB.out.trans (h.mono (by rw [hsz]; omega)))
  clear hM hN hb1 hbox hsz hR
  go_enter Try.func7, Try.ntmps7
  go_wp2_with fail
  rw [← hw1]
  clear hw1
  refine (few_any _ _ _ _ L HR.out.nodes HR.out.kids _ HM.out).mono ?_
  rintro e w2 ⟨⟨v, rfl, hv⟩, hb2⟩
  have HV := Lib.hid hv
  have HB2 := Lib.hid hb2
  obtain ⟨q0, q1, q2⟩ := HX.out _ hb2
  have hs2 := hb2.size
  clear hv hb2
  cases v with
  | false =>
    go_wp2_with fail
    refine (awake3 _).mono ?_
    rintro e w3 ⟨rfl, hb3⟩
    have HB3 := Lib.hid (HB2.out.trans (hb3.mono hs2))
    clear hb3
    go_wp2_with fail
    go_ret
    exact ⟨rfl, HEND.out _ HB3.out⟩
  | true =>
    have HFEW := Lib.hid (HV.out (by simp))
    clear HV
    go_wp2_with fail
    refine (rfit_any _ _ _ _ L HFEW.out.1 HR.out.texts _ (HM.out.below HB2.out)).mono ?_
    rintro e w3 ⟨⟨v, rfl, hv⟩, hb3⟩
    have HV := Lib.hid (hv.trans ref_iff)
    have HB3 := Lib.hid (HB2.out.trans (hb3.mono hs2))
    have hs3 := HB3.out.size
    clear hv hb3 q0 q1 q2
    cases v with
    | false =>
      go_wp2_with fail
      refine (awake3 _).mono ?_
      rintro e w4 ⟨rfl, hb4⟩
      have HB4 := Lib.hid (HB3.out.trans (hb4.mono hs3))
      clear hb4
      go_wp2_with fail
      go_ret
      exact ⟨rfl, HEND.out _ HB4.out⟩
    | true =>
      have HFIT := Lib.hid (HV.out.1 (by simp))
      have HSM := Lib.hid (fit_small HFIT.out)
      obtain ⟨q0, q1, q2⟩ := HX.out _ HB3.out
      clear HV
      go_wp2_with fail
      refine (lused_any _ _ _ _ L (by have := HSM.out.1; omega) (by have := HSM.out.2.1; omega) _ (HM.out.below HB3.out)).mono ?_
      rintro e w4 ⟨rfl, hb4⟩
      have HB4 := Lib.hid (HB3.out.trans (hb4.mono hs3))
      have hs4 := HB4.out.size
      clear hb4 q0 q1 q2
      obtain ⟨q0, q1, q2⟩ := HX.out _ HB4.out
      obtain ⟨nu, hnu⟩ : ∃ nu, nu = usedN L := ⟨_, rfl⟩
      obtain ⟨bu, hbu⟩ : ∃ bu, bu = usedB L := ⟨_, rfl⟩
      have hn1 : 1 ≤ nu := by rw [hnu]; exact used_pos HFIT.out.root
      have hn2 : nu ≤ L.length := by rw [hnu]; exact usedN_le L
      have hb3 : (bu : Int) ≤ b := by rw [hbu]; exact HFIT.out.limits.2.2.2.1
      have hl256 : L.length ≤ 256 := HSM.out.1
      rw [← hnu, ← hbu]
      clear hnu hbu
      by_cases hnf : NewFits n c
      · obtain ⟨f1, f2, f3, f4⟩ := hnf
        obtain ⟨k, rfl⟩ : ∃ k : Nat, n = (k : Int) := ⟨n.toNat, by omega⟩
        have hk1 : 1 ≤ k := by omega
        have hk2 : k ≤ 256 := by omega
        obtain ⟨U, hUe⟩ : ∃ U, U = (newT k c).nodes := ⟨_, rfl⟩
        have hnew : ∀ w, Calls Try.prog 10 #[.int .i64 k, .int .i64 c] w fun e w' => (∃ a cap, e = .returned (.tuple #[.agg #[.slice a U.length cap, .int .i64 k, .int .i64 c], .int .i64 0]) ∧ NodesIn w' a cap U) ∧ Below w.heap.size w w' := fun w => by
          rw [hUe]
          exact lnew_at k c hk1 hk2 f3 f4 w
        have HNEW := Lib.hid hnew
        have HUL := Lib.hid (show U.length ≤ 1000 by rw [hUe, new_len c hk1]; omega)
        have HUF := Lib.hid (show FitP U k c by rw [hUe]; exact new_fit hk1 hk2 f3 f4)
        have HUS := Lib.hid (show Sized U by rw [hUe]; exact new_sized k c)
        have HUN := Lib.hid (show usedN U = 1 by rw [hUe]; exact new_usedN k c)
        have HUB := Lib.hid (show usedB U = 0 by rw [hUe]; exact new_usedB k c)
        clear hnew hUe
        go_wp2_with fail
        refine (HNEW.out _).mono ?_
        rintro e w5 ⟨⟨a', cap', rfl, hN5⟩, hb5⟩
        have HB5 := Lib.hid (HB4.out.trans (hb5.mono hs4))
        have HN5 := Lib.hid hN5
        have hs5 := HB5.out.size
        clear hN5 hb5 q0 q1 q2
        go_wp2_with fail
        obtain ⟨w6, hw6⟩ : ∃ w6, w6 = w5.alloc (.cells #[.slice a' U.length cap', .int .i64 k, .int .i64 c] 24) := ⟨_, rfl⟩
        have HX6 := Lib.hid (show ∀ W', Below w6.heap.size w6 W' → W'.cell? ⟨w5.heap.size, 0, none⟩ = some (.slice a' U.length cap') ∧ W'.cell? ⟨w5.heap.size, 1, none⟩ = some (.int .i64 k) ∧ W'.cell? ⟨w5.heap.size, 2, none⟩ = some (.int .i64 c) from fun W' h => box3 (t := 24) (by rw [← hw6]; exact h))
        have hb6 : Below w5.heap.size w5 w6 := by rw [hw6]; exact below_box _ _
        have HB6 := Lib.hid (HB5.out.trans (hb6.mono hs5))
        have HN6 := Lib.hid (HN5.out.below hb6)
        have hs6 := HB6.out.size
        have hub := HUB.out
        rw [← hw6]
        clear hw6 hb6
        refine (lused_any _ _ _ _ U HUL.out (by omega) _ HN6.out).mono ?_
        rintro e w7 ⟨rfl, hb7⟩
        have HB7 := Lib.hid (show Below w6.heap.size w6 w7 from hb7)
        obtain ⟨q0, q1, q2⟩ := HX6.out _ hb7
        have hun := HUN.out
        rw [hun, hub]
        clear hb7 hun
        go_wp2_with fail
        refine (lfit_any _ _ _ _ U HUL.out HUS.out (by omega) _ (HN6.out.below HB7.out)).mono ?_
        rintro e w8 ⟨⟨v, rfl, hv⟩, hb8⟩
        obtain rfl : v = true := hv.2 HUF.out
        have HB8 := Lib.hid (HB7.out.trans (hb8.mono HB7.out.size))
        clear hv hb8 q0 q1 q2
        go_wp2_with fail
        refine (awake3 _).mono ?_
        rintro e w9 ⟨rfl, hb9⟩
        have HB9 := Lib.hid (HB8.out.trans (hb9.mono HB8.out.size))
        clear hb9
        go_wp2_with fail
        go_ret
        exact ⟨rfl, HEND.out _ (HB6.out.trans (HB9.out.mono hs6))⟩
      · have HNF := Lib.hid hnf
        clear hnf
        go_wp2_with fail
        refine (no_new n c HNF.out _).mono ?_
        rintro e w5 ⟨rfl, hb5⟩
        have HB5 := Lib.hid (HB4.out.trans (hb5.mono hs4))
        have hs5 := HB5.out.size
        clear hb5 q0 q1 q2
        go_wp2_with fail
        have HBX := Lib.hid (show ∀ o, Below w1.heap.size w1 (w5.alloc o) from fun o => HB5.out.alloc hs5 o)
        refine (lused_nil 0 0 _).mono ?_
        rintro e w6 ⟨rfl, hb6⟩
        have HB6 := Lib.hid ((HBX.out _).trans (hb6.mono (by simp; omega)))
        have hs6 := HB6.out.size
        clear hb6
        go_wp2_with fail
        refine (awake3 _).mono ?_
        rintro e w7 ⟨rfl, hb7⟩
        have HB7 := Lib.hid (HB6.out.trans (hb7.mono hs6))
        clear hb7
        go_wp2_with fail
        go_ret
        exact ⟨rfl, HEND.out _ HB7.out⟩
end Go.Proofs.Ytdpfnnhlneapbaa
