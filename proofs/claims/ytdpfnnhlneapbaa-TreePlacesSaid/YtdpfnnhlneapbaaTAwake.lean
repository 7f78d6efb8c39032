/-
  awake: chapter 3's example; few: which trees are soon gone through.
-/
import Derived.Test.YtdpfnnhlneapbaaTNewFit
import Derived.Test.YtdpfnnhlneapbaaTLNew
import Derived.Test.YtdpfnnhlneapbaaTLFit
import Derived.Test.YtdpfnnhlneapbaaTLList0
import Derived.Test.YtdpfnnhlneapbaaTLKid
import Derived.Test.YtdpfnnhlneapbaaTLPlace2
namespace Go.Proofs.Ytdpfnnhlneapbaa
open Go Go.RowKit

theorem lnew_at (n : Nat) (b : Int) (h1 : 1 ≤ n) (h2 : n ≤ 256) (h3 : 0 ≤ b) (h4 : b ≤ 65536) (w : World) :
    Calls Try.prog 10 #[.int .i64 n, .int .i64 b] w fun e w' => (∃ a cap, e = .returned (.tuple #[.agg #[.slice a (newT n b).nodes.length cap, .int .i64 n, .int .i64 b], .int .i64 0]) ∧ NodesIn w' a cap (newT n b).nodes) ∧ Below w.heap.size w w' :=
  (lnew_yes n b h1 h2 h3 h4 w).mono fun e w' h => by
    obtain ⟨⟨v, rfl, a, cap, rfl, hN⟩, hb⟩ := h
    exact ⟨⟨a, cap, rfl, hN⟩, hb⟩

set_option maxRecDepth 100000 in
set_option maxHeartbeats 4000000 in
theorem awake3 (w : World) : Calls Try.prog 9 #[] w fun e w' => e = .returned (.bool true) ∧ Below w.heap.size w w' := by
  have hnew : ∀ w, Calls Try.prog 10 #[.int .i64 4, .int .i64 100] w fun e w' => (∃ a cap, e = .returned (.tuple #[.agg #[.slice a (newT 4 100).nodes.length cap, .int .i64 4, .int .i64 100], .int .i64 0]) ∧ NodesIn w' a cap (newT 4 100).nodes) ∧ Below w.heap.size w w' :=
    fun w => lnew_at 4 100 (by decide) (by decide) (by decide) (by decide) w
  obtain ⟨L, hLe⟩ : ∃ L, L = (newT 4 100).nodes := ⟨_, rfl⟩
  rw [← hLe] at hnew
  have HNEW := Lib.hid hnew
  have HL := Lib.hid (show L.length ≤ 1000 by rw [hLe, new_len 100 (by decide)]; decide)
  have HFIT := Lib.hid (show FitP L 4 100 by rw [hLe]; exact new_fit (n := 4) (b := 100) (by decide) (by decide) (by decide) (by decide))
  have HSZ := Lib.hid (show Sized L by rw [hLe]; exact new_sized 4 100)
  have HSH := Lib.hid (show Short64 L by rw [hLe]; exact new_short 4 100)
  have HUN := Lib.hid (show usedN L = 1 by rw [hLe]; exact new_usedN 4 100)
  have HUB := Lib.hid (show usedB L = 0 by rw [hLe]; exact new_usedB 4 100)
  have HPL := Lib.hid (show lplaceL L 0 = [47] by rw [hLe]; exact new_place (n := 4) 100 (by decide))
  have HKD := Lib.hid (show kidL L 0 [120] = -1 by rw [hLe]; exact new_kid 4 100 [120])
  have HKI := Lib.hid (show ∀ k (h : k < L.length), L[k].kids.length ≤ 1024 ∧ Rises L[k].kids by
    subst hLe
    intro k h
    rw [new_kids]
    exact ⟨Nat.zero_le _, fun i hi => absurd hi (Nat.not_lt_zero _)⟩)
  have HK0 := Lib.hid (show (nodeAt L 0).kids = [] by rw [hLe]; rfl)
  clear hnew hLe
  go_enter Try.func9, Try.ntmps9
  go_wp2_with fail
  refine (HNEW.out _).mono ?_
  rintro e w1 ⟨⟨a, cap, rfl, hN⟩, hb1⟩
  have HN := Lib.hid hN
  have HB1 := Lib.hid hb1
  clear hN hb1
  go_wp2_with fail
  have hbt := below_box w1 (.cells #[.slice a L.length cap, .int .i64 4, .int .i64 100] 24)
  obtain ⟨w2, hw2⟩ : ∃ w2, w2 = w1.alloc (.cells #[.slice a L.length cap, .int .i64 4, .int .i64 100] 24) := ⟨_, rfl⟩
  have HX := Lib.hid (show ∀ W', Below w2.heap.size w2 W' → W'.cell? ⟨w1.heap.size, 0, none⟩ = some (.slice a L.length cap) ∧ W'.cell? ⟨w1.heap.size, 1, none⟩ = some (.int .i64 4) ∧ W'.cell? ⟨w1.heap.size, 2, none⟩ = some (.int .i64 100) from fun W' h => box3 (t := 24) (by rw [← hw2]; exact h))
  rw [← hw2] at hbt
  have HB2 := Lib.hid (HB1.out.trans (hbt.mono HB1.out.size))
  have HN2 := Lib.hid (HN.out.below hbt)
  have hs2 := HB2.out.size
  rw [← hw2]
  clear hw2 hbt
  have hub := HUB.out
  refine (lused_any _ _ _ _ L HL.out (by omega) _ HN2.out).mono ?_
  rintro e w3 ⟨rfl, hb3⟩
  have HB3 := Lib.hid (show Below w2.heap.size w2 w3 from hb3)
  obtain ⟨q0, q1, q2⟩ := HX.out _ hb3
  have hun := HUN.out
  rw [hun, hub]
  clear hb3 hun
  go_wp2_with fail
  refine (lfit_any _ _ _ _ L HL.out HSZ.out (by omega) _ (HN2.out.below HB3.out)).mono ?_
  rintro e w4 ⟨⟨v, rfl, hv⟩, hb4⟩
  obtain rfl : v = true := hv.2 HFIT.out
  have HB4 := Lib.hid (HB3.out.trans (hb4.mono HB3.out.size))
  clear hv hb4 q0 q1 q2
  obtain ⟨q0, q1, q2⟩ := HX.out _ HB4.out
  go_wp2_with fail
  refine (llist0_any _ _ _ _ L HL.out HSZ.out (by omega) HFIT.out HK0.out _ (HN2.out.below HB4.out)).mono ?_
  rintro e w5 ⟨rfl, hb5⟩
  have HB5 := Lib.hid (HB4.out.trans (hb5.mono HB4.out.size))
  clear hb5 q0 q1 q2
  obtain ⟨q0, q1, q2⟩ := HX.out _ HB5.out
  go_wp2_with fail
  have hpl := lplace_any a cap 4 100 0 L HSH.out w5 (HN2.out.below HB5.out)
  rw [HPL.out] at hpl
  refine hpl.mono ?_
  rintro e w6 ⟨rfl, hb6⟩
  have HB6 := Lib.hid (HB5.out.trans (hb6.mono HB5.out.size))
  clear hb6 hpl q0 q1 q2
  obtain ⟨q0, q1, q2⟩ := HX.out _ HB6.out
  go_wp2_with fail
  have hkd := lkid_any a cap 4 100 0 [120] L HKI.out w6 (HN2.out.below HB6.out)
  rw [HKD.out] at hkd
  refine hkd.mono ?_
  rintro e w7 ⟨rfl, hb7⟩
  have HB7 := Lib.hid (HB6.out.trans (hb7.mono HB6.out.size))
  clear hb7 hkd q0 q1 q2
  go_wp2_with fail
  go_ret
  exact ⟨rfl, HB2.out.trans (HB7.out.mono hs2)⟩

/-- What few says. -/
def FewAns (L : List Ino) (e : Ending) : Prop := ∃ v, e = .returned (.bool v) ∧ (v = true → L.length ≤ 300 ∧ (kidsOf L).length ≤ 5000)
def FewRel (L : List Ino) (nv iv : Value) : Prop := ∃ k n : Nat, k ≤ L.length ∧ iv = .int .i64 k ∧ nv = .int .i64 n ∧ n = (kidsOf (L.take k)).length ∧ n ≤ 281474976715656

set_option maxRecDepth 100000 in
set_option maxHeartbeats 4000000 in
theorem few_any (a : Option Addr) (cap : Nat) (m b : Int) (L : List Ino) (hL : L.length ≤ 281474976710656) (hK : ∀ k (h : k < L.length), L[k].kids.length ≤ 281474976710656) (w : World) (hN : NodesIn w a cap L) :
    Calls Try.prog 8 #[.agg #[.slice a L.length cap, .int .i64 m, .int .i64 b]] w fun e w' => FewAns L e ∧ Below w.heap.size w w' := by
  have hb1 := below_box w (.cells #[.slice a L.length cap, .int .i64 m, .int .i64 b] 24)
  have HM := Lib.hid (hN.below hb1)
  have HB := Lib.hid hb1
  have HK := Lib.hid hK
  clear hN hb1 hK
  go_enter Try.func8, Try.ntmps8
  go_wp2_with fail
  go_loop [3, 4] (fun n i => FewRel L n i) (fun _ i => L.length - (intOf i).toNat)
  case atStart => exact ⟨0, 0, by omega, rfl, rfl, by simp [kidsOf], by omega⟩
  case round =>
    obtain ⟨k, n, hk, rfl, rfl, hn, hn2⟩ := hrel
    have HN := Lib.hid hn
    clear hn
    by_cases hgo : k < L.length ∧ n ≤ 5000
    · obtain ⟨hlt, hn5⟩ := hgo
      obtain ⟨bb, o, rfl, hx⟩ := HM.out.2.2 k hlt
      obtain ⟨kv, x4, hks⟩ := hx.kids
      obtain ⟨c, hc⟩ : ∃ c, c = L[k].kids.length := ⟨_, rfl⟩
      have hck := HK.out k hlt
      rw [← hc] at hck
      obtain ⟨ka, kcap, rfl, -, -, -⟩ := hks
      rw [← hc] at x4
      have HNX := Lib.hid (show n + c = (kidsOf (L.take (k + 1))).length by rw [kidsOf_take L k hlt, List.length_append, ← HN.out, hc])
      have hk0 : (0 : Int) ≤ (k : Int) := by omega
      have hkl : (k : Int) < (L.length : Int) := by omega
      clear hx hc
      go_wp2_with fail
      go_round
      case rel => exact ⟨k + 1, n + c, by omega, by go_num, by go_num, HNX.out, by omega⟩
      case measure => simp [intOf] <;> omega
    · by_cases hlt : k < L.length
      · have hn5 : ¬ n ≤ 5000 := fun h => hgo ⟨hlt, h⟩
        have hn5' : 5000 < n := by omega
        have hnb : decide ((n : Int) ≤ 5000) = false := decide_eq_false (by omega)
        have hnb2 : decide (n ≤ 5000) = false := decide_eq_false (by omega)
        clear hgo
        go_wp2_with fail
        all_goals
          go_ret
          refine ⟨⟨_, rfl, ?_⟩, HB.out⟩
          intro h
          simp at h
      · have HL2 := Lib.hid (show n ≤ 5000 → (kidsOf L).length ≤ 5000 by
          intro h
          have e := HN.out
          rw [List.take_of_length_le (show L.length ≤ k by omega)] at e
          omega)
        clear hgo
        by_cases hl3 : L.length ≤ 300 <;> by_cases hn5 : n ≤ 5000
        all_goals
          go_wp2_with fail
          go_ret
          refine ⟨⟨_, rfl, ?_⟩, HB.out⟩
          first
            | exact fun _ => ⟨hl3, HL2.out hn5⟩
            | (intro h; simp at h <;> omega)
end Go.Proofs.Ytdpfnnhlneapbaa
