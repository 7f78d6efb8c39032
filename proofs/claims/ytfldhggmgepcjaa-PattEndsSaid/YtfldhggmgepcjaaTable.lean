/-
  chars.classes(): called, it hands back a new map in which each of the twelve names leads to a member that means its class, and no other name leads anywhere; what was there before stands as it stood.
-/
import Derived.Test.YtfldhggmgepcjaaClasses
namespace Go.Proofs.Ytfldhggmgepcjaa
set_option maxRecDepth 100000
open Go Go.RowKit Go.ChangeMaps

/-- What a call of classes() leaves. -/
def Table (w0 : World) (e : Ending) (w : World) : Prop :=
  ∃ m es clock, e = .returned (.map (some m)) ∧ w.heap[m]? = some (.map es clock) ∧ StrKeys es ∧ (∀ x ∈ es.toList, ∃ r ∈ insRows, x.key = .string r.2.1 ∧ Means w x.val (clsF r.2.2)) ∧
    (∀ r ∈ insRows, ∃ x ∈ es.toList, x.key = .string r.2.1) ∧ Below w0.heap.size w0 w

theorem spanEnters : ∀ (args : Array Value) (W : World), (callFunc 68 args).run Try.prog W = .ok (.enter 68 args) W :=
  enters _ _ Try.func68 (by decide) (by intro h; cases h)
theorem eitherEnters : ∀ (args : Array Value) (W : World), (callFunc 69 args).run Try.prog W = .ok (.enter 69 args) W :=
  enters _ _ Try.func69 (by decide) (by intro h; cases h)

theorem none_listed (n i : Nat) : (Array.replicate n false).getD i false = false := by
  simp only [Array.getD_eq_getD_getElem?, Array.getElem?_replicate]
  split <;> rfl

set_option maxHeartbeats 4000000 in
set_option maxRecDepth 100000 in
theorem classes_any (w : World) : Calls Try.prog 67 #[] w (Table w) := by
  go_enter Try.func67, Try.ntmps67
  go_wp2_with fail
  refine (span_any _ _ _).mono ?_
  rintro e w1 ⟨k1, c1, rfl, m1, b1⟩
  have M1 := Lib.hid m1; clear m1
  go_wp2_with fail
  refine (span_any _ _ _).mono ?_
  rintro e w2 ⟨k2, c2, rfl, m2, b2⟩
  have M2 := Lib.hid m2; clear m2
  go_wp2_with fail
  refine (either_any _ _ _ _ _ (M1.out.keeps (Keeps.of_below b2)) M2.out).mono ?_
  rintro e w3 ⟨k3, c3, rfl, m3, b3⟩
  have M3 := Lib.hid m3; clear m3
  go_wp2_with fail
  refine (either_any _ _ _ _ _ M3.out (digit_means _)).mono ?_
  rintro e w4 ⟨k4, c4, rfl, m4, b4⟩
  have M4 := Lib.hid m4; clear m4
  go_wp2_with fail
  refine (span_any _ _ _).mono ?_
  rintro e w5 ⟨k5, c5, rfl, m5, b5⟩
  have M5 := Lib.hid m5; clear m5
  go_wp2_with fail
  have q1 : w.heap.size ≤ w1.heap.size := b1.size
  have q2 : w1.heap.size ≤ w2.heap.size := b2.size
  have q3 : w2.heap.size ≤ w3.heap.size := b3.size
  have q4 : w3.heap.size ≤ w4.heap.size := b4.size
  have q5 : (w4.alloc (.cells #[.func (.func k4) #[] c4] 106)).heap.size ≤ w5.heap.size := b5.size
  have q5' : w4.heap.size + 1 ≤ w5.heap.size := by simpa using q5
  have kE : Keeps w5 (w5.alloc (.cells #[.func (.func k5) #[] c5] 106)).drew := (Keeps.alloc _ _).trans (Keeps.drew _)
  have kD : Keeps w4 (w5.alloc (.cells #[.func (.func k5) #[] c5] 106)).drew := ((Keeps.alloc _ _).trans (Keeps.of_below b5)).trans kE
  have kC : Keeps w3 (w5.alloc (.cells #[.func (.func k5) #[] c5] 106)).drew := (Keeps.of_below b4).trans kD
  have kB : Keeps w2 (w5.alloc (.cells #[.func (.func k5) #[] c5] 106)).drew := (Keeps.of_below b3).trans kC
  have kA : Keeps w1 (w5.alloc (.cells #[.func (.func k5) #[] c5] 106)).drew := (Keeps.of_below b2).trans kB
  have hall : Below w.heap.size w (w5.alloc (.cells #[.func (.func k5) #[] c5] 106)).drew :=
    ((((((b1.trans (b2.mono q1)).trans (b3.mono (by omega))).trans (b4.mono (by omega))).alloc (by omega) _).trans (b5.mono (by simp; omega))).alloc (by omega) _).drew
  refine wp_region_inv (by kernel_rfl) (Inv w (.func (.func k1) #[] c1) (.func (.func k2) #[] c2) (.func (.func k3) #[] c3) (.func (.func k4) #[] c4) (.func (.func k5) #[] c5) w4.heap.size w5.heap.size) (by kernel_rfl) ?_ ?_ ?_
  · intro listed a w i o hs ho hi hf hd hI
    have hi' : i < 32 := hi
    have hl : listed.size = 32 := hs
    have hcases : i = 0 ∨ i = 1 ∨ i = 2 ∨ i = 3 ∨ i = 4 ∨ i = 5 ∨ i = 6 ∨ i = 7 ∨ i = 8 ∨ i = 9 ∨ i = 10 ∨ i = 11 ∨ i = 12 ∨ i = 13 ∨ i = 14 ∨ i = 15 ∨ i = 16 ∨ i = 17 ∨ i = 18 ∨ i = 19 ∨ i = 20 ∨ i = 21 ∨ i = 22 ∨ i = 23 ∨ i = 24 ∨ i = 25 ∨ i = 26 ∨ i = 27 ∨ i = 28 ∨ i = 29 ∨ i = 30 ∨ i = 31 := by omega
    clear hs hi hi'
    rcases hcases with rfl | rfl | rfl | rfl | rfl | rfl | rfl | rfl | rfl | rfl | rfl | rfl | rfl | rfl | rfl | rfl | rfl | rfl | rfl | rfl | rfl | rfl | rfl | rfl | rfl | rfl | rfl | rfl | rfl | rfl | rfl | rfl
    · -- 0
      obtain rfl := Option.some.inj ho
      exact step_makeMap rfl (hI.made hl (by simpa [Array.getD_eq_getD_getElem?, hl] using hf))
    · -- 1
      obtain rfl := Option.some.inj ho
      exact step_move rfl (hI.val hl 1 15 0 (by decide) _ (by rw [eval_tmp hI.s3]; exact hI.m3) (Below.refl _ _) (by decide) (by decide) (by decide) (by decide) (by decide) (by decide) (by decide))
    · -- 2
      obtain rfl := Option.some.inj ho
      obtain ⟨u0, hu0, hm0⟩ := hI.vals (1, 15, 0) (by decide) (hd ⟨1, .data⟩ (by simp) rfl)
      obtain ⟨w', hrun, hI'⟩ := hI.ins hl 2 ⟨#[97, 108, 112, 104, 97]⟩ 0 (by decide) (by simp [insRows]) u0 hm0 (hd ⟨0, .data⟩ (by simp) rfl) (by decide) (by decide) (by decide) (by decide)
      exact step_insert rfl (by rw [eval_tmp hu0]; exact hrun) hI'
    · -- 3
      obtain rfl := Option.some.inj ho
      obtain ⟨w', hrun, hI'⟩ := hI.ins hl 3 ⟨#[100, 105, 103, 105, 116]⟩ 1 (by decide) (by simp [insRows]) _ (digit_means _) (hd ⟨0, .data⟩ (by simp) rfl) (by decide) (by decide) (by decide) (by decide)
      exact step_insert rfl hrun hI'
    · -- 4
      obtain rfl := Option.some.inj ho
      exact step_load rfl (by rw [eval_tmp hI.s4]; have cx := cell_of_one hI.h4; go_simp) (hI.val hl 4 16 2 (by decide) _ hI.m4 (Below.refl _ _) (by decide) (by decide) (by decide) (by decide) (by decide) (by decide) (by decide))
    · -- 5
      obtain rfl := Option.some.inj ho
      obtain ⟨u0, hu0, hm0⟩ := hI.vals (4, 16, 2) (by decide) (hd ⟨4, .data⟩ (by simp) rfl)
      obtain ⟨w', hrun, hI'⟩ := hI.ins hl 5 ⟨#[97, 108, 110, 117, 109]⟩ 2 (by decide) (by simp [insRows]) u0 hm0 (hd ⟨0, .data⟩ (by simp) rfl) (by decide) (by decide) (by decide) (by decide)
      exact step_insert rfl (by rw [eval_tmp hu0]; exact hrun) hI'
    · -- 6
      obtain rfl := Option.some.inj ho
      exact step_move rfl (hI.val hl 6 17 3 (by decide) _ (by rw [eval_tmp hI.s1]; exact hI.m1) (Below.refl _ _) (by decide) (by decide) (by decide) (by decide) (by decide) (by decide) (by decide))
    · -- 7
      obtain rfl := Option.some.inj ho
      obtain ⟨u0, hu0, hm0⟩ := hI.vals (6, 17, 3) (by decide) (hd ⟨6, .data⟩ (by simp) rfl)
      obtain ⟨w', hrun, hI'⟩ := hI.ins hl 7 ⟨#[117, 112, 112, 101, 114]⟩ 3 (by decide) (by simp [insRows]) u0 hm0 (hd ⟨0, .data⟩ (by simp) rfl) (by decide) (by decide) (by decide) (by decide)
      exact step_insert rfl (by rw [eval_tmp hu0]; exact hrun) hI'
    · -- 8
      obtain rfl := Option.some.inj ho
      exact step_move rfl (hI.val hl 8 18 4 (by decide) _ (by rw [eval_tmp hI.s2]; exact hI.m2) (Below.refl _ _) (by decide) (by decide) (by decide) (by decide) (by decide) (by decide) (by decide))
    · -- 9
      obtain rfl := Option.some.inj ho
      obtain ⟨u0, hu0, hm0⟩ := hI.vals (8, 18, 4) (by decide) (hd ⟨8, .data⟩ (by simp) rfl)
      obtain ⟨w', hrun, hI'⟩ := hI.ins hl 9 ⟨#[108, 111, 119, 101, 114]⟩ 4 (by decide) (by simp [insRows]) u0 hm0 (hd ⟨0, .data⟩ (by simp) rfl) (by decide) (by decide) (by decide) (by decide)
      exact step_insert rfl (by rw [eval_tmp hu0]; exact hrun) hI'
    · -- 10
      obtain rfl := Option.some.inj ho
      exact step_call rfl spanEnters (by simp [Act.eval]) ((span_any 9 13 _).mono fun e w' ⟨k, cap, he, hm, hb⟩ => ⟨_, he, hI.val hl 10 19 12 (by decide) _ hm hb (by decide) (by decide) (by decide) (by decide) (by decide) (by decide) (by decide)⟩)
    · -- 11
      obtain rfl := Option.some.inj ho
      exact step_call rfl spanEnters (by simp [Act.eval]) ((span_any 32 32 _).mono fun e w' ⟨k, cap, he, hm, hb⟩ => ⟨_, he, hI.val hl 11 20 13 (by decide) _ hm hb (by decide) (by decide) (by decide) (by decide) (by decide) (by decide) (by decide)⟩)
    · -- 12
      obtain rfl := Option.some.inj ho
      obtain ⟨u0, hu0, hm0⟩ := hI.vals (10, 19, 12) (by decide) (hd ⟨10, .data⟩ (by simp) rfl)
      obtain ⟨u1, hu1, hm1⟩ := hI.vals (11, 20, 13) (by decide) (hd ⟨11, .data⟩ (by simp) rfl)
      exact step_call rfl eitherEnters (by simp [eval_tmp hu0, eval_tmp hu1]) ((either_any _ _ _ _ _ hm0 hm1).mono fun e w' ⟨k, cap, he, hm, hb⟩ => ⟨_, he, hI.val hl 12 21 5 (by decide) _ hm hb (by decide) (by decide) (by decide) (by decide) (by decide) (by decide) (by decide)⟩)
    · -- 13
      obtain rfl := Option.some.inj ho
      obtain ⟨u0, hu0, hm0⟩ := hI.vals (12, 21, 5) (by decide) (hd ⟨12, .data⟩ (by simp) rfl)
      obtain ⟨w', hrun, hI'⟩ := hI.ins hl 13 ⟨#[115, 112, 97, 99, 101]⟩ 5 (by decide) (by simp [insRows]) u0 hm0 (hd ⟨0, .data⟩ (by simp) rfl) (by decide) (by decide) (by decide) (by decide)
      exact step_insert rfl (by rw [eval_tmp hu0]; exact hrun) hI'
    · -- 14
      obtain rfl := Option.some.inj ho
      obtain ⟨w', hrun, hI'⟩ := hI.ins hl 14 ⟨#[98, 108, 97, 110, 107]⟩ 6 (by decide) (by simp [insRows]) _ (blank_means _) (hd ⟨0, .data⟩ (by simp) rfl) (by decide) (by decide) (by decide) (by decide)
      exact step_insert rfl hrun hI'
    · -- 15
      obtain rfl := Option.some.inj ho
      exact step_makeFunc rfl (by simp) (by simp [eval_tmp hI.s5, eval_tmp hI.s4]) (hI.val hl 15 22 7 (by decide) _ (two_means 72 _ Try.func72 (by decide) (by intro h; cases h) (fun x y => x && !y) punct1 _ _ _ _ _ _ _ hI.h5 hI.h4 hI.m5 hI.m4) (Below.refl _ _) (by decide) (by decide) (by decide) (by decide) (by decide) (by decide) (by decide))
    · -- 16
      obtain rfl := Option.some.inj ho
      obtain ⟨u0, hu0, hm0⟩ := hI.vals (15, 22, 7) (by decide) (hd ⟨15, .data⟩ (by simp) rfl)
      obtain ⟨w', hrun, hI'⟩ := hI.ins hl 16 ⟨#[112, 117, 110, 99, 116]⟩ 7 (by decide) (by simp [insRows]) u0 hm0 (hd ⟨0, .data⟩ (by simp) rfl) (by decide) (by decide) (by decide) (by decide)
      exact step_insert rfl (by rw [eval_tmp hu0]; exact hrun) hI'
    · -- 17
      obtain rfl := Option.some.inj ho
      exact step_call rfl spanEnters (by simp [Act.eval]) ((span_any 32 126 _).mono fun e w' ⟨k, cap, he, hm, hb⟩ => ⟨_, he, hI.val hl 17 23 8 (by decide) _ hm hb (by decide) (by decide) (by decide) (by decide) (by decide) (by decide) (by decide)⟩)
    · -- 18
      obtain rfl := Option.some.inj ho
      obtain ⟨u0, hu0, hm0⟩ := hI.vals (17, 23, 8) (by decide) (hd ⟨17, .data⟩ (by simp) rfl)
      obtain ⟨w', hrun, hI'⟩ := hI.ins hl 18 ⟨#[112, 114, 105, 110, 116]⟩ 8 (by decide) (by simp [insRows]) u0 hm0 (hd ⟨0, .data⟩ (by simp) rfl) (by decide) (by decide) (by decide) (by decide)
      exact step_insert rfl (by rw [eval_tmp hu0]; exact hrun) hI'
    · -- 19
      obtain rfl := Option.some.inj ho
      exact step_load rfl (by rw [eval_tmp hI.s5]; have cx := cell_of_one hI.h5; go_simp) (hI.val hl 19 24 9 (by decide) _ hI.m5 (Below.refl _ _) (by decide) (by decide) (by decide) (by decide) (by decide) (by decide) (by decide))
    · -- 20
      obtain rfl := Option.some.inj ho
      obtain ⟨u0, hu0, hm0⟩ := hI.vals (19, 24, 9) (by decide) (hd ⟨19, .data⟩ (by simp) rfl)
      obtain ⟨w', hrun, hI'⟩ := hI.ins hl 20 ⟨#[103, 114, 97, 112, 104]⟩ 9 (by decide) (by simp [insRows]) u0 hm0 (hd ⟨0, .data⟩ (by simp) rfl) (by decide) (by decide) (by decide) (by decide)
      exact step_insert rfl (by rw [eval_tmp hu0]; exact hrun) hI'
    · -- 21
      obtain rfl := Option.some.inj ho
      exact step_call rfl spanEnters (by simp [Act.eval]) ((span_any 0 31 _).mono fun e w' ⟨k, cap, he, hm, hb⟩ => ⟨_, he, hI.val hl 21 25 14 (by decide) _ hm hb (by decide) (by decide) (by decide) (by decide) (by decide) (by decide) (by decide)⟩)
    · -- 22
      obtain rfl := Option.some.inj ho
      exact step_call rfl spanEnters (by simp [Act.eval]) ((span_any 127 127 _).mono fun e w' ⟨k, cap, he, hm, hb⟩ => ⟨_, he, hI.val hl 22 26 15 (by decide) _ hm hb (by decide) (by decide) (by decide) (by decide) (by decide) (by decide) (by decide)⟩)
    · -- 23
      obtain rfl := Option.some.inj ho
      obtain ⟨u0, hu0, hm0⟩ := hI.vals (21, 25, 14) (by decide) (hd ⟨21, .data⟩ (by simp) rfl)
      obtain ⟨u1, hu1, hm1⟩ := hI.vals (22, 26, 15) (by decide) (hd ⟨22, .data⟩ (by simp) rfl)
      exact step_call rfl eitherEnters (by simp [eval_tmp hu0, eval_tmp hu1]) ((either_any _ _ _ _ _ hm0 hm1).mono fun e w' ⟨k, cap, he, hm, hb⟩ => ⟨_, he, hI.val hl 23 27 10 (by decide) _ hm hb (by decide) (by decide) (by decide) (by decide) (by decide) (by decide) (by decide)⟩)
    · -- 24
      obtain rfl := Option.some.inj ho
      obtain ⟨u0, hu0, hm0⟩ := hI.vals (23, 27, 10) (by decide) (hd ⟨23, .data⟩ (by simp) rfl)
      obtain ⟨w', hrun, hI'⟩ := hI.ins hl 24 ⟨#[99, 110, 116, 114, 108]⟩ 10 (by decide) (by simp [insRows]) u0 hm0 (hd ⟨0, .data⟩ (by simp) rfl) (by decide) (by decide) (by decide) (by decide)
      exact step_insert rfl (by rw [eval_tmp hu0]; exact hrun) hI'
    · -- 25
      obtain rfl := Option.some.inj ho
      exact step_call rfl spanEnters (by simp [Act.eval]) ((span_any 65 70 _).mono fun e w' ⟨k, cap, he, hm, hb⟩ => ⟨_, he, hI.val hl 25 28 16 (by decide) _ hm hb (by decide) (by decide) (by decide) (by decide) (by decide) (by decide) (by decide)⟩)
    · -- 26
      obtain rfl := Option.some.inj ho
      exact step_call rfl spanEnters (by simp [Act.eval]) ((span_any 97 102 _).mono fun e w' ⟨k, cap, he, hm, hb⟩ => ⟨_, he, hI.val hl 26 29 17 (by decide) _ hm hb (by decide) (by decide) (by decide) (by decide) (by decide) (by decide) (by decide)⟩)
    · -- 27
      obtain rfl := Option.some.inj ho
      obtain ⟨u0, hu0, hm0⟩ := hI.vals (25, 28, 16) (by decide) (hd ⟨25, .data⟩ (by simp) rfl)
      obtain ⟨u1, hu1, hm1⟩ := hI.vals (26, 29, 17) (by decide) (hd ⟨26, .data⟩ (by simp) rfl)
      exact step_call rfl eitherEnters (by simp [eval_tmp hu0, eval_tmp hu1]) ((either_any _ _ _ _ _ hm0 hm1).mono fun e w' ⟨k, cap, he, hm, hb⟩ => ⟨_, he, hI.val hl 27 30 18 (by decide) _ hm hb (by decide) (by decide) (by decide) (by decide) (by decide) (by decide) (by decide)⟩)
    · -- 28
      obtain rfl := Option.some.inj ho
      obtain ⟨u0, hu0, hm0⟩ := hI.vals (27, 30, 18) (by decide) (hd ⟨27, .data⟩ (by simp) rfl)
      exact step_call rfl eitherEnters (by simp [eval_tmp hu0]; rfl) ((either_any _ _ _ _ _ (digit_means _) hm0).mono fun e w' ⟨k, cap, he, hm, hb⟩ => ⟨_, he, hI.val hl 28 31 11 (by decide) _ hm hb (by decide) (by decide) (by decide) (by decide) (by decide) (by decide) (by decide)⟩)
    · -- 29
      obtain rfl := Option.some.inj ho
      obtain ⟨u0, hu0, hm0⟩ := hI.vals (28, 31, 11) (by decide) (hd ⟨28, .data⟩ (by simp) rfl)
      obtain ⟨w', hrun, hI'⟩ := hI.ins hl 29 ⟨#[120, 100, 105, 103, 105, 116]⟩ 11 (by decide) (by simp [insRows]) u0 hm0 (hd ⟨0, .data⟩ (by simp) rfl) (by decide) (by decide) (by decide) (by decide)
      exact step_insert rfl (by rw [eval_tmp hu0]; exact hrun) hI'
    · -- 30
      obtain rfl := Option.some.inj ho
      exact step_move rfl (hI.last hl (hd ⟨0, .data⟩ (by simp) rfl))
    · -- 31
      obtain rfl := Option.some.inj ho
      exact step_assign rfl (hI.told hl (hd ⟨30, .data⟩ (by simp) rfl))
  · intro listed a wE hs hd hI
    obtain ⟨m, es, clock, g1, g2, g3, g4⟩ := hI.map (hd 0 (by decide))
    have e0 := hI.s0 (hd 31 (by decide))
    rw [g1] at e0
    have hT : Table w (.returned (.map (some m))) wE :=
      ⟨m, es, clock, rfl, g3, g4.keys, g4.means, fun r hr => g4.has r hr (hd r.1 ((by decide : ∀ r ∈ insRows, r.1 < 32) r hr)), hI.below⟩
    have hdf := hI.defers
    have hre : (results Try.f67 a.tmps).run Try.prog wE = .ok (.map (some m)) wE := by
      simp [results, Try.results67, go_sem, e0]
    clear hd hI g1 g2 g3 g4 e0 hs M1 M2 M3 M4 M5 kA kB kC kD kE hall b1 b2 b3 b4 b5
    obtain ⟨tmps, defers⟩ := a
    go_wp2
    exact bodyPost_ret hre rfl hT
  · refine ⟨hall, by simp, rfl, by simp, by simp, by simp, by simp, by simp, ?_, ?_, ?_, ?_, ?_, ?_, ?_, ?_, ?_, ?_, ?_, ?_, ?_, ?_⟩
    · exact kE _ _ ⟨_, _, _, rfl⟩ (by rw [b5.block _ (by simp)]; exact heap_last _ _)
    · exact (Keeps.drew _) _ _ ⟨_, _, _, rfl⟩ (heap_last _ _)
    · exact M1.out.keeps kA
    · exact M2.out.keeps kB
    · exact M3.out.keeps kC
    · exact M4.out.keeps kD
    · exact M5.out.keeps kE
    all_goals first | exact fun r _ hl => absurd hl (by rw [none_listed]; decide) | exact fun hl => absurd hl (by rw [none_listed]; decide)
end Go.Proofs.Ytfldhggmgepcjaa
