import Derived.Test.YtkdfbliiblojoaaGreatDoorK11
set_option linter.all false
set_option maxRecDepth 100000
set_option maxHeartbeats 64000000
namespace Go.Proofs.YtkdfbliiblojoaaGreatDoor
open Go Go.RowKit
theorem Aay {n : Nat} {w w' : World} (h : Below n w w') (k : Nat) : Below n w (w'.drewN k) := h.trans ⟨rfl,rfl,rfl,Nat.le_refl _,fun _ _ => rfl⟩
theorem Adx (fd : Int) (w : World) : Calls Tryz.prog 81 #[.int .i64 fd] w fun e w' => e = .returned (.bool (isFd fd)) ∧ w' = w := by
 unfold isFd
 by_cases h1 : 0 ≤ fd
 ·by_cases h2 : fd < 10
  ·go_enter Tryz.func81,Tryz.ntmps81
   go_wp2_with fail
   go_ret
   simp [h1,h2]
  ·go_enter Tryz.func81,Tryz.ntmps81
   go_wp2_with fail
   go_ret
   simp [h1,h2]
 ·go_enter Tryz.func81,Tryz.ntmps81
  go_wp2_with fail
  go_ret
  rw [decide_eq_false (show ¬ 0 ≤ fd by omega)]
  exact ⟨rfl,rfl⟩
section
variable {B g : Nat} {A : KAd} {K : Krn} {f : List Int}
theorem Ay0 (kd at_ off fl rf : Int) (w : World) (hW : Wk w B g A K f) : Calls Tryz.prog 92 #[.pointer (some ⟨g,0,none⟩),.agg #[.int .i64 kd,.int .i64 at_,.int .i64 off,.int .i64 fl,.int .i64 rf]] w fun e w' => e = .returned (.bool (Ant ⟨kd,at_,off,fl,rf⟩)) ∧ Below w.heap.size w w' := by
 have HB := Hd (Aab w (.cells #[.int .i64 kd,.int .i64 at_,.int .i64 off,.int .i64 fl,.int .i64 rf] 70))
 have heq := fun W => Asb kd at_ off fl rf 0 0 0 0 0 (Ant ⟨kd,at_,off,fl,rf⟩) (by rw [Ax2]; simp [Aap]) W
 have hg := Ai7
 clear hW
 go_enter Tryz.func92,Tryz.ntmps92
 go_wp2_with fail
 go_ret
 exact ⟨by first | rfl | simp,by first | exact HB.out | exact Aay HB.out _⟩
theorem Ap9 (kd at_ off fl rf : Int) (w : World) (hW : Wk w B g A K f) : Calls Tryz.prog 132 #[.pointer (some ⟨g,0,none⟩),.agg #[.int .i64 kd,.int .i64 at_,.int .i64 off,.int .i64 fl,.int .i64 rf]] w fun e w' => e = .returned (.bool (endB K.pipes.length ⟨kd,at_,off,fl,rf⟩)) ∧ Below w.heap.size w w' := by
 have HB := Hd (Aab w (.cells #[.int .i64 kd,.int .i64 at_,.int .i64 off,.int .i64 fl,.int .i64 rf] 70))
 obtain ⟨q0,q1,q2,q3,q4,q5,q6⟩ := hW.kcells
 have gl := hW.lt
 have HE := Hd (show endB K.pipes.length ⟨kd,at_,off,fl,rf⟩ = ((decide (0 ≤ at_) && decide (at_ < (K.pipes.length : Int))) && decide (off = 0)) by unfold endB; congr 1)
 rw [HE.out]
 clear hW
 cases h1 : decide (0 ≤ at_) with
 | false =>
  go_enter Tryz.func132,Tryz.ntmps132
  go_wp2_with fail
  go_quiet (fail)
  go_wp2_with fail
  go_ret
  exact ⟨by first | rfl | simp,by first | exact HB.out | exact Aay HB.out _⟩
 | true =>
  cases h2 : decide (at_ < (K.pipes.length : Int)) with
  | false =>
   go_enter Tryz.func132,Tryz.ntmps132
   go_wp2_with fail
   go_quiet (fail)
   go_wp2_with fail
   go_ret
   exact ⟨by first | rfl | simp,by first | exact HB.out | exact Aay HB.out _⟩
  | true =>
   go_enter Tryz.func132,Tryz.ntmps132
   go_wp2_with fail
   go_quiet (fail)
   go_wp2_with fail
   go_ret
   exact ⟨by first | rfl | simp,by first | exact HB.out | exact Aay HB.out _⟩
theorem Am7 (kd at_ off fl rf : Int) (w : World) (hW : Wk w B g A K f) : Calls Tryz.prog 97 #[.pointer (some ⟨g,0,none⟩),.agg #[.int .i64 kd,.int .i64 at_,.int .i64 off,.int .i64 fl,.int .i64 rf]] w fun e w' => e = .returned (.bool (endB K.pipes.length ⟨kd,at_,off,fl,rf⟩ && fl == 1)) ∧ Below w.heap.size w w' := by
 have HB := Hd (Aab w (.cells #[.int .i64 kd,.int .i64 at_,.int .i64 off,.int .i64 fl,.int .i64 rf] 70))
 have gl := hW.lt
 have HW := Hd hW
 clear hW
 cases h1 : endB K.pipes.length ⟨kd,at_,off,fl,rf⟩ with
 | false =>
  go_enter Tryz.func97,Tryz.ntmps97
  go_wp2_with fail
  refine (Ap9 kd at_ off fl rf _ (HW.out.below (Aab w _))).mono ?_
  rintro e w2 ⟨rfl,hb2⟩
  have HB2 := Hd (HB.out.trans (hb2.mono (by simp)))
  rw [h1]
  clear hb2
  go_wp2_with fail
  go_ret
  exact ⟨by simp,HB2.out⟩
 | true =>
  have X3 := Hd (show (w.alloc (.cells #[.int .i64 kd,.int .i64 at_,.int .i64 off,.int .i64 fl,.int .i64 rf] 70)).cell? ⟨w.heap.size,3,none⟩ = some (.int .i64 fl) from bC (Aae w _) 3)
  go_enter Tryz.func97,Tryz.ntmps97
  go_wp2_with fail
  refine (Ap9 kd at_ off fl rf _ (HW.out.below (Aab w _))).mono ?_
  rintro e w2 ⟨rfl,hb2⟩
  have HB2 := Hd (HB.out.trans (hb2.mono (by simp)))
  have x3 := Aaa hb2 X3.out
  rw [h1]
  clear hb2
  go_wp2_with fail
  go_ret
  exact ⟨by simp,HB2.out⟩
theorem An8 (kd at_ off fl rf : Int) (w : World) (hW : Wk w B g A K f) : Calls Tryz.prog 100 #[.pointer (some ⟨g,0,none⟩),.agg #[.int .i64 kd,.int .i64 at_,.int .i64 off,.int .i64 fl,.int .i64 rf]] w fun e w' => e = .returned (.bool (endB K.pipes.length ⟨kd,at_,off,fl,rf⟩ && fl == 2)) ∧ Below w.heap.size w w' := by
 have HB := Hd (Aab w (.cells #[.int .i64 kd,.int .i64 at_,.int .i64 off,.int .i64 fl,.int .i64 rf] 70))
 have gl := hW.lt
 have HW := Hd hW
 clear hW
 cases h1 : endB K.pipes.length ⟨kd,at_,off,fl,rf⟩ with
 | false =>
  go_enter Tryz.func100,Tryz.ntmps100
  go_wp2_with fail
  refine (Ap9 kd at_ off fl rf _ (HW.out.below (Aab w _))).mono ?_
  rintro e w2 ⟨rfl,hb2⟩
  have HB2 := Hd (HB.out.trans (hb2.mono (by simp)))
  rw [h1]
  clear hb2
  go_wp2_with fail
  go_ret
  exact ⟨by simp,HB2.out⟩
 | true =>
  have X3 := Hd (show (w.alloc (.cells #[.int .i64 kd,.int .i64 at_,.int .i64 off,.int .i64 fl,.int .i64 rf] 70)).cell? ⟨w.heap.size,3,none⟩ = some (.int .i64 fl) from bC (Aae w _) 3)
  go_enter Tryz.func100,Tryz.ntmps100
  go_wp2_with fail
  refine (Ap9 kd at_ off fl rf _ (HW.out.below (Aab w _))).mono ?_
  rintro e w2 ⟨rfl,hb2⟩
  have HB2 := Hd (HB.out.trans (hb2.mono (by simp)))
  have x3 := Aaa hb2 X3.out
  rw [h1]
  clear hb2
  go_wp2_with fail
  go_ret
  exact ⟨by simp,HB2.out⟩
theorem Awi (kd at_ off fl rf : Int) (w : World) (hW : Wk w B g A K f) : Calls Tryz.prog 103 #[.pointer (some ⟨g,0,none⟩),.agg #[.int .i64 kd,.int .i64 at_,.int .i64 off,.int .i64 fl,.int .i64 rf]] w fun e w' => e = .returned (.bool (outB ⟨kd,at_,off,fl,rf⟩)) ∧ Below w.heap.size w w' := by
 have HB := Hd (Aab w (.cells #[.int .i64 kd,.int .i64 at_,.int .i64 off,.int .i64 fl,.int .i64 rf] 70))
 have HE := Hd (show outB ⟨kd,at_,off,fl,rf⟩ = (((decide (0 ≤ at_) && decide (at_ < 2)) && decide (off = 0)) && decide (fl = 2)) by unfold outB; rfl)
 rw [HE.out]
 clear hW
 cases h1 : decide (0 ≤ at_) with
 | false =>
  go_enter Tryz.func103,Tryz.ntmps103
  go_wp2_with fail
  go_ret
  exact ⟨by first | rfl | simp,by first | exact HB.out | exact Aay HB.out _⟩
 | true =>
  cases h2 : decide (at_ < 2) with
  | false =>
   go_enter Tryz.func103,Tryz.ntmps103
   go_wp2_with fail
   go_ret
   exact ⟨by first | rfl | simp,by first | exact HB.out | exact Aay HB.out _⟩
  | true =>
   cases h3 : decide (off = 0) with
   | false =>
    have h3b : (off == 0) = false := by simpa using h3
    go_enter Tryz.func103,Tryz.ntmps103
    go_wp2_with fail
    go_ret
    exact ⟨by first | rfl | simp,by first | exact HB.out | exact Aay HB.out _⟩
   | true =>
    have h3b : (off == 0) = true := by simpa using h3
    go_enter Tryz.func103,Tryz.ntmps103
    go_wp2_with fail
    go_ret
    exact ⟨by first | rfl | simp,by first | exact HB.out | exact Aay HB.out _⟩
theorem Aun (kd at_ off fl rf : Int) (w : World) (hW : Wk w B g A K f) : Calls Tryz.prog 93 #[.pointer (some ⟨g,0,none⟩),.agg #[.int .i64 kd,.int .i64 at_,.int .i64 off,.int .i64 fl,.int .i64 rf]] w fun e w' => e = .returned (.bool (Ag5 K.tree ⟨kd,at_,off,fl,rf⟩)) ∧ Below w.heap.size w w' := by
 have HB := Hd (Aab w (.cells #[.int .i64 kd,.int .i64 at_,.int .i64 off,.int .i64 fl,.int .i64 rf] 70))
 obtain ⟨q0,q1,q2,q3,q4,q5,q6⟩ := hW.kcells
 have gl := hW.lt
 have HN := Hd hW.nodes
 clear hW
 by_cases h1 : at_ < 0
 ·have HE := Hd (show Ag5 K.tree ⟨kd,at_,off,fl,rf⟩ = false by unfold Ag5; simp only [decide_eq_false (show ¬ 0 ≤ at_ by omega),Bool.false_and])
  rw [HE.out]
  have h1b : decide (at_ < 0) = true := decide_eq_true h1
  go_enter Tryz.func93,Tryz.ntmps93
  go_wp2_with fail
  go_quiet (fail)
  go_wp2_with fail
  go_ret
  exact ⟨by first | rfl | simp,by first | exact HB.out | exact Aay HB.out _⟩
 by_cases h2 : (K.tree.length : Int) ≤ at_
 ·have HE := Hd (show Ag5 K.tree ⟨kd,at_,off,fl,rf⟩ = false by unfold Ag5; simp only [decide_eq_false (show ¬ at_ < (K.tree.length : Int) by omega),Bool.false_and,Bool.and_false])
  rw [HE.out]
  have h1b : decide (at_ < 0) = false := decide_eq_false h1
  have h2b : decide (at_ ≥ (K.tree.length : Int)) = true := decide_eq_true h2
  have h2c : decide ((K.tree.length : Int) ≤ at_) = true := decide_eq_true h2
  go_enter Tryz.func93,Tryz.ntmps93
  go_wp2_with fail
  go_quiet (fail)
  go_wp2_with fail
  go_ret
  exact ⟨by first | rfl | simp,by first | exact HB.out | exact Aay HB.out _⟩
 obtain ⟨n,rfl⟩ : ∃ n : Nat,at_ = (n : Int) := ⟨at_.toNat,by omega⟩
 have hn : n < K.tree.length := by omega
 have h1b : decide ((n : Int) < 0) = false := decide_eq_false h1
 have h2b : decide ((n : Int) ≥ (K.tree.length : Int)) = false := decide_eq_false h2
 have h2c : decide ((K.tree.length : Int) ≤ (n : Int)) = false := decide_eq_false h2
 have h2d : decide (K.tree.length ≤ n) = false := decide_eq_false (by omega)
 have h2e : ¬ K.tree.length ≤ n := by omega
 have h0 : (0 : Int) ≤ (n : Int) := by omega
 have h3 : (n : Int) < (K.tree.length : Int) := by omega
 obtain ⟨b,o,hta,hx⟩ := HN.out.2.2 n hn
 have x0 := hx.kind
 have xl := Aaj x0
 rw [hta] at q0
 have HF := Hd (show Ag5 K.tree ⟨kd,(n : Int),off,fl,rf⟩ = ((K.tree[n].kind == 1) && (fl == 1 || fl == 2 || fl == 3 || fl == 6 || fl == 7)) by unfold Ag5; simp only [Aad K.tree n hn,decide_eq_true h0,decide_eq_true h3,Bool.true_and])
 rw [HF.out]
 obtain ⟨kn,hkn⟩ : ∃ kn,kn = K.tree[n].kind := ⟨_,rfl⟩
 rw [← hkn] at x0 ⊢
 clear hx hta hkn h1 h2
 by_cases h4 : kn = 1
 ·subst h4
  by_cases f1 : fl = 1
  ·subst f1
   go_enter Tryz.func93,Tryz.ntmps93
   go_wp2_with fail
   go_quiet (fail)
   go_wp2_with fail
   go_ret
   exact ⟨by first | rfl | simp,by first | exact HB.out | exact Aay HB.out _⟩
  have f1b : (fl == 1) = false := by simpa using f1
  by_cases f2 : fl = 2
  ·subst f2
   go_enter Tryz.func93,Tryz.ntmps93
   go_wp2_with fail
   go_quiet (fail)
   go_wp2_with fail
   go_ret
   exact ⟨by first | rfl | simp,by first | exact HB.out | exact Aay HB.out _⟩
  have f2b : (fl == 2) = false := by simpa using f2
  by_cases f3 : fl = 3
  ·subst f3
   go_enter Tryz.func93,Tryz.ntmps93
   go_wp2_with fail
   go_quiet (fail)
   go_wp2_with fail
   go_ret
   exact ⟨by first | rfl | simp,by first | exact HB.out | exact Aay HB.out _⟩
  have f3b : (fl == 3) = false := by simpa using f3
  by_cases f6 : fl = 6
  ·subst f6
   go_enter Tryz.func93,Tryz.ntmps93
   go_wp2_with fail
   go_quiet (fail)
   go_wp2_with fail
   go_ret
   exact ⟨by first | rfl | simp,by first | exact HB.out | exact Aay HB.out _⟩
  have f6b : (fl == 6) = false := by simpa using f6
  by_cases f7 : fl = 7
  ·subst f7
   go_enter Tryz.func93,Tryz.ntmps93
   go_wp2_with fail
   go_quiet (fail)
   go_wp2_with fail
   go_ret
   exact ⟨by first | rfl | simp,by first | exact HB.out | exact Aay HB.out _⟩
  have f7b : (fl == 7) = false := by simpa using f7
  rw [f1b,f2b,f3b,f6b,f7b]
  go_enter Tryz.func93,Tryz.ntmps93
  go_wp2_with fail
  go_quiet (fail)
  go_wp2_with fail
  go_ret
  exact ⟨by first | rfl | simp,by first | exact HB.out | exact Aay HB.out _⟩
 ·have h4b : (kn != 1) = true := by simpa using h4
  have h4c : (kn == 1) = false := by simpa using h4
  rw [h4c]
  go_enter Tryz.func93,Tryz.ntmps93
  go_wp2_with fail
  go_quiet (fail)
  go_wp2_with fail
  go_ret
  exact ⟨by first | rfl | simp,by first | exact HB.out | exact Aay HB.out _⟩
theorem Atx (kd at_ off fl rf : Int) (w : World) (hW : Wk w B g A K f) : Calls Tryz.prog 117 #[.pointer (some ⟨g,0,none⟩),.agg #[.int .i64 kd,.int .i64 at_,.int .i64 off,.int .i64 fl,.int .i64 rf]] w fun e w' => e = .returned (.bool (Ad8 K.tree K.pipes.length ⟨kd,at_,off,fl,rf⟩)) ∧ Below w.heap.size w w' := by
 have HB := Hd (Aab w (.cells #[.int .i64 kd,.int .i64 at_,.int .i64 off,.int .i64 fl,.int .i64 rf] 70))
 obtain ⟨w1,hw1⟩ : ∃ p,p = w.alloc (.cells #[.int .i64 kd,.int .i64 at_,.int .i64 off,.int .i64 fl,.int .i64 rf] 70) := ⟨_,rfl⟩
 have hb1 : Below w.heap.size w w1 := by rw [hw1]; exact Aab w _
 have hX : w1.heap[w.heap.size]? = some (.cells #[.int .i64 kd,.int .i64 at_,.int .i64 off,.int .i64 fl,.int .i64 rf] 70 (0,0)) := by rw [hw1]; exact Aae w _
 have HW1 := Hd (hW.below hb1)
 have HB1 := Hd hb1
 have HX := Hd hX
 have gl := hW.lt
 have xl := lt_of_block hX
 have gl1 := HW1.out.lt
 clear hb1 hX hW
 have x0 := Aai (bC HX.out 0)
 have x1 := Aai (bC HX.out 1)
 have x2 := Aai (bC HX.out 2)
 have x3 := Aai (bC HX.out 3)
 have x4 := Aai (bC HX.out 4)
 by_cases hlo : 0 ≤ kd
 rotate_left
 ·have HE := Hd (show Ad8 K.tree K.pipes.length ⟨kd,at_,off,fl,rf⟩ = false by unfold Ad8; simp only; rw [if_neg (by omega),if_neg (by omega),if_neg (by omega),if_neg (by omega),if_neg (by omega)])
  rw [HE.out]
  have e1 : decide (0 ≤ kd) = false := decide_eq_false hlo
  go_enter Tryz.func117,Tryz.ntmps117
  go_upto_region 1 with fail
  rw [← hw1]
  clear hw1
  refine Aag (by kernel_rfl) (by kernel_rfl) ?_
  repeat (first | go_big_quiet_skip | (go_big_quiet_want; go_big_quiet_op; (first | go_big_quiet_on)))
  refine wpQuiet_nil ?_
  intro w4 hw4
  have hbg : Below w1.heap.size w1 w4 := by obtain ⟨x,rfl⟩ := hw4; exact x.below
  go_wp2_with fail
  go_ret
  exact ⟨by first | rfl | simp,HB1.out.trans (hbg.mono HB1.out.size)⟩
 by_cases hhi : kd < 5
 rotate_left
 ·have HE := Hd (show Ad8 K.tree K.pipes.length ⟨kd,at_,off,fl,rf⟩ = false by unfold Ad8; simp only; rw [if_neg (by omega),if_neg (by omega),if_neg (by omega),if_neg (by omega),if_neg (by omega)])
  rw [HE.out]
  have e1 : decide (0 ≤ kd) = true := decide_eq_true hlo
  have e2 : decide (kd < 5) = false := decide_eq_false hhi
  go_enter Tryz.func117,Tryz.ntmps117
  go_upto_region 1 with fail
  rw [← hw1]
  clear hw1
  refine Aag (by kernel_rfl) (by kernel_rfl) ?_
  repeat (first | go_big_quiet_skip | (go_big_quiet_want; go_big_quiet_op; (first | go_big_quiet_on)))
  refine wpQuiet_nil ?_
  intro w4 hw4
  have hbg : Below w1.heap.size w1 w4 := by obtain ⟨x,rfl⟩ := hw4; exact x.below
  go_wp2_with fail
  go_ret
  exact ⟨by first | rfl | simp,HB1.out.trans (hbg.mono HB1.out.size)⟩
 by_cases h0 : kd = 0
 ·subst h0
  have HE := Hd (show Ad8 K.tree K.pipes.length ⟨0,at_,off,fl,rf⟩ = Ant ⟨0,at_,off,fl,rf⟩ from rfl)
  rw [HE.out]
  have fx := Aai HW1.out.fits0
  have G1 := Aa2 (wb := w1) (f := 92) (args := #[.pointer (some ⟨g,0,none⟩),.agg #[.int .i64 0,.int .i64 at_,.int .i64 off,.int .i64 fl,.int .i64 rf]]) (v := .bool (Ant ⟨0,at_,off,fl,rf⟩)) fun W hW => Ay0 0 at_ off fl rf W (HW1.out.below hW)
  go_enter Tryz.func117,Tryz.ntmps117
  go_upto_region 1 with fail
  rw [← hw1]
  clear hw1
  refine Aag (by kernel_rfl) (by kernel_rfl) ?_
  repeat (first | go_big_quiet_skip | (go_big_quiet_want; go_big_quiet_op; (first | go_big_quiet_on | (refine ⟨_,G1,?_⟩; go_big_quiet_on))))
  refine wpQuiet_nil ?_
  intro w4 hw4
  have hbg : Below w1.heap.size w1 w4 := by obtain ⟨x,rfl⟩ := hw4; exact x.below
  go_wp2_with fail
  go_ret
  exact ⟨by first | rfl | simp,HB1.out.trans (hbg.mono HB1.out.size)⟩
 by_cases h1 : kd = 1
 ·subst h1
  have HE := Hd (show Ad8 K.tree K.pipes.length ⟨1,at_,off,fl,rf⟩ = Ag5 K.tree ⟨1,at_,off,fl,rf⟩ from rfl)
  rw [HE.out]
  have fx := Aai HW1.out.fits1
  have G1 := Aa2 (wb := w1) (f := 93) (args := #[.pointer (some ⟨g,0,none⟩),.agg #[.int .i64 1,.int .i64 at_,.int .i64 off,.int .i64 fl,.int .i64 rf]]) (v := .bool (Ag5 K.tree ⟨1,at_,off,fl,rf⟩)) fun W hW => Aun 1 at_ off fl rf W (HW1.out.below hW)
  go_enter Tryz.func117,Tryz.ntmps117
  go_upto_region 1 with fail
  rw [← hw1]
  clear hw1
  refine Aag (by kernel_rfl) (by kernel_rfl) ?_
  repeat (first | go_big_quiet_skip | (go_big_quiet_want; go_big_quiet_op; (first | go_big_quiet_on | (refine ⟨_,G1,?_⟩; go_big_quiet_on))))
  refine wpQuiet_nil ?_
  intro w4 hw4
  have hbg : Below w1.heap.size w1 w4 := by obtain ⟨x,rfl⟩ := hw4; exact x.below
  go_wp2_with fail
  go_ret
  exact ⟨by first | rfl | simp,HB1.out.trans (hbg.mono HB1.out.size)⟩
 by_cases h2 : kd = 2
 ·subst h2
  have HE := Hd (show Ad8 K.tree K.pipes.length ⟨2,at_,off,fl,rf⟩ = (endB K.pipes.length ⟨2,at_,off,fl,rf⟩ && fl == 1) from rfl)
  rw [HE.out]
  have fx := Aai HW1.out.fits2
  have G1 := Aa2 (wb := w1) (f := 97) (args := #[.pointer (some ⟨g,0,none⟩),.agg #[.int .i64 2,.int .i64 at_,.int .i64 off,.int .i64 fl,.int .i64 rf]]) (v := .bool ((endB K.pipes.length ⟨2,at_,off,fl,rf⟩ && fl == 1))) fun W hW => Am7 2 at_ off fl rf W (HW1.out.below hW)
  go_enter Tryz.func117,Tryz.ntmps117
  go_upto_region 1 with fail
  rw [← hw1]
  clear hw1
  refine Aag (by kernel_rfl) (by kernel_rfl) ?_
  repeat (first | go_big_quiet_skip | (go_big_quiet_want; go_big_quiet_op; (first | go_big_quiet_on | (refine ⟨_,G1,?_⟩; go_big_quiet_on))))
  refine wpQuiet_nil ?_
  intro w4 hw4
  have hbg : Below w1.heap.size w1 w4 := by obtain ⟨x,rfl⟩ := hw4; exact x.below
  go_wp2_with fail
  go_ret
  exact ⟨by first | rfl | simp,HB1.out.trans (hbg.mono HB1.out.size)⟩
 by_cases h3 : kd = 3
 ·subst h3
  have HE := Hd (show Ad8 K.tree K.pipes.length ⟨3,at_,off,fl,rf⟩ = (endB K.pipes.length ⟨3,at_,off,fl,rf⟩ && fl == 2) from rfl)
  rw [HE.out]
  have fx := Aai HW1.out.fits3
  have G1 := Aa2 (wb := w1) (f := 100) (args := #[.pointer (some ⟨g,0,none⟩),.agg #[.int .i64 3,.int .i64 at_,.int .i64 off,.int .i64 fl,.int .i64 rf]]) (v := .bool ((endB K.pipes.length ⟨3,at_,off,fl,rf⟩ && fl == 2))) fun W hW => An8 3 at_ off fl rf W (HW1.out.below hW)
  go_enter Tryz.func117,Tryz.ntmps117
  go_upto_region 1 with fail
  rw [← hw1]
  clear hw1
  refine Aag (by kernel_rfl) (by kernel_rfl) ?_
  repeat (first | go_big_quiet_skip | (go_big_quiet_want; go_big_quiet_op; (first | go_big_quiet_on | (refine ⟨_,G1,?_⟩; go_big_quiet_on))))
  refine wpQuiet_nil ?_
  intro w4 hw4
  have hbg : Below w1.heap.size w1 w4 := by obtain ⟨x,rfl⟩ := hw4; exact x.below
  go_wp2_with fail
  go_ret
  exact ⟨by first | rfl | simp,HB1.out.trans (hbg.mono HB1.out.size)⟩
 by_cases h4 : kd = 4
 ·subst h4
  have HE := Hd (show Ad8 K.tree K.pipes.length ⟨4,at_,off,fl,rf⟩ = outB ⟨4,at_,off,fl,rf⟩ from rfl)
  rw [HE.out]
  have fx := Aai HW1.out.fits4
  have G1 := Aa2 (wb := w1) (f := 103) (args := #[.pointer (some ⟨g,0,none⟩),.agg #[.int .i64 4,.int .i64 at_,.int .i64 off,.int .i64 fl,.int .i64 rf]]) (v := .bool (outB ⟨4,at_,off,fl,rf⟩)) fun W hW => Awi 4 at_ off fl rf W (HW1.out.below hW)
  go_enter Tryz.func117,Tryz.ntmps117
  go_upto_region 1 with fail
  rw [← hw1]
  clear hw1
  refine Aag (by kernel_rfl) (by kernel_rfl) ?_
  repeat (first | go_big_quiet_skip | (go_big_quiet_want; go_big_quiet_op; (first | go_big_quiet_on | (refine ⟨_,G1,?_⟩; go_big_quiet_on))))
  refine wpQuiet_nil ?_
  intro w4 hw4
  have hbg : Below w1.heap.size w1 w4 := by obtain ⟨x,rfl⟩ := hw4; exact x.below
  go_wp2_with fail
  go_ret
  exact ⟨by first | rfl | simp,HB1.out.trans (hbg.mono HB1.out.size)⟩
 omega
end
end Go.Proofs.YtkdfbliiblojoaaGreatDoor
