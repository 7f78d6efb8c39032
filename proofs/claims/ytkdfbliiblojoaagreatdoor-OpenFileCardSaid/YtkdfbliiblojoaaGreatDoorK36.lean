import Derived.Deep.MidRow
import Derived.Test.YtkdfbliiblojoaaGreatDoorK35
set_option linter.all false
set_option maxRecDepth 100000
set_option maxHeartbeats 64000000
namespace Go.Proofs.YtkdfbliiblojoaaGreatDoor
open Go Go.RowKit
theorem Aaq {v : Bool} {P : Prop} (h : v = true ↔ P) (hn : ¬ P) : v = false := by
 cases v
 ·rfl
 ·exact absurd (h.1 rfl) hn
theorem Bag (A : KAd) (K : Krn) (kd at_ off fl rf : Int) (v : Bool) (hv : v = true ↔ Abb K.tree K.pipes.length ⟨kd,at_,off,fl,rf⟩) (w : World) (hA : KernIn w A K) :
  Calls Tryz.prog 46 #[.agg #[.slice A.ta K.tree.length A.tc,.int .i64 K.m,.int .i64 K.b,.slice A.pa K.pipes.length A.pc,.slice A.oa K.opens.length A.oc,.string ⟨K.out0.toArray⟩,.string ⟨K.out1.toArray⟩],.agg #[.int .i64 kd,.int .i64 at_,.int .i64 off,.int .i64 fl,.int .i64 rf]] w fun e w' => e = .returned (.bool v) ∧ Below w.heap.size w w' := by
 have HV := Hd hv
 clear hv
 obtain ⟨D0,hD0⟩ : ∃ D : ByteArray,D = ⟨K.out0.toArray⟩ := ⟨_,rfl⟩
 obtain ⟨D1,hD1⟩ : ∃ D : ByteArray,D = ⟨K.out1.toArray⟩ := ⟨_,rfl⟩
 rw [← hD0,← hD1]
 clear hD0 hD1
 have HB := Hd (show Below w.heap.size w ((w.alloc (.cells #[.slice A.ta K.tree.length A.tc,.int .i64 K.m,.int .i64 K.b,.slice A.pa K.pipes.length A.pc,.slice A.oa K.opens.length A.oc,.string D0,.string D1] 29)).alloc (.cells #[.int .i64 kd,.int .i64 at_,.int .i64 off,.int .i64 fl,.int .i64 rf] 70)) from Ai4 w _ _)
 have HA := Hd (hA.below HB.out)
 clear hA
 by_cases k0 : kd = 0
 ·obtain ⟨ve,hve⟩ : ∃ ve : Bool,ve = true ↔ kd = 0 ∧ at_ = 0 ∧ off = 0 ∧ fl = 0 ∧ rf = 0 := ⟨decide _,decide_eq_true_iff⟩
  subst k0
  have hne := fun W => Asb 0 at_ off fl rf 0 0 0 0 0 ve hve W
  have hng2 := Ai7
  have HG := Hd (show ve = true ↔ Abb K.tree K.pipes.length ⟨0,at_,off,fl,rf⟩ from by
   rw [hve]
   constructor
   ·rintro ⟨-,rfl,rfl,rfl,rfl⟩
    exact .inl rfl
   ·intro h
    have h1 := Alq h rfl
    simpa [Aap] using h1)
  obtain rfl : ve = v := by
   have h1 := HG.out
   rw [← HV.out,Bool.eq_iff_iff.symm] at h1
   exact h1
  clear hve
  go_enter Tryz.func46,Tryz.ntmps46
  go_wp2_with fail
  go_ret
  exact ⟨rfl,HB.out⟩
 have k0b : (kd == 0) = false := by simpa using k0
 by_cases c0 : rf < 1
 ·have d1 : decide (rf < 1) = true := decide_eq_true c0
  have HG := Hd (show ¬ Abb K.tree K.pipes.length ⟨kd,at_,off,fl,rf⟩ from by
   rintro (h | ⟨h1,h2,h3,h4,⟨h5,h6,n,hn,h7,h8⟩ | ⟨h5,⟨n,hn,h7⟩,h8,h9⟩ | ⟨h5,⟨n,hn,h7⟩,h8,h9⟩ | ⟨h5,h6,h7,h8⟩⟩)
   ·have := congrArg Opn.kind h
    dsimp only [Aap] at this
    omega
   all_goals (dsimp only at *; omega))
  obtain rfl : v = false := Aaq HV.out HG.out
  clear HG
  go_enter Tryz.func46,Tryz.ntmps46
  go_wp2_with fail
  go_ret
  exact ⟨rfl,HB.out⟩
 have d1 : decide (rf < 1) = false := decide_eq_false c0
 by_cases c1 : 1000 < rf
 ·have d2 : decide (1000 < rf) = true := decide_eq_true c1
  have HG := Hd (show ¬ Abb K.tree K.pipes.length ⟨kd,at_,off,fl,rf⟩ from by
   rintro (h | ⟨h1,h2,h3,h4,⟨h5,h6,n,hn,h7,h8⟩ | ⟨h5,⟨n,hn,h7⟩,h8,h9⟩ | ⟨h5,⟨n,hn,h7⟩,h8,h9⟩ | ⟨h5,h6,h7,h8⟩⟩)
   ·have := congrArg Opn.kind h
    dsimp only [Aap] at this
    omega
   all_goals (dsimp only at *; omega))
  obtain rfl : v = false := Aaq HV.out HG.out
  clear HG
  go_enter Tryz.func46,Tryz.ntmps46
  go_wp2_with fail
  go_ret
  exact ⟨rfl,HB.out⟩
 have d2 : decide (1000 < rf) = false := decide_eq_false c1
 by_cases c2 : off < 0
 ·have d3 : decide (off < 0) = true := decide_eq_true c2
  have HG := Hd (show ¬ Abb K.tree K.pipes.length ⟨kd,at_,off,fl,rf⟩ from by
   rintro (h | ⟨h1,h2,h3,h4,⟨h5,h6,n,hn,h7,h8⟩ | ⟨h5,⟨n,hn,h7⟩,h8,h9⟩ | ⟨h5,⟨n,hn,h7⟩,h8,h9⟩ | ⟨h5,h6,h7,h8⟩⟩)
   ·have := congrArg Opn.kind h
    dsimp only [Aap] at this
    omega
   all_goals (dsimp only at *; omega))
  obtain rfl : v = false := Aaq HV.out HG.out
  clear HG
  go_enter Tryz.func46,Tryz.ntmps46
  go_wp2_with fail
  go_ret
  exact ⟨rfl,HB.out⟩
 have d3 : decide (off < 0) = false := decide_eq_false c2
 by_cases c3 : 65536 < off
 ·have d4 : decide (65536 < off) = true := decide_eq_true c3
  have HG := Hd (show ¬ Abb K.tree K.pipes.length ⟨kd,at_,off,fl,rf⟩ from by
   rintro (h | ⟨h1,h2,h3,h4,⟨h5,h6,n,hn,h7,h8⟩ | ⟨h5,⟨n,hn,h7⟩,h8,h9⟩ | ⟨h5,⟨n,hn,h7⟩,h8,h9⟩ | ⟨h5,h6,h7,h8⟩⟩)
   ·have := congrArg Opn.kind h
    dsimp only [Aap] at this
    omega
   all_goals (dsimp only at *; omega))
  obtain rfl : v = false := Aaq HV.out HG.out
  clear HG
  go_enter Tryz.func46,Tryz.ntmps46
  go_wp2_with fail
  go_ret
  exact ⟨rfl,HB.out⟩
 have d4 : decide (65536 < off) = false := decide_eq_false c3
 by_cases k1 : kd = 1
 ·subst k1
  by_cases hfl : fl = 1 ∨ fl = 2 ∨ fl = 3 ∨ fl = 6 ∨ fl = 7
  rotate_left
  ·have e1 : (fl == 1) = false := by rw [beq_eq_false_iff_ne]; omega
   have e2 : (fl == 2) = false := by rw [beq_eq_false_iff_ne]; omega
   have e3 : (fl == 3) = false := by rw [beq_eq_false_iff_ne]; omega
   have e6 : (fl == 6) = false := by rw [beq_eq_false_iff_ne]; omega
   have e7 : (fl == 7) = false := by rw [beq_eq_false_iff_ne]; omega
   have HG := Hd (show ¬ Abb K.tree K.pipes.length ⟨1,at_,off,fl,rf⟩ from by
    rintro (h | ⟨h1,h2,h3,h4,⟨h5,h6,n,hn,h7,h8⟩ | ⟨h5,⟨n,hn,h7⟩,h8,h9⟩ | ⟨h5,⟨n,hn,h7⟩,h8,h9⟩ | ⟨h5,h6,h7,h8⟩⟩)
    ·have := congrArg Opn.kind h
     dsimp only [Aap] at this
     omega
    all_goals (dsimp only at *; omega))
   obtain rfl : v = false := Aaq HV.out HG.out
   clear HG
   go_enter Tryz.func46,Tryz.ntmps46
   go_wp2_with fail
   go_ret
   exact ⟨rfl,HB.out⟩
  by_cases a0 : at_ < 0
  ·have a0d : decide (0 ≤ at_) = false := decide_eq_false (by omega)
   rcases hfl with rfl | rfl | rfl | rfl | rfl
   ·have HG := Hd (show ¬ Abb K.tree K.pipes.length ⟨1,at_,off,1,rf⟩ from by
     rintro (h | ⟨h1,h2,h3,h4,⟨h5,h6,n,hn,h7,h8⟩ | ⟨h5,⟨n,hn,h7⟩,h8,h9⟩ | ⟨h5,⟨n,hn,h7⟩,h8,h9⟩ | ⟨h5,h6,h7,h8⟩⟩)
     ·have := congrArg Opn.kind h
      dsimp only [Aap] at this
      omega
     all_goals (dsimp only at *; omega))
    obtain rfl : v = false := Aaq HV.out HG.out
    clear HG
    go_enter Tryz.func46,Tryz.ntmps46
    go_wp2_with fail
    go_ret
    exact ⟨rfl,HB.out⟩
   ·have HG := Hd (show ¬ Abb K.tree K.pipes.length ⟨1,at_,off,2,rf⟩ from by
     rintro (h | ⟨h1,h2,h3,h4,⟨h5,h6,n,hn,h7,h8⟩ | ⟨h5,⟨n,hn,h7⟩,h8,h9⟩ | ⟨h5,⟨n,hn,h7⟩,h8,h9⟩ | ⟨h5,h6,h7,h8⟩⟩)
     ·have := congrArg Opn.kind h
      dsimp only [Aap] at this
      omega
     all_goals (dsimp only at *; omega))
    obtain rfl : v = false := Aaq HV.out HG.out
    clear HG
    go_enter Tryz.func46,Tryz.ntmps46
    go_wp2_with fail
    go_ret
    exact ⟨rfl,HB.out⟩
   ·have HG := Hd (show ¬ Abb K.tree K.pipes.length ⟨1,at_,off,3,rf⟩ from by
     rintro (h | ⟨h1,h2,h3,h4,⟨h5,h6,n,hn,h7,h8⟩ | ⟨h5,⟨n,hn,h7⟩,h8,h9⟩ | ⟨h5,⟨n,hn,h7⟩,h8,h9⟩ | ⟨h5,h6,h7,h8⟩⟩)
     ·have := congrArg Opn.kind h
      dsimp only [Aap] at this
      omega
     all_goals (dsimp only at *; omega))
    obtain rfl : v = false := Aaq HV.out HG.out
    clear HG
    go_enter Tryz.func46,Tryz.ntmps46
    go_wp2_with fail
    go_ret
    exact ⟨rfl,HB.out⟩
   ·have HG := Hd (show ¬ Abb K.tree K.pipes.length ⟨1,at_,off,6,rf⟩ from by
     rintro (h | ⟨h1,h2,h3,h4,⟨h5,h6,n,hn,h7,h8⟩ | ⟨h5,⟨n,hn,h7⟩,h8,h9⟩ | ⟨h5,⟨n,hn,h7⟩,h8,h9⟩ | ⟨h5,h6,h7,h8⟩⟩)
     ·have := congrArg Opn.kind h
      dsimp only [Aap] at this
      omega
     all_goals (dsimp only at *; omega))
    obtain rfl : v = false := Aaq HV.out HG.out
    clear HG
    go_enter Tryz.func46,Tryz.ntmps46
    go_wp2_with fail
    go_ret
    exact ⟨rfl,HB.out⟩
   ·have HG := Hd (show ¬ Abb K.tree K.pipes.length ⟨1,at_,off,7,rf⟩ from by
     rintro (h | ⟨h1,h2,h3,h4,⟨h5,h6,n,hn,h7,h8⟩ | ⟨h5,⟨n,hn,h7⟩,h8,h9⟩ | ⟨h5,⟨n,hn,h7⟩,h8,h9⟩ | ⟨h5,h6,h7,h8⟩⟩)
     ·have := congrArg Opn.kind h
      dsimp only [Aap] at this
      omega
     all_goals (dsimp only at *; omega))
    obtain rfl : v = false := Aaq HV.out HG.out
    clear HG
    go_enter Tryz.func46,Tryz.ntmps46
    go_wp2_with fail
    go_ret
    exact ⟨rfl,HB.out⟩
  have a0d : decide (0 ≤ at_) = true := decide_eq_true (by omega)
  by_cases a1 : at_ < (K.tree.length : Int)
  rotate_left
  ·have a1d : decide (at_ < (K.tree.length : Int)) = false := decide_eq_false a1
   rcases hfl with rfl | rfl | rfl | rfl | rfl
   ·have HG := Hd (show ¬ Abb K.tree K.pipes.length ⟨1,at_,off,1,rf⟩ from by
     rintro (h | ⟨h1,h2,h3,h4,⟨h5,h6,n,hn,h7,h8⟩ | ⟨h5,⟨n,hn,h7⟩,h8,h9⟩ | ⟨h5,⟨n,hn,h7⟩,h8,h9⟩ | ⟨h5,h6,h7,h8⟩⟩)
     ·have := congrArg Opn.kind h
      dsimp only [Aap] at this
      omega
     all_goals (dsimp only at *; omega))
    obtain rfl : v = false := Aaq HV.out HG.out
    clear HG
    go_enter Tryz.func46,Tryz.ntmps46
    go_wp2_with fail
    go_ret
    exact ⟨rfl,HB.out⟩
   ·have HG := Hd (show ¬ Abb K.tree K.pipes.length ⟨1,at_,off,2,rf⟩ from by
     rintro (h | ⟨h1,h2,h3,h4,⟨h5,h6,n,hn,h7,h8⟩ | ⟨h5,⟨n,hn,h7⟩,h8,h9⟩ | ⟨h5,⟨n,hn,h7⟩,h8,h9⟩ | ⟨h5,h6,h7,h8⟩⟩)
     ·have := congrArg Opn.kind h
      dsimp only [Aap] at this
      omega
     all_goals (dsimp only at *; omega))
    obtain rfl : v = false := Aaq HV.out HG.out
    clear HG
    go_enter Tryz.func46,Tryz.ntmps46
    go_wp2_with fail
    go_ret
    exact ⟨rfl,HB.out⟩
   ·have HG := Hd (show ¬ Abb K.tree K.pipes.length ⟨1,at_,off,3,rf⟩ from by
     rintro (h | ⟨h1,h2,h3,h4,⟨h5,h6,n,hn,h7,h8⟩ | ⟨h5,⟨n,hn,h7⟩,h8,h9⟩ | ⟨h5,⟨n,hn,h7⟩,h8,h9⟩ | ⟨h5,h6,h7,h8⟩⟩)
     ·have := congrArg Opn.kind h
      dsimp only [Aap] at this
      omega
     all_goals (dsimp only at *; omega))
    obtain rfl : v = false := Aaq HV.out HG.out
    clear HG
    go_enter Tryz.func46,Tryz.ntmps46
    go_wp2_with fail
    go_ret
    exact ⟨rfl,HB.out⟩
   ·have HG := Hd (show ¬ Abb K.tree K.pipes.length ⟨1,at_,off,6,rf⟩ from by
     rintro (h | ⟨h1,h2,h3,h4,⟨h5,h6,n,hn,h7,h8⟩ | ⟨h5,⟨n,hn,h7⟩,h8,h9⟩ | ⟨h5,⟨n,hn,h7⟩,h8,h9⟩ | ⟨h5,h6,h7,h8⟩⟩)
     ·have := congrArg Opn.kind h
      dsimp only [Aap] at this
      omega
     all_goals (dsimp only at *; omega))
    obtain rfl : v = false := Aaq HV.out HG.out
    clear HG
    go_enter Tryz.func46,Tryz.ntmps46
    go_wp2_with fail
    go_ret
    exact ⟨rfl,HB.out⟩
   ·have HG := Hd (show ¬ Abb K.tree K.pipes.length ⟨1,at_,off,7,rf⟩ from by
     rintro (h | ⟨h1,h2,h3,h4,⟨h5,h6,n,hn,h7,h8⟩ | ⟨h5,⟨n,hn,h7⟩,h8,h9⟩ | ⟨h5,⟨n,hn,h7⟩,h8,h9⟩ | ⟨h5,h6,h7,h8⟩⟩)
     ·have := congrArg Opn.kind h
      dsimp only [Aap] at this
      omega
     all_goals (dsimp only at *; omega))
    obtain rfl : v = false := Aaq HV.out HG.out
    clear HG
    go_enter Tryz.func46,Tryz.ntmps46
    go_wp2_with fail
    go_ret
    exact ⟨rfl,HB.out⟩
  have a1d : decide (at_ < (K.tree.length : Int)) = true := decide_eq_true a1
  obtain ⟨n,rfl⟩ : ∃ n : Nat,at_ = (n : Int) := ⟨at_.toNat,by omega⟩
  have hn : n < K.tree.length := by omega
  obtain ⟨bb,oo,hta,hx⟩ := HA.out.tree.2.2 n hn
  have x0 := hx.kind
  have xl := Aaj x0
  have b0 : (0 : Int) ≤ (n : Int) := by omega
  rw [hta] at x0 xl HB ⊢
  obtain ⟨kn,hkn⟩ : ∃ kn,kn = K.tree[n].kind := ⟨_,rfl⟩
  rw [← hkn] at x0
  by_cases h1 : kn = 1
  ·have h1b : (kn == 1) = true := by simpa using h1
   rcases hfl with rfl | rfl | rfl | rfl | rfl
   ·have HG := Hd (show Abb K.tree K.pipes.length ⟨1,(n : Int),off,1,rf⟩ from (.inr ⟨by show (1 : Int) ≤ rf; omega,by show rf ≤ 1000; omega,by show 0 ≤ off; omega,by show off ≤ 65536; omega,.inl ⟨rfl,by simp,n,hn,rfl,by rw [← hkn]; exact h1⟩⟩))
    obtain rfl : v = true := HV.out.2 HG.out
    clear HG
    clear hkn hx
    go_enter Tryz.func46,Tryz.ntmps46
    go_wp2_with fail
    go_ret
    exact ⟨rfl,HB.out⟩
   ·have HG := Hd (show Abb K.tree K.pipes.length ⟨1,(n : Int),off,2,rf⟩ from (.inr ⟨by show (1 : Int) ≤ rf; omega,by show rf ≤ 1000; omega,by show 0 ≤ off; omega,by show off ≤ 65536; omega,.inl ⟨rfl,by simp,n,hn,rfl,by rw [← hkn]; exact h1⟩⟩))
    obtain rfl : v = true := HV.out.2 HG.out
    clear HG
    clear hkn hx
    go_enter Tryz.func46,Tryz.ntmps46
    go_wp2_with fail
    go_ret
    exact ⟨rfl,HB.out⟩
   ·have HG := Hd (show Abb K.tree K.pipes.length ⟨1,(n : Int),off,3,rf⟩ from (.inr ⟨by show (1 : Int) ≤ rf; omega,by show rf ≤ 1000; omega,by show 0 ≤ off; omega,by show off ≤ 65536; omega,.inl ⟨rfl,by simp,n,hn,rfl,by rw [← hkn]; exact h1⟩⟩))
    obtain rfl : v = true := HV.out.2 HG.out
    clear HG
    clear hkn hx
    go_enter Tryz.func46,Tryz.ntmps46
    go_wp2_with fail
    go_ret
    exact ⟨rfl,HB.out⟩
   ·have HG := Hd (show Abb K.tree K.pipes.length ⟨1,(n : Int),off,6,rf⟩ from (.inr ⟨by show (1 : Int) ≤ rf; omega,by show rf ≤ 1000; omega,by show 0 ≤ off; omega,by show off ≤ 65536; omega,.inl ⟨rfl,by simp,n,hn,rfl,by rw [← hkn]; exact h1⟩⟩))
    obtain rfl : v = true := HV.out.2 HG.out
    clear HG
    clear hkn hx
    go_enter Tryz.func46,Tryz.ntmps46
    go_wp2_with fail
    go_ret
    exact ⟨rfl,HB.out⟩
   ·have HG := Hd (show Abb K.tree K.pipes.length ⟨1,(n : Int),off,7,rf⟩ from (.inr ⟨by show (1 : Int) ≤ rf; omega,by show rf ≤ 1000; omega,by show 0 ≤ off; omega,by show off ≤ 65536; omega,.inl ⟨rfl,by simp,n,hn,rfl,by rw [← hkn]; exact h1⟩⟩))
    obtain rfl : v = true := HV.out.2 HG.out
    clear HG
    clear hkn hx
    go_enter Tryz.func46,Tryz.ntmps46
    go_wp2_with fail
    go_ret
    exact ⟨rfl,HB.out⟩
  ·have h1b : (kn == 1) = false := by simpa using h1
   rcases hfl with rfl | rfl | rfl | rfl | rfl
   ·have HG := Hd (show ¬ Abb K.tree K.pipes.length ⟨1,(n : Int),off,1,rf⟩ from by
     rintro (h | ⟨h1',h2,h3,h4,⟨h5,h6,n',hn',h7,h8⟩ | ⟨h5,⟨n',hn',h7⟩,h8,h9⟩ | ⟨h5,⟨n',hn',h7⟩,h8,h9⟩ | ⟨h5,h6,h7,h8⟩⟩)
     ·have := congrArg Opn.kind h
      dsimp only [Aap] at this
      omega
     ·dsimp only at h7
      obtain rfl : n = n' := by omega
      exact h1 (by rw [hkn]; exact h8)
     all_goals (dsimp only at *; omega))
    obtain rfl : v = false := Aaq HV.out HG.out
    clear hkn hx HG
    go_enter Tryz.func46,Tryz.ntmps46
    go_wp2_with fail
    go_ret
    exact ⟨rfl,HB.out⟩
   ·have HG := Hd (show ¬ Abb K.tree K.pipes.length ⟨1,(n : Int),off,2,rf⟩ from by
     rintro (h | ⟨h1',h2,h3,h4,⟨h5,h6,n',hn',h7,h8⟩ | ⟨h5,⟨n',hn',h7⟩,h8,h9⟩ | ⟨h5,⟨n',hn',h7⟩,h8,h9⟩ | ⟨h5,h6,h7,h8⟩⟩)
     ·have := congrArg Opn.kind h
      dsimp only [Aap] at this
      omega
     ·dsimp only at h7
      obtain rfl : n = n' := by omega
      exact h1 (by rw [hkn]; exact h8)
     all_goals (dsimp only at *; omega))
    obtain rfl : v = false := Aaq HV.out HG.out
    clear hkn hx HG
    go_enter Tryz.func46,Tryz.ntmps46
    go_wp2_with fail
    go_ret
    exact ⟨rfl,HB.out⟩
   ·have HG := Hd (show ¬ Abb K.tree K.pipes.length ⟨1,(n : Int),off,3,rf⟩ from by
     rintro (h | ⟨h1',h2,h3,h4,⟨h5,h6,n',hn',h7,h8⟩ | ⟨h5,⟨n',hn',h7⟩,h8,h9⟩ | ⟨h5,⟨n',hn',h7⟩,h8,h9⟩ | ⟨h5,h6,h7,h8⟩⟩)
     ·have := congrArg Opn.kind h
      dsimp only [Aap] at this
      omega
     ·dsimp only at h7
      obtain rfl : n = n' := by omega
      exact h1 (by rw [hkn]; exact h8)
     all_goals (dsimp only at *; omega))
    obtain rfl : v = false := Aaq HV.out HG.out
    clear hkn hx HG
    go_enter Tryz.func46,Tryz.ntmps46
    go_wp2_with fail
    go_ret
    exact ⟨rfl,HB.out⟩
   ·have HG := Hd (show ¬ Abb K.tree K.pipes.length ⟨1,(n : Int),off,6,rf⟩ from by
     rintro (h | ⟨h1',h2,h3,h4,⟨h5,h6,n',hn',h7,h8⟩ | ⟨h5,⟨n',hn',h7⟩,h8,h9⟩ | ⟨h5,⟨n',hn',h7⟩,h8,h9⟩ | ⟨h5,h6,h7,h8⟩⟩)
     ·have := congrArg Opn.kind h
      dsimp only [Aap] at this
      omega
     ·dsimp only at h7
      obtain rfl : n = n' := by omega
      exact h1 (by rw [hkn]; exact h8)
     all_goals (dsimp only at *; omega))
    obtain rfl : v = false := Aaq HV.out HG.out
    clear hkn hx HG
    go_enter Tryz.func46,Tryz.ntmps46
    go_wp2_with fail
    go_ret
    exact ⟨rfl,HB.out⟩
   ·have HG := Hd (show ¬ Abb K.tree K.pipes.length ⟨1,(n : Int),off,7,rf⟩ from by
     rintro (h | ⟨h1',h2,h3,h4,⟨h5,h6,n',hn',h7,h8⟩ | ⟨h5,⟨n',hn',h7⟩,h8,h9⟩ | ⟨h5,⟨n',hn',h7⟩,h8,h9⟩ | ⟨h5,h6,h7,h8⟩⟩)
     ·have := congrArg Opn.kind h
      dsimp only [Aap] at this
      omega
     ·dsimp only at h7
      obtain rfl : n = n' := by omega
      exact h1 (by rw [hkn]; exact h8)
     all_goals (dsimp only at *; omega))
    obtain rfl : v = false := Aaq HV.out HG.out
    clear hkn hx HG
    go_enter Tryz.func46,Tryz.ntmps46
    go_wp2_with fail
    go_ret
    exact ⟨rfl,HB.out⟩
 have k1b : (kd == 1) = false := by simpa using k1
 by_cases k2 : kd = 2
 ·subst k2
  by_cases a0 : 0 ≤ at_
  rotate_left
  ·have a0d : decide (0 ≤ at_) = false := decide_eq_false a0
   have HG := Hd (show ¬ Abb K.tree K.pipes.length ⟨2,at_,off,fl,rf⟩ from by
    rintro (h | ⟨h1,h2,h3,h4,⟨h5,h6,n,hn,h7,h8⟩ | ⟨h5,⟨n,hn,h7⟩,h8,h9⟩ | ⟨h5,⟨n,hn,h7⟩,h8,h9⟩ | ⟨h5,h6,h7,h8⟩⟩)
    ·have := congrArg Opn.kind h
     dsimp only [Aap] at this
     omega
    all_goals (dsimp only at *; omega))
   obtain rfl : v = false := Aaq HV.out HG.out
   clear HG
   go_enter Tryz.func46,Tryz.ntmps46
   go_wp2_with fail
   go_ret
   exact ⟨rfl,HB.out⟩
  have a0d : decide (0 ≤ at_) = true := decide_eq_true a0
  by_cases a1 : at_ < (K.pipes.length : Int)
  rotate_left
  ·have a1d : decide (at_ < (K.pipes.length : Int)) = false := decide_eq_false a1
   have HG := Hd (show ¬ Abb K.tree K.pipes.length ⟨2,at_,off,fl,rf⟩ from by
    rintro (h | ⟨h1,h2,h3,h4,⟨h5,h6,n,hn,h7,h8⟩ | ⟨h5,⟨n,hn,h7⟩,h8,h9⟩ | ⟨h5,⟨n,hn,h7⟩,h8,h9⟩ | ⟨h5,h6,h7,h8⟩⟩)
    ·have := congrArg Opn.kind h
     dsimp only [Aap] at this
     omega
    all_goals (dsimp only at *; omega))
   obtain rfl : v = false := Aaq HV.out HG.out
   clear HG
   go_enter Tryz.func46,Tryz.ntmps46
   go_wp2_with fail
   go_ret
   exact ⟨rfl,HB.out⟩
  have a1d : decide (at_ < (K.pipes.length : Int)) = true := decide_eq_true a1
  by_cases a2 : off = 0
  rotate_left
  ·have a2d : (off == 0) = false := by simpa using a2
   have HG := Hd (show ¬ Abb K.tree K.pipes.length ⟨2,at_,off,fl,rf⟩ from by
    rintro (h | ⟨h1,h2,h3,h4,⟨h5,h6,n,hn,h7,h8⟩ | ⟨h5,⟨n,hn,h7⟩,h8,h9⟩ | ⟨h5,⟨n,hn,h7⟩,h8,h9⟩ | ⟨h5,h6,h7,h8⟩⟩)
    ·have := congrArg Opn.kind h
     dsimp only [Aap] at this
     omega
    all_goals (dsimp only at *; omega))
   obtain rfl : v = false := Aaq HV.out HG.out
   clear HG
   go_enter Tryz.func46,Tryz.ntmps46
   go_wp2_with fail
   go_ret
   exact ⟨rfl,HB.out⟩
  subst a2
  by_cases a3 : fl = 1
  rotate_left
  ·have a3d : (fl == 1) = false := by simpa using a3
   have HG := Hd (show ¬ Abb K.tree K.pipes.length ⟨2,at_,0,fl,rf⟩ from by
    rintro (h | ⟨h1,h2,h3,h4,⟨h5,h6,n,hn,h7,h8⟩ | ⟨h5,⟨n,hn,h7⟩,h8,h9⟩ | ⟨h5,⟨n,hn,h7⟩,h8,h9⟩ | ⟨h5,h6,h7,h8⟩⟩)
    ·have := congrArg Opn.kind h
     dsimp only [Aap] at this
     omega
    all_goals (dsimp only at *; omega))
   obtain rfl : v = false := Aaq HV.out HG.out
   clear HG
   go_enter Tryz.func46,Tryz.ntmps46
   go_wp2_with fail
   go_ret
   exact ⟨rfl,HB.out⟩
  subst a3
  have HG := Hd (show Abb K.tree K.pipes.length ⟨2,at_,0,1,rf⟩ from (.inr ⟨by show (1 : Int) ≤ rf; omega,by show rf ≤ 1000; omega,by show (0 : Int) ≤ 0; omega,by show (0 : Int) ≤ 65536; omega,.inr (.inl ⟨rfl,⟨at_.toNat,by omega,by show at_ = _; omega⟩,rfl,rfl⟩)⟩))
  obtain rfl : v = true := HV.out.2 HG.out
  clear HG
  go_enter Tryz.func46,Tryz.ntmps46
  go_wp2_with fail
  go_ret
  exact ⟨rfl,HB.out⟩
 have k2b : (kd == 2) = false := by simpa using k2
 by_cases k3 : kd = 3
 ·subst k3
  by_cases a0 : 0 ≤ at_
  rotate_left
  ·have a0d : decide (0 ≤ at_) = false := decide_eq_false a0
   have HG := Hd (show ¬ Abb K.tree K.pipes.length ⟨3,at_,off,fl,rf⟩ from by
    rintro (h | ⟨h1,h2,h3,h4,⟨h5,h6,n,hn,h7,h8⟩ | ⟨h5,⟨n,hn,h7⟩,h8,h9⟩ | ⟨h5,⟨n,hn,h7⟩,h8,h9⟩ | ⟨h5,h6,h7,h8⟩⟩)
    ·have := congrArg Opn.kind h
     dsimp only [Aap] at this
     omega
    all_goals (dsimp only at *; omega))
   obtain rfl : v = false := Aaq HV.out HG.out
   clear HG
   go_enter Tryz.func46,Tryz.ntmps46
   go_wp2_with fail
   go_ret
   exact ⟨rfl,HB.out⟩
  have a0d : decide (0 ≤ at_) = true := decide_eq_true a0
  by_cases a1 : at_ < (K.pipes.length : Int)
  rotate_left
  ·have a1d : decide (at_ < (K.pipes.length : Int)) = false := decide_eq_false a1
   have HG := Hd (show ¬ Abb K.tree K.pipes.length ⟨3,at_,off,fl,rf⟩ from by
    rintro (h | ⟨h1,h2,h3,h4,⟨h5,h6,n,hn,h7,h8⟩ | ⟨h5,⟨n,hn,h7⟩,h8,h9⟩ | ⟨h5,⟨n,hn,h7⟩,h8,h9⟩ | ⟨h5,h6,h7,h8⟩⟩)
    ·have := congrArg Opn.kind h
     dsimp only [Aap] at this
     omega
    all_goals (dsimp only at *; omega))
   obtain rfl : v = false := Aaq HV.out HG.out
   clear HG
   go_enter Tryz.func46,Tryz.ntmps46
   go_wp2_with fail
   go_ret
   exact ⟨rfl,HB.out⟩
  have a1d : decide (at_ < (K.pipes.length : Int)) = true := decide_eq_true a1
  by_cases a2 : off = 0
  rotate_left
  ·have a2d : (off == 0) = false := by simpa using a2
   have HG := Hd (show ¬ Abb K.tree K.pipes.length ⟨3,at_,off,fl,rf⟩ from by
    rintro (h | ⟨h1,h2,h3,h4,⟨h5,h6,n,hn,h7,h8⟩ | ⟨h5,⟨n,hn,h7⟩,h8,h9⟩ | ⟨h5,⟨n,hn,h7⟩,h8,h9⟩ | ⟨h5,h6,h7,h8⟩⟩)
    ·have := congrArg Opn.kind h
     dsimp only [Aap] at this
     omega
    all_goals (dsimp only at *; omega))
   obtain rfl : v = false := Aaq HV.out HG.out
   clear HG
   go_enter Tryz.func46,Tryz.ntmps46
   go_wp2_with fail
   go_ret
   exact ⟨rfl,HB.out⟩
  subst a2
  by_cases a3 : fl = 2
  rotate_left
  ·have a3d : (fl == 2) = false := by simpa using a3
   have HG := Hd (show ¬ Abb K.tree K.pipes.length ⟨3,at_,0,fl,rf⟩ from by
    rintro (h | ⟨h1,h2,h3,h4,⟨h5,h6,n,hn,h7,h8⟩ | ⟨h5,⟨n,hn,h7⟩,h8,h9⟩ | ⟨h5,⟨n,hn,h7⟩,h8,h9⟩ | ⟨h5,h6,h7,h8⟩⟩)
    ·have := congrArg Opn.kind h
     dsimp only [Aap] at this
     omega
    all_goals (dsimp only at *; omega))
   obtain rfl : v = false := Aaq HV.out HG.out
   clear HG
   go_enter Tryz.func46,Tryz.ntmps46
   go_wp2_with fail
   go_ret
   exact ⟨rfl,HB.out⟩
  subst a3
  have HG := Hd (show Abb K.tree K.pipes.length ⟨3,at_,0,2,rf⟩ from (.inr ⟨by show (1 : Int) ≤ rf; omega,by show rf ≤ 1000; omega,by show (0 : Int) ≤ 0; omega,by show (0 : Int) ≤ 65536; omega,.inr (.inr (.inl ⟨rfl,⟨at_.toNat,by omega,by show at_ = _; omega⟩,rfl,rfl⟩))⟩))
  obtain rfl : v = true := HV.out.2 HG.out
  clear HG
  go_enter Tryz.func46,Tryz.ntmps46
  go_wp2_with fail
  go_ret
  exact ⟨rfl,HB.out⟩
 have k3b : (kd == 3) = false := by simpa using k3
 by_cases k4 : kd = 4
 ·subst k4
  by_cases a0 : at_ = 0 ∨ at_ = 1
  rotate_left
  ·have a0d : (at_ == 0) = false := by rw [beq_eq_false_iff_ne]; omega
   have a1d : (at_ == 1) = false := by rw [beq_eq_false_iff_ne]; omega
   have HG := Hd (show ¬ Abb K.tree K.pipes.length ⟨4,at_,off,fl,rf⟩ from by
    rintro (h | ⟨h1,h2,h3,h4,⟨h5,h6,n,hn,h7,h8⟩ | ⟨h5,⟨n,hn,h7⟩,h8,h9⟩ | ⟨h5,⟨n,hn,h7⟩,h8,h9⟩ | ⟨h5,h6,h7,h8⟩⟩)
    ·have := congrArg Opn.kind h
     dsimp only [Aap] at this
     omega
    all_goals (dsimp only at *; omega))
   obtain rfl : v = false := Aaq HV.out HG.out
   clear HG
   go_enter Tryz.func46,Tryz.ntmps46
   go_wp2_with fail
   go_ret
   exact ⟨rfl,HB.out⟩
  by_cases a2 : off = 0
  rotate_left
  ·have a2d : (off == 0) = false := by simpa using a2
   rcases a0 with rfl | rfl
   ·have HG := Hd (show ¬ Abb K.tree K.pipes.length ⟨4,0,off,fl,rf⟩ from by
     rintro (h | ⟨h1,h2,h3,h4,⟨h5,h6,n,hn,h7,h8⟩ | ⟨h5,⟨n,hn,h7⟩,h8,h9⟩ | ⟨h5,⟨n,hn,h7⟩,h8,h9⟩ | ⟨h5,h6,h7,h8⟩⟩)
     ·have := congrArg Opn.kind h
      dsimp only [Aap] at this
      omega
     all_goals (dsimp only at *; omega))
    obtain rfl : v = false := Aaq HV.out HG.out
    clear HG
    go_enter Tryz.func46,Tryz.ntmps46
    go_wp2_with fail
    go_ret
    exact ⟨rfl,HB.out⟩
   ·have HG := Hd (show ¬ Abb K.tree K.pipes.length ⟨4,1,off,fl,rf⟩ from by
     rintro (h | ⟨h1,h2,h3,h4,⟨h5,h6,n,hn,h7,h8⟩ | ⟨h5,⟨n,hn,h7⟩,h8,h9⟩ | ⟨h5,⟨n,hn,h7⟩,h8,h9⟩ | ⟨h5,h6,h7,h8⟩⟩)
     ·have := congrArg Opn.kind h
      dsimp only [Aap] at this
      omega
     all_goals (dsimp only at *; omega))
    obtain rfl : v = false := Aaq HV.out HG.out
    clear HG
    go_enter Tryz.func46,Tryz.ntmps46
    go_wp2_with fail
    go_ret
    exact ⟨rfl,HB.out⟩
  subst a2
  by_cases a3 : fl = 2
  rotate_left
  ·have a3d : (fl == 2) = false := by simpa using a3
   rcases a0 with rfl | rfl
   ·have HG := Hd (show ¬ Abb K.tree K.pipes.length ⟨4,0,0,fl,rf⟩ from by
     rintro (h | ⟨h1,h2,h3,h4,⟨h5,h6,n,hn,h7,h8⟩ | ⟨h5,⟨n,hn,h7⟩,h8,h9⟩ | ⟨h5,⟨n,hn,h7⟩,h8,h9⟩ | ⟨h5,h6,h7,h8⟩⟩)
     ·have := congrArg Opn.kind h
      dsimp only [Aap] at this
      omega
     all_goals (dsimp only at *; omega))
    obtain rfl : v = false := Aaq HV.out HG.out
    clear HG
    go_enter Tryz.func46,Tryz.ntmps46
    go_wp2_with fail
    go_ret
    exact ⟨rfl,HB.out⟩
   ·have HG := Hd (show ¬ Abb K.tree K.pipes.length ⟨4,1,0,fl,rf⟩ from by
     rintro (h | ⟨h1,h2,h3,h4,⟨h5,h6,n,hn,h7,h8⟩ | ⟨h5,⟨n,hn,h7⟩,h8,h9⟩ | ⟨h5,⟨n,hn,h7⟩,h8,h9⟩ | ⟨h5,h6,h7,h8⟩⟩)
     ·have := congrArg Opn.kind h
      dsimp only [Aap] at this
      omega
     all_goals (dsimp only at *; omega))
    obtain rfl : v = false := Aaq HV.out HG.out
    clear HG
    go_enter Tryz.func46,Tryz.ntmps46
    go_wp2_with fail
    go_ret
    exact ⟨rfl,HB.out⟩
  subst a3
  rcases a0 with rfl | rfl
  ·have HG := Hd (show Abb K.tree K.pipes.length ⟨4,0,0,2,rf⟩ from (.inr ⟨by show (1 : Int) ≤ rf; omega,by show rf ≤ 1000; omega,by show (0 : Int) ≤ 0; omega,by show (0 : Int) ≤ 65536; omega,.inr (.inr (.inr ⟨rfl,.inl rfl,rfl,rfl⟩))⟩))
   obtain rfl : v = true := HV.out.2 HG.out
   clear HG
   go_enter Tryz.func46,Tryz.ntmps46
   go_wp2_with fail
   go_ret
   exact ⟨rfl,HB.out⟩
  ·have HG := Hd (show Abb K.tree K.pipes.length ⟨4,1,0,2,rf⟩ from (.inr ⟨by show (1 : Int) ≤ rf; omega,by show rf ≤ 1000; omega,by show (0 : Int) ≤ 0; omega,by show (0 : Int) ≤ 65536; omega,.inr (.inr (.inr ⟨rfl,.inr rfl,rfl,rfl⟩))⟩))
   obtain rfl : v = true := HV.out.2 HG.out
   clear HG
   go_enter Tryz.func46,Tryz.ntmps46
   go_wp2_with fail
   go_ret
   exact ⟨rfl,HB.out⟩
 have k4b : (kd == 4) = false := by simpa using k4
 have HG := Hd (show ¬ Abb K.tree K.pipes.length ⟨kd,at_,off,fl,rf⟩ from by
  rintro (h | ⟨h1,h2,h3,h4,⟨h5,h6,n,hn,h7,h8⟩ | ⟨h5,⟨n,hn,h7⟩,h8,h9⟩ | ⟨h5,⟨n,hn,h7⟩,h8,h9⟩ | ⟨h5,h6,h7,h8⟩⟩)
  ·have := congrArg Opn.kind h
   dsimp only [Aap] at this
   omega
  all_goals (dsimp only at *; omega))
 obtain rfl : v = false := Aaq HV.out HG.out
 clear HG
 go_enter Tryz.func46,Tryz.ntmps46
 go_wp2_with fail
 go_ret
 exact ⟨rfl,HB.out⟩
def Aui (cur : Array Value) (o : Nat) : List Value → Array Value
 | [] => cur
 | v :: r => Aui (cur.setIfInBounds o v) (o + 1) r
theorem Afp {g : Nat} {t : TypeId} : ∀ (l : List Value) (o : Nat) (W : World) (cur : Array Value),W.heap[g]? = some (.cells cur t (0,0)) → (W.setCells g o l).heap[g]? = some (.cells (Aui cur o l) t (0,0))
 | [],_,_,_,h => h
 | v :: r,o,W,cur,h => Afp r (o + 1) _ _ (Aa0 h o v)
theorem Afx {g : Nat} : ∀ (l : List Value) (o : Nat) (W : World),But g W (W.setCells g o l)
 | [],_,_ => ⟨rfl,rfl,rfl,rfl,fun _ _ => rfl⟩
 | v :: r,o,W => (But.set W g o v).trans (Afx r (o + 1) _)
theorem At4 {W : World} {k : Nat} {t : TypeId} (h : W.heap[k]? = some (.cells #[.int .i64 0,.int .i64 0,.int .i64 0,.int .i64 0,.int .i64 0,.int .i64 0,.int .i64 0,.int .i64 0,.int .i64 0,.int .i64 0] t (0,0))) (f : List Int) : (W.setCells k 0 [.int .i64 (fdA f 0),.int .i64 (fdA f 1),.int .i64 (fdA f 2),.int .i64 (fdA f 3),.int .i64 (fdA f 4),.int .i64 (fdA f 5),.int .i64 (fdA f 6),.int .i64 (fdA f 7),.int .i64 (fdA f 8),.int .i64 (fdA f 9)]).heap[k]? = some (.cells #[.int .i64 (fdA f 0),.int .i64 (fdA f 1),.int .i64 (fdA f 2),.int .i64 (fdA f 3),.int .i64 (fdA f 4),.int .i64 (fdA f 5),.int .i64 (fdA f 6),.int .i64 (fdA f 7),.int .i64 (fdA f 8),.int .i64 (fdA f 9)] t (0,0)) := by
 have e := Afp [.int .i64 (fdA f 0),.int .i64 (fdA f 1),.int .i64 (fdA f 2),.int .i64 (fdA f 3),.int .i64 (fdA f 4),.int .i64 (fdA f 5),.int .i64 (fdA f 6),.int .i64 (fdA f 7),.int .i64 (fdA f 8),.int .i64 (fdA f 9)] 0 W _ h
 have e2 : Aui #[.int .i64 0,.int .i64 0,.int .i64 0,.int .i64 0,.int .i64 0,.int .i64 0,.int .i64 0,.int .i64 0,.int .i64 0,.int .i64 0] 0 [.int .i64 (fdA f 0),.int .i64 (fdA f 1),.int .i64 (fdA f 2),.int .i64 (fdA f 3),.int .i64 (fdA f 4),.int .i64 (fdA f 5),.int .i64 (fdA f 6),.int .i64 (fdA f 7),.int .i64 (fdA f 8),.int .i64 (fdA f 9)] = #[.int .i64 (fdA f 0),.int .i64 (fdA f 1),.int .i64 (fdA f 2),.int .i64 (fdA f 3),.int .i64 (fdA f 4),.int .i64 (fdA f 5),.int .i64 (fdA f 6),.int .i64 (fdA f 7),.int .i64 (fdA f 8),.int .i64 (fdA f 9)] := by kernel_rfl
 rw [e2] at e
 exact e
theorem Aib (W : World) (k : Nat) (x0 x1 x2 x3 x4 x5 x6 : Value) : But k W (put7 W k x0 x1 x2 x3 x4 x5 x6) := ((((((But.set W k 0 x0).trans (But.set _ k _ x1)).trans (But.set _ k _ x2)).trans (But.set _ k _ x3)).trans (But.set _ k _ x4)).trans (But.set _ k _ x5)).trans (But.set _ k _ x6)
theorem Adr {W : World} {u v : Nat} (huv : u ≠ v) {A2 : KAd} {Kz : Krn} (fz : List Int) (hU : W.heap[u]? = some (.cells #[.slice none 0 0,.int .i64 0,.int .i64 0,.slice none 0 0,.slice none 0 0,.string ⟨#[]⟩,.string ⟨#[]⟩] 29 (0,0))) (hV : W.heap[v]? = some (.cells #[.int .i64 0,.int .i64 0,.int .i64 0,.int .i64 0,.int .i64 0,.int .i64 0,.int .i64 0,.int .i64 0,.int .i64 0,.int .i64 0] 31 (0,0))) (hK : KernIn W A2 Kz) (hp : ∀ x,A2.pa = some x → x.block ≠ u ∧ x.block ≠ v) (ho : ∀ x,A2.oa = some x → x.block ≠ u ∧ x.block ≠ v) :
  ∃ wv,wv = (put7 W (u) (.slice A2.ta Kz.tree.length A2.tc) (.int .i64 Kz.m) (.int .i64 Kz.b) (.slice A2.pa Kz.pipes.length A2.pc) (.slice A2.oa Kz.opens.length A2.oc) (.string ⟨Kz.out0.toArray⟩) (.string ⟨Kz.out1.toArray⟩)).setCells (v) 0 [.int .i64 (fdA fz 0),.int .i64 (fdA fz 1),.int .i64 (fdA fz 2),.int .i64 (fdA fz 3),.int .i64 (fdA fz 4),.int .i64 (fdA fz 5),.int .i64 (fdA fz 6),.int .i64 (fdA fz 7),.int .i64 (fdA fz 8),.int .i64 (fdA fz 9)] ∧
   wv.heap[u]? = some (.cells #[(.slice A2.ta Kz.tree.length A2.tc),(.int .i64 Kz.m),(.int .i64 Kz.b),(.slice A2.pa Kz.pipes.length A2.pc),(.slice A2.oa Kz.opens.length A2.oc),(.string ⟨Kz.out0.toArray⟩),(.string ⟨Kz.out1.toArray⟩)] 29 (0,0)) ∧ wv.heap[v]? = some (.cells #[.int .i64 (fdA fz 0),.int .i64 (fdA fz 1),.int .i64 (fdA fz 2),.int .i64 (fdA fz 3),.int .i64 (fdA fz 4),.int .i64 (fdA fz 5),.int .i64 (fdA fz 6),.int .i64 (fdA fz 7),.int .i64 (fdA fz 8),.int .i64 (fdA fz 9)] 31 (0,0)) ∧ KernIn wv A2 Kz ∧ (∀ k,k ≠ u → k ≠ v → wv.heap[k]? = W.heap[k]?) ∧ wv.heap.size = W.heap.size ∧ wv.os = W.os ∧ wv.tape = W.tape ∧ wv.output = W.output := by
 obtain ⟨wu,hwu⟩ : ∃ z,z = put7 W (u) (.slice A2.ta Kz.tree.length A2.tc) (.int .i64 Kz.m) (.int .i64 Kz.b) (.slice A2.pa Kz.pipes.length A2.pc) (.slice A2.oa Kz.opens.length A2.oc) (.string ⟨Kz.out0.toArray⟩) (.string ⟨Kz.out1.toArray⟩) := ⟨_,rfl⟩
 have hU6 := Afh hU (.slice A2.ta Kz.tree.length A2.tc) (.int .i64 Kz.m) (.int .i64 Kz.b) (.slice A2.pa Kz.pipes.length A2.pc) (.slice A2.oa Kz.opens.length A2.oc) (.string ⟨Kz.out0.toArray⟩) (.string ⟨Kz.out1.toArray⟩)
 rw [← hwu] at hU6
 have hV6 := (Ahn (W := W) huv.symm (.slice A2.ta Kz.tree.length A2.tc) (.int .i64 Kz.m) (.int .i64 Kz.b) (.slice A2.pa Kz.pipes.length A2.pc) (.slice A2.oa Kz.opens.length A2.oc) (.string ⟨Kz.out0.toArray⟩) (.string ⟨Kz.out1.toArray⟩)).trans hV
 rw [← hwu] at hV6 ⊢
 have hbu : But (u) W wu := by rw [hwu]; exact Aib _ _ _ _ _ _ _ _ _
 have hbv : But (v) wu (wu.setCells (v) 0 [.int .i64 (fdA fz 0),.int .i64 (fdA fz 1),.int .i64 (fdA fz 2),.int .i64 (fdA fz 3),.int .i64 (fdA fz 4),.int .i64 (fdA fz 5),.int .i64 (fdA fz 6),.int .i64 (fdA fz 7),.int .i64 (fdA fz 8),.int .i64 (fdA fz 9)]) := Afx _ _ _
 refine ⟨_,rfl,(hbv.block u huv).trans hU6,At4 hV6 fz,?_,fun k h1 h2 => (hbv.block k h2).trans (hbu.block k h1),hbv.size.trans hbu.size,hbv.os.trans hbu.os,hbv.tape.trans hbu.tape,hbv.output.trans hbu.output⟩
 have h1 : KernIn wu A2 Kz := Agb hK (Af0 hU) (fun k hk => hbu.block k hk) (fun x hx _ => (hp x hx).1) (fun x hx _ => (ho x hx).1)
 exact Agb h1 (Ahz hV6 (fun j _ hj => by
  match j,hj with
  | 0,hj => exact ⟨0,(Option.some.inj hj).symm⟩
  | 1,hj => exact ⟨0,(Option.some.inj hj).symm⟩
  | 2,hj => exact ⟨0,(Option.some.inj hj).symm⟩
  | 3,hj => exact ⟨0,(Option.some.inj hj).symm⟩
  | 4,hj => exact ⟨0,(Option.some.inj hj).symm⟩
  | 5,hj => exact ⟨0,(Option.some.inj hj).symm⟩
  | 6,hj => exact ⟨0,(Option.some.inj hj).symm⟩
  | 7,hj => exact ⟨0,(Option.some.inj hj).symm⟩
  | 8,hj => exact ⟨0,(Option.some.inj hj).symm⟩
  | 9,hj => exact ⟨0,(Option.some.inj hj).symm⟩
  | j + 10,hj => simp at hj)) (fun k hk => hbv.block k hk) (fun x hx _ => (hp x hx).2) (fun x hx _ => (ho x hx).2)
theorem Aga {W : World} {u : Nat} {A2 : KAd} {Kz : Krn} (hU : W.heap[u]? = some (.cells #[.slice none 0 0,.int .i64 0,.int .i64 0,.slice none 0 0,.slice none 0 0,.string ⟨#[]⟩,.string ⟨#[]⟩] 29 (0,0))) (hK : KernIn W A2 Kz) (hp : ∀ x,A2.pa = some x → x.block ≠ u) (ho : ∀ x,A2.oa = some x → x.block ≠ u) :
  ∃ wv,wv = put7 W u (.slice A2.ta Kz.tree.length A2.tc) (.int .i64 Kz.m) (.int .i64 Kz.b) (.slice A2.pa Kz.pipes.length A2.pc) (.slice A2.oa Kz.opens.length A2.oc) (.string ⟨Kz.out0.toArray⟩) (.string ⟨Kz.out1.toArray⟩) ∧ wv.heap[u]? = some (.cells #[.slice A2.ta Kz.tree.length A2.tc,.int .i64 Kz.m,.int .i64 Kz.b,.slice A2.pa Kz.pipes.length A2.pc,.slice A2.oa Kz.opens.length A2.oc,.string ⟨Kz.out0.toArray⟩,.string ⟨Kz.out1.toArray⟩] 29 (0,0)) ∧ KernIn wv A2 Kz ∧ (∀ k,k ≠ u → wv.heap[k]? = W.heap[k]?) ∧ wv.heap.size = W.heap.size ∧ wv.os = W.os ∧ wv.tape = W.tape ∧ wv.output = W.output := by
 have hbu : But u W (put7 W u (.slice A2.ta Kz.tree.length A2.tc) (.int .i64 Kz.m) (.int .i64 Kz.b) (.slice A2.pa Kz.pipes.length A2.pc) (.slice A2.oa Kz.opens.length A2.oc) (.string ⟨Kz.out0.toArray⟩) (.string ⟨Kz.out1.toArray⟩)) := Aib _ _ _ _ _ _ _ _ _
 exact ⟨_,rfl,Afh hU _ _ _ _ _ _ _,Agb hK (Af0 hU) (fun k hk => hbu.block k hk) (fun x hx _ => hp x hx) (fun x hx _ => ho x hx),fun k h => hbu.block k h,hbu.size,hbu.os,hbu.tape,hbu.output⟩
theorem Ags {W : World} {g k o : Nat} {u : Value} (h : k ≠ g) : (W.setCell ⟨g,o,none⟩ u).heap[k]? = W.heap[k]? := Below.heap_setCell _ _ _ _ h
theorem Ae6 {W : World} {g k : Nat} {x0 x1 x2 x3 x4 x5 x6 : Value} (h : k ≠ g) : (((((((W.setCell ⟨g,0,none⟩ x0).setCell ⟨g,1,none⟩ x1).setCell ⟨g,2,none⟩ x2).setCell ⟨g,3,none⟩ x3).setCell ⟨g,4,none⟩ x4).setCell ⟨g,5,none⟩ x5).setCell ⟨g,6,none⟩ x6).heap[k]? = W.heap[k]? := (Ags h).trans ((Ags h).trans ((Ags h).trans ((Ags h).trans ((Ags h).trans ((Ags h).trans (Ags h))))))
theorem Ap4 {W : World} {g k o : Nat} {l : List Value} (h : k ≠ g) : (W.setCells g o l).heap[k]? = W.heap[k]? := (Afx l o W).block k h
theorem Ahy {W W' : World} {b o n : Nat} (hb : W'.heap[b]? = W.heap[b]?) (h : W.there b o n) : W'.there b o n := fun j hj => by
 obtain ⟨h1,h2⟩ := h j hj
 refine ⟨?_,?_⟩
 ·rw [World.cell?_of_block (a := ⟨b,o + j,none⟩) hb]; exact h1
 ·unfold World.frozen? at h2 ⊢
  simp only at h2 ⊢
  rw [hb]
  exact h2
theorem Atq {W : World} {g : Nat} {t : TypeId} (h : W.heap[g]? = some (.cells #[.int .i64 0,.int .i64 0,.int .i64 0,.int .i64 0,.int .i64 0,.int .i64 0,.int .i64 0,.int .i64 0,.int .i64 0,.int .i64 0] t (0,0))) : W.there g 0 10 := fun j hj => by
 rw [Nat.zero_add]
 refine ⟨?_,bF h j⟩
 rw [bC h,Array.getElem?_eq_getElem (show j < 10 from hj)]
 rfl
def Akz (n : Nat) (A : KAd) : Prop := (∀ x,A.pa = some x → n ≤ x.block) ∧ (∀ x,A.oa = some x → n ≤ x.block)
theorem Akz.less {n m : Nat} {A : KAd} (h : Akz n A) (hm : m ≤ n) : Akz m A := ⟨fun x hx => Nat.le_trans hm (h.1 x hx),fun x hx => Nat.le_trans hm (h.2 x hx)⟩
theorem Ba1 (p : Pip) (w : World) : Calls Tryz.prog 47 #[.agg #[.string ⟨p.data.toArray⟩,.int .i64 p.rd,.int .i64 p.wr,.int .i64 p.cap]] w fun e w' => e = .returned (.bool (Abw p)) ∧ Below w.heap.size w w' := by
 obtain ⟨D,hD⟩ : ∃ D : ByteArray,D = ⟨p.data.toArray⟩ := ⟨_,rfl⟩
 obtain ⟨hDl,hDs⟩ := Af2 hD
 rw [← hD]
 clear hD
 have HB := Hd (Aab w (.cells #[.string D,.int .i64 p.rd,.int .i64 p.wr,.int .i64 p.cap] 87))
 have hres : Abw p = (decide (0 ≤ p.rd) && decide (p.rd ≤ 1000) && decide (0 ≤ p.wr) && decide (p.wr ≤ 1000) && decide (1 ≤ p.cap) && decide (p.cap ≤ 65536) && decide ((D.size : Int) ≤ p.cap)) := by rw [hDs]; rfl
 rw [hres]
 clear hDl hDs hres
 cases d1 : decide (0 ≤ p.rd) with
 | false =>
  go_enter Tryz.func47,Tryz.ntmps47
  go_wp2_with fail
  go_ret
  exact ⟨rfl,HB.out⟩
 | true =>
  cases d2 : decide (p.rd ≤ 1000) with
  | false =>
   go_enter Tryz.func47,Tryz.ntmps47
   go_wp2_with fail
   go_ret
   exact ⟨rfl,HB.out⟩
  | true =>
   cases d3 : decide (0 ≤ p.wr) with
   | false =>
    go_enter Tryz.func47,Tryz.ntmps47
    go_wp2_with fail
    go_ret
    exact ⟨rfl,HB.out⟩
   | true =>
    cases d4 : decide (p.wr ≤ 1000) with
    | false =>
     go_enter Tryz.func47,Tryz.ntmps47
     go_wp2_with fail
     go_ret
     exact ⟨rfl,HB.out⟩
    | true =>
     cases d5 : decide (1 ≤ p.cap) with
     | false =>
      go_enter Tryz.func47,Tryz.ntmps47
      go_wp2_with fail
      go_ret
      exact ⟨rfl,HB.out⟩
     | true =>
      cases d6 : decide (p.cap ≤ 65536) with
      | false =>
       go_enter Tryz.func47,Tryz.ntmps47
       go_wp2_with fail
       go_ret
       exact ⟨rfl,HB.out⟩
      | true =>
       cases d7 : decide ((D.size : Int) ≤ p.cap) with
       | false =>
        go_enter Tryz.func47,Tryz.ntmps47
        go_wp2_with fail
        go_ret
        exact ⟨rfl,HB.out⟩
       | true =>
        go_enter Tryz.func47,Tryz.ntmps47
        go_wp2_with fail
        go_ret
        exact ⟨rfl,HB.out⟩
section
variable {K : Krn} {f : List Int}
theorem Amz {fd n : Int} (h : isFd fd = false ∨ f.getD fd.toNat 0 = 0) : Adb K f fd n = (K,[],9) := by
 unfold Adb
 rw [if_pos h]
theorem Akv {fd : Int} {s : List UInt8} (h : isFd fd = false ∨ f.getD fd.toNat 0 = 0) : Ab5 K f fd s = (K,0,9) := by
 unfold Ab5
 rw [if_pos h]
theorem Arf {q j : Nat} {n : Int} (hfd : isFd (q : Int) = true) (e1 : f.getD q 0 = (j : Int) + 1) (hj : j < K.opens.length) : Adb K f (q : Int) n =
  if K.opens[j].flags % 2 = 0 then (K,[],9) else if n < 1 then (K,[],22) else
  if K.opens[j].kind = 1 then (if (Afj K.tree K.opens[j].at_ K.opens[j].off n).2 ≠ 0 then (K,[],(Afj K.tree K.opens[j].at_ K.opens[j].off n).2) else (Afu K j (K.opens[j].off + ((Afj K.tree K.opens[j].at_ K.opens[j].off n).1.length : Int)),(Afj K.tree K.opens[j].at_ K.opens[j].off n).1,0)) else
  if (Aca (K.pipes.getD K.opens[j].at_.toNat Ab9) n).2.2 ≠ 0 then (K,[],(Aca (K.pipes.getD K.opens[j].at_.toNat Ab9) n).2.2) else
  (Agn K K.opens[j].at_.toNat (Aca (K.pipes.getD K.opens[j].at_.toNat Ab9) n).1,(Aca (K.pipes.getD K.opens[j].at_.toNat Ab9) n).2.1,0) := by
 unfold Adb
 rw [Int.toNat_natCast,e1,show ((j : Int) + 1 - 1).toNat = j by omega,if_neg (by rw [not_or]; exact ⟨by rw [hfd]; decide,by omega⟩)]
 simp only
 rw [Abd _ j hj]
theorem Anc {q j : Nat} {s : List UInt8} (hfd : isFd (q : Int) = true) (e1 : f.getD q 0 = (j : Int) + 1) (hj : j < K.opens.length) : Ab5 K f (q : Int) s =
  if K.opens[j].flags / 2 % 2 = 0 then (K,0,9) else
  if K.opens[j].kind = 1 then
   (if (Aes K.tree K.b K.opens[j].at_ (if 4 ≤ K.opens[j].flags then ((Aaf K.tree K.opens[j].at_).data.length : Int) else K.opens[j].off) s).2 ≠ 0 then (K,0,(Aes K.tree K.b K.opens[j].at_ (if 4 ≤ K.opens[j].flags then ((Aaf K.tree K.opens[j].at_).data.length : Int) else K.opens[j].off) s).2) else (Afu { K with tree := (Aes K.tree K.b K.opens[j].at_ (if 4 ≤ K.opens[j].flags then ((Aaf K.tree K.opens[j].at_).data.length : Int) else K.opens[j].off) s).1 } j ((if 4 ≤ K.opens[j].flags then ((Aaf K.tree K.opens[j].at_).data.length : Int) else K.opens[j].off) + (s.length : Int)),(s.length : Int),0))
  else if K.opens[j].kind = 4 then
   (if K.opens[j].at_ = 0 then (if 65536 - (K.out0.length : Int) < (s.length : Int) then (K,0,28) else ({ K with out0 := K.out0 ++ s,out1 := K.out1 },(s.length : Int),0))
    else (if 65536 - (K.out1.length : Int) < (s.length : Int) then (K,0,28) else ({ K with out0 := K.out0,out1 := K.out1 ++ s },(s.length : Int),0)))
  else if (Abu (K.pipes.getD K.opens[j].at_.toNat Ab9) s).2.2 ≠ 0 then (K,0,(Abu (K.pipes.getD K.opens[j].at_.toNat Ab9) s).2.2) else
  (Agn K K.opens[j].at_.toNat (Abu (K.pipes.getD K.opens[j].at_.toNat Ab9) s).1,(Abu (K.pipes.getD K.opens[j].at_.toNat Ab9) s).2.1,0) := by
 unfold Ab5
 rw [Int.toNat_natCast,e1,show ((j : Int) + 1 - 1).toNat = j by omega,if_neg (by rw [not_or]; exact ⟨by rw [hfd]; decide,by omega⟩)]
 simp only
 rw [Abd _ j hj]
theorem Avf {L : List Ino} {k off n : Int} {s : List UInt8} {er : Int} (hz : Afj L k off n = (s,er)) (h : er ≠ 0) : s = [] := by
 unfold Afj at hz
 split at hz
 ·exact (Prod.mk.inj hz).1.symm
 split at hz
 ·exact (Prod.mk.inj hz).1.symm
 ·exact absurd (Prod.mk.inj hz).2.symm h
theorem Ase {L : List Ino} {m b : Int} (hF : FitP L m b) {u : Nat} (hu : u < L.length) {off n : Int} {s : List UInt8} {er : Int} (hz : Afj L (u : Int) off n = (s,er)) : s.length ≤ 65536 := by
 have hdl := Ahp L u hu
 obtain ⟨-,-,-,l4,l5⟩ := hF.limits
 unfold Afj at hz
 split at hz
 ·rw [← (Prod.mk.inj hz).1]; exact Nat.zero_le _
 split at hz
 ·rw [← (Prod.mk.inj hz).1]; exact Nat.zero_le _
 ·rw [← (Prod.mk.inj hz).1,Aad L u hu,List.length_take,List.length_drop]
  omega
theorem Atf {p : Pip} {n : Int} {q : Pip} {t : List UInt8} {er : Int} (hz : Aca p n = (q,t,er)) (h : er ≠ 0) : q = p ∧ t = [] := by
 unfold Aca at hz
 split at hz
 ·simp only [Prod.mk.injEq] at hz
  exact ⟨hz.1.symm,hz.2.1.symm⟩
 split at hz
 ·split at hz
  ·simp only [Prod.mk.injEq] at hz
   exact absurd hz.2.2.symm h
  ·simp only [Prod.mk.injEq] at hz
   exact ⟨hz.1.symm,hz.2.1.symm⟩
 ·simp only [Prod.mk.injEq] at hz
  exact absurd hz.2.2.symm h
theorem Arb {p : Pip} {s : List UInt8} {q : Pip} {k er : Int} (hz : Abu p s = (q,k,er)) (h : er ≠ 0) : q = p ∧ k = 0 := by
 unfold Abu at hz
 split at hz
 ·simp only [Prod.mk.injEq] at hz
  exact ⟨hz.1.symm,hz.2.1.symm⟩
 split at hz
 ·simp only [Prod.mk.injEq] at hz
  exact absurd hz.2.2.symm h
 split at hz
 ·simp only [Prod.mk.injEq] at hz
  exact ⟨hz.1.symm,hz.2.1.symm⟩
 ·simp only [Prod.mk.injEq] at hz
  exact absurd hz.2.2.symm h
end
end Go.Proofs.YtkdfbliiblojoaaGreatDoor
