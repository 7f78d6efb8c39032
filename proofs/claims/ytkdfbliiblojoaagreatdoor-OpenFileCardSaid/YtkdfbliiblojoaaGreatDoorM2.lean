import Derived.Test.YtkdfbliiblojoaaGreatDoorM1
import Derived.Test.YtkdfbliiblojoaaGreatDoorK46
import Derived.Deep.Slices
import Derived.Deep.Fields
import Derived.Lib.SmallJoins
import Derived.SizedLaws
import Derived.Test.YtkdfbliiblojoaaGreatDoorK49
import Derived.Test.YtkdfbliiblojoaaGreatDoorK6
import Derived.Test.YtkdfbliiblojoaaGreatDoorK1
set_option linter.all false
set_option maxRecDepth 100000
set_option maxHeartbeats 64000000
namespace Go.Proofs.YtkdfbliiblojoaaGreatDoor
open Go Go.RowKit
def WrRel (w : World) (u : Nat) (f : List Int) (p : List UInt8) (n : Nat) (X : List ByteArray) (wv iv : Value) (wr : World) : Prop :=
 ∃ (i : Nat) (A : KAd) (K : Krn) (want : List UInt8),i ≤ X.length ∧ iv = .int .i64 i ∧ wv = .string ⟨want.toArray⟩ ∧ Hid (Writing K f 0 p n want ∧ Four K f) ∧ Hid (wr.heap[u]? = some (.cells #[.slice A.ta K.tree.length A.tc,.int .i64 K.m,.int .i64 K.b,.slice A.pa K.pipes.length A.pc,.slice A.oa K.opens.length A.oc,.string ⟨K.out0.toArray⟩,.string ⟨K.out1.toArray⟩] 29 (0,0))) ∧ Hid (wr.heap[u + 1]? = some (.cells #[.int .i64 (fdA f 0),.int .i64 (fdA f 1),.int .i64 (fdA f 2),.int .i64 (fdA f 3),.int .i64 (fdA f 4),.int .i64 (fdA f 5),.int .i64 (fdA f 6),.int .i64 (fdA f 7),.int .i64 (fdA f 8),.int .i64 (fdA f 9)] 31 (0,0))) ∧ Hid (KernIn wr A K) ∧ Hid (Below w.heap.size w wr) ∧ Hid (u + 2 ≤ wr.heap.size)
def RdRel (w : World) (u : Nat) (f : List Int) (n : Nat) (want : List UInt8) (gv iv : Value) (wr : World) : Prop :=
 ∃ (i : Nat) (A : KAd) (K : Krn),i ≤ want.length + 2 ∧ iv = .int .i64 i ∧ gv = .string ⟨(want.take (min (7 * i) want.length)).toArray⟩ ∧ Hid (Reading K f n want (min (7 * i) want.length)) ∧ Hid (wr.heap[u]? = some (.cells #[.slice A.ta K.tree.length A.tc,.int .i64 K.m,.int .i64 K.b,.slice A.pa K.pipes.length A.pc,.slice A.oa K.opens.length A.oc,.string ⟨K.out0.toArray⟩,.string ⟨K.out1.toArray⟩] 29 (0,0))) ∧ Hid (wr.heap[u + 1]? = some (.cells #[.int .i64 (fdA f 0),.int .i64 (fdA f 1),.int .i64 (fdA f 2),.int .i64 (fdA f 3),.int .i64 (fdA f 4),.int .i64 (fdA f 5),.int .i64 (fdA f 6),.int .i64 (fdA f 7),.int .i64 (fdA f 8),.int .i64 (fdA f 9)] 31 (0,0))) ∧ Hid (KernIn wr A K) ∧ Hid (Below w.heap.size w wr) ∧ Hid (u + 2 ≤ wr.heap.size)
theorem ofile_walk (a : Option Addr) (cap : Nat) (m b : Int) (L : List Ino) (hR : Reach L) (p : ByteArray) (hp : p.size ≤ 281474976710656) (v : Value) (X : List ByteArray) (hXs : ∀ s ∈ X,s.size ≤ 281474976710656) (w : World) (hN : Aah w a cap L) (hT : TextsIn w v X) (hW : Ways w) :
  Calls Tryz.prog 6 #[.agg #[.slice a L.length cap,.int .i64 m,.int .i64 b],.string p,v] w fun e w' => e = .returned (.bool true) ∧ Below w.heap.size w w' := by
 obtain ⟨al,cl0,rfl,hl1,hl2,hlc⟩ := hT
 unfold maxLen at hl2
 have HLC := Hd hlc
 have HXS := Hd hXs
 have HY0 := Hd hW
 obtain ⟨w1,hw1⟩ : ∃ w1,w1 = w.alloc (.cells #[.slice a L.length cap,.int .i64 m,.int .i64 b] 24) := ⟨_,rfl⟩
 have hb1 : Below w.heap.size w w1 := by rw [hw1]; exact Aab w _
 have hX : w1.heap[w.heap.size]? = some (.cells #[.slice a L.length cap,.int .i64 m,.int .i64 b] 24 (0,0)) := by rw [hw1]; exact Aae w _
 have HM := Hd (hN.below hb1)
 have HB := Hd hb1
 have HX := Hd hX
 have HW := Hd hw1
 have HR := Hd hR
 have q0 := bC hX 0
 have q1 := bC hX 1
 have q2 := bC hX 2
 have ql := lt_of_block hX
 clear hN hb1 hR hX hw1 hlc hXs hW
 go_enter Tryz.func6,Tryz.ntmps6
 go_upto_region 1 with fail
 have hh := HW.out
 rw [← hh]
 clear hh HW
 go_wp2_with fail
 refine (small9 a cap m b L HR.out w1 HM.out).mono ?_
 rintro e w2 ⟨⟨v1,rfl,hv1⟩,hb⟩
 have HV1 := Hd hv1
 have HX := Hd ((hb.block _ ql).trans HX.out)
 have HM := Hd (HM.out.below hb)
 have HB := Hd (HB.out.trans (hb.mono HB.out.size))
 clear hb hv1 q0 q1 q2 ql
 have q0 := bC HX.out 0
 have q1 := bC HX.out 1
 have q2 := bC HX.out 2
 have ql := lt_of_block HX.out
 cases v1 with
 | false =>
  go_wp2_with fail
  refine (Azv _ (HY0.out.below HB.out (Nat.le_refl _))).mono ?_
  rintro e wz ⟨rfl,hbz⟩
  have HZ := Hd (HB.out.trans (hbz.mono HB.out.size))
  clear hbz
  go_wp2_with fail
  go_ret
  exact ⟨rfl,HZ.out⟩
 | true =>
  have HL3 := Hd (HV1.out rfl)
  obtain ⟨v2,hv2⟩ : ∃ v2 : Bool,v2 = true ↔ FitP L m b := by
   by_cases h : FitP L m b
   ·exact ⟨true,fun _ => h,fun _ => rfl⟩
   ·exact ⟨false,fun h2 => (by cases h2),fun h2 => absurd h2 h⟩
  have HV2 := Hd hv2
  clear hv2
  go_wp2_with fail
  refine (Aux a cap m b L HL3.out HR.out.texts v2 HV2.out w2 HM.out).mono ?_
  rintro e w3 ⟨rfl,hb⟩
  have HX := Hd ((hb.block _ ql).trans HX.out)
  have HM := Hd (HM.out.below hb)
  have HB := Hd (HB.out.trans (hb.mono HB.out.size))
  clear hb q0 q1 q2 ql
  have q0 := bC HX.out 0
  have q1 := bC HX.out 1
  have q2 := bC HX.out 2
  have ql := lt_of_block HX.out
  cases v2 with
  | false =>
   go_wp2_with fail
   refine (Azv _ (HY0.out.below HB.out (Nat.le_refl _))).mono ?_
   rintro e wz ⟨rfl,hbz⟩
   have HZ := Hd (HB.out.trans (hbz.mono HB.out.size))
   clear hbz
   go_wp2_with fail
   go_ret
   exact ⟨rfl,HZ.out⟩
  | true =>
   by_cases h1 : 3000 < p.size
   ·have d1 : decide (3000 < (p.size : Int)) = true := decide_eq_true (by omega)
    clear h1
    go_wp2_with fail
    refine (Azv _ (HY0.out.below HB.out (Nat.le_refl _))).mono ?_
    rintro e wz ⟨rfl,hbz⟩
    have HZ := Hd (HB.out.trans (hbz.mono HB.out.size))
    clear hbz
    go_wp2_with fail
    go_ret
    exact ⟨rfl,HZ.out⟩
   have d1 : decide (3000 < (p.size : Int)) = false := decide_eq_false (by omega)
   by_cases h2 : 30 < X.length
   ·have d2 : decide (30 < (X.length : Int)) = true := decide_eq_true (by omega)
    clear h1 h2
    go_wp2_with fail
    refine (Azv _ (HY0.out.below HB.out (Nat.le_refl _))).mono ?_
    rintro e wz ⟨rfl,hbz⟩
    have HZ := Hd (HB.out.trans (hbz.mono HB.out.size))
    clear hbz
    go_wp2_with fail
    go_ret
    exact ⟨rfl,HZ.out⟩
   have d2 : decide (30 < (X.length : Int)) = false := decide_eq_false (by omega)
   have HP3 := Hd (Nat.le_of_not_lt h1)
   have HX30 := Hd (Nat.le_of_not_lt h2)
   have HFT := Hd (HV2.out.1 rfl)
   obtain ⟨pl,hpl⟩ : ∃ pl,pl = p.data.toList := ⟨_,rfl⟩
   obtain ⟨⟨K0,f0⟩,hz0⟩ : ∃ Z,newK L m b [] = Z := ⟨_,rfl⟩
   have HF0 := Hd (show FitK K0 f0 by have := Aw4 HFT.out (input := []) (Nat.zero_le _); rw [hz0] at this; exact this)
   obtain ⟨⟨K1,f1,e1⟩,hz1⟩ : ∃ Z,Ah7 K0 f0 3 0 pl 1 = Z := ⟨_,rfl⟩
   have HO1 := Hd (show e1 = 0 → ∃ n : Nat,Writing K1 f1 0 pl n [] ∧ Four K1 f1 from fun h0 => by
    subst h0
    have hz : Ah7 (newK L m b []).1 (newK L m b []).2 3 0 pl 1 = (K1,f1,0) := by rw [hz0]; exact hz1
    obtain ⟨n,hn,-,-⟩ := file_open HFT.out hz
    exact ⟨n,hn,open_four HFT.out hz⟩)
   have HPL := Hd hpl
   have HZ1 := Hd hz1
   have HZ0 := Hd hz0
   clear hz0 hz1 hpl HV1 HV2 h1 h2
   go_wp2_with fail
   have hnw := Axh a cap m b L HFT.out ⟨#[]⟩ (by decide) w3 HM.out
   rw [show (⟨#[]⟩ : ByteArray).data.toList = [] from rfl,HZ0.out] at hnw
   refine hnw.mono ?_
   rintro e w4 ⟨⟨A4,rfl,hk3,hfr3⟩,hb3⟩
   obtain ⟨w5,hw4,hb4,hs4,hX4,hY4⟩ := Aam w4 #[.slice A4.ta K0.tree.length A4.tc,.int .i64 K0.m,.int .i64 K0.b,.slice A4.pa K0.pipes.length A4.pc,.slice A4.oa K0.opens.length A4.oc,.string ⟨K0.out0.toArray⟩,.string ⟨K0.out1.toArray⟩] #[.int .i64 (fdA f0 0),.int .i64 (fdA f0 1),.int .i64 (fdA f0 2),.int .i64 (fdA f0 3),.int .i64 (fdA f0 4),.int .i64 (fdA f0 5),.int .i64 (fdA f0 6),.int .i64 (fdA f0 7),.int .i64 (fdA f0 8),.int .i64 (fdA f0 9)] 29 31
   have HUW := Hd (show w.heap.size ≤ w4.heap.size by have := HB.out.size; have := hb3.size; omega)
   have HX := Hd hX4
   have HY := Hd hY4
   have HK := Hd (hk3.below hb4)
   have HB := Hd ((HB.out.trans (hb3.mono HB.out.size)).trans (hb4.mono HUW.out))
   have HS := Hd (show w4.heap.size + 2 ≤ w5.heap.size by omega)
   have HW := Hd hw4
   clear hw4 hb4 hs4 hX4 hY4 hk3 hfr3 hb3 hnw q0 q1 q2 ql HM d1 d2
   go_upto_region 4 with fail
   have hh := HW.out
   rw [← hh]
   clear hh HW
   have q0 := bC HX.out 0
   have q1 := bC HX.out 1
   have q2 := bC HX.out 2
   have q3 := bC HX.out 3
   have q4 := bC HX.out 4
   have q5 := bC HX.out 5
   have q6 := bC HX.out 6
   have ql := lt_of_block HX.out
   have c0 := bC HY.out 0
   have c1 := bC HY.out 1
   have c2 := bC HY.out 2
   have c3 := bC HY.out 3
   have c4 := bC HY.out 4
   have c5 := bC HY.out 5
   have c6 := bC HY.out 6
   have c7 := bC HY.out 7
   have c8 := bC HY.out 8
   have c9 := bC HY.out 9
   have cl := lt_of_block HY.out
   go_wp2_with fail
   have hc := Auf _ K0 f0 3 0 p (by have := HP3.out; omega) 1 HF0.out w5 HK.out (HY0.out.below HB.out (Nat.le_refl _))
   rw [← HPL.out,HZ1.out] at hc
   refine (hc).mono ?_
   rintro e w6_ ⟨⟨Aw6,rfl,hk,hfr⟩,hb⟩
   have hx := (hb.block (w4.heap.size) (by have := HS.out; omega)).trans HX.out
   have hy := (hb.block (w4.heap.size + 1) (by have := HS.out; omega)).trans HY.out
   have HBV := Hd (HB.out.trans (hb.mono HB.out.size))
   have HSV := Hd (show w4.heap.size + 2 ≤ w6_.heap.size by have := HS.out; have := hb.size; omega)
   obtain ⟨w6,hw,hx2,hy2,hk2,hsz,hbl⟩ := Ajt (f1) hx hy hk (fun x h => by have := hfr.1 x h; have := HS.out; omega) (fun x h => by have := hfr.2 x h; have := HS.out; omega)
   clear q0 q1 q2 q3 q4 q5 q6 ql c0 c1 c2 c3 c4 c5 c6 c7 c8 c9 cl
   have HXO := Hd hx
   have HYO := Hd hy
   have u0 := bC hx 0
   have u1 := bC hx 1
   have u2 := bC hx 2
   have u3 := bC hx 3
   have u4 := bC hx 4
   have u5 := bC hx 5
   have u6 := bC hx 6
   have v0 := bF hx 0
   have v1 := bF hx 1
   have v2 := bF hx 2
   have v3 := bF hx 3
   have v4 := bF hx 4
   have v5 := bF hx 5
   have v6 := bF hx 6
   have ul := lt_of_block hx
   have m0 := bC hy 0
   have m1 := bC hy 1
   have m2 := bC hy 2
   have m3 := bC hy 3
   have m4 := bC hy 4
   have m5 := bC hy 5
   have m6 := bC hy 6
   have m7 := bC hy 7
   have m8 := bC hy 8
   have m9 := bC hy 9
   have n0 := bF hy 0
   have n1 := bF hy 1
   have n2 := bF hy 2
   have n3 := bF hy 3
   have n4 := bF hy 4
   have n5 := bF hy 5
   have n6 := bF hy 6
   have n7 := bF hy 7
   have n8 := bF hy 8
   have n9 := bF hy 9
   have ml := lt_of_block hy
   have HX := Hd hx2
   have HY := Hd hy2
   have HK := Hd hk2
   have HB := Hd (hbl w w.heap.size (by have := HBV.out.size; have := HUW.out; omega) HBV.out)
   have HS := Hd (show w4.heap.size + 2 ≤ w6.heap.size by rw [hsz]; exact HSV.out)
   have HW := Hd hw
   clear hc hk hfr hb hx hy hx2 hy2 hk2 hsz hbl hw
   go_upto_region 5 with fail
   change Code.wp _ _ _ _ ((put7 w6_ (w4.heap.size) (.slice Aw6.ta K1.tree.length Aw6.tc) (.int .i64 K1.m) (.int .i64 K1.b) (.slice Aw6.pa K1.pipes.length Aw6.pc) (.slice Aw6.oa K1.opens.length Aw6.oc) (.string ⟨K1.out0.toArray⟩) (.string ⟨K1.out1.toArray⟩)).setCells (w4.heap.size + 1) 0 [.int .i64 (fdA f1 0),.int .i64 (fdA f1 1),.int .i64 (fdA f1 2),.int .i64 (fdA f1 3),.int .i64 (fdA f1 4),.int .i64 (fdA f1 5),.int .i64 (fdA f1 6),.int .i64 (fdA f1 7),.int .i64 (fdA f1 8),.int .i64 (fdA f1 9)])
   rw [← HW.out]
   clear HW HXO HYO HBV HSV u0 u1 u2 u3 u4 u5 u6 v0 v1 v2 v3 v4 v5 v6 ul m0 m1 m2 m3 m4 m5 m6 m7 m8 m9 n0 n1 n2 n3 n4 n5 n6 n7 n8 n9 ml
   have q0 := bC HX.out 0
   have q1 := bC HX.out 1
   have q2 := bC HX.out 2
   have q3 := bC HX.out 3
   have q4 := bC HX.out 4
   have q5 := bC HX.out 5
   have q6 := bC HX.out 6
   have ql := lt_of_block HX.out
   have c0 := bC HY.out 0
   have c1 := bC HY.out 1
   have c2 := bC HY.out 2
   have c3 := bC HY.out 3
   have c4 := bC HY.out 4
   have c5 := bC HY.out 5
   have c6 := bC HY.out 6
   have c7 := bC HY.out 7
   have c8 := bC HY.out 8
   have c9 := bC HY.out 9
   have cl := lt_of_block HY.out
   by_cases he1 : e1 = 0
   case neg =>
    go_wp2_with fail
    refine (Azv _ (HY0.out.below HB.out (Nat.le_refl _))).mono ?_
    rintro e wz ⟨rfl,hbz⟩
    have HZ := Hd (HB.out.trans (hbz.mono HB.out.size))
    clear hbz
    go_wp2_with fail
    go_ret
    exact ⟨rfl,HZ.out⟩
   subst he1
   obtain ⟨n,hwr,hfo⟩ := HO1.out rfl
   have HREL := Hd (show WrRel w w4.heap.size f1 pl n X (.string ⟨#[]⟩) (.int .i64 0) w6 from ⟨0,Aw6,K1,[],Nat.zero_le _,rfl,rfl,Hd ⟨hwr,hfo⟩,HX,HY,HK,HB,HS⟩)
   clear hwr hfo HO1 q0 q1 q2 q3 q4 q5 q6 ql c0 c1 c2 c3 c4 c5 c6 c7 c8 c9 cl HX HY HK HB HS HZ1 HZ0 HF0
   have HLX := Hd hl1
   go_upto_region 9 with fail
   go_loopw [10,57] (fun wv iv wr => WrRel w w4.heap.size f1 pl n X wv iv wr) (fun _ iv _ => X.length - (intOf iv).toNat)
   case atStart => exact HREL.out
   case round =>
    obtain ⟨i,A,K,want,hi,rfl,rfl,HWF,HX,HY,HK,HB,HS⟩ := hrel
    have q0 := bC HX.out 0
    have q1 := bC HX.out 1
    have q2 := bC HX.out 2
    have q3 := bC HX.out 3
    have q4 := bC HX.out 4
    have q5 := bC HX.out 5
    have q6 := bC HX.out 6
    have ql := lt_of_block HX.out
    have c0 := bC HY.out 0
    have c1 := bC HY.out 1
    have c2 := bC HY.out 2
    have c3 := bC HY.out 3
    have c4 := bC HY.out 4
    have c5 := bC HY.out 5
    have c6 := bC HY.out 6
    have c7 := bC HY.out 7
    have c8 := bC HY.out 8
    have c9 := bC HY.out 9
    have cl := lt_of_block HY.out
    by_cases hlt : i < X.length
    ·obtain ⟨bx,ox,rfl,hxc⟩ := HLC.out i hlt
     have x0 := Aaa HB.out hxc
     have xl := Aaj x0
     obtain ⟨s,hs⟩ : ∃ s,s = X[i] := ⟨_,rfl⟩
     have hss := HXS.out _ (List.getElem_mem hlt)
     rw [← hs] at x0 hss
     have b1 : (0 : Int) ≤ (i : Int) := by omega
     have b2 : (i : Int) < (X.length : Int) := by omega
     clear hs hxc
     by_cases h10 : 1000 < s.size
     ·have d1 : decide (1000 < (s.size : Int)) = true := decide_eq_true (by omega)
      clear h10
      go_wp2_with fail
      refine (Azv _ (HY0.out.below HB.out (Nat.le_refl _))).mono ?_
      rintro e wz ⟨rfl,hbz⟩
      have HZ := Hd (HB.out.trans (hbz.mono HB.out.size))
      clear hbz
      go_wp2_with fail
      go_ret
      exact ⟨rfl,HZ.out⟩
     have d1 : decide (1000 < (s.size : Int)) = false := decide_eq_false (by omega)
     have HSS := Hd (Nat.le_of_not_lt h10)
     obtain ⟨⟨K2,cn,e2⟩,hz2⟩ : ∃ Z,Ab5 K f1 3 s.data.toList = Z := ⟨_,rfl⟩
     obtain ⟨hst1,hst2⟩ := file_step HWF.out.1 s.data.toList hz2
     have HST1 := Hd hst1
     have HST2 := Hd hst2
     have HZ2 := Hd hz2
     have hc := Akb A K f1 3 s (by have := HSS.out; omega) HWF.out.1.fit _ HK.out
     rw [HZ2.out] at hc
     have HC := Hd hc
     obtain ⟨WB,hWB⟩ : ∃ D : ByteArray,D = ⟨want.toArray⟩ := ⟨_,rfl⟩
     rw [← hWB]
     have hsum : ¬ 9223372036854775807 < WB.size + s.size := by
      have e : WB.size = want.length := by rw [hWB]; simp [ByteArray.size]
      have := want_small HWF.out.1
      omega
     have HWB := Hd hWB
     clear h10 hst1 hst2 hz2 hc hWB
     go_wp2_with fail
     refine HC.out.mono ?_
     rintro e w7 ⟨⟨A2,rfl,hk,hfr⟩,hb⟩
     obtain ⟨w8,hw⟩ : ∃ z,z = w7.alloc (.cells #[.slice A2.ta K2.tree.length A2.tc,.int .i64 K2.m,.int .i64 K2.b,.slice A2.pa K2.pipes.length A2.pc,.slice A2.oa K2.opens.length A2.oc,.string ⟨K2.out0.toArray⟩,.string ⟨K2.out1.toArray⟩] 29) := ⟨_,rfl⟩
     have hb2 : Below w7.heap.size w7 w8 := by rw [hw]; exact Aab w7 _
     have HW := Hd hw
     have HV8 := Hd (show w8.heap[w7.heap.size]? = some (.cells #[.slice A2.ta K2.tree.length A2.tc,.int .i64 K2.m,.int .i64 K2.b,.slice A2.pa K2.pipes.length A2.pc,.slice A2.oa K2.opens.length A2.oc,.string ⟨K2.out0.toArray⟩,.string ⟨K2.out1.toArray⟩] 29 (0,0)) by rw [hw]; exact Aae w7 _)
     have HSZ := Hd (show w4.heap.size + 2 ≤ w7.heap.size by have := HS.out; have := hb.size; omega)
     have HFR := Hd (hfr.less HS.out)
     have hb8 := hb.trans (hb2.mono hb.size)
     have hx := (hb8.block w4.heap.size (by have := HS.out; omega)).trans HX.out
     have hy := (hb8.block (w4.heap.size + 1) (by have := HS.out; omega)).trans HY.out
     have HBN := Hd (HB.out.trans (hb8.mono HB.out.size))
     have hk8 := hk.below hb2
     have HXN := Hd hx
     have HYN := Hd hy
     have HKN := Hd hk8
     clear hk hfr hb hw hb2 hb8 hx hy hk8 q0 q1 q2 q3 q4 q5 q6 ql c0 c1 c2 c3 c4 c5 c6 c7 c8 c9 cl HC x0 xl d1 b1 b2
     go_upto_region 14 with fail
     have hh := HW.out
     rw [← hh]
     clear hh HW
     have s0 := bC HV8.out 0
     have s1 := bC HV8.out 1
     have s2 := bC HV8.out 2
     have s3 := bC HV8.out 3
     have s4 := bC HV8.out 4
     have s5 := bC HV8.out 5
     have s6 := bC HV8.out 6
     have sl := lt_of_block HV8.out
     by_cases he2 : e2 = 0
     case neg =>
      have HB := HBN
      rcases HST2.out he2 with rfl | rfl
      ·go_wp2_with fail
       refine (Azv _ (HY0.out.below HB.out (Nat.le_refl _))).mono ?_
       rintro e wz ⟨rfl,hbz⟩
       have HZ := Hd (HB.out.trans (hbz.mono HB.out.size))
       clear hbz
       go_wp2_with fail
       go_ret
       exact ⟨rfl,HZ.out⟩
      ·go_wp2_with fail
       refine (Azv _ (HY0.out.below HB.out (Nat.le_refl _))).mono ?_
       rintro e wz ⟨rfl,hbz⟩
       have HZ := Hd (HB.out.trans (hbz.mono HB.out.size))
       clear hbz
       go_wp2_with fail
       go_ret
       exact ⟨rfl,HZ.out⟩
     subst he2
     obtain ⟨hcs,hwn,-,-⟩ := HST1.out rfl
     subst hcs
     have HWN := Hd (And.intro hwn (HWF.out.2.of (file_opens HWF.out.1 _ HZ2.out).choose_spec))
     have hse : (s.data.toList.length : Int) = (s.size : Int) := by rw [Aas s]
     obtain ⟨w9,hw,hx2,hy2,hk2,hsz,hbl⟩ := Afn HXN.out HYN.out HKN.out (fun x h => by have := HFR.out.1 x h; omega) (fun x h => by have := HFR.out.2 x h; omega)
     have HBZ := Hd (hbl w w.heap.size HUW.out HBN.out)
     have hu1 : w7.heap.size ≠ w4.heap.size := by have := HSZ.out; omega
     have hu2 : w4.heap.size ≠ w7.heap.size := fun h => hu1 h.symm
     have u0 := bC HXN.out 0
     have u1 := bC HXN.out 1
     have u2 := bC HXN.out 2
     have u3 := bC HXN.out 3
     have u4 := bC HXN.out 4
     have u5 := bC HXN.out 5
     have u6 := bC HXN.out 6
     have v0 := bF HXN.out 0
     have v1 := bF HXN.out 1
     have v2 := bF HXN.out 2
     have v3 := bF HXN.out 3
     have v4 := bF HXN.out 4
     have v5 := bF HXN.out 5
     have v6 := bF HXN.out 6
     have ul := lt_of_block HXN.out
     have HXZ := Hd hx2
     have HYZ := Hd hy2
     have HKZ := Hd hk2
     have HSZ2 := Hd (show w4.heap.size + 2 ≤ w9.heap.size by rw [hsz]; have := lt_of_block HV8.out; have := HSZ.out; omega)
     have HW := Hd hw
     clear hwn hx2 hy2 hk2 hsz hbl hw
     rw [hse]
     go_upto_region 17 with fail
     change Code.wp _ _ _ _ (put7 w8 w4.heap.size (.slice A2.ta K2.tree.length A2.tc) (.int .i64 K2.m) (.int .i64 K2.b) (.slice A2.pa K2.pipes.length A2.pc) (.slice A2.oa K2.opens.length A2.oc) (.string ⟨K2.out0.toArray⟩) (.string ⟨K2.out1.toArray⟩))
     rw [← HW.out]
     clear HW u0 u1 u2 u3 u4 u5 u6 v0 v1 v2 v3 v4 v5 v6 ul s0 s1 s2 s3 s4 s5 s6 sl HXN HYN HKN HBN hu1 hu2
     go_wp2_with fail
     go_roundw
     case rel => exact ⟨i + 1,A2,K2,want ++ s.data.toList,by omega,by go_num,by rw [HWB.out,bytes_app2],HWN,HXZ,HYZ,HKZ,HBZ,HSZ2⟩
     case measure => simp [intOf] <;> omega
    ·have d1 : ¬ (i : Int) < (X.length : Int) := by omega
     clear hlt
     obtain ⟨K3,f3,hcl,hfit3,htree3,-,-,-⟩ := file_close HWF.out.1 HWF.out.2.len
     have HF3 := Hd hfit3
     have HT3 := Hd htree3
     have HCL := Hd hcl
     obtain ⟨WB,hWB⟩ : ∃ D : ByteArray,D = ⟨want.toArray⟩ := ⟨_,rfl⟩
     rw [← hWB]
     have hws : WB.size = want.length := by rw [hWB]; simp [ByteArray.size]
     have hwl := want_small HWF.out.1
     have HWB := Hd hWB
     have HN3 := Hd (show n < K3.tree.length by rw [htree3]; exact HWF.out.1.hn)
     clear hfit3 htree3 hcl hWB
     go_wp2_with fail
     have hc := Art A K f1 3 HWF.out.1.fit wr HK.out
     rw [HCL.out] at hc
     refine (hc).mono ?_
     rintro e w10_ ⟨⟨Aw10,rfl,hk,hfr⟩,hb⟩
     have hx := (hb.block (w4.heap.size) (by have := HS.out; omega)).trans HX.out
     have hy := (hb.block (w4.heap.size + 1) (by have := HS.out; omega)).trans HY.out
     have HBV := Hd (HB.out.trans (hb.mono HB.out.size))
     have HSV := Hd (show w4.heap.size + 2 ≤ w10_.heap.size by have := HS.out; have := hb.size; omega)
     obtain ⟨w10,hw,hx2,hy2,hk2,hsz,hbl⟩ := Ajt (f3) hx hy hk (fun x h => by have := hfr.1 x h; have := HS.out; omega) (fun x h => by have := hfr.2 x h; have := HS.out; omega)
     clear q0 q1 q2 q3 q4 q5 q6 ql c0 c1 c2 c3 c4 c5 c6 c7 c8 c9 cl
     have HXO := Hd hx
     have HYO := Hd hy
     have u0 := bC hx 0
     have u1 := bC hx 1
     have u2 := bC hx 2
     have u3 := bC hx 3
     have u4 := bC hx 4
     have u5 := bC hx 5
     have u6 := bC hx 6
     have v0 := bF hx 0
     have v1 := bF hx 1
     have v2 := bF hx 2
     have v3 := bF hx 3
     have v4 := bF hx 4
     have v5 := bF hx 5
     have v6 := bF hx 6
     have ul := lt_of_block hx
     have m0 := bC hy 0
     have m1 := bC hy 1
     have m2 := bC hy 2
     have m3 := bC hy 3
     have m4 := bC hy 4
     have m5 := bC hy 5
     have m6 := bC hy 6
     have m7 := bC hy 7
     have m8 := bC hy 8
     have m9 := bC hy 9
     have n0 := bF hy 0
     have n1 := bF hy 1
     have n2 := bF hy 2
     have n3 := bF hy 3
     have n4 := bF hy 4
     have n5 := bF hy 5
     have n6 := bF hy 6
     have n7 := bF hy 7
     have n8 := bF hy 8
     have n9 := bF hy 9
     have ml := lt_of_block hy
     have HX := Hd hx2
     have HY := Hd hy2
     have HK := Hd hk2
     have HB := Hd (hbl w w.heap.size (by have := HBV.out.size; have := HUW.out; omega) HBV.out)
     have HS := Hd (show w4.heap.size + 2 ≤ w10.heap.size by rw [hsz]; exact HSV.out)
     have HW := Hd hw
     clear hc hk hfr hb hx hy hx2 hy2 hk2 hsz hbl hw
     go_upto_region 21 with fail
     change Code.wp _ _ _ _ ((put7 w10_ (w4.heap.size) (.slice Aw10.ta K3.tree.length Aw10.tc) (.int .i64 K3.m) (.int .i64 K3.b) (.slice Aw10.pa K3.pipes.length Aw10.pc) (.slice Aw10.oa K3.opens.length Aw10.oc) (.string ⟨K3.out0.toArray⟩) (.string ⟨K3.out1.toArray⟩)).setCells (w4.heap.size + 1) 0 [.int .i64 (fdA f3 0),.int .i64 (fdA f3 1),.int .i64 (fdA f3 2),.int .i64 (fdA f3 3),.int .i64 (fdA f3 4),.int .i64 (fdA f3 5),.int .i64 (fdA f3 6),.int .i64 (fdA f3 7),.int .i64 (fdA f3 8),.int .i64 (fdA f3 9)])
     rw [← HW.out]
     clear HW HXO HYO HBV HSV u0 u1 u2 u3 u4 u5 u6 v0 v1 v2 v3 v4 v5 v6 ul m0 m1 m2 m3 m4 m5 m6 m7 m8 m9 n0 n1 n2 n3 n4 n5 n6 n7 n8 n9 ml
     have q0 := bC HX.out 0
     have q1 := bC HX.out 1
     have q2 := bC HX.out 2
     have q3 := bC HX.out 3
     have q4 := bC HX.out 4
     have q5 := bC HX.out 5
     have q6 := bC HX.out 6
     have ql := lt_of_block HX.out
     have c0 := bC HY.out 0
     have c1 := bC HY.out 1
     have c2 := bC HY.out 2
     have c3 := bC HY.out 3
     have c4 := bC HY.out 4
     have c5 := bC HY.out 5
     have c6 := bC HY.out 6
     have c7 := bC HY.out 7
     have c8 := bC HY.out 8
     have c9 := bC HY.out 9
     have cl := lt_of_block HY.out
     have HL3 := Hd (show K3.tree.length ≤ 300 ∧ K3.pipes.length ≤ 1000 ∧ K3.opens.length ≤ 1000 by
      obtain ⟨l1,l2,l3,l4,l5⟩ := HF3.out.tree.limits
      have := HF3.out.np
      have := HF3.out.no
      omega)
     go_wp2_with fail
     refine (Ayp _ K3 f3 HF3.out.len HL3.out.1 (Alv HF3.out.tree) HL3.out.2.1 HL3.out.2.2 true ⟨fun _ => HF3.out,fun _ => rfl⟩ w10 HK.out).mono ?_
     rintro e w11 ⟨rfl,hb⟩
     have HX := Hd ((hb.block _ ql).trans HX.out)
     have HY := Hd ((hb.block _ cl).trans HY.out)
     have HK := Hd (HK.out.below hb)
     have HS := Hd (Nat.le_trans HS.out hb.size)
     have HB := Hd (HB.out.trans (hb.mono HB.out.size))
     clear hb q0 q1 q2 q3 q4 q5 q6 ql c0 c1 c2 c3 c4 c5 c6 c7 c8 c9 cl
     have q0 := bC HX.out 0
     have q1 := bC HX.out 1
     have q2 := bC HX.out 2
     have q3 := bC HX.out 3
     have q4 := bC HX.out 4
     have q5 := bC HX.out 5
     have q6 := bC HX.out 6
     have ql := lt_of_block HX.out
     have c0 := bC HY.out 0
     have c1 := bC HY.out 1
     have c2 := bC HY.out 2
     have c3 := bC HY.out 3
     have c4 := bC HY.out 4
     have c5 := bC HY.out 5
     have c6 := bC HY.out 6
     have c7 := bC HY.out 7
     have c8 := bC HY.out 8
     have c9 := bC HY.out 9
     have cl := lt_of_block HY.out
     go_wp2_with fail
     refine (Ann _ _ _ _ 0 p (by have := HP3.out; omega) true K3.tree HF3.out.tree n 0 (by rw [HT3.out,← HPL.out]; exact HWF.out.1.walk) w11 HK.out.tree).mono ?_
     rintro e w12 ⟨rfl,hb⟩
     have HX := Hd ((hb.block _ ql).trans HX.out)
     have HY := Hd ((hb.block _ cl).trans HY.out)
     have HK := Hd (HK.out.below hb)
     have HS := Hd (Nat.le_trans HS.out hb.size)
     have HB := Hd (HB.out.trans (hb.mono HB.out.size))
     clear hb q0 q1 q2 q3 q4 q5 q6 ql c0 c1 c2 c3 c4 c5 c6 c7 c8 c9 cl
     have q0 := bC HX.out 0
     have q1 := bC HX.out 1
     have q2 := bC HX.out 2
     have q3 := bC HX.out 3
     have q4 := bC HX.out 4
     have q5 := bC HX.out 5
     have q6 := bC HX.out 6
     have ql := lt_of_block HX.out
     have c0 := bC HY.out 0
     have c1 := bC HY.out 1
     have c2 := bC HY.out 2
     have c3 := bC HY.out 3
     have c4 := bC HY.out 4
     have c5 := bC HY.out 5
     have c6 := bC HY.out 6
     have c7 := bC HY.out 7
     have c8 := bC HY.out 8
     have c9 := bC HY.out 9
     have cl := lt_of_block HY.out
     obtain ⟨bt,ot,hta,hx⟩ := HK.out.tree.2.2 n HN3.out
     have xd := hx.data
     have hd : (K3.tree[n]'HN3.out).data = want := by
      have h := HWF.out.1.data
      simp only [HT3.out]
      exact h
     rw [hd,← HWB.out] at xd
     rw [hta] at q0
     have b1 : (0 : Int) ≤ (n : Int) := by omega
     have b2 : (n : Int) < (K3.tree.length : Int) := by have := HN3.out; omega
     have xl := Aaj xd
     have HTA := Hd hta
     clear hx hd hta
     go_upto_region 26 with fail
     clear xd xl b1 b2 q0
     have q0 := bC HX.out 0
     obtain ⟨⟨K4,f4,e4⟩,hz4⟩ : ∃ Z,Ah7 K3 f3 4 0 pl 0 = Z := ⟨_,rfl⟩
     have HAG := Hd (file_again HWF.out.1 HWF.out.2.len HWF.out.2.fd HWF.out.2.used HCL.out hz4)
     have HZ4 := Hd hz4
     clear hz4
     go_wp2_with fail
     have hc := Auf _ K3 f3 4 0 p (by have := HP3.out; omega) 0 HF3.out w12 HK.out (HY0.out.below HB.out (Nat.le_refl _))
     rw [← HPL.out,HZ4.out] at hc
     refine (hc).mono ?_
     rintro e w13_ ⟨⟨Aw13,rfl,hk,hfr⟩,hb⟩
     have hx := (hb.block (w4.heap.size) (by have := HS.out; omega)).trans HX.out
     have hy := (hb.block (w4.heap.size + 1) (by have := HS.out; omega)).trans HY.out
     have HBV := Hd (HB.out.trans (hb.mono HB.out.size))
     have HSV := Hd (show w4.heap.size + 2 ≤ w13_.heap.size by have := HS.out; have := hb.size; omega)
     obtain ⟨w13,hw,hx2,hy2,hk2,hsz,hbl⟩ := Ajt (f4) hx hy hk (fun x h => by have := hfr.1 x h; have := HS.out; omega) (fun x h => by have := hfr.2 x h; have := HS.out; omega)
     clear q0 q1 q2 q3 q4 q5 q6 ql c0 c1 c2 c3 c4 c5 c6 c7 c8 c9 cl
     have HXO := Hd hx
     have HYO := Hd hy
     have u0 := bC hx 0
     have u1 := bC hx 1
     have u2 := bC hx 2
     have u3 := bC hx 3
     have u4 := bC hx 4
     have u5 := bC hx 5
     have u6 := bC hx 6
     have v0 := bF hx 0
     have v1 := bF hx 1
     have v2 := bF hx 2
     have v3 := bF hx 3
     have v4 := bF hx 4
     have v5 := bF hx 5
     have v6 := bF hx 6
     have ul := lt_of_block hx
     have m0 := bC hy 0
     have m1 := bC hy 1
     have m2 := bC hy 2
     have m3 := bC hy 3
     have m4 := bC hy 4
     have m5 := bC hy 5
     have m6 := bC hy 6
     have m7 := bC hy 7
     have m8 := bC hy 8
     have m9 := bC hy 9
     have n0 := bF hy 0
     have n1 := bF hy 1
     have n2 := bF hy 2
     have n3 := bF hy 3
     have n4 := bF hy 4
     have n5 := bF hy 5
     have n6 := bF hy 6
     have n7 := bF hy 7
     have n8 := bF hy 8
     have n9 := bF hy 9
     have ml := lt_of_block hy
     have HX := Hd hx2
     have HY := Hd hy2
     have HK := Hd hk2
     have HB := Hd (hbl w w.heap.size (by have := HBV.out.size; have := HUW.out; omega) HBV.out)
     have HS := Hd (show w4.heap.size + 2 ≤ w13.heap.size by rw [hsz]; exact HSV.out)
     have HW := Hd hw
     clear hc hk hfr hb hx hy hx2 hy2 hk2 hsz hbl hw
     go_upto_region 27 with fail
     change Code.wp _ _ _ _ ((put7 w13_ (w4.heap.size) (.slice Aw13.ta K4.tree.length Aw13.tc) (.int .i64 K4.m) (.int .i64 K4.b) (.slice Aw13.pa K4.pipes.length Aw13.pc) (.slice Aw13.oa K4.opens.length Aw13.oc) (.string ⟨K4.out0.toArray⟩) (.string ⟨K4.out1.toArray⟩)).setCells (w4.heap.size + 1) 0 [.int .i64 (fdA f4 0),.int .i64 (fdA f4 1),.int .i64 (fdA f4 2),.int .i64 (fdA f4 3),.int .i64 (fdA f4 4),.int .i64 (fdA f4 5),.int .i64 (fdA f4 6),.int .i64 (fdA f4 7),.int .i64 (fdA f4 8),.int .i64 (fdA f4 9)])
     rw [← HW.out]
     clear HW HXO HYO HBV HSV u0 u1 u2 u3 u4 u5 u6 v0 v1 v2 v3 v4 v5 v6 ul m0 m1 m2 m3 m4 m5 m6 m7 m8 m9 n0 n1 n2 n3 n4 n5 n6 n7 n8 n9 ml
     have q0 := bC HX.out 0
     have q1 := bC HX.out 1
     have q2 := bC HX.out 2
     have q3 := bC HX.out 3
     have q4 := bC HX.out 4
     have q5 := bC HX.out 5
     have q6 := bC HX.out 6
     have ql := lt_of_block HX.out
     have c0 := bC HY.out 0
     have c1 := bC HY.out 1
     have c2 := bC HY.out 2
     have c3 := bC HY.out 3
     have c4 := bC HY.out 4
     have c5 := bC HY.out 5
     have c6 := bC HY.out 6
     have c7 := bC HY.out 7
     have c8 := bC HY.out 8
     have c9 := bC HY.out 9
     have cl := lt_of_block HY.out
     by_cases he4 : e4 = 0
     case neg =>
      obtain rfl := HAG.out.1 he4
      clear he4
      go_wp2_with fail
      refine (Azv _ (HY0.out.below HB.out (Nat.le_refl _))).mono ?_
      rintro e wz ⟨rfl,hbz⟩
      have HZ := Hd (HB.out.trans (hbz.mono HB.out.size))
      clear hbz
      go_wp2_with fail
      go_ret
      exact ⟨rfl,HZ.out⟩
     subst he4
     have HRD := Hd (HAG.out.2 rfl)
     have hwrap : IntKind.i64.wrap ((WB.size : Int) + 2) = ((want.length + 2 : Nat) : Int) := by rw [IntKind.wrap_i64]; omega
     have HREL2 := Hd (show RdRel w w4.heap.size f4 n want (.string ⟨#[]⟩) (.int .i64 0) w13 from ⟨0,Aw13,K4,Nat.zero_le _,rfl,by simp,by simpa using HRD,HX,HY,HK,HB,HS⟩)
     clear HAG HZ4 HX HY HK HB HS q0 q1 q2 q3 q4 q5 q6 ql c0 c1 c2 c3 c4 c5 c6 c7 c8 c9 cl HL3 d1
     go_upto_region 31 with fail
     go_loopw [18,146] (fun gv iv wr => RdRel w w4.heap.size f4 n want gv iv wr) (fun _ iv _ => want.length + 2 - (intOf iv).toNat)
     case atStart => exact HREL2.out
     case round =>
      obtain ⟨i,A,K,hi,rfl,rfl,HRD,HX,HY,HK,HB,HS⟩ := hrel
      have q0 := bC HX.out 0
      have q1 := bC HX.out 1
      have q2 := bC HX.out 2
      have q3 := bC HX.out 3
      have q4 := bC HX.out 4
      have q5 := bC HX.out 5
      have q6 := bC HX.out 6
      have ql := lt_of_block HX.out
      have c0 := bC HY.out 0
      have c1 := bC HY.out 1
      have c2 := bC HY.out 2
      have c3 := bC HY.out 3
      have c4 := bC HY.out 4
      have c5 := bC HY.out 5
      have c6 := bC HY.out 6
      have c7 := bC HY.out 7
      have c8 := bC HY.out 8
      have c9 := bC HY.out 9
      have cl := lt_of_block HY.out
      by_cases hlt : i < want.length + 2
      ·have b2 : (i : Int) < ((want.length + 2 : Nat) : Int) := by omega
       obtain ⟨⟨K5,s,e5⟩,hz5⟩ : ∃ Z,Adb K f4 4 7 = Z := ⟨_,rfl⟩
       obtain ⟨rfl,hs5,hrd5⟩ := file_read HRD.out (Nat.min_le_right _ _) hz5
       obtain ⟨GB,hGB⟩ : ∃ D : ByteArray,D = ⟨(want.take (min (7 * i) want.length)).toArray⟩ := ⟨_,rfl⟩
       obtain ⟨SB,hSB⟩ : ∃ D : ByteArray,D = ⟨s.toArray⟩ := ⟨_,rfl⟩
       rw [← hGB]
       have hs7 : s.length ≤ 7 := by rw [hs5,List.length_take]; omega
       have hss : SB.size = s.length := by rw [hSB]; simp [ByteArray.size]
       have hgs : GB.size ≤ want.length := by rw [hGB]; simp [ByteArray.size,List.length_take]; omega
       have hsum : ¬ 9223372036854775807 < GB.size + SB.size := by omega
       have d7 : decide (7 < (SB.size : Int)) = false := decide_eq_false (by omega)
       have hoff : min (7 * i) want.length + s.length = min (7 * (i + 1)) want.length := by rw [hs5,List.length_take,List.length_drop]; omega
       rw [hoff] at hrd5
       have HR5 := Hd hrd5
       have HGN := Hd (show GB ++ SB = ⟨(want.take (min (7 * (i + 1)) want.length)).toArray⟩ by
        rw [hGB,hSB,bytes_app,← hoff]
        rw [show want.take (min (7 * i) want.length) ++ s = want.take (min (7 * i) want.length + s.length) by rw [hs5]; exact got_more want _])
       have hc := Ag4 A K f4 4 7 HRD.out.fit wr HK.out
       rw [hz5] at hc
       have hc2 : Calls Tryz.prog 26 #[.agg #[.slice A.ta K.tree.length A.tc,.int .i64 K.m,.int .i64 K.b,.slice A.pa K.pipes.length A.pc,.slice A.oa K.opens.length A.oc,.string ⟨K.out0.toArray⟩,.string ⟨K.out1.toArray⟩],.agg #[.int .i64 (fdA f4 0),.int .i64 (fdA f4 1),.int .i64 (fdA f4 2),.int .i64 (fdA f4 3),.int .i64 (fdA f4 4),.int .i64 (fdA f4 5),.int .i64 (fdA f4 6),.int .i64 (fdA f4 7),.int .i64 (fdA f4 8),.int .i64 (fdA f4 9)],.int .i64 4,.int .i64 7] wr (TAns K5 (.string SB) 0 wr) := by rw [hSB]; exact hc
       have HC := Hd hc2
       clear hz5 hs5 hrd5 hGB hSB hs7 hss hgs hoff hc hc2
       go_wp2_with fail
       refine (HC.out).mono ?_
       rintro e w15_ ⟨⟨Aw15,rfl,hk,hfr⟩,hb⟩
       have hx := (hb.block (w4.heap.size) (by have := HS.out; omega)).trans HX.out
       have hy := (hb.block (w4.heap.size + 1) (by have := HS.out; omega)).trans HY.out
       have HBV := Hd (HB.out.trans (hb.mono HB.out.size))
       have HSV := Hd (show w4.heap.size + 2 ≤ w15_.heap.size by have := HS.out; have := hb.size; omega)
       obtain ⟨w15,hw,hx2,hy2,hk2,hsz,hbl⟩ := Afn hx hy hk (fun x h => by have := hfr.1 x h; have := HS.out; omega) (fun x h => by have := hfr.2 x h; have := HS.out; omega)
       clear q0 q1 q2 q3 q4 q5 q6 ql c0 c1 c2 c3 c4 c5 c6 c7 c8 c9 cl
       have HXO := Hd hx
       have HYO := Hd hy
       have u0 := bC hx 0
       have u1 := bC hx 1
       have u2 := bC hx 2
       have u3 := bC hx 3
       have u4 := bC hx 4
       have u5 := bC hx 5
       have u6 := bC hx 6
       have v0 := bF hx 0
       have v1 := bF hx 1
       have v2 := bF hx 2
       have v3 := bF hx 3
       have v4 := bF hx 4
       have v5 := bF hx 5
       have v6 := bF hx 6
       have ul := lt_of_block hx
       have HX := Hd hx2
       have HY := Hd hy2
       have HK := Hd hk2
       have HB := Hd (hbl w w.heap.size (by have := HBV.out.size; have := HUW.out; omega) HBV.out)
       have HS := Hd (show w4.heap.size + 2 ≤ w15.heap.size by rw [hsz]; exact HSV.out)
       have HW := Hd hw
       clear hk hfr hb hx hy hx2 hy2 hk2 hsz hbl hw
       go_upto_region 34 with fail
       change Code.wp _ _ _ _ (put7 w15_ (w4.heap.size) (.slice Aw15.ta K5.tree.length Aw15.tc) (.int .i64 K5.m) (.int .i64 K5.b) (.slice Aw15.pa K5.pipes.length Aw15.pc) (.slice Aw15.oa K5.opens.length Aw15.oc) (.string ⟨K5.out0.toArray⟩) (.string ⟨K5.out1.toArray⟩))
       rw [← HW.out]
       clear HW HXO HYO HBV HSV u0 u1 u2 u3 u4 u5 u6 v0 v1 v2 v3 v4 v5 v6 ul
       have q0 := bC HX.out 0
       have q1 := bC HX.out 1
       have q2 := bC HX.out 2
       have q3 := bC HX.out 3
       have q4 := bC HX.out 4
       have q5 := bC HX.out 5
       have q6 := bC HX.out 6
       have ql := lt_of_block HX.out
       have c0 := bC HY.out 0
       have c1 := bC HY.out 1
       have c2 := bC HY.out 2
       have c3 := bC HY.out 3
       have c4 := bC HY.out 4
       have c5 := bC HY.out 5
       have c6 := bC HY.out 6
       have c7 := bC HY.out 7
       have c8 := bC HY.out 8
       have c9 := bC HY.out 9
       have cl := lt_of_block HY.out
       go_wp2_with fail
       go_roundw
       case rel => exact ⟨i + 1,Aw15,K5,by omega,by go_num,by rw [HGN.out],HR5,HX,HY,HK,HB,HS⟩
       case measure => simp [intOf] <;> omega
      ·have b2 : ¬ (i : Int) < ((want.length + 2 : Nat) : Int) := by omega
       have hfin : (⟨(want.take (min (7 * i) want.length)).toArray⟩ : ByteArray) = WB := by
        rw [HWB.out,show min (7 * i) want.length = want.length by omega,List.take_length]
       rw [hfin]
       clear hfin hlt
       go_wp2_with fail
       refine (Azv _ (HY0.out.below HB.out (Nat.le_refl _))).mono ?_
       rintro e wz ⟨rfl,hbz⟩
       have HZ := Hd (HB.out.trans (hbz.mono HB.out.size))
       clear hbz
       go_wp2_with fail
       go_ret
       exact ⟨rfl,HZ.out⟩
end Go.Proofs.YtkdfbliiblojoaaGreatDoor
namespace Go.Proofs.YtkdfbliiblojoaaGreatDoor
open Go.ChangeShapes Go.WideShapes Go.Deep Go.Joins
open Go Go.RowKit
section
variable {H : Type} {enc : TypeId × Value → H} {w : World} {base : Nat} {spare : Nat → Bool} {held : Bool}
theorem tree_fields : ∃ f0 f1 f2 : Field,Tryz.prog.underlying 24 = some (.struct #[f0,f1,f2]) ∧ oneCellFields Tryz.prog #[f0,f1,f2] = true ∧ f0.type = 22 ∧ f1.type = 3 ∧ f2.type = 3 ∧ f0.offset = 0 :=
 ⟨_,_,_,Tryz.underlying24,by kernel_rfl,rfl,rfl,rfl,rfl⟩
theorem open_tree {r : Go.Reach} {b0 : Nat} {v : Value} {d : DataW H} {p : List MemPlace} (hv : Value.okWide Tryz.prog w r b0 24 v) (h : DataW.Trod enc Tryz.prog w base (fun _ => true) held 24 v d p)
  (R : Nat) (hR0 : R ≤ 140737488355328) (hR : ∀ z ∈ d.weights Tryz.prog 24,z ≤ R) :
  ∃ (L : List Ino) (a : Option Addr) (cap : Nat) (m b : Int),v = .agg #[.slice a L.length cap,.int .i64 m,.int .i64 b] ∧ Aah w a cap L ∧ Proofs.YtkdfbliiblojoaaGreatDoor.Reach L := by
 obtain ⟨f0,f1,f2,hu,hone,t0,t1,t2,-⟩ := tree_fields
 obtain ⟨v0,v1,v2,y0,y1,y2,n,rfl,rfl,rfl,g0,g1,g2⟩ := open_agg3 hu hone Aq7 hv h
 rw [t0] at g0
 rw [t1] at g1
 rw [t2] at g2
 obtain ⟨m,e1,rfl,-⟩ := DataW.trod_int Tryz.underlying3 g1
 obtain ⟨b,e2,rfl,-⟩ := DataW.trod_int Tryz.underlying3 g2
 simp only [List.cons.injEq,and_true] at e1 e2
 obtain ⟨L,a,cap,rfl,hN,hl,hy⟩ := Arv g0 R (fun z hz => hR z (by
  unfold DataW.weights
  rw [hu]
  show z ∈ DataW.weightsEach Tryz.prog [f0.type,f1.type,f2.type] [y0.1,_,_]
  rw [t0]
  simp only [DataW.weightsEach,List.mem_append]
  exact Or.inl hz))
 refine ⟨L,a,cap,m,b,by rw [e1,e2],hN,⟨by omega,fun k hk => ?_,fun k hk => ?_,fun k hk => by have := (hy _ (List.getElem_mem hk)).1; omega⟩⟩
 ·have := (hy _ (List.getElem_mem hk)).2.1
  omega
 ·have h1 := (hy _ (List.getElem_mem hk)).1
  exact ⟨by omega,fun e he => by have := (hy _ (List.getElem_mem hk)).2.2 e he; omega⟩
end
end Go.Proofs.YtkdfbliiblojoaaGreatDoor
