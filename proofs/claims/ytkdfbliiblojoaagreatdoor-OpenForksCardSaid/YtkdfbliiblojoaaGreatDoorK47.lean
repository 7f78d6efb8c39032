import Derived.Test.YtkdfbliiblojoaaGreatDoorK38
import Derived.Test.YtkdfbliiblojoaaGreatDoorK45
set_option linter.all false
set_option maxRecDepth 100000
set_option maxHeartbeats 64000000
namespace Go.Proofs.YtkdfbliiblojoaaGreatDoor
open Go Go.RowKit
structure GoodK (K : Krn) (f : List Int) : Prop where
 tree : K.tree.length ≤ 300
 pipes : K.pipes.length ≤ 100
 opens : K.opens.length ≤ 200
 fit : FitK K f
 refs : ∀ o ∈ K.opens,o.refs ≤ 900
def Bau (K : Krn) (f : List Int) (e : Ending) : Prop := ∃ v : Bool,e = .returned (.bool v) ∧ (v = true → GoodK K f)
theorem Auk (A : KAd) (K : Krn) (f : List Int) (hf : f.length = 10) (hS : Alm K.tree) (hl1 : K.tree.length ≤ 4611686018427387904) (hl2 : K.pipes.length ≤ 4611686018427387904) (hl3 : K.opens.length ≤ 4611686018427387904) (w : World) (hA : KernIn w A K) :
  Calls Tryz.prog 8 #[.agg #[.slice A.ta K.tree.length A.tc,.int .i64 K.m,.int .i64 K.b,.slice A.pa K.pipes.length A.pc,.slice A.oa K.opens.length A.oc,.string ⟨K.out0.toArray⟩,.string ⟨K.out1.toArray⟩],.agg #[.int .i64 (fdA f 0),.int .i64 (fdA f 1),.int .i64 (fdA f 2),.int .i64 (fdA f 3),.int .i64 (fdA f 4),.int .i64 (fdA f 5),.int .i64 (fdA f 6),.int .i64 (fdA f 7),.int .i64 (fdA f 8),.int .i64 (fdA f 9)]] w fun e w' => Bau K f e ∧ Below w.heap.size w w' := by
 obtain ⟨D0,hD0⟩ : ∃ D : ByteArray,D = ⟨K.out0.toArray⟩ := ⟨_,rfl⟩
 obtain ⟨D1,hD1⟩ : ∃ D : ByteArray,D = ⟨K.out1.toArray⟩ := ⟨_,rfl⟩
 obtain ⟨vt,hvt⟩ : ∃ vt : Bool,vt = true ↔ FitK K f := by classical exact ⟨decide _,decide_eq_true_iff⟩
 have HVT := Hd hvt
 have HF := Hd (fun (h1 : K.tree.length ≤ 300) (h2 : K.pipes.length ≤ 1000) (h3 : K.opens.length ≤ 1000) W (hA : KernIn W A K) => Ayp A K f hf h1 hS h2 h3 vt hvt W hA)
 rw [← hD0,← hD1] at HF ⊢
 obtain ⟨w2,hw2,hb2,hs2,hX,hY⟩ := Aam w #[.slice A.ta K.tree.length A.tc,.int .i64 K.m,.int .i64 K.b,.slice A.pa K.pipes.length A.pc,.slice A.oa K.opens.length A.oc,.string D0,.string D1] #[.int .i64 (fdA f 0),.int .i64 (fdA f 1),.int .i64 (fdA f 2),.int .i64 (fdA f 3),.int .i64 (fdA f 4),.int .i64 (fdA f 5),.int .i64 (fdA f 6),.int .i64 (fdA f 7),.int .i64 (fdA f 8),.int .i64 (fdA f 9)] 29 31
 have HX := Hd hX
 have HY := Hd hY
 have HK2 := Hd (hA.below hb2)
 have HB2 := Hd hb2
 have HS2 := Hd hs2
 have HW2 := Hd hw2
 have HEND0 := HB2
 have q0 := bC hX 0
 have q1 := bC hX 1
 have q2 := bC hX 2
 have q3 := bC hX 3
 have q4 := bC hX 4
 have q5 := bC hX 5
 have q6 := bC hX 6
 have c0 := bC hY 0
 have c1 := bC hY 1
 have c2 := bC hY 2
 have c3 := bC hY 3
 have c4 := bC hY 4
 have c5 := bC hY 5
 have c6 := bC hY 6
 have c7 := bC hY 7
 have c8 := bC hY 8
 have c9 := bC hY 9
 clear hX hY hb2 hs2 hw2 hA hS hf hvt hD0 hD1
 go_enter Tryz.func8,Tryz.ntmps8
 go_upto_region 1 with fail
 have h0 := HW2.out
 rw [← h0]
 clear h0
 by_cases h1 : 300 < K.tree.length
 ·have d1 : decide (300 < (K.tree.length : Int)) = true := decide_eq_true (by omega)
  clear h1
  go_wp2_with fail
  go_ret
  exact ⟨⟨false,rfl,fun h => by cases h⟩,HEND0.out⟩
 have d1 : decide (300 < (K.tree.length : Int)) = false := decide_eq_false (by omega)
 by_cases h2 : 100 < K.pipes.length
 ·have d2 : decide (100 < (K.pipes.length : Int)) = true := decide_eq_true (by omega)
  clear h1 h2
  go_wp2_with fail
  go_ret
  exact ⟨⟨false,rfl,fun h => by cases h⟩,HEND0.out⟩
 have d2 : decide (100 < (K.pipes.length : Int)) = false := decide_eq_false (by omega)
 by_cases h3 : 200 < K.opens.length
 ·have d3 : decide (200 < (K.opens.length : Int)) = true := decide_eq_true (by omega)
  clear h1 h2 h3
  go_wp2_with fail
  go_ret
  exact ⟨⟨false,rfl,fun h => by cases h⟩,HEND0.out⟩
 have d3 : decide (200 < (K.opens.length : Int)) = false := decide_eq_false (by omega)
 have HL := Hd (And.intro h1 (And.intro h2 h3))
 clear h1 h2 h3
 go_wp2_with fail
 refine (HF.out (by have := HL.out.1; omega) (by have := HL.out.2.1; omega) (by have := HL.out.2.2; omega) _ HK2.out).mono ?_
 rintro e w3 ⟨rfl,hb3⟩
 have HB3 := Hd (HB2.out.trans (hb3.mono HB2.out.size))
 have HX3 := Hd ((hb3.block w.heap.size (by have := HS2.out; omega)).trans HX.out)
 have HK3 := Hd (HK2.out.below hb3)
 have HEND0 := HB3
 clear hb3 q0 q1 q2 q3 q4 q5 q6 c0 c1 c2 c3 c4 c5 c6 c7 c8 c9 d1 d2 d3
 have q0 := bC HX3.out 0
 have q1 := bC HX3.out 1
 have q2 := bC HX3.out 2
 have q3 := bC HX3.out 3
 have q4 := bC HX3.out 4
 have q5 := bC HX3.out 5
 have q6 := bC HX3.out 6
 cases vt with
 | false =>
  go_wp2_with fail
  go_ret
  exact ⟨⟨false,rfl,fun h => by cases h⟩,HEND0.out⟩
 | true =>
  go_wp2_with fail
  go_loopw [33] (fun iv wr => ∃ i : Nat,i ≤ K.opens.length ∧ iv = .int .i64 i ∧ Hid (∀ q (hq : q < K.opens.length),q < i → K.opens[q].refs ≤ 900) ∧ Hid (Below w3.heap.size w3 wr)) (fun iv _ => K.opens.length - (intOf iv).toNat)
  case atStart => exact ⟨0,by omega,rfl,Hd (fun q _ h => absurd h (Nat.not_lt_zero _)),Hd (Below.refl _ _)⟩
  case round =>
   clear q0 q1 q2 q3 q4 q5 q6
   obtain ⟨i,hi,rfl,HRQ,HBR⟩ := hrel
   have HKR := Hd (HK3.out.below HBR.out)
   have HEND0 := Hd (HB3.out.trans (HBR.out.mono HB3.out.size))
   by_cases hlt : i < K.opens.length
   ·obtain ⟨bx,ox,hax,x0,x1,x2,x3,x4⟩ := HKR.out.opens.opn i hlt
    have HAX := Hd hax
    obtain ⟨o,ho⟩ : ∃ o,o = K.opens[i] := ⟨_,rfl⟩
    rw [← ho] at x0 x1 x2 x3 x4
    have HO := Hd ho
    obtain ⟨kd,at_,off,fl,rf⟩ := o
    simp only at x0 x1 x2 x3 x4
    have b1 : (0 : Int) ≤ (i : Int) := by omega
    have b2 : (i : Int) < (K.opens.length : Int) := by omega
    have hwi : IntKind.i64.wrap ((i : Int) + 1) = (i : Int) + 1 := by rw [IntKind.wrap_i64]; have := HL.out.2.2; omega
    have xl := Aaj x0
    have HB6 := Hd (Aab wr (.cells #[.int .i64 kd,.int .i64 at_,.int .i64 off,.int .i64 fl,.int .i64 rf] 70))
    clear ho
    by_cases hr : 900 < rf
    ·have d1 : decide (900 < rf) = true := decide_eq_true hr
     clear hr
     go_wp2_with fail
     go_ret
     exact ⟨⟨false,rfl,fun h => by cases h⟩,HEND0.out.trans (HB6.out.mono HEND0.out.size)⟩
    ·have d1 : decide (900 < rf) = false := decide_eq_false hr
     have HR := Hd hr
     clear hr
     go_wp2_with fail
     go_roundw
     case rel => exact ⟨i + 1,by omega,by go_num,Hd (fun q hq h => by
      by_cases e : q = i
      ·subst e
       rw [← HO.out]
       have := HR.out
       show rf ≤ 900
       omega
      ·exact HRQ.out q hq (by omega)),Hd (HBR.out.trans (HB6.out.mono HBR.out.size))⟩
     case measure => simp [intOf] <;> omega
   ·have HG := Hd (show GoodK K f from ⟨by have := HL.out.1; omega,by have := HL.out.2.1; omega,by have := HL.out.2.2; omega,HVT.out.1 (by trivial),fun o ho => by
     obtain ⟨q,hq,rfl⟩ := List.getElem_of_mem ho
     exact HRQ.out q hq (by omega)⟩)
    go_wp2_with fail
    go_ret
    exact ⟨⟨true,rfl,fun _ => HG.out⟩,HEND0.out⟩
theorem Azu {K M : Krn} : K = M ↔ (Tre.mk K.tree K.m K.b = Tre.mk M.tree M.m M.b) ∧ K.out0 = M.out0 ∧ K.out1 = M.out1 ∧ K.pipes = M.pipes ∧ K.opens = M.opens := by
 obtain ⟨a,b,c,d,e,f,g⟩ := K
 obtain ⟨a',b',c',d',e',f',g'⟩ := M
 simp only [Krn.mk.injEq,Tre.mk.injEq]
 constructor
 ·rintro ⟨h1,h2,h3,h4,h5,h6,h7⟩; exact ⟨⟨h1,h2,h3⟩,h6,h7,h4,h5⟩
 ·rintro ⟨⟨h1,h2,h3⟩,h6,h7,h4,h5⟩; exact ⟨h1,h2,h3,h4,h5,h6,h7⟩
theorem Ban {p q : Pip} : p = q ↔ p.data = q.data ∧ p.rd = q.rd ∧ p.wr = q.wr ∧ p.cap = q.cap := by
 obtain ⟨a,b,c,d⟩ := p
 obtain ⟨a',b',c',d'⟩ := q
 exact Pip.mk.injEq .. ▸ Iff.rfl
theorem Az7 {p q : Opn} : p = q ↔ p.kind = q.kind ∧ p.at_ = q.at_ ∧ p.off = q.off ∧ p.flags = q.flags ∧ p.refs = q.refs := by
 obtain ⟨a,b,c,d,e⟩ := p
 obtain ⟨a',b',c',d',e'⟩ := q
 exact Opn.mk.injEq .. ▸ Iff.rfl
theorem Al7 {T : Type} (A B : List T) (k : Nat) (h1 : k < A.length) (h2 : k < B.length) (h : A.take k = B.take k) (he : A[k] = B[k]) : A.take (k + 1) = B.take (k + 1) := by
 rw [List.take_succ_eq_append_getElem h1,List.take_succ_eq_append_getElem h2,h,he]
theorem Akt {a b : List UInt8} {D E : ByteArray} (h1 : D = ⟨a.toArray⟩) (h2 : E = ⟨b.toArray⟩) : D.data.toList = E.data.toList ↔ a = b := by
 rw [h1,h2]
theorem Baf (A B : KAd) (K M : Krn) (hKl : K.tree.length ≤ 1000) (v : Bool) (hv : v = true ↔ K = M) (w : World) (hA : KernIn w A K) (hB : KernIn w B M) :
  Calls Tryz.prog 12 #[.agg #[.slice A.ta K.tree.length A.tc,.int .i64 K.m,.int .i64 K.b,.slice A.pa K.pipes.length A.pc,.slice A.oa K.opens.length A.oc,.string ⟨K.out0.toArray⟩,.string ⟨K.out1.toArray⟩],.agg #[.slice B.ta M.tree.length B.tc,.int .i64 M.m,.int .i64 M.b,.slice B.pa M.pipes.length B.pc,.slice B.oa M.opens.length B.oc,.string ⟨M.out0.toArray⟩,.string ⟨M.out1.toArray⟩]] w fun e w' => e = .returned (.bool v) ∧ Below w.heap.size w w' := by
 obtain ⟨D0,hD0⟩ : ∃ D : ByteArray,D = ⟨K.out0.toArray⟩ := ⟨_,rfl⟩
 obtain ⟨D1,hD1⟩ : ∃ D : ByteArray,D = ⟨K.out1.toArray⟩ := ⟨_,rfl⟩
 obtain ⟨E0,hE0⟩ : ∃ D : ByteArray,D = ⟨M.out0.toArray⟩ := ⟨_,rfl⟩
 obtain ⟨E1,hE1⟩ : ∃ D : ByteArray,D = ⟨M.out1.toArray⟩ := ⟨_,rfl⟩
 rw [← hD0,← hD1,← hE0,← hE1]
 obtain ⟨w2,hw2,hb2,hs2,hX,hY⟩ := Aam w #[.slice A.ta K.tree.length A.tc,.int .i64 K.m,.int .i64 K.b,.slice A.pa K.pipes.length A.pc,.slice A.oa K.opens.length A.oc,.string D0,.string D1] #[.slice B.ta M.tree.length B.tc,.int .i64 M.m,.int .i64 M.b,.slice B.pa M.pipes.length B.pc,.slice B.oa M.opens.length B.oc,.string E0,.string E1] 29 29
 have HX := Hd (show ∀ W,Below w2.heap.size w2 W → W.heap[w.heap.size]? = some (.cells #[.slice A.ta K.tree.length A.tc,.int .i64 K.m,.int .i64 K.b,.slice A.pa K.pipes.length A.pc,.slice A.oa K.opens.length A.oc,.string D0,.string D1] 29 (0,0)) from fun W hW => (hW.block _ (by omega)).trans hX)
 have HY := Hd (show ∀ W,Below w2.heap.size w2 W → W.heap[w.heap.size + 1]? = some (.cells #[.slice B.ta M.tree.length B.tc,.int .i64 M.m,.int .i64 M.b,.slice B.pa M.pipes.length B.pc,.slice B.oa M.opens.length B.oc,.string E0,.string E1] 29 (0,0)) from fun W hW => (hW.block _ (by omega)).trans hY)
 have HA := Hd (show ∀ W,Below w2.heap.size w2 W → KernIn W A K from fun W hW => hA.below (hb2.trans (hW.mono (by omega))))
 have HB := Hd (show ∀ W,Below w2.heap.size w2 W → KernIn W B M from fun W hW => hB.below (hb2.trans (hW.mono (by omega))))
 have HEND := Hd (show ∀ W,Below w2.heap.size w2 W → Below w.heap.size w W from fun W hW => hb2.trans (hW.mono (by omega)))
 have HV := Hd (hv.trans Azu)
 have hmp := hA.pipes.1
 have hmo := hA.opens.1
 have hmp2 := hA.pipes.2.1
 have hmo2 := hA.opens.2.1
 have hmq := hB.pipes.1
 have hmr := hB.opens.1
 have hmq2 := hB.pipes.2.1
 have hmr2 := hB.opens.2.1
 unfold maxLen at hmp2 hmo2 hmq2 hmr2
 have HT0 := Hd (Akt hD0 hE0)
 have HT1 := Hd (Akt hD1 hE1)
 obtain ⟨q0,q1,q2,q3,q4,q5,q6⟩ := Aar (HX.out _ (Below.refl _ _))
 obtain ⟨r0,r1,r2,r3,r4,r5,r6⟩ := Aar (HY.out _ (Below.refl _ _))
 rw [hw2] at q0 q1 q2 q3 q4 q5 q6 r0 r1 r2 r3 r4 r5 r6
 clear hA hB hb2 hX hY hv hD0 hD1 hE0 hE1
 go_enter Tryz.func12,Tryz.ntmps12
 go_wp2_with fail
 rw [← hw2]
 clear hw2 q0 q1 q2 q3 q4 q5 q6 r0 r1 r2 r3 r4 r5 r6
 refine (Aqf A.ta B.ta A.tc B.tc K.m K.b M.m M.b K.tree M.tree hKl _ (HA.out _ (Below.refl _ _)).tree (HB.out _ (Below.refl _ _)).tree).mono ?_
 rintro e w3 ⟨⟨vt,rfl,hvt⟩,hb3⟩
 have HVT := Hd hvt
 have HB3 := Hd hb3
 obtain ⟨q0,q1,q2,q3,q4,q5,q6⟩ := Aar (HX.out _ hb3)
 obtain ⟨r0,r1,r2,r3,r4,r5,r6⟩ := Aar (HY.out _ hb3)
 clear hvt hb3
 cases vt with
 | false =>
  have hvf : v = false := by
   cases v
   ·rfl
   ·exact absurd (HVT.out.2 (HV.out.1 rfl).1) (by decide)
  subst hvf
  go_wp2_with fail
  go_ret
  exact ⟨rfl,HEND.out _ HB3.out⟩
 | true =>
  obtain ⟨vo,hvo⟩ : ∃ vo : Bool,vo = true ↔ D0.data.toList = E0.data.toList ∧ D1.data.toList = E1.data.toList := ⟨decide _,decide_eq_true_iff⟩
  have hno := fun W => Avy D0 D1 E0 E1 vo hvo W
  have hng := Arn
  have HVO := Hd hvo
  clear hvo
  cases vo with
  | false =>
   have hvf : v = false := by
    cases v
    ·rfl
    ·exact absurd (HVO.out.2 ⟨HT0.out.2 (HV.out.1 rfl).2.1,HT1.out.2 (HV.out.1 rfl).2.2.1⟩) (by decide)
   subst hvf
   go_wp2_with fail
   go_ret
   exact ⟨rfl,HEND.out _ HB3.out⟩
  | true =>
  by_cases hlp : K.pipes.length = M.pipes.length
  rotate_left
  ·have hd : ((K.pipes.length : Int) != (M.pipes.length : Int)) = true := by rw [bne_iff_ne]; omega
   have hvf : v = false := by
    cases v
    ·rfl
    ·exact absurd (congrArg List.length (HV.out.1 rfl).2.2.2.1) hlp
   subst hvf
   clear hlp
   go_wp2_with fail
   go_ret
   exact ⟨rfl,HEND.out _ HB3.out⟩
  by_cases hlo : K.opens.length = M.opens.length
  rotate_left
  ·have hd : ((K.opens.length : Int) != (M.opens.length : Int)) = true := by rw [bne_iff_ne]; omega
   have hd2 : ((K.pipes.length : Int) != (M.pipes.length : Int)) = false := by rw [bne_eq_false_iff_eq]; omega
   have hvf : v = false := by
    cases v
    ·rfl
    ·exact absurd (congrArg List.length (HV.out.1 rfl).2.2.2.2) hlo
   subst hvf
   clear hlo hlp
   go_wp2_with fail
   go_ret
   exact ⟨rfl,HEND.out _ HB3.out⟩
  have hd : ((K.opens.length : Int) != (M.opens.length : Int)) = false := by rw [bne_eq_false_iff_eq]; omega
  have hd2 : ((K.pipes.length : Int) != (M.pipes.length : Int)) = false := by rw [bne_eq_false_iff_eq]; omega
  have HLP := Hd hlp
  have HLO := Hd hlo
  clear hlo hlp
  go_wp2_with fail
  have HREF := Hd (Below.refl w2.heap.size w2)
  go_loopw [5] (fun iv wr => ∃ k : Nat,k ≤ K.pipes.length ∧ iv = .int .i64 k ∧ Hid (K.pipes.take k = M.pipes.take k) ∧ Hid (Below w2.heap.size w2 wr)) (fun iv _ => K.pipes.length - (intOf iv).toNat)
  case atStart => exact ⟨0,by omega,rfl,Hd (by simp),HB3⟩
  case round =>
   obtain ⟨k,hk,rfl,HTK,HBR⟩ := hrel
   clear q0 q1 q2 q3 q4 q5 q6 r0 r1 r2 r3 r4 r5 r6
   obtain ⟨q0,q1,q2,q3,q4,q5,q6⟩ := Aar (HX.out _ HBR.out)
   obtain ⟨r0,r1,r2,r3,r4,r5,r6⟩ := Aar (HY.out _ HBR.out)
   by_cases hlt : k < K.pipes.length
   ·have hlt2 : k < M.pipes.length := by have := HLP.out; omega
    obtain ⟨bx,ox,hax,x0,x1,x2,x3⟩ := (HA.out _ HBR.out).pipes.pip k hlt
    obtain ⟨by_,oy,hay,y0,y1,y2,y3⟩ := (HB.out _ HBR.out).pipes.pip k hlt2
    rw [hax] at q3
    rw [hay] at r3
    obtain ⟨p,hp⟩ : ∃ p,p = K.pipes[k] := ⟨_,rfl⟩
    obtain ⟨q,hq⟩ : ∃ q,q = M.pipes[k] := ⟨_,rfl⟩
    rw [← hp] at x0 x1 x2 x3
    rw [← hq] at y0 y1 y2 y3
    obtain ⟨D,hD⟩ : ∃ D : ByteArray,D = ⟨p.data.toArray⟩ := ⟨_,rfl⟩
    obtain ⟨E,hE⟩ : ∃ D : ByteArray,D = ⟨q.data.toArray⟩ := ⟨_,rfl⟩
    rw [← hD] at x0
    rw [← hE] at y0
    have b1 : (0 : Int) ≤ (k : Int) := by omega
    have b2 : (k : Int) < (K.pipes.length : Int) := by omega
    have b3 : (k : Int) < (M.pipes.length : Int) := by omega
    obtain ⟨ve,hve⟩ : ∃ ve : Bool,ve = true ↔ D.data.toList = E.data.toList ∧ p.rd = q.rd ∧ p.wr = q.wr ∧ p.cap = q.cap := ⟨decide _,decide_eq_true_iff⟩
    have hne := fun W => Aw2 D E p.rd p.wr p.cap q.rd q.wr q.cap ve hve W
    have hng2 := Asa
    have HE := Hd (show ve = true ↔ K.pipes[k] = M.pipes[k] by rw [hve,Akt hD hE,← hp,← hq,Ban])
    clear hve hp hq hD hE hax hay
    cases ve with
    | true =>
     have HN := Hd (Al7 K.pipes M.pipes k hlt hlt2 HTK.out (HE.out.1 rfl))
     go_wp2_with fail
     go_quiet (fail)
     go_wp2_with fail
     go_roundw
     case rel => exact ⟨k + 1,by omega,by go_num,HN,Hd (HBR.out.trans ⟨rfl,rfl,rfl,Nat.le_refl _,fun _ _ => rfl⟩)⟩
     case measure => simp [intOf] <;> omega
    | false =>
     have hvf : v = false := by
      cases v
      ·rfl
      ·have h := (HV.out.1 rfl).2.2.2.1
       exact absurd (HE.out.2 (by simp only [h])) (by decide)
     subst hvf
     go_wp2_with fail
     go_quiet (fail)
     go_wp2_with fail
     go_ret
     exact ⟨rfl,HEND.out _ (HBR.out.trans ⟨rfl,rfl,rfl,Nat.le_refl _,fun _ _ => rfl⟩)⟩
   ·have hke : k = K.pipes.length := by omega
    have HPE := Hd (show K.pipes = M.pipes by
     have h := HTK.out
     rw [hke,List.take_length,HLP.out,List.take_length] at h
     exact h)
    clear hke
    go_wp2_with fail
    go_loopw [6] (fun iv wr => ∃ k : Nat,k ≤ K.opens.length ∧ iv = .int .i64 k ∧ Hid (K.opens.take k = M.opens.take k) ∧ Hid (Below w2.heap.size w2 wr)) (fun iv _ => K.opens.length - (intOf iv).toNat)
    case atStart => exact ⟨0,by omega,rfl,Hd (by simp),HBR⟩
    case round =>
     obtain ⟨k2,hk2,rfl,HTK2,HBR2⟩ := hrel
     clear q0 q1 q2 q3 q4 q5 q6 r0 r1 r2 r3 r4 r5 r6
     obtain ⟨q0,q1,q2,q3,q4,q5,q6⟩ := Aar (HX.out _ HBR2.out)
     obtain ⟨r0,r1,r2,r3,r4,r5,r6⟩ := Aar (HY.out _ HBR2.out)
     by_cases hlt2 : k2 < K.opens.length
     ·have hlt3 : k2 < M.opens.length := by have := HLO.out; omega
      obtain ⟨bx,ox,hax,x0,x1,x2,x3,x4⟩ := (HA.out _ HBR2.out).opens.opn k2 hlt2
      obtain ⟨by_,oy,hay,y0,y1,y2,y3,y4⟩ := (HB.out _ HBR2.out).opens.opn k2 hlt3
      rw [hax] at q4
      rw [hay] at r4
      obtain ⟨p,hp⟩ : ∃ p,p = K.opens[k2] := ⟨_,rfl⟩
      obtain ⟨q,hq⟩ : ∃ q,q = M.opens[k2] := ⟨_,rfl⟩
      rw [← hp] at x0 x1 x2 x3 x4
      rw [← hq] at y0 y1 y2 y3 y4
      have b1 : (0 : Int) ≤ (k2 : Int) := by omega
      have b2 : (k2 : Int) < (K.opens.length : Int) := by omega
      have b3 : (k2 : Int) < (M.opens.length : Int) := by omega
      obtain ⟨ve,hve⟩ : ∃ ve : Bool,ve = true ↔ p.kind = q.kind ∧ p.at_ = q.at_ ∧ p.off = q.off ∧ p.flags = q.flags ∧ p.refs = q.refs := ⟨decide _,decide_eq_true_iff⟩
      have hne := fun W => Avw p.kind p.at_ p.off p.flags p.refs q.kind q.at_ q.off q.flags q.refs ve hve W
      have hng2 := Ai7
      have HE := Hd (show ve = true ↔ K.opens[k2] = M.opens[k2] by rw [hve,← hp,← hq,Az7])
      clear hve hp hq hax hay
      cases ve with
      | true =>
       have HN := Hd (Al7 K.opens M.opens k2 hlt2 hlt3 HTK2.out (HE.out.1 rfl))
       go_wp2_with fail
       go_quiet (fail)
       go_wp2_with fail
       go_roundw
       case rel => exact ⟨k2 + 1,by omega,by go_num,HN,Hd (HBR2.out.trans ⟨rfl,rfl,rfl,Nat.le_refl _,fun _ _ => rfl⟩)⟩
       case measure => simp [intOf] <;> omega
      | false =>
       have hvf : v = false := by
        cases v
        ·rfl
        ·have h := (HV.out.1 rfl).2.2.2.2
         exact absurd (HE.out.2 (by simp only [h])) (by decide)
       subst hvf
       go_wp2_with fail
       go_quiet (fail)
       go_wp2_with fail
       go_ret
       exact ⟨rfl,HEND.out _ (HBR2.out.trans ⟨rfl,rfl,rfl,Nat.le_refl _,fun _ _ => rfl⟩)⟩
     ·have hke : k2 = K.opens.length := by omega
      have HOE := Hd (show K.opens = M.opens by
       have h := HTK2.out
       rw [hke,List.take_length,HLO.out,List.take_length] at h
       exact h)
      have hvt : v = true := HV.out.2 ⟨HVT.out.1 (by trivial),HT0.out.1 (HVO.out.1 (by trivial)).1,HT1.out.1 (HVO.out.1 (by trivial)).2,HPE.out,HOE.out⟩
      subst hvt
      clear hke
      go_wp2_with fail
      go_ret
      exact ⟨rfl,HEND.out _ HBR2.out⟩
def Axx (K' : Krn) (w : World) (e : Ending) (w' : World) : Prop :=
 (∃ A : KAd,e = .returned (.agg #[.slice A.ta K'.tree.length A.tc,.int .i64 K'.m,.int .i64 K'.b,.slice A.pa K'.pipes.length A.pc,.slice A.oa K'.opens.length A.oc,.string ⟨K'.out0.toArray⟩,.string ⟨K'.out1.toArray⟩]) ∧ KernIn w' A K' ∧ Akz w.heap.size A) ∧ Below w.heap.size w w'
theorem Ao1 : ∀ (l : List Int) (x : Int) (k : Krn),Acj (l ++ [x]) k = if x = 0 then Acj l k else Abe (Acj l k) (x - 1).toNat
 | [],_,_ => rfl
 | y :: r,x,k => by rw [List.cons_append,Acj,Acj,Ao1 r x]
theorem Alx (f : List Int) (hf : f.length = 10) (n : Nat) (hn : n < 10) (k : Krn) : Acj (f.take (n + 1)) k = if f.getD n 0 = 0 then Acj (f.take n) k else Abe (Acj (f.take n) k) (f.getD n 0 - 1).toNat := by
 rw [List.take_succ_eq_append_getElem (by omega),Ao1,Abd f n (by omega) 0]
theorem Avc {K : Krn} {f : List Int} (hF : FitK K f) (n : Nat) : Plus K (Acj (f.take n) K) (f.take n) := by
 have h := Ai0 (f.take n) K [] (Amb K) (fun x hx => by
  obtain ⟨i,hi,rfl⟩ := List.getElem_of_mem (List.mem_of_mem_take hx)
  rcases hF.fds i hi with h0 | ⟨j,hj,h1,-,-⟩
  ·exact .inl h0
  ·exact .inr ⟨j,hj,h1⟩)
 simpa using h
theorem Ao7 {K : Krn} {f : List Int} (hF : FitK K f) (hr : ∀ o ∈ K.opens,o.refs ≤ 900) (n : Nat) (hn : n < 10) : Led (Acj (f.take n) K) f n ∧ (Acj (f.take n) K).opens.length = K.opens.length ∧ ∀ j (hj : j < K.opens.length) (hj' : j < (Acj (f.take n) K).opens.length),(Acj (f.take n) K).opens[j].refs ≤ 910 := by
 have hP := Avc hF n
 have hcnt : ∀ x : Int,(f.take n).count x ≤ 10 := fun x => Nat.le_trans List.count_le_length (by simp; have := hF.len; omega)
 have hrf : ∀ j (hj : j < K.opens.length) (hj' : j < (Acj (f.take n) K).opens.length),(Acj (f.take n) K).opens[j].refs ≤ 910 := fun j hj hj' => by
  rw [hP.opens j hj hj']
  show K.opens[j].refs + _ ≤ 910
  have := hr _ (List.getElem_mem hj)
  have := hcnt ((j : Int) + 1)
  omega
 refine ⟨?_,hP.len,hrf⟩
 rcases Ad0 hF hn with h0 | ⟨j,hj,h1,h2,h3,h4,h5⟩
 ·exact .inl h0
 ·have hj' : j < (Acj (f.take n) K).opens.length := by rw [hP.len]; exact hj
  refine .inr ⟨j,hj',h1,?_,?_,?_,?_⟩
  ·rw [hP.opens j hj hj']; exact h2
  ·rw [hP.opens j hj hj',hP.tree,hP.pipes]
   have h2' : K.opens[j].kind ≠ 0 := h2
   unfold Ad8 at h3 ⊢
   rw [if_neg h2'] at h3
   show (if K.opens[j].kind = 0 then _ else _) = true
   rw [if_neg h2']
   exact h3
  ·rw [hP.opens j hj hj']
   show 1 ≤ K.opens[j].refs + _
   omega
  ·have := hrf j hj hj'; omega
theorem Atm (n : Nat) (hn : n < 10) (k : Krn) (f : List Int) : Ahe (10 - n) n k f = Ahe (10 - (n + 1)) (n + 1) (Aat k f n).1 (Aat k f n).2 := by
 rw [show 10 - n = (10 - (n + 1)) + 1 by omega,Ahe]
theorem Am0 (A : KAd) (K : Krn) (f : List Int) (hF : FitK K f) (hr : ∀ o ∈ K.opens,o.refs ≤ 900) (w : World) (hK : KernIn w A K) :
  Calls Tryz.prog 30 #[.agg #[.slice A.ta K.tree.length A.tc,.int .i64 K.m,.int .i64 K.b,.slice A.pa K.pipes.length A.pc,.slice A.oa K.opens.length A.oc,.string ⟨K.out0.toArray⟩,.string ⟨K.out1.toArray⟩],.agg #[.int .i64 (fdA f 0),.int .i64 (fdA f 1),.int .i64 (fdA f 2),.int .i64 (fdA f 3),.int .i64 (fdA f 4),.int .i64 (fdA f 5),.int .i64 (fdA f 6),.int .i64 (fdA f 7),.int .i64 (fdA f 8),.int .i64 (fdA f 9)]] w (Axx (Alw K f) w) := by
 have HR := Hd hr
 clear hr
 obtain ⟨w3,hw3,hb3,hs3,hX,hY,hU⟩ := Ad4 w #[.slice A.ta K.tree.length A.tc,.int .i64 K.m,.int .i64 K.b,.slice A.pa K.pipes.length A.pc,.slice A.oa K.opens.length A.oc,.string ⟨K.out0.toArray⟩,.string ⟨K.out1.toArray⟩] #[.int .i64 (fdA f 0),.int .i64 (fdA f 1),.int .i64 (fdA f 2),.int .i64 (fdA f 3),.int .i64 (fdA f 4),.int .i64 (fdA f 5),.int .i64 (fdA f 6),.int .i64 (fdA f 7),.int .i64 (fdA f 8),.int .i64 (fdA f 9)] #[.slice none 0 0,.int .i64 0,.int .i64 0,.slice none 0 0,.slice none 0 0,.string ⟨#[]⟩,.string ⟨#[]⟩] 29 31 29
 have HK := Hd (hK.below hb3)
 have HB3 := Hd hb3
 have HX := Hd hX
 have HY := Hd hY
 have HU := Hd hU
 have HS3 := Hd hs3
 have HSS := Hd (show ∀ W : World,W.heap[w.heap.size]? = w3.heap[w.heap.size]? → W.heap[w.heap.size + 1]? = w3.heap[w.heap.size + 1]? → (W.cell? ⟨w.heap.size,0,none⟩ = some (.slice A.ta K.tree.length A.tc) ∧ W.cell? ⟨w.heap.size,1,none⟩ = some (.int .i64 K.m) ∧ W.cell? ⟨w.heap.size,2,none⟩ = some (.int .i64 K.b) ∧ W.cell? ⟨w.heap.size,3,none⟩ = some (.slice A.pa K.pipes.length A.pc) ∧ W.cell? ⟨w.heap.size,4,none⟩ = some (.slice A.oa K.opens.length A.oc) ∧ W.cell? ⟨w.heap.size,5,none⟩ = some (.string ⟨K.out0.toArray⟩) ∧ W.cell? ⟨w.heap.size,6,none⟩ = some (.string ⟨K.out1.toArray⟩)) ∧ W.rangeAt (w.heap.size + 1) 0 [.int .i64 (fdA f 0),.int .i64 (fdA f 1),.int .i64 (fdA f 2),.int .i64 (fdA f 3),.int .i64 (fdA f 4),.int .i64 (fdA f 5),.int .i64 (fdA f 6),.int .i64 (fdA f 7),.int .i64 (fdA f 8),.int .i64 (fdA f 9)] from fun W h1 h2 => by
  have a := h1.trans HX.out
  have b := h2.trans HY.out
  exact ⟨⟨bC a 0,bC a 1,bC a 2,bC a 3,bC a 4,bC a 5,bC a 6⟩,fun j v hj => by rw [Nat.zero_add]; exact (bC b j).trans (by simpa using hj)⟩)
 have hfu : Tryz.prog.underlying 31 = some (.array 10 3) := by kernel_rfl
 have hfi : (Tryz.prog.info? 31).map (·.size) = some 10 := by kernel_rfl
 obtain ⟨l1,l2,l3,l4,l5⟩ := hF.tree.limits
 have hkk : ∀ x ∈ K.tree,x.kids.length ≤ 4096 := fun x hx => by obtain ⟨j,hj,rfl⟩ := List.getElem_of_mem hx; have := (hF.tree.ins j hj).2.1; omega
 have hnp := hF.np
 have hno := hF.no
 have HCP := Hd (fun W (hb : Below w3.heap.size w3 W) => Ail A K (by omega) (by omega) hkk (by omega) (by omega) W (HK.out.below hb))
 have HFL := Hd hF.len
 have HF := Hd hF
 have HBB := Hd (Below.refl w3.heap.size w3)
 have HW3 := Hd hw3
 clear hX hY hU hb3 hK hF hw3 hs3 l1 l2 l3 l4 l5 hkk hnp hno
 go_enter Tryz.func30,Tryz.ntmps30
 go_upto_region 1 with fail
 have hw3 := HW3.out
 rw [← hw3]
 clear hw3
 obtain ⟨⟨q0,q1,q2,q3,q4,q5,q6⟩,rg⟩ := HSS.out w3 rfl rfl
 have HL1 := Hd (show w.heap.size < w3.heap.size by have := HS3.out; omega)
 have HL2 := Hd (show w.heap.size + 1 < w3.heap.size by have := HS3.out; omega)
 go_cut [5] from 9 (fun c wx => ∃ g A',c = .pointer (some ⟨g,0,none⟩) ∧ Wk wx w3.heap.size g A' K f ∧ Below w3.heap.size w3 wx)
 case first =>
  go_region_held3 (fun W => (W.cell? ⟨w.heap.size,0,none⟩ = some (.slice A.ta K.tree.length A.tc) ∧ W.cell? ⟨w.heap.size,1,none⟩ = some (.int .i64 K.m) ∧ W.cell? ⟨w.heap.size,2,none⟩ = some (.int .i64 K.b) ∧ W.cell? ⟨w.heap.size,3,none⟩ = some (.slice A.pa K.pipes.length A.pc) ∧ W.cell? ⟨w.heap.size,4,none⟩ = some (.slice A.oa K.opens.length A.oc) ∧ W.cell? ⟨w.heap.size,5,none⟩ = some (.string ⟨K.out0.toArray⟩) ∧ W.cell? ⟨w.heap.size,6,none⟩ = some (.string ⟨K.out1.toArray⟩)) ∧ W.rangeAt (w.heap.size + 1) 0 [.int .i64 (fdA f 0),.int .i64 (fdA f 1),.int .i64 (fdA f 2),.int .i64 (fdA f 3),.int .i64 (fdA f 4),.int .i64 (fdA f 5),.int .i64 (fdA f 6),.int .i64 (fdA f 7),.int .i64 (fdA f 8),.int .i64 (fdA f 9)])
   (first | exact ⟨⟨q0,q1,q2,q3,q4,q5,q6⟩,rg⟩ | exact HSS.out _ (HBB.out.block _ HL1.out) (HBB.out.block _ HL2.out))
   (first
    | (go_at_call 74; refine (HCP.out _ (Aac (Below.refl _ _))).mono ?_; rintro e wn ⟨A',rfl,hoo,hbn⟩; have HBB : Hid (Below w3.heap.size w3 wn) := Hd (Aak HBB.out hbn HBB.out.size ⟨rfl,rfl,rfl,rfl⟩); have HOO := Hd hoo; clear hoo hbn; obtain ⟨⟨q0,q1,q2,q3,q4,q5,q6⟩,rg⟩ := HSS.out _ (HBB.out.block _ HL1.out) (HBB.out.block _ HL2.out))
    | (go_at_call 53; refine (Ai6 A' K f _).mono ?_; rintro e wm ⟨rfl,hbx,hbm⟩; have HWM := Hd (Wk.of_owned HOO.out hbm (Nat.le_add_right _ 2) HBB.out.size hbx HFL.out); have HBB : Hid (Below w3.heap.size w3 wm) := Hd (Aak HBB.out hbm HBB.out.size ⟨rfl,rfl,rfl,rfl⟩); clear hbx hbm; obtain ⟨⟨q0,q1,q2,q3,q4,q5,q6⟩,rg⟩ := HSS.out _ (HBB.out.block _ HL1.out) (HBB.out.block _ HL2.out)))
  all_goals
   go_wp2_with fail
   go_meet
   exact ⟨_,A',rfl,HWM.out,HBB.out⟩
 case rest =>
  obtain ⟨g,A1,rfl,hwk,hbc⟩ := hcut
  clear q0 q1 q2 q3 q4 q5 q6 rg HBB hfu hfi
  obtain ⟨wb,hwb⟩ : ∃ z,z = wc := ⟨_,rfl⟩
  rw [← hwb] at hwk hbc ⊢
  have HBC := Hd hbc
  have HWB := Hd hwk
  clear hwk hbc hwb
  go_wp2_with fail
  go_loopw [13] (fun iv wr => ∃ n : Nat,n ≤ 10 ∧ iv = .int .i64 n ∧ ∃ Ar,Hid (Wk wr w3.heap.size g Ar (Acj (f.take n) K) f) ∧ Hid (Below w3.heap.size w3 wr)) (fun iv _ => 10 - (intOf iv).toNat)
  case atStart => exact ⟨0,by omega,rfl,A1,HWB,HBC⟩
  case round =>
   obtain ⟨n,hn,rfl,Ar,HWR,HBR⟩ := hrel
   by_cases hlt : n < 10
   ·obtain ⟨hled,hol,hrf⟩ := Ao7 HF.out HR.out n hlt
    have hno := HF.out.no
    have HPL := Hd (Aj9 (n : Int) wr HWR.out (by rw [hol]; omega) (fun _ => by rw [Int.toNat_natCast]; exact hled))
    have hnx := Alx f HFL.out n hlt K
    have b0 : (0 : Int) ≤ (n : Int) := by omega
    have b1 : (n : Int) < 10 := by omega
    have hwn : IntKind.i64.wrap ((n : Int) + 1) = (n : Int) + 1 := by rw [IntKind.wrap_i64]; omega
    by_cases h0 : f.getD n 0 = 0
    ·rw [if_pos h0] at hnx
     have HNX := Hd hnx
     rw [show Acb f (n : Int) = (0,false) by unfold Acb; rw [if_neg]; rintro ⟨-,h⟩; rw [Int.toNat_natCast] at h; exact h h0] at HPL
     clear hled hol hrf hno hnx h0
     go_wp2_with fail
     refine HPL.out.mono ?_
     rintro e w6 ⟨rfl,hb6⟩
     have HW6 := Hd (HWR.out.below hb6)
     have HB6 := Hd (HBR.out.trans (hb6.mono HBR.out.size))
     clear hb6
     go_wp2_with fail
     go_roundw
     case rel => exact ⟨n + 1,by omega,by go_num,Ar,Hd (by rw [HNX.out]; exact HW6.out),HB6⟩
     case measure => simp [intOf] <;> omega
    ·rw [if_neg h0] at hnx
     have HNX := Hd hnx
     obtain ⟨j,hj,e1,e2,-⟩ := hled.resolve_left h0
     have hjk : j < K.opens.length := by rw [← hol]; exact hj
     have hrj := hrf j hjk hj
     have HE1 := Hd e1
     rw [show Acb f (n : Int) = ((j : Int),true) by unfold Acb; rw [if_pos ⟨by unfold isFd; simp; omega,by rw [Int.toNat_natCast]; exact h0⟩,Int.toNat_natCast,e1,show (j : Int) + 1 - 1 = (j : Int) by omega]] at HPL
     obtain ⟨Kn,hKn⟩ : ∃ k,k = Acj (f.take n) K := ⟨_,rfl⟩
     have HKN := Hd hKn
     have HWR2 : Hid (Wk wr w3.heap.size g Ar Kn f) := Hd (by rw [hKn]; exact HWR.out)
     have hjn : j < Kn.opens.length := by rw [hKn]; exact hj
     obtain ⟨r,hrr⟩ : ∃ r,Kn.opens[j].refs = r := ⟨_,rfl⟩
     have HRR := Hd hrr
     have hr9 : r ≤ 910 := by rw [← hrr]; simp only [hKn]; exact hrj
     have hr0 : 0 ≤ r := by
      have h := hled.resolve_left h0
      obtain ⟨j',hj',f1,-,-,f4,-⟩ := h
      obtain rfl : j = j' := by omega
      rw [← hrr]
      simp only [hKn]
      omega
     have hrw : IntKind.i64.wrap (r + 1) = r + 1 := by rw [IntKind.wrap_i64]; omega
     have b2 : (0 : Int) ≤ (j : Int) := by omega
     have b3 : (j : Int) < (Kn.opens.length : Int) := by omega
     obtain ⟨go,ha,hgo,-⟩ := HWR2.out.opn hjn
     have HA := Hd ha
     clear hled hol hrf hno hnx h0 e1 e2 hjk hrj hKn hrr ha hr0 hr9 HWR hj
     go_wp2_with fail
     refine HPL.out.mono ?_
     rintro e w6 ⟨rfl,hb6⟩
     have HW6 := Hd (HWR2.out.below hb6)
     have HB6 := Hd (HBR.out.trans (hb6.mono HBR.out.size))
     have HST := Hd (HW6.out.storeRefs HA.out hjn (r + 1))
     clear hb6
     obtain ⟨q4,x0,x1,x2,x3,x4,xl,xf⟩ := HW6.out.all hjn HA.out
     rw [HRR.out] at x4
     have xf4 := xf (j * 5 + 4)
     have gl := HW6.out.lt
     clear xf
     go_wp2_with fail
     go_roundw
     case rel =>
      refine ⟨n + 1,by omega,by go_num,Ar,Hd ?_,Hd ?_⟩
      ·rw [HNX.out,HE1.out,← HKN.out,show ((j : Int) + 1 - 1).toNat = j by omega]
       unfold Abe
       rw [Abd _ j hjn,HRR.out]
       exact HST.out.1
      ·exact HB6.out.trans (HW6.out.low HST.out.2 HB6.out.size)
     case measure => simp [intOf] <;> omega
   ·have hn10 : n = 10 := by omega
    subst hn10
    rw [show f.take 10 = f from List.take_of_length_le (by rw [HFL.out]; omega)] at HWR
    obtain ⟨Kz,hKz⟩ : ∃ k,k = Acj f K := ⟨_,rfl⟩
    rw [← hKz] at HWR
    have HKZ := Hd hKz
    clear hKz
    have HUR := Hd ((HBR.out.block (w.heap.size + 2) (by have := HS3.out; omega)).trans HU.out)
    obtain ⟨g0,g1,g2,g3,g4,g5,g6⟩ := HWR.out.kcells
    have gl := HWR.out.lt
    have u0 := bC HUR.out 0
    have u1 := bC HUR.out 1
    have u2 := bC HUR.out 2
    have u3 := bC HUR.out 3
    have u4 := bC HUR.out 4
    have u5 := bC HUR.out 5
    have u6 := bC HUR.out 6
    have v0 := bF HUR.out 0
    have v1 := bF HUR.out 1
    have v2 := bF HUR.out 2
    have v3 := bF HUR.out 3
    have v4 := bF HUR.out 4
    have v5 := bF HUR.out 5
    have v6 := bF HUR.out 6
    have ul := lt_of_block HUR.out
    go_wp2_with fail
    obtain ⟨wv,hwv,hU7,hkn,hfrm,hsz,ho1,ho2,ho3⟩ := Aga (u := w.heap.size + 2) (Kz := Kz) HUR.out HWR.out.kern (fun x hx => by have := (HWR.out.own3 (.inr (.inl ⟨x,hx,rfl⟩))).1; have := HS3.out; omega) (fun x hx => by have := (HWR.out.own3 (.inr (.inr ⟨x,hx,rfl⟩))).1; have := HS3.out; omega)
    have HEND := Hd (show Below w.heap.size w wv from ⟨ho1.trans (HBR.out.os.trans HB3.out.os),ho2.trans (HBR.out.tape.trans HB3.out.tape),ho3.trans (HBR.out.output.trans HB3.out.output),by have := HBR.out.size; have := HB3.out.size; omega,fun k hk => (hfrm k (by omega)).trans ((HBR.out.block k (by have := HS3.out; omega)).trans (HB3.out.block k hk))⟩)
    obtain ⟨c0,c1,c2,c3,c4,c5,c6⟩ := Aar hU7
    change bodyPost _ _ _ _ _ (put7 wr (w.heap.size + 2) (.slice Ar.ta Kz.tree.length Ar.tc) (.int .i64 Kz.m) (.int .i64 Kz.b) (.slice Ar.pa Kz.pipes.length Ar.pc) (.slice Ar.oa Kz.opens.length Ar.oc) (.string ⟨Kz.out0.toArray⟩) (.string ⟨Kz.out1.toArray⟩))
    rw [← hwv]
    exact bodyPost_ret (v := .agg #[.slice Ar.ta Kz.tree.length Ar.tc,.int .i64 Kz.m,.int .i64 Kz.b,.slice Ar.pa Kz.pipes.length Ar.pc,.slice Ar.oa Kz.opens.length Ar.oc,.string ⟨Kz.out0.toArray⟩,.string ⟨Kz.out1.toArray⟩]) (by simp [results,Tryz.results30,go_sem,c0,c1,c2,c3,c4,c5,c6]) rfl ⟨⟨Ar,by rw [show Alw K f = Kz from HKZ.out.symm],by rw [show Alw K f = Kz from HKZ.out.symm]; exact hkn,⟨fun x hx => by have := (HWR.out.own3 (.inr (.inl ⟨x,hx,rfl⟩))).1; have := HS3.out; omega,fun x hx => by have := (HWR.out.own3 (.inr (.inr ⟨x,hx,rfl⟩))).1; have := HS3.out; omega⟩⟩,HEND.out⟩
theorem Ajf (A : KAd) (K : Krn) (f : List Int) (hF : FitK K f) (w : World) (hK : KernIn w A K) :
  Calls Tryz.prog 32 #[.agg #[.slice A.ta K.tree.length A.tc,.int .i64 K.m,.int .i64 K.b,.slice A.pa K.pipes.length A.pc,.slice A.oa K.opens.length A.oc,.string ⟨K.out0.toArray⟩,.string ⟨K.out1.toArray⟩],.agg #[.int .i64 (fdA f 0),.int .i64 (fdA f 1),.int .i64 (fdA f 2),.int .i64 (fdA f 3),.int .i64 (fdA f 4),.int .i64 (fdA f 5),.int .i64 (fdA f 6),.int .i64 (fdA f 7),.int .i64 (fdA f 8),.int .i64 (fdA f 9)]] w (Axx (Avv K f) w) := by
 obtain ⟨w3,hw3,hb3,hs3,hX,hY,hU⟩ := Ad4 w #[.slice A.ta K.tree.length A.tc,.int .i64 K.m,.int .i64 K.b,.slice A.pa K.pipes.length A.pc,.slice A.oa K.opens.length A.oc,.string ⟨K.out0.toArray⟩,.string ⟨K.out1.toArray⟩] #[.int .i64 (fdA f 0),.int .i64 (fdA f 1),.int .i64 (fdA f 2),.int .i64 (fdA f 3),.int .i64 (fdA f 4),.int .i64 (fdA f 5),.int .i64 (fdA f 6),.int .i64 (fdA f 7),.int .i64 (fdA f 8),.int .i64 (fdA f 9)] #[.slice none 0 0,.int .i64 0,.int .i64 0,.slice none 0 0,.slice none 0 0,.string ⟨#[]⟩,.string ⟨#[]⟩] 29 31 29
 have HK := Hd (hK.below hb3)
 have HB3 := Hd hb3
 have HX := Hd hX
 have HY := Hd hY
 have HU := Hd hU
 have HS3 := Hd hs3
 have HSS := Hd (show ∀ W : World,W.heap[w.heap.size]? = w3.heap[w.heap.size]? → W.heap[w.heap.size + 1]? = w3.heap[w.heap.size + 1]? → (W.cell? ⟨w.heap.size,0,none⟩ = some (.slice A.ta K.tree.length A.tc) ∧ W.cell? ⟨w.heap.size,1,none⟩ = some (.int .i64 K.m) ∧ W.cell? ⟨w.heap.size,2,none⟩ = some (.int .i64 K.b) ∧ W.cell? ⟨w.heap.size,3,none⟩ = some (.slice A.pa K.pipes.length A.pc) ∧ W.cell? ⟨w.heap.size,4,none⟩ = some (.slice A.oa K.opens.length A.oc) ∧ W.cell? ⟨w.heap.size,5,none⟩ = some (.string ⟨K.out0.toArray⟩) ∧ W.cell? ⟨w.heap.size,6,none⟩ = some (.string ⟨K.out1.toArray⟩)) ∧ W.rangeAt (w.heap.size + 1) 0 [.int .i64 (fdA f 0),.int .i64 (fdA f 1),.int .i64 (fdA f 2),.int .i64 (fdA f 3),.int .i64 (fdA f 4),.int .i64 (fdA f 5),.int .i64 (fdA f 6),.int .i64 (fdA f 7),.int .i64 (fdA f 8),.int .i64 (fdA f 9)] from fun W h1 h2 => by
  have a := h1.trans HX.out
  have b := h2.trans HY.out
  exact ⟨⟨bC a 0,bC a 1,bC a 2,bC a 3,bC a 4,bC a 5,bC a 6⟩,fun j v hj => by rw [Nat.zero_add]; exact (bC b j).trans (by simpa using hj)⟩)
 have hfu : Tryz.prog.underlying 31 = some (.array 10 3) := by kernel_rfl
 have hfi : (Tryz.prog.info? 31).map (·.size) = some 10 := by kernel_rfl
 obtain ⟨l1,l2,l3,l4,l5⟩ := hF.tree.limits
 have hkk : ∀ x ∈ K.tree,x.kids.length ≤ 4096 := fun x hx => by obtain ⟨j,hj,rfl⟩ := List.getElem_of_mem hx; have := (hF.tree.ins j hj).2.1; omega
 have hnp := hF.np
 have hno := hF.no
 have HCP := Hd (fun W (hb : Below w3.heap.size w3 W) => Ail A K (by omega) (by omega) hkk (by omega) (by omega) W (HK.out.below hb))
 have HFL := Hd hF.len
 have HF := Hd hF
 have HBB := Hd (Below.refl w3.heap.size w3)
 have HW3 := Hd hw3
 clear hX hY hU hb3 hK hF hw3 hs3 l1 l2 l3 l4 l5 hkk hnp hno
 go_enter Tryz.func32,Tryz.ntmps32
 go_upto_region 1 with fail
 have hw3 := HW3.out
 rw [← hw3]
 clear hw3
 obtain ⟨⟨q0,q1,q2,q3,q4,q5,q6⟩,rg⟩ := HSS.out w3 rfl rfl
 have HL1 := Hd (show w.heap.size < w3.heap.size by have := HS3.out; omega)
 have HL2 := Hd (show w.heap.size + 1 < w3.heap.size by have := HS3.out; omega)
 go_cut [5] from 7 (fun c wx => ∃ g A',c = .pointer (some ⟨g,0,none⟩) ∧ Wk wx w3.heap.size g A' K f ∧ Below w3.heap.size w3 wx)
 case first =>
  go_region_held3 (fun W => (W.cell? ⟨w.heap.size,0,none⟩ = some (.slice A.ta K.tree.length A.tc) ∧ W.cell? ⟨w.heap.size,1,none⟩ = some (.int .i64 K.m) ∧ W.cell? ⟨w.heap.size,2,none⟩ = some (.int .i64 K.b) ∧ W.cell? ⟨w.heap.size,3,none⟩ = some (.slice A.pa K.pipes.length A.pc) ∧ W.cell? ⟨w.heap.size,4,none⟩ = some (.slice A.oa K.opens.length A.oc) ∧ W.cell? ⟨w.heap.size,5,none⟩ = some (.string ⟨K.out0.toArray⟩) ∧ W.cell? ⟨w.heap.size,6,none⟩ = some (.string ⟨K.out1.toArray⟩)) ∧ W.rangeAt (w.heap.size + 1) 0 [.int .i64 (fdA f 0),.int .i64 (fdA f 1),.int .i64 (fdA f 2),.int .i64 (fdA f 3),.int .i64 (fdA f 4),.int .i64 (fdA f 5),.int .i64 (fdA f 6),.int .i64 (fdA f 7),.int .i64 (fdA f 8),.int .i64 (fdA f 9)])
   (first | exact ⟨⟨q0,q1,q2,q3,q4,q5,q6⟩,rg⟩ | exact HSS.out _ (HBB.out.block _ HL1.out) (HBB.out.block _ HL2.out))
   (first
    | (go_at_call 74; refine (HCP.out _ (Aac (Below.refl _ _))).mono ?_; rintro e wn ⟨A',rfl,hoo,hbn⟩; have HBB : Hid (Below w3.heap.size w3 wn) := Hd (Aak HBB.out hbn HBB.out.size ⟨rfl,rfl,rfl,rfl⟩); have HOO := Hd hoo; clear hoo hbn; obtain ⟨⟨q0,q1,q2,q3,q4,q5,q6⟩,rg⟩ := HSS.out _ (HBB.out.block _ HL1.out) (HBB.out.block _ HL2.out))
    | (go_at_call 53; refine (Ai6 A' K f _).mono ?_; rintro e wm ⟨rfl,hbx,hbm⟩; have HWM := Hd (Wk.of_owned HOO.out hbm (Nat.le_add_right _ 2) HBB.out.size hbx HFL.out); have HBB : Hid (Below w3.heap.size w3 wm) := Hd (Aak HBB.out hbm HBB.out.size ⟨rfl,rfl,rfl,rfl⟩); clear hbx hbm; obtain ⟨⟨q0,q1,q2,q3,q4,q5,q6⟩,rg⟩ := HSS.out _ (HBB.out.block _ HL1.out) (HBB.out.block _ HL2.out)))
  all_goals
   go_wp2_with fail
   go_meet
   exact ⟨_,A',rfl,HWM.out,HBB.out⟩
 case rest =>
  obtain ⟨g,A1,rfl,hwk,hbc⟩ := hcut
  clear q0 q1 q2 q3 q4 q5 q6 rg HBB hfu hfi
  obtain ⟨wb,hwb⟩ : ∃ z,z = wc := ⟨_,rfl⟩
  rw [← hwb] at hwk hbc ⊢
  have HBC := Hd hbc
  have HWB := Hd hwk
  clear hwk hbc hwb
  go_wp2_with fail
  go_loopw [11] (fun iv wr => ∃ n : Nat,n ≤ 10 ∧ iv = .int .i64 n ∧ ∃ Ar Kn fn,Hid (Wk wr w3.heap.size g Ar Kn fn) ∧ Hid (FitK Kn fn) ∧ Hid (Ahe (10 - n) n Kn fn = Avv K f) ∧ Hid (Below w3.heap.size w3 wr)) (fun iv _ => 10 - (intOf iv).toNat)
  case atStart => exact ⟨0,by omega,rfl,A1,K,f,HWB,HF,Hd rfl,HBC⟩
  case round =>
   obtain ⟨n,hn,rfl,Ar,Kn,fn,HWR,HFN,HGO,HBR⟩ := hrel
   by_cases hlt : n < 10
   ·have hno := HFN.out.no
    obtain ⟨c1,c2⟩ := Aj2 (K := Kn) (f := fn) hlt
    have HPL := Hd (Ane (n : Int) wr HWR.out (by omega) (fun _ => by rw [Int.toNat_natCast]; exact Ad0 HFN.out hlt) (Af6 HFN.out))
    rw [c1,c2] at HPL
    have HNX := Hd (Atm n hlt Kn fn)
    have HFX := Hd (show FitK (Aat Kn fn n).1 (Aat Kn fn n).2 from Agd HFN.out Adh Adh (by rw [HFN.out.len]; exact hlt))
    have b0 : (0 : Int) ≤ (n : Int) := by omega
    have b1 : (n : Int) < 10 := by omega
    have hwn : IntKind.i64.wrap ((n : Int) + 1) = (n : Int) + 1 := by rw [IntKind.wrap_i64]; omega
    clear hno c1 c2
    go_wp2_with fail
    refine HPL.out.mono ?_
    rintro e w6 ⟨rfl,hw6,hs6⟩
    have HW6 := Hd hw6
    have HB6 := Hd (HBR.out.trans (HWR.out.low hs6 HBR.out.size))
    clear hw6 hs6
    go_wp2_with fail
    go_roundw
    case rel => exact ⟨n + 1,by omega,by go_num,Ar,_,_,HW6,HFX,Hd (by rw [← HNX.out]; exact HGO.out),HB6⟩
    case measure => simp [intOf] <;> omega
   ·have hn10 : n = 10 := by omega
    subst hn10
    have HKZ := Hd (show Kn = Avv K f from HGO.out)
    clear HGO
    have HUR := Hd ((HBR.out.block (w.heap.size + 2) (by have := HS3.out; omega)).trans HU.out)
    obtain ⟨g0,g1,g2,g3,g4,g5,g6⟩ := HWR.out.kcells
    have gl := HWR.out.lt
    have u0 := bC HUR.out 0
    have u1 := bC HUR.out 1
    have u2 := bC HUR.out 2
    have u3 := bC HUR.out 3
    have u4 := bC HUR.out 4
    have u5 := bC HUR.out 5
    have u6 := bC HUR.out 6
    have v0 := bF HUR.out 0
    have v1 := bF HUR.out 1
    have v2 := bF HUR.out 2
    have v3 := bF HUR.out 3
    have v4 := bF HUR.out 4
    have v5 := bF HUR.out 5
    have v6 := bF HUR.out 6
    have ul := lt_of_block HUR.out
    go_wp2_with fail
    obtain ⟨wv,hwv,hU7,hkn,hfrm,hsz,ho1,ho2,ho3⟩ := Aga (u := w.heap.size + 2) (Kz := Kn) HUR.out HWR.out.kern (fun x hx => by have := (HWR.out.own3 (.inr (.inl ⟨x,hx,rfl⟩))).1; have := HS3.out; omega) (fun x hx => by have := (HWR.out.own3 (.inr (.inr ⟨x,hx,rfl⟩))).1; have := HS3.out; omega)
    have HEND := Hd (show Below w.heap.size w wv from ⟨ho1.trans (HBR.out.os.trans HB3.out.os),ho2.trans (HBR.out.tape.trans HB3.out.tape),ho3.trans (HBR.out.output.trans HB3.out.output),by have := HBR.out.size; have := HB3.out.size; omega,fun k hk => (hfrm k (by omega)).trans ((HBR.out.block k (by have := HS3.out; omega)).trans (HB3.out.block k hk))⟩)
    obtain ⟨c0,c1,c2,c3,c4,c5,c6⟩ := Aar hU7
    change bodyPost _ _ _ _ _ (put7 wr (w.heap.size + 2) (.slice Ar.ta Kn.tree.length Ar.tc) (.int .i64 Kn.m) (.int .i64 Kn.b) (.slice Ar.pa Kn.pipes.length Ar.pc) (.slice Ar.oa Kn.opens.length Ar.oc) (.string ⟨Kn.out0.toArray⟩) (.string ⟨Kn.out1.toArray⟩))
    rw [← hwv]
    exact bodyPost_ret (v := .agg #[.slice Ar.ta Kn.tree.length Ar.tc,.int .i64 Kn.m,.int .i64 Kn.b,.slice Ar.pa Kn.pipes.length Ar.pc,.slice Ar.oa Kn.opens.length Ar.oc,.string ⟨Kn.out0.toArray⟩,.string ⟨Kn.out1.toArray⟩]) (by simp [results,Tryz.results32,go_sem,c0,c1,c2,c3,c4,c5,c6]) rfl ⟨⟨Ar,by rw [← HKZ.out],by rw [← HKZ.out]; exact hkn,⟨fun x hx => by have := (HWR.out.own3 (.inr (.inl ⟨x,hx,rfl⟩))).1; have := HS3.out; omega,fun x hx => by have := (HWR.out.own3 (.inr (.inr ⟨x,hx,rfl⟩))).1; have := HS3.out; omega⟩⟩,HEND.out⟩
end Go.Proofs.YtkdfbliiblojoaaGreatDoor
