import Derived.Test.YtkdfbliiblojoaaGreatDoorK43
import Derived.Test.YtkdfbliiblojoaaGreatDoorK42
import Derived.Test.YtkdfbliiblojoaaGreatDoorK39
set_option linter.all false
set_option maxRecDepth 100000
set_option maxHeartbeats 64000000
namespace Go.Proofs.YtkdfbliiblojoaaGreatDoor
open Go Go.RowKit
theorem Ahs (k : Nat) (fn : Func) (hf : Tryz.prog.funcs[k]? = some fn) (hn : ¬ fn.name = "runtime.NumGoroutine") (hb : ¬ fn.body = none) :
  ∀ (args : Array Value) (W : World),(callFunc k args).run Tryz.prog W = .ok (.enter k args) W := by
 intro args W
 simp [callFunc,hf,hn,hb]
def KAns (Z : Krn × List Int × Int) (w : World) (e : Ending) (w' : World) : Prop :=
 (∃ A : KAd,e = .returned (.tuple #[.agg #[.slice A.ta Z.1.tree.length A.tc,.int .i64 Z.1.m,.int .i64 Z.1.b,.slice A.pa Z.1.pipes.length A.pc,.slice A.oa Z.1.opens.length A.oc,.string ⟨Z.1.out0.toArray⟩,.string ⟨Z.1.out1.toArray⟩],.agg #[.int .i64 (fdA Z.2.1 0),.int .i64 (fdA Z.2.1 1),.int .i64 (fdA Z.2.1 2),.int .i64 (fdA Z.2.1 3),.int .i64 (fdA Z.2.1 4),.int .i64 (fdA Z.2.1 5),.int .i64 (fdA Z.2.1 6),.int .i64 (fdA Z.2.1 7),.int .i64 (fdA Z.2.1 8),.int .i64 (fdA Z.2.1 9)],.int .i64 Z.2.2]) ∧ KernIn w' A Z.1 ∧ Akz w.heap.size A) ∧ Below w.heap.size w w'
theorem Ayw (K : Krn) (f : List Int) (fr to : Int) (h : (dupK K f fr to).2.2 ≠ 0) : (dupK K f fr to).1 = K ∧ (dupK K f fr to).2.1 = f := by
 unfold dupK at h ⊢
 split
 ·exact ⟨rfl,rfl⟩
 ·rename_i h1
  rw [if_neg h1] at h
  split
  ·exact ⟨rfl,rfl⟩
  ·rename_i h2
   rw [if_neg h2] at h
   exact absurd rfl h
theorem Art (A : KAd) (K : Krn) (f : List Int) (fd : Int) (hF : FitK K f) (w : World) (hK : KernIn w A K) :
  Calls Tryz.prog 20 #[.agg #[.slice A.ta K.tree.length A.tc,.int .i64 K.m,.int .i64 K.b,.slice A.pa K.pipes.length A.pc,.slice A.oa K.opens.length A.oc,.string ⟨K.out0.toArray⟩,.string ⟨K.out1.toArray⟩],.agg #[.int .i64 (fdA f 0),.int .i64 (fdA f 1),.int .i64 (fdA f 2),.int .i64 (fdA f 3),.int .i64 (fdA f 4),.int .i64 (fdA f 5),.int .i64 (fdA f 6),.int .i64 (fdA f 7),.int .i64 (fdA f 8),.int .i64 (fdA f 9)],.int .i64 fd] w (KAns (Ado K f fd) w) := by
 obtain ⟨w2,hw2,hb2,hs2,hX,hY⟩ := Aam w #[.slice A.ta K.tree.length A.tc,.int .i64 K.m,.int .i64 K.b,.slice A.pa K.pipes.length A.pc,.slice A.oa K.opens.length A.oc,.string ⟨K.out0.toArray⟩,.string ⟨K.out1.toArray⟩] #[.int .i64 (fdA f 0),.int .i64 (fdA f 1),.int .i64 (fdA f 2),.int .i64 (fdA f 3),.int .i64 (fdA f 4),.int .i64 (fdA f 5),.int .i64 (fdA f 6),.int .i64 (fdA f 7),.int .i64 (fdA f 8),.int .i64 (fdA f 9)] 29 31
 obtain ⟨v0,hv0⟩ : ∃ z,z = w2.alloc (.cells #[.int .i64 fd] 3) := ⟨_,rfl⟩
 have hbv0 : Below w2.heap.size w2 v0 := by rw [hv0]; exact Aab w2 _
 have hsv0 : v0.heap.size = w.heap.size + 3 := by rw [hv0]; simp; omega
 have hXv0 : v0.heap[w.heap.size + 2]? = some (.cells #[.int .i64 fd] 3 (0,0)) := by
  have h := Aae w2 (.cells #[.int .i64 fd] 3)
  rw [← hv0,hs2] at h
  exact h
 obtain ⟨w5,hw5,hb5,hs5,hU,hV⟩ := Aam v0 #[.slice none 0 0,.int .i64 0,.int .i64 0,.slice none 0 0,.slice none 0 0,.string ⟨#[]⟩,.string ⟨#[]⟩] #[.int .i64 0,.int .i64 0,.int .i64 0,.int .i64 0,.int .i64 0,.int .i64 0,.int .i64 0,.int .i64 0,.int .i64 0,.int .i64 0] 29 31
 rw [hsv0] at hU hV
 have hc1 : Below v0.heap.size v0 w5 := hb5
 have hc0 : Below w2.heap.size w2 w5 := hbv0.trans (hc1.mono (by omega))
 have hbw : Below w.heap.size w w5 := hb2.trans (hc0.mono (by omega))
 have hX5 := (hc0.block w.heap.size (by omega)).trans hX
 have hY5 := (hc0.block (w.heap.size + 1) (by omega)).trans hY
 have hA0 := (hc1.block (w.heap.size + 2) (by omega)).trans hXv0
 have hs6 : w5.heap.size = w.heap.size + 5 := by omega
 have HB := Hd hbw
 have HS := Hd hs6
 have HU := Hd hU
 have HV := Hd hV
 have HX5 := Hd hX5
 have HY5 := Hd hY5
 have HA0 := Hd hA0
 have HCL := Hd (ldo (fid := 59) (caps := #[.pointer (some ⟨w.heap.size + 2,0,none⟩)]) (Ahs 59 Tryz.f59 Tryz.func59 (by decide) (by intro h; cases h)) none (fun _ => True) A K f (Ado K f fd) hF (fun h => (Axp hF fd rfl).2 h) w5 (hK.below hbw) (fun W' h _ => (hK.below hbw).below h.below) (fun k h => by cases h) (fun _ _ _ _ => trivial)
  (fun B g A' W h1 h2 h3 h4 => Ayf _ fd W h4 hF h2  (Aaa h3 (bC hA0 0))))
 obtain ⟨Z,hZ⟩ : ∃ Z,Z = Ado K f fd := ⟨_,rfl⟩
 rw [← hZ] at HCL ⊢
 have h0 := hw5
 rw [hv0,hw2] at h0
 have HW := Hd h0
 have q0 := bC hX5 0
 have q1 := bC hX5 1
 have q2 := bC hX5 2
 have q3 := bC hX5 3
 have q4 := bC hX5 4
 have q5 := bC hX5 5
 have q6 := bC hX5 6
 have r0 := bC hY5 0
 have r1 := bC hY5 1
 have r2 := bC hY5 2
 have r3 := bC hY5 3
 have r4 := bC hY5 4
 have r5 := bC hY5 5
 have r6 := bC hY5 6
 have r7 := bC hY5 7
 have r8 := bC hY5 8
 have r9 := bC hY5 9
 clear h0 hZ hF hK hX hY hU hV hX5 hY5 hbw hb2 hb5 hs2 hs5 hs6 hw2 hw5 hA0 hv0 hbv0 hsv0 hXv0 hc1 hc0
 go_enter Tryz.func20,Tryz.ntmps20
 go_upto_region 1 with fail
 have h0 := HW.out
 rw [← h0]
 clear h0
 go_wp2_with fail
 refine HCL.out.mono ?_
 rintro e w6 ⟨⟨A',rfl,hk6,hfr⟩,hbo,-⟩
 have hb6 : Below w5.heap.size w5 w6 := hbo.below
 have HU6 := Hd ((hb6.block (w.heap.size + 3) (by have := HS.out; omega)).trans HU.out)
 have HV6 := Hd ((hb6.block (w.heap.size + 4) (by have := HS.out; omega)).trans HV.out)
 have HFR := Hd hfr
 have HB6 := Hd hb6
 obtain ⟨wv,hwv,hU7,hV7,hkn,hfrm,hsz,ho1,ho2,ho3⟩ := Adr (u := w.heap.size + 3) (v := w.heap.size + 4) (by omega) (Kz := Z.1) Z.2.1 HU6.out HV6.out hk6 (fun x hx => by have := hfr.1 x hx; have := HS.out; omega) (fun x hx => by have := hfr.2 x hx; have := HS.out; omega)
 have HKN := Hd hkn
 have HEND := Hd (show Below w.heap.size w wv from ⟨ho1.trans (hb6.os.trans HB.out.os),ho2.trans (hb6.tape.trans HB.out.tape),ho3.trans (hb6.output.trans HB.out.output),by have := hb6.size; have := HB.out.size; omega,fun k hk => (hfrm k (by omega) (by omega)).trans ((hb6.block k (by have := HB.out.size; omega)).trans (HB.out.block k hk))⟩)
 have d0 := bC hV7 0
 have d1 := bC hV7 1
 have d2 := bC hV7 2
 have d3 := bC hV7 3
 have d4 := bC hV7 4
 have d5 := bC hV7 5
 have d6 := bC hV7 6
 have d7 := bC hV7 7
 have d8 := bC hV7 8
 have d9 := bC hV7 9
 have e0 := bC hU7 0
 have e1 := bC hU7 1
 have e2 := bC hU7 2
 have e3 := bC hU7 3
 have e4 := bC hU7 4
 have e5 := bC hU7 5
 have e6 := bC hU7 6
 have a0 := bC HU6.out 0
 have a1 := bC HU6.out 1
 have a2 := bC HU6.out 2
 have a3 := bC HU6.out 3
 have a4 := bC HU6.out 4
 have a5 := bC HU6.out 5
 have a6 := bC HU6.out 6
 have b0 := bF HU6.out 0
 have b1 := bF HU6.out 1
 have b2 := bF HU6.out 2
 have b3 := bF HU6.out 3
 have b4 := bF HU6.out 4
 have b5 := bF HU6.out 5
 have b6 := bF HU6.out 6
 have m0 := bC HV6.out 0
 have m1 := bC HV6.out 1
 have m2 := bC HV6.out 2
 have m3 := bC HV6.out 3
 have m4 := bC HV6.out 4
 have m5 := bC HV6.out 5
 have m6 := bC HV6.out 6
 have m7 := bC HV6.out 7
 have m8 := bC HV6.out 8
 have m9 := bC HV6.out 9
 have n0 := bF HV6.out 0
 have n1 := bF HV6.out 1
 have n2 := bF HV6.out 2
 have n3 := bF HV6.out 3
 have n4 := bF HV6.out 4
 have n5 := bF HV6.out 5
 have n6 := bF HV6.out 6
 have n7 := bF HV6.out 7
 have n8 := bF HV6.out 8
 have n9 := bF HV6.out 9
 have ul := lt_of_block HU6.out
 have vl := lt_of_block HV6.out
 have HWV := Hd hwv
 clear hwv hk6 hfr hb6 hbo hkn hfrm hsz ho1 ho2 ho3 hU7 hV7 q0 q1 q2 q3 q4 q5 q6 r0 r1 r2 r3 r4 r5 r6 r7 r8 r9
 go_wp2_with fail
 change bodyPost _ _ _ _ _ ((put7 w6 (w.heap.size + 3) (.slice A'.ta Z.1.tree.length A'.tc) (.int .i64 Z.1.m) (.int .i64 Z.1.b) (.slice A'.pa Z.1.pipes.length A'.pc) (.slice A'.oa Z.1.opens.length A'.oc) (.string ⟨Z.1.out0.toArray⟩) (.string ⟨Z.1.out1.toArray⟩)).setCells (w.heap.size + 4) 0 [.int .i64 (fdA Z.2.1 0),.int .i64 (fdA Z.2.1 1),.int .i64 (fdA Z.2.1 2),.int .i64 (fdA Z.2.1 3),.int .i64 (fdA Z.2.1 4),.int .i64 (fdA Z.2.1 5),.int .i64 (fdA Z.2.1 6),.int .i64 (fdA Z.2.1 7),.int .i64 (fdA Z.2.1 8),.int .i64 (fdA Z.2.1 9)])
 rw [← HWV.out]
 exact bodyPost_ret (v := .tuple #[.agg #[.slice A'.ta Z.1.tree.length A'.tc,.int .i64 Z.1.m,.int .i64 Z.1.b,.slice A'.pa Z.1.pipes.length A'.pc,.slice A'.oa Z.1.opens.length A'.oc,.string ⟨Z.1.out0.toArray⟩,.string ⟨Z.1.out1.toArray⟩],.agg #[.int .i64 (fdA Z.2.1 0),.int .i64 (fdA Z.2.1 1),.int .i64 (fdA Z.2.1 2),.int .i64 (fdA Z.2.1 3),.int .i64 (fdA Z.2.1 4),.int .i64 (fdA Z.2.1 5),.int .i64 (fdA Z.2.1 6),.int .i64 (fdA Z.2.1 7),.int .i64 (fdA Z.2.1 8),.int .i64 (fdA Z.2.1 9)],.int .i64 Z.2.2]) (by simp [results,Tryz.results20,go_sem,e0,e1,e2,e3,e4,e5,e6,d0,d1,d2,d3,d4,d5,d6,d7,d8,d9]) rfl ⟨⟨A',rfl,HKN.out,HFR.out.less (by have := HS.out; omega)⟩,HEND.out⟩
theorem Awm (A : KAd) (K : Krn) (f : List Int) (fr to : Int) (hF : FitK K f) (w : World) (hK : KernIn w A K) :
  Calls Tryz.prog 22 #[.agg #[.slice A.ta K.tree.length A.tc,.int .i64 K.m,.int .i64 K.b,.slice A.pa K.pipes.length A.pc,.slice A.oa K.opens.length A.oc,.string ⟨K.out0.toArray⟩,.string ⟨K.out1.toArray⟩],.agg #[.int .i64 (fdA f 0),.int .i64 (fdA f 1),.int .i64 (fdA f 2),.int .i64 (fdA f 3),.int .i64 (fdA f 4),.int .i64 (fdA f 5),.int .i64 (fdA f 6),.int .i64 (fdA f 7),.int .i64 (fdA f 8),.int .i64 (fdA f 9)],.int .i64 fr,.int .i64 to] w (KAns (dupK K f fr to) w) := by
 obtain ⟨w2,hw2,hb2,hs2,hX,hY⟩ := Aam w #[.slice A.ta K.tree.length A.tc,.int .i64 K.m,.int .i64 K.b,.slice A.pa K.pipes.length A.pc,.slice A.oa K.opens.length A.oc,.string ⟨K.out0.toArray⟩,.string ⟨K.out1.toArray⟩] #[.int .i64 (fdA f 0),.int .i64 (fdA f 1),.int .i64 (fdA f 2),.int .i64 (fdA f 3),.int .i64 (fdA f 4),.int .i64 (fdA f 5),.int .i64 (fdA f 6),.int .i64 (fdA f 7),.int .i64 (fdA f 8),.int .i64 (fdA f 9)] 29 31
 obtain ⟨v0,hv0⟩ : ∃ z,z = w2.alloc (.cells #[.int .i64 fr] 3) := ⟨_,rfl⟩
 have hbv0 : Below w2.heap.size w2 v0 := by rw [hv0]; exact Aab w2 _
 have hsv0 : v0.heap.size = w.heap.size + 3 := by rw [hv0]; simp; omega
 have hXv0 : v0.heap[w.heap.size + 2]? = some (.cells #[.int .i64 fr] 3 (0,0)) := by
  have h := Aae w2 (.cells #[.int .i64 fr] 3)
  rw [← hv0,hs2] at h
  exact h
 obtain ⟨v1,hv1⟩ : ∃ z,z = v0.alloc (.cells #[.int .i64 to] 3) := ⟨_,rfl⟩
 have hbv1 : Below v0.heap.size v0 v1 := by rw [hv1]; exact Aab v0 _
 have hsv1 : v1.heap.size = w.heap.size + 4 := by rw [hv1]; simp; omega
 have hXv1 : v1.heap[w.heap.size + 3]? = some (.cells #[.int .i64 to] 3 (0,0)) := by
  have h := Aae v0 (.cells #[.int .i64 to] 3)
  rw [← hv1,hsv0] at h
  exact h
 obtain ⟨w5,hw5,hb5,hs5,hU,hV⟩ := Aam v1 #[.slice none 0 0,.int .i64 0,.int .i64 0,.slice none 0 0,.slice none 0 0,.string ⟨#[]⟩,.string ⟨#[]⟩] #[.int .i64 0,.int .i64 0,.int .i64 0,.int .i64 0,.int .i64 0,.int .i64 0,.int .i64 0,.int .i64 0,.int .i64 0,.int .i64 0] 29 31
 rw [hsv1] at hU hV
 have hc2 : Below v1.heap.size v1 w5 := hb5
 have hc1 : Below v0.heap.size v0 w5 := hbv1.trans (hc2.mono (by omega))
 have hc0 : Below w2.heap.size w2 w5 := hbv0.trans (hc1.mono (by omega))
 have hbw : Below w.heap.size w w5 := hb2.trans (hc0.mono (by omega))
 have hX5 := (hc0.block w.heap.size (by omega)).trans hX
 have hY5 := (hc0.block (w.heap.size + 1) (by omega)).trans hY
 have hA0 := (hc1.block (w.heap.size + 2) (by omega)).trans hXv0
 have hA1 := (hc2.block (w.heap.size + 3) (by omega)).trans hXv1
 have hs6 : w5.heap.size = w.heap.size + 6 := by omega
 have HB := Hd hbw
 have HS := Hd hs6
 have HU := Hd hU
 have HV := Hd hV
 have HX5 := Hd hX5
 have HY5 := Hd hY5
 have HA0 := Hd hA0
 have HA1 := Hd hA1
 have HCL := Hd (ldo (fid := 61) (caps := #[.pointer (some ⟨w.heap.size + 2,0,none⟩),.pointer (some ⟨w.heap.size + 3,0,none⟩)]) (Ahs 61 Tryz.f61 Tryz.func61 (by decide) (by intro h; cases h)) none (fun _ => True) A K f (dupK K f fr to) hF (fun h => Ayw K f fr to h) w5 (hK.below hbw) (fun W' h _ => (hK.below hbw).below h.below) (fun k h => by cases h) (fun _ _ _ _ => trivial)
  (fun B g A' W h1 h2 h3 h4 => Bay _ _ fr to W h4 hF h2  (Aaa h3 (bC hA0 0)) (Aaa h3 (bC hA1 0))))
 obtain ⟨Z,hZ⟩ : ∃ Z,Z = dupK K f fr to := ⟨_,rfl⟩
 rw [← hZ] at HCL ⊢
 have h0 := hw5
 rw [hv1,hv0,hw2] at h0
 have HW := Hd h0
 have q0 := bC hX5 0
 have q1 := bC hX5 1
 have q2 := bC hX5 2
 have q3 := bC hX5 3
 have q4 := bC hX5 4
 have q5 := bC hX5 5
 have q6 := bC hX5 6
 have r0 := bC hY5 0
 have r1 := bC hY5 1
 have r2 := bC hY5 2
 have r3 := bC hY5 3
 have r4 := bC hY5 4
 have r5 := bC hY5 5
 have r6 := bC hY5 6
 have r7 := bC hY5 7
 have r8 := bC hY5 8
 have r9 := bC hY5 9
 clear h0 hZ hF hK hX hY hU hV hX5 hY5 hbw hb2 hb5 hs2 hs5 hs6 hw2 hw5 hA0 hv0 hbv0 hsv0 hXv0 hc1 hA1 hv1 hbv1 hsv1 hXv1 hc2 hc0
 go_enter Tryz.func22,Tryz.ntmps22
 go_upto_region 1 with fail
 have h0 := HW.out
 rw [← h0]
 clear h0
 go_wp2_with fail
 refine HCL.out.mono ?_
 rintro e w6 ⟨⟨A',rfl,hk6,hfr⟩,hbo,-⟩
 have hb6 : Below w5.heap.size w5 w6 := hbo.below
 have HU6 := Hd ((hb6.block (w.heap.size + 4) (by have := HS.out; omega)).trans HU.out)
 have HV6 := Hd ((hb6.block (w.heap.size + 5) (by have := HS.out; omega)).trans HV.out)
 have HFR := Hd hfr
 have HB6 := Hd hb6
 obtain ⟨wv,hwv,hU7,hV7,hkn,hfrm,hsz,ho1,ho2,ho3⟩ := Adr (u := w.heap.size + 4) (v := w.heap.size + 5) (by omega) (Kz := Z.1) Z.2.1 HU6.out HV6.out hk6 (fun x hx => by have := hfr.1 x hx; have := HS.out; omega) (fun x hx => by have := hfr.2 x hx; have := HS.out; omega)
 have HKN := Hd hkn
 have HEND := Hd (show Below w.heap.size w wv from ⟨ho1.trans (hb6.os.trans HB.out.os),ho2.trans (hb6.tape.trans HB.out.tape),ho3.trans (hb6.output.trans HB.out.output),by have := hb6.size; have := HB.out.size; omega,fun k hk => (hfrm k (by omega) (by omega)).trans ((hb6.block k (by have := HB.out.size; omega)).trans (HB.out.block k hk))⟩)
 have d0 := bC hV7 0
 have d1 := bC hV7 1
 have d2 := bC hV7 2
 have d3 := bC hV7 3
 have d4 := bC hV7 4
 have d5 := bC hV7 5
 have d6 := bC hV7 6
 have d7 := bC hV7 7
 have d8 := bC hV7 8
 have d9 := bC hV7 9
 have e0 := bC hU7 0
 have e1 := bC hU7 1
 have e2 := bC hU7 2
 have e3 := bC hU7 3
 have e4 := bC hU7 4
 have e5 := bC hU7 5
 have e6 := bC hU7 6
 have a0 := bC HU6.out 0
 have a1 := bC HU6.out 1
 have a2 := bC HU6.out 2
 have a3 := bC HU6.out 3
 have a4 := bC HU6.out 4
 have a5 := bC HU6.out 5
 have a6 := bC HU6.out 6
 have b0 := bF HU6.out 0
 have b1 := bF HU6.out 1
 have b2 := bF HU6.out 2
 have b3 := bF HU6.out 3
 have b4 := bF HU6.out 4
 have b5 := bF HU6.out 5
 have b6 := bF HU6.out 6
 have m0 := bC HV6.out 0
 have m1 := bC HV6.out 1
 have m2 := bC HV6.out 2
 have m3 := bC HV6.out 3
 have m4 := bC HV6.out 4
 have m5 := bC HV6.out 5
 have m6 := bC HV6.out 6
 have m7 := bC HV6.out 7
 have m8 := bC HV6.out 8
 have m9 := bC HV6.out 9
 have n0 := bF HV6.out 0
 have n1 := bF HV6.out 1
 have n2 := bF HV6.out 2
 have n3 := bF HV6.out 3
 have n4 := bF HV6.out 4
 have n5 := bF HV6.out 5
 have n6 := bF HV6.out 6
 have n7 := bF HV6.out 7
 have n8 := bF HV6.out 8
 have n9 := bF HV6.out 9
 have ul := lt_of_block HU6.out
 have vl := lt_of_block HV6.out
 have HWV := Hd hwv
 clear hwv hk6 hfr hb6 hbo hkn hfrm hsz ho1 ho2 ho3 hU7 hV7 q0 q1 q2 q3 q4 q5 q6 r0 r1 r2 r3 r4 r5 r6 r7 r8 r9
 go_wp2_with fail
 change bodyPost _ _ _ _ _ ((put7 w6 (w.heap.size + 4) (.slice A'.ta Z.1.tree.length A'.tc) (.int .i64 Z.1.m) (.int .i64 Z.1.b) (.slice A'.pa Z.1.pipes.length A'.pc) (.slice A'.oa Z.1.opens.length A'.oc) (.string ⟨Z.1.out0.toArray⟩) (.string ⟨Z.1.out1.toArray⟩)).setCells (w.heap.size + 5) 0 [.int .i64 (fdA Z.2.1 0),.int .i64 (fdA Z.2.1 1),.int .i64 (fdA Z.2.1 2),.int .i64 (fdA Z.2.1 3),.int .i64 (fdA Z.2.1 4),.int .i64 (fdA Z.2.1 5),.int .i64 (fdA Z.2.1 6),.int .i64 (fdA Z.2.1 7),.int .i64 (fdA Z.2.1 8),.int .i64 (fdA Z.2.1 9)])
 rw [← HWV.out]
 exact bodyPost_ret (v := .tuple #[.agg #[.slice A'.ta Z.1.tree.length A'.tc,.int .i64 Z.1.m,.int .i64 Z.1.b,.slice A'.pa Z.1.pipes.length A'.pc,.slice A'.oa Z.1.opens.length A'.oc,.string ⟨Z.1.out0.toArray⟩,.string ⟨Z.1.out1.toArray⟩],.agg #[.int .i64 (fdA Z.2.1 0),.int .i64 (fdA Z.2.1 1),.int .i64 (fdA Z.2.1 2),.int .i64 (fdA Z.2.1 3),.int .i64 (fdA Z.2.1 4),.int .i64 (fdA Z.2.1 5),.int .i64 (fdA Z.2.1 6),.int .i64 (fdA Z.2.1 7),.int .i64 (fdA Z.2.1 8),.int .i64 (fdA Z.2.1 9)],.int .i64 Z.2.2]) (by simp [results,Tryz.results22,go_sem,e0,e1,e2,e3,e4,e5,e6,d0,d1,d2,d3,d4,d5,d6,d7,d8,d9]) rfl ⟨⟨A',rfl,HKN.out,HFR.out.less (by have := HS.out; omega)⟩,HEND.out⟩
theorem Auo (A : KAd) (K : Krn) (f : List Int) (r u size : Int) (hF : FitK K f) (w : World) (hK : KernIn w A K) :
  Calls Tryz.prog 24 #[.agg #[.slice A.ta K.tree.length A.tc,.int .i64 K.m,.int .i64 K.b,.slice A.pa K.pipes.length A.pc,.slice A.oa K.opens.length A.oc,.string ⟨K.out0.toArray⟩,.string ⟨K.out1.toArray⟩],.agg #[.int .i64 (fdA f 0),.int .i64 (fdA f 1),.int .i64 (fdA f 2),.int .i64 (fdA f 3),.int .i64 (fdA f 4),.int .i64 (fdA f 5),.int .i64 (fdA f 6),.int .i64 (fdA f 7),.int .i64 (fdA f 8),.int .i64 (fdA f 9)],.int .i64 r,.int .i64 u,.int .i64 size] w (KAns (Ai8 K f r u size) w) := by
 obtain ⟨w2,hw2,hb2,hs2,hX,hY⟩ := Aam w #[.slice A.ta K.tree.length A.tc,.int .i64 K.m,.int .i64 K.b,.slice A.pa K.pipes.length A.pc,.slice A.oa K.opens.length A.oc,.string ⟨K.out0.toArray⟩,.string ⟨K.out1.toArray⟩] #[.int .i64 (fdA f 0),.int .i64 (fdA f 1),.int .i64 (fdA f 2),.int .i64 (fdA f 3),.int .i64 (fdA f 4),.int .i64 (fdA f 5),.int .i64 (fdA f 6),.int .i64 (fdA f 7),.int .i64 (fdA f 8),.int .i64 (fdA f 9)] 29 31
 obtain ⟨v0,hv0⟩ : ∃ z,z = w2.alloc (.cells #[.int .i64 r] 3) := ⟨_,rfl⟩
 have hbv0 : Below w2.heap.size w2 v0 := by rw [hv0]; exact Aab w2 _
 have hsv0 : v0.heap.size = w.heap.size + 3 := by rw [hv0]; simp; omega
 have hXv0 : v0.heap[w.heap.size + 2]? = some (.cells #[.int .i64 r] 3 (0,0)) := by
  have h := Aae w2 (.cells #[.int .i64 r] 3)
  rw [← hv0,hs2] at h
  exact h
 obtain ⟨v1,hv1⟩ : ∃ z,z = v0.alloc (.cells #[.int .i64 u] 3) := ⟨_,rfl⟩
 have hbv1 : Below v0.heap.size v0 v1 := by rw [hv1]; exact Aab v0 _
 have hsv1 : v1.heap.size = w.heap.size + 4 := by rw [hv1]; simp; omega
 have hXv1 : v1.heap[w.heap.size + 3]? = some (.cells #[.int .i64 u] 3 (0,0)) := by
  have h := Aae v0 (.cells #[.int .i64 u] 3)
  rw [← hv1,hsv0] at h
  exact h
 obtain ⟨v2,hv2⟩ : ∃ z,z = v1.alloc (.cells #[.int .i64 size] 3) := ⟨_,rfl⟩
 have hbv2 : Below v1.heap.size v1 v2 := by rw [hv2]; exact Aab v1 _
 have hsv2 : v2.heap.size = w.heap.size + 5 := by rw [hv2]; simp; omega
 have hXv2 : v2.heap[w.heap.size + 4]? = some (.cells #[.int .i64 size] 3 (0,0)) := by
  have h := Aae v1 (.cells #[.int .i64 size] 3)
  rw [← hv2,hsv1] at h
  exact h
 obtain ⟨w5,hw5,hb5,hs5,hU,hV⟩ := Aam v2 #[.slice none 0 0,.int .i64 0,.int .i64 0,.slice none 0 0,.slice none 0 0,.string ⟨#[]⟩,.string ⟨#[]⟩] #[.int .i64 0,.int .i64 0,.int .i64 0,.int .i64 0,.int .i64 0,.int .i64 0,.int .i64 0,.int .i64 0,.int .i64 0,.int .i64 0] 29 31
 rw [hsv2] at hU hV
 have hc3 : Below v2.heap.size v2 w5 := hb5
 have hc2 : Below v1.heap.size v1 w5 := hbv2.trans (hc3.mono (by omega))
 have hc1 : Below v0.heap.size v0 w5 := hbv1.trans (hc2.mono (by omega))
 have hc0 : Below w2.heap.size w2 w5 := hbv0.trans (hc1.mono (by omega))
 have hbw : Below w.heap.size w w5 := hb2.trans (hc0.mono (by omega))
 have hX5 := (hc0.block w.heap.size (by omega)).trans hX
 have hY5 := (hc0.block (w.heap.size + 1) (by omega)).trans hY
 have hA0 := (hc1.block (w.heap.size + 2) (by omega)).trans hXv0
 have hA1 := (hc2.block (w.heap.size + 3) (by omega)).trans hXv1
 have hA2 := (hc3.block (w.heap.size + 4) (by omega)).trans hXv2
 have hs6 : w5.heap.size = w.heap.size + 7 := by omega
 have HB := Hd hbw
 have HS := Hd hs6
 have HU := Hd hU
 have HV := Hd hV
 have HX5 := Hd hX5
 have HY5 := Hd hY5
 have HA0 := Hd hA0
 have HA1 := Hd hA1
 have HA2 := Hd hA2
 have HCL := Hd (ldo (fid := 63) (caps := #[.pointer (some ⟨w.heap.size + 2,0,none⟩),.pointer (some ⟨w.heap.size + 3,0,none⟩),.pointer (some ⟨w.heap.size + 4,0,none⟩)]) (Ahs 63 Tryz.f63 Tryz.func63 (by decide) (by intro h; cases h)) none (fun _ => True) A K f (Ai8 K f r u size) hF (fun h => (As8 hF rfl).2 h) w5 (hK.below hbw) (fun W' h _ => (hK.below hbw).below h.below) (fun k h => by cases h) (fun _ _ _ _ => trivial)
  (fun B g A' W h1 h2 h3 h4 => Baa _ _ _ r u size W h4 hF h2  (Aaa h3 (bC hA0 0)) (Aaa h3 (bC hA1 0)) (Aaa h3 (bC hA2 0))))
 obtain ⟨Z,hZ⟩ : ∃ Z,Z = Ai8 K f r u size := ⟨_,rfl⟩
 rw [← hZ] at HCL ⊢
 have h0 := hw5
 rw [hv2,hv1,hv0,hw2] at h0
 have HW := Hd h0
 have q0 := bC hX5 0
 have q1 := bC hX5 1
 have q2 := bC hX5 2
 have q3 := bC hX5 3
 have q4 := bC hX5 4
 have q5 := bC hX5 5
 have q6 := bC hX5 6
 have r0 := bC hY5 0
 have r1 := bC hY5 1
 have r2 := bC hY5 2
 have r3 := bC hY5 3
 have r4 := bC hY5 4
 have r5 := bC hY5 5
 have r6 := bC hY5 6
 have r7 := bC hY5 7
 have r8 := bC hY5 8
 have r9 := bC hY5 9
 clear h0 hZ hF hK hX hY hU hV hX5 hY5 hbw hb2 hb5 hs2 hs5 hs6 hw2 hw5 hA0 hv0 hbv0 hsv0 hXv0 hc1 hA1 hv1 hbv1 hsv1 hXv1 hc2 hA2 hv2 hbv2 hsv2 hXv2 hc3 hc0
 go_enter Tryz.func24,Tryz.ntmps24
 go_upto_region 1 with fail
 have h0 := HW.out
 rw [← h0]
 clear h0
 go_wp2_with fail
 refine HCL.out.mono ?_
 rintro e w6 ⟨⟨A',rfl,hk6,hfr⟩,hbo,-⟩
 have hb6 : Below w5.heap.size w5 w6 := hbo.below
 have HU6 := Hd ((hb6.block (w.heap.size + 5) (by have := HS.out; omega)).trans HU.out)
 have HV6 := Hd ((hb6.block (w.heap.size + 6) (by have := HS.out; omega)).trans HV.out)
 have HFR := Hd hfr
 have HB6 := Hd hb6
 obtain ⟨wv,hwv,hU7,hV7,hkn,hfrm,hsz,ho1,ho2,ho3⟩ := Adr (u := w.heap.size + 5) (v := w.heap.size + 6) (by omega) (Kz := Z.1) Z.2.1 HU6.out HV6.out hk6 (fun x hx => by have := hfr.1 x hx; have := HS.out; omega) (fun x hx => by have := hfr.2 x hx; have := HS.out; omega)
 have HKN := Hd hkn
 have HEND := Hd (show Below w.heap.size w wv from ⟨ho1.trans (hb6.os.trans HB.out.os),ho2.trans (hb6.tape.trans HB.out.tape),ho3.trans (hb6.output.trans HB.out.output),by have := hb6.size; have := HB.out.size; omega,fun k hk => (hfrm k (by omega) (by omega)).trans ((hb6.block k (by have := HB.out.size; omega)).trans (HB.out.block k hk))⟩)
 have d0 := bC hV7 0
 have d1 := bC hV7 1
 have d2 := bC hV7 2
 have d3 := bC hV7 3
 have d4 := bC hV7 4
 have d5 := bC hV7 5
 have d6 := bC hV7 6
 have d7 := bC hV7 7
 have d8 := bC hV7 8
 have d9 := bC hV7 9
 have e0 := bC hU7 0
 have e1 := bC hU7 1
 have e2 := bC hU7 2
 have e3 := bC hU7 3
 have e4 := bC hU7 4
 have e5 := bC hU7 5
 have e6 := bC hU7 6
 have a0 := bC HU6.out 0
 have a1 := bC HU6.out 1
 have a2 := bC HU6.out 2
 have a3 := bC HU6.out 3
 have a4 := bC HU6.out 4
 have a5 := bC HU6.out 5
 have a6 := bC HU6.out 6
 have b0 := bF HU6.out 0
 have b1 := bF HU6.out 1
 have b2 := bF HU6.out 2
 have b3 := bF HU6.out 3
 have b4 := bF HU6.out 4
 have b5 := bF HU6.out 5
 have b6 := bF HU6.out 6
 have m0 := bC HV6.out 0
 have m1 := bC HV6.out 1
 have m2 := bC HV6.out 2
 have m3 := bC HV6.out 3
 have m4 := bC HV6.out 4
 have m5 := bC HV6.out 5
 have m6 := bC HV6.out 6
 have m7 := bC HV6.out 7
 have m8 := bC HV6.out 8
 have m9 := bC HV6.out 9
 have n0 := bF HV6.out 0
 have n1 := bF HV6.out 1
 have n2 := bF HV6.out 2
 have n3 := bF HV6.out 3
 have n4 := bF HV6.out 4
 have n5 := bF HV6.out 5
 have n6 := bF HV6.out 6
 have n7 := bF HV6.out 7
 have n8 := bF HV6.out 8
 have n9 := bF HV6.out 9
 have ul := lt_of_block HU6.out
 have vl := lt_of_block HV6.out
 have HWV := Hd hwv
 clear hwv hk6 hfr hb6 hbo hkn hfrm hsz ho1 ho2 ho3 hU7 hV7 q0 q1 q2 q3 q4 q5 q6 r0 r1 r2 r3 r4 r5 r6 r7 r8 r9
 go_wp2_with fail
 change bodyPost _ _ _ _ _ ((put7 w6 (w.heap.size + 5) (.slice A'.ta Z.1.tree.length A'.tc) (.int .i64 Z.1.m) (.int .i64 Z.1.b) (.slice A'.pa Z.1.pipes.length A'.pc) (.slice A'.oa Z.1.opens.length A'.oc) (.string ⟨Z.1.out0.toArray⟩) (.string ⟨Z.1.out1.toArray⟩)).setCells (w.heap.size + 6) 0 [.int .i64 (fdA Z.2.1 0),.int .i64 (fdA Z.2.1 1),.int .i64 (fdA Z.2.1 2),.int .i64 (fdA Z.2.1 3),.int .i64 (fdA Z.2.1 4),.int .i64 (fdA Z.2.1 5),.int .i64 (fdA Z.2.1 6),.int .i64 (fdA Z.2.1 7),.int .i64 (fdA Z.2.1 8),.int .i64 (fdA Z.2.1 9)])
 rw [← HWV.out]
 exact bodyPost_ret (v := .tuple #[.agg #[.slice A'.ta Z.1.tree.length A'.tc,.int .i64 Z.1.m,.int .i64 Z.1.b,.slice A'.pa Z.1.pipes.length A'.pc,.slice A'.oa Z.1.opens.length A'.oc,.string ⟨Z.1.out0.toArray⟩,.string ⟨Z.1.out1.toArray⟩],.agg #[.int .i64 (fdA Z.2.1 0),.int .i64 (fdA Z.2.1 1),.int .i64 (fdA Z.2.1 2),.int .i64 (fdA Z.2.1 3),.int .i64 (fdA Z.2.1 4),.int .i64 (fdA Z.2.1 5),.int .i64 (fdA Z.2.1 6),.int .i64 (fdA Z.2.1 7),.int .i64 (fdA Z.2.1 8),.int .i64 (fdA Z.2.1 9)],.int .i64 Z.2.2]) (by simp [results,Tryz.results24,go_sem,e0,e1,e2,e3,e4,e5,e6,d0,d1,d2,d3,d4,d5,d6,d7,d8,d9]) rfl ⟨⟨A',rfl,HKN.out,HFR.out.less (by have := HS.out; omega)⟩,HEND.out⟩
theorem Ajm {W : World} {c : Nat} {t : TypeId} {v : Value} (h : W.heap[c]? = some (.cells #[v] t (0,0))) : Aj6 W c := by
 intro j s u _ h2
 rw [bC h] at h2
 simp at h2
theorem Wk.but {W : World} {B g : Nat} {A : KAd} {K : Krn} {f : List Int} (h : Wk W B g A K f) {c : Nat} {old : Value} {t : TypeId} (hcB : c < B) (hc : W.heap[c]? = some (.cells #[old] t (0,0))) (new : Value) : Wk (W.setCell ⟨c,0,none⟩ new) B g A K f := by
 have hn : ¬ Own3 g A c := fun h3 => by have := (h.own3 h3).1; omega
 have hbut : But c W (W.setCell ⟨c,0,none⟩ new) := But.set W c 0 new
 have hnew : (W.setCell ⟨c,0,none⟩ new).heap[c]? = some (.cells #[new] t (0,0)) := Aa0 hc 0 new
 refine ⟨(hbut.block g (fun e => hn (.inl e.symm))).trans h.box,h.base,⟨Ac9 h.own.pipes fun x hx => hbut.block _ (fun e => hn (.inr (.inl ⟨x,hx,e⟩))),Ac9 h.own.opens fun x hx => hbut.block _ (fun e => hn (.inr (.inr ⟨x,hx,e⟩))),h.own.apart⟩,h.gp,h.go,fun W'' hw => ?_,h.flen⟩
 have hcw : W''.heap[c]? = some (.cells #[new] t (0,0)) := (hw c (by rw [hbut.size]; exact lt_of_block hc) hn).trans hnew
 have hback : (W''.setCell ⟨c,0,none⟩ old).heap[c]? = some (.cells #[old] t (0,0)) := Aa0 hcw 0 old
 have hb2 : But c W'' (W''.setCell ⟨c,0,none⟩ old) := But.set W'' c 0 old
 have hN : Aah (W''.setCell ⟨c,0,none⟩ old) A.ta A.tc K.tree := h.tree _ fun k hk hk3 => by
  by_cases e : k = c
  ·subst e
   exact hback.trans hc.symm
  ·exact (hb2.block k e).trans ((hw k (by rw [hbut.size]; exact hk) hk3).trans (hbut.block k e))
 exact Alz hN (Ajm hback) fun k hk => (hb2.block k hk).symm
theorem Aon {w W' : World} {c : Nat} {old new : Value} {t : TypeId} {A : KAd} {K : Krn} (hK : KernIn w A K) (hc : w.heap[c]? = some (.cells #[old] t (0,0))) (hW : W'.heap[c]? = some (.cells #[new] t (0,0))) (hb : BelowO (some c) w.heap.size w W') : KernIn W' A K := by
 have hback : (W'.setCell ⟨c,0,none⟩ old).heap[c]? = some (.cells #[old] t (0,0)) := Aa0 hW 0 old
 have hb2 : But c W' (W'.setCell ⟨c,0,none⟩ old) := But.set W' c 0 old
 have hbel : Below w.heap.size w (W'.setCell ⟨c,0,none⟩ old) := ⟨hb2.os.trans hb.os,hb2.tape.trans hb.tape,hb2.output.trans hb.output,by rw [hb2.size]; exact hb.size,fun k hk => by
  by_cases e : k = c
  ·subst e
   exact hback.trans hc.symm
  ·exact (hb2.block k e).trans (hb.block k hk (fun e2 => e (Option.some.inj e2).symm))⟩
 have h1 := hK.below hbel
 refine Agb h1 (Ajm hback) (fun k hk => (hb2.block k hk).symm) (fun x hx h0 e => ?_) (fun x hx h0 e => ?_)
 ·obtain ⟨b,o,ha,-,c1,-⟩ := h1.pipes.pip 0 h0
  rw [hx] at ha
  obtain rfl : x = ⟨b,o,none⟩ := by simpa using ha
  have e' : b = c := e
  subst e'
  rw [bC hback] at c1
  simp at c1
 ·obtain ⟨b,o,ha,-,c1,-⟩ := h1.opens.opn 0 h0
  rw [hx] at ha
  obtain rfl : x = ⟨b,o,none⟩ := by simpa using ha
  have e' : b = c := e
  subst e'
  rw [bC hback] at c1
  simp at c1
theorem BelowO.below_of {n : Nat} {w w' : World} {c : Nat} (h : BelowO (some c) n w w') {m : Nat} (hm : m ≤ c) (hn : m ≤ n) : Below m w w' := ⟨h.os,h.tape,h.output,h.size,fun k hk => h.block k (by omega) (fun e => by have := Option.some.inj e; omega)⟩
section
variable {L : List Ino} {k : Nat} {d : List UInt8}
end
def newK (t : List Ino) (m b : Int) (input : List UInt8) : Krn × List Int :=
 ({ tree := t,m := m,b := b,pipes := [⟨input,1,0,max (input.length : Int) 1⟩],opens := [⟨2,0,0,1,1⟩,⟨4,0,0,2,1⟩,⟨4,1,0,2,1⟩],out0 := [],out1 := [] },[1,2,3,0,0,0,0,0,0,0])
theorem Aw4 {t : List Ino} {m b : Int} (hF : FitP t m b) {input : List UInt8} (hi : input.length ≤ 65536) : FitK (newK t m b input).1 (newK t m b input).2 := by
 refine ⟨hF,(by show (1 : Nat) ≤ 32; decide),(by show (3 : Nat) ≤ 64; decide),Nat.zero_le _,Nat.zero_le _,fun i h => ?_,fun i h => ?_,rfl,fun i h => ?_⟩
 ·have h3 : i < 3 := h
  match i,h3 with
  | 0,_ => exact Aho rfl rfl (.inr (.inl ⟨rfl,⟨0,(by show (0 : Nat) < 1; decide),rfl⟩,rfl,rfl⟩))
  | 1,_ => exact Aho rfl rfl (.inr (.inr (.inr ⟨rfl,.inl rfl,rfl,rfl⟩)))
  | 2,_ => exact Aho rfl rfl (.inr (.inr (.inr ⟨rfl,.inr rfl,rfl,rfl⟩)))
 ·have h1 : i < 1 := h
  obtain rfl : i = 0 := by omega
  refine ⟨Adu.2 ?_,?_,.inl ?_⟩
  ·show (0 : Int) ≤ 1 ∧ (1 : Int) ≤ 1000 ∧ (0 : Int) ≤ 0 ∧ (0 : Int) ≤ 1000 ∧ 1 ≤ max (input.length : Int) 1 ∧ max (input.length : Int) 1 ≤ 65536 ∧ (input.length : Int) ≤ max (input.length : Int) 1
   omega
  ·show (1 : Int) = (Abl [⟨2,0,0,1,1⟩,⟨4,0,0,2,1⟩,⟨4,1,0,2,1⟩] 2 0 : Int) + 0
   decide
  ·show (0 : Int) = (Abl [⟨2,0,0,1,1⟩,⟨4,0,0,2,1⟩,⟨4,1,0,2,1⟩] 3 0 : Int) + 0
   decide
 ·have h10 : i < 10 := h
  match i,h10 with
  | 0,_ => exact .inr ⟨0,(by show (0 : Nat) < 3; decide),rfl,(by show (2 : Int) ≠ 0; decide),(by show (([1,2,3,0,0,0,0,0,0,0] : List Int).count 1 : Int) ≤ 1; decide)⟩
  | 1,_ => exact .inr ⟨1,(by show (1 : Nat) < 3; decide),rfl,(by show (4 : Int) ≠ 0; decide),(by show (([1,2,3,0,0,0,0,0,0,0] : List Int).count 2 : Int) ≤ 1; decide)⟩
  | 2,_ => exact .inr ⟨2,(by show (2 : Nat) < 3; decide),rfl,(by show (4 : Int) ≠ 0; decide),(by show (([1,2,3,0,0,0,0,0,0,0] : List Int).count 3 : Int) ≤ 1; decide)⟩
  | 3,_ => exact .inl rfl
  | 4,_ => exact .inl rfl
  | 5,_ => exact .inl rfl
  | 6,_ => exact .inl rfl
  | 7,_ => exact .inl rfl
  | 8,_ => exact .inl rfl
  | 9,_ => exact .inl rfl
structure Reading (k : Krn) (f : List Int) (n : Nat) (want : List UInt8) (off : Nat) : Prop where
 fit : FitK k f
 fd : f.getD 4 0 = 4
 h3 : 3 < k.opens.length
 op : k.opens[3] = ⟨1,(n : Int),(off : Int),1,1⟩
 hn : n < k.tree.length
 kind : k.tree[n].kind = 1
 data : k.tree[n].data = want
section
variable {B g : Nat} {A : KAd} {K : Krn} {f : List Int}
theorem Azr (b c d : Nat) (fd n : Int) (old : Value) (w : World) (hW : Wk w B g A K f) (hF : FitK K f) (hBw : B ≤ w.heap.size) (hb : w.cell? ⟨b,0,none⟩ = some (.int .i64 fd)) (hc : w.cell? ⟨c,0,none⟩ = some (.int .i64 n)) (hdB : d < B) (hd : w.heap[d]? = some (.cells #[old] 9 (0,0))) :
  Calls Tryz.prog 66 #[.pointer (some ⟨g,0,none⟩),.pointer (some ⟨b,0,none⟩),.pointer (some ⟨c,0,none⟩),.pointer (some ⟨d,0,none⟩)] w (Agv B g (some d) (fun W => W.heap[d]? = some (.cells #[.string ⟨(Adb K f fd n).2.1.toArray⟩] 9 (0,0))) ((Adb K f fd n).1,f,(Adb K f fd n).2.2) w) := by
 have HC := Hd (Azx fd n w hW hF hBw)
 obtain ⟨Z,hZ⟩ : ∃ Z,Z = Adb K f fd n := ⟨_,rfl⟩
 rw [← hZ] at HC ⊢
 have HD := Hd hd
 have HDB := Hd hdB
 have HBW := Hd hBw
 have bl := Aaj hb
 have cl := Aaj hc
 clear hW hF hZ hd hdB hBw
 go_enter Tryz.func66,Tryz.ntmps66
 go_wp2_with fail
 refine HC.out.mono ?_
 rintro e w2 ⟨rfl,hb2,hwk⟩
 have HB2 := Hd hb2
 have HWK := Hd hwk
 have HD2 := Hd ((hb2.block d HDB.out).trans HD.out)
 have x0 := bC HD2.out 0
 have y0 := bF HD2.out 0
 have dl := lt_of_block HD2.out
 clear hb2 hwk
 go_wp2_with fail
 go_ret
 have hbt : But d w2 (w2.setCell ⟨d,0,none⟩ (.string ⟨Z.2.1.toArray⟩)) := But.set ..
 refine ⟨rfl,⟨hbt.os.trans HB2.out.os,hbt.tape.trans HB2.out.tape,hbt.output.trans HB2.out.output,by rw [hbt.size]; exact HB2.out.size,fun k hk hn => (hbt.block k (fun e => hn (by rw [e]))).trans (HB2.out.block k hk)⟩,fun h => ?_,Aa0 HD2.out 0 _⟩
 obtain ⟨A',h2⟩ := HWK.out h
 exact ⟨A',h2.but HDB.out HD2.out _⟩
theorem Ayj (b c d : Nat) (fd : Int) (S : ByteArray) (hS : S.size ≤ 1000000) (old : Value) (w : World) (hW : Wk w B g A K f) (hF : FitK K f) (hBw : B ≤ w.heap.size) (hb : w.cell? ⟨b,0,none⟩ = some (.int .i64 fd)) (hc : w.cell? ⟨c,0,none⟩ = some (.string S)) (hdB : d < B) (hd : w.heap[d]? = some (.cells #[old] 3 (0,0))) :
  Calls Tryz.prog 70 #[.pointer (some ⟨g,0,none⟩),.pointer (some ⟨b,0,none⟩),.pointer (some ⟨c,0,none⟩),.pointer (some ⟨d,0,none⟩)] w (Agv B g (some d) (fun W => W.heap[d]? = some (.cells #[.int .i64 (Ab5 K f fd S.data.toList).2.1] 3 (0,0))) ((Ab5 K f fd S.data.toList).1,f,(Ab5 K f fd S.data.toList).2.2) w) := by
 have HC := Hd (Ax5 fd S hS w hW hF hBw)
 obtain ⟨Z,hZ⟩ : ∃ Z,Z = Ab5 K f fd S.data.toList := ⟨_,rfl⟩
 rw [← hZ] at HC ⊢
 have HD := Hd hd
 have HDB := Hd hdB
 have HBW := Hd hBw
 have bl := Aaj hb
 have cl := Aaj hc
 clear hW hF hZ hd hdB hBw
 go_enter Tryz.func70,Tryz.ntmps70
 go_wp2_with fail
 refine HC.out.mono ?_
 rintro e w2 ⟨rfl,hb2,hwk⟩
 have HB2 := Hd hb2
 have HWK := Hd hwk
 have HD2 := Hd ((hb2.block d HDB.out).trans HD.out)
 have x0 := bC HD2.out 0
 have y0 := bF HD2.out 0
 have dl := lt_of_block HD2.out
 clear hb2 hwk
 go_wp2_with fail
 go_ret
 have hbt : But d w2 (w2.setCell ⟨d,0,none⟩ (.int .i64 Z.2.1)) := But.set ..
 refine ⟨rfl,⟨hbt.os.trans HB2.out.os,hbt.tape.trans HB2.out.tape,hbt.output.trans HB2.out.output,by rw [hbt.size]; exact HB2.out.size,fun k hk hn => (hbt.block k (fun e => hn (by rw [e]))).trans (HB2.out.block k hk)⟩,fun h => ?_,Aa0 HD2.out 0 _⟩
 obtain ⟨A',h2⟩ := HWK.out h
 exact ⟨A',h2.but HDB.out HD2.out _⟩
end
section
variable {B g : Nat} {A : KAd} {K : Krn} {f : List Int}
theorem Bac (fd cwd how : Int) (pb : ByteArray) (hp : pb.size ≤ 1073741824) (w : World) (hW : Wk w B g A K f) (hF : FitK K f) (hBw : B ≤ w.heap.size) (hY : Ways w) (hgB : 0 < B) :
  Calls Tryz.prog 38 #[.pointer (some ⟨g,0,none⟩),.int .i64 fd,.int .i64 cwd,.string pb,.int .i64 how] w (Asd B g (Ah5 K f fd cwd pb.data.toList how) w) := by
 by_cases h1 : isFd fd = false
 ·have HE := Hd (show Ah5 K f fd cwd pb.data.toList how = (K,f,9) by unfold Ah5; rw [if_pos h1])
  have HFD := Hd h1
  rw [HE.out]
  clear hW hF hBw h1 hY
  go_enter Tryz.func38,Tryz.ntmps38
  go_wp2_with fail
  refine (Adx _ _).mono ?_
  rintro e w2 ⟨rfl,rfl⟩
  rw [HFD.out]
  go_wp2_with fail
  go_ret
  exact ⟨rfl,Below.refl _ _,fun h => absurd h (show ¬ (9 : Int) = 0 by decide)⟩
 have hfd : isFd fd = true := by simpa using h1
 have HFD := Hd hfd
 by_cases h2 : how < 0
 ·have HE := Hd (show Ah5 K f fd cwd pb.data.toList how = (K,f,22) by unfold Ah5; rw [if_neg h1,if_pos (.inl h2)])
  have hd1 : decide (how < 0) = true := decide_eq_true h2
  rw [HE.out]
  clear hW hF hBw h1 hY h2 hfd
  go_enter Tryz.func38,Tryz.ntmps38
  go_wp2_with fail
  refine (Adx _ _).mono ?_
  rintro e w2 ⟨rfl,rfl⟩
  rw [HFD.out]
  go_wp2_with fail
  go_ret
  exact ⟨rfl,Below.refl _ _,fun h => absurd h (show ¬ (22 : Int) = 0 by decide)⟩
 have hd1 : decide (how < 0) = false := decide_eq_false h2
 by_cases h3 : 5 ≤ how
 ·have HE := Hd (show Ah5 K f fd cwd pb.data.toList how = (K,f,22) by unfold Ah5; rw [if_neg h1,if_pos (.inr h3)])
  have hd2 : decide (5 ≤ how) = true := decide_eq_true h3
  rw [HE.out]
  clear hW hF hBw h1 hY h2 h3 hfd
  go_enter Tryz.func38,Tryz.ntmps38
  go_wp2_with fail
  refine (Adx _ _).mono ?_
  rintro e w2 ⟨rfl,rfl⟩
  rw [HFD.out]
  go_wp2_with fail
  go_ret
  exact ⟨rfl,Below.refl _ _,fun h => absurd h (show ¬ (22 : Int) = 0 by decide)⟩
 have hd2 : decide (5 ≤ how) = false := decide_eq_false h3
 obtain ⟨hw,rfl,hh⟩ : ∃ n : Nat,how = (n : Int) ∧ n < 5 := ⟨how.toNat,by omega,by omega⟩
 obtain ⟨q,rfl,hq⟩ := Ach hfd
 have hOL : Ah5 K f (q : Int) cwd pb.data.toList (hw : Int) = (if (Aaz K.tree K.b cwd pb.data.toList (hw : Int)).2.2 ≠ 0 then (K,f,(Aaz K.tree K.b cwd pb.data.toList (hw : Int)).2.2) else
   if (putK K.opens ⟨1,(Aaz K.tree K.b cwd pb.data.toList (hw : Int)).2.1,0,(Aa3 (hw : Int)).2,0⟩).2 = 0 then (K,f,24) else
   ((Adg { K with tree := (Aaz K.tree K.b cwd pb.data.toList (hw : Int)).1,opens := (putK K.opens ⟨1,(Aaz K.tree K.b cwd pb.data.toList (hw : Int)).2.1,0,(Aa3 (hw : Int)).2,0⟩).1 } f q ((putK K.opens ⟨1,(Aaz K.tree K.b cwd pb.data.toList (hw : Int)).2.1,0,(Aa3 (hw : Int)).2,0⟩).2 - 1).toNat).1,
    (Adg { K with tree := (Aaz K.tree K.b cwd pb.data.toList (hw : Int)).1,opens := (putK K.opens ⟨1,(Aaz K.tree K.b cwd pb.data.toList (hw : Int)).2.1,0,(Aa3 (hw : Int)).2,0⟩).1 } f q ((putK K.opens ⟨1,(Aaz K.tree K.b cwd pb.data.toList (hw : Int)).2.1,0,(Aa3 (hw : Int)).2,0⟩).2 - 1).toNat).2,0)) := by
  unfold Ah5
  rw [if_neg h1,if_neg (by omega),Int.toNat_natCast]
 have HFI := Hd (Bad hw hh cwd pb hp w hW hF hBw hY hgB)
 obtain ⟨⟨L1,ino,e1⟩,htg⟩ : ∃ z,Aaz K.tree K.b cwd pb.data.toList (hw : Int) = z := ⟨_,rfl⟩
 rw [htg] at HFI hOL
 simp only at hOL
 have HW := Hd hW
 have HBw := Hd hBw
 have HYB := Hd (show ∀ W,Below B w W → W.cell? ⟨0,hw * 3 + 1,none⟩ = some (.int .i64 (Aa3 (hw : Int)).2) ∧ 0 < W.heap.size from fun W hb => by
  have h := ((hY.low hb hgB).at_ hw hh).2.1
  exact ⟨h,Aaj h⟩)
 have c0 : (0 : Int) ≤ (hw : Int) := by omega
 have c1 : (hw : Int) < 5 := by omega
 by_cases he1 : e1 = 0
 rotate_left
 ·rw [if_pos he1] at hOL
  have HE := Hd hOL
  rw [HE.out]
  have hb1 : (e1 != 0) = true := by rw [bne_iff_ne]; exact he1
  have HE1 := Hd he1
  clear hW hF hBw h1 hY h2 h3 hfd htg he1 hOL hh
  go_enter Tryz.func38,Tryz.ntmps38
  go_wp2_with fail
  refine (Adx _ _).mono ?_
  rintro e w2 ⟨rfl,rfl⟩
  rw [HFD.out]
  go_wp2_with fail
  refine HFI.out.mono ?_
  rintro e w3 ⟨ino',rfl,hb3,-⟩
  have HB3 := Hd hb3
  clear hb3
  go_wp2_with fail
  go_ret
  exact ⟨rfl,HB3.out,fun h => absurd h HE1.out⟩
 subst he1
 rw [if_neg (by omega)] at hOL
 obtain ⟨hT1,hT2,-⟩ := Amm hF.tree htg
 obtain ⟨K2,hK2⟩ : ∃ k : Krn,k = { K with tree := L1 } := ⟨_,rfl⟩
 have hK2o : K2.opens = K.opens := by rw [hK2]
 obtain ⟨x,hx⟩ : ∃ x : Opn,x = ⟨1,ino,0,(Aa3 (hw : Int)).2,0⟩ := ⟨_,rfl⟩
 obtain ⟨⟨O1,i1,e2⟩,hz1⟩ : ∃ z,Abv K2 x = z := ⟨_,rfl⟩
 have hp1 := Ak0 K2 x
 rw [hz1,hK2o] at hp1
 simp only at hp1
 have he2 := Ale K2 x
 rw [hz1] at he2
 simp only at he2
 rw [← hx,hp1] at hOL
 simp only at hOL
 have HK2 := Hd hK2
 have HZ1 := Hd hz1
 have HX := Hd hx
 have hno := hF.no
 have HDE := Hd (fun A' W (h : Wk W B g A' K2 f) (hb : B ≤ W.heap.size) => Afa 1 ino 0 (Aa3 (hw : Int)).2 0 W h (by rw [hK2o]; omega) hb)
 by_cases h6 : e2 = 0
 rotate_left
 ·obtain rfl : e2 = 24 := he2.resolve_left h6
  rw [if_pos (by simp)] at hOL
  have HE := Hd hOL
  rw [HE.out]
  clear hW hF hBw h1 hY h2 h3 hfd htg hOL hh hT1 hT2 hK2 hz1 hx hp1 he2 h6 hK2o hno
  go_enter Tryz.func38,Tryz.ntmps38
  go_wp2_with fail
  refine (Adx _ _).mono ?_
  rintro e w2 ⟨rfl,rfl⟩
  rw [HFD.out]
  go_wp2_with fail
  refine HFI.out.mono ?_
  rintro e w3 ⟨ino',rfl,hb3,hwk⟩
  obtain ⟨rfl,A3,hw3⟩ := hwk rfl
  simp only at hw3 ⊢
  rw [← HK2.out] at hw3
  have HB3 := Hd hb3
  have HW3 := Hd hw3
  obtain ⟨y1,yl⟩ := HYB.out _ hb3
  clear hb3 hwk hw3
  go_wp2_with fail
  refine (HDE.out _ _ HW3.out (Nat.le_trans HBw.out HB3.out.size)).mono ?_
  rintro e w4 ⟨rfl,A4,-,hs4⟩
  rw [← HX.out,HZ1.out]
  have HB4 := Hd (HB3.out.trans (HW3.out.low hs4 (Nat.le_trans HBw.out HB3.out.size)))
  clear hs4 y1 yl
  go_wp2_with fail
  go_ret
  exact ⟨rfl,HB4.out,fun h => absurd h (show ¬ (24 : Int) = 0 by decide)⟩
 subst h6
 simp only [if_pos] at hp1
 rw [if_neg (by simp; omega)] at hOL
 obtain ⟨K4,hK4⟩ : ∃ k : Krn,k = { K2 with opens := O1 } := ⟨_,rfl⟩
 have hK4o : K4.opens = O1 := by rw [hK4]
 have hK4t : K4.tree = L1 := by rw [hK4,hK2]
 have hK4p : K4.pipes = K.pipes := by rw [hK4,hK2]
 have hOL2 : Ah5 K f (q : Int) cwd pb.data.toList (hw : Int) = ((Adg K4 f q i1).1,(Adg K4 f q i1).2,0) := by
  rw [hOL]
  simp only [if_pos]
  rw [show ((i1 : Int) + 1 - 1).toNat = i1 by omega]
  have e : ({ K with tree := L1,opens := O1 } : Krn) = K4 := by rw [hK4,hK2]
  rw [e]
 have HE := Hd hOL2
 obtain ⟨j1,ej1,⟨hj1,hOj1⟩,hkeep1⟩ := Ag1 hp1 (by omega)
 obtain rfl : i1 = j1 := by omega
 have hL4 : Led K4 f q := Ala (Ad0 hF hq) rfl (fun i hi _ hk => by
  obtain ⟨-,a1,a2⟩ := hkeep1 i hi hk
  exact ⟨by rw [hK4o]; exact a1,by simp only [hK4o]; exact a2⟩) (by rw [hK4t]; exact hT2) (by rw [hK4p]; exact Nat.le_refl _)
 have hP4 : Agu K4 := by
  unfold Agu
  rw [hK4p]
  exact Af6 hF
 have hR4 : Aed K4 := by
  have a1 : Aed { K with opens := O1 } := by
   have h := Akm (K := K) (o := x) (Akp hF) (by rw [hx]; exact (show (0 : Int) ≤ 0 ∧ (0 : Int) ≤ 1000 by decide))
   rw [hp1] at h
   exact h
  intro i hi
  have hi' : i < O1.length := by rw [hK4o] at hi; exact hi
  have h := a1 i hi'
  simp only [hK4o]
  exact h
 have hO1l : K4.opens.length ≤ 1000 := by
  rw [hK4o]
  rcases Ae5 hp1 (by omega) with ⟨i,hi,-,rfl,-⟩ | ⟨hl,rfl,-⟩
  ·rw [List.length_set]; omega
  ·rw [List.length_append]; simp; omega
 have HLD := Hd (fun A' W (h : Wk W B g A' K4 f) => Apa q i1 hq W h hO1l hL4 hP4 hR4 (by rw [hK4o]; exact hj1))
 have HK4 := Hd hK4
 rw [HE.out]
 clear hW hF hBw h1 hY h2 h3 hfd htg hOL hh hT1 hT2 hK2 hz1 hx hp1 he2 hK2o hno hOL2 hj1 hOj1 hkeep1 hL4 hP4 hR4 hO1l hK4 hK4o hK4t hK4p ej1
 go_enter Tryz.func38,Tryz.ntmps38
 go_wp2_with fail
 refine (Adx _ _).mono ?_
 rintro e w2 ⟨rfl,rfl⟩
 rw [HFD.out]
 go_wp2_with fail
 refine HFI.out.mono ?_
 rintro e w3 ⟨ino',rfl,hb3,hwk⟩
 obtain ⟨rfl,A3,hw3⟩ := hwk rfl
 simp only at hw3 ⊢
 rw [← HK2.out] at hw3
 have HB3 := Hd hb3
 have HW3 := Hd hw3
 obtain ⟨y1,yl⟩ := HYB.out _ hb3
 clear hb3 hwk hw3
 go_wp2_with fail
 refine (HDE.out _ _ HW3.out (Nat.le_trans HBw.out HB3.out.size)).mono ?_
 rintro e w4 ⟨rfl,A4,hw4,hs4⟩
 rw [← HX.out,HZ1.out] at hw4 ⊢
 simp only at hw4 ⊢
 rw [← HK4.out] at hw4
 have HW4 := Hd hw4
 have HS4 := Hd hs4
 clear hs4 hw4 y1 yl
 go_wp2_with fail
 refine (HLD.out _ _ HW4.out).mono ?_
 rintro e w5 ⟨rfl,hw5,hs5⟩
 have HW5 := Hd hw5
 have HB5 := Hd (HB3.out.trans (HW3.out.low (HS4.out.trans hs5) (Nat.le_trans HBw.out HB3.out.size)))
 clear hw5 hs5
 go_wp2_with fail
 go_ret
 exact ⟨rfl,HB5.out,fun _ => ⟨_,HW5.out⟩⟩
theorem Azt (b c d i : Nat) (fd cwd how : Int) (pb : ByteArray) (hp : pb.size ≤ 1073741824) (w : World) (hW : Wk w B g A K f) (hF : FitK K f) (hBw : B ≤ w.heap.size) (hY : Ways w) (hgB : 0 < B) (hb : w.cell? ⟨b,0,none⟩ = some (.int .i64 fd)) (hc : w.cell? ⟨c,0,none⟩ = some (.int .i64 cwd)) (hd : w.cell? ⟨d,0,none⟩ = some (.string pb)) (hi : w.cell? ⟨i,0,none⟩ = some (.int .i64 how)) :
  Calls Tryz.prog 37 #[.pointer (some ⟨g,0,none⟩),.pointer (some ⟨b,0,none⟩),.pointer (some ⟨c,0,none⟩),.pointer (some ⟨d,0,none⟩),.pointer (some ⟨i,0,none⟩)] w (Agv B g none (fun _ => True) (Ah7 K f fd cwd pb.data.toList how) w) := by
 have HC := Hd (Bac fd cwd how pb hp w hW hF hBw hY hgB)
 rw [Auh hF fd cwd pb.data.toList how] at HC
 obtain ⟨Z,hZ⟩ : ∃ Z,Z = Ah7 K f fd cwd pb.data.toList how := ⟨_,rfl⟩
 rw [← hZ] at HC ⊢
 have bl := Aaj hb
 have cl := Aaj hc
 have dl := Aaj hd
 have il := Aaj hi
 clear hW hF hZ hY
 go_enter Tryz.func37,Tryz.ntmps37
 go_wp2_with fail
 refine HC.out.mono ?_
 rintro e w2 ⟨rfl,hb2,hw2⟩
 have HB2 := Hd hb2
 have HW2 := Hd hw2
 clear hb2 hw2
 go_wp2_with fail
 go_ret
 exact ⟨rfl,.of_below HB2.out,HW2.out,trivial⟩
end

def ak0 : Krn := (newK (newT 4 100).nodes 4 100 [105,110]).1
def af0 : List Int := (newK (newT 4 100).nodes 4 100 [105,110]).2
def ak1 : Krn := (Adb ak0 af0 0 9).1
def ak2 : Krn := (Adb ak1 af0 0 9).1
def ak3 : Krn := (Ah7 ak2 af0 3 0 [102] 1).1
def af3 : List Int := (Ah7 ak2 af0 3 0 [102] 1).2.1
def ak4 : Krn := (Ab5 ak3 af3 3 [120]).1
def ak5 : Krn := (dupK ak4 af3 3 1).1
def af5 : List Int := (dupK ak4 af3 3 1).2.1
def ak6 : Krn := (Ab5 ak5 af5 1 [121]).1
theorem ak_1 : Adb ak0 af0 0 9 = (ak1,[105,110],0) := Prod.ext rfl (by decide +kernel)
theorem ak_2 : Adb ak1 af0 0 9 = (ak2,[],0) := Prod.ext rfl (by decide +kernel)
theorem ak_3 : Ah7 ak2 af0 3 0 [102] 1 = (ak3,af3,0) := Prod.ext rfl (Prod.ext rfl (by decide +kernel))
theorem ak_4 : Ab5 ak3 af3 3 [120] = (ak4,1,0) := Prod.ext rfl (by decide +kernel)
theorem ak_5 : dupK ak4 af3 3 1 = (ak5,af5,0) := Prod.ext rfl (Prod.ext rfl (by decide +kernel))
theorem ak_6 : Ab5 ak5 af5 1 [121] = (ak6,1,0) := Prod.ext rfl (by decide +kernel)
theorem At5 : FitK ak0 af0 := Aw4 (Auj (n := 4) (b := 100) (by decide) (by decide) (by decide) (by decide)) (by decide)
theorem Atr : FitK ak1 af0 := (Aoc At5 ak_1).1
theorem Ary : FitK ak2 af0 := (Aoc Atr ak_2).1
theorem Asj : FitK ak3 af3 := (Auc Ary ak_3).1
theorem Asv : FitK ak4 af3 := (Ajb Asj ak_4).1
theorem Ax9 : ak4.opens.all (fun o => decide (o.refs ≤ 900)) = true := by decide +kernel
theorem At7 : FitK ak5 af5 := (Bai Asv (fun o ho => by simpa using List.all_eq_true.1 Ax9 o ho) 3 1 ak_5).1
theorem Ax6 : FitK ak6 af5 := (Ajb At7 ak_6).1
theorem Ay2 : Acv ak6.tree 0 [102] true = (1,0) := by decide +kernel
theorem Ayz : (Aaf ak6.tree 1).data = [120,121] := by decide +kernel
theorem Azp : ak6.tree.length = 4 ∧ ak0.tree.length = 4 ∧ ak1.tree.length = 4 ∧ ak2.tree.length = 4 ∧ ak3.tree.length = 4 ∧ ak4.tree.length = 4 ∧ ak5.tree.length = 4 := by decide +kernel
end Go.Proofs.YtkdfbliiblojoaaGreatDoor
