import Derived.Test.YtkdfbliiblojoaaGreatDoorK45
import Derived.Test.YtkdfbliiblojoaaGreatDoorK38
set_option linter.all false
set_option maxRecDepth 100000
set_option maxHeartbeats 64000000
namespace Go.Proofs.YtkdfbliiblojoaaGreatDoor
open Go Go.RowKit
theorem Azv (w : World) (hW : Ways w) : Calls Tryz.prog 9 #[] w fun e w' => e = .returned (.bool true) ∧ Below w.heap.size w w' := by
 have hnew : ∀ w,Calls Tryz.prog 35 #[.int .i64 4,.int .i64 100] w fun e w' => (∃ a cap,e = .returned (.tuple #[.agg #[.slice a (newT 4 100).nodes.length cap,.int .i64 4,.int .i64 100],.int .i64 0]) ∧ Aah w' a cap (newT 4 100).nodes) ∧ Below w.heap.size w w' :=
  fun w => (Awx 4 100 (by decide) (by decide) (by decide) (by decide) w).mono fun e w' h => by
   obtain ⟨⟨v,rfl,a,cap,rfl,hN⟩,hb⟩ := h
   exact ⟨⟨a,cap,rfl,hN⟩,hb⟩
 have hfit := Auj (n := 4) (b := 100) (by decide) (by decide) (by decide) (by decide)
 have hK0 : newK (newT 4 100).nodes 4 100 [105,110] = (ak0,af0) := rfl
 have E1 := Hd ak_1
 have E2 := Hd ak_2
 have E3 := Hd ak_3
 have E4 := Hd ak_4
 have E5 := Hd ak_5
 have E6 := Hd ak_6
 have F0 := Hd At5
 have F1 := Hd Atr
 have F2 := Hd Ary
 have F3 := Hd Asj
 have F4 := Hd Asv
 have F5 := Hd At7
 have F6 := Hd Ax6
 have HWK := Hd Ay2
 have HDT := Hd Ayz
 have HL6 := Hd Azp.1
 obtain ⟨T,hT⟩ : ∃ T,T = (newT 4 100).nodes := ⟨_,rfl⟩
 rw [← hT] at hnew hfit hK0
 obtain ⟨K0,h0⟩ : ∃ K,K = ak0 := ⟨_,rfl⟩
 obtain ⟨K1,h1⟩ : ∃ K,K = ak1 := ⟨_,rfl⟩
 obtain ⟨K2,h2⟩ : ∃ K,K = ak2 := ⟨_,rfl⟩
 obtain ⟨K3,h3⟩ : ∃ K,K = ak3 := ⟨_,rfl⟩
 obtain ⟨K4,h4⟩ : ∃ K,K = ak4 := ⟨_,rfl⟩
 obtain ⟨K5,h5⟩ : ∃ K,K = ak5 := ⟨_,rfl⟩
 obtain ⟨K6,h6⟩ : ∃ K,K = ak6 := ⟨_,rfl⟩
 obtain ⟨f0,g0⟩ : ∃ f,f = af0 := ⟨_,rfl⟩
 obtain ⟨f3,g3⟩ : ∃ f,f = af3 := ⟨_,rfl⟩
 obtain ⟨f5,g5⟩ : ∃ f,f = af5 := ⟨_,rfl⟩
 rw [← h0,← g0] at hK0 F0
 rw [← h0,← g0,← h1] at E1
 rw [← h1,← g0] at F1
 rw [← h1,← g0,← h2] at E2
 rw [← h2,← g0] at F2
 rw [← h2,← g0,← h3,← g3] at E3
 rw [← h3,← g3] at F3
 rw [← h3,← g3,← h4] at E4
 rw [← h4,← g3] at F4
 rw [← h4,← g3,← h5,← g5] at E5
 rw [← h5,← g5] at F5
 rw [← h5,← g5,← h6] at E6
 rw [← h6,← g5] at F6
 rw [← h6] at HWK HDT HL6
 have HFT := Hd hfit
 have HN0 := Hd hK0
 have HNEW := Hd hnew
 have HY0 := Hd hW
 clear hT h0 h1 h2 h3 h4 h5 h6 g0 g3 g5 hfit hK0 hnew hW
 go_enter Tryz.func9,Tryz.ntmps9
 go_wp2_with fail
 refine (HNEW.out _).mono ?_
 rintro e w1 ⟨⟨a,cap,rfl,hN⟩,hb1⟩
 obtain ⟨w2,hw2⟩ : ∃ z,z = w1.alloc (.cells #[.slice a T.length cap,.int .i64 4,.int .i64 100] 24) := ⟨_,rfl⟩
 have hb2 : Below w1.heap.size w1 w2 := by rw [hw2]; exact Aab w1 _
 have HX2 := Hd (show w2.heap[w1.heap.size]? = some (.cells #[.slice a T.length cap,.int .i64 4,.int .i64 100] 24 (0,0)) by rw [hw2]; exact Aae w1 _)
 have HW2 := Hd hw2
 have HN2 := Hd (hN.below hb2)
 have HB2 := Hd (hb1.trans (hb2.mono hb1.size))
 clear hw2 hb2 hN hb1
 go_upto_region 2 with fail
 have hh := HW2.out
 rw [← hh]
 clear hh
 have t0 := bC HX2.out 0
 have t1 := bC HX2.out 1
 have t2 := bC HX2.out 2
 have tl := lt_of_block HX2.out
 go_wp2_with fail
 have hnw := Axh a cap 4 100 T HFT.out ⟨#[105,110]⟩ (by decide) w2 HN2.out
 rw [show (⟨#[105,110]⟩ : ByteArray).data.toList = [105,110] from rfl,HN0.out] at hnw
 refine hnw.mono ?_
 rintro e w3 ⟨⟨A3,rfl,hk3,hfr3⟩,hb3⟩
 obtain ⟨w4,hw4,hb4,hs4,hX4,hY4⟩ := Aam w3 #[.slice A3.ta K0.tree.length A3.tc,.int .i64 K0.m,.int .i64 K0.b,.slice A3.pa K0.pipes.length A3.pc,.slice A3.oa K0.opens.length A3.oc,.string ⟨K0.out0.toArray⟩,.string ⟨K0.out1.toArray⟩] #[.int .i64 (fdA f0 0),.int .i64 (fdA f0 1),.int .i64 (fdA f0 2),.int .i64 (fdA f0 3),.int .i64 (fdA f0 4),.int .i64 (fdA f0 5),.int .i64 (fdA f0 6),.int .i64 (fdA f0 7),.int .i64 (fdA f0 8),.int .i64 (fdA f0 9)] 29 31
 have HUW := Hd (show w.heap.size ≤ w3.heap.size by have := HB2.out.size; have := hb3.size; omega)
 have HX := Hd hX4
 have HY := Hd hY4
 have HK := Hd (hk3.below hb4)
 have HB := Hd ((HB2.out.trans (hb3.mono HB2.out.size)).trans (hb4.mono HUW.out))
 have HS := Hd (show w3.heap.size + 2 ≤ w4.heap.size by omega)
 have HW := Hd hw4
 clear hw4 hb4 hs4 hX4 hY4 hk3 hfr3 hb3 hnw t0 t1 t2 tl
 go_upto_region 3 with fail
 have hh := HW.out
 rw [← hh]
 clear hh HW
 have q0 := bC HX.out 0
 have q1 := bC HX.out 1
 have q2 := bC HX.out 2
 have q3 := bC HX.out 3
 have q4 := bC HX.out 4
 have q5 := bC HX.out 5
 have q6 := bC HX.out 6
 have ql := lt_of_block HX.out
 have c0 := bC HY.out 0
 have c1 := bC HY.out 1
 have c2 := bC HY.out 2
 have c3 := bC HY.out 3
 have c4 := bC HY.out 4
 have c5 := bC HY.out 5
 have c6 := bC HY.out 6
 have c7 := bC HY.out 7
 have c8 := bC HY.out 8
 have c9 := bC HY.out 9
 have cl := lt_of_block HY.out
 go_wp2_with fail
 have hc := Ag4 _ K0 f0 0 9 F0.out w4 HK.out
 rw [E1.out] at hc
 refine (hc).mono ?_
 rintro e w5_ ⟨⟨Aw5,rfl,hk,hfr⟩,hb⟩
 have hx := (hb.block (w3.heap.size) (by have := HS.out; omega)).trans HX.out
 have hy := (hb.block (w3.heap.size + 1) (by have := HS.out; omega)).trans HY.out
 have HBV := Hd (HB.out.trans (hb.mono HB.out.size))
 have HSV := Hd (show w3.heap.size + 2 ≤ w5_.heap.size by have := HS.out; have := hb.size; omega)
 obtain ⟨w5,hw,hx2,hy2,hk2,hsz,hbl⟩ := Afn hx hy hk (fun x h => by have := hfr.1 x h; have := HS.out; omega) (fun x h => by have := hfr.2 x h; have := HS.out; omega)
 clear q0 q1 q2 q3 q4 q5 q6 ql c0 c1 c2 c3 c4 c5 c6 c7 c8 c9 cl
 have HXO := Hd hx
 have HYO := Hd hy
 have u0 := bC hx 0
 have u1 := bC hx 1
 have u2 := bC hx 2
 have u3 := bC hx 3
 have u4 := bC hx 4
 have u5 := bC hx 5
 have u6 := bC hx 6
 have v0 := bF hx 0
 have v1 := bF hx 1
 have v2 := bF hx 2
 have v3 := bF hx 3
 have v4 := bF hx 4
 have v5 := bF hx 5
 have v6 := bF hx 6
 have ul := lt_of_block hx
 have HX := Hd hx2
 have HY := Hd hy2
 have HK := Hd hk2
 have HB := Hd (hbl w w.heap.size (by have := HBV.out.size; have := HUW.out; omega) HBV.out)
 have HS := Hd (show w3.heap.size + 2 ≤ w5.heap.size by rw [hsz]; exact HSV.out)
 have HW := Hd hw
 clear hc hk hfr hb hx hy hx2 hy2 hk2 hsz hbl hw
 go_upto_region 4 with fail
 change Code.wp _ _ _ _ (put7 w5_ (w3.heap.size) (.slice Aw5.ta K1.tree.length Aw5.tc) (.int .i64 K1.m) (.int .i64 K1.b) (.slice Aw5.pa K1.pipes.length Aw5.pc) (.slice Aw5.oa K1.opens.length Aw5.oc) (.string ⟨K1.out0.toArray⟩) (.string ⟨K1.out1.toArray⟩))
 rw [← HW.out]
 clear HW HXO HYO HBV HSV u0 u1 u2 u3 u4 u5 u6 v0 v1 v2 v3 v4 v5 v6 ul
 have q0 := bC HX.out 0
 have q1 := bC HX.out 1
 have q2 := bC HX.out 2
 have q3 := bC HX.out 3
 have q4 := bC HX.out 4
 have q5 := bC HX.out 5
 have q6 := bC HX.out 6
 have ql := lt_of_block HX.out
 have c0 := bC HY.out 0
 have c1 := bC HY.out 1
 have c2 := bC HY.out 2
 have c3 := bC HY.out 3
 have c4 := bC HY.out 4
 have c5 := bC HY.out 5
 have c6 := bC HY.out 6
 have c7 := bC HY.out 7
 have c8 := bC HY.out 8
 have c9 := bC HY.out 9
 have cl := lt_of_block HY.out
 go_wp2_with fail
 have hc := Ag4 _ K1 f0 0 9 F1.out w5 HK.out
 rw [E2.out] at hc
 refine (hc).mono ?_
 rintro e w6_ ⟨⟨Aw6,rfl,hk,hfr⟩,hb⟩
 have hx := (hb.block (w3.heap.size) (by have := HS.out; omega)).trans HX.out
 have hy := (hb.block (w3.heap.size + 1) (by have := HS.out; omega)).trans HY.out
 have HBV := Hd (HB.out.trans (hb.mono HB.out.size))
 have HSV := Hd (show w3.heap.size + 2 ≤ w6_.heap.size by have := HS.out; have := hb.size; omega)
 obtain ⟨w6,hw,hx2,hy2,hk2,hsz,hbl⟩ := Afn hx hy hk (fun x h => by have := hfr.1 x h; have := HS.out; omega) (fun x h => by have := hfr.2 x h; have := HS.out; omega)
 clear q0 q1 q2 q3 q4 q5 q6 ql c0 c1 c2 c3 c4 c5 c6 c7 c8 c9 cl
 have HXO := Hd hx
 have HYO := Hd hy
 have u0 := bC hx 0
 have u1 := bC hx 1
 have u2 := bC hx 2
 have u3 := bC hx 3
 have u4 := bC hx 4
 have u5 := bC hx 5
 have u6 := bC hx 6
 have v0 := bF hx 0
 have v1 := bF hx 1
 have v2 := bF hx 2
 have v3 := bF hx 3
 have v4 := bF hx 4
 have v5 := bF hx 5
 have v6 := bF hx 6
 have ul := lt_of_block hx
 have HX := Hd hx2
 have HY := Hd hy2
 have HK := Hd hk2
 have HB := Hd (hbl w w.heap.size (by have := HBV.out.size; have := HUW.out; omega) HBV.out)
 have HS := Hd (show w3.heap.size + 2 ≤ w6.heap.size by rw [hsz]; exact HSV.out)
 have HW := Hd hw
 clear hc hk hfr hb hx hy hx2 hy2 hk2 hsz hbl hw
 go_upto_region 5 with fail
 change Code.wp _ _ _ _ (put7 w6_ (w3.heap.size) (.slice Aw6.ta K2.tree.length Aw6.tc) (.int .i64 K2.m) (.int .i64 K2.b) (.slice Aw6.pa K2.pipes.length Aw6.pc) (.slice Aw6.oa K2.opens.length Aw6.oc) (.string ⟨K2.out0.toArray⟩) (.string ⟨K2.out1.toArray⟩))
 rw [← HW.out]
 clear HW HXO HYO HBV HSV u0 u1 u2 u3 u4 u5 u6 v0 v1 v2 v3 v4 v5 v6 ul
 have q0 := bC HX.out 0
 have q1 := bC HX.out 1
 have q2 := bC HX.out 2
 have q3 := bC HX.out 3
 have q4 := bC HX.out 4
 have q5 := bC HX.out 5
 have q6 := bC HX.out 6
 have ql := lt_of_block HX.out
 have c0 := bC HY.out 0
 have c1 := bC HY.out 1
 have c2 := bC HY.out 2
 have c3 := bC HY.out 3
 have c4 := bC HY.out 4
 have c5 := bC HY.out 5
 have c6 := bC HY.out 6
 have c7 := bC HY.out 7
 have c8 := bC HY.out 8
 have c9 := bC HY.out 9
 have cl := lt_of_block HY.out
 go_wp2_with fail
 have hc := Auf _ K2 f0 3 0 ⟨#[102]⟩ (by decide) 1 F2.out w6 HK.out (HY0.out.below HB.out (Nat.le_refl _))
 rw [show (⟨#[102]⟩ : ByteArray).data.toList = [102] from rfl,E3.out] at hc
 refine (hc).mono ?_
 rintro e w7_ ⟨⟨Aw7,rfl,hk,hfr⟩,hb⟩
 have hx := (hb.block (w3.heap.size) (by have := HS.out; omega)).trans HX.out
 have hy := (hb.block (w3.heap.size + 1) (by have := HS.out; omega)).trans HY.out
 have HBV := Hd (HB.out.trans (hb.mono HB.out.size))
 have HSV := Hd (show w3.heap.size + 2 ≤ w7_.heap.size by have := HS.out; have := hb.size; omega)
 obtain ⟨w7,hw,hx2,hy2,hk2,hsz,hbl⟩ := Ajt (f3) hx hy hk (fun x h => by have := hfr.1 x h; have := HS.out; omega) (fun x h => by have := hfr.2 x h; have := HS.out; omega)
 clear q0 q1 q2 q3 q4 q5 q6 ql c0 c1 c2 c3 c4 c5 c6 c7 c8 c9 cl
 have HXO := Hd hx
 have HYO := Hd hy
 have u0 := bC hx 0
 have u1 := bC hx 1
 have u2 := bC hx 2
 have u3 := bC hx 3
 have u4 := bC hx 4
 have u5 := bC hx 5
 have u6 := bC hx 6
 have v0 := bF hx 0
 have v1 := bF hx 1
 have v2 := bF hx 2
 have v3 := bF hx 3
 have v4 := bF hx 4
 have v5 := bF hx 5
 have v6 := bF hx 6
 have ul := lt_of_block hx
 have m0 := bC hy 0
 have m1 := bC hy 1
 have m2 := bC hy 2
 have m3 := bC hy 3
 have m4 := bC hy 4
 have m5 := bC hy 5
 have m6 := bC hy 6
 have m7 := bC hy 7
 have m8 := bC hy 8
 have m9 := bC hy 9
 have n0 := bF hy 0
 have n1 := bF hy 1
 have n2 := bF hy 2
 have n3 := bF hy 3
 have n4 := bF hy 4
 have n5 := bF hy 5
 have n6 := bF hy 6
 have n7 := bF hy 7
 have n8 := bF hy 8
 have n9 := bF hy 9
 have ml := lt_of_block hy
 have HX := Hd hx2
 have HY := Hd hy2
 have HK := Hd hk2
 have HB := Hd (hbl w w.heap.size (by have := HBV.out.size; have := HUW.out; omega) HBV.out)
 have HS := Hd (show w3.heap.size + 2 ≤ w7.heap.size by rw [hsz]; exact HSV.out)
 have HW := Hd hw
 clear hc hk hfr hb hx hy hx2 hy2 hk2 hsz hbl hw
 go_upto_region 6 with fail
 change Code.wp _ _ _ _ ((put7 w7_ (w3.heap.size) (.slice Aw7.ta K3.tree.length Aw7.tc) (.int .i64 K3.m) (.int .i64 K3.b) (.slice Aw7.pa K3.pipes.length Aw7.pc) (.slice Aw7.oa K3.opens.length Aw7.oc) (.string ⟨K3.out0.toArray⟩) (.string ⟨K3.out1.toArray⟩)).setCells (w3.heap.size + 1) 0 [.int .i64 (fdA f3 0),.int .i64 (fdA f3 1),.int .i64 (fdA f3 2),.int .i64 (fdA f3 3),.int .i64 (fdA f3 4),.int .i64 (fdA f3 5),.int .i64 (fdA f3 6),.int .i64 (fdA f3 7),.int .i64 (fdA f3 8),.int .i64 (fdA f3 9)])
 rw [← HW.out]
 clear HW HXO HYO HBV HSV u0 u1 u2 u3 u4 u5 u6 v0 v1 v2 v3 v4 v5 v6 ul m0 m1 m2 m3 m4 m5 m6 m7 m8 m9 n0 n1 n2 n3 n4 n5 n6 n7 n8 n9 ml
 have q0 := bC HX.out 0
 have q1 := bC HX.out 1
 have q2 := bC HX.out 2
 have q3 := bC HX.out 3
 have q4 := bC HX.out 4
 have q5 := bC HX.out 5
 have q6 := bC HX.out 6
 have ql := lt_of_block HX.out
 have c0 := bC HY.out 0
 have c1 := bC HY.out 1
 have c2 := bC HY.out 2
 have c3 := bC HY.out 3
 have c4 := bC HY.out 4
 have c5 := bC HY.out 5
 have c6 := bC HY.out 6
 have c7 := bC HY.out 7
 have c8 := bC HY.out 8
 have c9 := bC HY.out 9
 have cl := lt_of_block HY.out
 go_wp2_with fail
 have hc := Akb _ K3 f3 3 ⟨#[120]⟩ (by decide) F3.out w7 HK.out
 rw [show (⟨#[120]⟩ : ByteArray).data.toList = [120] from rfl,E4.out] at hc
 refine (hc).mono ?_
 rintro e w8_ ⟨⟨Aw8,rfl,hk,hfr⟩,hb⟩
 have hx := (hb.block (w3.heap.size) (by have := HS.out; omega)).trans HX.out
 have hy := (hb.block (w3.heap.size + 1) (by have := HS.out; omega)).trans HY.out
 have HBV := Hd (HB.out.trans (hb.mono HB.out.size))
 have HSV := Hd (show w3.heap.size + 2 ≤ w8_.heap.size by have := HS.out; have := hb.size; omega)
 obtain ⟨w8,hw,hx2,hy2,hk2,hsz,hbl⟩ := Afn hx hy hk (fun x h => by have := hfr.1 x h; have := HS.out; omega) (fun x h => by have := hfr.2 x h; have := HS.out; omega)
 clear q0 q1 q2 q3 q4 q5 q6 ql c0 c1 c2 c3 c4 c5 c6 c7 c8 c9 cl
 have HXO := Hd hx
 have HYO := Hd hy
 have u0 := bC hx 0
 have u1 := bC hx 1
 have u2 := bC hx 2
 have u3 := bC hx 3
 have u4 := bC hx 4
 have u5 := bC hx 5
 have u6 := bC hx 6
 have v0 := bF hx 0
 have v1 := bF hx 1
 have v2 := bF hx 2
 have v3 := bF hx 3
 have v4 := bF hx 4
 have v5 := bF hx 5
 have v6 := bF hx 6
 have ul := lt_of_block hx
 have HX := Hd hx2
 have HY := Hd hy2
 have HK := Hd hk2
 have HB := Hd (hbl w w.heap.size (by have := HBV.out.size; have := HUW.out; omega) HBV.out)
 have HS := Hd (show w3.heap.size + 2 ≤ w8.heap.size by rw [hsz]; exact HSV.out)
 have HW := Hd hw
 clear hc hk hfr hb hx hy hx2 hy2 hk2 hsz hbl hw
 go_upto_region 7 with fail
 change Code.wp _ _ _ _ (put7 w8_ (w3.heap.size) (.slice Aw8.ta K4.tree.length Aw8.tc) (.int .i64 K4.m) (.int .i64 K4.b) (.slice Aw8.pa K4.pipes.length Aw8.pc) (.slice Aw8.oa K4.opens.length Aw8.oc) (.string ⟨K4.out0.toArray⟩) (.string ⟨K4.out1.toArray⟩))
 rw [← HW.out]
 clear HW HXO HYO HBV HSV u0 u1 u2 u3 u4 u5 u6 v0 v1 v2 v3 v4 v5 v6 ul
 have q0 := bC HX.out 0
 have q1 := bC HX.out 1
 have q2 := bC HX.out 2
 have q3 := bC HX.out 3
 have q4 := bC HX.out 4
 have q5 := bC HX.out 5
 have q6 := bC HX.out 6
 have ql := lt_of_block HX.out
 have c0 := bC HY.out 0
 have c1 := bC HY.out 1
 have c2 := bC HY.out 2
 have c3 := bC HY.out 3
 have c4 := bC HY.out 4
 have c5 := bC HY.out 5
 have c6 := bC HY.out 6
 have c7 := bC HY.out 7
 have c8 := bC HY.out 8
 have c9 := bC HY.out 9
 have cl := lt_of_block HY.out
 go_wp2_with fail
 have hc := Awm _ K4 f3 3 1 F4.out w8 HK.out
 rw [E5.out] at hc
 refine (hc).mono ?_
 rintro e w9_ ⟨⟨Aw9,rfl,hk,hfr⟩,hb⟩
 have hx := (hb.block (w3.heap.size) (by have := HS.out; omega)).trans HX.out
 have hy := (hb.block (w3.heap.size + 1) (by have := HS.out; omega)).trans HY.out
 have HBV := Hd (HB.out.trans (hb.mono HB.out.size))
 have HSV := Hd (show w3.heap.size + 2 ≤ w9_.heap.size by have := HS.out; have := hb.size; omega)
 obtain ⟨w9,hw,hx2,hy2,hk2,hsz,hbl⟩ := Ajt (f5) hx hy hk (fun x h => by have := hfr.1 x h; have := HS.out; omega) (fun x h => by have := hfr.2 x h; have := HS.out; omega)
 clear q0 q1 q2 q3 q4 q5 q6 ql c0 c1 c2 c3 c4 c5 c6 c7 c8 c9 cl
 have HXO := Hd hx
 have HYO := Hd hy
 have u0 := bC hx 0
 have u1 := bC hx 1
 have u2 := bC hx 2
 have u3 := bC hx 3
 have u4 := bC hx 4
 have u5 := bC hx 5
 have u6 := bC hx 6
 have v0 := bF hx 0
 have v1 := bF hx 1
 have v2 := bF hx 2
 have v3 := bF hx 3
 have v4 := bF hx 4
 have v5 := bF hx 5
 have v6 := bF hx 6
 have ul := lt_of_block hx
 have m0 := bC hy 0
 have m1 := bC hy 1
 have m2 := bC hy 2
 have m3 := bC hy 3
 have m4 := bC hy 4
 have m5 := bC hy 5
 have m6 := bC hy 6
 have m7 := bC hy 7
 have m8 := bC hy 8
 have m9 := bC hy 9
 have n0 := bF hy 0
 have n1 := bF hy 1
 have n2 := bF hy 2
 have n3 := bF hy 3
 have n4 := bF hy 4
 have n5 := bF hy 5
 have n6 := bF hy 6
 have n7 := bF hy 7
 have n8 := bF hy 8
 have n9 := bF hy 9
 have ml := lt_of_block hy
 have HX := Hd hx2
 have HY := Hd hy2
 have HK := Hd hk2
 have HB := Hd (hbl w w.heap.size (by have := HBV.out.size; have := HUW.out; omega) HBV.out)
 have HS := Hd (show w3.heap.size + 2 ≤ w9.heap.size by rw [hsz]; exact HSV.out)
 have HW := Hd hw
 clear hc hk hfr hb hx hy hx2 hy2 hk2 hsz hbl hw
 go_upto_region 8 with fail
 change Code.wp _ _ _ _ ((put7 w9_ (w3.heap.size) (.slice Aw9.ta K5.tree.length Aw9.tc) (.int .i64 K5.m) (.int .i64 K5.b) (.slice Aw9.pa K5.pipes.length Aw9.pc) (.slice Aw9.oa K5.opens.length Aw9.oc) (.string ⟨K5.out0.toArray⟩) (.string ⟨K5.out1.toArray⟩)).setCells (w3.heap.size + 1) 0 [.int .i64 (fdA f5 0),.int .i64 (fdA f5 1),.int .i64 (fdA f5 2),.int .i64 (fdA f5 3),.int .i64 (fdA f5 4),.int .i64 (fdA f5 5),.int .i64 (fdA f5 6),.int .i64 (fdA f5 7),.int .i64 (fdA f5 8),.int .i64 (fdA f5 9)])
 rw [← HW.out]
 clear HW HXO HYO HBV HSV u0 u1 u2 u3 u4 u5 u6 v0 v1 v2 v3 v4 v5 v6 ul m0 m1 m2 m3 m4 m5 m6 m7 m8 m9 n0 n1 n2 n3 n4 n5 n6 n7 n8 n9 ml
 have q0 := bC HX.out 0
 have q1 := bC HX.out 1
 have q2 := bC HX.out 2
 have q3 := bC HX.out 3
 have q4 := bC HX.out 4
 have q5 := bC HX.out 5
 have q6 := bC HX.out 6
 have ql := lt_of_block HX.out
 have c0 := bC HY.out 0
 have c1 := bC HY.out 1
 have c2 := bC HY.out 2
 have c3 := bC HY.out 3
 have c4 := bC HY.out 4
 have c5 := bC HY.out 5
 have c6 := bC HY.out 6
 have c7 := bC HY.out 7
 have c8 := bC HY.out 8
 have c9 := bC HY.out 9
 have cl := lt_of_block HY.out
 go_wp2_with fail
 have hc := Akb _ K5 f5 1 ⟨#[121]⟩ (by decide) F5.out w9 HK.out
 rw [show (⟨#[121]⟩ : ByteArray).data.toList = [121] from rfl,E6.out] at hc
 refine (hc).mono ?_
 rintro e w10_ ⟨⟨Aw10,rfl,hk,hfr⟩,hb⟩
 have hx := (hb.block (w3.heap.size) (by have := HS.out; omega)).trans HX.out
 have hy := (hb.block (w3.heap.size + 1) (by have := HS.out; omega)).trans HY.out
 have HBV := Hd (HB.out.trans (hb.mono HB.out.size))
 have HSV := Hd (show w3.heap.size + 2 ≤ w10_.heap.size by have := HS.out; have := hb.size; omega)
 obtain ⟨w10,hw,hx2,hy2,hk2,hsz,hbl⟩ := Afn hx hy hk (fun x h => by have := hfr.1 x h; have := HS.out; omega) (fun x h => by have := hfr.2 x h; have := HS.out; omega)
 clear q0 q1 q2 q3 q4 q5 q6 ql c0 c1 c2 c3 c4 c5 c6 c7 c8 c9 cl
 have HXO := Hd hx
 have HYO := Hd hy
 have u0 := bC hx 0
 have u1 := bC hx 1
 have u2 := bC hx 2
 have u3 := bC hx 3
 have u4 := bC hx 4
 have u5 := bC hx 5
 have u6 := bC hx 6
 have v0 := bF hx 0
 have v1 := bF hx 1
 have v2 := bF hx 2
 have v3 := bF hx 3
 have v4 := bF hx 4
 have v5 := bF hx 5
 have v6 := bF hx 6
 have ul := lt_of_block hx
 have HX := Hd hx2
 have HY := Hd hy2
 have HK := Hd hk2
 have HB := Hd (hbl w w.heap.size (by have := HBV.out.size; have := HUW.out; omega) HBV.out)
 have HS := Hd (show w3.heap.size + 2 ≤ w10.heap.size by rw [hsz]; exact HSV.out)
 have HW := Hd hw
 clear hc hk hfr hb hx hy hx2 hy2 hk2 hsz hbl hw
 go_upto_region 9 with fail
 change Code.wp _ _ _ _ (put7 w10_ (w3.heap.size) (.slice Aw10.ta K6.tree.length Aw10.tc) (.int .i64 K6.m) (.int .i64 K6.b) (.slice Aw10.pa K6.pipes.length Aw10.pc) (.slice Aw10.oa K6.opens.length Aw10.oc) (.string ⟨K6.out0.toArray⟩) (.string ⟨K6.out1.toArray⟩))
 rw [← HW.out]
 clear HW HXO HYO HBV HSV u0 u1 u2 u3 u4 u5 u6 v0 v1 v2 v3 v4 v5 v6 ul
 have q0 := bC HX.out 0
 have q1 := bC HX.out 1
 have q2 := bC HX.out 2
 have q3 := bC HX.out 3
 have q4 := bC HX.out 4
 have q5 := bC HX.out 5
 have q6 := bC HX.out 6
 have ql := lt_of_block HX.out
 have c0 := bC HY.out 0
 have c1 := bC HY.out 1
 have c2 := bC HY.out 2
 have c3 := bC HY.out 3
 have c4 := bC HY.out 4
 have c5 := bC HY.out 5
 have c6 := bC HY.out 6
 have c7 := bC HY.out 7
 have c8 := bC HY.out 8
 have c9 := bC HY.out 9
 have cl := lt_of_block HY.out
 go_wp2_with fail
 have hS6 : Alm K6.tree := Alv F6.out.tree
 refine (Ayp _ K6 f5 F6.out.len (by have := HL6.out; omega) hS6 (by have := F6.out.np; omega) (by have := F6.out.no; omega) true ⟨fun _ => F6.out,fun _ => rfl⟩ w10 HK.out).mono ?_
 rintro e w11 ⟨rfl,hb11⟩
 have HB11 := Hd (HB.out.trans (hb11.mono HB.out.size))
 have HX11 := Hd ((hb11.block _ ql).trans HX.out)
 have HK11 := Hd (HK.out.below hb11)
 clear hb11 q0 q1 q2 q3 q4 q5 q6 ql c0 c1 c2 c3 c4 c5 c6 c7 c8 c9 cl
 have q0 := bC HX11.out 0
 have q1 := bC HX11.out 1
 have q2 := bC HX11.out 2
 have q3 := bC HX11.out 3
 have q4 := bC HX11.out 4
 have q5 := bC HX11.out 5
 have q6 := bC HX11.out 6
 have ql := lt_of_block HX11.out
 go_wp2_with fail
 refine (Ann _ _ _ _ 0 ⟨#[102]⟩ (by decide) true K6.tree F6.out.tree 1 0 HWK.out w11 HK11.out.tree).mono ?_
 rintro e w12 ⟨rfl,hb12⟩
 have HB12 := Hd (HB11.out.trans (hb12.mono HB11.out.size))
 have HX12 := Hd ((hb12.block _ ql).trans HX11.out)
 have HK12 := Hd (HK11.out.below hb12)
 clear hb12 q0 q1 q2 q3 q4 q5 q6 ql
 have q0 := bC HX12.out 0
 have q1 := bC HX12.out 1
 have q2 := bC HX12.out 2
 have q3 := bC HX12.out 3
 have q4 := bC HX12.out 4
 have q5 := bC HX12.out 5
 have q6 := bC HX12.out 6
 have ql := lt_of_block HX12.out
 obtain ⟨bt,ot,hta,hx⟩ := HK12.out.tree.2.2 1 (by have := HL6.out; omega)
 have xd := hx.data
 have hd : (K6.tree[1]'(by have := HL6.out; omega)).data = [120,121] := by
  have h := HDT.out
  rw [show (1 : Int) = ((1 : Nat) : Int) from rfl,Aad _ 1 (by have := HL6.out; omega)] at h
  exact h
 rw [hd] at xd
 rw [hta] at q0
 have hl4 := HL6.out
 rw [hl4] at q0
 have xl := Aaj xd
 clear hx hd hta
 go_wp2_with fail
 go_ret
 exact ⟨rfl,HB12.out⟩
end Go.Proofs.YtkdfbliiblojoaaGreatDoor
