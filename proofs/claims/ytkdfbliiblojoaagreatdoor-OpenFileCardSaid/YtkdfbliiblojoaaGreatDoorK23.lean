import Derived.Test.YtkdfbliiblojoaaGreatDoorK22
set_option linter.all false
set_option maxRecDepth 100000
set_option maxHeartbeats 64000000
namespace Go.Proofs.YtkdfbliiblojoaaGreatDoor
open Go Go.RowKit
theorem Aq8 (B N o : Nat) (h : o < N) (W : World) : (Instr.slice 175 (.slice (some ⟨B,0,none⟩) N N) (some (.int .i64 (o : Int))) none none).run Tryz.prog W = .ok (.slice (some ⟨B,o,none⟩) (N - o) (N - o)) W := by
 obtain ⟨i0,hi,hz0,hz1,hz2⟩ := info_parts Aza
 have hne : ¬ N = o := by omega
 simp [Instr.slice,run_underlying Tryz.underlying175,Instr.sliceBounds,Instr.sliceBound,asIntOf,sizeOf,typeInfo,hi,hz1,hne,Addr.add]
 rw [if_pos (by omega)]
 by_cases h0 : o = 0
 ·subst h0
  rfl
 ·rw [if_neg h0]
theorem Aul (L : List Ino) (b k off : Int) (s : List UInt8) : Aes L b k off s = if refW L k off ≠ 0 then (L,refW L k off) else if s = [] then (L,0) else if (65536 : Int) - (s.length : Int) < off then (L,27) else Aft L b k.toNat (Akx (Aaf L k).data off.toNat s) := by
 unfold Aes refW
 by_cases h0 : Adm L k = 0
 ·by_cases h1 : off < 0
  ·simp [h0,h1]
  ·simp only [h0,h1,ne_eq,not_true_eq_false,if_false]
   by_cases h2 : s = []
   ·rw [if_pos h2,if_pos h2]
   ·have h3 : 0 < s.length := List.length_pos_iff.2 h2
    rw [if_neg h2,if_neg h2]
    by_cases h4 : (65536 : Int) - (s.length : Int) < off
    ·rw [if_pos h4,if_pos (by omega)]
    ·rw [if_neg h4,if_neg (by omega)]
 ·simp [h0]
theorem Aol (a : Option Addr) (cap : Nat) (m b ino off : Int) (sb : ByteArray) (hsb : sb.size ≤ 1000000) (L : List Ino) (hF : FitP L m b) (L' : List Ino) (er : Int) (hz : Aes L b ino off sb.data.toList = (L',er)) (w : World) (hN : Aah w a cap L) :
  Calls Tryz.prog 131 #[.agg #[.slice a L.length cap,.int .i64 m,.int .i64 b],.int .i64 ino,.int .i64 off,.string sb] w (Asr w m b L' [.int .i64 er]) := by
 obtain ⟨w2,hw2,hb2,hs2,hA,hB⟩ := Aam w #[.slice a L.length cap,.int .i64 m,.int .i64 b] #[.slice none 0 0,.int .i64 0,.int .i64 0] 24 24
 have HX := Hd (show ∀ W,Below w2.heap.size w2 W → W.heap[w.heap.size + 1]? = some (.cells #[.slice none 0 0,.int .i64 0,.int .i64 0] 24 (0,0)) ∧ W.cell? ⟨w.heap.size,0,none⟩ = some (.slice a L.length cap) ∧ W.cell? ⟨w.heap.size,1,none⟩ = some (.int .i64 m) ∧ W.cell? ⟨w.heap.size,2,none⟩ = some (.int .i64 b) from fun W hW => by
  have h := (hW.block w.heap.size (by omega)).trans hA
  exact ⟨(hW.block _ (by omega)).trans hB,bC h 0,bC h 1,bC h 2⟩)
 have HM := Hd (show ∀ W,Below w2.heap.size w2 W → Aah W a cap L from fun W hW => hN.below (hb2.trans (hW.mono (by omega))))
 have HB2 := Hd hb2
 have HF := Hd hF
 have HK := Hd (show ∀ x ∈ L,x.kids.length ≤ 4096 from fun x hx => by obtain ⟨j,hj,rfl⟩ := List.getElem_of_mem hx; have := (hF.ins j hj).2.1; omega)
 obtain ⟨l1,l2,l3,l4,l5⟩ := hF.limits
 have hz2 := hz
 rw [Aul] at hz2
 obtain ⟨rf,hrf⟩ : ∃ v,refW L ino off = v := ⟨_,rfl⟩
 rw [hrf] at hz2
 have HRF := Hd hrf
 have hwr0 : IntKind.i64.wrap (65536 - (sb.size : Int)) = 65536 - (sb.size : Int) := by rw [IntKind.wrap_i64]; omega
 clear hz hN hb2 hA hB hF hrf
 obtain ⟨hRx,q0,q1,q2⟩ := HX.out _ (Below.refl _ _)
 have HRX := Hd hRx
 have hq := Aaj q0
 have r0 := bC hRx 0
 have r1 := bC hRx 1
 have r2 := bC hRx 2
 have s0 := bF hRx 0
 have s1 := bF hRx 1
 have s2 := bF hRx 2
 have hrl := lt_of_block hRx
 clear hRx
 rw [hw2] at r0 r1 r2 s0 s1 s2 hrl q0 q1 q2 hq
 go_enter Tryz.func131,Tryz.ntmps131
 go_wp2_with fail
 rw [← hw2]
 clear HRX r0 r1 r2 s0 s1 s2 hrl q0 q1 q2 hq
 clear hw2
 refine (Adt a cap m b L (by omega) (by omega) HK.out _ (HM.out _ (Below.refl _ _))).mono ?_
 rintro e w3 ⟨g,cap',vs,rfl,hO3,hb3⟩
 have HO3 := Hd (hO3.lower (show w.heap.size + 2 ≤ w2.heap.size by omega))
 have hgl3 := hO3.nodes.lt
 have hgb : w.heap.size + 2 ≤ g := by have := hO3.hbase; omega
 have HB3 := Hd hb3
 have hs3 := hb3.size
 obtain ⟨-,q0,q1,q2⟩ := HX.out _ hb3
 have hq := Aaj q0
 clear hO3 hb3
 go_wp2_with fail
 obtain ⟨w4,hw4⟩ : ∃ w4,w4 = w3.alloc (.cells #[.slice (some ⟨g,0,none⟩) L.length cap',.int .i64 m,.int .i64 b] 24) := ⟨_,rfl⟩
 have hb4 : Below w3.heap.size w3 w4 := by rw [hw4]; exact Aab w3 _
 have hM4 : w4.heap[w3.heap.size]? = some (.cells #[.slice (some ⟨g,0,none⟩) L.length cap',.int .i64 m,.int .i64 b] 24 (0,0)) := by rw [hw4]; exact Aae w3 _
 have hs4 : w4.heap.size = w3.heap.size + 1 := by rw [hw4]; simp
 rw [← hw4]
 clear hw4 q0 q1 q2 hq
 have HB34 := Hd hb4
 have HB4 := Hd (HB3.out.trans (hb4.mono hs3))
 have HX4 := Hd (show ∀ W,Below w4.heap.size w4 W → W.heap[w.heap.size + 1]? = some (.cells #[.slice none 0 0,.int .i64 0,.int .i64 0] 24 (0,0)) ∧ W.cell? ⟨w.heap.size,0,none⟩ = some (.slice a L.length cap) ∧ W.cell? ⟨w.heap.size,1,none⟩ = some (.int .i64 m) ∧ W.cell? ⟨w.heap.size,2,none⟩ = some (.int .i64 b) ∧ W.heap[w3.heap.size]? = some (.cells #[.slice (some ⟨g,0,none⟩) L.length cap',.int .i64 m,.int .i64 b] 24 (0,0)) ∧ OwnT W (w.heap.size + 2) g cap' L vs from fun W hW => by
  obtain ⟨x0,x1,x2,x3⟩ := HX.out W (HB4.out.trans (hW.mono (by omega)))
  exact ⟨x0,x1,x2,x3,(hW.block w3.heap.size (by omega)).trans hM4,HO3.out.below (HB34.out.trans (hW.mono (by omega)))⟩)
 have HM4 := Hd (show ∀ W,Below w4.heap.size w4 W → Aah W a cap L from fun W hW => HM.out W (HB4.out.trans (hW.mono (by omega))))
 have HEND := Hd (show ∀ W,Below w4.heap.size w4 W → Below w.heap.size w W from fun W hW => HB2.out.trans ((HB4.out.trans (hW.mono (by omega))).mono (by omega)))
 clear hb4 hM4 hs4
 refine (Alg _ _ _ _ _ _ L rf HRF.out _ (HM4.out _ (Below.refl _ _))).mono ?_
 rintro e w5 ⟨rfl,hb5⟩
 have HB5 := Hd hb5
 have hs5 := hb5.size
 clear hb5
 obtain ⟨hRx,q0,q1,q2,hMx,hRT⟩ := HX4.out _ HB5.out
 have HRX := Hd hRx
 have HRT := Hd hRT
 have hq := Aaj q0
 have r0 := bC hRx 0
 have r1 := bC hRx 1
 have r2 := bC hRx 2
 have s0 := bF hRx 0
 have s1 := bF hRx 1
 have s2 := bF hRx 2
 have hrl := lt_of_block hRx
 have m0 := bC hMx 0
 have m1 := bC hMx 1
 have m2 := bC hMx 2
 have hml := lt_of_block hMx
 have HMX := Hd hMx
 clear hRx hMx hRT
 by_cases h0 : rf = 0
 ·subst h0
  rw [if_neg (by simp)] at hz2
  by_cases he : sb.data.toList = []
  ·rw [if_pos he] at hz2
   have he' := Ap0 he
   subst he'
   simp only [Prod.mk.injEq] at hz2
   obtain ⟨rfl,rfl⟩ := hz2
   clear he
   go_wp2_with fail
   change bodyPost _ _ _ _ _ (put3 w5 (w.heap.size + 1) (.slice (some ⟨g,0,none⟩) L.length cap') (.int .i64 m) (.int .i64 b))
   obtain ⟨c0,c1,c2⟩ := Aau HRX.out (.slice (some ⟨g,0,none⟩) L.length cap') (.int .i64 m) (.int .i64 b)
   exact bodyPost_ret (v := .tuple #[.agg #[.slice (some ⟨g,0,none⟩) L.length cap',.int .i64 m,.int .i64 b],.int .i64 0]) (by simp [results,Tryz.results131,go_sem,c0,c1,c2]) rfl ⟨⟨_,_,_,rfl,(HRT.out.low fun k hk => Abq (by omega) _ _ _).lower (by omega)⟩,Aa8 (HEND.out _ HB5.out) (by omega) _ _ _⟩
  have hpl : (sb.data.toList == []) = false := by
   cases h : sb.data.toList with
   | nil => exact absurd h he
   | cons c r => rfl
  have hpe : sb.toList.isEmpty = false := by
   rw [ByteArray.toList_eq]
   cases h : sb.data.toList with
   | nil => exact absurd h he
   | cons c r => rfl
  rw [if_neg he] at hz2
  have hsl : sb.data.toList.length = sb.size := Array.length_toList
  have hsp : 0 < sb.size := by rw [← hsl]; exact List.length_pos_iff.2 he
  rw [hsl] at hz2
  have HSL := Hd hsl
  clear he hsl
  by_cases h1 : (65536 : Int) - (sb.size : Int) < off
  ·rw [if_pos h1] at hz2
   simp only [Prod.mk.injEq] at hz2
   obtain ⟨rfl,rfl⟩ := hz2
   go_wp2_with fail
   change bodyPost _ _ _ _ _ (put3 w5 (w.heap.size + 1) (.slice (some ⟨g,0,none⟩) L.length cap') (.int .i64 m) (.int .i64 b))
   obtain ⟨c0,c1,c2⟩ := Aau HRX.out (.slice (some ⟨g,0,none⟩) L.length cap') (.int .i64 m) (.int .i64 b)
   exact bodyPost_ret (v := .tuple #[.agg #[.slice (some ⟨g,0,none⟩) L.length cap',.int .i64 m,.int .i64 b],.int .i64 27]) (by simp [results,Tryz.results131,go_sem,c0,c1,c2]) rfl ⟨⟨_,_,_,rfl,(HRT.out.low fun k hk => Abq (by omega) _ _ _).lower (by omega)⟩,Aa8 (HEND.out _ HB5.out) (by omega) _ _ _⟩
  rw [if_neg h1] at hz2
  obtain ⟨hf0,hn0⟩ := Aox HRF.out
  obtain ⟨k,hk,rfl,-⟩ := Ajl hf0
  obtain ⟨o1,rfl⟩ : ∃ n1 : Nat,off = (n1 : Int) := ⟨off.toNat,by omega⟩
  have hk0 : (0 : Int) ≤ (k : Int) := by omega
  have hk1 : (k : Int) < (L.length : Int) := by omega
  rw [Aad L k hk,Int.toNat_natCast,Int.toNat_natCast] at hz2
  clear hf0 hn0
  have hwr1 : IntKind.i64.wrap ((o1 : Int) + (sb.size : Int)) = (o1 : Int) + (sb.size : Int) := by rw [IntKind.wrap_i64]; omega
  obtain ⟨bb,o,ha,hx⟩ := (HM4.out _ HB5.out).2.2 k hk
  subst ha
  have x3 := hx.data
  have hxl := Aaj x3
  obtain ⟨D,hD⟩ : ∃ D : ByteArray,D = ⟨L[k].data.toArray⟩ := ⟨_,rfl⟩
  have hDs : D.size = L[k].data.length := by rw [hD]; simp [ByteArray.size]
  have hDb : D.size ≤ 65536 := by rw [hDs]; exact Aky HF.out hk
  rw [← hD] at x3
  have HDS := Hd hDs
  clear hx hD hDs
  obtain ⟨N,hN⟩ : ∃ N,N = max (o1 + sb.size) D.size := ⟨_,rfl⟩
  have hNe : max ((o1 : Int) + (sb.size : Int)) (D.size : Int) = (N : Int) := by omega
  have hNb : N ≤ 65536 := by omega
  have hNo : o1 < N := by omega
  have HNN := Hd hN
  have HNE := Hd hNe
  clear hN hNe
  unfold Aft at hz2
  rw [Aad L k hk,Aqd] at hz2
  have hle : ((o1 + sb.data.toList.length + (L[k].data.length - (o1 + sb.data.toList.length)) : Nat) : Int) = (N : Int) := by rw [HSL.out,← HDS.out,HNN.out]; omega
  rw [hle] at hz2
  clear hle
  by_cases h2 : b < (Aax L : Int) - (L[k].data.length : Int) + (N : Int)
  ·rw [if_pos h2] at hz2
   simp only [Prod.mk.injEq] at hz2
   obtain ⟨rfl,rfl⟩ := hz2
   have HROW := Hd (show ∀ W,Below w5.heap.size w5 W → Calls Tryz.prog 161 #[.agg #[.slice (some ⟨bb,o,none⟩) L.length cap,.int .i64 m,.int .i64 b],.int .i64 k,.int .i64 (max ((o1 : Int) + (sb.size : Int)) (D.size : Int))] W fun e w' => e = .returned (.tuple #[.slice none 0 0,.int .i64 28]) ∧ Below w4.heap.size w4 w' from fun W hW => by
    rw [HNE.out]
    exact (Avi _ cap m b k N (by omega) L HF.out hk h2 W (HM4.out W (HB5.out.trans (hW.mono hs5)))).mono fun e w' h => ⟨h.1,(HB5.out.trans (hW.mono hs5)).trans (h.2.mono (by have := (HB5.out.trans (hW.mono hs5)).size; omega))⟩)
   clear h2
   go_wp2_with fail
   go_region_with (first | (go_at_call 161; refine (HROW.out _ ?_).mono ?_; (exact ⟨rfl,rfl,rfl,Nat.le_refl _,fun _ _ => rfl⟩); rintro e w7 ⟨rfl,hb7⟩; have HB7 := Hd hb7; clear hb7))
   all_goals
    clear x3 hxl
    clear HRX HRT HMX r0 r1 r2 s0 s1 s2 hrl q0 q1 q2 hq m0 m1 m2 hml
    obtain ⟨hRx,q0,q1,q2,hMx,hRT⟩ := HX4.out _ HB7.out
    have HRX := Hd hRx
    have HRT := Hd hRT
    have hq := Aaj q0
    have r0 := bC hRx 0
    have r1 := bC hRx 1
    have r2 := bC hRx 2
    have s0 := bF hRx 0
    have s1 := bF hRx 1
    have s2 := bF hRx 2
    have hrl := lt_of_block hRx
    have m0 := bC hMx 0
    have m1 := bC hMx 1
    have m2 := bC hMx 2
    have hml := lt_of_block hMx
    have HMX := Hd hMx
    clear hRx hMx hRT
    go_wp2_with fail
    change bodyPost _ _ _ _ _ (put3 w7 (w.heap.size + 1) (.slice (some ⟨g,0,none⟩) L.length cap') (.int .i64 m) (.int .i64 b))
    obtain ⟨c0,c1,c2⟩ := Aau HRX.out (.slice (some ⟨g,0,none⟩) L.length cap') (.int .i64 m) (.int .i64 b)
    exact bodyPost_ret (v := .tuple #[.agg #[.slice (some ⟨g,0,none⟩) L.length cap',.int .i64 m,.int .i64 b],.int .i64 28]) (by simp [results,Tryz.results131,go_sem,c0,c1,c2]) rfl ⟨⟨_,_,_,rfl,(HRT.out.low fun k hk => Abq (by omega) _ _ _).lower (by omega)⟩,Aa8 (HEND.out _ HB7.out) (by omega) _ _ _⟩
  ·rw [if_neg h2] at hz2
   simp only [Prod.mk.injEq] at hz2
   obtain ⟨hL',rfl⟩ := hz2
   obtain ⟨d,hd⟩ : ∃ d,d = Akx L[k].data o1 sb.data.toList := ⟨_,rfl⟩
   have hdl : d.length = N := by rw [hd,Aqd,HSL.out,← HDS.out,HNN.out]; omega
   have hrow : (cutL L[k].data N).take o1 ++ sb.data.toList.take (N - o1) ++ (cutL L[k].data N).drop (o1 + min sb.size (N - o1)) = d := by
    rw [hd,← HSL.out]
    exact Avk _ _ _ _ (by rw [HSL.out,← HDS.out]; exact HNN.out)
   have HROW := Hd (show ∀ W,Below w5.heap.size w5 W → Calls Tryz.prog 161 #[.agg #[.slice (some ⟨bb,o,none⟩) L.length cap,.int .i64 m,.int .i64 b],.int .i64 k,.int .i64 (max ((o1 : Int) + (sb.size : Int)) (D.size : Int))] W fun e w' => ∃ B,e = .returned (.tuple #[.slice (some ⟨B,0,none⟩) N N,.int .i64 0]) ∧ w'.heap[B]? = some (.cells (rowB (cutL L[k].data N)) 5 (0,0)) ∧ w4.heap.size ≤ B ∧ Below w4.heap.size w4 w' from fun W hW => by
    rw [HNE.out]
    exact (Api _ cap m b k N (by omega) L HF.out hk h2 W (HM4.out W (HB5.out.trans (hW.mono hs5)))).mono fun e w' h => by
     obtain ⟨B,h1,h2,h3,h4⟩ := h
     have hs := (HB5.out.trans (hW.mono hs5)).size
     exact ⟨B,h1,h2,by omega,(HB5.out.trans (hW.mono hs5)).trans (h4.mono hs)⟩)
   rw [← hd] at hL'
   have HDL := Hd hL'
   have HRW := Hd hrow
   have HDN := Hd hdl
   clear h2 hL' hd hrow hdl
   go_wp2_with fail
   go_region_with (first | (go_at_call 161; refine (HROW.out _ ?_).mono ?_; (exact ⟨rfl,rfl,rfl,Nat.le_refl _,fun _ _ => rfl⟩); rintro e w7 ⟨B,rfl,hB7,hBl,hb7⟩; have HB7 := Hd hb7; have HBB := Hd hB7; clear hb7 hB7))
   all_goals
    clear x3 hxl
    have hcp := fun ty => Ago w7 B o1 (N - o1) (N - o1) sb (cutL L[k].data N) 5 HBB.out (by rw [Ah8]; omega) ty
    rw [HRW.out] at hcp
    have hsf := fun W => Aq8 B N o1 hNo W
    obtain ⟨w8,hw8⟩ : ∃ p,p = w7.setRow B (rowB d) := ⟨_,rfl⟩
    have HB8 := Hd (show Below w4.heap.size w4 w8 by rw [hw8]; exact Amj HB7.out hBl _)
    have hcv := Aue w8 B N d 5 (by rw [hw8]; exact setRow_heap _ _ _ _ _ _ HBB.out)
    rw [HDN.out] at hcv
    rw [← hw8] at hcp
    clear hw8
    clear HRX HRT HMX r0 r1 r2 s0 s1 s2 hrl q0 q1 q2 hq m0 m1 m2 hml
    obtain ⟨hRx,q0,q1,q2,hMx,hRT⟩ := HX4.out _ HB7.out
    have HRX := Hd hRx
    have HRT := Hd hRT
    have hq := Aaj q0
    have r0 := bC hRx 0
    have r1 := bC hRx 1
    have r2 := bC hRx 2
    have s0 := bF hRx 0
    have s1 := bF hRx 1
    have s2 := bF hRx 2
    have hrl := lt_of_block hRx
    have m0 := bC hMx 0
    have m1 := bC hMx 1
    have m2 := bC hMx 2
    have hml := lt_of_block hMx
    have HMX := Hd hMx
    clear hRx hMx hRT
    go_upto_region 11 with fail
    clear HRX HRT HMX r0 r1 r2 s0 s1 s2 hrl q0 q1 q2 hq m0 m1 m2 hml
    obtain ⟨hRx,q0,q1,q2,hMx,hRT⟩ := HX4.out _ HB8.out
    have HRX := Hd hRx
    have HRT := Hd hRT
    have hq := Aaj q0
    have r0 := bC hRx 0
    have r1 := bC hRx 1
    have r2 := bC hRx 2
    have s0 := bF hRx 0
    have s1 := bF hRx 1
    have s2 := bF hRx 2
    have hrl := lt_of_block hRx
    have m0 := bC hMx 0
    have m1 := bC hMx 1
    have m2 := bC hMx 2
    have hml := lt_of_block hMx
    have HMX := Hd hMx
    clear hRx hMx hRT
    obtain ⟨⟨d3,n3⟩,f3⟩ := HRT.out.refT.cells hk 3 (by omega)
    have hgl5 := HRT.out.nodes.lt
    obtain ⟨w6,hw6⟩ : ∃ p,p = w8.setCell ⟨g,k * 6 + 3,none⟩ (.string ⟨d.toArray⟩) := ⟨_,rfl⟩
    have hR6 : OwnT w6 (w.heap.size + 2) g cap' L' vs := by
     have h := HRT.out.setData hk d
     rw [HDL.out,← hw6] at h
     exact h
    have hne : ∀ j,j ≠ g → w6.heap[j]? = w8.heap[j]? := fun j hj => by rw [hw6]; exact Below.heap_setCell _ _ _ _ hj
    have hB6 : Below w.heap.size w w6 := by rw [hw6]; exact (HEND.out _ HB8.out).setCell (show w.heap.size ≤ g by omega) _
    have hR6x := (hne (w.heap.size + 1) (by omega)).trans HRX.out
    have HR6 := Hd hR6
    have HB6 := Hd hB6
    have HW6 := Hd hw6
    have HLE := Hd (show L'.length = L.length by rw [← HDL.out,Agg])
    clear hR6 hB6 hw6 hne
    go_wp2_with fail
    rw [← HW6.out]
    clear HRX
    have HRX := Hd hR6x
    clear hR6x
    change bodyPost _ _ _ _ _ (put3 w6 (w.heap.size + 1) (.slice (some ⟨g,0,none⟩) L.length cap') (.int .i64 m) (.int .i64 b))
    obtain ⟨c0,c1,c2⟩ := Aau HRX.out (.slice (some ⟨g,0,none⟩) L.length cap') (.int .i64 m) (.int .i64 b)
    exact bodyPost_ret (v := .tuple #[.agg #[.slice (some ⟨g,0,none⟩) L'.length cap',.int .i64 m,.int .i64 b],.int .i64 0]) (by simp [results,Tryz.results131,go_sem,c0,c1,c2,HLE.out]) rfl ⟨⟨_,_,_,rfl,(HR6.out.low fun k hk => Abq (by omega) _ _ _).lower (by omega)⟩,Aa8 HB6.out (by omega) _ _ _⟩
 ·rw [if_pos h0] at hz2
  have h0b : (rf != 0) = true := by simpa using h0
  simp only [Prod.mk.injEq] at hz2
  obtain ⟨rfl,rfl⟩ := hz2
  go_wp2_with fail
  change bodyPost _ _ _ _ _ (put3 w5 (w.heap.size + 1) (.slice (some ⟨g,0,none⟩) L.length cap') (.int .i64 m) (.int .i64 b))
  obtain ⟨c0,c1,c2⟩ := Aau HRX.out (.slice (some ⟨g,0,none⟩) L.length cap') (.int .i64 m) (.int .i64 b)
  exact bodyPost_ret (v := .tuple #[.agg #[.slice (some ⟨g,0,none⟩) L.length cap',.int .i64 m,.int .i64 b],.int .i64 rf]) (by simp [results,Tryz.results131,go_sem,c0,c1,c2]) rfl ⟨⟨_,_,_,rfl,(HRT.out.low fun k hk => Abq (by omega) _ _ _).lower (by omega)⟩,Aa8 (HEND.out _ HB5.out) (by omega) _ _ _⟩
end Go.Proofs.YtkdfbliiblojoaaGreatDoor
