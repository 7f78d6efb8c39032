import Derived.Test.YtkdfbliiblojoaaGreatDoorK25
set_option linter.all false
set_option maxRecDepth 100000
set_option maxHeartbeats 64000000
namespace Go.Proofs.YtkdfbliiblojoaaGreatDoor
open Go Go.RowKit
def Abz (K:Krn)(x:Opn):List Opn×Nat×Int:=layL K.opens (fun i=>(K.opens.getD i Aav).kind == 0) x 64
def Ax3 (B:Nat)(A:KAd)(K:Krn)(x:Opn)(w:World)(e:Ending)(w':World):Prop:=
 ∃ a' c',e=.returned (.tuple #[.slice a' (Abz K x).1.length c',.int .i64 ((Abz K x).2.1:Int),.int .i64 (Abz K x).2.2])/\w'.ownsRow B 70 5 (.slice a' (Abz K x).1.length c') (Abz K x).1.length (rowC opnF (Abz K x).1)/\RowStep w A.oa a' w'
section
variable {B g : Nat} {A : KAd} {K : Krn} {f : List Int}
theorem Bbr (b:Nat)(kd at_ off fl rf:Int)(w:World)(hW:Wk w B g A K f)(hol:K.opens.length<=1000)(hb:w.cell? ⟨b,0,none⟩=some (.pointer (some ⟨g,0,none⟩)))(hBw:B<=w.heap.size) :
  Calls Tryz.prog 125 #[.slice A.oa K.opens.length A.oc,.agg #[.int .i64 kd,.int .i64 at_,.int .i64 off,.int .i64 fl,.int .i64 rf],.int .i64 64,.func (.func 126) #[] #[.pointer (some ⟨b,0,none⟩)]] w (Ax3 B A K ⟨kd,at_,off,fl,rf⟩ w):=by
 obtain⟨i0,hi,hz0,hz1,hz2⟩:=info_parts Air
 obtain⟨w1,hw1⟩:∃ p,p=w.alloc (.cells #[.int .i64 kd,.int .i64 at_,.int .i64 off,.int .i64 fl,.int .i64 rf] 70):=⟨_,rfl⟩
 have hb1:Below w.heap.size w w1:=by rw[hw1];exact Aab w _
 have hX:w1.heap[w.heap.size]?=some (.cells #[.int .i64 kd,.int .i64 at_,.int .i64 off,.int .i64 fl,.int .i64 rf] 70 (0,0)):=by rw[hw1];exact Aag w _
 have HW1:=Hd (hW.below hb1)
 have HB1:=Hd hb1
 have HX:=Hd hX
 have HCB:=Hd (Aaa hb1 hb)
 have hs1:=hb1.size
 have HBW:=Hd (Nat.le_trans hBw hs1)
 have HOWN:=Hd HW1.out.own.opens
 have HZ:=Hd (show Abz K ⟨kd,at_,off,fl,rf⟩=(layL K.opens (fun i=>(K.opens.getD i Aav).kind == 0) ⟨kd,at_,off,fl,rf⟩ 64)from rfl)
 obtain⟨fr,hfr⟩:∃ fr:Nat->Bool,fr=fun i=>(K.opens.getD i Aav).kind == 0:=⟨_,rfl⟩
 have HFR:=Hd (show ∀ i (hi:i < K.opens.length),fr i=(K.opens[i].kind == 0)from fun i hi=>by rw[hfr];show ((K.opens.getD i Aav).kind == 0)=_;rw[Abx _ i hi])
 have hZ2:Abz K ⟨kd,at_,off,fl,rf⟩=layL K.opens fr ⟨kd,at_,off,fl,rf⟩ 64:=by rw[hfr];rfl
 have HZ2:=Hd hZ2
 have HQ:=Hd (fun i (hi:i < K.opens.length) W (hb:Below w1.heap.size w1 W)=>Bay b i hi W (HW1.out.below hb) (Aaa hb HCB.out))
 clear hb1 hX hW hb hBw hfr HZ hZ2
 obtain⟨ta,tc,pa,pc,oa,oc⟩:=A
 simp only at HOWN ⊢
 unfold Ax3
 simp only
 obtain⟨n,hn⟩:∃ n,n=K.opens.length:=⟨_,rfl⟩
 have HN:=Hd hn
 rw[<-hn]at hol ⊢
 clear hn
 have hn0:(0:Int)<=(n:Int):=by omega
 go_enter Tryz.func125,Tryz.ntmps125
 go_wp2_with fail
 rw[<-hw1]
 clear hw1
 go_loopw [14] (fun iv wr=>∃ k:Nat,k<=n/\iv=.int .i64 k/\Hid (∀ i,i < k->fr i=false)/\Hid (Below w1.heap.size w1 wr)) (fun iv _=>n - (intOf iv).toNat)
 case atStart=>exact⟨0,by omega,rfl,Hd (fun i hi=>absurd hi (Nat.not_lt_zero _)),Hd (Below.refl _ _)⟩
 case round=>
  obtain⟨k,hk,rfl,HF,HB⟩:=hrel
  by_cases hlt:k < n
  ·have hk1:(k:Int) < (n:Int):=by omega
   have hkO:k < K.opens.length:=by rw[<-HN.out];exact hlt
   cases hfk:fr k with
   | false=>
    have hq:=HQ.out k hkO _ HB.out
    rw[<-HFR.out k hkO,hfk]at hq
    have HQ1:=Hd hq
    have HF2:=Hd (show ∀ i,i < k+1->fr i=false from fun i hi=>by
     rcases Nat.lt_or_ge i k with h|h
     ·exact HF.out i h
     ·obtain rfl:i=k:=by omega
      exact hfk)
    clear hq hfk hlt
    go_wp2_with (first|(go_at_call 126;refine HQ1.out.mono ?_;rintro e w3 ⟨rfl,rfl⟩)|fail)
    go_roundw
    case rel=>exact⟨k+1,by omega,by go_num,HF2,HB⟩
    case measure=>simp[intOf] <;> omega
   | true=>
    have hq:=HQ.out k hkO _ HB.out
    rw[<-HFR.out k hkO,hfk]at hq
    have HQ1:=Hd hq
    have HWR:=Hd (HW1.out.below HB.out)
    have hzk:Abz K ⟨kd,at_,off,fl,rf⟩=(K.opens.set k ⟨kd,at_,off,fl,rf⟩,k,0):=by rw[HZ2.out,Ax9 hkO HF.out hfk]
    have HZK:=Hd hzk
    obtain⟨go,ha,hgo,hyy⟩:=HWR.out.opn hkO
    obtain⟨y0,y1,y2,y3,y4,yl,yf⟩:=hyy
    clear yf
    have ha':oa=some ⟨go,0,none⟩:=ha
    subst ha'
    have hown:=HWR.out.own.opens
    have HST:=Hd (Ah4 hown k hkO ⟨kd,at_,off,fl,rf⟩)
    have HBT:=Hd (Ad0 wr go (k * 5) (.int .i64 kd) (.int .i64 at_) (.int .i64 off) (.int .i64 fl) (.int .i64 rf))
    have HROW:=Hd (Ahp hown rfl)
    have z0:=HROW.out (k * 5)
    have z1:=HROW.out (k * 5+1)
    have z2:=HROW.out (k * 5+2)
    have z3:=HROW.out (k * 5+3)
    have z4:=HROW.out (k * 5+4)
    have hX2:=(HB.out.block w.heap.size (lt_of_block HX.out)).trans HX.out
    have x0:=bC hX2 0
    have x1:=bC hX2 1
    have x2:=bC hX2 2
    have x3:=bC hX2 3
    have x4:=bC hX2 4
    have xl:=lt_of_block hX2
    have gol:go < wr.heap.size:=by
     obtain⟨go2,e2,-,h2⟩:=Abf hown _ rfl
     have e3:go=go2:=by simpa using e2
     omega
    clear hq hfk hlt hown hzk ha hgo hX2
    go_wp2_with (first|(go_at_call 126;refine HQ1.out.mono ?_;rintro e w3 ⟨rfl,rfl⟩)|fail)
    go_ret3
    refine⟨some ⟨go,0,none⟩,oc,?_,?_,?_⟩
    ·rw[HZK.out]
     simp only[List.length_set,<-HN.out]
     first|rfl|simp
    ·rw[HZK.out]
     simp only[List.length_set]
     exact HST.out
    ·exact .of_but rfl (HB1.out.trans (HB.out.mono HB1.out.size)) HBT.out
  ·have hkn:k=n:=by omega
   subst hkn
   have HNO:=Hd (show ∀ i,i < K.opens.length->fr i=false from fun i hi=>HF.out i (by rw[HN.out];exact hi))
   have hwr:wr.ownsRow B 70 5 (.slice oa K.opens.length oc) K.opens.length (rowC opnF K.opens):=Aeb HOWN.out HB.out (Nat.le_refl _)
   have HWN:=Hd hwr
   have HBS:=Hd (Nat.le_trans HBW.out HB.out.size)
   clear hwr hlt
   by_cases hm:64<=k
   ·have hmd:decide ((k:Int) ≥ 64)=true:=decide_eq_true (by omega)
    have hmd2:decide (64<=(k:Int))=true:=decide_eq_true (by omega)
    have hzk:Abz K ⟨kd,at_,off,fl,rf⟩=(K.opens,0,24):=by rw[HZ2.out,Apt HNO.out (by rw[<-HN.out];exact hm)]
    have HZK:=Hd hzk
    clear hzk hm
    go_wp2_with fail
    go_ret3
    refine⟨oa,oc,?_,?_,?_⟩
    ·rw[HZK.out]
     simp only[<-HN.out]
     first|rfl|simp
    ·rw[HZK.out]
     exact HWN.out
    ·exact .of_below (HB1.out.trans (HB.out.mono HB1.out.size))
   ·have hmd:decide ((k:Int) ≥ 64)=false:=decide_eq_false (by omega)
    have hmd2:decide (64<=(k:Int))=false:=decide_eq_false (by omega)
    have hzk:Abz K ⟨kd,at_,off,fl,rf⟩=(K.opens ++ [⟨kd,at_,off,fl,rf⟩],k,0):=by rw[HZ2.out,Atg HNO.out (by rw[<-HN.out];exact hm),HN.out]
    have HZK:=Hd hzk
    have hX2:=(HB.out.block w.heap.size (lt_of_block HX.out)).trans HX.out
    have x0:=bC hX2 0
    have x1:=bC hX2 1
    have x2:=bC hX2 2
    have x3:=bC hX2 3
    have x4:=bC hX2 4
    have xl:=lt_of_block hX2
    rw[<-HN.out]at HWN
    have hm2:k < 64:=by omega
    clear hzk hm hX2
    go_wp2_with (first|(at_builtin;refine wpList_append_lies _ rfl _ _ 26 rfl B 70 i0 _ 5 40 Tryz.underlying26 hi hz0 hz1 hz2 rfl (by decide) (.slice oa k oc) k (rowC opnF K.opens) rfl ((HWN.out).kept (World.grownBy_alloc _ _ none) (by cases oa <;> simp[Value.ownBlock])) ⟨wr.heap.size,0,none⟩ 1 1 (opnF ⟨kd,at_,off,fl,rf⟩) rfl rfl ?qc2 (fun u hu=>Ahn [⟨kd,at_,off,fl,rf⟩] u (by simpa[rowC] using hu)) (by decide) (by unfold maxLen;omega) (by omega) (by have:=HBS.out;simp;omega) _ rfl ?_)|fail)
    case qc2=>
     intro j u hj
     rw[Al5,Nat.zero_add]
     exact(bC (Aag wr _) j).trans (by simpa[opnF] using hj)
    intro gn c' w3 hown hgrow hat hgl
    have hown2:w3.ownsRow B 70 5 (.slice (some ⟨gn,0,none⟩) (k+1) c') (k+1) (rowC opnF (K.opens ++ [⟨kd,at_,off,fl,rf⟩])):=by rw[Alq];simpa[rowC] using hown
    have HO2:=Hd hown2
    have HG:=Hd hgrow
    have HAT:=Hd hat
    clear hown hown2 hgrow hat hgl xl
    go_wp2_with fail
    go_ret3
    refine⟨some ⟨gn,0,none⟩,c',?_,?_,?_⟩
    ·rw[HZK.out]
     simp only[List.length_append,List.length_singleton,<-HN.out]
     first|rfl|simp
    ·rw[HZK.out]
     simp only[List.length_append,List.length_singleton,<-HN.out]
     exact HO2.out
    ·refine .of_grown (B:=B) (e:=0) (k:=0) (xs:=[]) (n:=k) (c:=oc) (n':=0) (c':=0) (HB1.out.trans ((HB.out.mono HB1.out.size).alloc (Nat.le_trans HB1.out.size HB.out.size) _)) HG.out HG.out.size ?_
     intro x hx
     cases hx
     rcases HAT.out with h|h
     ·left
      cases hoa:oa with
      | none=>rw[hoa]at h;cases h
      | some y=>rw[hoa]at h;exact⟨y,rfl,Option.some.inj h⟩
     ·right
      rw[h]
      simp
end
theorem RowStep.of_drew {w w':World}{a a':Option Addr}(h:RowStep w.drew a a' w'):RowStep w a a' w':=⟨h.os,h.tape,h.output,h.size,h.block,h.near⟩
section
variable {B g : Nat} {A : KAd} {K : Krn} {f : List Int}
def Ayk (B g:Nat)(A:KAd)(K:Krn)(f:List Int)(x:Opn)(w:World)(e:Ending)(w':World):Prop:=
 e=.returned (.tuple #[.int .i64 ((Abz K x).2.1:Int),.int .i64 (Abz K x).2.2])/\∃ A',Wk w' B g A' { K with opens:=(Abz K x).1 } f/\Stepw g A w A' w'
theorem Atk (kd at_ off fl rf:Int)(w:World)(hW:Wk w B g A K f)(hol:K.opens.length<=1000)(hBw:B<=w.heap.size) :
  Calls Tryz.prog 83 #[.pointer (some ⟨g,0,none⟩),.agg #[.int .i64 kd,.int .i64 at_,.int .i64 off,.int .i64 fl,.int .i64 rf]] w (Ayk B g A K f ⟨kd,at_,off,fl,rf⟩ w):=by
 obtain⟨w2,hw2,hb2,hs2,hX,hY⟩:=Aan w #[.pointer (some ⟨g,0,none⟩)] #[.int .i64 kd,.int .i64 at_,.int .i64 off,.int .i64 fl,.int .i64 rf] 74 70
 have HW2:=Hd (hW.below hb2)
 have HST:=Hd (Stepw.of_below (g:=g) (A:=A) hb2)
 have HBW:=Hd (Nat.le_trans hBw hb2.size)
 have p0:=bC hX 0
 have y0:=bC hY 0
 have y1:=bC hY 1
 have y2:=bC hY 2
 have y3:=bC hY 3
 have y4:=bC hY 4
 have xl:=lt_of_block hX
 have yl:=lt_of_block hY
 have q4:=HW2.out.kcells.2.2.2.2.1
 have fq:=HW2.out.free 4
 have gl:=HW2.out.lt
 have HC:=Hd (fun W (hb:Below w2.heap.size w2 W)=>Bbr w.heap.size kd at_ off fl rf W (HW2.out.below hb) hol (Aaa hb (bC hX 0)) (Nat.le_trans HBW.out hb.size))
 have hwg:w.heap.size≠g:=fun e=>by have:=hW.lt;omega
 have HPS:=Hd (show ∀ (W:World) (u:Value),(W.setCell ⟨g,4,none⟩ u).cell? ⟨w.heap.size,0,none⟩=W.cell? ⟨w.heap.size,0,none⟩from fun W u=>World.cell?_of_block (a:=⟨w.heap.size,0,none⟩) (Below.heap_setCell _ _ _ _ hwg))
 have HN3:=Hd (show ∀ k,Own3 g A k->k≠w.heap.size from fun k h3 e=>by have:=(hW.own3 h3).2;omega)
 clear hW hX hY hb2 hBw
 go_enter Tryz.func83,Tryz.ntmps83
 go_upto_region 3 with fail
 rw[<-hw2]
 clear hw2
 refine wp_region_held_drew (S:=(fun W=>W.cell? ⟨w.heap.size,0,none⟩=some (.pointer (some ⟨g,0,none⟩)))) (by kernel_rfl) p0 (fun hHeld=>?_)
 refine wpAnyH_take (i:=0) (v:=?_) rfl (by kernel_rfl) (by kernel_rfl) (by kernel_rfl) (fun _ _ _ h=>h) (Or.inl ⟨by rfl,?hy0⟩) hHeld ?rest0
 case hy0=>intro W' hSw;(try dsimp only at hSw);go_simp <;> with_reducible rfl
 try simp only[Act.put,Zaa,Zab,Zac]
 refine wpAnyH_take (i:=1) (v:=?_) rfl (by kernel_rfl) (by kernel_rfl) (by kernel_rfl) (fun _ _ _ h=>h) (Or.inl ⟨by rfl,?hy1⟩) hHeld ?rest1
 case hy1=>intro W' hSw;(try dsimp only at hSw);go_simp <;> with_reducible rfl
 try simp only[Act.put,Zaa,Zab,Zac]
 refine wpAnyH_take (i:=2) (v:=?_) rfl (by kernel_rfl) (by kernel_rfl) (by kernel_rfl) (fun _ _ _ h=>h) (Or.inl ⟨by rfl,?hy2⟩) hHeld ?rest2
 case hy2=>intro W' hSw;(try dsimp only at hSw);go_simp <;> with_reducible rfl
 try simp only[Act.put,Zaa,Zab,Zac]
 refine wpAnyH_take (i:=3) (v:=?_) rfl (by kernel_rfl) (by kernel_rfl) (by kernel_rfl) (fun _ _ _ h=>h) (Or.inl ⟨by rfl,?hy3⟩) hHeld ?rest3
 case hy3=>intro W' hSw;(try dsimp only at hSw);go_simp <;> with_reducible rfl
 try simp only[Act.put,Zaa,Zab,Zac]
 refine wpAnyH_take (i:=4) (v:=?_) rfl (by kernel_rfl) (by kernel_rfl) (by kernel_rfl) (fun _ _ _ h=>h) (Or.inl ⟨by rfl,?hy4⟩) hHeld ?rest4
 case hy4=>intro W' hSw;(try dsimp only at hSw);go_simp <;> with_reducible rfl
 try simp only[Act.put,Zaa,Zab,Zac]
 refine wpAnyH_ready (rs:=[5,6,7]) (by kernel_rfl) (by simp) ?_
 refine AllReadyH.cons rfl (fun K' hK=>?o_5) (AllReadyH.cons rfl (fun K' hK=>?o_6) (AllReadyH.cons rfl (fun K' hK=>?o_7) AllReadyH.nil))
 case' o_5=>
  go_simp
  refine hK.out _ _ p0 (fun hHeld=>?_)
  clear hK K'
  try simp only[Act.put,Zaa,Zab,Zac]
  refine wpAnyH_ready (rs:=[6,7]) (by kernel_rfl) (by simp) ?_
  refine AllReadyH.cons rfl (fun K' hK=>?o5_6) (AllReadyH.cons rfl (fun K' hK=>?o5_7) AllReadyH.nil)
  case' o5_6=>
   go_simp
   refine hK.out _ _ p0 (fun hHeld=>?_)
   clear hK K'
   try simp only[Act.put,Zaa,Zab,Zac]
   refine wpAnyH_ready (rs:=[7]) (by kernel_rfl) (by simp) ?_
   refine AllReadyH.cons rfl (fun K' hK=>?_) AllReadyH.nil
   go_simp
   refine hK.out _ _ p0 (fun hHeld=>?_)
   clear hK K'
   try simp only[Act.put,Zaa,Zab,Zac]
  case' o5_7=>
   go_simp
   refine hK.out _ _ p0 (fun hHeld=>?_)
   clear hK K'
   try simp only[Act.put,Zaa,Zab,Zac]
   refine wpAnyH_ready (rs:=[6]) (by kernel_rfl) (by simp) ?_
   refine AllReadyH.cons rfl (fun K' hK=>?_) AllReadyH.nil
   go_simp
   refine hK.out _ _ p0 (fun hHeld=>?_)
   clear hK K'
   try simp only[Act.put,Zaa,Zab,Zac]
 case' o_6=>
  go_simp
  refine hK.out _ _ p0 (fun hHeld=>?_)
  clear hK K'
  try simp only[Act.put,Zaa,Zab,Zac]
  refine wpAnyH_ready (rs:=[5,7]) (by kernel_rfl) (by simp) ?_
  refine AllReadyH.cons rfl (fun K' hK=>?o6_5) (AllReadyH.cons rfl (fun K' hK=>?o6_7) AllReadyH.nil)
  case' o6_5=>
   go_simp
   refine hK.out _ _ p0 (fun hHeld=>?_)
   clear hK K'
   try simp only[Act.put,Zaa,Zab,Zac]
   refine wpAnyH_ready (rs:=[7]) (by kernel_rfl) (by simp) ?_
   refine AllReadyH.cons rfl (fun K' hK=>?_) AllReadyH.nil
   go_simp
   refine hK.out _ _ p0 (fun hHeld=>?_)
   clear hK K'
   try simp only[Act.put,Zaa,Zab,Zac]
  case' o6_7=>
   go_simp
   refine hK.out _ _ p0 (fun hHeld=>?_)
   clear hK K'
   try simp only[Act.put,Zaa,Zab,Zac]
   refine wpAnyH_ready (rs:=[5]) (by kernel_rfl) (by simp) ?_
   refine AllReadyH.cons rfl (fun K' hK=>?_) AllReadyH.nil
   go_simp
   refine hK.out _ _ p0 (fun hHeld=>?_)
   clear hK K'
   try simp only[Act.put,Zaa,Zab,Zac]
 case' o_7=>
  go_simp
  refine hK.out _ _ p0 (fun hHeld=>?_)
  clear hK K'
  try simp only[Act.put,Zaa,Zab,Zac]
  refine wpAnyH_ready (rs:=[5,6]) (by kernel_rfl) (by simp) ?_
  refine AllReadyH.cons rfl (fun K' hK=>?o7_5) (AllReadyH.cons rfl (fun K' hK=>?o7_6) AllReadyH.nil)
  case' o7_5=>
   go_simp
   refine hK.out _ _ p0 (fun hHeld=>?_)
   clear hK K'
   try simp only[Act.put,Zaa,Zab,Zac]
   refine wpAnyH_ready (rs:=[6]) (by kernel_rfl) (by simp) ?_
   refine AllReadyH.cons rfl (fun K' hK=>?_) AllReadyH.nil
   go_simp
   refine hK.out _ _ p0 (fun hHeld=>?_)
   clear hK K'
   try simp only[Act.put,Zaa,Zab,Zac]
  case' o7_6=>
   go_simp
   refine hK.out _ _ p0 (fun hHeld=>?_)
   clear hK K'
   try simp only[Act.put,Zaa,Zab,Zac]
   refine wpAnyH_ready (rs:=[5]) (by kernel_rfl) (by simp) ?_
   refine AllReadyH.cons rfl (fun K' hK=>?_) AllReadyH.nil
   go_simp
   refine hK.out _ _ p0 (fun hHeld=>?_)
   clear hK K'
   try simp only[Act.put,Zaa,Zab,Zac]
 all_goals
  refine wpAnyH_ready (rs:=[8]) (by kernel_rfl) (by simp) ?_
  refine AllReadyH.cons rfl (fun K' hK=>?_) AllReadyH.nil
  go_simp
  refine(HC.out _ (Aac (Below.refl _ _))).mono ?_;rintro e wn ⟨a',c',rfl,hr,hs⟩;have HR:=Hd hr;have HS:=Hd hs.of_drew;have hgn:=(hs.of_drew.block g HW2.out.lt (fun x hx=>HW2.out.go x hx)).trans HW2.out.box;have q4:=bC hgn 4;have fq:=bF hgn 4;have gl:=lt_of_block hgn;have p0:wn.cell? ⟨w.heap.size,0,none⟩=some (.pointer (some ⟨g,0,none⟩)):=(World.cell?_of_block (a:=⟨w.heap.size,0,none⟩) (hs.of_drew.block w.heap.size xl (fun x hx e=>HN3.out _ (.inr (.inr ⟨x,hx,e⟩)) rfl))).trans p0;clear hgn hr hs
  refine hK.out _ _ p0 (fun hHeld=>?_)
  clear hK K'
  try simp only[Act.put,Zaa,Zab,Zac]
  refine wpAnyH_take (i:=9) (v:=?_) rfl (by kernel_rfl) (by kernel_rfl) (by kernel_rfl) (fun _ _ _ h=>h) (Or.inl ⟨by rfl,?_⟩) hHeld ?_
  rotate_left
  ·intro W' hSw;(try dsimp only at hSw);go_simp <;> with_reducible rfl
  try simp only[Act.put,Zaa,Zab,Zac]
  refine wpAnyH_take (i:=10) (v:=?_) rfl (by kernel_rfl) (by kernel_rfl) (by kernel_rfl) (fun _ _ _ h=>h) (Or.inl ⟨by rfl,?_⟩) hHeld ?_
  rotate_left
  ·intro W' hSw;(try dsimp only at hSw);go_simp <;> with_reducible rfl
  try simp only[Act.put,Zaa,Zab,Zac]
  refine wpAnyH_take (i:=11) (v:=?_) rfl (by kernel_rfl) (by kernel_rfl) (by kernel_rfl) (fun _ _ _ h=>h) (Or.inl ⟨by rfl,?_⟩) hHeld ?_
  rotate_left
  ·intro W' hSw;(try dsimp only at hSw);go_simp <;> with_reducible rfl
  try simp only[Act.put,Zaa,Zab,Zac]
  refine wpAnyH_take (i:=12) (v:=?_) rfl (by kernel_rfl) (by kernel_rfl) (by kernel_rfl) (fun _ _ _ h=>h) (Or.inl ⟨by rfl,?_⟩) hHeld ?_
  rotate_left
  ·intro W' hSw;(try dsimp only at hSw);go_simp <;> with_reducible rfl
  try simp only[Act.put,Zaa,Zab,Zac]
  refine wpAnyH_take (i:=13) (v:=?_) rfl (by kernel_rfl) (by kernel_rfl) (by kernel_rfl) (fun _ _ _ h=>h) (Or.inl ⟨by rfl,?_⟩) hHeld ?_
  rotate_left
  ·intro W' hSw;(try dsimp only at hSw);go_simp <;> with_reducible rfl
  try simp only[Act.put,Zaa,Zab,Zac]
  refine wpAnyH_take (i:=14) (v:=?_) rfl (by kernel_rfl) (by kernel_rfl) (by kernel_rfl) (fun _ _ _ h=>h) (Or.inl ⟨by rfl,?_⟩) hHeld ?_
  rotate_left
  ·intro W' hSw;(try dsimp only at hSw);go_simp <;> with_reducible rfl
  try simp only[Act.put,Zaa,Zab,Zac]
  refine wpAnyH_take (i:=15) (v:=?_) rfl (by kernel_rfl) (by kernel_rfl) (by kernel_rfl) (fun _ _ _ h=>h) (Or.inl ⟨by rfl,?_⟩) hHeld ?_
  rotate_left
  ·intro W' hSw;(try dsimp only at hSw);go_simp <;> with_reducible rfl
  try simp only[Act.put,Zaa,Zab,Zac]
  refine wpAnyH_ready (rs:=[16]) (by kernel_rfl) (by simp) ?_
  refine AllReadyH.cons rfl (fun K' hK=>?_) AllReadyH.nil
  go_simp
  refine hK.out _ _ ((HPS.out _ _).trans p0) (fun hHeld=>?_)
  clear hK K'
  try simp only[Act.put,Zaa,Zab,Zac]
  refine wpAnyH_take (i:=17) (v:=?_) rfl (by kernel_rfl) (by kernel_rfl) (by kernel_rfl) (fun _ _ _ h=>h) (Or.inl ⟨by rfl,?_⟩) hHeld ?_
  rotate_left
  ·intro W' hSw;(try dsimp only at hSw);go_simp <;> with_reducible rfl
  try simp only[Act.put,Zaa,Zab,Zac]
  refine wpAnyH_take (i:=18) (v:=?_) rfl (by kernel_rfl) (by kernel_rfl) (by kernel_rfl) (fun _ _ _ h=>h) (Or.inl ⟨by rfl,?_⟩) hHeld ?_
  rotate_left
  ·intro W' hSw;(try dsimp only at hSw);go_simp <;> with_reducible rfl
  try simp only[Act.put,Zaa,Zab,Zac]
  refine wpAnyH_done (by kernel_rfl) ?_ _
 all_goals
  go_wp2_with fail
  go_ret2
  obtain⟨a1,a2⟩:=HW2.out.newOpens HR.out HS.out HBW.out
  exact⟨rfl,_,a1,HST.out.trans a2⟩
end
section
variable {B g : Nat} {A : KAd} {K : Krn} {f : List Int}
end
theorem Axm (K:Krn)(o:Opn):putK K.opens o=((Abz K o).1,if (Abz K o).2.2=0 then((Abz K o).2.1:Int)+1 else 0):=by
 unfold putK Abz
 cases hf:K.opens.findIdx? (fun x=>x.kind == 0)with
 | some i=>
  obtain⟨h1,h2,h3⟩:=List.findIdx?_eq_some_iff_getElem.1 hf
  rw[Ax9 (free:=fun i=>(K.opens.getD i Aav).kind == 0) h1 (fun j hj=>by
   show ((K.opens.getD j Aav).kind == 0)=false
   rw[Abx _ j (by omega)]
   simpa using h3 j hj) (by show ((K.opens.getD i Aav).kind == 0)=true;rw[Abx _ i h1];exact h2)]
  rfl
 | none=>
  have h1:∀ i,i < K.opens.length->((K.opens.getD i Aav).kind == 0)=false:=fun i hi=>by
   rw[Abx _ i hi]
   have:=List.findIdx?_eq_none_iff.1 hf K.opens[i] (List.getElem_mem hi)
   simpa using this
  by_cases h64:64<=K.opens.length
  ·rw[Apt (free:=fun i=>(K.opens.getD i Aav).kind == 0) h1 h64]
   simp only[if_pos h64]
   rfl
  ·rw[Atg (free:=fun i=>(K.opens.getD i Aav).kind == 0) h1 h64]
   simp only[if_neg h64]
   rfl
def Ayr (B g:Nat)(Z:Krn×List Int×Int)(w:World)(e:Ending)(w':World):Prop:=
 e=.returned (.int .i64 Z.2.2)/\Below B w w'/\(Z.2.2=0->∃ A',Wk w' B g A' Z.1 Z.2.1)
theorem Ate {L:List Ino}{np np':Nat}{o:Opn}(h:np<=np')(hk:Ad7 L np o=true):Ad7 L np' o=true:=by
 have he:endB np o=true->endB np' o=true:=fun h1=>by
  obtain⟨⟨n,h2,h3⟩,h4⟩:=Amc.1 h1
  exact Amc.2 ⟨⟨n,by omega,h3⟩,h4⟩
 unfold Ad7 at hk ⊢
 split at hk
 ·rename_i e;rw[if_pos e];exact hk
 rename_i e0
 rw[if_neg e0]
 split at hk
 ·rename_i e;rw[if_pos e];exact hk
 rename_i e1
 rw[if_neg e1]
 split at hk
 ·rename_i e
  rw[if_pos e]
  rw[Bool.and_eq_true]at hk ⊢
  exact⟨he hk.1,hk.2⟩
 rename_i e2
 rw[if_neg e2]
 split at hk
 ·rename_i e
  rw[if_pos e]
  rw[Bool.and_eq_true]at hk ⊢
  exact⟨he hk.1,hk.2⟩
 rename_i e3
 rw[if_neg e3]
 exact hk
theorem Aq4 {L L':List Ino}{np:Nat}{o:Opn}(h:Aer L L')(hk:Ad7 L np o=true):Ad7 L' np o=true:=by
 have he:Ahd L o=true->Ahd L' o=true:=fun h1=>by
  obtain⟨h2,n,hn,h3,h4⟩:=As0.1 h1
  obtain⟨hn',h5⟩:=h n hn h4
  exact As0.2 ⟨h2,n,hn',h3,h5⟩
 unfold Ad7 at hk ⊢
 split at hk
 ·rename_i e;rw[if_pos e];exact hk
 rename_i e0
 rw[if_neg e0]
 split at hk
 ·rename_i e;rw[if_pos e];exact he hk
 rename_i e1
 rw[if_neg e1]
 exact hk
theorem Awn {K:Krn}{f f':List Int}{n:Nat}{K':Krn}(hL:Led K f n)(hf:f'.getD n 0=f.getD n 0)(ho:∀ i (hi:i < K.opens.length),f.getD n 0=(i:Int)+1->K.opens[i].kind≠0->∃ hi':i < K'.opens.length,K'.opens[i]=K.opens[i])(ht:Aer K.tree K'.tree)(hp:K.pipes.length<=K'.pipes.length):Led K' f' n:=by
 unfold Led at hL ⊢
 rw[hf]
 rcases hL with h|⟨j,hj,h1,h2,h3,h4,h5⟩
 ·exact .inl h
 ·obtain⟨hj',e⟩:=ho j hj h1 h2
  refine .inr ⟨j,hj',h1,?_⟩
  rw[e]
  exact⟨h2,Aq4 ht (Ate hp h3),h4,h5⟩
theorem Apk {K:Krn}{f:List Int}(h:FitK K f):Ag4 K:=fun i hi=>by
 rcases h.opens i hi with hg|⟨h1,h2,-⟩
 ·rw[hg];exact⟨by decide,by decide⟩
 ·exact⟨by omega,h2⟩
theorem Aio {K:Krn}{f:List Int}(h:FitK K f):Al2 K:=fun i hi=>(h.pipes i hi).1
theorem Axo {K:Krn}{o:Opn}(h:Ag4 K)(ho:0<=o.refs/\o.refs<=1000):Ag4 { K with opens:=(putK K.opens o).1 }:=by
 obtain⟨⟨O',a⟩,hz⟩:∃ z,putK K.opens o=z:=⟨_,rfl⟩
 rw[hz]
 by_cases ha:a=0
 ·subst ha
  have:O'=K.opens:=by
   unfold putK at hz
   split at hz
   ·simp only[Prod.mk.injEq]at hz
    omega
   ·split at hz
    ·exact(Prod.mk.inj hz).1.symm
    ·simp only[Prod.mk.injEq]at hz
     omega
  subst this
  exact h
 ·rcases Aho hz ha with ⟨i,hi,h0,rfl,rfl⟩|⟨hlen,rfl,rfl⟩
  ·intro q hq
   have hq':q < K.opens.length:=by
    have:q < (K.opens.set i o).length:=hq
    rw[List.length_set]at this
    exact this
   show 0<=((K.opens.set i o)[q]'(by rw[List.length_set];exact hq')).refs/\_
   rw[List.getElem_set]
   split
   ·exact ho
   ·exact h q hq'
  ·intro q hq
   have hq':q < K.opens.length+1:=by
    have:q < (K.opens ++ [o]).length:=hq
    rw[List.length_append]at this
    exact this
   show 0<=((K.opens ++ [o])[q]'(by rw[List.length_append];exact hq')).refs/\_
   by_cases e:q < K.opens.length
   ·rw[List.getElem_append_left e];exact h q e
   ·obtain rfl:q=K.opens.length:=by omega
    rw[List.getElem_concat_length rfl]
    exact ho
theorem Awj (K:Krn)(x:Opn):(Abz K x).2.2=0∨(Abz K x).2.2=24:=by
 unfold Abz layL
 split
 ·exact .inl rfl
 ·split
  ·exact .inr rfl
  ·exact .inl rfl
section
variable {B g : Nat} {A : KAd} {K : Krn} {f : List Int}
end
theorem Ada {k:Nat}{W W':World}(h:But k W W'){a:Addr}(hne:a.block≠k):W'.cell? a=W.cell? a:=World.cell?_of_block (h.block _ hne)
section
variable {B g : Nat} {A : KAd} {K : Krn} {f : List Int}
theorem Ats (go j:Nat)(n:Int)(w:World)(hW:Wk w B g A K f)(hj:j < K.opens.length)(ha:A.oa=some ⟨go,0,none⟩)(hF:FitP K.tree K.m K.b)(s:List UInt8)(er:Int)(hz:Aft K.tree K.opens[j].at_ K.opens[j].off n=(s,er))(h0:0<=K.opens[j].off)(h1:K.opens[j].off<=65536)(hs:s.length<=65536) :
  Calls Tryz.prog 94 #[.pointer (some ⟨g,0,none⟩),.pointer (some ⟨go,j * 5,none⟩),.int .i64 n] w fun e w'=>e=.returned (.tuple #[.string ⟨s.toArray⟩,.int .i64 er])/\Wk w' B g A { K with opens:=K.opens.set j { K.opens[j]with off:=K.opens[j].off+(s.length:Int) } } f/\Stepw g A w A w':=by
 obtain⟨S,hS⟩:∃ S:ByteArray,S=⟨s.toArray⟩:=⟨_,rfl⟩
 have hSz:S.size=s.length:=by rw[hS];simp[ByteArray.size]
 rw[<-hS]
 have HW:=Hd hW
 have HA:=Hd ha
 obtain⟨q0,q1,q2,q3,q4,q5,q6⟩:=hW.kcells
 obtain⟨-,x0,x1,x2,x3,x4,xl,xf⟩:=hW.all hj ha
 have gl:=hW.lt
 obtain⟨off,hoff⟩:∃ o,K.opens[j].off=o:=⟨_,rfl⟩
 obtain⟨at_,hat⟩:∃ o,K.opens[j].at_=o:=⟨_,rfl⟩
 rw[hoff]at x2 h0 h1 hz
 rw[hat]at x1 hz
 have HO:=Hd hoff
 have hSS:=hS
 have G1:=Aa0 (wb:=w) (f:=130) (args:=#[.agg #[.slice A.ta K.tree.length A.tc,.int .i64 K.m,.int .i64 K.b],.int .i64 at_,.int .i64 off,.int .i64 n]) (v:=.tuple #[.string S,.int .i64 er]) fun W hw=>by
  rw[hSS]
  exact Ba1 A.ta A.tc K.m K.b at_ off n K.tree hF s er hz W (HW.out.below hw).nodes
 have f0:=Aaj q0
 have f1:=Aaj q1
 have f2:=Aaj q2
 have e1:=Aaj x1
 have e2:=Aaj x2
 have hrw:IntKind.i64.wrap (off+(S.size:Int))=off+(S.size:Int):=by rw[IntKind.wrap_i64];omega
 have HSZ:=Hd hSz
 clear hW ha hz q0 q1 q2 q3 q4 q5 q6 x0 x1 x2 x3 x4 xf hF hoff hat hS hSS hSz
 go_enter Tryz.func94,Tryz.ntmps94
 go_upto_region 1 with fail
 refine Aah (by kernel_rfl) (by kernel_rfl) ?_
 repeat(first|go_big_quiet_skip|(go_big_quiet_want;go_big_quiet_op;(first|go_big_quiet_on|(refine⟨_,G1,?_⟩;go_big_quiet_on))))
 refine wpQuiet_nil ?_
 intro w4 hw4
 have hbg:Below w.heap.size w w4:=by obtain⟨x,rfl⟩:=hw4;exact x.below
 have HW4:=Hd (HW.out.below hbg)
 have HS4:=Hd (Stepw.of_below (g:=g) (A:=A) hbg)
 clear hw4 hbg f0 f1 f2 e1 e2 G1
 obtain⟨-,x0,x1,x2,x3,x4,xl,xf⟩:=HW4.out.all hj HA.out
 have xf2:=xf (j * 5+2)
 rw[HO.out]at x2
 clear xf x0 x1 x3 x4
 obtain⟨a1,a2⟩:=HW4.out.storeOff HA.out hj (off+(S.size:Int))
 have HA1:=Hd a1
 have HA2:=Hd a2
 clear a1 a2
 go_wp2_with fail
 go_ret2
 refine⟨rfl,?_,HS4.out.trans HA2.out⟩
 rw[HO.out,<-HSZ.out]
 exact HA1.out
theorem Att (go j i:Nat)(n:Int)(w:World)(hW:Wk w B g A K f)(hj:j < K.opens.length)(ha:A.oa=some ⟨go,0,none⟩)(hi:i < K.pipes.length)(hat:K.opens[j].at_=(i:Int))(hwr:0<=K.pipes[i].wr)(q:Pip)(t:List UInt8)(er:Int)(hz:Ack K.pipes[i] n=(q,t,er)) :
  Calls Tryz.prog 98 #[.pointer (some ⟨g,0,none⟩),.pointer (some ⟨go,j * 5,none⟩),.int .i64 n] w fun e w'=>e=.returned (.tuple #[.string ⟨t.toArray⟩,.int .i64 er])/\Wk w' B g A { K with pipes:=K.pipes.set i q } f/\Stepw g A w A w':=by
 have HW:=Hd hW
 have HA:=Hd ha
 have HAT:=Hd hat
 obtain⟨gp,hp,-,-⟩:=hW.pip hi
 have HP:=Hd hp
 have HC:=Hd (fun W=>Ba2 K.pipes[i] hwr n q t er hz W)
 obtain⟨D,hD⟩:∃ D:ByteArray,D=⟨q.data.toArray⟩:=⟨_,rfl⟩
 obtain⟨T,hT⟩:∃ D:ByteArray,D=⟨t.toArray⟩:=⟨_,rfl⟩
 rw[<-hD,<-hT]at HC
 rw[<-hT]
 have HD:=Hd hD
 have h0:(0:Int)<=(i:Int):=by omega
 have h1:(i:Int) < (K.pipes.length:Int):=by omega
 have HSS:=Hd (show ∀ W,Below w.heap.size w W->W.cell? ⟨g,3,none⟩=some (.slice (some ⟨gp,0,none⟩) K.pipes.length A.pc)/\W.cell? ⟨go,j * 5+1,none⟩=some (.int .i64 i)/\W.cell? ⟨gp,i * 4,none⟩=some (.string ⟨K.pipes[i].data.toArray⟩)/\W.cell? ⟨gp,i * 4+1,none⟩=some (.int .i64 K.pipes[i].rd)/\W.cell? ⟨gp,i * 4+2,none⟩=some (.int .i64 K.pipes[i].wr)/\W.cell? ⟨gp,i * 4+3,none⟩=some (.int .i64 K.pipes[i].cap)from fun W hb=>by
  have hk:=HW.out.below hb
  obtain⟨gp',hp',-,hq⟩:=hk.pip hi
  rw[HP.out]at hp'
  obtain rfl:gp=gp':=by simpa using hp'
  have e:=hk.kcells.2.2.2.1
  rw[HP.out]at e
  have ho:=(hk.all hj HA.out).2.at_
  rw[HAT.out]at ho
  exact⟨e,ho,hq.data,hq.rd,hq.wr,hq.cap⟩)
 have gl:=hW.lt
 have gpl:gp < w.heap.size:=by
  obtain⟨x,e,-,h⟩:=Abf hW.own.pipes _ hp
  have e3:gp=x:=by simpa using e
  omega
 have gol:go < w.heap.size:=by
  obtain⟨x,e,-,h⟩:=Abf hW.own.opens _ ha
  have e3:go=x:=by simpa using e
  omega
 have HBB:=Hd (Below.refl w.heap.size w)
 obtain⟨q3,x1,p0,p1,p2,p3⟩:=HSS.out _ HBB.out
 clear hW ha hat hp hz hD hT hwr
 go_enter Tryz.func98,Tryz.ntmps98
 go_upto_region 1 with fail
 go_cut [8,9,10]from 11 (fun c d e wx=>∃ nb,c=.pointer (some ⟨nb,0,none⟩)/\d=.string T/\e=.int .i64 er/\wx.heap[nb]?=some (.cells #[.string D,.int .i64 q.rd,.int .i64 q.wr,.int .i64 q.cap] 87 (0,0))/\w.heap.size<=nb/\Below w.heap.size w wx)
 case first=>
  go_region_held3 (fun W=>W.cell? ⟨g,3,none⟩=some (.slice (some ⟨gp,0,none⟩) K.pipes.length A.pc)/\W.cell? ⟨go,j * 5+1,none⟩=some (.int .i64 i)/\W.cell? ⟨gp,i * 4,none⟩=some (.string ⟨K.pipes[i].data.toArray⟩)/\W.cell? ⟨gp,i * 4+1,none⟩=some (.int .i64 K.pipes[i].rd)/\W.cell? ⟨gp,i * 4+2,none⟩=some (.int .i64 K.pipes[i].wr)/\W.cell? ⟨gp,i * 4+3,none⟩=some (.int .i64 K.pipes[i].cap))
   (first|exact⟨q3,x1,p0,p1,p2,p3⟩|exact HSS.out _ (Aab _ _)|exact HSS.out _ (Aac (Aab _ _))|exact HSS.out _ HBB.out|exact HSS.out _ (HBB.out.alloc HBB.out.size _)|exact HSS.out _ (Aac (HBB.out.alloc HBB.out.size _))|exact HSS.out _ (Ac3 HBB.out (Nat.le_refl _) _ _ _ _)|exact HSS.out _ (Aac (Ac3 HBB.out (Nat.le_refl _) _ _ _ _)))
   (first
    | (go_at_call 133;refine(HC.out _).mono ?_;rintro e wn ⟨rfl,hbn⟩;have HBB:Hid (Below w.heap.size w wn):=Hd (Aaz (Aab w (.cells #[.string ⟨#[]⟩,.int .i64 0,.int .i64 0,.int .i64 0] 87)) hbn (Aab w _).size ⟨rfl,rfl,rfl,rfl⟩);have hzz:wn.heap[w.heap.size]?=some (.cells #[.string ⟨#[]⟩,.int .i64 0,.int .i64 0,.int .i64 0] 87 (0,0)):=(hbn.block w.heap.size (Nat.lt_of_lt_of_eq (Nat.lt_succ_self _) (World.size_alloc _ _).symm)).trans (Aag w _);have HZZ:=Hd hzz;have e0:=bC hzz 0;have e1:=bC hzz 1;have e2_:=bC hzz 2;have e3:=bC hzz 3;have f0:=bF hzz 0;have f1:=bF hzz 1;have f2:=bF hzz 2;have f3:=bF hzz 3;have el:=lt_of_block hzz;clear hzz;obtain⟨q3,x1,p0,p1,p2,p3⟩:=HSS.out _ HBB.out)
    | (go_at_call 133;refine(HC.out _).mono ?_;rintro e wn ⟨rfl,hbn⟩;have HBB:Hid (Below w.heap.size w wn):=Hd (Aaz HBB.out hbn HBB.out.size ⟨rfl,rfl,rfl,rfl⟩);obtain⟨q3,x1,p0,p1,p2,p3⟩:=HSS.out _ HBB.out))
  all_goals
   go_wp2_with fail
   go_meet
   first
    | exact⟨wn.heap.size,rfl,rfl,rfl,Aag wn _,HBB.out.size,HBB.out.alloc HBB.out.size _⟩
    | exact⟨w.heap.size,rfl,rfl,rfl,Aep HZZ.out _ _ _ _,Nat.le_refl _,Ac3 HBB.out (Nat.le_refl _) _ _ _ _⟩
 case rest=>
  obtain⟨nb,rfl,rfl,rfl,hnb,hnl,hbc⟩:=hcut
  clear q3 x1 p0 p1 p2 p3 gl gpl gol HBB
  obtain⟨wb,hwb⟩:∃ z,z=wc:=⟨_,rfl⟩
  rw[<-hwb]at hnb hbc ⊢
  have HWB:=Hd (HW.out.below hbc)
  have HSB:=Hd (Stepw.of_below (g:=g) (A:=A) hbc)
  have HNB:=Hd hnb
  obtain⟨q3,x1,-,-,-,-⟩:=HSS.out _ hbc
  have e0:=bC hnb 0
  have e1:=bC hnb 1
  have e2_:=bC hnb 2
  have e3:=bC hnb 3
  have el:=lt_of_block hnb
  obtain⟨gp',hp',-,hq⟩:=HWB.out.pip hi
  rw[HP.out]at hp'
  obtain rfl:gp=gp':=by simpa using hp'
  obtain⟨p0,p1,p2,p3,pl,pf⟩:=hq
  have z0:=pf (i * 4)
  have z1:=pf (i * 4+1)
  have z2:=pf (i * 4+2)
  have z3:=pf (i * 4+3)
  have gl:=HWB.out.lt
  have gol:=Aaf x1
  have hgg:g≠gp:=fun e=>HWB.out.gp _ HP.out e.symm
  have hog:go≠gp:=fun e=>HWB.out.own.apart _ _ HP.out HA.out e.symm
  have hng:nb≠gp:=fun e=>by
   obtain⟨x,e2,-,h⟩:=Abf HW.out.own.pipes _ HP.out
   have e3:gp=x:=by simpa using e2
   omega
  have HPS:=Hd (show ∀ x y z u,(Acc wb gp (i * 4) x y z u).cell? ⟨g,3,none⟩=some (.slice (some ⟨gp,0,none⟩) K.pipes.length A.pc)/\(Acc wb gp (i * 4) x y z u).cell? ⟨go,j * 5+1,none⟩=some (.int .i64 i)/\(Acc wb gp (i * 4) x y z u).cell? ⟨nb,0,none⟩=some (.string D)/\(Acc wb gp (i * 4) x y z u).cell? ⟨nb,1,none⟩=some (.int .i64 q.rd)/\(Acc wb gp (i * 4) x y z u).cell? ⟨nb,2,none⟩=some (.int .i64 q.wr)/\(Acc wb gp (i * 4) x y z u).cell? ⟨nb,3,none⟩=some (.int .i64 q.cap)from fun x y z u=>by
   have hbt:=Adh wb gp (i * 4) x y z u
   exact⟨(Ada hbt hgg).trans q3,(Ada hbt hog).trans x1,(Ada hbt hng).trans e0,(Ada hbt hng).trans e1,(Ada hbt hng).trans e2_,(Ada hbt hng).trans e3⟩)
  clear pf hnb hbc hp' hwb
  go_upto_region 2 with fail
  go_region
  all_goals
   go_wp2_with fail
   go_ret2
   obtain⟨a1,a2⟩:=HWB.out.storePip HP.out hi q
   rw[<-HD.out]at a1 a2
   first
    | exact⟨rfl,a1,HSB.out.trans a2⟩
    | exact⟨rfl,a1.below (Aac (Below.refl _ _)),(HSB.out.trans a2).below (Aac (Below.refl _ _))⟩
end
end Go.Proofs.YtkdfbliiblojoaaGreatDoor
