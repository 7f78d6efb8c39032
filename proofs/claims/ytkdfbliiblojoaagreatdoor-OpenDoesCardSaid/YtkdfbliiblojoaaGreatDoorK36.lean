import Derived.Test.YtkdfbliiblojoaaGreatDoorK32
set_option linter.all false
set_option maxRecDepth 100000
set_option maxHeartbeats 64000000
namespace Go.Proofs.YtkdfbliiblojoaaGreatDoor
open Go Go.RowKit
def Aes (B g:Nat)(K':Krn)(f:List Int)(v:Value)(er:Int)(w:World)(e:Ending)(w':World):Prop:=
 e=.returned (.tuple #[v,.int .i64 er])/\Below B w w'/\(er=0->∃ A',Wk w' B g A' K' f)
section
variable {B g : Nat} {A : KAd} {K : Krn} {f : List Int}
theorem Aq7 (go j n:Nat)(S:ByteArray)(hS:S.size<=1000000)(w:World)(hW:Wk w B g A K f)(hBw:B<=w.heap.size)(hj:j < K.opens.length)(ha:A.oa=some ⟨go,0,none⟩)(hn:n < K.tree.length)(hat:K.opens[j].at_=(n:Int))(hfl:K.opens[j].flags=1∨K.opens[j].flags=2∨K.opens[j].flags=3∨K.opens[j].flags=6∨K.opens[j].flags=7)(hF:FitP K.tree K.m K.b)(off:Int)(hoff:off=if 4<=K.opens[j].flags then(K.tree[n].data.length:Int)else K.opens[j].off)(h0:0<=off)(h1:off<=65536)(L':List Ino)(er m:Int)(hm:m=if er=0 then(S.size:Int)else 0)(hz:Ae1 K.tree K.b (n:Int) off S.data.toList=(L',er)) :
  Calls Tryz.prog 95 #[.pointer (some ⟨g,0,none⟩),.pointer (some ⟨go,j * 5,none⟩),.string S] w (Aes B g { K with tree:=L',opens:=K.opens.set j { K.opens[j]with off:=off+(S.size:Int) } } f (.int .i64 m) er w):=by
 have HM:=Hd hm
 clear hm
 have HW:=Hd hW
 have HA:=Hd ha
 have HAT:=Hd hat
 have HBw:=Hd hBw
 have HC:=Hd (fun W (hN:Aad W A.ta A.tc K.tree)=>Aoh A.ta A.tc K.m K.b (n:Int) off S hS K.tree hF L' er hz W hN)
 have HSS:=Hd (show ∀ W,Below w.heap.size w W->W.cell? ⟨g,0,none⟩=some (.slice A.ta K.tree.length A.tc)/\W.cell? ⟨g,1,none⟩=some (.int .i64 K.m)/\W.cell? ⟨g,2,none⟩=some (.int .i64 K.b)/\W.cell? ⟨go,j * 5+1,none⟩=some (.int .i64 n)from fun W hb=>by
  have hk:=HW.out.below hb
  obtain⟨q0,q1,q2,-⟩:=hk.kcells
  have ho:=(hk.all hj HA.out).2.at_
  rw[HAT.out]at ho
  exact⟨q0,q1,q2,ho⟩)
 have gl:=hW.lt
 obtain⟨-,ox0,ox1,ox2,ox3,ox4,gol,-⟩:=hW.all hj ha
 obtain⟨fl,hflg⟩:∃ x,K.opens[j].flags=x:=⟨_,rfl⟩
 obtain⟨of0,hof0⟩:∃ x,K.opens[j].off=x:=⟨_,rfl⟩
 rw[hflg]at ox3 hfl hoff
 rw[hof0]at ox2 hoff
 obtain⟨bt,ot,hta,hx⟩:=hW.nodes.2.2 n hn
 have xd:=hx.data
 have xbl:=Aaf xd
 obtain⟨D,hD⟩:∃ D:ByteArray,D=⟨K.tree[n].data.toArray⟩:=⟨_,rfl⟩
 have hDs:D.size=K.tree[n].data.length:=by rw[hD];simp[ByteArray.size]
 rw[<-hD]at xd
 have HTA:=Hd hta
 have HOF:=Hd hoff
 have HDS:=Hd hDs
 have b0:(0:Int)<=(n:Int):=by omega
 have b1:(n:Int) < (K.tree.length:Int):=by omega
 obtain⟨q0,q1,q2,x1⟩:=HSS.out _ (Below.refl _ _)
 have HH:=Hd (And.intro h0 h1)
 clear hW ha hat hF hz hBw hx hD hDs hoff hta h0 h1 ox0 ox1 ox4 hflg hof0
 have hand:bits .and .i64 fl 4=if 4<=fl then 4 else 0:=by
  rcases hfl with rfl|rfl|rfl|rfl|rfl <;> rfl
 by_cases h4:4<=fl
 ·rw[if_pos h4]at hand
  have HF4:=Hd h4
  have hoff:off=(D.size:Int):=by rw[HOF.out,if_pos h4,HDS.out]
  have HOD:=Hd hoff
  rw[HTA.out]at q0
  have g0:=Aaj q0
  have g1:=Aaj x1
  have g2:=Aaj xd
  clear hfl h4 hoff
  go_enter Tryz.func95,Tryz.ntmps95
  go_upto_region 3 with fail
  refine Aah (by kernel_rfl) (by kernel_rfl) ?_
  repeat(first|go_big_quiet_skip|(go_big_quiet_want;go_big_quiet_op;go_big_quiet_on))
  refine wpQuiet_nil ?_
  intro wq hwq
  have hbq:Below w.heap.size w wq:=by obtain⟨x,rfl⟩:=hwq;exact x.below
  clear hwq g0 g1 g2 hand
  rw[<-HOD.out]
  have HWQ:=Hd (HW.out.below hbq)
  have HBQ:=Hd hbq
  have HSQ:=Hd (show ∀ W,Below wq.heap.size wq W->W.cell? ⟨g,0,none⟩=some (.slice A.ta K.tree.length A.tc)/\W.cell? ⟨g,1,none⟩=some (.int .i64 K.m)/\W.cell? ⟨g,2,none⟩=some (.int .i64 K.b)/\W.cell? ⟨go,j * 5+1,none⟩=some (.int .i64 n)from fun W hb=>HSS.out _ (HBQ.out.trans (hb.mono HBQ.out.size)))
  have HBB:=Hd (Below.refl wq.heap.size wq)
  clear hbq q0 q1 q2 x1 gl gol xd xbl ox2 ox3
  obtain⟨q0,q1,q2,x1⟩:=HSQ.out _ HBB.out
  have gl:=HWQ.out.lt
  have gol:=Aaf x1
  go_upto_region 4 with fail
  go_cut [9,10]from 35 (fun c d wx=>∃ nb gt cap vs,c=.pointer (some ⟨nb,0,none⟩)/\d=.int .i64 er/\wx.heap[nb]?=some (.cells #[.slice (some ⟨gt,0,none⟩) L'.length cap,.int .i64 K.m,.int .i64 K.b] 24 (0,0))/\OwnT wx wq.heap.size gt cap L' vs/\Below wq.heap.size wq wx)
  case first=>
   go_region_held3 (fun W=>W.cell? ⟨g,0,none⟩=some (.slice A.ta K.tree.length A.tc)/\W.cell? ⟨g,1,none⟩=some (.int .i64 K.m)/\W.cell? ⟨g,2,none⟩=some (.int .i64 K.b)/\W.cell? ⟨go,j * 5+1,none⟩=some (.int .i64 n))
    (first|exact⟨q0,q1,q2,x1⟩|exact HSQ.out _ (Aab _ _)|exact HSQ.out _ (Aac (Aab _ _))|exact HSQ.out _ HBB.out|exact HSQ.out _ (HBB.out.alloc HBB.out.size _)|exact HSQ.out _ (Aac (HBB.out.alloc HBB.out.size _))|exact HSQ.out _ (Aao HBB.out (Nat.le_refl _) _ _ _)|exact HSQ.out _ (Aac (Aao HBB.out (Nat.le_refl _) _ _ _)))
    (first
     | (go_at_call 131;refine(HC.out _ (HWQ.out.below (by first|exact Aab _ _|exact Aac (Aab _ _)|exact(Aac (Below.refl _ _)).alloc (Nat.le_refl _) _)).nodes).mono ?_;rintro e wn ⟨⟨gt,cap,vs,rfl,hot⟩,hbn⟩;have HBB:Hid (Below wq.heap.size wq wn):=Hd (Aaz (Aab wq (.cells #[.slice none 0 0,.int .i64 0,.int .i64 0] 24)) hbn (Aab wq _).size ⟨rfl,rfl,rfl,rfl⟩);have hzz:wn.heap[wq.heap.size]?=some (.cells #[.slice none 0 0,.int .i64 0,.int .i64 0] 24 (0,0)):=(hbn.block wq.heap.size (Nat.lt_of_lt_of_eq (Nat.lt_succ_self _) (World.size_alloc _ _).symm)).trans (Aag wq _);have HZZ:=Hd hzz;have HOT:=Hd (OwnT.mid (W':=put3 wn wq.heap.size (.slice (some ⟨gt,0,none⟩) L'.length cap) (.int .i64 K.m) (.int .i64 K.b)) hot (fun k hk _=>Aa9 (fun e=>absurd (Nat.lt_of_lt_of_le (Nat.lt_of_lt_of_eq (Nat.lt_succ_self _) (World.size_alloc _ _).symm) hk) (by rw[e];exact Nat.lt_irrefl _)) _ _ _));have HOL:=Hd (show wq.heap.size<=wq.heap.size+1 from Nat.le_succ _);have e0:=bC hzz 0;have e1:=bC hzz 1;have e2_:=bC hzz 2;have f0:=bF hzz 0;have f1:=bF hzz 1;have f2:=bF hzz 2;have el:=lt_of_block hzz;clear hzz hot hbn;obtain⟨q0,q1,q2,x1⟩:=HSQ.out _ HBB.out)
     | (go_at_call 131;refine(HC.out _ (HWQ.out.below (by first|exact Below.refl _ _|exact Aac (Below.refl _ _))).nodes).mono ?_;rintro e wn ⟨⟨gt,cap,vs,rfl,hot⟩,hbn⟩;have HBB:Hid (Below wq.heap.size wq wn):=Hd (Aaz HBB.out hbn HBB.out.size ⟨rfl,rfl,rfl,rfl⟩);have HOT:=Hd (hot.below (Aab wn (.cells #[.slice (some ⟨gt,0,none⟩) L'.length cap,.int .i64 K.m,.int .i64 K.b] 24)));clear hot hbn;obtain⟨q0,q1,q2,x1⟩:=HSQ.out _ HBB.out))
   all_goals
    go_wp2_with fail
    go_meet
    first
     | exact⟨wn.heap.size,gt,cap,vs,rfl,rfl,Aag wn _,HOT.out,HBB.out.alloc HBB.out.size _⟩
     | exact⟨wq.heap.size,gt,cap,vs,rfl,rfl,Afg HZZ.out _ _ _,HOT.out.lower (by simp),Aao HBB.out (Nat.le_refl _) _ _ _⟩
  case rest=>
   obtain⟨nb,gt,cap,vs,rfl,rfl,hnb,hot,hbc⟩:=hcut
   clear q0 q1 q2 x1 gl gol HBB
   obtain⟨wb,hwb⟩:∃ z,z=wc:=⟨_,rfl⟩
   rw[<-hwb]at hnb hbc hot ⊢
   have HBC:=Hd hbc
   have HOT:=Hd hot
   have e0:=bC hnb 0
   have e1:=bC hnb 1
   have e2_:=bC hnb 2
   have el:=lt_of_block hnb
   clear hnb hot hbc hwb
   by_cases he:er=0
   ·subst he
    have hwb2:=HWQ.out.below HBC.out
    have gl:=hwb2.lt
    have s0:=hwb2.free 0
    have s1:=hwb2.free 1
    have s2:=hwb2.free 2
    obtain⟨t0,t1,t2,-⟩:=hwb2.kcells
    obtain⟨-,y0,y1,y2,y3,y4,gol,yf⟩:=hwb2.all hj HA.out
    have yf2:=yf (j * 5+2)
    obtain⟨hh0,hh1⟩:=HH.out
    have hrw:IntKind.i64.wrap (off+(S.size:Int))=off+(S.size:Int):=by rw[IntKind.wrap_i64];omega
    have hgo:go≠g:=fun e=>hwb2.go _ HA.out e
    obtain⟨a1,a2⟩:=HWQ.out.newTree HBC.out HOT.out
    have HA1:=Hd a1
    have HA2:=Hd a2
    obtain⟨c1,c2⟩:=a1.storeOff HA.out hj (off+(S.size:Int))
    have HC1:=Hd c1
    have HC2:=Hd c2
    clear hwb2 yf a1 a2 c1 c2 y0 y1 y3 y4 hh0 hh1
    go_wp2_with fail
    go_ret2
    exact⟨by rw[show m=(S.size:Int) by simpa using HM.out];rfl,HW.out.low ((Stepw.of_below HBQ.out).trans (HA2.out.trans HC2.out)) HBw.out,fun _=>⟨_,HC1.out⟩⟩
   ·have heb:(er != 0)=true:=by simpa using he
    have HE:=Hd he
    clear he
    go_wp2_with fail
    go_ret2
    exact⟨by rw[show m=0 by simpa[HE.out] using HM.out];rfl,(HBQ.out.trans (HBC.out.mono HBQ.out.size)).mono HBw.out,fun h=>absurd h HE.out⟩
 ·rw[if_neg h4]at hand
  have hoff:off=of0:=by rw[HOF.out,if_neg h4]
  have hbq:Below w.heap.size w w:=Below.refl _ _
  rw[<-hoff]at ox2
  clear hfl h4 hoff
  go_enter Tryz.func95,Tryz.ntmps95
  go_upto_region 4 with fail
  clear hand
  have HWQ:=Hd (HW.out.below hbq)
  have HBQ:=Hd hbq
  have HSQ:=Hd (show ∀ W,Below w.heap.size w W->W.cell? ⟨g,0,none⟩=some (.slice A.ta K.tree.length A.tc)/\W.cell? ⟨g,1,none⟩=some (.int .i64 K.m)/\W.cell? ⟨g,2,none⟩=some (.int .i64 K.b)/\W.cell? ⟨go,j * 5+1,none⟩=some (.int .i64 n)from fun W hb=>HSS.out _ (HBQ.out.trans (hb.mono HBQ.out.size)))
  have HBB:=Hd (Below.refl w.heap.size w)
  clear hbq q0 q1 q2 x1 gl gol xd xbl ox2 ox3
  obtain⟨q0,q1,q2,x1⟩:=HSQ.out _ HBB.out
  have gl:=HWQ.out.lt
  have gol:=Aaf x1
  go_cut [9,10]from 35 (fun c d wx=>∃ nb gt cap vs,c=.pointer (some ⟨nb,0,none⟩)/\d=.int .i64 er/\wx.heap[nb]?=some (.cells #[.slice (some ⟨gt,0,none⟩) L'.length cap,.int .i64 K.m,.int .i64 K.b] 24 (0,0))/\OwnT wx w.heap.size gt cap L' vs/\Below w.heap.size w wx)
  case first=>
   go_region_held3 (fun W=>W.cell? ⟨g,0,none⟩=some (.slice A.ta K.tree.length A.tc)/\W.cell? ⟨g,1,none⟩=some (.int .i64 K.m)/\W.cell? ⟨g,2,none⟩=some (.int .i64 K.b)/\W.cell? ⟨go,j * 5+1,none⟩=some (.int .i64 n))
    (first|exact⟨q0,q1,q2,x1⟩|exact HSQ.out _ (Aab _ _)|exact HSQ.out _ (Aac (Aab _ _))|exact HSQ.out _ HBB.out|exact HSQ.out _ (HBB.out.alloc HBB.out.size _)|exact HSQ.out _ (Aac (HBB.out.alloc HBB.out.size _))|exact HSQ.out _ (Aao HBB.out (Nat.le_refl _) _ _ _)|exact HSQ.out _ (Aac (Aao HBB.out (Nat.le_refl _) _ _ _)))
    (first
     | (go_at_call 131;refine(HC.out _ (HWQ.out.below (by first|exact Aab _ _|exact Aac (Aab _ _)|exact(Aac (Below.refl _ _)).alloc (Nat.le_refl _) _)).nodes).mono ?_;rintro e wn ⟨⟨gt,cap,vs,rfl,hot⟩,hbn⟩;have HBB:Hid (Below w.heap.size w wn):=Hd (Aaz (Aab w (.cells #[.slice none 0 0,.int .i64 0,.int .i64 0] 24)) hbn (Aab w _).size ⟨rfl,rfl,rfl,rfl⟩);have hzz:wn.heap[w.heap.size]?=some (.cells #[.slice none 0 0,.int .i64 0,.int .i64 0] 24 (0,0)):=(hbn.block w.heap.size (Nat.lt_of_lt_of_eq (Nat.lt_succ_self _) (World.size_alloc _ _).symm)).trans (Aag w _);have HZZ:=Hd hzz;have HOT:=Hd (OwnT.mid (W':=put3 wn w.heap.size (.slice (some ⟨gt,0,none⟩) L'.length cap) (.int .i64 K.m) (.int .i64 K.b)) hot (fun k hk _=>Aa9 (fun e=>absurd (Nat.lt_of_lt_of_le (Nat.lt_of_lt_of_eq (Nat.lt_succ_self _) (World.size_alloc _ _).symm) hk) (by rw[e];exact Nat.lt_irrefl _)) _ _ _));have HOL:=Hd (show w.heap.size<=w.heap.size+1 from Nat.le_succ _);have e0:=bC hzz 0;have e1:=bC hzz 1;have e2_:=bC hzz 2;have f0:=bF hzz 0;have f1:=bF hzz 1;have f2:=bF hzz 2;have el:=lt_of_block hzz;clear hzz hot hbn;obtain⟨q0,q1,q2,x1⟩:=HSQ.out _ HBB.out)
     | (go_at_call 131;refine(HC.out _ (HWQ.out.below (by first|exact Below.refl _ _|exact Aac (Below.refl _ _))).nodes).mono ?_;rintro e wn ⟨⟨gt,cap,vs,rfl,hot⟩,hbn⟩;have HBB:Hid (Below w.heap.size w wn):=Hd (Aaz HBB.out hbn HBB.out.size ⟨rfl,rfl,rfl,rfl⟩);have HOT:=Hd (hot.below (Aab wn (.cells #[.slice (some ⟨gt,0,none⟩) L'.length cap,.int .i64 K.m,.int .i64 K.b] 24)));clear hot hbn;obtain⟨q0,q1,q2,x1⟩:=HSQ.out _ HBB.out))
   all_goals
    go_wp2_with fail
    go_meet
    first
     | exact⟨wn.heap.size,gt,cap,vs,rfl,rfl,Aag wn _,HOT.out,HBB.out.alloc HBB.out.size _⟩
     | exact⟨w.heap.size,gt,cap,vs,rfl,rfl,Afg HZZ.out _ _ _,HOT.out.lower (by simp),Aao HBB.out (Nat.le_refl _) _ _ _⟩
  case rest=>
   obtain⟨nb,gt,cap,vs,rfl,rfl,hnb,hot,hbc⟩:=hcut
   clear q0 q1 q2 x1 gl gol HBB
   obtain⟨wb,hwb⟩:∃ z,z=wc:=⟨_,rfl⟩
   rw[<-hwb]at hnb hbc hot ⊢
   have HBC:=Hd hbc
   have HOT:=Hd hot
   have e0:=bC hnb 0
   have e1:=bC hnb 1
   have e2_:=bC hnb 2
   have el:=lt_of_block hnb
   clear hnb hot hbc hwb
   by_cases he:er=0
   ·subst he
    have hwb2:=HWQ.out.below HBC.out
    have gl:=hwb2.lt
    have s0:=hwb2.free 0
    have s1:=hwb2.free 1
    have s2:=hwb2.free 2
    obtain⟨t0,t1,t2,-⟩:=hwb2.kcells
    obtain⟨-,y0,y1,y2,y3,y4,gol,yf⟩:=hwb2.all hj HA.out
    have yf2:=yf (j * 5+2)
    obtain⟨hh0,hh1⟩:=HH.out
    have hrw:IntKind.i64.wrap (off+(S.size:Int))=off+(S.size:Int):=by rw[IntKind.wrap_i64];omega
    have hgo:go≠g:=fun e=>hwb2.go _ HA.out e
    obtain⟨a1,a2⟩:=HWQ.out.newTree HBC.out HOT.out
    have HA1:=Hd a1
    have HA2:=Hd a2
    obtain⟨c1,c2⟩:=a1.storeOff HA.out hj (off+(S.size:Int))
    have HC1:=Hd c1
    have HC2:=Hd c2
    clear hwb2 yf a1 a2 c1 c2 y0 y1 y3 y4 hh0 hh1
    go_wp2_with fail
    go_ret2
    exact⟨by rw[show m=(S.size:Int) by simpa using HM.out];rfl,HW.out.low ((Stepw.of_below HBQ.out).trans (HA2.out.trans HC2.out)) HBw.out,fun _=>⟨_,HC1.out⟩⟩
   ·have heb:(er != 0)=true:=by simpa using he
    have HE:=Hd he
    clear he
    go_wp2_with fail
    go_ret2
    exact⟨by rw[show m=0 by simpa[HE.out] using HM.out];rfl,(HBQ.out.trans (HBC.out.mono HBQ.out.size)).mono HBw.out,fun h=>absurd h HE.out⟩
end
section
variable {B g : Nat} {A : KAd} {K : Krn} {f : List Int}
theorem Wk.setOut0 {W:World}(h:Wk W B g A K f)(o:List UInt8):Wk (W.setCell ⟨g,5,none⟩ (.string ⟨o.toArray⟩)) B g A { K with out0:=o } f/\Stepw g A W A (W.setCell ⟨g,5,none⟩ (.string ⟨o.toArray⟩)):=
 ⟨h.setBox (Aar h.box 5 _) (But.set ..) rfl rfl rfl h.flen,.of_but (But.set ..) (.inl rfl)⟩
theorem Wk.setOut1 {W:World}(h:Wk W B g A K f)(o:List UInt8):Wk (W.setCell ⟨g,6,none⟩ (.string ⟨o.toArray⟩)) B g A { K with out1:=o } f/\Stepw g A W A (W.setCell ⟨g,6,none⟩ (.string ⟨o.toArray⟩)):=
 ⟨h.setBox (Aar h.box 6 _) (But.set ..) rfl rfl rfl h.flen,.of_but (But.set ..) (.inl rfl)⟩
theorem Aq8 (go j:Nat)(S:ByteArray)(hS:S.size<=1000000)(w:World)(hW:Wk w B g A K f)(hBw:B<=w.heap.size)(hj:j < K.opens.length)(ha:A.oa=some ⟨go,0,none⟩)(hat:K.opens[j].at_=0)(hl:K.out0.length<=65536)(m er:Int)(hm:m=if 65536 - (K.out0.length:Int) < (S.size:Int)then 0 else(S.size:Int))(he:er=if 65536 - (K.out0.length:Int) < (S.size:Int)then 28 else 0) :
  Calls Tryz.prog 104 #[.pointer (some ⟨g,0,none⟩),.pointer (some ⟨go,j * 5,none⟩),.string S] w (Aes B g { K with out0:=K.out0 ++ S.data.toList } f (.int .i64 m) er w):=by
 have HW:=Hd hW
 have HBw:=Hd hBw
 have q:=hW.kcells.2.2.2.2.2.1
 obtain⟨-,y0,x1,y2,y3,y4,gol,-⟩:=hW.all hj ha
 rw[hat]at x1
 have fq:=hW.free 5
 have gl:=hW.lt
 obtain⟨D,hD⟩:∃ D:ByteArray,D=⟨K.out0.toArray⟩:=⟨_,rfl⟩
 have hDs:D.size=K.out0.length:=by rw[hD];simp[ByteArray.size]
 rw[<-hD]at q
 have HDD:=Hd (show (⟨(K.out0 ++ S.data.toList).toArray⟩:ByteArray)=D ++ S by rw[hD];exact(ByteArray.ext (by simp)))
 obtain⟨a1,a2⟩:=hW.setOut0 (K.out0 ++ S.data.toList)
 rw[HDD.out]at a1 a2
 have HA1:=Hd a1
 have HA2:=Hd a2
 rw[<-hDs]at hm he hl
 have hrw:IntKind.i64.wrap ((D.size:Int)+(S.size:Int))=(D.size:Int)+(S.size:Int):=by rw[IntKind.wrap_i64];omega
 have hsm:¬ 9223372036854775807 < D.size+S.size:=by omega
 clear hW hBw hat y0 y2 y3 y4 hD hDs a1 a2 ha
 by_cases hb:65536 - (D.size:Int) < (S.size:Int)
 ·rw[if_pos hb]at hm he
  subst hm he
  have d1:decide ((D.size:Int)+(S.size:Int) > 65536)=true:=decide_eq_true (by omega)
  have d2:decide (65536 < (D.size:Int)+(S.size:Int))=true:=decide_eq_true (by omega)
  clear hb
  go_enter Tryz.func104,Tryz.ntmps104
  go_wp2_with fail
  go_quiet (fail)
  go_wp2_with fail
  go_ret2
  exact⟨rfl,(Aa2 (Below.refl _ _) _).mono HBw.out,fun h=>absurd h (show ¬ (28:Int)=0 by decide)⟩
 ·rw[if_neg hb]at hm he
  subst hm he
  have d1:decide ((D.size:Int)+(S.size:Int) > 65536)=false:=decide_eq_false (by omega)
  have d2:decide (65536 < (D.size:Int)+(S.size:Int))=false:=decide_eq_false (by omega)
  clear hb
  go_enter Tryz.func104,Tryz.ntmps104
  go_wp2_with fail
  go_quiet (fail)
  go_wp2_with fail
  go_region
  all_goals
   go_wp2_with fail
   go_ret2
   exact⟨rfl,(HW.out.low HA2.out HBw.out).trans ⟨rfl,rfl,rfl,Nat.le_refl _,fun _ _=>rfl⟩,fun _=>⟨_,HA1.out.below ⟨rfl,rfl,rfl,Nat.le_refl _,fun _ _=>rfl⟩⟩⟩
theorem Aq9 (go j:Nat)(S:ByteArray)(hS:S.size<=1000000)(w:World)(hW:Wk w B g A K f)(hBw:B<=w.heap.size)(hj:j < K.opens.length)(ha:A.oa=some ⟨go,0,none⟩)(hat:K.opens[j].at_=1)(hl:K.out1.length<=65536)(m er:Int)(hm:m=if 65536 - (K.out1.length:Int) < (S.size:Int)then 0 else(S.size:Int))(he:er=if 65536 - (K.out1.length:Int) < (S.size:Int)then 28 else 0) :
  Calls Tryz.prog 104 #[.pointer (some ⟨g,0,none⟩),.pointer (some ⟨go,j * 5,none⟩),.string S] w (Aes B g { K with out1:=K.out1 ++ S.data.toList } f (.int .i64 m) er w):=by
 have HW:=Hd hW
 have HBw:=Hd hBw
 have q:=hW.kcells.2.2.2.2.2.2
 obtain⟨-,y0,x1,y2,y3,y4,gol,-⟩:=hW.all hj ha
 rw[hat]at x1
 have fq:=hW.free 6
 have gl:=hW.lt
 obtain⟨D,hD⟩:∃ D:ByteArray,D=⟨K.out1.toArray⟩:=⟨_,rfl⟩
 have hDs:D.size=K.out1.length:=by rw[hD];simp[ByteArray.size]
 rw[<-hD]at q
 have HDD:=Hd (show (⟨(K.out1 ++ S.data.toList).toArray⟩:ByteArray)=D ++ S by rw[hD];exact(ByteArray.ext (by simp)))
 obtain⟨a1,a2⟩:=hW.setOut1 (K.out1 ++ S.data.toList)
 rw[HDD.out]at a1 a2
 have HA1:=Hd a1
 have HA2:=Hd a2
 rw[<-hDs]at hm he hl
 have hrw:IntKind.i64.wrap ((D.size:Int)+(S.size:Int))=(D.size:Int)+(S.size:Int):=by rw[IntKind.wrap_i64];omega
 have hsm:¬ 9223372036854775807 < D.size+S.size:=by omega
 clear hW hBw hat y0 y2 y3 y4 hD hDs a1 a2 ha
 by_cases hb:65536 - (D.size:Int) < (S.size:Int)
 ·rw[if_pos hb]at hm he
  subst hm he
  have d1:decide ((D.size:Int)+(S.size:Int) > 65536)=true:=decide_eq_true (by omega)
  have d2:decide (65536 < (D.size:Int)+(S.size:Int))=true:=decide_eq_true (by omega)
  clear hb
  go_enter Tryz.func104,Tryz.ntmps104
  go_wp2_with fail
  go_quiet (fail)
  go_wp2_with fail
  go_ret2
  exact⟨rfl,(Aa2 (Below.refl _ _) _).mono HBw.out,fun h=>absurd h (show ¬ (28:Int)=0 by decide)⟩
 ·rw[if_neg hb]at hm he
  subst hm he
  have d1:decide ((D.size:Int)+(S.size:Int) > 65536)=false:=decide_eq_false (by omega)
  have d2:decide (65536 < (D.size:Int)+(S.size:Int))=false:=decide_eq_false (by omega)
  clear hb
  go_enter Tryz.func104,Tryz.ntmps104
  go_wp2_with fail
  go_quiet (fail)
  go_wp2_with fail
  go_region
  all_goals
   go_wp2_with fail
   go_ret2
   exact⟨rfl,(HW.out.low HA2.out HBw.out).trans ⟨rfl,rfl,rfl,Nat.le_refl _,fun _ _=>rfl⟩,fun _=>⟨_,HA1.out.below ⟨rfl,rfl,rfl,Nat.le_refl _,fun _ _=>rfl⟩⟩⟩
end
section
variable {K : Krn} {f : List Int}
theorem Am7 {fd n:Int}(h:isFd fd=false∨f.getD fd.toNat 0=0):Ad1 K f fd n=(K,[],9):=by
 unfold Ad1
 rw[if_pos h]
theorem Al1 {fd:Int}{s:List UInt8}(h:isFd fd=false∨f.getD fd.toNat 0=0):Ab9 K f fd s=(K,0,9):=by
 unfold Ab9
 rw[if_pos h]
theorem Arn {q j:Nat}{n:Int}(hfd:isFd (q:Int)=true)(e1:f.getD q 0=(j:Int)+1)(hj:j < K.opens.length):Ad1 K f (q:Int) n =
  if K.opens[j].flags % 2=0 then(K,[],9)else if n < 1 then(K,[],22)else
  if K.opens[j].kind=1 then(if (Aft K.tree K.opens[j].at_ K.opens[j].off n).2≠0 then(K,[],(Aft K.tree K.opens[j].at_ K.opens[j].off n).2)else(Afz K j (K.opens[j].off+((Aft K.tree K.opens[j].at_ K.opens[j].off n).1.length:Int)),(Aft K.tree K.opens[j].at_ K.opens[j].off n).1,0))else
  if (Ack (K.pipes.getD K.opens[j].at_.toNat Afb) n).2.2≠0 then(K,[],(Ack (K.pipes.getD K.opens[j].at_.toNat Afb) n).2.2)else
  (Ajz K K.opens[j].at_.toNat (Ack (K.pipes.getD K.opens[j].at_.toNat Afb) n).1,(Ack (K.pipes.getD K.opens[j].at_.toNat Afb) n).2.1,0):=by
 unfold Ad1
 rw[Int.toNat_natCast,e1,show ((j:Int)+1 - 1).toNat=j by omega,if_neg (by rw[not_or];exact⟨by rw[hfd];decide,by omega⟩)]
 simp only
 rw[Abx _ j hj]
theorem Ao4 {q j:Nat}{s:List UInt8}(hfd:isFd (q:Int)=true)(e1:f.getD q 0=(j:Int)+1)(hj:j < K.opens.length):Ab9 K f (q:Int) s =
  if K.opens[j].flags / 2 % 2=0 then(K,0,9)else
  if K.opens[j].kind=1 then
   (if (Ae1 K.tree K.b K.opens[j].at_ (if 4<=K.opens[j].flags then((Aai K.tree K.opens[j].at_).data.length:Int)else K.opens[j].off) s).2≠0 then(K,0,(Ae1 K.tree K.b K.opens[j].at_ (if 4<=K.opens[j].flags then((Aai K.tree K.opens[j].at_).data.length:Int)else K.opens[j].off) s).2)else(Afz { K with tree:=(Ae1 K.tree K.b K.opens[j].at_ (if 4<=K.opens[j].flags then((Aai K.tree K.opens[j].at_).data.length:Int)else K.opens[j].off) s).1 } j ((if 4<=K.opens[j].flags then((Aai K.tree K.opens[j].at_).data.length:Int)else K.opens[j].off)+(s.length:Int)),(s.length:Int),0))
  else if K.opens[j].kind=4 then
   (if K.opens[j].at_=0 then(if 65536 - (K.out0.length:Int) < (s.length:Int)then(K,0,28)else({ K with out0:=K.out0 ++ s,out1:=K.out1 },(s.length:Int),0))
    else(if 65536 - (K.out1.length:Int) < (s.length:Int)then(K,0,28)else({ K with out0:=K.out0,out1:=K.out1 ++ s },(s.length:Int),0)))
  else if (Abu (K.pipes.getD K.opens[j].at_.toNat Afb) s).2.2≠0 then(K,0,(Abu (K.pipes.getD K.opens[j].at_.toNat Afb) s).2.2)else
  (Ajz K K.opens[j].at_.toNat (Abu (K.pipes.getD K.opens[j].at_.toNat Afb) s).1,(Abu (K.pipes.getD K.opens[j].at_.toNat Afb) s).2.1,0):=by
 unfold Ab9
 rw[Int.toNat_natCast,e1,show ((j:Int)+1 - 1).toNat=j by omega,if_neg (by rw[not_or];exact⟨by rw[hfd];decide,by omega⟩)]
 simp only
 rw[Abx _ j hj]
theorem Aut {L:List Ino}{k off n:Int}{s:List UInt8}{er:Int}(hz:Aft L k off n=(s,er))(h:er≠0):s=[]:=by
 unfold Aft at hz
 split at hz
 ·exact(Prod.mk.inj hz).1.symm
 split at hz
 ·exact(Prod.mk.inj hz).1.symm
 ·exact absurd (Prod.mk.inj hz).2.symm h
theorem Auu {L:List Ino}{m b:Int}(hF:FitP L m b){u:Nat}(hu:u < L.length){off n:Int}{s:List UInt8}{er:Int}(hz:Aft L (u:Int) off n=(s,er)):s.length<=65536:=by
 have hdl:=Ah9 L u hu
 obtain⟨-,-,-,l4,l5⟩:=hF.limits
 unfold Aft at hz
 split at hz
 ·rw[<-(Prod.mk.inj hz).1];exact Nat.zero_le _
 split at hz
 ·rw[<-(Prod.mk.inj hz).1];exact Nat.zero_le _
 ·rw[<-(Prod.mk.inj hz).1,Aae L u hu,List.length_take,List.length_drop]
  omega
theorem Aus {p:Pip}{n:Int}{q:Pip}{t:List UInt8}{er:Int}(hz:Ack p n=(q,t,er))(h:er≠0):q=p/\t=[]:=by
 unfold Ack at hz
 split at hz
 ·simp only[Prod.mk.injEq]at hz
  exact⟨hz.1.symm,hz.2.1.symm⟩
 split at hz
 ·split at hz
  ·simp only[Prod.mk.injEq]at hz
   exact absurd hz.2.2.symm h
  ·simp only[Prod.mk.injEq]at hz
   exact⟨hz.1.symm,hz.2.1.symm⟩
 ·simp only[Prod.mk.injEq]at hz
  exact absurd hz.2.2.symm h
theorem Ar2 {p:Pip}{s:List UInt8}{q:Pip}{k er:Int}(hz:Abu p s=(q,k,er))(h:er≠0):q=p/\k=0:=by
 unfold Abu at hz
 split at hz
 ·simp only[Prod.mk.injEq]at hz
  exact⟨hz.1.symm,hz.2.1.symm⟩
 split at hz
 ·simp only[Prod.mk.injEq]at hz
  exact absurd hz.2.2.symm h
 split at hz
 ·simp only[Prod.mk.injEq]at hz
  exact⟨hz.1.symm,hz.2.1.symm⟩
 ·simp only[Prod.mk.injEq]at hz
  exact absurd hz.2.2.symm h
end
end Go.Proofs.YtkdfbliiblojoaaGreatDoor
