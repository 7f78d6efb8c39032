import Derived.Test.YtkdfbliiblojoaaGreatDoorK30
import Derived.Test.YtkdfbliiblojoaaGreatDoorK26
set_option linter.all false
set_option maxRecDepth 100000
set_option maxHeartbeats 64000000
namespace Go.Proofs.YtkdfbliiblojoaaGreatDoor
open Go Go.RowKit
section
variable {B g : Nat} {A : KAd} {K : Krn} {f : List Int}
theorem Ara (go j i:Nat)(S:ByteArray)(hS:S.size<=281474976710656)(w:World)(hW:Wk w B g A K f)(hj:j < K.opens.length)(ha:A.oa=some ⟨go,0,none⟩)(hi:i < K.pipes.length)(hat:K.opens[j].at_=(i:Int))(hF:Ace K.pipes[i]=true)(q:Pip)(m er:Int)(hz:Abu K.pipes[i] S.data.toList=(q,m,er)) :
  Calls Tryz.prog 101 #[.pointer (some ⟨g,0,none⟩),.pointer (some ⟨go,j * 5,none⟩),.string S] w fun e w'=>e=.returned (.tuple #[.int .i64 m,.int .i64 er])/\Wk w' B g A { K with pipes:=K.pipes.set i q } f/\Stepw g A w A w':=by
 have HW:=Hd hW
 have HA:=Hd ha
 have HAT:=Hd hat
 obtain⟨gp,hp,-,-⟩:=hW.pip hi
 have HP:=Hd hp
 have HC:=Hd (fun W=>Azn K.pipes[i] hF S hS q m er hz W)
 obtain⟨D,hD⟩:∃ D:ByteArray,D=⟨q.data.toArray⟩:=⟨_,rfl⟩
 rw[<-hD]at HC
 have HD:=Hd hD
 have h0:(0:Int)<=(i:Int):=by omega
 have h1:(i:Int) < (K.pipes.length:Int):=by omega
 have HSS:=Hd (show ∀ W,Below w.heap.size w W->W.cell? ⟨g,3,none⟩=some (.slice (some ⟨gp,0,none⟩) K.pipes.length A.pc)/\W.cell? ⟨go,j * 5+1,none⟩=some (.int .i64 i)/\W.cell? ⟨gp,i * 4,none⟩=some (.string ⟨K.pipes[i].data.toArray⟩)/\W.cell? ⟨gp,i * 4+1,none⟩=some (.int .i64 K.pipes[i].rd)/\W.cell? ⟨gp,i * 4+2,none⟩=some (.int .i64 K.pipes[i].wr)/\W.cell? ⟨gp,i * 4+3,none⟩=some (.int .i64 K.pipes[i].cap)from fun W hb=>by
  have hk:=HW.out.below hb
  obtain⟨gp',hp',-,hq⟩:=hk.pip hi
  rw[HP.out]at hp'
  obtain rfl:gp=gp':=by simpa using hp'
  have e:=hk.kcells.2.2.2.1
  rw[HP.out]at e
  have ho:=(hk.all hj HA.out).2.at_
  rw[HAT.out]at ho
  exact⟨e,ho,hq.data,hq.rd,hq.wr,hq.cap⟩)
 have gl:=hW.lt
 have gpl:gp < w.heap.size:=by
  obtain⟨x,e,-,h⟩:=Abf hW.own.pipes _ hp
  have e3:gp=x:=by simpa using e
  omega
 have gol:go < w.heap.size:=by
  obtain⟨x,e,-,h⟩:=Abf hW.own.opens _ ha
  have e3:go=x:=by simpa using e
  omega
 have HBB:=Hd (Below.refl w.heap.size w)
 obtain⟨q3,x1,p0,p1,p2,p3⟩:=HSS.out _ HBB.out
 clear hW ha hat hp hz hD hF hS
 go_enter Tryz.func101,Tryz.ntmps101
 go_upto_region 1 with fail
 go_cut [8,9,10]from 11 (fun c d e wx=>∃ nb,c=.pointer (some ⟨nb,0,none⟩)/\d=.int .i64 m/\e=.int .i64 er/\wx.heap[nb]?=some (.cells #[.string D,.int .i64 q.rd,.int .i64 q.wr,.int .i64 q.cap] 87 (0,0))/\w.heap.size<=nb/\Below w.heap.size w wx)
 case first=>
  go_region_held3 (fun W=>W.cell? ⟨g,3,none⟩=some (.slice (some ⟨gp,0,none⟩) K.pipes.length A.pc)/\W.cell? ⟨go,j * 5+1,none⟩=some (.int .i64 i)/\W.cell? ⟨gp,i * 4,none⟩=some (.string ⟨K.pipes[i].data.toArray⟩)/\W.cell? ⟨gp,i * 4+1,none⟩=some (.int .i64 K.pipes[i].rd)/\W.cell? ⟨gp,i * 4+2,none⟩=some (.int .i64 K.pipes[i].wr)/\W.cell? ⟨gp,i * 4+3,none⟩=some (.int .i64 K.pipes[i].cap))
   (first|exact⟨q3,x1,p0,p1,p2,p3⟩|exact HSS.out _ (Aab _ _)|exact HSS.out _ (Aac (Aab _ _))|exact HSS.out _ HBB.out|exact HSS.out _ (HBB.out.alloc HBB.out.size _)|exact HSS.out _ (Aac (HBB.out.alloc HBB.out.size _))|exact HSS.out _ (Ac3 HBB.out (Nat.le_refl _) _ _ _ _)|exact HSS.out _ (Aac (Ac3 HBB.out (Nat.le_refl _) _ _ _ _)))
   (first
    | (go_at_call 135;refine(HC.out _).mono ?_;rintro e wn ⟨rfl,hbn⟩;have HBB:Hid (Below w.heap.size w wn):=Hd (Aaz (Aab w (.cells #[.string ⟨#[]⟩,.int .i64 0,.int .i64 0,.int .i64 0] 87)) hbn (Aab w _).size ⟨rfl,rfl,rfl,rfl⟩);have hzz:wn.heap[w.heap.size]?=some (.cells #[.string ⟨#[]⟩,.int .i64 0,.int .i64 0,.int .i64 0] 87 (0,0)):=(hbn.block w.heap.size (Nat.lt_of_lt_of_eq (Nat.lt_succ_self _) (World.size_alloc _ _).symm)).trans (Aag w _);have HZZ:=Hd hzz;have e0:=bC hzz 0;have e1:=bC hzz 1;have e2_:=bC hzz 2;have e3:=bC hzz 3;have f0:=bF hzz 0;have f1:=bF hzz 1;have f2:=bF hzz 2;have f3:=bF hzz 3;have el:=lt_of_block hzz;clear hzz;obtain⟨q3,x1,p0,p1,p2,p3⟩:=HSS.out _ HBB.out)
    | (go_at_call 135;refine(HC.out _).mono ?_;rintro e wn ⟨rfl,hbn⟩;have HBB:Hid (Below w.heap.size w wn):=Hd (Aaz HBB.out hbn HBB.out.size ⟨rfl,rfl,rfl,rfl⟩);obtain⟨q3,x1,p0,p1,p2,p3⟩:=HSS.out _ HBB.out))
  all_goals
   go_wp2_with fail
   go_meet
   first
    | exact⟨wn.heap.size,rfl,rfl,rfl,Aag wn _,HBB.out.size,HBB.out.alloc HBB.out.size _⟩
    | exact⟨w.heap.size,rfl,rfl,rfl,Aep HZZ.out _ _ _ _,Nat.le_refl _,Ac3 HBB.out (Nat.le_refl _) _ _ _ _⟩
 case rest=>
  obtain⟨nb,rfl,rfl,rfl,hnb,hnl,hbc⟩:=hcut
  clear q3 x1 p0 p1 p2 p3 gl gpl gol HBB
  obtain⟨wb,hwb⟩:∃ z,z=wc:=⟨_,rfl⟩
  rw[<-hwb]at hnb hbc ⊢
  have HWB:=Hd (HW.out.below hbc)
  have HSB:=Hd (Stepw.of_below (g:=g) (A:=A) hbc)
  have HNB:=Hd hnb
  obtain⟨q3,x1,-,-,-,-⟩:=HSS.out _ hbc
  have e0:=bC hnb 0
  have e1:=bC hnb 1
  have e2_:=bC hnb 2
  have e3:=bC hnb 3
  have el:=lt_of_block hnb
  obtain⟨gp',hp',-,hq⟩:=HWB.out.pip hi
  rw[HP.out]at hp'
  obtain rfl:gp=gp':=by simpa using hp'
  obtain⟨p0,p1,p2,p3,pl,pf⟩:=hq
  have z0:=pf (i * 4)
  have z1:=pf (i * 4+1)
  have z2:=pf (i * 4+2)
  have z3:=pf (i * 4+3)
  have gl:=HWB.out.lt
  have gol:=Aaf x1
  have hgg:g≠gp:=fun e=>HWB.out.gp _ HP.out e.symm
  have hog:go≠gp:=fun e=>HWB.out.own.apart _ _ HP.out HA.out e.symm
  have hng:nb≠gp:=fun e=>by
   obtain⟨x,e2,-,h⟩:=Abf HW.out.own.pipes _ HP.out
   have e3:gp=x:=by simpa using e2
   omega
  have HPS:=Hd (show ∀ x y z u,(Acc wb gp (i * 4) x y z u).cell? ⟨g,3,none⟩=some (.slice (some ⟨gp,0,none⟩) K.pipes.length A.pc)/\(Acc wb gp (i * 4) x y z u).cell? ⟨go,j * 5+1,none⟩=some (.int .i64 i)/\(Acc wb gp (i * 4) x y z u).cell? ⟨nb,0,none⟩=some (.string D)/\(Acc wb gp (i * 4) x y z u).cell? ⟨nb,1,none⟩=some (.int .i64 q.rd)/\(Acc wb gp (i * 4) x y z u).cell? ⟨nb,2,none⟩=some (.int .i64 q.wr)/\(Acc wb gp (i * 4) x y z u).cell? ⟨nb,3,none⟩=some (.int .i64 q.cap)from fun x y z u=>by
   have hbt:=Adh wb gp (i * 4) x y z u
   exact⟨(Ada hbt hgg).trans q3,(Ada hbt hog).trans x1,(Ada hbt hng).trans e0,(Ada hbt hng).trans e1,(Ada hbt hng).trans e2_,(Ada hbt hng).trans e3⟩)
  clear pf hnb hbc hp' hwb
  go_upto_region 2 with fail
  go_region
  all_goals
   go_wp2_with fail
   go_ret2
   obtain⟨a1,a2⟩:=HWB.out.storePip HP.out hi q
   rw[<-HD.out]at a1 a2
   first
    | exact⟨rfl,a1,HSB.out.trans a2⟩
    | exact⟨rfl,a1.below (Aac (Below.refl _ _)),(HSB.out.trans a2).below (Aac (Below.refl _ _))⟩
end
end Go.Proofs.YtkdfbliiblojoaaGreatDoor
