import Derived.Test.YtkdfbliiblojoaaGreatDoorK41
set_option linter.all false
set_option maxRecDepth 100000
set_option maxHeartbeats 64000000
namespace Go.Proofs.YtkdfbliiblojoaaGreatDoor
open Go Go.RowKit
theorem ris9 (fd:Int)(w:World):Calls Tryz.prog 39 #[.int .i64 fd] w fun e w'=>e=.returned (.bool (isFd fd))/\w'=w:=by
 unfold isFd
 by_cases h1:0<=fd
 ·by_cases h2:fd < 10
  ·go_enter Tryz.func39,Tryz.ntmps39
   go_wp2_with fail
   go_ret
   simp[h1,h2]
  ·go_enter Tryz.func39,Tryz.ntmps39
   go_wp2_with fail
   go_ret
   simp[h1,h2]
 ·go_enter Tryz.func39,Tryz.ntmps39
  go_wp2_with fail
  go_ret
  rw[decide_eq_false (show ¬ 0<=fd by omega)]
  exact⟨rfl,rfl⟩
theorem Ajy (pb:ByteArray)(hp:pb.size<=1073741824)(N:List (List UInt8))(hN:Aaq pb.data.toList=N)(w:World) :
  Calls Tryz.prog 79 #[.string pb] w fun e w'=>∃ v,e=.returned v/\View w' v N/\Below w.heap.size w w':=by
 subst hN
 exact(Agj pb hp w).mono fun e w' ⟨v,h1,h2,h3⟩=>⟨v,h1,h2.view,h3⟩
theorem Aoq (a:Option Addr)(cap:Nat)(m b cwd:Int)(pb:ByteArray)(hp:pb.size<=1073741824)(L:List Ino)(hF:FitP L m b)(w:World)(hN:Aad w a cap L) :
  Calls Tryz.prog 162 #[.agg #[.slice a L.length cap,.int .i64 m,.int .i64 b],.int .i64 cwd,.string pb] w fun e w'=>e=.returned (.tuple #[.int .i64 (Aa6 L cwd pb.data.toList).1,.string ⟨(Aa6 L cwd pb.data.toList).2.1.toArray⟩,.int .i64 (Aa6 L cwd pb.data.toList).2.2])/\Below w.heap.size w w':=by
 obtain⟨w1,hw1⟩:∃ w1,w1=w.alloc (.cells #[.slice a L.length cap,.int .i64 m,.int .i64 b] 24):=⟨_,rfl⟩
 have hb1:=Aab w (.cells #[.slice a L.length cap,.int .i64 m,.int .i64 b] 24)
 have hM:=hN.below hb1
 have hsz:w1.heap.size=w.heap.size+1:=by rw[hw1];simp
 have hbox:∀ W',Below w1.heap.size w1 W'->W'.cell? ⟨w.heap.size,0,none⟩=some (.slice a L.length cap)/\W'.cell? ⟨w.heap.size,1,none⟩=some (.int .i64 m)/\W'.cell? ⟨w.heap.size,2,none⟩=some (.int .i64 b):=fun W' h=>box3 (by rw[<-hw1];exact h)
 rw[<-hw1]at hM hb1
 have HM:=Hd hM
 have HB:=Hd hb1
 have HX:=Hd hbox
 have HEND:=Hd (show ∀ W',Below w1.heap.size w1 W'->Below w.heap.size w W' from fun W' h=>HB.out.trans (h.mono (by rw[hsz];omega)))
 have HF:=Hd hF
 obtain⟨R,hR⟩:∃ R,R=Aa6 L cwd pb.data.toList:=⟨_,rfl⟩
 rw[<-hR]
 have HR:=Hd hR
 obtain⟨z,hz⟩:∃ z,badW L cwd pb.data.toList=z:=⟨_,rfl⟩
 have HZ:=Hd hz
 clear hM hN hb1 hbox hsz hF hR
 by_cases hbad:z≠0
 ·have hzb:(z != 0)=true:=by simpa using hbad
  have HW:=Hd (show R=(0,[],z) by rw[HR.out];unfold Aa6;rw[hz,if_pos hbad])
  clear hbad hz
  go_enter Tryz.func162,Tryz.ntmps162
  go_wp2_with fail
  rw[<-hw1]
  refine(Adf _ _ _ _ _ _ hp L z HZ.out _ HM.out).mono ?_
  rintro e w2 ⟨rfl,hb2⟩
  go_wp2_with fail
  go_ret3
  exact⟨by rw[HW.out];rfl,HEND.out _ hb2⟩
 ·obtain rfl:z=0:=by simpa using hbad
  obtain⟨st,hst⟩:∃ st,Adi cwd pb.data.toList=st:=⟨_,rfl⟩
  have HST:=Hd hst
  obtain⟨N,hNe⟩:∃ N,Aaq pb.data.toList=N:=⟨_,rfl⟩
  have HNE:=Hd hNe
  have hlong:pb.size<=1024:=by
   unfold badW at hz
   by_cases h2:pb.data.toList=[]∨dirB L cwd=false
   ·rw[if_pos h2]at hz;cases hz
   ·rw[if_neg h2]at hz
    by_cases hl:Agz pb.data.toList=true
    ·rw[if_pos hl]at hz;cases hz
    ·unfold Agz at hl
     rw[Bool.or_eq_true,decide_eq_true_eq,Aas]at hl
     omega
  have hNL:N.length<=1025:=by rw[<-hNe];have:=Aca pb.data.toList;rw[Aas]at this;omega
  have HW:=Hd (show R=if N=[]then(0,[],17)else if (wayW L true 8 N.dropLast st).2≠0 then(0,[],(wayW L true 8 N.dropLast st).2)else if dirB L (wayW L true 8 N.dropLast st).1=false then(0,[],20)else((wayW L true 8 N.dropLast st).1,N.getLastD [],0) by
   rw[HR.out]
   unfold Aa6
   rw[hz,if_neg (by simp),hst,hNe])
  clear hz hst hNe hbad HR
  rcases List.eq_nil_or_concat N with hn|⟨M,y,hn⟩
  ·subst hn
   have HW2:=Hd (show R=(0,[],17) by rw[HW.out,if_pos rfl])
   go_enter Tryz.func162,Tryz.ntmps162
   go_wp2_with fail
   rw[<-hw1]
   refine(Adf _ _ _ _ _ _ hp L 0 HZ.out _ HM.out).mono ?_
   rintro e w2 ⟨rfl,hb2⟩
   have HB2:=Hd hb2
   clear hb2
   go_wp2_with fail
   refine(Ajy _ hp _ HNE.out _).mono ?_
   rintro e w3 ⟨v,rfl,⟨na,nc,rfl,-,-,-⟩,hb3⟩
   have HB3:=Hd (HB2.out.trans (hb3.mono HB2.out.size))
   clear hb3
   go_wp2_with fail
   go_ret3
   exact⟨by rw[HW2.out];rfl,HEND.out _ HB3.out⟩
  ·rw[List.concat_eq_append]at hn
   have hlen:N.length=M.length+1:=by rw[hn];simp
   obtain⟨kz,hkz⟩:∃ kz,kz=(wayW L true 8 M st).1:=⟨_,rfl⟩
   obtain⟨ez,hez⟩:∃ ez,ez=(wayW L true 8 M st).2:=⟨_,rfl⟩
   have HWAY:=Hd (show ∀ W v,Below w1.heap.size w1 W->View W v M->Calls Tryz.prog 77 #[.agg #[.slice a L.length cap,.int .i64 m,.int .i64 b],.int .i64 st,v,.bool true] W fun e w'=>e=.returned (.tuple #[.int .i64 kz,.int .i64 ez])/\Below W.heap.size W w' from fun W v hW hv=>by
    rw[hkz,hez]
    exact Aqh a cap m b st true M (by omega) v L HF.out W (HM.out.below hW) hv)
   obtain⟨dz,hdz⟩:∃ dz,dirB L kz=dz:=⟨_,rfl⟩
   have HDZ:=Hd hdz
   have HW2:=Hd (show R=if ez≠0 then(0,[],ez)else if dz=false then(0,[],20)else(kz,y,0) by
    rw[HW.out,if_neg (by rw[hn];simp),hn,List.dropLast_concat,<-hkz,<-hez,hdz]
    congr 3
    simp)
   have HN:=Hd hn
   clear hkz hez hdz hn HW
   go_enter Tryz.func162,Tryz.ntmps162
   go_wp2_with fail
   rw[<-hw1]
   refine(Adf _ _ _ _ _ _ hp L 0 HZ.out _ HM.out).mono ?_
   rintro e w2 ⟨rfl,hb2⟩
   have HB2:=Hd hb2
   obtain⟨q0,q1,q2⟩:=HX.out _ HB2.out
   clear hb2
   go_wp2_with fail
   refine(Ajy _ hp _ HNE.out _).mono ?_
   rintro e w3 ⟨v,rfl,hv,hb3⟩
   have HB3:=Hd (HB2.out.trans (hb3.mono HB2.out.size))
   rw[HN.out]at hv
   obtain⟨na,nc,rfl,hc1,hc2,hcell⟩:=hv
   obtain⟨nb,no,rfl,hy⟩:=hcell M.length (by simp)
   have hy0:(M ++ [y])[M.length]'(by simp)=y:=by simp
   rw[hy0]at hy
   have hlen2:(M ++ [y]).length=M.length+1:=by simp
   rw[hlen2]at hc1
   have HV:=Hd (show View w3 (.slice (some ⟨nb,no,none⟩) M.length nc) M from View.init (x:=y) (by
    refine⟨_,nc,by rw[hlen2],by rw[hlen2];exact hc1,hc2,hcell⟩))
   unfold maxLen at hc2
   unfold strv at hy
   have HBB:=Hd HB3.out
   clear hb3 hcell q0 q1 q2 hy0
   obtain⟨q0,q1,q2⟩:=HX.out _ HBB.out
   have H1:=Hd (Aa0 (wb:=w3) (fun W hW=>(Ad5 cwd pb st HST.out W).mono fun e w' h=>(⟨h.1,by rw[<-h.2];exact Below.refl _ _⟩:_/\Below W.heap.size W w')))
   have H2:=Hd (Aa0 (wb:=w3) (fun W hW=>HWAY.out W _ (HBB.out.trans (hW.mono HBB.out.size)) (HV.out.below hW)))
   have f0:=Aaj q0
   have f1:=Aaj q1
   have f2:=Aaj q2
   have hi1:(0:Int)<=(M.length:Int):=by omega
   have hi2:(M.length:Int)<=(nc:Int):=by omega
   have hi3:((M.length:Int)+1)<=(nc:Int):=by omega
   go_wp2_with fail
   refine Aah (by kernel_rfl) (by kernel_rfl) ?_
   repeat(first|go_big_quiet_skip|(go_big_quiet_want;go_big_quiet_op;(first|go_big_quiet_on|(refine⟨_,H1.out,?_⟩;go_big_quiet_on)|(refine⟨_,H2.out,?_⟩;go_big_quiet_on))))
   refine wpQuiet_nil ?_
   intro w8 hw8
   have hbg:Below w3.heap.size w3 w8:=by obtain⟨x,rfl⟩:=hw8;exact x.below
   have HB8:=Hd (HBB.out.trans (hbg.mono HBB.out.size))
   obtain⟨q0,q1,q2⟩:=HX.out _ HB8.out
   have hy8:=Aaa hbg hy
   clear hw8 hbg f0 f1 f2 H1 H2
   cases he:(ez != 0)with
   | true=>
    have HW3:=Hd (show R=(0,[],ez) by rw[HW2.out,if_pos (by simpa using he)])
    go_wp2_with fail
    go_ret3
    exact⟨by rw[HW3.out];rfl,HEND.out _ HB8.out⟩
   | false=>
    have hz0:ez=0:=by simpa using he
    subst hz0
    cases dz with
    | false=>
     have HW3:=Hd (show R=(0,[],20) by rw[HW2.out,if_neg (by simp),if_pos rfl])
     go_wp2_with (first|(go_at_call 80;refine(Ab2 _ _ _ _ _ L _ HDZ.out _ (HM.out.below HB8.out)).mono ?_;rintro e w9 ⟨rfl,hb9⟩;have HB9:=Hd (HB8.out.trans (hb9.mono HB8.out.size)))|fail)
     go_ret3
     exact⟨by rw[HW3.out];rfl,HEND.out _ HB9.out⟩
    | true=>
     have HW3:=Hd (show R=(kz,y,0) by rw[HW2.out,if_neg (by simp),if_neg (by simp)])
     go_wp2_with fail
     refine(Ab2 _ _ _ _ _ L _ HDZ.out _ (HM.out.below HB8.out)).mono ?_
     rintro e w9 ⟨rfl,hb9⟩
     have HB9:=Hd (HB8.out.trans (hb9.mono HB8.out.size))
     have f0:=Aaj (Aaa hb9 hy8)
     clear hb9 q0 q1 q2 hy8
     have hj1:(M.length:Int) < ((M.length:Int)+1):=by omega
     go_wp2_with fail
     refine Aah (by kernel_rfl) (by kernel_rfl) ?_
     repeat(first|go_big_quiet_skip|(go_big_quiet_want;go_big_quiet_op;go_big_quiet_on))
     refine wpQuiet_nil ?_
     intro w10 hw10
     have hbg:Below w9.heap.size w9 w10:=by obtain⟨x,rfl⟩:=hw10;exact x.below
     have HB10:=Hd (HB9.out.trans (hbg.mono HB9.out.size))
     clear hw10 hbg f0
     go_wp2_with fail
     go_ret3
     exact⟨by rw[HW3.out];rfl,HEND.out _ HB10.out⟩
end Go.Proofs.YtkdfbliiblojoaaGreatDoor
