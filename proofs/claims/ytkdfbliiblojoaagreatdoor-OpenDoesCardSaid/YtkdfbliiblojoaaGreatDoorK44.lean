import Derived.Test.YtkdfbliiblojoaaGreatDoorK43
set_option linter.all false
set_option maxRecDepth 100000
set_option maxHeartbeats 64000000
namespace Go.Proofs.YtkdfbliiblojoaaGreatDoor
open Go Go.RowKit
theorem Azj (A:KAd)(K:Krn)(j:Nat):kB A (Abg K j)=kB A K:=by
 obtain⟨h1,h2,h3,h4,h5⟩:=Ajo K j
 unfold kB
 rw[Ac1,Aew,h1,h2,h3,h4,h5]
theorem Azb (A:KAd)(K:Krn)(f:List Int)(n:Nat):kB A (Abh K f n).1=kB A K:=by
 unfold Abh
 split
 ·rfl
 ·exact Azj A K _
theorem Au9 (K:Krn)(f:List Int)(n:Nat):(Abh K f n).1.tree=K.tree:=by
 unfold Abh
 split
 ·rfl
 ·exact(Ajo K _).1


section
variable {B g : Nat} {A : KAd} {K : Krn} {f : List Int}
theorem Ba0 (fd cwd how:Int)(pb:ByteArray)(hp:pb.size<=1073741824)(w:World)(hW:Wk w B g A K f)(hF:FitK K f)(hBw:B<=w.heap.size)(hY:Ways w)(hgB:0 < B) :
  Calls Tryz.prog 38 #[.pointer (some ⟨g,0,none⟩),.int .i64 fd,.int .i64 cwd,.string pb,.int .i64 how] w (Ayr B g (Aij K f fd cwd pb.data.toList how) w):=by
 by_cases h1:isFd fd=false
 ·have HE:=Hd (show Aij K f fd cwd pb.data.toList how=(K,f,9) by unfold Aij;rw[if_pos h1])
  have HFD:=Hd h1
  rw[HE.out]
  clear hW hF hBw h1 hY
  go_enter Tryz.func38,Tryz.ntmps38
  go_wp2_with fail
  refine(Aii _ _).mono ?_
  rintro e w2 ⟨rfl,rfl⟩
  rw[HFD.out]
  go_wp2_with fail
  go_ret
  exact⟨rfl,Below.refl _ _,fun h=>absurd h (show ¬ (9:Int)=0 by decide)⟩
 have hfd:isFd fd=true:=by simpa using h1
 have HFD:=Hd hfd
 by_cases h2:how < 0
 ·have HE:=Hd (show Aij K f fd cwd pb.data.toList how=(K,f,22) by unfold Aij;rw[if_neg h1,if_pos (.inl h2)])
  have hd1:decide (how < 0)=true:=decide_eq_true h2
  rw[HE.out]
  clear hW hF hBw h1 hY h2 hfd
  go_enter Tryz.func38,Tryz.ntmps38
  go_wp2_with fail
  refine(Aii _ _).mono ?_
  rintro e w2 ⟨rfl,rfl⟩
  rw[HFD.out]
  go_wp2_with fail
  go_ret
  exact⟨rfl,Below.refl _ _,fun h=>absurd h (show ¬ (22:Int)=0 by decide)⟩
 have hd1:decide (how < 0)=false:=decide_eq_false h2
 by_cases h3:5<=how
 ·have HE:=Hd (show Aij K f fd cwd pb.data.toList how=(K,f,22) by unfold Aij;rw[if_neg h1,if_pos (.inr h3)])
  have hd2:decide (5<=how)=true:=decide_eq_true h3
  rw[HE.out]
  clear hW hF hBw h1 hY h2 h3 hfd
  go_enter Tryz.func38,Tryz.ntmps38
  go_wp2_with fail
  refine(Aii _ _).mono ?_
  rintro e w2 ⟨rfl,rfl⟩
  rw[HFD.out]
  go_wp2_with fail
  go_ret
  exact⟨rfl,Below.refl _ _,fun h=>absurd h (show ¬ (22:Int)=0 by decide)⟩
 have hd2:decide (5<=how)=false:=decide_eq_false h3
 obtain⟨hw,rfl,hh⟩:∃ n:Nat,how=(n:Int)/\n < 5:=⟨how.toNat,by omega,by omega⟩
 obtain⟨q,rfl,hq⟩:=Ac9 hfd
 have hOL:Aij K f (q:Int) cwd pb.data.toList (hw:Int)=(if (Aaw K.tree K.b cwd pb.data.toList (hw:Int)).2.2≠0 then(K,f,(Aaw K.tree K.b cwd pb.data.toList (hw:Int)).2.2)else
   if (putK K.opens ⟨1,(Aaw K.tree K.b cwd pb.data.toList (hw:Int)).2.1,0,(Aat (hw:Int)).2,0⟩).2=0 then(K,f,24)else
   ((Agx { K with tree:=(Aaw K.tree K.b cwd pb.data.toList (hw:Int)).1,opens:=(putK K.opens ⟨1,(Aaw K.tree K.b cwd pb.data.toList (hw:Int)).2.1,0,(Aat (hw:Int)).2,0⟩).1 } f q ((putK K.opens ⟨1,(Aaw K.tree K.b cwd pb.data.toList (hw:Int)).2.1,0,(Aat (hw:Int)).2,0⟩).2 - 1).toNat).1,
    (Agx { K with tree:=(Aaw K.tree K.b cwd pb.data.toList (hw:Int)).1,opens:=(putK K.opens ⟨1,(Aaw K.tree K.b cwd pb.data.toList (hw:Int)).2.1,0,(Aat (hw:Int)).2,0⟩).1 } f q ((putK K.opens ⟨1,(Aaw K.tree K.b cwd pb.data.toList (hw:Int)).2.1,0,(Aat (hw:Int)).2,0⟩).2 - 1).toNat).2,0)):=by
  unfold Aij
  rw[if_neg h1,if_neg (by omega),Int.toNat_natCast]
 have HFI:=Hd (Baz hw hh cwd pb hp w hW hF hBw hY hgB)
 obtain⟨⟨L1,ino,e1⟩,htg⟩:∃ z,Aaw K.tree K.b cwd pb.data.toList (hw:Int)=z:=⟨_,rfl⟩
 rw[htg]at HFI hOL
 simp only at hOL
 have HW:=Hd hW
 have HBw:=Hd hBw
 have HYB:=Hd (show ∀ W,Below B w W->W.cell? ⟨0,hw * 3+1,none⟩=some (.int .i64 (Aat (hw:Int)).2)/\0 < W.heap.size from fun W hb=>by
  have h:=((hY.low hb hgB).at_ hw hh).2.1
  exact⟨h,Aaf h⟩)
 have c0:(0:Int)<=(hw:Int):=by omega
 have c1:(hw:Int) < 5:=by omega
 by_cases he1:e1=0
 rotate_left
 ·rw[if_pos he1]at hOL
  have HE:=Hd hOL
  rw[HE.out]
  have hb1:(e1 != 0)=true:=by rw[bne_iff_ne];exact he1
  have HE1:=Hd he1
  clear hW hF hBw h1 hY h2 h3 hfd htg he1 hOL hh
  go_enter Tryz.func38,Tryz.ntmps38
  go_wp2_with fail
  refine(Aii _ _).mono ?_
  rintro e w2 ⟨rfl,rfl⟩
  rw[HFD.out]
  go_wp2_with fail
  refine HFI.out.mono ?_
  rintro e w3 ⟨ino',rfl,hb3,-⟩
  have HB3:=Hd hb3
  clear hb3
  go_wp2_with fail
  go_ret
  exact⟨rfl,HB3.out,fun h=>absurd h HE1.out⟩
 subst he1
 rw[if_neg (by omega)]at hOL
 obtain⟨hT1,hT2,-⟩:=Aj0 hF.tree htg
 obtain⟨K2,hK2⟩:∃ k:Krn,k={ K with tree:=L1 }:=⟨_,rfl⟩
 have hK2o:K2.opens=K.opens:=by rw[hK2]
 obtain⟨x,hx⟩:∃ x:Opn,x=⟨1,ino,0,(Aat (hw:Int)).2,0⟩:=⟨_,rfl⟩
 obtain⟨⟨O1,i1,e2⟩,hz1⟩:∃ z,Abz K2 x=z:=⟨_,rfl⟩
 have hp1:=Axm K2 x
 rw[hz1,hK2o]at hp1
 simp only at hp1
 have he2:=Awj K2 x
 rw[hz1]at he2
 simp only at he2
 rw[<-hx,hp1]at hOL
 simp only at hOL
 have HK2:=Hd hK2
 have HZ1:=Hd hz1
 have HX:=Hd hx
 have hno:=hF.no
 have HDE:=Hd (fun A' W (h:Wk W B g A' K2 f) (hb:B<=W.heap.size)=>Atk 1 ino 0 (Aat (hw:Int)).2 0 W h (by rw[hK2o];omega) hb)
 by_cases h6:e2=0
 rotate_left
 ·obtain rfl:e2=24:=he2.resolve_left h6
  rw[if_pos (by simp)]at hOL
  have HE:=Hd hOL
  rw[HE.out]
  clear hW hF hBw h1 hY h2 h3 hfd htg hOL hh hT1 hT2 hK2 hz1 hx hp1 he2 h6 hK2o hno
  go_enter Tryz.func38,Tryz.ntmps38
  go_wp2_with fail
  refine(Aii _ _).mono ?_
  rintro e w2 ⟨rfl,rfl⟩
  rw[HFD.out]
  go_wp2_with fail
  refine HFI.out.mono ?_
  rintro e w3 ⟨ino',rfl,hb3,hwk⟩
  obtain⟨rfl,A3,hw3⟩:=hwk rfl
  simp only at hw3 ⊢
  rw[<-HK2.out]at hw3
  have HB3:=Hd hb3
  have HW3:=Hd hw3
  obtain⟨y1,yl⟩:=HYB.out _ hb3
  clear hb3 hwk hw3
  go_wp2_with fail
  refine(HDE.out _ _ HW3.out (Nat.le_trans HBw.out HB3.out.size)).mono ?_
  rintro e w4 ⟨rfl,A4,-,hs4⟩
  rw[<-HX.out,HZ1.out]
  have HB4:=Hd (HB3.out.trans (HW3.out.low hs4 (Nat.le_trans HBw.out HB3.out.size)))
  clear hs4 y1 yl
  go_wp2_with fail
  go_ret
  exact⟨rfl,HB4.out,fun h=>absurd h (show ¬ (24:Int)=0 by decide)⟩
 subst h6
 simp only[if_pos]at hp1
 rw[if_neg (by simp;omega)]at hOL
 obtain⟨K4,hK4⟩:∃ k:Krn,k={ K2 with opens:=O1 }:=⟨_,rfl⟩
 have hK4o:K4.opens=O1:=by rw[hK4]
 have hK4t:K4.tree=L1:=by rw[hK4,hK2]
 have hK4p:K4.pipes=K.pipes:=by rw[hK4,hK2]
 have hOL2:Aij K f (q:Int) cwd pb.data.toList (hw:Int)=((Agx K4 f q i1).1,(Agx K4 f q i1).2,0):=by
  rw[hOL]
  simp only[if_pos]
  rw[show ((i1:Int)+1 - 1).toNat=i1 by omega]
  have e:({ K with tree:=L1,opens:=O1 }:Krn)=K4:=by rw[hK4,hK2]
  rw[e]
 have HE:=Hd hOL2
 obtain⟨j1,ej1,⟨hj1,hOj1⟩,hkeep1⟩:=Auo hp1 (by omega)
 obtain rfl:i1=j1:=by omega
 have hL4:Led K4 f q:=Awn (Af5 hF hq) rfl (fun i hi _ hk=>by
  obtain⟨-,a1,a2⟩:=hkeep1 i hi hk
  exact⟨by rw[hK4o];exact a1,by simp only[hK4o];exact a2⟩) (by rw[hK4t];exact hT2) (by rw[hK4p];exact Nat.le_refl _)
 have hP4:Al2 K4:=by
  unfold Al2
  rw[hK4p]
  exact Aio hF
 have hR4:Ag4 K4:=by
  have a1:Ag4 { K with opens:=O1 }:=by
   have h:=Axo (K:=K) (o:=x) (Apk hF) (by rw[hx];exact(show (0:Int)<=0/\(0:Int)<=1000 by decide))
   rw[hp1]at h
   exact h
  intro i hi
  have hi':i < O1.length:=by rw[hK4o]at hi;exact hi
  have h:=a1 i hi'
  simp only[hK4o]
  exact h
 have hO1l:K4.opens.length<=1000:=by
  rw[hK4o]
  rcases Aho hp1 (by omega)with ⟨i,hi,-,rfl,-⟩|⟨hl,rfl,-⟩
  ·rw[List.length_set];omega
  ·rw[List.length_append];simp;omega
 have HLD:=Hd (fun A' W (h:Wk W B g A' K4 f)=>Aya q i1 hq W h hO1l hL4 hP4 hR4 (by rw[hK4o];exact hj1))
 have HK4:=Hd hK4
 rw[HE.out]
 clear hW hF hBw h1 hY h2 h3 hfd htg hOL hh hT1 hT2 hK2 hz1 hx hp1 he2 hK2o hno hOL2 hj1 hOj1 hkeep1 hL4 hP4 hR4 hO1l hK4 hK4o hK4t hK4p ej1
 go_enter Tryz.func38,Tryz.ntmps38
 go_wp2_with fail
 refine(Aii _ _).mono ?_
 rintro e w2 ⟨rfl,rfl⟩
 rw[HFD.out]
 go_wp2_with fail
 refine HFI.out.mono ?_
 rintro e w3 ⟨ino',rfl,hb3,hwk⟩
 obtain⟨rfl,A3,hw3⟩:=hwk rfl
 simp only at hw3 ⊢
 rw[<-HK2.out]at hw3
 have HB3:=Hd hb3
 have HW3:=Hd hw3
 obtain⟨y1,yl⟩:=HYB.out _ hb3
 clear hb3 hwk hw3
 go_wp2_with fail
 refine(HDE.out _ _ HW3.out (Nat.le_trans HBw.out HB3.out.size)).mono ?_
 rintro e w4 ⟨rfl,A4,hw4,hs4⟩
 rw[<-HX.out,HZ1.out]at hw4 ⊢
 simp only at hw4 ⊢
 rw[<-HK4.out]at hw4
 have HW4:=Hd hw4
 have HS4:=Hd hs4
 clear hs4 hw4 y1 yl
 go_wp2_with fail
 refine(HLD.out _ _ HW4.out).mono ?_
 rintro e w5 ⟨rfl,hw5,hs5⟩
 have HW5:=Hd hw5
 have HB5:=Hd (HB3.out.trans (HW3.out.low (HS4.out.trans hs5) (Nat.le_trans HBw.out HB3.out.size)))
 clear hw5 hs5
 go_wp2_with fail
 go_ret
 exact⟨rfl,HB5.out,fun _=>⟨_,HW5.out⟩⟩
theorem Baw (b c d i:Nat)(fd cwd how:Int)(pb:ByteArray)(hp:pb.size<=1073741824)(w:World)(hW:Wk w B g A K f)(hF:FitK K f)(hBw:B<=w.heap.size)(hY:Ways w)(hgB:0 < B)(hb:w.cell? ⟨b,0,none⟩=some (.int .i64 fd))(hc:w.cell? ⟨c,0,none⟩=some (.int .i64 cwd))(hd:w.cell? ⟨d,0,none⟩=some (.string pb))(hi:w.cell? ⟨i,0,none⟩=some (.int .i64 how)) :
  Calls Tryz.prog 37 #[.pointer (some ⟨g,0,none⟩),.pointer (some ⟨b,0,none⟩),.pointer (some ⟨c,0,none⟩),.pointer (some ⟨d,0,none⟩),.pointer (some ⟨i,0,none⟩)] w (Ahv B g none (fun _=>True) (Afc K f fd cwd pb.data.toList how) w):=by
 have HC:=Hd (Ba0 fd cwd how pb hp w hW hF hBw hY hgB)
 rw[Auh hF fd cwd pb.data.toList how]at HC
 obtain⟨Z,hZ⟩:∃ Z,Z=Afc K f fd cwd pb.data.toList how:=⟨_,rfl⟩
 rw[<-hZ]at HC ⊢
 have bl:=Aaf hb
 have cl:=Aaf hc
 have dl:=Aaf hd
 have il:=Aaf hi
 clear hW hF hZ hY
 go_enter Tryz.func37,Tryz.ntmps37
 go_wp2_with fail
 refine HC.out.mono ?_
 rintro e w2 ⟨rfl,hb2,hw2⟩
 have HB2:=Hd hb2
 have HW2:=Hd hw2
 clear hb2 hw2
 go_wp2_with fail
 go_ret
 exact⟨rfl,.of_below HB2.out,HW2.out,trivial⟩
end
theorem Aju {W:World}{c:Nat}{t:TypeId}{v:Value}(h:W.heap[c]?=some (.cells #[v] t (0,0))):Akb W c:=by
 intro j s u _ h2
 rw[bC h]at h2
 simp at h2
theorem Wk.but {W:World}{B g:Nat}{A:KAd}{K:Krn}{f:List Int}(h:Wk W B g A K f){c:Nat}{old:Value}{t:TypeId}(hcB:c < B)(hc:W.heap[c]?=some (.cells #[old] t (0,0)))(new:Value):Wk (W.setCell ⟨c,0,none⟩ new) B g A K f:=by
 have hn:¬ Own3 g A c:=fun h3=>by have:=(h.own3 h3).1;omega
 have hbut:But c W (W.setCell ⟨c,0,none⟩ new):=But.set W c 0 new
 have hnew:(W.setCell ⟨c,0,none⟩ new).heap[c]?=some (.cells #[new] t (0,0)):=Aar hc 0 new
 refine⟨(hbut.block g (fun e=>hn (.inl e.symm))).trans h.box,h.base,⟨Ab8 h.own.pipes fun x hx=>hbut.block _ (fun e=>hn (.inr (.inl ⟨x,hx,e⟩))),Ab8 h.own.opens fun x hx=>hbut.block _ (fun e=>hn (.inr (.inr ⟨x,hx,e⟩))),h.own.apart⟩,h.gp,h.go,fun W'' hw=>?_,h.flen⟩
 have hcw:W''.heap[c]?=some (.cells #[new] t (0,0)):=(hw c (by rw[hbut.size];exact lt_of_block hc) hn).trans hnew
 have hback:(W''.setCell ⟨c,0,none⟩ old).heap[c]?=some (.cells #[old] t (0,0)):=Aar hcw 0 old
 have hb2:But c W'' (W''.setCell ⟨c,0,none⟩ old):=But.set W'' c 0 old
 have hN:Aad (W''.setCell ⟨c,0,none⟩ old) A.ta A.tc K.tree:=h.tree _ fun k hk hk3=>by
  by_cases e:k=c
  ·subst e
   exact hback.trans hc.symm
  ·exact(hb2.block k e).trans ((hw k (by rw[hbut.size];exact hk) hk3).trans (hbut.block k e))
 exact Am6 hN (Aju hback) fun k hk=>(hb2.block k hk).symm
theorem App {w W':World}{c:Nat}{old new:Value}{t:TypeId}{A:KAd}{K:Krn}(hK:KernIn w A K)(hc:w.heap[c]?=some (.cells #[old] t (0,0)))(hW:W'.heap[c]?=some (.cells #[new] t (0,0)))(hb:BelowO (some c) w.heap.size w W'):KernIn W' A K:=by
 have hback:(W'.setCell ⟨c,0,none⟩ old).heap[c]?=some (.cells #[old] t (0,0)):=Aar hW 0 old
 have hb2:But c W' (W'.setCell ⟨c,0,none⟩ old):=But.set W' c 0 old
 have hbel:Below w.heap.size w (W'.setCell ⟨c,0,none⟩ old):=⟨hb2.os.trans hb.os,hb2.tape.trans hb.tape,hb2.output.trans hb.output,by rw[hb2.size];exact hb.size,fun k hk=>by
  by_cases e:k=c
  ·subst e
   exact hback.trans hc.symm
  ·exact(hb2.block k e).trans (hb.block k hk (fun e2=>e (Option.some.inj e2).symm))⟩
 have h1:=hK.below hbel
 refine Age h1 (Aju hback) (fun k hk=>(hb2.block k hk).symm) (fun x hx h0 e=>?_) (fun x hx h0 e=>?_)
 ·obtain⟨b,o,ha,-,c1,-⟩:=h1.pipes.pip 0 h0
  rw[hx]at ha
  obtain rfl:x=⟨b,o,none⟩:=by simpa using ha
  have e':b=c:=e
  subst e'
  rw[bC hback]at c1
  simp at c1
 ·obtain⟨b,o,ha,-,c1,-⟩:=h1.opens.opn 0 h0
  rw[hx]at ha
  obtain rfl:x=⟨b,o,none⟩:=by simpa using ha
  have e':b=c:=e
  subst e'
  rw[bC hback]at c1
  simp at c1
theorem BelowO.below_of {n:Nat}{w w':World}{c:Nat}(h:BelowO (some c) n w w'){m:Nat}(hm:m<=c)(hn:m<=n):Below m w w':=⟨h.os,h.tape,h.output,h.size,fun k hk=>h.block k (by omega) (fun e=>by have:=Option.some.inj e;omega)⟩
end Go.Proofs.YtkdfbliiblojoaaGreatDoor
