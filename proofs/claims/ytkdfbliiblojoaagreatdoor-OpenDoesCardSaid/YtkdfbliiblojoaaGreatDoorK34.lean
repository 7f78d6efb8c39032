import Derived.Test.YtkdfbliiblojoaaGreatDoorK31
import Derived.Test.YtkdfbliiblojoaaGreatDoorK33
import Derived.Test.YtkdfbliiblojoaaGreatDoorK30
set_option linter.all false
set_option maxRecDepth 100000
set_option maxHeartbeats 64000000
namespace Go.Proofs.YtkdfbliiblojoaaGreatDoor
open Go Go.RowKit
theorem Bat : (Tryz.prog.info? 3).map (fun i=>(i.zero,i.size,i.bytes))=some (some (.int .i64 0),1,8):=by kernel_rfl
theorem At1 (n:Nat):madeCells #[.int .i64 0] n=Aei (List.replicate n 0):=by
 apply Array.ext'
 rw[toList_madeCells_one]
 simp[Aei]
theorem Alt (W:World)(n:Nat)(hn:n<=1000000):(Instr.makeSlice 88 (.int .i64 (n:Int)) (.int .i64 (n:Int))).run Tryz.prog W=.ok (.slice (some ⟨W.heap.size,0,none⟩) n n) (W.alloc (.cells (Aei (List.replicate n 0)) 3)):=by
 obtain⟨i0,hi,hz0,hz1,hz2⟩:=info_parts Bat
 have h:=run_makeSlice (P:=Tryz.prog) W 88 3 i0 (.int .i64 0) Tryz.underlying88 hi hz0 .i64 .i64 (n:Int) (n:Int) (by omega) (Int.le_refl _) (by rw[hz1];simp;omega) (by rw[hz2];omega) (by omega)
 rw[hz1,Int.toNat_natCast,Nat.mul_one]at h
 rw[<-At1]
 exact h
theorem Au1 (a:Option Addr)(cap:Nat)(m b:Int)(L:List Ino)(hL:L.length<=300)(hS:Al4 L)(v:Bool)(hv:v=true↔FitP L m b)(w:World)(hN:Aad w a cap L) :
  Calls Tryz.prog 15 #[.agg #[.slice a L.length cap,.int .i64 m,.int .i64 b]] w fun e w'=>e=.returned (.bool v)/\Below w.heap.size w w':=
 (Axr a cap m b L hL hS w hN).mono fun e w' h=>by
  obtain⟨⟨u,h1,h2⟩,h3⟩:=h
  have e:u=v:=by rw[Bool.eq_iff_iff,h2,hv,Azx]
  subst e
  exact⟨h1,h3⟩
theorem Az1 (A:KAd)(K:Krn)(f:List Int)(hf:f.length=10)(hL:K.tree.length<=300)(hS:Al4 K.tree)(hp:K.pipes.length<=1000)(ho:K.opens.length<=1000)(v:Bool)(hv:v=true↔FitK K f)(w:World)(hA:KernIn w A K) :
  Calls Tryz.prog 13 #[.agg #[.slice A.ta K.tree.length A.tc,.int .i64 K.m,.int .i64 K.b,.slice A.pa K.pipes.length A.pc,.slice A.oa K.opens.length A.oc,.string ⟨K.out0.toArray⟩,.string ⟨K.out1.toArray⟩],.agg #[.int .i64 (fdA f 0),.int .i64 (fdA f 1),.int .i64 (fdA f 2),.int .i64 (fdA f 3),.int .i64 (fdA f 4),.int .i64 (fdA f 5),.int .i64 (fdA f 6),.int .i64 (fdA f 7),.int .i64 (fdA f 8),.int .i64 (fdA f 9)]] w fun e w'=>e=.returned (.bool v)/\Below w.heap.size w w':=by
 obtain⟨D0,hD0⟩:∃ D:ByteArray,D=⟨K.out0.toArray⟩:=⟨_,rfl⟩
 obtain⟨D1,hD1⟩:∃ D:ByteArray,D=⟨K.out1.toArray⟩:=⟨_,rfl⟩
 have hs0:D0.size=K.out0.length:=by rw[hD0];simp[ByteArray.size]
 have hs1:D1.size=K.out1.length:=by rw[hD1];simp[ByteArray.size]
 have HG:=Hd (fun kd at_ off fl rf v hv W (h:KernIn W A K)=>Bbc A K kd at_ off fl rf v hv W h)
 rw[<-hD0,<-hD1]at HG ⊢
 obtain⟨w2,hw2,hb2,hs2,hX,hY⟩:=Aan w #[.slice A.ta K.tree.length A.tc,.int .i64 K.m,.int .i64 K.b,.slice A.pa K.pipes.length A.pc,.slice A.oa K.opens.length A.oc,.string D0,.string D1] #[.int .i64 (fdA f 0),.int .i64 (fdA f 1),.int .i64 (fdA f 2),.int .i64 (fdA f 3),.int .i64 (fdA f 4),.int .i64 (fdA f 5),.int .i64 (fdA f 6),.int .i64 (fdA f 7),.int .i64 (fdA f 8),.int .i64 (fdA f 9)] 29 31
 have HX:=Hd hX
 have HY:=Hd hY
 have HK2:=Hd (hA.below hb2)
 have HB2:=Hd hb2
 have HS2:=Hd hs2
 have HW2:=Hd hw2
 have HSZ:=Hd hS
 have HV:=Hd (hv.trans (Av8 hf))
 have HF:=Hd hf
 have hpc:=hA.pipes.1
 have hoc:=hA.opens.1
 have hpc2:=hA.pipes.2.1
 have hoc2:=hA.opens.2.1
 unfold maxLen at hpc2 hoc2
 obtain⟨vt,hvt⟩:∃ vt:Bool,vt=true↔FitP K.tree K.m K.b:=by classical exact⟨decide _,decide_eq_true_iff⟩
 have HVT:=Hd hvt
 have HDS:=Hd (And.intro hs0 hs1)
 have q0:=bC hX 0
 have q1:=bC hX 1
 have q2:=bC hX 2
 have q3:=bC hX 3
 have q4:=bC hX 4
 have q5:=bC hX 5
 have q6:=bC hX 6
 clear hX hY hb2 hs2 hw2 hA hS hv hvt hD0 hD1
 go_enter Tryz.func13,Tryz.ntmps13
 go_upto_region 1 with fail
 have h0:=HW2.out
 rw[<-h0]
 clear h0
 go_wp2_with fail
 refine(Au1 A.ta A.tc K.m K.b K.tree hL HSZ.out vt HVT.out _ HK2.out.tree).mono ?_
 rintro e w3 ⟨rfl,hb3⟩
 have HB3:=Hd (HB2.out.trans (hb3.mono (by have:=HS2.out;omega)))
 have HK3:=Hd (HK2.out.below hb3)
 have HX3:=Hd ((hb3.block w.heap.size (by have:=HS2.out;omega)).trans HX.out)
 have HY3:=Hd ((hb3.block (w.heap.size+1) (by have:=HS2.out;omega)).trans HY.out)
 have HS3:=Hd (show w.heap.size+2<=w3.heap.size by have:=HS2.out;have:=hb3.size;omega)
 have HEND:=Hd (show ∀ W,Below w3.heap.size w3 W->Below w.heap.size w W from fun W h=>HB3.out.trans (h.mono HB3.out.size))
 have HEND0:=Hd HB3.out
 clear hb3 q0 q1 q2 q3 q4 q5 q6
 have q0:=bC HX3.out 0
 have q1:=bC HX3.out 1
 have q2:=bC HX3.out 2
 have q3:=bC HX3.out 3
 have q4:=bC HX3.out 4
 have q5:=bC HX3.out 5
 have q6:=bC HX3.out 6
 cases vt with
 | false=>
  have hvf:v=false:=Aau HV.out (fun h=>absurd (HVT.out.2 h.1) (by decide))
  subst hvf
  go_wp2_with fail
  go_ret
  exact⟨rfl,HEND0.out⟩
 | true=>
 have HFP:=Hd (HVT.out.1 (by trivial))
 by_cases h1:K.pipes.length<=32
 rotate_left
 ·have hd:decide (32 < (K.pipes.length:Int))=true:=decide_eq_true (by omega)
  have hvf:v=false:=Aau HV.out (fun h=>h1 h.2.1)
  subst hvf
  clear h1
  go_wp2_with fail
  go_ret
  exact⟨rfl,HEND0.out⟩
 have d1:decide (32 < (K.pipes.length:Int))=false:=decide_eq_false (by omega)
 by_cases h2:K.opens.length<=64
 rotate_left
 ·have hd:decide (64 < (K.opens.length:Int))=true:=decide_eq_true (by omega)
  have hvf:v=false:=Aau HV.out (fun h=>h2 h.2.2.1)
  subst hvf
  clear h2 h1
  go_wp2_with fail
  go_ret
  exact⟨rfl,HEND0.out⟩
 have d2:decide (64 < (K.opens.length:Int))=false:=decide_eq_false (by omega)
 by_cases h3:K.out0.length<=65536
 rotate_left
 ·have hd:decide (65536 < (D0.size:Int))=true:=decide_eq_true (by have:=HDS.out.1;omega)
  have hvf:v=false:=Aau HV.out (fun h=>h3 h.2.2.2.1)
  subst hvf
  clear h2 h1 h3 hs0 hs1
  go_wp2_with fail
  go_ret
  exact⟨rfl,HEND0.out⟩
 have d3:decide (65536 < (D0.size:Int))=false:=decide_eq_false (by have:=HDS.out.1;omega)
 by_cases h4:K.out1.length<=65536
 rotate_left
 ·have hd:decide (65536 < (D1.size:Int))=true:=decide_eq_true (by have:=HDS.out.2;omega)
  have hvf:v=false:=Aau HV.out (fun h=>h4 h.2.2.2.2.1)
  subst hvf
  clear h2 h1 h3 h4 hs0 hs1
  go_wp2_with fail
  go_ret
  exact⟨rfl,HEND0.out⟩
 have d4:decide (65536 < (D1.size:Int))=false:=decide_eq_false (by have:=HDS.out.2;omega)
 have HLIM:=Hd (And.intro h1 (And.intro h2 (And.intro h3 h4)))
 have hmk:=fun W=>Alt W K.pipes.length (by omega)
 clear h1 h2 h3 h4 hs0 hs1
 obtain⟨w5,hw5,hb5,hs5,hR,hQ⟩:=Aan w3 (Aei (List.replicate K.pipes.length 0)) (Aei (List.replicate K.pipes.length 0)) 3 3
 have HW5:=Hd hw5
 have HB5:=Hd hb5
 have HR5:=Hd hR
 have HQ5:=Hd hQ
 clear hw5 hb5 hs5 hR hQ
 have q3l:=Aaf q3
 go_upto_region 5 with fail
 have h0:=HW5.out
 rw[<-h0]
 clear h0 hmk q0 q1 q2 q3 q4 q5 q6 q3l d1 d2 d3 d4
 go_wp2_with fail
 go_loopw [7] (fun iv wr=>∃ i:Nat,i<=K.opens.length/\iv=.int .i64 i/\Hid (∀ q (hq:q < K.opens.length),q < i->Abb K.tree K.pipes.length K.opens[q])/\Hid (wr.heap[w3.heap.size]?=some (.cells (Aei (cntK (K.opens.take i) 2 K.pipes.length)) 3 (0,0)))/\Hid (wr.heap[w3.heap.size+1]?=some (.cells (Aei (cntK (K.opens.take i) 3 K.pipes.length)) 3 (0,0)))/\Hid (Below w3.heap.size w3 wr)) (fun iv _=>K.opens.length - (intOf iv).toNat)
 case atStart=>exact⟨0,by omega,rfl,Hd (fun q _ h=>absurd h (Nat.not_lt_zero _)),Hd (by rw[List.take_zero,Asm];exact HR5.out),Hd (by rw[List.take_zero,Asm];exact HQ5.out),HB5⟩
 case round=>
  obtain⟨i,hi,rfl,HGO,HRR,HQR,HBR⟩:=hrel
  have HKR:=Hd (HK3.out.below HBR.out)
  have HXR:=Hd ((HBR.out.block w.heap.size (by have:=HS3.out;omega)).trans HX3.out)
  have q0:=bC HXR.out 0
  have q1:=bC HXR.out 1
  have q2:=bC HXR.out 2
  have q3:=bC HXR.out 3
  have q4:=bC HXR.out 4
  have q5:=bC HXR.out 5
  have q6:=bC HXR.out 6
  have ql:=lt_of_block HXR.out
  by_cases hlt:i < K.opens.length
  ·obtain⟨bx,ox,hax,x0,x1,x2,x3,x4⟩:=HKR.out.opens.opn i hlt
   rw[hax]at q4
   have HAX:=Hd hax
   obtain⟨o,ho⟩:∃ o,o=K.opens[i]:=⟨_,rfl⟩
   rw[<-ho]at x0 x1 x2 x3 x4
   have HO:=Hd ho
   obtain⟨kd,at_,off,fl,rf⟩:=o
   simp only at x0 x1 x2 x3 x4
   have b1:(0:Int)<=(i:Int):=by omega
   have b2:(i:Int) < (K.opens.length:Int):=by omega
   have hwi:IntKind.i64.wrap ((i:Int)+1)=(i:Int)+1:=by rw[IntKind.wrap_i64];have:=HLIM.out.2.1;omega
   have xl:=Aaf x0
   obtain⟨vg,hvg⟩:∃ vg:Bool,vg=true↔Abb K.tree K.pipes.length ⟨kd,at_,off,fl,rf⟩:=by classical exact⟨decide _,decide_eq_true_iff⟩
   have HVG:=Hd hvg
   obtain⟨w6,hw6⟩:∃ z,z=wr.alloc (.cells #[.int .i64 kd,.int .i64 at_,.int .i64 off,.int .i64 fl,.int .i64 rf] 70):=⟨_,rfl⟩
   have hb6:Below wr.heap.size wr w6:=by rw[hw6];exact Aab wr _
   have HY6:=Hd (show w6.heap[wr.heap.size]?=some (.cells #[.int .i64 kd,.int .i64 at_,.int .i64 off,.int .i64 fl,.int .i64 rf] 70 (0,0)) by rw[hw6];exact Aag wr _)
   have HB6:=Hd hb6
   have HW6:=Hd hw6
   clear hb6 hw6 ho hax hvg
   go_upto_region 9 with fail
   have h0:=HW6.out
   rw[<-h0]
   clear h0 x0 x1 x2 x3 x4 xl q0 q1 q2 q3 q4 q5 q6 ql
   have HX6:=Hd ((HB6.out.block w.heap.size (lt_of_block HXR.out)).trans HXR.out)
   have q0:=bC HX6.out 0
   have q1:=bC HX6.out 1
   have q2:=bC HX6.out 2
   have q3:=bC HX6.out 3
   have q4:=bC HX6.out 4
   have q5:=bC HX6.out 5
   have q6:=bC HX6.out 6
   have y0:=bC HY6.out 0
   have y1:=bC HY6.out 1
   have y2:=bC HY6.out 2
   have y3:=bC HY6.out 3
   have y4:=bC HY6.out 4
   have ql:=lt_of_block HX6.out
   have yl:=lt_of_block HY6.out
   go_wp2_with fail
   refine(HG.out kd at_ off fl rf vg HVG.out _ (HKR.out.below HB6.out)).mono ?_
   rintro e w7 ⟨rfl,hb7⟩
   have HB7r:=Hd (HB6.out.trans (hb7.mono HB6.out.size))
   have HB7:=Hd (HBR.out.trans (HB7r.out.mono HBR.out.size))
   have HY7:=Hd ((hb7.block wr.heap.size (lt_of_block HY6.out)).trans HY6.out)
   have HR7:=Hd ((HB7r.out.block w3.heap.size (lt_of_block HRR.out)).trans HRR.out)
   have HQ7:=Hd ((HB7r.out.block (w3.heap.size+1) (lt_of_block HQR.out)).trans HQR.out)
   clear hb7 q0 q1 q2 q3 q4 q5 q6 ql y0 y1 y2 y3 y4 yl
   have y0:=bC HY7.out 0
   have y1:=bC HY7.out 1
   have y2:=bC HY7.out 2
   have y3:=bC HY7.out 3
   have y4:=bC HY7.out 4
   have yl:=lt_of_block HY7.out
   have HOQ:=Hd (show vg=true->Abb K.tree K.pipes.length K.opens[i]from fun h=>by rw[<-HO.out];exact HVG.out.1 h)
   cases vg with
   | false=>
    have hvf:v=false:=Aau HV.out (fun h=>by
     have h1:=h.2.2.2.2.2.1 i hlt
     rw[<-HO.out]at h1
     exact absurd (HVG.out.2 h1) (by decide))
    subst hvf
    go_wp2_with fail
    go_ret
    exact⟨rfl,HEND.out _ HB7.out⟩
   | true=>
    have HGN:=Hd (show ∀ q (hq:q < K.opens.length),q < i+1->Abb K.tree K.pipes.length K.opens[q]from fun q hq h=>by
     by_cases e:q=i
     ·subst e
      exact HOQ.out (by trivial)
     ·exact HGO.out q hq (by omega))
    have HTK:=Hd (show K.opens.take (i+1)=K.opens.take i ++ [⟨kd,at_,off,fl,rf⟩] by rw[Aqa _ i hlt,<-HO.out])
    by_cases hk2:kd=2
    ·subst hk2
     obtain⟨n,hn,hat⟩:∃ n:Nat,n < K.pipes.length/\at_=(n:Int):=by
      have h:=HVG.out.1 (by trivial)
      rcases h with h|⟨-,-,-,-,⟨h,-⟩|⟨-,h,-⟩|⟨h,-⟩|⟨h,-⟩⟩
      ·cases h
      ·exact absurd h (show ¬ (2:Int)=1 by decide)
      ·exact h
      ·exact absurd h (show ¬ (2:Int)=3 by decide)
      ·exact absurd h (show ¬ (2:Int)=4 by decide)
     subst hat
     obtain⟨c,hc⟩:∃ c,c=Abw (K.opens.take i) 2 n:=⟨_,rfl⟩
     have HC:=Hd hc
     have hcl:c<=64:=by
      have h1:=Asu (K.opens.take i) 2 n
      have h2:(K.opens.take i).length<=K.opens.length:=by rw[List.length_take];omega
      have h3:=HLIM.out.2.1
      omega
     have r0:w7.cell? ⟨w3.heap.size,n,none⟩=some (.int .i64 (c:Int)):=by
      rw[bC HR7.out,Agc _ _ (by rw[Ae8];exact hn),Abx _ n (by rw[Ae8];exact hn),Ahx _ _ _ n hn,hc]
     have r1:=bF HR7.out n
     have rl:=lt_of_block HR7.out
     have hcw:IntKind.i64.wrap ((c:Int)+1)=(c:Int)+1:=by rw[IntKind.wrap_i64];omega
     have b3:(0:Int)<=(n:Int):=by omega
     have b4:(n:Int) < (K.pipes.length:Int):=by omega
     have hn1:wr.heap.size≠w3.heap.size:=by have:=lt_of_block HQR.out;omega
     have hn2:w3.heap.size≠wr.heap.size:=by have:=lt_of_block HQR.out;omega
     clear hc hcl
     go_wp2_with fail
     go_roundw
     case rel=>
      have hbt:But (w3.heap.size) w7 (w7.setCell ⟨w3.heap.size,n,none⟩ (.int .i64 ((c:Int)+1))):=But.set ..
      have hset:=Aar HR7.out n (.int .i64 ((c:Int)+1))
      rw[Akg]at hset
      refine⟨i+1,by omega,by go_num,HGN,Hd ?_,Hd ?_,Hd (hbt.below HB7.out (by omega))⟩
      ·rw[HTK.out]
       rw[Asn _ _ _ _ n rfl rfl hn,<-HC.out]
       exact hset
      ·rw[HTK.out]
       rw[Ag8 _ _ _ _ (show (2:Int)≠3 by decide)]
       exact(hbt.block _ (by omega)).trans HQ7.out
     case measure=>simp[intOf] <;> omega
    ·by_cases hk3:kd=3
     ·subst hk3
      obtain⟨n,hn,hat⟩:∃ n:Nat,n < K.pipes.length/\at_=(n:Int):=by
       have h:=HVG.out.1 (by trivial)
       rcases h with h|⟨-,-,-,-,⟨h,-⟩|⟨h,-⟩|⟨-,h,-⟩|⟨h,-⟩⟩
       ·cases h
       ·exact absurd h (show ¬ (3:Int)=1 by decide)
       ·exact absurd h (show ¬ (3:Int)=2 by decide)
       ·exact h
       ·exact absurd h (show ¬ (3:Int)=4 by decide)
      subst hat
      obtain⟨c,hc⟩:∃ c,c=Abw (K.opens.take i) 3 n:=⟨_,rfl⟩
      have HC:=Hd hc
      have hcl:c<=64:=by
       have h1:=Asu (K.opens.take i) 3 n
       have h2:(K.opens.take i).length<=K.opens.length:=by rw[List.length_take];omega
       have h3:=HLIM.out.2.1
       omega
      have r0:w7.cell? ⟨w3.heap.size+1,n,none⟩=some (.int .i64 (c:Int)):=by
       rw[bC HQ7.out,Agc _ _ (by rw[Ae8];exact hn),Abx _ n (by rw[Ae8];exact hn),Ahx _ _ _ n hn,hc]
      have r1:=bF HQ7.out n
      have rl:=lt_of_block HQ7.out
      have hcw:IntKind.i64.wrap ((c:Int)+1)=(c:Int)+1:=by rw[IntKind.wrap_i64];omega
      have b3:(0:Int)<=(n:Int):=by omega
      have b4:(n:Int) < (K.pipes.length:Int):=by omega
      have hn1:wr.heap.size≠w3.heap.size+1:=by have:=lt_of_block HQR.out;omega
      have hn2:w3.heap.size+1≠wr.heap.size:=by have:=lt_of_block HQR.out;omega
      clear hc hcl
      go_wp2_with fail
      go_roundw
      case rel=>
       have hbt:But (w3.heap.size+1) w7 (w7.setCell ⟨w3.heap.size+1,n,none⟩ (.int .i64 ((c:Int)+1))):=But.set ..
       have hset:=Aar HQ7.out n (.int .i64 ((c:Int)+1))
       rw[Akg]at hset
       refine⟨i+1,by omega,by go_num,HGN,Hd ?_,Hd ?_,Hd (hbt.below HB7.out (by omega))⟩
       ·rw[HTK.out]
        rw[Ag8 _ _ _ _ (show (3:Int)≠2 by decide)]
        exact(hbt.block _ (by omega)).trans HR7.out
       ·rw[HTK.out]
        rw[Asn _ _ _ _ n rfl rfl hn,<-HC.out]
        exact hset
      case measure=>simp[intOf] <;> omega
     ·have e2:(kd == 2)=false:=by rw[beq_eq_false_iff_ne];exact hk2
      have e3:(kd == 3)=false:=by rw[beq_eq_false_iff_ne];exact hk3
      have HK2':=Hd hk2
      have HK3':=Hd hk3
      clear hk2 hk3
      go_wp2_with fail
      go_roundw
      case rel=>exact⟨i+1,by omega,by go_num,HGN,Hd (by rw[HTK.out,Ag8 _ _ _ _ HK2'.out];exact HR7.out),Hd (by rw[HTK.out,Ag8 _ _ _ _ HK3'.out];exact HQ7.out),HB7⟩
      case measure=>simp[intOf] <;> omega
  ·have hie:i=K.opens.length:=by omega
   have HALL:=Hd (show ∀ q (hq:q < K.opens.length),Abb K.tree K.pipes.length K.opens[q]from fun q hq=>HGO.out q hq (by omega))
   have HRA:=Hd (show wr.heap[w3.heap.size]?=some (.cells (Aei (cntK K.opens 2 K.pipes.length)) 3 (0,0)) by have h:=HRR.out;rw[hie,List.take_length]at h;exact h)
   have HQA:=Hd (show wr.heap[w3.heap.size+1]?=some (.cells (Aei (cntK K.opens 3 K.pipes.length)) 3 (0,0)) by have h:=HQR.out;rw[hie,List.take_length]at h;exact h)
   clear hie HGO HRR HQR
   go_wp2_with fail
   go_loopw [9] (fun iv wr=>∃ i:Nat,i<=K.pipes.length/\iv=.int .i64 i/\Hid (∀ q,q < i->Ano K q)/\Hid (wr.heap[w3.heap.size]?=some (.cells (Aei (cntK K.opens 2 K.pipes.length)) 3 (0,0)))/\Hid (wr.heap[w3.heap.size+1]?=some (.cells (Aei (cntK K.opens 3 K.pipes.length)) 3 (0,0)))/\Hid (Below w3.heap.size w3 wr)) (fun iv _=>K.pipes.length - (intOf iv).toNat)
   case atStart=>exact⟨0,by omega,rfl,Hd (fun q h=>absurd h (Nat.not_lt_zero _)),HRA,HQA,HBR⟩
   case round=>
    clear q0 q1 q2 q3 q4 q5 q6 ql HXR HKR HRA HQA HBR
    obtain⟨i,hi,rfl,HPO,HRA,HQA,HBR⟩:=hrel
    have HKR:=Hd (HK3.out.below HBR.out)
    have HXR:=Hd ((HBR.out.block w.heap.size (by have:=HS3.out;omega)).trans HX3.out)
    have q0:=bC HXR.out 0
    have q1:=bC HXR.out 1
    have q2:=bC HXR.out 2
    have q3:=bC HXR.out 3
    have q4:=bC HXR.out 4
    have q5:=bC HXR.out 5
    have q6:=bC HXR.out 6
    have ql:=lt_of_block HXR.out
    by_cases hlt:i < K.pipes.length
    ·obtain⟨bx,ox,hax,x0,x1,x2,x3⟩:=HKR.out.pipes.pip i hlt
     rw[hax]at q3
     obtain⟨p,hpp⟩:∃ p,p=K.pipes[i]:=⟨_,rfl⟩
     have hpo:∀ P:Prop,(Ano K i->P)->(Ace p=true->p.rd=(Abw K.opens 2 i:Int)->(p.wr=(Abw K.opens 3 i:Int)∨(i=0/\p.wr<=(Abw K.opens 3 i:Int)))->P):=fun P h h1 h2 h3=>h ⟨hlt,by rw[<-hpp];exact h1,by rw[<-hpp];exact h2,by rw[<-hpp];exact h3⟩
     have HPK:=Hd (show Ano K i↔Ace p=true/\p.rd=(Abw K.opens 2 i:Int)/\(p.wr=(Abw K.opens 3 i:Int)∨(i=0/\p.wr<=(Abw K.opens 3 i:Int)))from⟨fun⟨_,h1,h2,h3⟩=>by rw[hpp];exact⟨h1,h2,h3⟩,fun h=>hpo _ id h.1 h.2.1 h.2.2⟩)
     rw[<-hpp]at x0 x1 x2 x3
     have HRF:=Hd (fun W=>Bbw p W)
     obtain⟨D,hD⟩:∃ D:ByteArray,D=⟨p.data.toArray⟩:=⟨_,rfl⟩
     rw[<-hD]at x0 HRF
     obtain⟨c2,hc2⟩:∃ c:Int,c=(Abw K.opens 2 i:Int):=⟨_,rfl⟩
     obtain⟨c3,hc3⟩:∃ c:Int,c=(Abw K.opens 3 i:Int):=⟨_,rfl⟩
     rw[<-hc2,<-hc3]at HPK
     obtain⟨vf,hvf0⟩:∃ vf,Ace p=vf:=⟨_,rfl⟩
     rw[hvf0]at HRF HPK
     obtain⟨rd,hrd⟩:∃ x,p.rd=x:=⟨_,rfl⟩
     obtain⟨wrr,hwrr⟩:∃ x,p.wr=x:=⟨_,rfl⟩
     obtain⟨pc,hpc9⟩:∃ x,p.cap=x:=⟨_,rfl⟩
     rw[hrd,hwrr,hpc9]at HRF
     rw[hrd,hwrr]at HPK
     rw[hrd]at x1
     rw[hwrr]at x2
     rw[hpc9]at x3
     have xl:=Aaf x1
     have b1:(0:Int)<=(i:Int):=by omega
     have b2:(i:Int) < (K.pipes.length:Int):=by omega
     have hwi:IntKind.i64.wrap ((i:Int)+1)=(i:Int)+1:=by rw[IntKind.wrap_i64];have:=HLIM.out.1;omega
     obtain⟨w6,hw6⟩:∃ z,z=wr.alloc (.cells #[.string D,.int .i64 rd,.int .i64 wrr,.int .i64 pc] 87):=⟨_,rfl⟩
     have hb6:Below wr.heap.size wr w6:=by rw[hw6];exact Aab wr _
     have HY6:=Hd (show w6.heap[wr.heap.size]?=some (.cells #[.string D,.int .i64 rd,.int .i64 wrr,.int .i64 pc] 87 (0,0)) by rw[hw6];exact Aag wr _)
     have hrc:w6.cell? ⟨w3.heap.size,i,none⟩=some (.int .i64 c2):=by
      rw[bC ((hb6.block _ (lt_of_block HRA.out)).trans HRA.out),Agc _ _ (by rw[Ae8];exact hlt),Abx _ i (by rw[Ae8];exact hlt),Ahx _ _ _ i hlt,hc2]
     have hqc:w6.cell? ⟨w3.heap.size+1,i,none⟩=some (.int .i64 c3):=by
      rw[bC ((hb6.block _ (lt_of_block HQA.out)).trans HQA.out),Agc _ _ (by rw[Ae8];exact hlt),Abx _ i (by rw[Ae8];exact hlt),Ahx _ _ _ i hlt,hc3]
     have HB6:=Hd hb6
     have HW6:=Hd hw6
     have HRC:=Hd hrc
     have HQC:=Hd hqc
     clear hb6 hw6 hax hpp hpo hD hc2 hc3 hvf0 hrd hwrr hpc9 hrc hqc
     go_upto_region 19 with fail
     have h0:=HW6.out
     rw[<-h0]
     clear h0 x0 x1 x2 x3 xl q0 q1 q2 q3 q4 q5 q6 ql
     have g0:=Aaj (bC HY6.out 0)
     have g1:=Aaj (bC HY6.out 1)
     have g2:=Aaj (bC HY6.out 2)
     have g3:=Aaj (bC HY6.out 3)
     have g4:=Aaj HRC.out
     have g5:=Aaj HQC.out
     have G1:=Aa0 (wb:=w6) (f:=47) (args:=#[.agg #[.string D,.int .i64 rd,.int .i64 wrr,.int .i64 pc]]) (v:=.bool vf) fun W _=>HRF.out W
     cases vf with
     | false=>
      have hvf:v=false:=Aau HV.out (fun h=>(fun h'=>absurd h'.1 (by decide)) (HPK.out.1 (h.2.2.2.2.2.2.1 i hlt)))
      subst hvf
      refine Aah (by kernel_rfl) (by kernel_rfl) ?_
      repeat(first|go_big_quiet_skip|(go_big_quiet_want;go_big_quiet_op;(first|go_big_quiet_on|(refine⟨_,G1,?_⟩;go_big_quiet_on))))
      refine wpQuiet_nil ?_
      intro wq hwq
      have hbg:Below w6.heap.size w6 wq:=by obtain⟨x,rfl⟩:=hwq;exact x.below
      have HBQ:=Hd (HBR.out.trans ((HB6.out.trans (hbg.mono HB6.out.size)).mono HBR.out.size))
      have HRQ:=Hd (((HB6.out.trans (hbg.mono HB6.out.size)).block _ (lt_of_block HRA.out)).trans HRA.out)
      have HQQ:=Hd (((HB6.out.trans (hbg.mono HB6.out.size)).block _ (lt_of_block HQA.out)).trans HQA.out)
      clear hwq hbg g0 g1 g2 g3 g4 g5 G1
      go_wp2_with fail
      go_ret
      exact⟨rfl,HEND.out _ HBQ.out⟩
     | true=>
      by_cases h1:rd=c2
      rotate_left
      ·skip
       have e1:(rd != c2)=true:=by rw[bne_iff_ne];exact h1
       have hvf:v=false:=Aau HV.out (fun h=>(fun h'=>h1 h'.2.1) (HPK.out.1 (h.2.2.2.2.2.2.1 i hlt)))
       subst hvf
       clear h1
       refine Aah (by kernel_rfl) (by kernel_rfl) ?_
       repeat(first|go_big_quiet_skip|(go_big_quiet_want;go_big_quiet_op;(first|go_big_quiet_on|(refine⟨_,G1,?_⟩;go_big_quiet_on))))
       refine wpQuiet_nil ?_
       intro wq hwq
       have hbg:Below w6.heap.size w6 wq:=by obtain⟨x,rfl⟩:=hwq;exact x.below
       have HBQ:=Hd (HBR.out.trans ((HB6.out.trans (hbg.mono HB6.out.size)).mono HBR.out.size))
       have HRQ:=Hd (((HB6.out.trans (hbg.mono HB6.out.size)).block _ (lt_of_block HRA.out)).trans HRA.out)
       have HQQ:=Hd (((HB6.out.trans (hbg.mono HB6.out.size)).block _ (lt_of_block HQA.out)).trans HQA.out)
       clear hwq hbg g0 g1 g2 g3 g4 g5 G1
       go_wp2_with fail
       go_ret
       exact⟨rfl,HEND.out _ HBQ.out⟩
      by_cases h2:wrr=c3
      ·skip
       have e1:(rd != c2)=false:=by rw[bne_eq_false_iff_eq];exact h1
       have e2:(wrr != c3)=false:=by rw[bne_eq_false_iff_eq];exact h2
       have HOKP:=Hd (show Ano K i from HPK.out.2 ⟨rfl,h1,.inl h2⟩)
       clear h1 h2
       refine Aah (by kernel_rfl) (by kernel_rfl) ?_
       repeat(first|go_big_quiet_skip|(go_big_quiet_want;go_big_quiet_op;(first|go_big_quiet_on|(refine⟨_,G1,?_⟩;go_big_quiet_on))))
       refine wpQuiet_nil ?_
       intro wq hwq
       have hbg:Below w6.heap.size w6 wq:=by obtain⟨x,rfl⟩:=hwq;exact x.below
       have HBQ:=Hd (HBR.out.trans ((HB6.out.trans (hbg.mono HB6.out.size)).mono HBR.out.size))
       have HRQ:=Hd (((HB6.out.trans (hbg.mono HB6.out.size)).block _ (lt_of_block HRA.out)).trans HRA.out)
       have HQQ:=Hd (((HB6.out.trans (hbg.mono HB6.out.size)).block _ (lt_of_block HQA.out)).trans HQA.out)
       clear hwq hbg g0 g1 g2 g3 g4 g5 G1
       go_wp2_with fail
       go_roundw
       case rel=>exact⟨i+1,by omega,by go_num,Hd (fun q hq=>by
        by_cases e:q=i
        ·subst e;exact HOKP.out
        ·exact HPO.out q (by omega)),HRQ,HQQ,HBQ⟩
       case measure=>simp[intOf] <;> omega
      by_cases h3:0 < i
      ·skip
       have e1:(rd != c2)=false:=by rw[bne_eq_false_iff_eq];exact h1
       have e2:(wrr != c3)=true:=by rw[bne_iff_ne];exact h2
       have e3:decide (0 < (i:Int))=true:=decide_eq_true (by omega)
       have e3n:decide (0 < i)=true:=decide_eq_true (by omega)
       have hvf:v=false:=Aau HV.out (fun h=>(fun h'=>by rcases h'.2.2 with h|h;exact h2 h;exact absurd h.1 (by omega)) (HPK.out.1 (h.2.2.2.2.2.2.1 i hlt)))
       subst hvf
       clear h1 h2 h3
       refine Aah (by kernel_rfl) (by kernel_rfl) ?_
       repeat(first|go_big_quiet_skip|(go_big_quiet_want;go_big_quiet_op;(first|go_big_quiet_on|(refine⟨_,G1,?_⟩;go_big_quiet_on))))
       refine wpQuiet_nil ?_
       intro wq hwq
       have hbg:Below w6.heap.size w6 wq:=by obtain⟨x,rfl⟩:=hwq;exact x.below
       have HBQ:=Hd (HBR.out.trans ((HB6.out.trans (hbg.mono HB6.out.size)).mono HBR.out.size))
       have HRQ:=Hd (((HB6.out.trans (hbg.mono HB6.out.size)).block _ (lt_of_block HRA.out)).trans HRA.out)
       have HQQ:=Hd (((HB6.out.trans (hbg.mono HB6.out.size)).block _ (lt_of_block HQA.out)).trans HQA.out)
       clear hwq hbg g0 g1 g2 g3 g4 g5 G1
       go_wp2_with fail
       go_ret
       exact⟨rfl,HEND.out _ HBQ.out⟩
      by_cases h4:c3 < wrr
      ·skip
       have e1:(rd != c2)=false:=by rw[bne_eq_false_iff_eq];exact h1
       have e2:(wrr != c3)=true:=by rw[bne_iff_ne];exact h2
       have e3:decide (0 < (i:Int))=false:=decide_eq_false (by omega)
       have e3n:decide (0 < i)=false:=decide_eq_false (by omega)
       have e4:decide (c3 < wrr)=true:=decide_eq_true h4
       have hvf:v=false:=Aau HV.out (fun h=>(fun h'=>by rcases h'.2.2 with h|h;exact h2 h;exact absurd h.2 (by omega)) (HPK.out.1 (h.2.2.2.2.2.2.1 i hlt)))
       subst hvf
       clear h1 h2 h3 h4
       refine Aah (by kernel_rfl) (by kernel_rfl) ?_
       repeat(first|go_big_quiet_skip|(go_big_quiet_want;go_big_quiet_op;(first|go_big_quiet_on|(refine⟨_,G1,?_⟩;go_big_quiet_on))))
       refine wpQuiet_nil ?_
       intro wq hwq
       have hbg:Below w6.heap.size w6 wq:=by obtain⟨x,rfl⟩:=hwq;exact x.below
       have HBQ:=Hd (HBR.out.trans ((HB6.out.trans (hbg.mono HB6.out.size)).mono HBR.out.size))
       have HRQ:=Hd (((HB6.out.trans (hbg.mono HB6.out.size)).block _ (lt_of_block HRA.out)).trans HRA.out)
       have HQQ:=Hd (((HB6.out.trans (hbg.mono HB6.out.size)).block _ (lt_of_block HQA.out)).trans HQA.out)
       clear hwq hbg g0 g1 g2 g3 g4 g5 G1
       go_wp2_with fail
       go_ret
       exact⟨rfl,HEND.out _ HBQ.out⟩
      ·skip
       have e1:(rd != c2)=false:=by rw[bne_eq_false_iff_eq];exact h1
       have e2:(wrr != c3)=true:=by rw[bne_iff_ne];exact h2
       have e3:decide (0 < (i:Int))=false:=decide_eq_false (by omega)
       have e3n:decide (0 < i)=false:=decide_eq_false (by omega)
       have e4:decide (c3 < wrr)=false:=decide_eq_false h4
       have HOKP:=Hd (show Ano K i from HPK.out.2 ⟨rfl,h1,.inr ⟨by omega,by omega⟩⟩)
       clear h1 h2 h3 h4
       refine Aah (by kernel_rfl) (by kernel_rfl) ?_
       repeat(first|go_big_quiet_skip|(go_big_quiet_want;go_big_quiet_op;(first|go_big_quiet_on|(refine⟨_,G1,?_⟩;go_big_quiet_on))))
       refine wpQuiet_nil ?_
       intro wq hwq
       have hbg:Below w6.heap.size w6 wq:=by obtain⟨x,rfl⟩:=hwq;exact x.below
       have HBQ:=Hd (HBR.out.trans ((HB6.out.trans (hbg.mono HB6.out.size)).mono HBR.out.size))
       have HRQ:=Hd (((HB6.out.trans (hbg.mono HB6.out.size)).block _ (lt_of_block HRA.out)).trans HRA.out)
       have HQQ:=Hd (((HB6.out.trans (hbg.mono HB6.out.size)).block _ (lt_of_block HQA.out)).trans HQA.out)
       clear hwq hbg g0 g1 g2 g3 g4 g5 G1
       go_wp2_with fail
       go_roundw
       case rel=>exact⟨i+1,by omega,by go_num,Hd (fun q hq=>by
        by_cases e:q=i
        ·subst e;exact HOKP.out
        ·exact HPO.out q (by omega)),HRQ,HQQ,HBQ⟩
       case measure=>simp[intOf] <;> omega
    ·have hie:i=K.pipes.length:=by omega
     have HALP:=Hd (show ∀ q,q < K.pipes.length->Ano K q from fun q hq=>HPO.out q (by omega))
     clear hie HPO HRA HQA
     go_wp2_with fail
     go_loopw [11] (fun iv wr=>∃ i:Nat,i<=10/\iv=.int .i64 i/\Hid (∀ q,q < i->FdOk K f q)/\Hid (Below w3.heap.size w3 wr)) (fun iv _=>10 - (intOf iv).toNat)
     case atStart=>exact⟨0,by omega,rfl,Hd (fun q h=>absurd h (Nat.not_lt_zero _)),HBR⟩
     case round=>
      clear q0 q1 q2 q3 q4 q5 q6 ql HXR HKR HBR
      obtain⟨i,hi,rfl,HFO,HBR⟩:=hrel
      have HKR:=Hd (HK3.out.below HBR.out)
      have HXR:=Hd ((HBR.out.block w.heap.size (by have:=HS3.out;omega)).trans HX3.out)
      have HYR:=Hd ((HBR.out.block (w.heap.size+1) (by have:=HS3.out;omega)).trans HY3.out)
      by_cases hlt:i < 10
      ·obtain⟨x,hx⟩:∃ x,fdA f i=x:=⟨_,rfl⟩
       have HXX:=Hd hx
       have ci:=(bC HYR.out i).trans (Ajd f i hlt)
       rw[hx]at ci
       have q4:=bC HXR.out 4
       have ql:=lt_of_block HXR.out
       have yl:=lt_of_block HYR.out
       have b1:(0:Int)<=(i:Int):=by omega
       have b2:(i:Int) < 10:=by omega
       have hwi:IntKind.i64.wrap ((i:Int)+1)=(i:Int)+1:=by rw[IntKind.wrap_i64];omega
       have HNF:=Hd (show v=true->FdOk K f i from fun h=>(HV.out.1 h).2.2.2.2.2.2.2 i hlt)
       clear hx
       by_cases hn0:x < 0
       ·have e1:decide (x < 0)=true:=decide_eq_true hn0
        have hvf:v=false:=Aau HV.out (fun h=>by
         rcases h.2.2.2.2.2.2.2 i hlt with h1|⟨j,hj,h1,-⟩ <;> rw[HXX.out]at h1 <;> omega)
        subst hvf
        clear hn0
        go_wp2_with fail
        go_quiet (fail)
        go_wp2_with fail
        go_ret
        exact⟨rfl,HEND.out _ (HBR.out.trans ⟨rfl,rfl,rfl,Nat.le_refl _,fun _ _=>rfl⟩)⟩
       have e1:decide (x < 0)=false:=decide_eq_false hn0
       by_cases hgt:(K.opens.length:Int) < x
       ·have e2:decide ((K.opens.length:Int) < x)=true:=decide_eq_true hgt
        have hvf:v=false:=Aau HV.out (fun h=>by
         rcases h.2.2.2.2.2.2.2 i hlt with h1|⟨j,hj,h1,-⟩ <;> rw[HXX.out]at h1 <;> omega)
        subst hvf
        clear hn0 hgt
        go_wp2_with fail
        go_quiet (fail)
        go_wp2_with fail
        go_ret
        exact⟨rfl,HEND.out _ (HBR.out.trans ⟨rfl,rfl,rfl,Nat.le_refl _,fun _ _=>rfl⟩)⟩
       have e2:decide ((K.opens.length:Int) < x)=false:=decide_eq_false hgt
       by_cases hx0:x=0
       ·have e3:decide (0 < x)=false:=decide_eq_false (by omega)
        have HOKF:=Hd (show FdOk K f i from .inl (by rw[HXX.out];exact hx0))
        clear hn0 hgt hx0
        go_wp2_with fail
        go_quiet (fail)
        go_wp2_with fail
        go_loopw [12,13] (fun nv mv wi=>∃ m:Nat,m<=10/\mv=.int .i64 m/\nv=.int .i64 (cntF f x m:Int)/\Hid (Below w3.heap.size w3 wi)) (fun _ mv _=>10 - (intOf mv).toNat)
        case atStart=>exact⟨0,by omega,rfl,rfl,Hd (HBR.out.trans ⟨rfl,rfl,rfl,Nat.le_refl _,fun _ _=>rfl⟩)⟩
        case round=>
         clear ci ql yl q4 
         obtain⟨m,hm,rfl,rfl,HBI⟩:=hrel
         have HXI:=Hd ((HBI.out.block w.heap.size (by have:=HS3.out;omega)).trans HX3.out)
         have HYI:=Hd ((HBI.out.block (w.heap.size+1) (by have:=HS3.out;omega)).trans HY3.out)
         have ci:=(bC HYI.out i).trans (Ajd f i hlt)
         rw[HXX.out]at ci
         have q4:=bC HXI.out 4
         have ql:=lt_of_block HXI.out
         have yl:=lt_of_block HYI.out
         by_cases hlm:m < 10
         ·obtain⟨y,hy⟩:∃ y,fdA f m=y:=⟨_,rfl⟩
          have cm:=(bC HYI.out m).trans (Ajd f m hlm)
          rw[hy]at cm
          have c1:(0:Int)<=(m:Int):=by omega
          have c2:(m:Int) < 10:=by omega
          have hwm:IntKind.i64.wrap ((m:Int)+1)=(m:Int)+1:=by rw[IntKind.wrap_i64];omega
          have hnx:=Ama f HF.out x m hlm
          rw[hy]at hnx
          have hle:=Asl f x m
          obtain⟨c,hc⟩:∃ c,cntF f x m=c:=⟨_,rfl⟩
          rw[hc]at hnx hle ⊢
          have hwc:IntKind.i64.wrap ((c:Int)+1)=(c:Int)+1:=by rw[IntKind.wrap_i64];omega
          have HNX:=Hd hnx
          clear hy hnx hle hc
          by_cases hyx:y=x
          ·have d1:(y == x)=true:=by rw[beq_iff_eq];exact hyx
           have HYX:=Hd hyx
           clear hyx
           go_wp2_with fail
           go_quiet (fail)
           go_wp2_with fail
           go_roundw
           case rel=>exact⟨m+1,by omega,by go_num,by rw[HNX.out,if_pos HYX.out];simp,Hd (HBI.out.trans ⟨rfl,rfl,rfl,Nat.le_refl _,fun _ _=>rfl⟩)⟩
           case measure=>simp[intOf] <;> omega
          ·have d1:(y == x)=false:=by rw[beq_eq_false_iff_ne];exact hyx
           have HYX:=Hd hyx
           clear hyx
           go_wp2_with fail
           go_quiet (fail)
           go_wp2_with fail
           go_roundw
           case rel=>exact⟨m+1,by omega,by go_num,by rw[HNX.out,if_neg HYX.out];simp,Hd (HBI.out.trans ⟨rfl,rfl,rfl,Nat.le_refl _,fun _ _=>rfl⟩)⟩
           case measure=>simp[intOf] <;> omega
         ·have hme:m=10:=by omega
          subst hme
          have hca:=Apd f HF.out x
          obtain⟨c,hc⟩:∃ c,cntF f x 10=c:=⟨_,rfl⟩
          rw[hc]at hca ⊢
          have HCA:=Hd hca
          clear hc hca
          go_wp2_with fail
          go_quiet (fail)
          go_wp2_with fail
          go_roundw
          case rel=>exact⟨i+1,by omega,by go_num,Hd (fun q hq=>by
           by_cases e:q=i
           ·subst e;exact HOKF.out
           ·exact HFO.out q (by omega)),Hd (HBI.out.trans ⟨rfl,rfl,rfl,Nat.le_refl _,fun _ _=>rfl⟩)⟩
          case measure=>simp[intOf] <;> omega
       obtain⟨j,hj⟩:∃ j:Nat,x=(j:Int)+1:=⟨(x - 1).toNat,by omega⟩
       have hjl:j < K.opens.length:=by omega
       have e3:decide (0 < x)=true:=decide_eq_true (by omega)
       have hwx:IntKind.i64.wrap (x - 1)=(j:Int):=by rw[IntKind.wrap_i64];have:=HLIM.out.2.1;omega
       obtain⟨bx,ox,hax,x0,x1,x2,x3,x4⟩:=HKR.out.opens.opn j hjl
       have HAX:=Hd hax
       rw[hax]at q4
       have b3:(0:Int)<=(j:Int):=by omega
       have b4:(j:Int) < (K.opens.length:Int):=by omega
       obtain⟨kd,hkd⟩:∃ k,K.opens[j].kind=k:=⟨_,rfl⟩
       obtain⟨rf,hrf⟩:∃ k,K.opens[j].refs=k:=⟨_,rfl⟩
       rw[hkd]at x0
       rw[hrf]at x4
       have HKD:=Hd hkd
       have HRFS:=Hd hrf
       have HXJ:=Hd hj
       clear hax hkd hrf hn0 hgt hx0 x1 x2 x3
       by_cases hk0:kd=0
       ·have e4:(kd == 0)=true:=by rw[beq_iff_eq];exact hk0
        have hvf:v=false:=Aau HV.out (fun h=>by
         rcases h.2.2.2.2.2.2.2 i hlt with h1|⟨j',hj',h1,h2,-⟩
         ·rw[HXX.out]at h1;omega
         ·rw[HXX.out]at h1
          obtain rfl:j=j':=by omega
          exact h2 (HKD.out.trans hk0))
        subst hvf
        clear hk0 hj
        go_wp2_with fail
        go_quiet (fail)
        go_wp2_with fail
        go_ret
        exact⟨rfl,HEND.out _ (HBR.out.trans ⟨rfl,rfl,rfl,Nat.le_refl _,fun _ _=>rfl⟩)⟩
       have e4:(kd == 0)=false:=by rw[beq_eq_false_iff_ne];exact hk0
       have HK0:=Hd hk0
       clear hk0 hj
       go_wp2_with fail
       go_quiet (fail)
       go_wp2_with fail
       go_loopw [12,13] (fun nv mv wi=>∃ m:Nat,m<=10/\mv=.int .i64 m/\nv=.int .i64 (cntF f x m:Int)/\Hid (Below w3.heap.size w3 wi)) (fun _ mv _=>10 - (intOf mv).toNat)
       case atStart=>exact⟨0,by omega,rfl,rfl,Hd (HBR.out.trans ⟨rfl,rfl,rfl,Nat.le_refl _,fun _ _=>rfl⟩)⟩
       case round=>
        clear ci ql yl q4 x0 x4
        obtain⟨m,hm,rfl,rfl,HBI⟩:=hrel
        have HXI:=Hd ((HBI.out.block w.heap.size (by have:=HS3.out;omega)).trans HX3.out)
        have HYI:=Hd ((HBI.out.block (w.heap.size+1) (by have:=HS3.out;omega)).trans HY3.out)
        have ci:=(bC HYI.out i).trans (Ajd f i hlt)
        rw[HXX.out]at ci
        have q4:=bC HXI.out 4
        have ql:=lt_of_block HXI.out
        have yl:=lt_of_block HYI.out
        by_cases hlm:m < 10
        ·obtain⟨y,hy⟩:∃ y,fdA f m=y:=⟨_,rfl⟩
         have cm:=(bC HYI.out m).trans (Ajd f m hlm)
         rw[hy]at cm
         have c1:(0:Int)<=(m:Int):=by omega
         have c2:(m:Int) < 10:=by omega
         have hwm:IntKind.i64.wrap ((m:Int)+1)=(m:Int)+1:=by rw[IntKind.wrap_i64];omega
         have hnx:=Ama f HF.out x m hlm
         rw[hy]at hnx
         have hle:=Asl f x m
         obtain⟨c,hc⟩:∃ c,cntF f x m=c:=⟨_,rfl⟩
         rw[hc]at hnx hle ⊢
         have hwc:IntKind.i64.wrap ((c:Int)+1)=(c:Int)+1:=by rw[IntKind.wrap_i64];omega
         have HNX:=Hd hnx
         clear hy hnx hle hc
         by_cases hyx:y=x
         ·have d1:(y == x)=true:=by rw[beq_iff_eq];exact hyx
          have HYX:=Hd hyx
          clear hyx
          go_wp2_with fail
          go_quiet (fail)
          go_wp2_with fail
          go_roundw
          case rel=>exact⟨m+1,by omega,by go_num,by rw[HNX.out,if_pos HYX.out];simp,Hd (HBI.out.trans ⟨rfl,rfl,rfl,Nat.le_refl _,fun _ _=>rfl⟩)⟩
          case measure=>simp[intOf] <;> omega
         ·have d1:(y == x)=false:=by rw[beq_eq_false_iff_ne];exact hyx
          have HYX:=Hd hyx
          clear hyx
          go_wp2_with fail
          go_quiet (fail)
          go_wp2_with fail
          go_roundw
          case rel=>exact⟨m+1,by omega,by go_num,by rw[HNX.out,if_neg HYX.out];simp,Hd (HBI.out.trans ⟨rfl,rfl,rfl,Nat.le_refl _,fun _ _=>rfl⟩)⟩
          case measure=>simp[intOf] <;> omega
        ·have hme:m=10:=by omega
         subst hme
         have hca:=Apd f HF.out x
         obtain⟨c,hc⟩:∃ c,cntF f x 10=c:=⟨_,rfl⟩
         rw[hc]at hca ⊢
         have HCA:=Hd hca
         clear hc hca
         obtain⟨bx',ox',hax',x0,x1,x2,x3,x4⟩:=(HK3.out.below HBI.out).opens.opn j hjl
         rw[hax']at q4
         rw[HRFS.out]at x4
         clear hax' x0 x1 x2 x3
         by_cases hrl:rf < (c:Int)
         ·have d1:decide (rf < (c:Int))=true:=decide_eq_true hrl
          have hvf:v=false:=Aau HV.out (fun h=>by
           rcases h.2.2.2.2.2.2.2 i hlt with h1|⟨j',hj',h1,h2,h3⟩
           ·rw[HXX.out,HXJ.out]at h1;omega
           ·rw[HXX.out]at h1 h3
            have e9:=HXJ.out
            obtain rfl:j=j':=by omega
            rw[HRFS.out,<-HCA.out]at h3
            omega)
          subst hvf
          clear hrl
          go_wp2_with fail
          go_quiet (fail)
          go_wp2_with fail
          go_ret
          exact⟨rfl,HEND.out _ (HBI.out.trans ⟨rfl,rfl,rfl,Nat.le_refl _,fun _ _=>rfl⟩)⟩
         ·have d1:decide (rf < (c:Int))=false:=decide_eq_false hrl
          have HOKF:=Hd (show FdOk K f i from .inr ⟨j,hjl,by rw[HXX.out];exact HXJ.out,by rw[HKD.out];exact HK0.out,by rw[HXX.out,HRFS.out,<-HCA.out];omega⟩)
          clear hrl
          go_wp2_with fail
          go_quiet (fail)
          go_wp2_with fail
          go_roundw
          case rel=>exact⟨i+1,by omega,by go_num,Hd (fun q hq=>by
           by_cases e:q=i
           ·subst e;exact HOKF.out
           ·exact HFO.out q (by omega)),Hd (HBI.out.trans ⟨rfl,rfl,rfl,Nat.le_refl _,fun _ _=>rfl⟩)⟩
          case measure=>simp[intOf] <;> omega
      ·have hie:i=10:=by omega
       have hvt:v=true:=HV.out.2 ⟨HFP.out,HLIM.out.1,HLIM.out.2.1,HLIM.out.2.2.1,HLIM.out.2.2.2,HALL.out,HALP.out,fun q hq=>HFO.out q (by omega)⟩
       subst hvt
       clear hie
       go_wp2_with fail
       go_ret
       exact⟨rfl,HEND.out _ HBR.out⟩
end Go.Proofs.YtkdfbliiblojoaaGreatDoor
