import Derived.Test.YtkdfbliiblojoaaGreatDoorK32
set_option linter.all false
set_option maxRecDepth 100000
set_option maxHeartbeats 64000000
namespace Go.Proofs.YtkdfbliiblojoaaGreatDoor
open Go Go.RowKit
def Afu : Ino:=⟨2,7,0,[],[],0⟩
def newT (n:Nat)(b:Int):Tre:=⟨Afu :: List.replicate (n - 1) Ahk,n,b⟩
def Aik : Array Value:=#[.int .i64 0,.int .i64 0,.int .i64 0,.string ⟨#[]⟩,.slice none 0 0,.int .i64 0]
theorem Bbo : (Tryz.prog.info? 66).map (fun i=>(i.zero,i.size,i.bytes))=some (some (.agg Aik),6,72):=by kernel_rfl
theorem Azp (n i j:Nat)(hi:i < n)(hj:j < 6):(madeCells Aik (n * 6))[i * 6+j]?=Aik[j]?:=by
 have hlt:i * 6+j < n * 6:=by omega
 unfold madeCells
 rw[Array.getElem?_map,Array.getElem?_range,if_pos hlt]
 have e:(i * 6+j) % Aik.size=j:=by show (i * 6+j) % 6=j;omega
 simp only[Option.map_some,e]
 match j,hj with
 | 0,_=>rfl
 | 1,_=>rfl
 | 2,_=>rfl
 | 3,_=>rfl
 | 4,_=>rfl
 | 5,_=>rfl
def Az2 : Array Value:=#[.int .i64 2,.int .i64 7,.int .i64 0,.string ⟨#[]⟩,.slice none 0 0,.int .i64 0]
theorem At6 (W:World)(N n:Nat)(h0:1<=n)(hm:n<=256)(h:∀ i j,i < n->j < 6->W.cell? ⟨N,i * 6+j,none⟩=(if i=0 then Az2 else Aik)[j]?):Aad W (some ⟨N,0,none⟩) n (Afu :: List.replicate (n - 1) Ahk):=by
 have hl:(Afu :: List.replicate (n - 1) Ahk).length=n:=by simp;omega
 refine⟨by omega,by unfold maxLen;omega,fun i hi=>⟨N,0,rfl,?_⟩⟩
 rw[hl]at hi
 rw[Nat.zero_add]
 have hnil:∀ (W:World),Abn W (.slice none 0 0) []:=fun W=>⟨none,0,rfl,Nat.le_refl _,Nat.zero_le _,fun i hi=>absurd hi (Nat.not_lt_zero _)⟩
 by_cases hi0:i=0
 ·subst hi0
  have g:∀ j,j < 6->W.cell? ⟨N,0 * 6+j,none⟩=Az2[j]?:=fun j hj=>h 0 j hi hj
  exact⟨g 0 (by decide),g 1 (by decide),g 2 (by decide),g 3 (by decide),⟨_,g 4 (by decide),hnil W⟩,g 5 (by decide)⟩
 ·have g:∀ j,j < 6->W.cell? ⟨N,i * 6+j,none⟩=Aik[j]?:=fun j hj=>by
   have:=h i j hi hj
   rw[if_neg hi0]at this
   exact this
  obtain⟨m,rfl⟩:∃ m,i=m+1:=⟨i - 1,by omega⟩
  have e:(Afu :: List.replicate (n - 1) Ahk)[m+1]'(by rw[hl];exact hi)=Ahk:=by simp
  rw[e]
  exact⟨g 0 (by decide),g 1 (by decide),g 2 (by decide),g 3 (by decide),⟨_,g 4 (by decide),hnil W⟩,g 5 (by decide)⟩
theorem Az6 (A:Array Value)(n:Nat)(h1:1<=n)(hs:A.size=n * 6)(hA:∀ i j,i < n->j < 6->A[i * 6+j]?=Aik[j]?)(i j:Nat)(hi:i < n)(hj:j < 6) :
  ((((((A.setIfInBounds 0 (Value.int .i64 2)).setIfInBounds 1 (Value.int .i64 7)).setIfInBounds 2 (Value.int .i64 0)).setIfInBounds 3 (Value.string ⟨#[]⟩)).setIfInBounds 4 (Value.slice none 0 0)).setIfInBounds 5 (Value.int .i64 0))[i * 6+j]?=(if i=0 then Az2 else Aik)[j]?:=by
 by_cases hi0:i=0
 ·subst hi0
  rw[if_pos rfl,Nat.zero_mul,Nat.zero_add]
  have hs6:6<=A.size:=by omega
  match j,hj with
  | 0,_=>rw[Array.getElem?_setIfInBounds_ne (show (5:Nat)≠0 by decide),Array.getElem?_setIfInBounds_ne (show (4:Nat)≠0 by decide),Array.getElem?_setIfInBounds_ne (show (3:Nat)≠0 by decide),Array.getElem?_setIfInBounds_ne (show (2:Nat)≠0 by decide),Array.getElem?_setIfInBounds_ne (show (1:Nat)≠0 by decide),Array.getElem?_setIfInBounds,if_pos rfl,if_pos (by(try simp only[Array.size_setIfInBounds]);omega)];rfl
  | 1,_=>rw[Array.getElem?_setIfInBounds_ne (show (5:Nat)≠1 by decide),Array.getElem?_setIfInBounds_ne (show (4:Nat)≠1 by decide),Array.getElem?_setIfInBounds_ne (show (3:Nat)≠1 by decide),Array.getElem?_setIfInBounds_ne (show (2:Nat)≠1 by decide),Array.getElem?_setIfInBounds,if_pos rfl,if_pos (by(try simp only[Array.size_setIfInBounds]);omega)];rfl
  | 2,_=>rw[Array.getElem?_setIfInBounds_ne (show (5:Nat)≠2 by decide),Array.getElem?_setIfInBounds_ne (show (4:Nat)≠2 by decide),Array.getElem?_setIfInBounds_ne (show (3:Nat)≠2 by decide),Array.getElem?_setIfInBounds,if_pos rfl,if_pos (by(try simp only[Array.size_setIfInBounds]);omega)];rfl
  | 3,_=>rw[Array.getElem?_setIfInBounds_ne (show (5:Nat)≠3 by decide),Array.getElem?_setIfInBounds_ne (show (4:Nat)≠3 by decide),Array.getElem?_setIfInBounds,if_pos rfl,if_pos (by(try simp only[Array.size_setIfInBounds]);omega)];rfl
  | 4,_=>rw[Array.getElem?_setIfInBounds_ne (show (5:Nat)≠4 by decide),Array.getElem?_setIfInBounds,if_pos rfl,if_pos (by(try simp only[Array.size_setIfInBounds]);omega)];rfl
  | 5,_=>rw[Array.getElem?_setIfInBounds,if_pos rfl,if_pos (by(try simp only[Array.size_setIfInBounds]);omega)];rfl
 ·rw[if_neg hi0,<-hA i j hi hj]
  rw[Array.getElem?_setIfInBounds_ne (show (5:Nat)≠i * 6+j by omega),Array.getElem?_setIfInBounds_ne (show (4:Nat)≠i * 6+j by omega),Array.getElem?_setIfInBounds_ne (show (3:Nat)≠i * 6+j by omega),Array.getElem?_setIfInBounds_ne (show (2:Nat)≠i * 6+j by omega),Array.getElem?_setIfInBounds_ne (show (1:Nat)≠i * 6+j by omega),Array.getElem?_setIfInBounds_ne (show (0:Nat)≠i * 6+j by omega)]
theorem Axt (n:Nat)(b:Int)(h1:1<=n)(h2:n<=256)(h3:0<=b)(h4:b<=65536)(w:World) :
  Calls Tryz.prog 35 #[.int .i64 n,.int .i64 b] w fun e w'=>(∃ v,e=.returned (.tuple #[v,.int .i64 0])/\Bae w' v (newT n b))/\Below w.heap.size w w':=by
 obtain⟨i0,hi,hz0,hz1,hz2⟩:=info_parts Bbo
 have hmk:(Instr.makeSlice 22 (.int .i64 (n:Int)) (.int .i64 (n:Int))).run Tryz.prog (w.alloc (.cells #[.slice none 0 0,.int .i64 0,.int .i64 0] 24)) =
   .ok (.slice (some ⟨w.heap.size+1,0,none⟩) n n) ((w.alloc (.cells #[.slice none 0 0,.int .i64 0,.int .i64 0] 24)).alloc (.cells (madeCells Aik (n * 6)) 66)):=by
  have h:=run_makeSlice (P:=Tryz.prog) (w.alloc (.cells #[.slice none 0 0,.int .i64 0,.int .i64 0] 24)) 22 66 i0 (.agg Aik) Tryz.underlying22 hi hz0 .i64 .i64 (n:Int) (n:Int) (by omega) (Int.le_refl _) (by rw[hz1];simp;omega) (by rw[hz2];omega) (by omega)
  rw[hz1,World.size_alloc,Int.toNat_natCast]at h
  exact h
 have hA:=fun i j hi hj=>Azp n i j hi hj
 have hsz:(madeCells Aik (n * 6)).size=n * 6:=size_madeCells _ _
 generalize madeCells Aik (n * 6)=A at hmk hA hsz
 have a0:A[0]?=some (.int .i64 0):=hA 0 0 (by omega) (by omega)
 have a1:A[1]?=some (.int .i64 0):=hA 0 1 (by omega) (by omega)
 have a2:A[2]?=some (.int .i64 0):=hA 0 2 (by omega) (by omega)
 have a3:A[3]?=some (.string ⟨#[]⟩):=hA 0 3 (by omega) (by omega)
 have a4:A[4]?=some (.slice none 0 0):=hA 0 4 (by omega) (by omega)
 have a5:A[5]?=some (.int .i64 0):=hA 0 5 (by omega) (by omega)
 have HA:=Hd hA
 have HS:=Hd hsz
 clear hA hsz hi hz0 hz1 hz2
 go_enter Tryz.func35,Tryz.ntmps35
 go_wp2_with fail
 refine bodyPost_ret (v:=.tuple #[.agg #[.slice (some ⟨w.heap.size+1,0,none⟩) n n,.int .i64 n,.int .i64 b],.int .i64 0]) (by simp[results,Tryz.results35,go_sem]) rfl ⟨⟨_,rfl,some ⟨w.heap.size+1,0,none⟩,n,?_,?_⟩,?_⟩
 ·have hl:(newT n b).nodes.length=n:=by show (Afu :: List.replicate (n - 1) Ahk).length=n;simp;omega
  rw[hl]
  rfl
 ·refine At6 _ _ n h1 h2 (fun i j hi hj=>?_)
  rw[<-Az6 A n h1 HS.out HA.out i j hi hj]
  have e:(w.alloc (.cells #[.slice (some ⟨w.heap.size+1,0,none⟩) n n,.int .i64 n,.int .i64 b] 24)).heap.size=w.heap.size+1:=by simp
  simp only[World.cell?]
  rw[Below.heap_alloc _ _ _ (by simp)]
  have hb:=Aag (w.alloc (.cells #[.slice (some ⟨w.heap.size+1,0,none⟩) n n,.int .i64 n,.int .i64 b] 24)) (.cells ((((((A.setIfInBounds 0 (Value.int .i64 2)).setIfInBounds 1 (Value.int .i64 7)).setIfInBounds 2 (Value.int .i64 0)).setIfInBounds 3 (Value.string ⟨#[]⟩)).setIfInBounds 4 (Value.slice none 0 0)).setIfInBounds 5 (Value.int .i64 0)) 66)
  rw[e]at hb
  rw[hb]
  rfl
 ·exact((Aab w _).alloc (by simp) _).alloc (by simp;omega) _
theorem Azt {n:Nat}(b:Int)(h:1<=n):(newT n b).nodes.length=n:=by show (Afu :: List.replicate (n - 1) Ahk).length=n;simp;omega
theorem Am2 {n:Nat}(b:Int)(k:Nat)(hk:k < (newT n b).nodes.length):(newT n b).nodes[k]=if k=0 then Afu else Ahk:=by
 cases k with
 | zero=>rfl
 | succ k=>
  rw[if_neg (by omega)]
  have e:∀ (M:List Ino) (h:k+1 < M.length),M=Afu :: List.replicate (n - 1) Ahk->M[k+1]=Ahk:=by
   intro M h hM
   subst hM
   simp
  exact e _ hk rfl
theorem All {n:Nat}(b:Int)(k:Nat)(hk:k < (newT n b).nodes.length):(newT n b).nodes[k].kids=[]:=by
 rw[Am2]
 split <;> rfl
theorem Arf (n:Nat)(b:Int):Abi (newT n b).nodes=[]:=by
 unfold Abi
 rw[List.flatMap_eq_nil_iff]
 intro x hx
 obtain⟨k,hk,rfl⟩:=List.getElem_of_mem hx
 exact All b k hk
theorem Aqg : ∀ n:Nat,Ahu (List.replicate n Ahk)=0/\Aax (List.replicate n Ahk)=0
 | 0=>⟨rfl,rfl⟩
 | n+1=>by
  have h:=Aqg n
  rw[List.replicate_succ]
  exact⟨by simp only[Ahu,h.1];rfl,by simp only[Aax,h.2];rfl⟩
theorem At7 (n:Nat)(b:Int):Aax (newT n b).nodes=0:=by
 show Aax (Afu :: List.replicate (n - 1) Ahk)=0
 simp only[Aax,(Aqg (n - 1)).2]
 rfl
theorem At5 {n:Nat}{b:Int}(h1:1<=n)(h2:n<=256)(h3:0<=b)(h4:b<=65536):FitP (newT n b).nodes (n:Int) b:=by
 have hl:=Azt b h1
 have hI:Aef (newT n b).nodes:=fun k hk=>by
  rw[All]
  refine⟨?_,Nat.zero_le _,fun i hi=>absurd hi (Nat.not_lt_zero _)⟩
  rw[Am2]
  split <;> rfl
 have hdir:∀ k (hk:k < (newT n b).nodes.length),dirB (newT n b).nodes (k:Int)=true->k=0:=fun k hk hd=>by
  have h5:=(Acs hk).1 hd
  rw[Am2]at h5
  by_cases e:k=0
  ·exact e
  ·rw[if_neg e]at h5
   cases h5
 refine⟨⟨by omega,by omega,by omega,by rw[At7];omega,h4⟩,?_,rfl,hI,⟨fun d hd e he=>?_,fun k hk=>?_⟩,fun k hk hd=>?_⟩
 ·exact(Acs (L:=(newT n b).nodes) (n:=0) (by omega)).2 rfl
 ·rw[All]at he
  cases he
 ·have hc:(Aeh (newT n b).nodes)[k]'(by rw[Ab1];exact hk)=0:=by
   rw[Acq _ (Ad2 (Acr hI)) k hk,Arf]
   rfl
  rw[hc]
  refine⟨by rw[Am2];split <;> rfl,?_⟩
  unfold Aed
  rw[if_pos]
  rw[Am2]
  by_cases e:k=0
  ·exact Or.inl (by omega)
  ·rw[if_neg e]
   exact Or.inr rfl
 ·have e:=hdir k hk hd
  subst e
  rw[hl]
  obtain⟨t,rfl⟩:∃ t,n=t+1:=⟨n - 1,by omega⟩
  rfl
theorem Am8 (k:Int)(hk:k<=1000000)(Z:ByteArray)(hZ:Z=⟨(List.replicate k.toNat (0:UInt8)).toArray⟩)(w:World):Calls Tryz.prog 113 #[.int .i64 k] w fun e w'=>e=.returned (.string Z)/\Below w.heap.size w w':=by
 subst hZ
 exact Az5 k hk w
theorem Axz (l:List UInt8):(⟨l.toArray⟩:ByteArray).size=l.length:=by simp[ByteArray.size]
theorem Avs (a b:ByteArray):(a ++ b).data.toList=a.data.toList ++ b.data.toList:=by simp
theorem Bbv (a:Option Addr)(cap:Nat)(m b ino n:Int)(L:List Ino)(hF:FitP L m b)(L':List Ino)(er:Int)(hz:cutW L b ino n=(L',er))(w:World)(hN:Aad w a cap L) :
  Calls Tryz.prog 87 #[.agg #[.slice a L.length cap,.int .i64 m,.int .i64 b],.int .i64 ino,.int .i64 n] w (Akc w m b L' [.int .i64 er]):=by
 obtain⟨w2,hw2,hb2,hs2,hA,hB⟩:=Aan w #[.slice a L.length cap,.int .i64 m,.int .i64 b] #[.slice none 0 0,.int .i64 0,.int .i64 0] 24 24
 have HX:=Hd (show ∀ W,Below w2.heap.size w2 W->W.heap[w.heap.size+1]?=some (.cells #[.slice none 0 0,.int .i64 0,.int .i64 0] 24 (0,0))/\W.cell? ⟨w.heap.size,0,none⟩=some (.slice a L.length cap)/\W.cell? ⟨w.heap.size,1,none⟩=some (.int .i64 m)/\W.cell? ⟨w.heap.size,2,none⟩=some (.int .i64 b)from fun W hW=>by
  have h:=(hW.block w.heap.size (by omega)).trans hA
  exact⟨(hW.block _ (by omega)).trans hB,bC h 0,bC h 1,bC h 2⟩)
 have HM:=Hd (show ∀ W,Below w2.heap.size w2 W->Aad W a cap L from fun W hW=>hN.below (hb2.trans (hW.mono (by omega))))
 have HB2:=Hd hb2
 have HF:=Hd hF
 have hz2:=hz
 unfold cutW at hz2
 obtain⟨rf,hrf⟩:∃ v,Adj L ino=v:=⟨_,rfl⟩
 rw[hrf]at hz2
 have HRF:=Hd hrf
 clear hz hN hb2 hA hB hF hrf
 obtain⟨hRx,q0,q1,q2⟩:=HX.out _ (Below.refl _ _)
 have HRX:=Hd hRx
 have hq:=Aaf q0
 have r0:=bC hRx 0
 have r1:=bC hRx 1
 have r2:=bC hRx 2
 have s0:=bF hRx 0
 have s1:=bF hRx 1
 have s2:=bF hRx 2
 have hrl:=lt_of_block hRx
 clear hRx
 rw[hw2]at r0 r1 r2 s0 s1 s2 hrl q0 q1 q2 hq
 go_enter Tryz.func87,Tryz.ntmps87
 go_wp2_with fail
 rw[<-hw2]
 clear HRX r0 r1 r2 s0 s1 s2 hrl q0 q1 q2 hq
 clear hw2
 refine(Bbb _ _ _ _ _ L rf HRF.out _ (HM.out _ (Below.refl _ _))).mono ?_
 rintro e w3 ⟨rfl,hb3⟩
 have HB3:=Hd hb3
 have hs3:=hb3.size
 clear hb3
 obtain⟨hRx,q0,q1,q2⟩:=HX.out _ HB3.out
 have HRX:=Hd hRx
 have hq:=Aaf q0
 have r0:=bC hRx 0
 have r1:=bC hRx 1
 have r2:=bC hRx 2
 have s0:=bF hRx 0
 have s1:=bF hRx 1
 have s2:=bF hRx 2
 have hrl:=lt_of_block hRx
 clear hRx
 by_cases h0:rf=0
 ·subst h0
  rw[if_neg (by simp)]at hz2
  by_cases h1:n < 0
  ·rw[if_pos h1]at hz2
   simp only[Prod.mk.injEq]at hz2
   obtain⟨rfl,rfl⟩:=hz2
   go_wp2_with fail
   change bodyPost _ _ _ _ _ (put3 w3 (w.heap.size+1) (.slice a L.length cap) (.int .i64 m) (.int .i64 b))
   obtain⟨c0,c1,c2⟩:=Aam HRX.out (.slice a L.length cap) (.int .i64 m) (.int .i64 b)
   exact bodyPost_ret (v:=.tuple #[.agg #[.slice a L.length cap,.int .i64 m,.int .i64 b],.int .i64 22]) (by simp[results,Tryz.results87,go_sem,c0,c1,c2]) rfl ⟨⟨_,_,rfl,Adg (HM.out _ HB3.out) HRX.out _ _ _⟩,Aao (HB2.out.trans (HB3.out.mono (by omega))) (by omega) _ _ _⟩
  rw[if_neg h1]at hz2
  by_cases h2:65536 < n
  ·rw[if_pos h2]at hz2
   simp only[Prod.mk.injEq]at hz2
   obtain⟨rfl,rfl⟩:=hz2
   go_wp2_with fail
   change bodyPost _ _ _ _ _ (put3 w3 (w.heap.size+1) (.slice a L.length cap) (.int .i64 m) (.int .i64 b))
   obtain⟨c0,c1,c2⟩:=Aam HRX.out (.slice a L.length cap) (.int .i64 m) (.int .i64 b)
   exact bodyPost_ret (v:=.tuple #[.agg #[.slice a L.length cap,.int .i64 m,.int .i64 b],.int .i64 27]) (by simp[results,Tryz.results87,go_sem,c0,c1,c2]) rfl ⟨⟨_,_,rfl,Adg (HM.out _ HB3.out) HRX.out _ _ _⟩,Aao (HB2.out.trans (HB3.out.mono (by omega))) (by omega) _ _ _⟩
  rw[if_neg h2]at hz2
  obtain⟨n1,rfl⟩:∃ n1:Nat,n=(n1:Int):=⟨n.toNat,by omega⟩
  obtain⟨k,hk,rfl,-⟩:=Ahy HRF.out
  have hk0:(0:Int)<=(k:Int):=by omega
  have hk1:(k:Int) < (L.length:Int):=by omega
  rw[Aae L k hk,Int.toNat_natCast,Int.toNat_natCast]at hz2
  obtain⟨bb,o,ha,hx⟩:=(HM.out _ HB3.out).2.2 k hk
  subst ha
  have x3:=hx.data
  have hxl:=Aaf x3
  obtain⟨D,hD⟩:∃ D:ByteArray,D=⟨L[k].data.toArray⟩:=⟨_,rfl⟩
  have hDs:D.size=L[k].data.length:=by rw[hD];simp[ByteArray.size]
  have hDl:D.data.toList=L[k].data:=by rw[hD]
  have hDb:D.size<=65536:=by rw[hDs];exact Ag9 HF.out hk
  rw[<-hD]at x3
  have HDS:=Hd hDs
  have HDT:=Hd hDl
  clear hx hD hDs hDl
  by_cases h3:n1<=D.size
  ·have h3i:(n1:Int)<=(D.size:Int):=by omega
   obtain⟨E1,hE1⟩:∃ E:ByteArray,E=⟨(D.data.toList.take n1).toArray⟩:=⟨_,rfl⟩
   have c1:=fun W=>Aiy D (n1:Int) n1 rfl (by omega) W
   rw[<-hE1]at c1
   have hEl:E1.data.toList=cutL L[k].data n1:=by
    rw[hE1,HDT.out]
    unfold cutL
    rw[show n1 - L[k].data.length=0 by rw[<-HDS.out];omega]
    simp
   have hEs:E1.size<=1000000:=by
    have:E1.size=(cutL L[k].data n1).length:=by rw[<-hEl];exact Array.length_toList.symm
    rw[this,Aga]
    omega
   rw[<-hEl]at hz2
   have HZ2:=Hd hz2
   clear hE1 hEl hz2
   have HFILL:=Hd (show ∀ W,Below w3.heap.size w3 W->Calls Tryz.prog 114 #[.agg #[.slice (some ⟨bb,o,none⟩) L.length cap,.int .i64 m,.int .i64 b],.int .i64 k,.string E1] W fun e w'=>∃ a' cap',e=.returned (.tuple #[.agg #[.slice a' L'.length cap',.int .i64 m,.int .i64 b],.int .i64 er])/\Aad w' a' cap' L'/\Below w2.heap.size w2 w' from fun W hW=>by
    have hs:=((HB3.out).trans (hW.mono (HB3.out).size)).size
    refine(Ap7 _ cap m b k E1 hEs L HF.out hk L' er HZ2.out W (HM.out W ((HB3.out).trans (hW.mono (HB3.out).size)))).mono fun e w' h=>?_
    obtain⟨⟨a',cap',h1,h2⟩,h3⟩:=h
    exact⟨a',cap',h1,h2,((HB3.out).trans (hW.mono (HB3.out).size)).trans (h3.mono hs)⟩)
   clear hEs
   go_wp2_with fail
   go_region_with (first|(go_at_call 114;refine(HFILL.out _ ?_).mono ?_;(exact⟨rfl,rfl,rfl,Nat.le_refl _,fun _ _=>rfl⟩);rintro e w7 ⟨a',cap',rfl,hN7,hb7⟩;have HB7:=Hd hb7;have HN7:=Hd hN7;have HRX:=Hd (HX.out _ hb7).1;have r0:=bC HRX.out 0;have r1:=bC HRX.out 1;have r2:=bC HRX.out 2;have s0:=bF HRX.out 0;have s1:=bF HRX.out 1;have s2:=bF HRX.out 2;have hrl:=lt_of_block HRX.out;clear hN7 hb7))
   all_goals
    go_wp2_with fail
    change bodyPost _ _ _ _ _ (put3 w7 (w.heap.size+1) (.slice a' L'.length cap') (.int .i64 m) (.int .i64 b))
    obtain⟨c0,c1,c2⟩:=Aam HRX.out (.slice a' L'.length cap') (.int .i64 m) (.int .i64 b)
    exact bodyPost_ret (v:=.tuple #[.agg #[.slice a' L'.length cap',.int .i64 m,.int .i64 b],.int .i64 er]) (by simp[results,Tryz.results87,go_sem,c0,c1,c2]) rfl ⟨⟨_,_,rfl,Adg HN7.out HRX.out _ _ _⟩,Aao (HB2.out.trans (HB7.out.mono (by omega))) (by omega) _ _ _⟩
  ·have h3i:¬ (n1:Int)<=(D.size:Int):=by omega
   obtain⟨Z,hZ⟩:∃ Z:ByteArray,Z=⟨(List.replicate ((n1:Int) - (D.size:Int)).toNat (0:UInt8)).toArray⟩:=⟨_,rfl⟩
   have hZs:Z.size=n1 - D.size:=by rw[hZ,Axz,List.length_replicate];omega
   have hEl:(D ++ Z).data.toList=cutL L[k].data n1:=by
    rw[Avs,hZ,HDT.out]
    unfold cutL
    rw[List.take_of_length_le (by rw[<-HDS.out];omega),show ((n1:Int) - (D.size:Int)).toNat=n1 - L[k].data.length by rw[<-HDS.out];omega]
   have hEs:(D ++ Z).size<=1000000:=by
    have:(D ++ Z).size=(cutL L[k].data n1).length:=by rw[<-hEl];exact Array.length_toList.symm
    rw[this,Aga]
    omega
   rw[<-hEl]at hz2
   have HZ2:=Hd hz2
   have HZE:=Hd hZ
   have HZS:=Hd hZs
   have hwr:IntKind.i64.wrap ((n1:Int) - (D.size:Int))=(n1:Int) - (D.size:Int):=by rw[IntKind.wrap_i64];omega
   have hsum:¬ 9223372036854775807 < D.size+Z.size:=by omega
   have HES:=Hd hEs
   clear hZ hEl hz2 hZs hEs
   have HZERO:=Hd (show ∀ W,Below w3.heap.size w3 W->Calls Tryz.prog 113 #[.int .i64 ((n1:Int) - (D.size:Int))] W fun e w'=>e=.returned (.string Z)/\Below w3.heap.size w3 w' from fun W hW=>
    (Am8 _ (by omega) Z HZE.out W).mono fun e w' h=>⟨h.1,hW.trans (h.2.mono hW.size)⟩)
   have HFILL:=Hd (show ∀ W,Below w3.heap.size w3 W->Calls Tryz.prog 114 #[.agg #[.slice (some ⟨bb,o,none⟩) L.length cap,.int .i64 m,.int .i64 b],.int .i64 k,.string (D ++ Z)] W fun e w'=>∃ a' cap',e=.returned (.tuple #[.agg #[.slice a' L'.length cap',.int .i64 m,.int .i64 b],.int .i64 er])/\Aad w' a' cap' L'/\Below w2.heap.size w2 w' from fun W hW=>by
    have hs:=((HB3.out).trans (hW.mono (HB3.out).size)).size
    refine(Ap7 _ cap m b k (D ++ Z) HES.out L HF.out hk L' er HZ2.out W (HM.out W ((HB3.out).trans (hW.mono (HB3.out).size)))).mono fun e w' h=>?_
    obtain⟨⟨a',cap',h1,h2⟩,h3⟩:=h
    exact⟨a',cap',h1,h2,((HB3.out).trans (hW.mono (HB3.out).size)).trans (h3.mono hs)⟩)
   have HX3:=Hd (show ∀ W,Below w3.heap.size w3 W->W.cell? ⟨w.heap.size,0,none⟩=some (.slice (some ⟨bb,o,none⟩) L.length cap)/\W.cell? ⟨w.heap.size,1,none⟩=some (.int .i64 m)/\W.cell? ⟨w.heap.size,2,none⟩=some (.int .i64 b)from fun W hW=>(HX.out W (HB3.out.trans (hW.mono hs3))).2)
   go_wp2_with fail
   go_region_with (first|(go_at_call 113;refine(HZERO.out _ ?_).mono ?_;(exact⟨rfl,rfl,rfl,Nat.le_refl _,fun _ _=>rfl⟩);rintro e w5 ⟨rfl,hb5⟩;have HB5:Hid (Below w3.heap.size w3 w5):=Hd ⟨hb5.os,hb5.tape,hb5.output,hb5.size,hb5.block⟩;obtain⟨q0,q1,q2⟩:=HX3.out _ HB5.out;have hq:=Aaf q0;clear hb5)|(go_at_call 114;refine(HFILL.out _ ?_).mono ?_;(exact HB5.out);rintro e w7 ⟨a',cap',rfl,hN7,hb7⟩;have HB7:=Hd hb7;have HN7:=Hd hN7;have HRX:=Hd (HX.out _ hb7).1;have r0:=bC HRX.out 0;have r1:=bC HRX.out 1;have r2:=bC HRX.out 2;have s0:=bF HRX.out 0;have s1:=bF HRX.out 1;have s2:=bF HRX.out 2;have hrl:=lt_of_block HRX.out;clear hN7 hb7))
   all_goals
    go_wp2_with fail
    change bodyPost _ _ _ _ _ (put3 w7 (w.heap.size+1) (.slice a' L'.length cap') (.int .i64 m) (.int .i64 b))
    obtain⟨c0,c1,c2⟩:=Aam HRX.out (.slice a' L'.length cap') (.int .i64 m) (.int .i64 b)
    exact bodyPost_ret (v:=.tuple #[.agg #[.slice a' L'.length cap',.int .i64 m,.int .i64 b],.int .i64 er]) (by simp[results,Tryz.results87,go_sem,c0,c1,c2]) rfl ⟨⟨_,_,rfl,Adg HN7.out HRX.out _ _ _⟩,Aao (HB2.out.trans (HB7.out.mono (by omega))) (by omega) _ _ _⟩
 ·rw[if_pos h0]at hz2
  have h0b:(rf != 0)=true:=by simpa using h0
  simp only[Prod.mk.injEq]at hz2
  obtain⟨rfl,rfl⟩:=hz2
  go_wp2_with fail
  change bodyPost _ _ _ _ _ (put3 w3 (w.heap.size+1) (.slice a L.length cap) (.int .i64 m) (.int .i64 b))
  obtain⟨c0,c1,c2⟩:=Aam HRX.out (.slice a L.length cap) (.int .i64 m) (.int .i64 b)
  exact bodyPost_ret (v:=.tuple #[.agg #[.slice a L.length cap,.int .i64 m,.int .i64 b],.int .i64 rf]) (by simp[results,Tryz.results87,go_sem,c0,c1,c2]) rfl ⟨⟨_,_,rfl,Adg (HM.out _ HB3.out) HRX.out _ _ _⟩,Aao (HB2.out.trans (HB3.out.mono (by omega))) (by omega) _ _ _⟩
end Go.Proofs.YtkdfbliiblojoaaGreatDoor
