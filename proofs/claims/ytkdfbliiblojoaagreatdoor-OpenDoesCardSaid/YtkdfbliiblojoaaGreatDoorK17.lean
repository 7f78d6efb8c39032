import Derived.OrdersIn
import Derived.Orders
import Derived.Deep.Quiet
import Derived.OrdersHeld
import Derived.Scope
import Derived.WalkMore
import Derived.Test.YtkdfbliiblojoaaGreatDoorK14
import Derived.Test.YtkdfbliiblojoaaGreatDoorK8
import Derived.Test.YtkdfbliiblojoaaGreatDoorK16
set_option linter.all false
set_option maxRecDepth 100000
set_option maxHeartbeats 64000000
namespace Go.Proofs.YtkdfbliiblojoaaGreatDoor
open Go Go.RowKit
def Ahj (ops:Array Oper):Bool:=ops.toList.all fun o=>match o.op with|.defer _=>false|_=>true
theorem Alm {ops:Array Oper}(h:Ahj ops=true){i:Nat}{o:Oper}(ho:ops[i]?=some o):∀ c,o.op≠.defer c:=by
 intro c hc
 have h1:=List.all_eq_true.1 h o (by
  obtain⟨hi,rfl⟩:=Array.getElem?_eq_some_iff.1 ho
  simp)
 rw[hc]at h1
 cases h1
def Aue (K:Act->World->Prop)(e:Exit)(a:Act)(w:World):Prop:=e=.normal/\K a w
theorem Azu {ro:Option Nat}{n:Nat}{P:Program}{o:Oper}{a:Act}{w:World}{K K' R:Act->World->Prop}{Q:Exit->Act->World->Prop}(hd:∀ c,o.op≠.defer c)
  (h:o.wp P a w K (Aue R)) (hK:∀ a w,K a w->K' a w):o.wpIn { Fence.wide with round:=ro } n P a w K' Q:=by
 refine⟨fun _ _=>trivial,?_⟩
 rw[Oper.semAt_eq _ _ _ hd]
 unfold Oper.wp at h
 generalize (execOp a.eval o).run P w=r at h ⊢
 cases r with
 | ok x w'=>
  cases x with
  | value v=>exact hK _ _ h
  | skip=>exact hK _ _ h
  | defer d=>exact hK _ _ h
  | enter f args=>
   refine⟨fun h0=>(by cases h0),?_⟩
   refine(show CallsIn Fence.wide (n - 1) P f args w' _ from callsIn_wide.2 (Calls.mono h fun e w'' he=>?_))
   cases e with
   | returned v=>exact hK _ _ he
   | panicked c=>exact absurd he.1 (by simp)
   | outgrown=>obtain⟨_,_,h1,_⟩:=he;cases h1
  | row row args=>
   refine⟨fun h0=>(by cases h0),?_⟩
   intro c cs _
   obtain⟨v,w'',hr,hs⟩:=h c cs
   exact⟨v,w'',hK _ _ hr,stepsIn_wide.2 hs⟩
  | _=>exact h.elim
 | halt x w'=>
  cases x with
  | panic v=>exact absurd h.1 (by simp)
  | _=>exact h.elim
theorem Bbu {ro:Option Nat}{n:Nat}{P:Program}{ops:Array Oper}{i:Nat}{a:Act}{w:World}{K K' R:Act->World->Prop}{Q:Exit->Act->World->Prop}(hd:Ahj ops=true)
  (h:wpOp P ops (Aue R) i K a w) (hK:∀ a w,K a w->K' a w):wpOpIn { Fence.wide with round:=ro } n P ops Q i K' a w:=by
 unfold wpOp at h
 unfold wpOpIn
 cases ho:ops[i]? with
 | none=>simp only[ho]at h ⊢;exact hK _ _ h
 | some o=>
  simp only[ho]at h ⊢
  split
  ·rename_i hw
   rw[if_pos hw]at h
   rcases h with h|⟨_,_,_,h1,_⟩
   ·exact Azu (Alm hd ho) h hK
   ·cases h1
  ·rename_i hw
   rw[if_neg hw]at h
   exact⟨fun _ _=>trivial,hK _ _ h⟩
theorem Ax6 {ro:Option Nat}{n:Nat}{P:Program}{md:Region.Mode}{ops:Array Oper}{R:Act->World->Prop}{Q:Exit->Act->World->Prop}(hd:Ahj ops=true)(hQ:∀ a w,R a w->Q .normal a w) :
  ∀ (fuel:Nat) (listed:Array Bool) (a:Act) (w:World),wpAny P md ops (Aue R) fuel listed a w->wpAnyIn { Fence.wide with round:=ro } n P md ops Q fuel listed a w
 | 0,_,_,_,h=>⟨h.1,hQ _ _ h.2.2⟩
 | fuel+1,_listed,_a,_w,h=>⟨fun h0=>hQ _ _ (h.1 h0).2,fun i hi=>Bbu hd (h.2 i hi) fun a' w' h'=>Ax6 hd hQ fuel _ a' w' h'⟩
theorem Auw {ro:Option Nat}{n:Nat}{P:Program}{id:Nat}{ops:Array Oper}{Q:Exit->Act->World->Prop}{a:Act}{w:World}(hm:P.follows .mixedOrders=true)(hd:Ahj ops=true)
  (h:wpAny P .any ops (Aue (Q .normal)) ops.size (Array.replicate ops.size false) a w.drew):(Code.region id ops true).wpIn { Fence.wide with round:=ro } n P Q a w:=
 wpIn_region_any hm (Ax6 hd (fun _ _ h=>h) _ _ _ _ h)
theorem Acb {ro:Option Nat}{n:Nat}{P:Program}{id:Nat}{ops:Array Oper}{S:World->Prop}{Q:Exit->Act->World->Prop}{a:Act}{w:World}(hm:P.follows .mixedOrders=true)(hd:Ahj ops=true)
  (h:wpAnyH P .any ops (Aue (Q .normal)) S ops.size (Array.replicate ops.size false) a w.drew):(Code.region id ops true).wpIn { Fence.wide with round:=ro } n P Q a w:=
 Auw hm hd (wpAny_of_held _ _ _ _ h)
theorem Ae0 {P:Program}{b:Frame}{a:Act}{k:List Item}{cs:List Frame}{w:World}{c:Code}:step P (lone (b.atR a (.code (.scope c) :: k)) cs w)=.next (lone (b.atR a (.code c :: .inScope c :: k)) cs w):=
 step_lone_go (by simp[stepG,stepG.exec,Frame.atR])
theorem Alw {P:Program}{b:Frame}{a:Act}{k:List Item}{cs:List Frame}{w:World}{c:Code}:step P (lone (b.atR a (.inScope c :: k)) cs w)=.next (lone (b.atR a k) cs w):=
 step_lone_go (by simp[stepG,stepG.exec,Frame.atR])
theorem Axx {F:Fence}{n:Nat}{P:Program}{Q:Exit->Act->World->Prop}{a:Act}{w:World}{c:Code}(hro:F.round=none)(h:c.wpIn F n P (Exit.noGoto Q) a w):(Code.scope c).wpIn F n P Q a w:=by
 intro b k cs hb0 hb hr
 have h0:(lone (b.atR a (.code (.scope c) :: k)) cs w).fenced P F:=fenced_calm hb hr rfl
 have hbn:b.roundOf=none:=hb0.trans hro
 obtain⟨e,a₁,w₁,hq,harr⟩:=h b (.inScope c :: k) cs hb0 hb hr
 cases e with
 | normal=>exact⟨.normal,a₁,w₁,hq,.head h0 Ae0 (StepsIn.trans harr (.one (fenced_calm hb hr rfl) Alw))⟩
 | exit id=>exact⟨.exit id,a₁,w₁,hq,fun k' hk=>.head h0 Ae0 (harr.1 k' (by simp[exitTo,hk])),fun hs=>(by rw[hbn]at hs;cases hs)⟩
 | goto l=>exact hq.elim
 | ret=>exact⟨_,a₁,w₁,hq,.of_steps (.one h0 Ae0) harr⟩
 | panic ch=>exact⟨_,a₁,w₁,hq,.of_steps (.one h0 Ae0) harr⟩
 | outgrown=>exact⟨_,a₁,w₁,hq,.of_steps (.one h0 Ae0) harr⟩
def Bbh {σ:Type}(B:Nat)(T:σ->Prop)(I:σ->World->Prop)(Ix:Code->World->Prop)(W:World):Exit->Act->World->Prop
 | .normal,_,W'=>KeepsFrom B W W'/\∃ s',T s'/\I s' W'
 | .ret,_,W'=>KeepsFrom B W W'/\Ix .ret W'
 | .exit id,_,W'=>KeepsFrom B W W'/\Ix (.exit id) W'
 | .goto t,_,W'=>KeepsFrom B W W'/\Ix (.goto t) W'
 | .panic _,_,_=>False
 | .outgrown,_,_=>False
def Bad {σ:Type}(F:Fence)(n:Nat)(P:Program)(g:Nat)(lb:Array Value)(E:σ->Array Value)(I Ip:σ->World->Prop)(Nx:σ->σ->Prop)(S:World->Prop)(s0:σ):Prop:=
 ∀ (l:Nat) (G Jx:World->Prop) (W:World),(∀ A B,G A->KeepsOthers A B->G B) ->
  (∀ s W1,Ip s W1->G W1->YieldAt F (n - 1) P l (E s) W1 fun e W'=>(e=.returned (.bool true)/\∃ s',Nx s s'/\I s' W'/\G W')∨(e=.returned (.bool false)/\Jx W')) ->
  I s0 W->G W ->
  CallsIn F n P g (#[.func (.yield l) #[] #[]] ++ lb) W fun e W'=>(∃ v,e=.returned v)/\((S W'/\G W')∨Jx W')
theorem Axp {σ:Type}{F:Fence}{n:Nat}{P:Program}{g:Operand}{ps:Array Tmp}{assign body:Code}{Q:Exit->Act->World->Prop}{a:Act}{w:World}
  (hro:F.round=none) (h1:1<=n) {gf:Nat} {lb:Array Value} (hg:a.eval g=.func (.func gf) #[] lb) (hFg:F.fn gf) (eg:∀ args w,(callFunc gf args).run P w=.ok (.enter gf args) w)
  {E:σ->Array Value} {I Ip:σ->World->Prop} {Nx:σ->σ->Prop} {S:World->Prop} {s0:σ} (hseq:Bad F (n - 1) P gf lb E I Ip Nx S s0) (hps:∀ s,(E s).size=ps.size)
  (Ix:Code->World->Prop) (hI:OwnFrom w.heap.size I) (hIp:OwnFrom w.heap.size Ip) (hIx:∀ c,OwnFrom w.heap.size (fun(_:Unit) W=>Ix c W)) (hS:OwnFrom w.heap.size (fun(_:Unit) W=>S W)) (h0:I s0 w) (a₁:σ->Act)
  (hassign:∀ (l:Nat) (s:σ) (W:World) (K:Act->World->Prop),K (a₁ s) W ->
   assign.wpIn (F.inRound l) (n - 1 - 1) P (Exit.then K (fun _ _ _=>False)) { tmps:=(ps.zip (E s)).foldl (fun t (p,v)=>t.setIfInBounds p v) a.tmps,defers:=[] } W)
  (hbody:∀ (l:Nat) (s:σ) (W:World),Ip s W->body.wpIn (F.inRound l) (n - 1 - 1) P (Bbh w.heap.size (Nx s) I Ix W) (a₁ s) W)
  (hdone:∀ (D:Nat) (W:World),w.heap.size<=D->S W->W.heap[D]?=some (.deferred (some []))->Q .normal { a with defers:={ target:=.collected D,args:=#[] } :: a.defers } W)
  (hstop:∀ (D:Nat) (c:Code) (W:World),w.heap.size<=D->Ix c W->W.heap[D]?=some (.deferred (some []))->c.wpIn F n P Q { a with defers:={ target:=.collected D,args:=#[] } :: a.defers } W) :
  (Code.rangeFunc g ps assign body).wpIn F n P Q a w:=by
 refine wpIn_rangeFunc ?_
 intro fn hfn
 rw[hro]
 obtain⟨rc,hrc⟩:∃ rc:LoopState->Option Code->Loop,rc=fun st pe=>{ state:=st,pending:=pe,fn,tmps:=a.tmps,params:=ps,assign,body,defers:=w.heap.size }:=⟨_,rfl⟩
 obtain⟨V,hV⟩:∃ V,V=(w.alloc (.deferred (some []))).alloc (.loop (rc .ready none)):=⟨_,rfl⟩
 have hVl:V.heap[w.heap.size+1]?=some (.loop (rc .ready none)):=by
  have h:=World.alloc_heap_new (w.alloc (.deferred (some []))) (.loop (rc .ready none))
  rw[World.size_alloc,<-hV]at h
  exact h
 have hVk:V.heap[w.heap.size]?=some (.deferred (some [])):=by
  rw[hV]
  exact(Below.heap_alloc _ _ _ (by simp)).trans (World.alloc_heap_new w _)
 have hVI:I s0 V:=by rw[hV];exact hI.alloc _ (hI.alloc _ h0)
 refine⟨w.heap.size+1,[{ target:=.collected w.heap.size,args:=#[] }],V,{ target:=.fn (.func gf) lb,args:=#[.func (.yield (w.heap.size+1)) #[] #[]] },V,gf,#[.func (.yield (w.heap.size+1)) #[] #[]] ++ lb,V,?_,?_,?_,?_,fun _=>h1,?_⟩
 ·rw[hV,hrc]
  exact run_enterLoop_outer _ _ _ _ _
 ·simp only[resolve,hg]
  simp[go_sem]
 ·intro f' hf'
  simp[Target.leads]at hf'
  subst hf'
  exact hFg
 ·simp[invoke,go_sem,eg]
 ·refine(hseq (w.heap.size+1) (fun W=>W.heap[w.heap.size+1]?=some (.loop (rc .ready none))/\W.heap[w.heap.size]?=some (.deferred (some [])))
   (fun W=>∃ c,Ix c W/\W.heap[w.heap.size+1]?=some (.loop (rc .done (some c)))/\W.heap[w.heap.size]?=some (.deferred (some []))) V
   (fun A B h hk=>⟨hk.same _ _ h.1 rfl,hk.same _ _ h.2 rfl⟩) ?_ hVI ⟨hVl,hVk⟩).mono ?_
  ·rintro s W hi ⟨hl,hk⟩
   have hlt:w.heap.size+1 < W.heap.size:=(Array.getElem?_eq_some_iff.1 hl).1
   have hy:=run_yield (P:=P) (args:=E s) hl (by rw[hrc];exact hps s)
   rw[hrc]at hy
   have hbeg:=run_beginRound (P:=P) hl (by rw[hrc])
   refine⟨fn,_,assign,body,hy,roundIn_of_wpIn hfn (hassign _ s W _ ⟨_,hbeg,?_⟩)⟩
   obtain⟨U,hU⟩:∃ U,U=W.putObj (w.heap.size+1) (.loop { rc .ready none with state:=.busy }):=⟨_,rfl⟩
   have hUl:U.heap[w.heap.size+1]?=some (.loop { rc .ready none with state:=.busy }):=by rw[hU];exact World.putObj_heap_same hlt
   have hUk:U.heap[w.heap.size]?=some (.deferred (some [])):=by rw[hU];exact(World.putObj_heap_other (by omega)).trans hk
   have hUI:Ip s U:=by rw[hU];exact hIp.putObj _ hi (by omega) hl rfl
   rw[<-hU]
   have fin:∀ (jump:Option Code) (W3:World),KeepsFrom w.heap.size U W3 ->
     (Instr.endRound (w.heap.size+1) jump).run P W3=.ok (.bool jump.isNone) (W3.putObj (w.heap.size+1) (.loop (rc (if jump.isNone then .ready else .done) jump))) /\
     W3.heap[w.heap.size+1]?=some (.loop { rc .ready none with state:=.busy }) /\
     (W3.putObj (w.heap.size+1) (.loop (rc (if jump.isNone then .ready else .done) jump))).heap[w.heap.size+1]?=some (.loop (rc (if jump.isNone then .ready else .done) jump)) /\
     (W3.putObj (w.heap.size+1) (.loop (rc (if jump.isNone then .ready else .done) jump))).heap[w.heap.size]?=some (.deferred (some [])):=fun jump W3 hk3=>by
    have hl3:=hk3.same _ _ (by omega) hUl rfl
    have:=run_endRound (P:=P) jump hl3
    rw[hrc]at this ⊢
    exact⟨this,by rw[hrc]at hl3;exact hl3,World.putObj_heap_same (Array.getElem?_eq_some_iff.1 hl3).1,(World.putObj_heap_other (by omega)).trans (hk3.same _ _ (Nat.le_refl _) hUk rfl)⟩
   refine wpIn_mono (hbody _ s U hUI) ?_
   rintro e a3 W3 hp
   cases e with
   | normal=>
    obtain⟨hk3,s',hn3,hi3⟩:=hp
    obtain⟨hr,hl3,hl4,hk4⟩:=fin none W3 hk3
    exact⟨_,_,hr,.inl ⟨rfl,s',hn3,hI.putObj _ hi3 (by omega) hl3 rfl,hl4,hk4⟩⟩
   | ret=>
    obtain⟨hk3,hi3⟩:=hp
    obtain⟨hr,hl3,hl4,hk4⟩:=fin (some .ret) W3 hk3
    exact⟨_,_,hr,.inr ⟨rfl,.ret,(hIx _).putObj (s:=()) _ hi3 (by omega) hl3 rfl,hl4,hk4⟩⟩
   | exit id=>
    obtain⟨hk3,hi3⟩:=hp
    obtain⟨hr,hl3,hl4,hk4⟩:=fin (some (.exit id)) W3 hk3
    exact⟨_,_,hr,.inr ⟨rfl,.exit id,(hIx _).putObj (s:=()) _ hi3 (by omega) hl3 rfl,hl4,hk4⟩⟩
   | goto t=>
    obtain⟨hk3,hi3⟩:=hp
    obtain⟨hr,hl3,hl4,hk4⟩:=fin (some (.goto t)) W3 hk3
    exact⟨_,_,hr,.inr ⟨rfl,.goto t,(hIx _).putObj (s:=()) _ hi3 (by omega) hl3 rfl,hl4,hk4⟩⟩
   | panic ch=>exact hp.elim
   | outgrown=>exact hp.elim
  ·rintro e W2 ⟨⟨v,rfl⟩,(⟨hi,hl,hk⟩|⟨c,hi,hl,hk⟩)⟩
   ·exact⟨none,_,by have:=run_endLoop (P:=P) hl (by rw[hrc];simp);rw[hrc]at this;exact this,hdone _ _ (Nat.le_refl _) (hS.putObj (s:=()) _ hi (by omega) hl rfl) ((World.putObj_heap_other (by omega)).trans hk)⟩
   ·exact⟨some c,_,by have:=run_endLoop (P:=P) hl (by rw[hrc];simp);rw[hrc]at this;exact this,hstop _ c _ (Nat.le_refl _) ((hIx c).putObj (s:=()) _ hi (by omega) hl rfl) ((World.putObj_heap_other (by omega)).trans hk)⟩
end Go.Proofs.YtkdfbliiblojoaaGreatDoor
namespace Go.Proofs.YtkdfbliiblojoaaGreatDoor
open Go Go.RowKit Go.Shelf
attribute [local go_sem] Oper.semAt_some
def Ai3 (Bx:Nat)(v:Value)(W W':World):Prop:=W'.heap[Bx]?=W.heap[Bx]?/\∀ k,v.ownBlock=some k->W'.heap[k]?=W.heap[k]?
theorem Atc {Bx:Nat}{v:Value}{A B C:World}(h:Ai3 Bx v A B)(k:Ai3 Bx v B C):Ai3 Bx v A C:=⟨k.1.trans h.1,fun i hi=>(k.2 i hi).trans (h.2 i hi)⟩
theorem Atb {Bx:Nat}{v:Value}{w:World}(hb:Bx < w.heap.size)(hv:∀ k,v.ownBlock=some k->k < w.heap.size)(W:World)(l:Nat)(o o':Obj)(hl:w.heap.size<=l)(_:W.heap[l]?=some o)(_:o.isCells=false)(_:o.isWalk=false):Ai3 Bx v W (W.putObj l o'):=
 ⟨World.putObj_heap_other (by omega),fun k hk=>World.putObj_heap_other (by have:=hv k hk;omega)⟩
theorem Ant (W:World)(m:Nat):W.grownBy (W.drewN m) none:=⟨rfl,rfl,rfl,Nat.le_refl _,fun _ _ _=>rfl⟩
def Ai4 (Bx:Nat)(v:Value)(B:Nat)(N:List (List UInt8))(W:World):Prop:=W.cell? ⟨Bx,0,none⟩=some v/\Held B W v N
theorem Ai4.kept {Bx B:Nat}{v:Value}{N:List (List UInt8)}{W W':World}(h:Ai4 Bx v B N W)(hk:Ai3 Bx v W W'):Ai4 Bx v B N W':=
 ⟨(World.cell?_of_block (w:=W) (a:=⟨Bx,0,none⟩) hk.1).trans h.1,h.2.kept hk.2⟩
theorem Avt (F:Fence)(hF:Open F)(n:Nat)(hn:1<=n)(l Bx B:Nat)(v:Value)(N:List (List UInt8))(hN:N.length<=1048576)(J Jx:List (Nat×List UInt8)->World->Prop)
  (_hdr:∀ pre W m,J pre W->J pre (W.drewN m))
  (hY:∀ pre x W,J pre W->pre.length < N.length->YieldAt F (n - 1) Tryz.prog l #[.int .i64 (x.1:Nat),.string ⟨x.2.toArray⟩] W fun e W'=>
   (e=.returned (.bool true)/\J (pre ++ [x]) W'/\Ai3 Bx v W W')∨(e=.returned (.bool false)/\Jx (pre ++ [x]) W'))
  (W:World) (hR:Ai4 Bx v B N W) (h0:J [] W) :
  CallsIn F n Tryz.prog 191 #[.func (.yield l) #[] #[],.pointer (some ⟨Bx,0,none⟩)] W fun e W'=>(∃ u,e=.returned u) /\
   ((∃ ys,ys.map Prod.snd=N.reverse/\J ys W')∨(∃ pre,True/\Jx pre W')):=by
 have hro:F.round=none:=hF.ro
 obtain⟨hc,hheld⟩:=hR
 obtain⟨na,nc,rfl,hc1,hc2,-⟩:=hheld.view
 have HR:=Hd (show Ai4 Bx (.slice na N.length nc) B N W from⟨hc,hheld⟩)
 unfold maxLen at hc2
 refine callsIn_of_wp Tryz.func191 rfl (hF.fn _) ?_ hro
 simp only[Tryz.ntmps191,List.size_toArray,List.length_cons,List.length_nil,Nat.reduceAdd,Nat.reduceSub,Array.replicate_succ,Array.replicate_zero,List.push_toArray,List.append_toArray,List.nil_append,List.cons_append]
 gi_wp2
 gi_loopw [3] (fun iv wr=>∃ (k:Nat) (D:List (Nat×List UInt8)),k<=N.length/\iv=.int .i64 ((k:Int) - 1)/\Hid (D.map Prod.snd=(N.drop k).reverse)/\D.length+k=N.length/\Hid (J D wr)/\Hid (Ai4 Bx (.slice na N.length nc) B N wr)) (fun iv _=>(intOf iv+1).toNat)
 case atStart=>exact⟨N.length,[],Nat.le_refl _,by go_num,by simp[Hid],by simp,h0,HR.out⟩
 case round=>
  obtain⟨k,D,hk,rfl,hD,hDl,hJ,hrow⟩:=hrel
  have HROW:=Hd hrow.out
  have hcr:=hrow.out.1
  cases k with
  | zero=>
   have hfin:=Hd (show D.map Prod.snd=N.reverse by have:=hD.out;simpa using this)
   clear hcr
   gi_wp2
   go_end0
   exact⟨⟨_,rfl⟩,.inl ⟨D,hfin.out,hJ.out⟩⟩
  | succ k=>
   obtain⟨na',nc',e,-,-,hcell⟩:=HROW.out.2.view
   simp only[Value.slice.injEq]at e
   obtain⟨rfl,-,rfl⟩:=e
   obtain⟨nb,no,rfl,hx⟩:=hcell k (by omega)
   unfold strv at hx
   have hk0:(0:Int)<=(k:Int):=by omega
   have hk1:(k:Int) < (N.length:Int):=by omega
   have hnum:((k+1:Nat):Int) - 1=(k:Int):=by omega
   rw[hnum]
   have HY:=Hd (hY D (k,N[k]) wr hJ.out (by omega))
   have hdrop:=Hd (show (D ++ [(k,N[k])]).map Prod.snd=(N.drop k).reverse by
    rw[List.map_append,hD.out,List.drop_eq_getElem_cons (show k < N.length by omega),List.reverse_cons]
    rfl)
   clear hcell hnum hY hD
   obtain⟨fn,tmps,assign,body,hy,hR⟩:=HY.out
   have hy':(Instr.yield l #[.int .i64 (k:Int),.string ⟨N[k].toArray⟩]).run Tryz.prog wr=.ok (.round l fn tmps assign body) wr:=hy
   clear hy
   gi_wp2
   refine hR.mono ?_
   rintro e W3 (⟨rfl,hJ3,hk3⟩|⟨rfl,hJx3⟩)
   ·have hrow3:=HROW.out.kept hk3
    have hc3:=hrow3.1
    have HR3:=Hd hrow3
    have HJ3:=Hd hJ3
    clear hrow3 hk3 hJ3 hcr hx
    gi_wp2
    go_roundw
    case rel=>exact⟨k,D ++ [(k,N[k])],by omega,by go_num,hdrop,by simp only[List.length_append,List.length_cons,List.length_nil];omega,HJ3,HR3⟩
    case measure=>simp[intOf] <;> omega
   ·have HJX:=Hd hJx3
    clear hJx3 hcr hx
    gi_wp2
    refine bodyPost_ret (results_none rfl _ _ _) rfl ?_
    exact⟨⟨_,rfl⟩,.inr ⟨_,trivial,HJX.out⟩⟩
theorem Asd (F:Fence)(hF:Open F)(n:Nat)(a:Option Addr)(len cap:Nat)(w:World) :
  CallsIn F n Tryz.prog 176 #[.slice a len cap] w fun e w'=>e=.returned (.func (.func 191) #[] #[.pointer (some ⟨w.heap.size,0,none⟩)])/\w'=w.alloc (.cells #[.slice a len cap] 61):=by
 have hro:F.round=none:=hF.ro
 refine callsIn_of_wp Tryz.func176 rfl (hF.fn _) ?_ hro
 simp only[Tryz.ntmps176,List.size_toArray,List.length_cons,List.length_nil,Nat.reduceAdd,Nat.reduceSub,Array.replicate_succ,Array.replicate_zero,List.push_toArray,List.append_toArray,List.nil_append,List.cons_append]
 gi_wp2
 go_ret
 exact⟨rfl,rfl⟩
theorem Aov {Bx B:Nat}{v:Value}{N:List (List UInt8)}{w W:World}(hb:Bx < w.heap.size)(hv:∀ k,v.ownBlock=some k->k < w.heap.size)(hW:Below w.heap.size w W)(h:Ai4 Bx v B N w):Ai4 Bx v B N W:=
 h.kept ⟨hW.block _ hb,fun k hk=>hW.block _ (hv k hk)⟩
theorem Ake (F:Fence)(hF:Open F)(n:Nat)(hn:1<=n)(Bx B:Nat)(v:Value)(N:List (List UInt8))(hN:N.length<=1048576)(w:World)(hb:Bx < w.heap.size)(hv:∀ k,v.ownBlock=some k->k < w.heap.size)(hR:Ai4 Bx v B N w) :
  SeqStopsK F n Tryz.prog 191 #[.pointer (some ⟨Bx,0,none⟩)] (fun x:Nat×List UInt8=>#[Value.int .i64 (x.1:Nat),Value.string ⟨x.2.toArray⟩]) (Ai3 Bx v) (fun ys=>ys.map Prod.snd=N.reverse) (fun _=>True) N.length w:=fun l J Jx W hW hJ _ hY h0=>
 Avt F hF n hn l Bx B v N hN J Jx (fun pre W m h=>hJ pre W _ none h (Ant W m) (fun _ e=>by cases e)) hY W (Aov hb hv hW hR) h0
end Go.Proofs.YtkdfbliiblojoaaGreatDoor
namespace Go.Proofs.YtkdfbliiblojoaaGreatDoor
open Go Go.RowKit
def Aij (k:Krn)(f:List Int)(fd cwd:Int)(p:List UInt8)(how:Int):Krn×List Int×Int:=
 if isFd fd=false then(k,f,9)else if how < 0∨5<=how then(k,f,22)else
 if (Aaw k.tree k.b cwd p how).2.2≠0 then(k,f,(Aaw k.tree k.b cwd p how).2.2)else
 if (putK k.opens ⟨1,(Aaw k.tree k.b cwd p how).2.1,0,(Aat how).2,0⟩).2=0 then(k,f,24)else
 ((Agx { k with tree:=(Aaw k.tree k.b cwd p how).1,opens:=(putK k.opens ⟨1,(Aaw k.tree k.b cwd p how).2.1,0,(Aat how).2,0⟩).1 } f fd.toNat ((putK k.opens ⟨1,(Aaw k.tree k.b cwd p how).2.1,0,(Aat how).2,0⟩).2 - 1).toNat).1,
  (Agx { k with tree:=(Aaw k.tree k.b cwd p how).1,opens:=(putK k.opens ⟨1,(Aaw k.tree k.b cwd p how).2.1,0,(Aat how).2,0⟩).1 } f fd.toNat ((putK k.opens ⟨1,(Aaw k.tree k.b cwd p how).2.1,0,(Aat how).2,0⟩).2 - 1).toNat).2,0)
theorem Azi {k:Krn}{f:List Int}(h:FitK k f){O':List Opn}{j:Nat}(hO:∀ i (hi:i < k.opens.length),k.opens[i].kind≠0->i≠j/\∃ hi':i < O'.length,O'[i]=k.opens[i]){fd:Nat}(hfd:fd < 10):f.getD fd 0=0∨∃ i:Nat,i≠j/\∃ hi:i < k.opens.length,∃ hi':i < O'.length,f.getD fd 0=(i:Int)+1/\k.opens[i].kind≠0/\O'[i]=k.opens[i]:=by
 have hl:fd < f.length:=by rw[h.len];exact hfd
 rw[h.at_zero hl]
 by_cases h0:f[fd]=0
 ·exact .inl h0
 ·obtain⟨i,hi,h1,h2,-⟩:=h.desc hl h0
  obtain⟨h3,h4,h5⟩:=hO i hi h2
  exact .inr ⟨i,h3,hi,h4,h1,h2,h5⟩
theorem Auh {k:Krn}{f:List Int}(h:FitK k f)(fd cwd:Int)(p:List UInt8)(how:Int):Aij k f fd cwd p how=Afc k f fd cwd p how:=by
 unfold Aij Afc
 by_cases h1:isFd fd=false
 ·rw[if_pos h1,if_pos h1]
 rw[if_neg h1,if_neg h1]
 by_cases h2:how < 0∨5<=how
 ·rw[if_pos h2,if_pos h2]
 rw[if_neg h2,if_neg h2]
 obtain⟨⟨T,ino,e⟩,ht⟩:∃ r,Aaw k.tree k.b cwd p how=r:=⟨_,rfl⟩
 rw[ht]
 simp only
 by_cases h3:e≠0
 ·rw[if_pos h3,if_pos h3]
 rw[if_neg h3,if_neg h3]
 obtain⟨p1,p2⟩:=Ap5 (O:=k.opens) (o:=⟨1,ino,0,(Aat how).2,1⟩) (show (1:Int)≠0 by decide)
 have p1':(putK k.opens ⟨1,ino,0,(Aat how).2,0⟩).2=(putK k.opens ⟨1,ino,0,(Aat how).2,1⟩).2:=p1
 rw[p1']
 obtain⟨⟨O1,a⟩,hp⟩:∃ r,putK k.opens ⟨1,ino,0,(Aat how).2,1⟩=r:=⟨_,rfl⟩
 rw[hp]
 simp only
 by_cases h4:a=0
 ·rw[if_pos h4,if_pos h4]
 rw[if_neg h4,if_neg h4]
 obtain⟨j,rfl,⟨-,-⟩,-⟩:=Auo hp h4
 obtain⟨hj,-,-⟩:=p2 j (by rw[hp])
 obtain⟨n,rfl,hn⟩:=Ac9 (show isFd fd=true by simpa using h1)
 rw[Int.toNat_natCast,show ((j:Int)+1 - 1).toNat=j by omega]
 obtain⟨⟨O0,a0⟩,hp0⟩:∃ r,putK k.opens ⟨1,ino,0,(Aat how).2,0⟩=r:=⟨_,rfl⟩
 have ha0:a0=(j:Int)+1:=by
  have:=p1'
  rw[hp0,hp]at this
  exact this
 subst ha0
 obtain⟨j0,ej,-,hkeep⟩:=Auo hp0 h4
 obtain rfl:j=j0:=by omega
 have hj':j < O0.length:=by
  have hjx:j < (putK k.opens ⟨1,ino,0,(Aat how).2,0⟩).1.length:=hj
  rw[hp0]at hjx
  exact hjx
 rw[hp0]
 simp only
 have hm:=Axn (k:={ k with tree:=T }) (o:=⟨1,ino,0,(Aat how).2,1⟩) (show (1:Int)≠0 by decide) rfl (j:=j) (by show (putK k.opens _).2=_;rw[hp])
 have hm':Ade { k with tree:=T,opens:=O0 } j={ k with tree:=T,opens:=O1 }:=by
  have hmm:Ade { k with tree:=T,opens:=(putK k.opens ⟨1,ino,0,(Aat how).2,0⟩).1 } j={ k with tree:=T,opens:=(putK k.opens ⟨1,ino,0,(Aat how).2,1⟩).1 }:=hm
  rw[hp0,hp]at hmm
  exact hmm
 have hl:=Amw (k:={ k with tree:=T,opens:=O0 }) (f:=f) (fd:=n) (j:=j) hj' (by
  rcases Azi h hkeep hn with h5|⟨i,h5,-,hi',h6,-,-⟩
  ·exact .inl h5
  ·exact .inr ⟨i,hi',h6,fun e=>absurd e h5⟩)
 rw[hm']at hl
 rw[hl]

theorem Ba1 (a:Option Addr)(cap:Nat)(m b ino off n:Int)(L:List Ino)(_hF:FitP L m b)(s:List UInt8)(er:Int)(hz:Aft L ino off n=(s,er))(w:World)(hN:Aad w a cap L) :
  Calls Tryz.prog 130 #[.agg #[.slice a L.length cap,.int .i64 m,.int .i64 b],.int .i64 ino,.int .i64 off,.int .i64 n] w fun e w'=>e=.returned (.tuple #[.string ⟨s.toArray⟩,.int .i64 er])/\Below w.heap.size w w':=by
 have hz2:=hz
 unfold Aft at hz2
 obtain⟨w1,hw1⟩:∃ w1,w1=w.alloc (.cells #[.slice a L.length cap,.int .i64 m,.int .i64 b] 24):=⟨_,rfl⟩
 have hb1:Below w.heap.size w w1:=by rw[hw1];exact Aab w _
 have HX:=Hd (show ∀ W',Below w1.heap.size w1 W'->W'.cell? ⟨w.heap.size,0,none⟩=some (.slice a L.length cap)/\W'.cell? ⟨w.heap.size,1,none⟩=some (.int .i64 m)/\W'.cell? ⟨w.heap.size,2,none⟩=some (.int .i64 b)from fun W' h=>box3 (by rw[<-hw1];exact h))
 have HM:=Hd (hN.below hb1)
 have HB1:=Hd hb1
 obtain⟨rf,hrf⟩:∃ v,refW L ino (min off n)=v:=⟨_,rfl⟩
 have HRF:=Hd hrf
 clear hN hb1 hrf hz
 go_enter Tryz.func130,Tryz.ntmps130
 go_wp2_with fail
 rw[<-hw1]
 clear hw1
 refine(Alh _ _ _ _ _ _ L rf HRF.out _ HM.out).mono ?_
 rintro e w2 ⟨rfl,hb2⟩
 obtain⟨q0,q1,q2⟩:=HX.out _ hb2
 have hql:=Aaf q0
 have HB2:=Hd hb2
 clear hb2
 have hrf:=HRF.out
 unfold refW at hrf
 by_cases h0:rf=0
 ·subst h0
  have h1:Adj L ino=0:=by
   by_cases h:Adj L ino=0
   ·exact h
   ·rw[if_pos h]at hrf
    exact hrf
  rw[if_neg (by simpa using h1)]at hz2 hrf
  have h2:¬ (min off n < 0):=fun h=>by rw[if_pos h]at hrf;exact absurd hrf (by decide)
  rw[if_neg (by omega)]at hz2
  simp only[Prod.mk.injEq]at hz2
  obtain⟨hs,rfl⟩:=hz2
  obtain⟨k,hk,rfl,-⟩:=Ahy h1
  rw[Aae L k hk]at hs
  obtain⟨bb,o,rfl,hx⟩:=(HM.out.below HB2.out).2.2 k hk
  have x3:=hx.data
  have hxl:=Aaf x3
  have hk0:(0:Int)<=(k:Int):=by omega
  have hk1:(k:Int) < (L.length:Int):=by omega
  obtain⟨D,hD⟩:∃ D:ByteArray,D=⟨L[k].data.toArray⟩:=⟨_,rfl⟩
  rw[<-hD]at x3
  have hDl:D.data.toList=L[k].data:=by rw[hD]
  obtain⟨o1,rfl⟩:∃ o1:Nat,off=(o1:Int):=⟨off.toNat,by omega⟩
  obtain⟨n1,rfl⟩:∃ n1:Nat,n=(n1:Int):=⟨n.toNat,by omega⟩
  obtain⟨E1,hE1⟩:∃ E:ByteArray,E=⟨(D.data.toList.drop (min o1 D.size)).toArray⟩:=⟨_,rfl⟩
  obtain⟨E2,hE2⟩:∃ E:ByteArray,E=⟨(E1.data.toList.take (min n1 E1.size)).toArray⟩:=⟨_,rfl⟩
  have c1:=fun W=>Ap9 D (min (o1:Int) (D.size:Int)) (min o1 D.size) (by omega) (by omega) W
  rw[<-hE1]at c1
  have c2:=fun W=>Aiy E1 (min (n1:Int) (E1.size:Int)) (min n1 E1.size) (by omega) (by omega) W
  rw[<-hE2]at c2
  have hfin:E2=⟨s.toArray⟩:=by
   have e1:D.size=L[k].data.length:=by rw[<-hDl];exact Array.length_toList.symm
   have e4:E1.data.toList=L[k].data.drop o1:=by rw[hE1,hDl,e1,Apj]
   have e5:E1.size=(L[k].data.drop o1).length:=by rw[<-e4];exact Array.length_toList.symm
   rw[hE2,e4,e5,Aqb,<-hs,Int.toNat_natCast,Int.toNat_natCast]
  have HFIN:=Hd hfin
  clear hx hs hD hDl hE1 hE2 hfin hrf h1 h2
  go_wp2_with fail
  go_ret2
  exact⟨by rw[HFIN.out];rfl,HB1.out.trans (HB2.out.mono HB1.out.size)⟩
 ·have h0b:(rf != 0)=true:=by simpa using h0
  have hz3:s=[]/\er=rf:=by
   by_cases h:Adj L ino=0
   ·rw[if_neg (by simpa using h)]at hz2 hrf
    by_cases h2:min off n < 0
    ·rw[if_pos h2]at hrf
     rw[if_pos (by omega)]at hz2
     simp only[Prod.mk.injEq]at hz2
     exact⟨hz2.1.symm,by omega⟩
    ·rw[if_neg h2]at hrf
     exact absurd hrf.symm h0
   ·rw[if_pos h]at hz2 hrf
    simp only[Prod.mk.injEq]at hz2
    exact⟨hz2.1.symm,by omega⟩
  obtain⟨rfl,rfl⟩:=hz3
  clear hz2 hrf
  go_wp2_with fail
  go_ret2
  exact⟨rfl,HB1.out.trans (HB2.out.mono HB1.out.size)⟩
end Go.Proofs.YtkdfbliiblojoaaGreatDoor
