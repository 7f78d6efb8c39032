import Derived.RegionIn
import Derived.Test.YtkdfbliiblojoaaGreatDoorK28
import Derived.Test.YtkdfbliiblojoaaGreatDoorK23
import Derived.Shelf.Spec.SlicesInsertGrow
import Derived.Laws.NewBlocks
set_option linter.all false
set_option maxRecDepth 100000
set_option maxHeartbeats 64000000
namespace Go.Proofs.YtkdfbliiblojoaaGreatDoor
open Go Go.RowKit Go.Shelf
attribute [local go_sem] Oper.semAt_some
structure St where
 x : List UInt8
 N : List (List UInt8)
 p : Int
 k : Nat
def IW (n₀ g : Nat) (T : Value × Value × Value) (Base : World → Prop) (Gh : Nat → List (List UInt8) → Int → Prop) (s : St) (W : World) : Prop := Abr n₀ g T W s.p s.N.reverse s.k ∧ Base W ∧ Gh s.k s.N s.p
def IpW (n₀ g : Nat) (T : Value × Value × Value) (Base : World → Prop) (Gh : Nat → List (List UInt8) → Int → Prop) (s : St) (W : World) : Prop := Abr n₀ g T W s.p s.N.reverse s.k ∧ Base W ∧ Gh s.k (s.x :: s.N) s.p
def NxW (s s' : St) : Prop := (8 - s'.k) * 30000 + s'.N.length ≤ (8 - s.k) * 30000 + s.N.length
def mW (g : Nat) (W : World) : Nat := match W.heap[g]? with
 | some (.cells cs _ _) => (8 - (intOf (cs.getD 5 undef)).toNat) * 30000 + Agi (cs.getD 4 undef)
 | _ => 0
theorem Az0 {n₀ g : Nat} {T : Value × Value × Value} {W : World} {p : Int} {st : List (List UInt8)} {k : Nat} (h : Abr n₀ g T W p st (k : Int)) : mW g W = (8 - k) * 30000 + st.length := by
 obtain ⟨_,v,h1,h2⟩ := h
 unfold mW
 rw [h1]
 obtain ⟨na,nc,rfl,-,-,-⟩ := h2.view
 simp [intOf,Agi]
theorem An3 (F : Fence) (hwide : F = Fence.wide) (n : Nat) (hn : 1 ≤ n) (n₀ g Bp : Nat) (T : Value × Value × Value) (Base : World → Prop) (Gh : Nat → List (List UInt8) → Int → Prop) (hlen : ∀ k N p,Gh k N p → N.length ≤ 1000000)
  (hbox : ∀ W,Base W → W.cell? ⟨Bp,0,none⟩ = some (.pointer (some ⟨g,0,none⟩))) (hset : ∀ W v,Base W → Base (W.setCell ⟨g,4,none⟩ v).drew) (s0 : St) :
  Bap F n Tryz.prog 192 #[.pointer (some ⟨Bp,0,none⟩)] (fun s : St => #[Value.string ⟨s.x.toArray⟩]) (IW n₀ g T Base Gh) (IpW n₀ g T Base Gh) NxW (fun W => ∃ s : St,s.N = [] ∧ IW n₀ g T Base Gh s W) s0 := by
 intro l G Jx W hG hY h0 hG0
 have hF : Open F := by rw [hwide]; exact Agx
 have hro : F.round = none := hF.ro
 have HWIDE := Hd hwide
 clear hwide
 have HY := Hd hY
 have HGS := Hd hG
 have HBOX := Hd hbox
 have HSET := Hd hset
 have HLEN := Hd hlen
 clear hY hG hbox hset hlen
 refine callsIn_of_wp Tryz.func192 rfl (hF.fn _) ?_ hro
 simp only [Tryz.ntmps192,List.size_toArray,List.length_cons,List.length_nil,Nat.reduceAdd,Nat.reduceSub,Array.replicate_succ,Array.replicate_zero,List.push_toArray,List.append_toArray,List.nil_append,List.cons_append]
 gi_wp2
 gi_loopw [3,4] (fun _ _ wr => ∃ s : St,Hid (IW n₀ g T Base Gh s wr) ∧ Hid (G wr)) (fun _ _ wr => mW g wr)
 case atStart => exact ⟨s0,h0,hG0⟩
 case round =>
  obtain ⟨s,hI,hGw⟩ := hrel
  obtain ⟨x0,N,p,k⟩ := s
  obtain ⟨hway,hbase,hgh⟩ := hI.out
  have HWAY := Hd hway
  have hb := HBOX.out _ hbase
  have hm := Az0 hway
  obtain ⟨-,-,-,-,⟨v,c4,hv⟩,-⟩ := Aa6 hway
  have f4 := Abi hway 4
  have hg := hway.lt
  have hgb := Aaj hb
  simp only at hm c4 hv hgh
  cases N with
  | nil =>
   obtain ⟨na,nc,rfl,-,-,-⟩ := hv.view
   have HFIN := Hd (show ∃ s : St,s.N = [] ∧ IW n₀ g T Base Gh s wr from ⟨⟨x0,[],p,k⟩,rfl,hI.out⟩)
   clear hway hbase hgh hm hv hI
   gi_wp2
   go_end0
   exact ⟨⟨_,rfl⟩,.inl ⟨HFIN.out,hGw.out⟩⟩
  | cons x r =>
   rw [List.reverse_cons] at hv hm
   have hrl := HLEN.out _ _ _ hgh
   obtain ⟨R,hR⟩ : ∃ R,R = r.reverse := ⟨_,rfl⟩
   rw [← hR] at hv hm
   have hRl : R.length = r.length := by rw [hR,List.length_reverse]
   obtain ⟨a0,nc,rfl,hc1,hc2,hcell⟩ := hv.view
   obtain ⟨nb,no,rfl,hx⟩ := hcell R.length (by simp)
   have hx0 : (R ++ [x])[R.length]'(by simp) = x := by simp
   rw [hx0] at hx
   unfold strv at hx
   have hl1 : (R ++ [x]).length = R.length + 1 := by simp
   rw [hl1] at hv c4 hc1
   have HI2 := Hd hv.init
   unfold maxLen at hc2
   have HPOP := Hd (show IpW n₀ g T Base Gh ⟨x,r,p,k⟩ (wr.setCell ⟨g,4,none⟩ (.slice (some ⟨nb,no,none⟩) R.length nc)).drew from ⟨by
    have h := (Aqa HWAY.out HI2.out).drew
    rw [hR] at h
    rw [hR]
    exact h,HSET.out _ _ hbase,hgh⟩)
   have HGP := Hd (show G (wr.setCell ⟨g,4,none⟩ (.slice (some ⟨nb,no,none⟩) R.length nc)).drew from HGS.out _ _ hGw.out ((KeepsOthers.setCell wr _ _).trans (KeepsOthers.drew _)))
   obtain ⟨fn,tmps,assign,body,hy,hRd⟩ := HY.out ⟨x,r,p,k⟩ _ HPOP.out HGP.out
   simp only at hy
   have HRD := Hd hRd
   have hj1 : (R.length : Int) < ((R.length : Int) + 1) := by omega
   have hj2 : (0 : Int) < ((R.length : Int) + 1) := by omega
   have hj3 : (0 : Int) ≤ (R.length : Int) := by omega
   have hj4 : (R.length : Int) ≤ (nc : Int) := by omega
   have HM := Hd hm
   have HRL := Hd hRl
   have hR5 : R.length ≤ 1000000 := by simp only [List.length_cons] at hrl; omega
   clear hway hbase hgh hm hv hI hcell hx0 hl1 hRd hR hRl hrl
   gi_wp2
   have hw := HWIDE.out
   subst hw
   refine Ab8 (ro := none) (S := fun W' => W'.cell? ⟨Bp,0,none⟩ = some (.pointer (some ⟨g,0,none⟩))) (by kernel_rfl) (by kernel_rfl) ?_
   have hHeld : wr.drew.cell? ⟨Bp,0,none⟩ = some (.pointer (some ⟨g,0,none⟩)) := hb
   refine wpAnyH_take (i := 0) (v := ?_) rfl (by kernel_rfl) (by kernel_rfl) (by kernel_rfl) (fun _ _ _ h => nomatch h.1) (Or.inl ⟨by rfl,?hy0⟩) hHeld ?rest0
   case hy0 => intro W hSw; go_simp <;> with_reducible rfl
   try simp only [Act.put,List.setIfInBounds_toArray]
   refine wpAnyH_take (i := 1) (v := ?_) rfl (by kernel_rfl) (by kernel_rfl) (by kernel_rfl) (fun _ _ _ h => nomatch h.1) (Or.inl ⟨by rfl,?hy1⟩) hHeld ?rest1
   case hy1 => intro W hSw; go_simp <;> with_reducible rfl
   try simp only [Act.put]
   refine wpAnyH_take (i := 2) (v := ?_) rfl (by kernel_rfl) (by kernel_rfl) (by kernel_rfl) (fun _ _ _ h => nomatch h.1) (Or.inl ⟨by rfl,?hy2⟩) hHeld ?rest2
   case hy2 => intro W hSw; go_simp <;> with_reducible rfl
   try simp only [Act.put]
   refine wpAnyH_take (i := 3) (v := ?_) rfl (by kernel_rfl) (by kernel_rfl) (by kernel_rfl) (fun _ _ _ h => nomatch h.1) (Or.inl ⟨by rfl,?hy3⟩) hHeld ?rest3
   case hy3 => intro W hSw; go_simp <;> with_reducible rfl
   try simp only [Act.put]
   refine wpAnyH_take (i := 5) (v := ?_) rfl (by kernel_rfl) (by kernel_rfl) (by kernel_rfl) (fun _ _ _ h => nomatch h.1) (Or.inl ⟨by rfl,?hy5⟩) hHeld ?rest5
   case hy5 => intro W hSw; go_simp <;> with_reducible rfl
   try simp only [Act.put]
   refine wpAnyH_ready (rs := [4]) (by kernel_rfl) (by simp) ?_
   refine AllReadyH.cons rfl (fun K hK => ?_) AllReadyH.nil
   go_simp
   refine hK.out _ _ hHeld (fun hHeld => ?_)
   clear hK K
   try simp only [Act.put,List.setIfInBounds_toArray,List.set_cons_zero,List.set_cons_succ]
   refine wpAnyH_take (i := 6) (v := ?_) rfl (by kernel_rfl) (by kernel_rfl) (by kernel_rfl) (fun _ _ _ h => nomatch h.1) (Or.inl ⟨by rfl,?hy6⟩) hHeld ?rest6
   case hy6 => intro W hSw; go_simp <;> with_reducible rfl
   try simp only [Act.put,List.setIfInBounds_toArray]
   refine wpAnyH_take (i := 7) (v := ?_) rfl (by kernel_rfl) (by kernel_rfl) (by kernel_rfl) (fun _ _ _ h => nomatch h.1) (Or.inl ⟨by rfl,?hy7⟩) hHeld ?rest7
   case hy7 => intro W hSw; go_simp <;> with_reducible rfl
   try simp only [Act.put]
   refine wpAnyH_take (i := 8) (v := ?_) rfl (by kernel_rfl) (by kernel_rfl) (by kernel_rfl) (fun _ _ _ h => nomatch h.1) (Or.inl ⟨by rfl,?hy8⟩) hHeld ?rest8
   case hy8 => intro W hSw; go_simp <;> with_reducible rfl
   try simp only [Act.put]
   refine wpAnyH_ready (rs := [9]) (by kernel_rfl) (by simp) ?_
   refine AllReadyH.cons rfl (fun K hK => ?_) AllReadyH.nil
   go_simp
   refine hK.out _ _ ?_ (fun hHeld => ?_)
   ·have h := HBOX.out _ HPOP.out.2.1
    exact h
   clear hK K
   refine wpAnyH_done (by kernel_rfl) ⟨rfl,?_⟩ _
   gi_wp2
   refine HRD.out.mono ?_
   rintro e W3 (⟨rfl,s',hnx,hI3,hG3⟩ | ⟨rfl,hJ3⟩)
   ·have hm3 := Az0 hI3.1
    have hnx' : (8 - s'.k) * 30000 + s'.N.length ≤ (8 - k) * 30000 + r.length := hnx
    have HI3 := Hd hI3
    have HG3 := Hd hG3
    have HM3 := Hd (show mW g W3 < mW g wr by
     rw [hm3,HM.out,List.length_reverse,List.length_append,List.length_cons,List.length_nil,HRL.out]
     omega)
    clear hnx hnx' hm3 hI3 hG3
    gi_wp2
    go_roundw
    case rel => exact ⟨s',HI3,HG3⟩
    case measure => exact HM3.out
   ·have HJ3 := Hd hJ3
    clear hJ3
    gi_wp2
    refine bodyPost_ret (results_none rfl _ _ _) rfl ?_
    exact ⟨⟨_,rfl⟩,.inr HJ3.out⟩
end Go.Proofs.YtkdfbliiblojoaaGreatDoor
namespace Go.Proofs.YtkdfbliiblojoaaGreatDoor
open Go Go.RowKit
theorem OwnT.mid {W W' : World} {base g cap : Nat} {L : List Ino} {vs : List Value} (h : OwnT W base g cap L vs) (hb : ∀ k,base ≤ k → k < W.heap.size → W'.heap[k]? = W.heap[k]?) : OwnT W' base g cap L vs :=
 ⟨h.nodes.same (hb g h.hbase h.nodes.lt),h.hbase,fun i hi hv => (h.kids i hi hv).same fun k hk => hb k ((h.kids i hi hv).lt k hk).1 ((h.kids i hi hv).lt k hk).2,h.apart,h.off⟩
section
variable {B g : Nat} {A : KAd} {K : Krn} {f : List Int}
theorem Wk.newTree {W W1 : World} (h : Wk W B g A K f) (hb : Below W.heap.size W W1) {gt cap : Nat} {L' : List Ino} {vs : List Value} (ho : OwnT W1 W.heap.size gt cap L' vs) :
  Wk (put3 W1 g (.slice (some ⟨gt,0,none⟩) L'.length cap) (.int .i64 K.m) (.int .i64 K.b)) B g { A with ta := some ⟨gt,0,none⟩,tc := cap } { K with tree := L' } f ∧ Stepw g A W { A with ta := some ⟨gt,0,none⟩,tc := cap } (put3 W1 g (.slice (some ⟨gt,0,none⟩) L'.length cap) (.int .i64 K.m) (.int .i64 K.b)) := by
 have h1 := h.below hb
 have hg0 : (W1.setCell ⟨g,0,none⟩ (.slice (some ⟨gt,0,none⟩) L'.length cap)).heap[g]? = some (.cells ((wrk g A K f).setIfInBounds 0 (.slice (some ⟨gt,0,none⟩) L'.length cap)) 124 (0,0)) := Aa0 h1.box 0 _
 have hg1 := Aa0 hg0 1 (.int .i64 K.m)
 have hg2 := Aa0 hg1 2 (.int .i64 K.b)
 have hbut : But g W1 (put3 W1 g (.slice (some ⟨gt,0,none⟩) L'.length cap) (.int .i64 K.m) (.int .i64 K.b)) := ((But.set _ _ _ _).trans (But.set _ _ _ _)).trans (But.set _ _ _ _)
 have hown : ∀ k,Own3 g A k → k < W.heap.size := fun k hk => (h.own3 hk).2
 refine ⟨⟨hg2,h.base,⟨Ac9 h1.own.pipes fun x hx => hbut.block _ (h.gp x hx),Ac9 h1.own.opens fun x hx => hbut.block _ (h.go x hx),h.own.apart⟩,h.gp,h.go,fun W'' hw => ?_,h.flen⟩,⟨⟨hbut.os.trans hb.os,hbut.tape.trans hb.tape,hbut.output.trans hb.output,by rw [hbut.size]; exact hb.size,fun k hk hn => (hbut.block k (fun e => hn (.inl e))).trans (hb.block k hk)⟩,.refl _ _⟩⟩
 refine (ho.mid fun k hk hlt => ?_).nodesIn
 have hng : ¬ Own3 g A k := fun h3 => by have := hown k h3; omega
 exact (hw k (by rw [hbut.size]; exact hlt) hng).trans (hbut.block k (fun e => hng (.inl e)))
end
section
variable {P : Program}
theorem Agh (w : World) (dT sT ty elem : TypeId) (b o dLen dCap : Nat) (a : Addr) (sLen sCap k n : Nat) (cs : List Value)
  (hu : P.underlying dT = some (.slice elem)) (hs : (P.info? elem).map (·.size) = some k) (hn : n = Nat.min sLen dLen) (hl : cs.length = n * k)
  (hsrc : ∀ j v,cs[j]? = some v → w.cell? (a.add j) = some v) (hc : ∀ j,j < cs.length → (w.cell? ⟨b,o + j,none⟩).isSome = true) (hf : ∀ j,j < cs.length → w.frozen? ⟨b,o + j,none⟩ = false) (h1 : ∀ v ∈ cs,v.oneCell' = true) :
  (Builtin.copy_ #[dT,sT] ty #[.slice (some ⟨b,o,none⟩) dLen dCap,.slice (some a) sLen sCap]).run P w = .ok (goInt n) (w.setCells b o cs) := by
 have hld := run_loadCells_list (P := P) w a cs hsrc
 have hst := run_storeCells_cells (P := P) b o cs 0 w (by simpa using hc) (by simpa using hf) h1
 rw [hl] at hld
 cases hq : P.info? elem with
 | none => simp [hq] at hs
 | some i =>
  have hi : i.size = k := by simpa [hq] using hs
  simp [Builtin.copy_,run_underlying hu,Builtin.lenOf,Builtin.firstCells,sizeOf,typeInfo,hq,hi,← hn,hld,hst]
end
def layA (cur : Array Value) : Nat → List Value → Array Value
 | _,[] => cur
 | o,v :: r => layA (cur.setIfInBounds o v) (o + 1) r
theorem Adi : ∀ (vs : List Value) (cur : Array Value) (o : Nat),(layA cur o vs).size = cur.size
 | [],_,_ => rfl
 | v :: r,cur,o => by rw [layA,Adi r]; simp
theorem Afm : ∀ (vs : List Value) (cur : Array Value) (o : Nat),o + vs.length ≤ cur.size → ∀ j,(layA cur o vs)[j]? = if o ≤ j ∧ j < o + vs.length then vs[j - o]? else cur[j]?
 | [],cur,o,_,j => by rw [if_neg (by simp)]; rfl
 | v :: r,cur,o,h,j => by
  have hl : (v :: r).length = r.length + 1 := rfl
  rw [layA,Afm r _ (o + 1) (by simp; omega) j]
  by_cases e : j = o
  ·subst e
   rw [if_neg (by omega),if_pos (by omega),Nat.sub_self,Array.getElem?_setIfInBounds,if_pos rfl,if_pos (by omega)]
   rfl
  ·by_cases h2 : o + 1 ≤ j ∧ j < o + 1 + r.length
   ·rw [if_pos h2,if_pos (by omega),show j - o = j - (o + 1) + 1 by omega,List.getElem?_cons_succ]
   ·rw [if_neg h2,if_neg (by omega),Array.getElem?_setIfInBounds_ne (by omega)]
theorem Ahi {k : Nat} {t : TypeId} : ∀ (vs : List Value) (o : Nat) {W : World} {cs : Array Value},W.heap[k]? = some (.cells cs t (0,0)) → (W.setCells k o vs).heap[k]? = some (.cells (layA cs o vs) t (0,0))
 | [],_,_,_,h => h
 | v :: r,o,_W,_cs,h => Ahi r (o + 1) (Aa0 h o v)
def insK (K : List (List UInt8 × Int)) (i : Nat) (x : List UInt8 × Int) : List (List UInt8 × Int) := K.take i ++ x :: K.drop i
theorem Aim {K : List (List UInt8 × Int)} {i : Nat} (h : i ≤ K.length) (x : List UInt8 × Int) : (insK K i x).length = K.length + 1 := by
 unfold insK
 rw [List.length_append,List.length_cons,List.length_take,List.length_drop]
 omega
theorem Aly : ∀ (K : List (List UInt8 × Int)) (i : Nat),kidC (K.take i) = (kidC K).take (i * 2)
 | [],i => by simp [kidC]
 | e :: r,0 => by simp [kidC]
 | e :: r,i + 1 => by rw [List.take_succ_cons,kidC,kidC,Aly r i,show (i + 1) * 2 = i * 2 + 1 + 1 by omega,List.take_succ_cons,List.take_succ_cons]
theorem Amc : ∀ (K : List (List UInt8 × Int)) (i : Nat),kidC (K.drop i) = (kidC K).drop (i * 2)
 | [],i => by simp [kidC]
 | e :: r,0 => by simp
 | e :: r,i + 1 => by rw [List.drop_succ_cons,Amc r i,kidC,show (i + 1) * 2 = i * 2 + 1 + 1 by omega,List.drop_succ_cons,List.drop_succ_cons]
def entC (x : List UInt8 × Int) : List Value := [.string ⟨x.1.toArray⟩,.int .i64 x.2]
theorem Alj (K : List (List UInt8 × Int)) (i : Nat) (x : List UInt8 × Int) : kidC (insK K i x) = (kidC K).take (i * 2) ++ (entC x ++ (kidC K).drop (i * 2)) := by
 unfold insK
 rw [Ao5,Aly]
 show _ ++ (.string ⟨x.1.toArray⟩ :: .int .i64 x.2 :: kidC (K.drop i)) = _
 rw [Amc]
 rfl
theorem Ah2 {K : List (List UInt8 × Int)} {i : Nat} (h : i ≤ K.length) (x : List UInt8 × Int) (j : Nat) : (kidC (insK K i x))[j]? = if j < i * 2 then (kidC K)[j]? else if j < i * 2 + 2 then (entC x)[j - i * 2]? else (kidC K)[j - 2]? := by
 have hl := Abc K
 have ht : ((kidC K).take (i * 2)).length = i * 2 := by rw [List.length_take]; omega
 rw [Alj]
 by_cases h1 : j < i * 2
 ·rw [if_pos h1,List.getElem?_append_left (by omega),List.getElem?_take,if_pos h1]
 ·rw [if_neg h1,List.getElem?_append_right (by omega),ht]
  by_cases h2 : j < i * 2 + 2
  ·rw [if_pos h2,List.getElem?_append_left (by show _ < 2; omega)]
  ·rw [if_neg h2,List.getElem?_append_right (by show 2 ≤ _; omega),List.getElem?_drop]
   show (kidC K)[i * 2 + (j - i * 2 - 2)]? = _
   rw [show i * 2 + (j - i * 2 - 2) = j - 2 by omega]
theorem Ah0 {W : World} {base g cap : Nat} {cur : Array Value} {K : List (List UInt8 × Int)} (hb : base ≤ g) (hg : W.heap[g]? = some (.cells cur 139 (0,0))) (hn : K.length ≤ cap) (hm : cap ≤ maxLen) (hs : cur.size = cap * 2)
  (hc : ∀ j,j < K.length * 2 → cur[j]? = (kidC K)[j]?) : Aba W base (.slice (some ⟨g,0,none⟩) K.length cap) K := by
 refine ⟨Abc K,.inr ⟨g,cap,cur,rfl,hb,hg,hn,hm,hs,?_⟩⟩
 refine List.ext_getElem? fun j => ?_
 rw [List.getElem?_take]
 by_cases h : j < K.length * 2
 ·rw [if_pos h,← hc j h]
  simp
 ·rw [if_neg h,List.getElem?_eq_none (by rw [Abc]; omega)]
end Go.Proofs.YtkdfbliiblojoaaGreatDoor
namespace Go.Proofs.YtkdfbliiblojoaaGreatDoor
open Go Go.RowKit Go.Lib
def Ajg (base : Nat) (w : World) (v : Value) (K : List (List UInt8 × Int)) (e : Ending) (w' : World) : Prop :=
 ∃ v',e = .returned v' ∧ Aba w' base v' K ∧ w.grownBy w' v.ownBlock ∧ ∀ k,v'.ownBlock = some k → v.ownBlock = some k ∨ w.heap.size ≤ k
theorem Af5 : (Tryz.prog.info? 139).map (·.size) = some 2 := by kernel_rfl
theorem Akl {w W : World} {b o : Nat} {vs : List Value} {r : Option Nat} (h : w.grownBy W r) (hr : r = some b) : w.grownBy (W.setCells b o vs) r := by
 have e : ∀ (vs : List Value) (o : Nat) (W : World),(W.setCells b o vs).os = W.os ∧ (W.setCells b o vs).tape = W.tape ∧ (W.setCells b o vs).output = W.output := fun vs => by
  induction vs with
  | nil => exact fun _ _ => ⟨rfl,rfl,rfl⟩
  | cons v r ih => exact fun o W => ih (o + 1) (W.setCell ⟨b,o,none⟩ v)
 obtain ⟨e1,e2,e3⟩ := e vs o W
 exact ⟨e1.trans h.os,e2.trans h.tape,e3.trans h.output,by rw [Afd]; exact h.size,fun k hk hkr => (Aeq b vs o W k (fun e => hkr (by rw [hr,e]))).trans (h.block k hk hkr)⟩
theorem Ayi {cur : Array Value} {K : List (List UInt8 × Int)} {n : Nat} (h : cur.toList.take n = kidC K) (j : Nat) (hj : j < n) : cur[j]? = (kidC K)[j]? := by
 rw [← h,List.getElem?_take,if_pos hj]
 simp
theorem Ang {cur : Array Value} {K : List (List UInt8 × Int)} {i : Nat} (hi : i ≤ K.length) (hs : (K.length + 1) * 2 ≤ cur.size) (h : ∀ j,j < i * 2 → cur[j]? = (kidC K)[j]?) (x : List UInt8 × Int) (j : Nat) (hj : j < (K.length + 1) * 2) :
  (layA (layA cur ((i + 1) * 2) ((kidC K).drop (i * 2))) (i * 2) (entC x))[j]? = (kidC (insK K i x))[j]? := by
 have hl := Abc K
 have hd : ((kidC K).drop (i * 2)).length = (K.length - i) * 2 := by rw [List.length_drop,Abc]; omega
 rw [Ah2 hi,Afm _ _ _ (by rw [Adi]; show _ + 2 ≤ _; omega)]
 show (if i * 2 ≤ j ∧ j < i * 2 + 2 then _ else _) = _
 by_cases h1 : j < i * 2
 ·rw [if_neg (by omega),if_pos h1,Afm _ _ _ (by rw [hd]; omega),if_neg (by omega)]
  exact h j h1
 ·rw [if_neg h1]
  by_cases h2 : j < i * 2 + 2
  ·rw [if_pos ⟨by omega,h2⟩,if_pos h2]
  ·rw [if_neg (by omega),if_neg h2,Afm _ _ _ (by rw [hd]; omega),if_pos (by rw [hd]; omega),List.getElem?_drop,show i * 2 + (j - (i + 1) * 2) = j - 2 by omega]
theorem Aq1 {cur : Array Value} {K : List (List UInt8 × Int)} {i : Nat} (hi : i ≤ K.length) (hs : (K.length + 1) * 2 ≤ cur.size) (h : ∀ j,j < i * 2 → cur[j]? = (kidC K)[j]?) (x : List UInt8 × Int) (j : Nat) (hj : j < (K.length + 1) * 2) :
  (layA (layA cur (i * 2) (entC x)) ((i + 1) * 2) ((kidC K).drop (i * 2)))[j]? = (kidC (insK K i x))[j]? := by
 have hl := Abc K
 have hd : ((kidC K).drop (i * 2)).length = (K.length - i) * 2 := by rw [List.length_drop,Abc]; omega
 rw [Ah2 hi,Afm _ _ _ (by rw [Adi,hd]; omega),hd]
 by_cases h1 : j < i * 2
 ·rw [if_neg (by omega),if_pos h1,Afm _ _ _ (by show _ + 2 ≤ _; omega),if_neg (by omega)]
  exact h j h1
 ·rw [if_neg h1]
  by_cases h2 : j < i * 2 + 2
  ·rw [if_neg (by omega),if_pos h2,Afm _ _ _ (by show _ + 2 ≤ _; omega),if_pos ⟨by omega,h2⟩]
  ·rw [if_pos (by omega),if_neg h2,List.getElem?_drop,show i * 2 + (j - (i + 1) * 2) = j - 2 by omega]
section
variable {base b c i vb vc : Nat} {K : List (List UInt8 × Int)} {x : List UInt8 × Int} {w : World} {cur : Array Value}
theorem Atg (hi : i < K.length) (hc : cur.size = c * 2) (hm : c ≤ maxLen) (hroom : K.length + 1 ≤ c) (hb : base ≤ b) (hcur : w.heap[b]? = some (.cells cur 139 (0,0))) (hK : cur.toList.take (K.length * 2) = kidC K)
  (hv : w.heap[vb]? = some (.cells (entC x).toArray 139 (0,0))) (hvb : vb ≠ b) :
  Calls Tryz.prog 206 #[.slice (some ⟨b,0,none⟩) K.length c,.int .i64 i,.slice (some ⟨vb,0,none⟩) 1 vc] w fun e w' => Ajg base w (.slice (some ⟨b,0,none⟩) K.length c) (insK K i x) e w' := by
 have hm2 := hm
 unfold maxLen at hm2
 obtain ⟨n,hn⟩ : ∃ n,n = K.length := ⟨_,rfl⟩
 have hcs : ∀ j v,(kidC K)[j]? = some v → w.cell? ⟨b,j,none⟩ = some v := fun j v h => by
  rw [← hK,List.getElem?_take] at h
  split at h
  ·rw [bC hcur]; simpa using h
  ·cases h
 have hsp : ∀ j,j < c * 2 → (w.cell? ⟨b,j,none⟩).isSome = true := fun j hj => by rw [bC hcur,Array.getElem?_eq_getElem (by omega)]; rfl
 have hfz : ∀ j,w.frozen? ⟨b,j,none⟩ = false := bF hcur
 have hvs : ∀ j v,(entC x)[j]? = some v → w.cell? ⟨vb,j,none⟩ = some v := fun j v h => by rw [bC hv]; simpa using h
 have hkl := Abc K
 have hdl : ((kidC K).drop (i * 2)).length = (K.length - i) * 2 := by rw [List.length_drop,Abc]; omega
 have hov : ∀ lb cb,(callFunc 212 #[.slice (some ⟨vb,0,none⟩) 1 vc,.slice (some ⟨b,(i + 1) * 2,none⟩) lb cb]).run Tryz.prog w = .ok (.value (.bool false)) w := fun lb cb => by
  rw [run_callFunc_extern Tryz.func212 (by kernel_rfl) (by kernel_rfl) (by kernel_rfl) (e := Extern.SlicesOverlaps.overlaps #[64,64] #[4]) (by kernel_rfl),
   Lib.run_overlaps_apart w 64 4 139 Tryz.underlying64 2 Tryz.sizeOf139 ⟨vb,0,none⟩ ⟨b,(i + 1) * 2,none⟩ 1 vc lb cb hvb 139 139 2 (c * 2) (by simp [World.shape?,hv,entC]) (by simp [World.shape?,hcur,hc]) (by omega) (bF hv 0) (bF hv 2)]
  rfl
 have hw1 : IntKind.i64.wrap ((i : Int) + 1) = (i : Int) + 1 := by rw [IntKind.wrap_i64]; omega
 have hw2 : IntKind.i64.wrap ((K.length : Int) + 1) = (K.length : Int) + 1 := by rw [IntKind.wrap_i64]; omega
 have hz2 : ¬ ((i : Int) = (K.length : Int)) := by omega
 have hz3 : ¬ ((c : Int) < (K.length : Int) + 1) := by omega
 have hb1 : (0 : Int) ≤ (i : Int) + 1 := by omega
 have hin : i ≤ K.length := by omega
 have htn : ((i : Int) + 1).toNat = i + 1 := by omega
 have htn2 : ((K.length : Int) + 1).toNat = K.length + 1 := by omega
 have hb2 : ¬ (c = i + 1) := by omega
 have hb3 : (i : Int) ≤ (K.length : Int) + 1 := by omega
 have hb4 : ¬ (c = i) := by omega
 have hcp1 : ∀ ty dc sc,(Builtin.copy_ #[64,64] ty #[.slice (some ⟨b,(i + 1) * 2,none⟩) (K.length - i) dc,.slice (some ⟨b,i * 2,none⟩) (K.length + 1 - i) sc]).run Tryz.prog w.drew = .ok (goInt (K.length - i : Nat)) (w.drew.setCells b ((i + 1) * 2) ((kidC K).drop (i * 2))) := fun ty dc sc =>
  Agh w.drew _ _ ty 139 b ((i + 1) * 2) (K.length - i) dc ⟨b,i * 2,none⟩ (K.length + 1 - i) sc 2 (K.length - i) ((kidC K).drop (i * 2)) Tryz.underlying64 Af5 (by simp only [Nat.min_def]; split <;> omega) hdl
   (fun j v hj => by rw [Addr.add_lit]; exact hcs (i * 2 + j) v (by rwa [List.getElem?_drop] at hj))
   (fun j hj => hsp _ (by omega)) (fun j hj => hfz _) (fun v hv => Aie K v (List.mem_of_mem_drop hv))
 obtain ⟨W1,hW1⟩ : ∃ W1,W1 = w.drew.setCells b ((i + 1) * 2) ((kidC K).drop (i * 2)) := ⟨_,rfl⟩
 have hB1 : W1.heap[b]? = some (.cells (layA cur ((i + 1) * 2) ((kidC K).drop (i * 2))) 139 (0,0)) := by rw [hW1]; exact Ahi _ _ (W := w.drew) hcur
 have hG1 : w.grownBy W1 (some b) := by rw [hW1]; exact Akl (⟨rfl,rfl,rfl,Nat.le_refl _,fun _ _ _ => rfl⟩) rfl
 have hV1 : W1.heap[vb]? = w.heap[vb]? := hG1.block vb (lt_of_block hv) (fun e => hvb (Option.some.inj e))
 have hcp2 : ∀ (W : World),(∀ y,W.cell? y = W1.cell? y) → (∀ y,W.frozen? y = W1.frozen? y) → ∀ ty dc,(Builtin.copy_ #[64,64] ty #[.slice (some ⟨b,i * 2,none⟩) (K.length + 1 - i) dc,.slice (some ⟨vb,0,none⟩) 1 vc]).run Tryz.prog W = .ok (goInt (1 : Nat)) (W.setCells b (i * 2) (entC x)) := fun W hWc hWf ty dc =>
  Agh W _ _ ty 139 b (i * 2) (K.length + 1 - i) dc ⟨vb,0,none⟩ 1 vc 2 1 (entC x) Tryz.underlying64 Af5 (by simp only [Nat.min_def]; split <;> omega) rfl
   (fun j v hj => by
    rw [Abn,hWc,bC (hV1.trans hv)]
    simpa using hj)
   (fun j hj => by
    have hj' : j < 2 := hj
    rw [hWc,bC hB1,Array.getElem?_eq_getElem (by rw [Adi]; omega)]; rfl)
   (fun j hj => by rw [hWf]; exact bF hB1 _) (fun v hv => by
    simp only [entC,List.mem_cons,List.not_mem_nil,or_false] at hv
    rcases hv with rfl | rfl <;> rfl)
 rw [← hW1] at hcp1
 have HB1 := Hd hB1
 have HG1 := Hd hG1
 clear hB1 hG1 hV1 hW1 hcs hsp hfz hvs hn
 go_enter Tryz.func206,Tryz.ntmps206
 go_wp2_with (simp only [hov])
 go_region_law (refine step_copy_runI rfl _ _ 64 64 rfl _ _ (by simp [Act.eval,Act.put]) (by simp [Act.eval,Act.put]) (hcp1 _ _ _) ?_)
 go_wp2_with (at_builtin; refine wpList_copy_runI _ rfl _ _ 64 64 rfl _ _ rfl rfl (hcp2 _ (fun _ => rfl) (fun _ => rfl) _ _) ?_)
 go_ret
 have hlen := Aim hin x
 refine ⟨_,rfl,?_,Akl HG1.out rfl,fun k hk => Or.inl hk⟩
 rw [← hlen]
 refine Ah0 hb (Ahi _ _ HB1.out) (by omega) hm (by rw [Adi,Adi,hc]) fun j hj => ?_
 rw [hlen] at hj
 exact Ang hin (by omega) (fun j hj => Ayi hK j (by omega)) x j hj
theorem Ams (hc : cur.size = c * 2) (hm : c ≤ maxLen) (hroom : K.length + 1 ≤ c) (hb : base ≤ b) (hcur : w.heap[b]? = some (.cells cur 139 (0,0))) (hK : cur.toList.take (K.length * 2) = kidC K)
  (hv : w.heap[vb]? = some (.cells (entC x).toArray 139 (0,0))) :
  Calls Tryz.prog 206 #[.slice (some ⟨b,0,none⟩) K.length c,.int .i64 K.length,.slice (some ⟨vb,0,none⟩) 1 vc] w fun e w' => Ajg base w (.slice (some ⟨b,0,none⟩) K.length c) (insK K K.length x) e w' := by
 have hm2 := hm
 unfold maxLen at hm2
 obtain ⟨i0,hi0,hz0,hzs,hzb⟩ := info_parts Axr
 have hvs : ∀ j v,(entC x)[j]? = some v → w.cell? ((⟨vb,0,none⟩ : Addr).add j) = some v := fun j v h => by rw [Abn,bC hv]; simpa using h
 have hone : ∀ v ∈ entC x,v.oneCell' = true := fun v hv => by
  simp only [entC,List.mem_cons,List.not_mem_nil,or_false] at hv
  rcases hv with rfl | rfl <;> rfl
 have hrun : ∀ ty,(Builtin.append_ #[64,64] ty #[.slice (some ⟨b,0,none⟩) K.length c,.slice (some ⟨vb,0,none⟩) 1 vc]).run Tryz.prog w = _ := fun ty =>
  run_append_room w 64 ty 139 i0 Tryz.underlying64 hi0 b K.length c cur hcur ⟨vb,0,none⟩ 1 vc (entC x) (by rw [hzs]; rfl) hvs hone hroom (by rw [hzs,hc]; show _ + 2 ≤ _; omega)
 rw [hzs] at hrun
 go_enter Tryz.func206,Tryz.ntmps206
 go_wp2_with (at_builtin; refine Lib.wpList_append_run _ rfl _ _ _ _ rfl _ _ rfl rfl _ _ (hrun _) ?_)
 go_ret
 have hlen := Aim (Nat.le_refl K.length) x
 have hins : kidC (insK K K.length x) = kidC K ++ entC x := by rw [Alj,List.take_of_length_le (by rw [Abc]; exact Nat.le_refl _),List.drop_of_length_le (by rw [Abc]; exact Nat.le_refl _),List.append_nil]
 have hkl := Abc K
 have hsz : cur.toList.length = c * 2 := by simpa using hc
 refine ⟨_,rfl,⟨Abc _,.inr ⟨b,c,_,?_,hb,setRow_heap w b _ _ 139 (0,0) hcur,by omega,hm,?_,?_⟩⟩,⟨rfl,rfl,rfl,by simp [World.setRow],fun k _ hk => setRow_other w b k _ (fun e => hk (by rw [e]; rfl))⟩,fun k hk => Or.inl hk⟩
 ·rw [hlen]
  rfl
 ·show (kidC K ++ (entC x ++ List.drop (K.length * 2 + 2) cur.toList)).length = _
  rw [List.length_append,List.length_append,List.length_drop,hkl,hsz]
  show _ + (2 + _) = _
  omega
 ·rw [hlen,hins]
  show ((kidC K ++ (entC x ++ List.drop (K.length * 2 + 2) cur.toList))).take _ = _
  rw [← List.append_assoc,List.take_append_of_le_length (by rw [List.length_append,hkl]; show _ ≤ _ + 2; omega),List.take_of_length_le (by rw [List.length_append,hkl]; show _ + 2 ≤ _; omega)]
theorem Ahx {v : Value} (ho : Aba w base v K) (hv0 : ∀ a n c,v = .slice a n c → c < K.length + 1) (hl : K.length ≤ 1048576) (hbs : base ≤ w.heap.size)
  (hv : w.heap[vb]? = some (.cells (entC x).toArray 139 (0,0))) :
  Calls Tryz.prog 206 #[v,.int .i64 K.length,.slice (some ⟨vb,0,none⟩) 1 vc] w fun e w' => Ajg base w v (insK K K.length x) e w' := by
 obtain ⟨i0,hi0,hz0,hzs,hzb⟩ := info_parts Axr
 have hvs : ∀ j v,(entC x)[j]? = some v → w.cell? ((⟨vb,0,none⟩ : Addr).add j) = some v := fun j v h => by rw [Abn,bC hv]; simpa using h
 have hone : ∀ v ∈ entC x,v.oneCell' = true := fun v hv => by
  simp only [entC,List.mem_cons,List.not_mem_nil,or_false] at hv
  rcases hv with rfl | rfl <;> rfl
 have hsrc : Src Tryz.prog i0.size 64 (.slice (some ⟨vb,0,none⟩) 1 vc) 1 (entC x) w := by
  rw [hzs]
  exact Src.ofSlice w Tryz.underlying64 ⟨vb,0,none⟩ 1 vc (entC x) rfl hvs hone
 have hlen := Aim (Nat.le_refl K.length) x
 have hins : kidC (insK K K.length x) = kidC K ++ entC x := by rw [Alj,List.take_of_length_le (by rw [Abc]; exact Nat.le_refl _),List.drop_of_length_le (by rw [Abc]; exact Nat.le_refl _),List.append_nil]
 have hkl := Abc K
 obtain ⟨a,c,rfl⟩ := ho.form
 have hc := hv0 _ _ _ rfl
 have hold : (Builtin.firstCells i0.size K.length (.slice a K.length c)).run Tryz.prog w.drew = .ok (kidC K).toArray w.drew := by
  rw [hzs]
  rcases ho.2 with ⟨e,h0⟩ | ⟨g,cap,cur,e,-⟩
  ·obtain ⟨rfl,-,rfl⟩ := Value.slice.inj e
   have e : K = [] := List.length_eq_zero_iff.1 h0
   subst e
   exact run_firstCells_none w.drew 2 0 0 0
  ·obtain ⟨rfl,-,rfl⟩ := Value.slice.inj e
   exact run_firstCells_some w.drew 2 K.length ⟨g,0,none⟩ K.length _ (kidC K) (Abc K) (fun j u hj => ho.cells rfl j u hj)
 have hgc := grownCap_ge w (K.length + 1) c 139
 have hgm := grownCap_le_maxLen w (K.length + 1) c 139 (by unfold maxLen; omega)
 have hrun : ∀ ty,(Builtin.append_ #[64,64] ty #[.slice a K.length c,.slice (some ⟨vb,0,none⟩) 1 vc]).run Tryz.prog w = _ := fun ty =>
  run_append_grow_src w 64 64 ty 139 i0 _ Tryz.underlying64 hi0 hz0 a K.length c (kidC K) hold _ 1 (entC x) hsrc hc (by omega) (by rw [hzb]; exact growslice_fits hc (by omega))
 obtain ⟨G,hG⟩ : ∃ G,G = grownCap w (K.length + 1) c 139 := ⟨_,rfl⟩
 rw [← hG] at hrun hgc hgm
 obtain ⟨ROW,hROW⟩ : ∃ ROW : Array Value,ROW = (kidC K ++ entC x).toArray ++ Builtin.zeroCells (Value.agg #[.string ⟨#[]⟩,.int .i64 0]).cells (G - (K.length + 1)) := ⟨_,rfl⟩
 rw [← hROW] at hrun
 have HA := Hd hROW
 have HK := Hd ho
 clear hROW hG hold hsrc hvs ho
 have hfin : Ajg base w (.slice a K.length c) (insK K K.length x) (.returned (.slice (some ⟨w.heap.size,0,none⟩) (K.length + 1) G)) (w.drew.alloc (.cells ROW 139)) := by
  refine ⟨_,rfl,⟨Abc _,.inr ⟨w.heap.size,G,ROW,?_,hbs,Aae w.drew _,by omega,hgm,?_,?_⟩⟩,⟨rfl,rfl,rfl,by simp,fun k hk _ => Below.heap_alloc w.drew _ k hk⟩,fun k hk => Or.inr ?_⟩
  ·rw [hlen]
  ·rw [HA.out]
   have hz : (Builtin.zeroCells (Value.agg #[.string ⟨#[]⟩,.int .i64 0]).cells (G - (K.length + 1))).size = (G - (K.length + 1)) * 2 := size_zeroCells _ _
   rw [Array.size_append,hz]
   show (kidC K ++ entC x).length + _ = _
   rw [List.length_append,hkl]
   show _ + 2 + _ = _
   omega
  ·rw [HA.out,hlen,hins,Array.toList_append,List.take_append_of_le_length (by rw [List.toList_toArray,List.length_append,hkl]; show _ ≤ _ + 2; omega),List.toList_toArray,List.take_of_length_le (by rw [List.length_append,hkl]; show _ + 2 ≤ _; omega)]
  ·cases hk
   exact Nat.le_refl _
 have HFIN := Hd hfin
 clear hfin
 cases a with
 | none =>
  go_enter Tryz.func206,Tryz.ntmps206
  go_wp2_with (at_builtin; refine Lib.wpList_append_run _ rfl _ _ _ _ rfl _ _ rfl rfl _ _ (hrun _) ?_)
  go_ret
  exact HFIN.out
 | some a =>
  obtain ⟨ab,ao,asp⟩ := a
  go_enter Tryz.func206,Tryz.ntmps206
  go_wp2_with (at_builtin; refine Lib.wpList_append_run _ rfl _ _ _ _ rfl _ _ rfl rfl _ _ (hrun _) ?_)
  all_goals (go_ret; exact HFIN.out)
end
section
variable {base c i vb vc : Nat} {K : List (List UInt8 × Int)} {x : List UInt8 × Int} {w : World}
theorem Aw0 {b : Nat} (ho : Aba w base (.slice (some ⟨b,0,none⟩) K.length c) K) (hi : i < K.length) (hnc : K.length ≤ c) (hroom : c < K.length + 1) (hl : K.length ≤ 1048576) (hbs : base ≤ w.heap.size)
  (hv : w.heap[vb]? = some (.cells (entC x).toArray 139 (0,0))) :
  Calls Tryz.prog 206 #[.slice (some ⟨b,0,none⟩) K.length c,.int .i64 i,.slice (some ⟨vb,0,none⟩) 1 vc] w fun e w' => Ajg base w (.slice (some ⟨b,0,none⟩) K.length c) (insK K i x) e w' := by
 obtain ⟨i0,hi0,hz0,hzs,hzb⟩ := info_parts Axr
 have hcs : ∀ j v,(kidC K)[j]? = some v → w.cell? ⟨b,j,none⟩ = some v := fun j v h => by
  have := ho.cells rfl j v h
  rwa [Abn] at this
 have hbw : b < w.heap.size := (ho.lt b rfl).2
 have hvw : vb < w.heap.size := lt_of_block hv
 have hin : i ≤ K.length := by omega
 have hkl := Abc K
 have hdl : ((kidC K).drop (i * 2)).length = (K.length - i) * 2 := by rw [List.length_drop,Abc]; omega
 have htl : ((kidC K).take (i * 2)).length = i * 2 := by rw [List.length_take,Abc]; omega
 have hkk : (K.length : Int) + 1 - (i : Int) = ((K.length + 1 - i : Nat) : Int) := by omega
 have hik : i + (K.length + 1 - i) = K.length + 1 := by omega
 have hone : ∀ v ∈ entC x,v.oneCell' = true := fun v hv => by
  simp only [entC,List.mem_cons,List.not_mem_nil,or_false] at hv
  rcases hv with rfl | rfl <;> rfl
 have hold : (Builtin.firstCells i0.size i (.slice (some ⟨b,0,none⟩) i c)).run Tryz.prog w.drew = .ok ((kidC K).take (i * 2)).toArray w.drew := by
  rw [hzs]
  exact run_firstCells_some w.drew 2 i ⟨b,0,none⟩ i c ((kidC K).take (i * 2)) htl (fun j v hj => by
   rw [Abn]
   rw [List.getElem?_take] at hj
   split at hj
   ·exact hcs j v hj
   ·cases hj)
 have hgc := grownCap_ge w (K.length + 1) c 139
 have hgm := grownCap_le_maxLen w (K.length + 1) c 139 (by unfold maxLen; omega)
 have hrz : ∀ ty,(Builtin.append_ #[64,3] ty #[.slice (some ⟨b,0,none⟩) i c,.int .i64 ((K.length : Int) + 1 - (i : Int))]).run Tryz.prog w =
   .ok (.slice (some ⟨w.heap.size,0,none⟩) (K.length + 1) (grownCap w (K.length + 1) c 139)) (w.drew.alloc (.cells (((kidC K).take (i * 2)).toArray ++ Builtin.zeroCells (Value.agg #[.string ⟨#[]⟩,.int .i64 0]).cells (K.length + 1 - i) ++ Builtin.zeroCells (Value.agg #[.string ⟨#[]⟩,.int .i64 0]).cells (grownCap w (K.length + 1) c 139 - (K.length + 1))) 139)) := fun ty => by
  have h := Lib.run_append_grow_zeros w 64 3 ty 139 i0 _ .i64 .i64 Tryz.underlying64 Tryz.underlying3 hi0 hz0 (some ⟨b,0,none⟩) i c ((kidC K).take (i * 2)) hold (K.length + 1 - i) (by omega) (by omega) (by omega) (by omega) (by rw [hzb]; omega) (by rw [hzb,hik]; exact growslice_fits hroom (by omega))
  rw [hik] at h
  rw [hkk]
  exact h
 obtain ⟨G,hG⟩ : ∃ G,G = grownCap w (K.length + 1) c 139 := ⟨_,rfl⟩
 rw [← hG] at hrz hgc hgm
 obtain ⟨ROW,hROW⟩ : ∃ ROW : Array Value,ROW = ((kidC K).take (i * 2)).toArray ++ Builtin.zeroCells (Value.agg #[.string ⟨#[]⟩,.int .i64 0]).cells (K.length + 1 - i) ++ Builtin.zeroCells (Value.agg #[.string ⟨#[]⟩,.int .i64 0]).cells (G - (K.length + 1)) := ⟨_,rfl⟩
 rw [← hROW] at hrz
 have hRs : ROW.size = G * 2 := by
  have z1 : (Builtin.zeroCells (Value.agg #[.string ⟨#[]⟩,.int .i64 0]).cells (K.length + 1 - i)).size = (K.length + 1 - i) * 2 := size_zeroCells _ _
  have z2 : (Builtin.zeroCells (Value.agg #[.string ⟨#[]⟩,.int .i64 0]).cells (G - (K.length + 1))).size = (G - (K.length + 1)) * 2 := size_zeroCells _ _
  rw [hROW,Array.size_append,Array.size_append,z1,z2]
  show ((kidC K).take (i * 2)).length + _ + _ = _
  rw [htl]
  omega
 have hRg : ∀ j,j < i * 2 → ROW[j]? = (kidC K)[j]? := fun j hj => by
  rw [hROW,Array.append_assoc,Array.getElem?_append_left (by show j < ((kidC K).take (i * 2)).length; omega)]
  show ((kidC K).take (i * 2)).toArray[j]? = _
  rw [List.getElem?_toArray,List.getElem?_take,if_pos hj]
 obtain ⟨W1,hW1⟩ : ∃ W1,W1 = w.drew.alloc (.cells ROW 139) := ⟨_,rfl⟩
 rw [← hW1] at hrz
 have hN : W1.heap[w.heap.size]? = some (.cells ROW 139 (0,0)) := by rw [hW1]; exact Aae w.drew _
 have hO : ∀ k,k < w.heap.size → W1.heap[k]? = w.heap[k]? := fun k hk => by rw [hW1]; exact Below.heap_alloc w.drew _ k hk
 have hGW : w.grownBy W1 none := by rw [hW1]; exact ⟨rfl,rfl,rfl,by simp,fun k hk _ => Below.heap_alloc w.drew _ k hk⟩
 have hcpA : ∀ (W : World),(∀ y,W.cell? y = W1.cell? y) → (∀ y,W.frozen? y = W1.frozen? y) → ∀ ty dc,(Builtin.copy_ #[64,64] ty #[.slice (some ⟨w.heap.size,i * 2,none⟩) (K.length + 1 - i) dc,.slice (some ⟨vb,0,none⟩) 1 vc]).run Tryz.prog W = .ok (goInt (1 : Nat)) (W.setCells w.heap.size (i * 2) (entC x)) := fun W hWc hWf ty dc =>
  Agh W _ _ ty 139 w.heap.size (i * 2) (K.length + 1 - i) dc ⟨vb,0,none⟩ 1 vc 2 1 (entC x) Tryz.underlying64 Af5 (by simp only [Nat.min_def]; split <;> omega) rfl
   (fun j v hj => by
    rw [Abn,hWc,bC ((hO vb hvw).trans hv)]
    simpa using hj)
   (fun j hj => by
    have hj' : j < 2 := hj
    rw [hWc,bC hN,Array.getElem?_eq_getElem (by omega)]; rfl)
   (fun j hj => by rw [hWf]; exact bF hN _) hone
 have hB1 : (W1.setCells w.heap.size (i * 2) (entC x)).heap[w.heap.size]? = some (.cells (layA ROW (i * 2) (entC x)) 139 (0,0)) := Ahi _ _ hN
 have hB2 : (W1.setCells w.heap.size (i * 2) (entC x)).heap[b]? = w.heap[b]? := (Aeq _ _ _ _ b (by omega)).trans (hO b hbw)
 have hcpB : ∀ (W : World),(∀ y,W.cell? y = (W1.setCells w.heap.size (i * 2) (entC x)).cell? y) → (∀ y,W.frozen? y = (W1.setCells w.heap.size (i * 2) (entC x)).frozen? y) → ∀ ty dc sc,(Builtin.copy_ #[64,64] ty #[.slice (some ⟨w.heap.size,(i + 1) * 2,none⟩) (K.length - i) dc,.slice (some ⟨b,i * 2,none⟩) (K.length - i) sc]).run Tryz.prog W = .ok (goInt (K.length - i : Nat)) (W.setCells w.heap.size ((i + 1) * 2) ((kidC K).drop (i * 2))) := fun W hWc hWf ty dc sc =>
  Agh W _ _ ty 139 w.heap.size ((i + 1) * 2) (K.length - i) dc ⟨b,i * 2,none⟩ (K.length - i) sc 2 (K.length - i) ((kidC K).drop (i * 2)) Tryz.underlying64 Af5 (by simp only [Nat.min_def]; split <;> omega) hdl
   (fun j v hj => by
    rw [Addr.add_lit,hWc,World.cell?_of_block (a := ⟨b,i * 2 + j,none⟩) hB2]
    exact hcs (i * 2 + j) v (by rwa [List.getElem?_drop] at hj))
   (fun j hj => by rw [hWc,bC hB1,Array.getElem?_eq_getElem (by rw [Adi]; omega)]; rfl)
   (fun j hj => by rw [hWf]; exact bF hB1 _) (fun v hv => Aie K v (List.mem_of_mem_drop hv))
 have hfin : ∀ W : World,W.heap = ((W1.setCells w.heap.size (i * 2) (entC x)).setCells w.heap.size ((i + 1) * 2) ((kidC K).drop (i * 2))).heap → W.os = w.os → W.tape = w.tape → W.output = w.output → Ajg base w (.slice (some ⟨b,0,none⟩) K.length c) (insK K i x) (.returned (.slice (some ⟨w.heap.size,0,none⟩) (K.length + 1) G)) W := fun W e1 e2 e3 e4 => by
  have hlen := Aim hin x
  refine ⟨_,rfl,?_,⟨e2,e3,e4,?_,fun k hk _ => ?_⟩,fun k hk => Or.inr ?_⟩
  ·rw [← hlen]
   refine Ah0 hbs (by rw [e1]; exact Ahi _ _ hB1) (by omega) hgm (by rw [Adi,Adi,hRs]) fun j hj => ?_
   rw [hlen] at hj
   exact Aq1 hin (by omega) hRg x j hj
  ·rw [e1,Afd,Afd]
   exact hGW.size
  ·rw [e1,Aeq _ _ _ _ _ (by omega),Aeq _ _ _ _ _ (by omega)]
   exact hO k hk
  ·cases hk
   exact Nat.le_refl _
 have HFIN := Hd hfin
 have hst1 := hGW.os
 have hst2 := hGW.tape
 have hst3 := hGW.output
 have hsets : ∀ (vs : List Value) (b o : Nat) (W : World),(W.setCells b o vs).os = W.os ∧ (W.setCells b o vs).tape = W.tape ∧ (W.setCells b o vs).output = W.output := fun vs => by
  induction vs with
  | nil => exact fun _ _ _ => ⟨rfl,rfl,rfl⟩
  | cons v r ih => exact fun b o W => ih b (o + 1) (W.setCell ⟨b,o,none⟩ v)
 have HST := Hd (show ∀ (p q : Nat) (vs us : List Value),((W1.setCells w.heap.size p vs).setCells w.heap.size q us).os = w.os ∧ ((W1.setCells w.heap.size p vs).setCells w.heap.size q us).tape = w.tape ∧ ((W1.setCells w.heap.size p vs).setCells w.heap.size q us).output = w.output from fun p q vs us =>
  ⟨((hsets _ _ _ _).1.trans (hsets _ _ _ _).1).trans hst1,((hsets _ _ _ _).2.1.trans (hsets _ _ _ _).2.1).trans hst2,((hsets _ _ _ _).2.2.trans (hsets _ _ _ _).2.2).trans hst3⟩)
 have hw1 : IntKind.i64.wrap ((i : Int) + 1) = (i : Int) + 1 := by rw [IntKind.wrap_i64]; omega
 have hw2 : IntKind.i64.wrap ((K.length : Int) + 1) = (K.length : Int) + 1 := by rw [IntKind.wrap_i64]; omega
 have hw3 : IntKind.i64.wrap ((K.length : Int) + 1 - (i : Int)) = (K.length : Int) + 1 - (i : Int) := by rw [IntKind.wrap_i64]; omega
 have hz2 : ¬ ((i : Int) = (K.length : Int)) := by omega
 have hz3 : (c : Int) < (K.length : Int) + 1 := by omega
 have hb1 : (0 : Int) ≤ (i : Int) + 1 := by omega
 have hb3 : (i : Int) ≤ (K.length : Int) := by omega
 have htn : ((i : Int) + 1).toNat = i + 1 := by omega
 have hGi : ¬ (G = i) := by omega
 have hGim : ¬ (G = i + 1) := by omega
 have hci : ¬ (c = i) := by omega
 have hG63 : G ≤ 9223372036854775807 := by unfold maxLen at hgm; omega
 clear hB1 hB2 hfin hN hO hGW hRg hRs hROW hold hG hst1 hst2 hst3 hsets hkk hik
 have hE1 : ∀ y,((W1.setCells w.heap.size (i * 2) (entC x)).drew).cell? y = (W1.setCells w.heap.size (i * 2) (entC x)).cell? y := fun y => rfl
 have hE2 : ∀ y,((W1.setCells w.heap.size (i * 2) (entC x)).drew).frozen? y = (W1.setCells w.heap.size (i * 2) (entC x)).frozen? y := fun y => rfl
 clear hW1
 go_enter Tryz.func206,Tryz.ntmps206
 go_wp2_with (first
  | (at_builtin; refine Lib.wpList_append_run _ rfl _ _ _ _ rfl _ _ rfl rfl _ _ (hrz _) ?_)
  | (at_builtin; refine wpList_copy_runI _ rfl _ _ 64 64 rfl _ _ rfl rfl (hcpA _ (fun _ => rfl) (fun _ => rfl) _ _) ?_))
 go_region_law (refine step_copy_runI rfl _ _ 64 64 rfl (.slice (some ⟨w.heap.size,(i + 1) * 2,none⟩) (K.length - i) (G - (i + 1))) (.slice (some ⟨b,i * 2,none⟩) (K.length - i) (c - i)) (by simp [Act.eval,Act.put]) (by simp [Act.eval,Act.put]) (hcpB _ hE1 hE2 3 (G - (i + 1)) (c - i)) ?_)
 go_wp2_with fail
 rw [← drew_setCells]
 have hst := HST.out (i * 2) ((i + 1) * 2) (entC x) ((kidC K).drop (i * 2))
 go_ret
 exact HFIN.out _ rfl hst.1 hst.2.1 hst.2.2
end
theorem Ana (base : Nat) (v : Value) (K : List (List UInt8 × Int)) (i : Nat) (x : List UInt8 × Int) (vb vc : Nat) (w : World) (ho : Aba w base v K) (hi : i ≤ K.length) (hl : K.length ≤ 1048576) (hbs : base ≤ w.heap.size)
  (hv : w.heap[vb]? = some (.cells (entC x).toArray 139 (0,0))) (hvb : v.ownBlock ≠ some vb) :
  Calls Tryz.prog 206 #[v,.int .i64 i,.slice (some ⟨vb,0,none⟩) 1 vc] w fun e w' => Ajg base w v (insK K i x) e w' := by
 rcases ho.2 with ⟨rfl,h0⟩ | ⟨g,cap,cur,rfl,hb,hg,hn,hm,hs,ht⟩
 ·have e : i = K.length := by omega
  subst e
  exact Ahx ho (fun a n c e => by obtain ⟨-,-,rfl⟩ := Value.slice.inj e; omega) hl hbs hv
 ·by_cases e : i = K.length
  ·subst e
   by_cases hr : K.length + 1 ≤ cap
   ·exact Ams hs hm hr hb hg ht hv
   ·exact Ahx ho (fun a n c e => by obtain ⟨-,-,rfl⟩ := Value.slice.inj e; omega) hl hbs hv
  ·by_cases hr : K.length + 1 ≤ cap
   ·exact Atg (by omega) hs hm hr hb hg ht hv (fun e => hvb (by rw [e]; rfl))
   ·exact Aw0 ho (by omega) hn (by omega) hl hbs hv
end Go.Proofs.YtkdfbliiblojoaaGreatDoor
namespace Go.Proofs.YtkdfbliiblojoaaGreatDoor
open Go Go.RowKit
theorem Ape (n s : List UInt8) (i : Int) (w : World) :
  Calls Tryz.prog 205 #[.agg #[.string ⟨n.toArray⟩,.int .i64 i],.string ⟨s.toArray⟩] w fun e w' => e = .returned (.int .i64 (Lib.compareBytes n s)) ∧ Below w.heap.size w w' := by
 have HB := Hd (Aab w (.cells #[.string ⟨n.toArray⟩,.int .i64 i] 139))
 go_enter Tryz.func205,Tryz.ntmps205
 go_wp2_with fail
 refine (Tryz.strings_Compare _ _ _).mono ?_
 rintro e w' ⟨rfl,rfl⟩
 go_wp2_with fail
 go_ret
 exact ⟨rfl,HB.out⟩
theorem Ank (M : List (List UInt8 × Int)) (hM : M.length ≤ 1024) (hR : Afy M) (s : List UInt8) (ka : Option Addr) (kcap : Nat) (w : World) (hK : Acc w (.slice ka M.length kcap) M) :
  Calls Tryz.prog 201 #[.slice ka M.length kcap,.string ⟨s.toArray⟩,.func (.func 205) #[] #[]] w fun e w' => BAns M s e ∧ Below w.heap.size w w' := by
 obtain ⟨ka',kcap',e1,hkc,hkm,hkk⟩ := hK
 simp only [Value.slice.injEq] at e1
 obtain ⟨rfl,-,rfl⟩ := e1
 unfold maxLen at hkm
 have HK := Hd hkk
 have HR := Hd hR
 clear hkk hR
 go_enter Tryz.func201,Tryz.ntmps201
 go_wp2_with fail
 go_loopw [9,10,11] (fun i j _ wr => BRel M s w i j wr) (fun i j _ _ => (intOf j).toNat - (intOf i).toNat)
 case atStart => exact ⟨0,M.length,by omega,by omega,rfl,rfl,fun _ _ h => absurd h (Nat.not_lt_zero _),fun k hk h => absurd hk (by omega),Below.refl _ _⟩
 case round =>
  obtain ⟨i,j,hij,hj,rfl,rfl,hlo,hhi,hbr⟩ := hrel
  have HBR := Hd hbr
  have hszr := hbr.size
  clear hbr
  by_cases hlt : i < j
  ·have hih : i ≤ (i + j) / 2 := by omega
   have hhj : (i + j) / 2 < j := by omega
   have hhM : (i + j) / 2 < M.length := by omega
   obtain ⟨c1,p1,rfl,z0,z1⟩ := HK.out ((i + j) / 2) hhM
   have y0 := Aaa HBR.out z0
   have y1 := Aaa HBR.out z1
   obtain ⟨nm,hnm⟩ : ∃ nm,nm = M[(i + j) / 2].1 := ⟨_,rfl⟩
   obtain ⟨ino,hino⟩ : ∃ ino,ino = M[(i + j) / 2].2 := ⟨_,rfl⟩
   rw [← hnm] at y0
   rw [← hino] at y1
   have HNM := Hd hnm
   have hc1 := Ave nm s
   clear z0 z1 hnm hino
   go_wp2_with fail
   refine (Ape nm s ino _).mono ?_
   rintro e w2 ⟨rfl,hb2⟩
   have HB2 := Hd (HBR.out.trans (hb2.mono hszr))
   clear hb2 y0 y1
   cases hls : Op.bytesLess nm s with
   | true =>
    have hneg := Aip.2 hls
    have hlo' := Hd (show ∀ k (hk : k < M.length),k < (i + j) / 2 + 1 → Op.bytesLess M[k].1 s = true from fun k hk hkh => by
     by_cases e : k = (i + j) / 2
     ·subst e
      rw [← HNM.out]
      exact hls
     ·refine Ac2 _ _ _ (HR.out.lt k ((i + j) / 2) hhM (by omega)) ?_
      rw [← HNM.out]
      exact hls)
    clear hls
    go_wp2_with fail
    go_roundw
    case rel => exact ⟨(i + j) / 2 + 1,j,by omega,hj,by go_num,rfl,hlo',hhi,HB2.out⟩
    case measure => simp [intOf] <;> omega
   | false =>
    have hneg : ¬ Lib.compareBytes nm s < 0 := fun h => by rw [Aip.1 h] at hls; cases hls
    have hneg' : 0 ≤ Lib.compareBytes nm s := by omega
    have hhi' := Hd (show ∀ k (hk : k < M.length),(i + j) / 2 ≤ k → Op.bytesLess M[k].1 s = false from fun k hk hkh => by
     cases hb : Op.bytesLess M[k].1 s with
     | false => rfl
     | true =>
      by_cases e : k = (i + j) / 2
      ·subst e
       rw [← HNM.out,hls] at hb
       cases hb
      ·have h1 := Ac2 _ _ _ (HR.out.lt ((i + j) / 2) k hk (by omega)) hb
       rw [← HNM.out,hls] at h1
       cases h1)
    clear hls hneg
    go_wp2_with fail
    go_roundw
    case rel => exact ⟨i,(i + j) / 2,hih,by omega,rfl,by go_num,hlo,hhi',HB2.out⟩
    case measure => simp [intOf] <;> omega
  ·obtain rfl : i = j := by omega
   have HFIN := Hd (show ∀ (e : Ending) (v : Bool),e = .returned (.tuple #[.int .i64 i,.bool v]) → (v = true ↔ ∃ h : i < M.length,M[i].1 = s) → BAns M s e from fun e v h1 h2 => ⟨i,v,h1,hj,h2,hlo.out,hhi.out⟩)
   by_cases hin : i < M.length
   ·obtain ⟨c1,p1,rfl,z0,z1⟩ := HK.out i hin
    have y0 := Aaa HBR.out z0
    have y1 := Aaa HBR.out z1
    obtain ⟨nm,hnm⟩ : ∃ nm,nm = M[i].1 := ⟨_,rfl⟩
    obtain ⟨ino,hino⟩ : ∃ ino,ino = M[i].2 := ⟨_,rfl⟩
    rw [← hnm] at y0
    rw [← hino] at y1
    have HNM := Hd hnm
    clear z0 z1 hnm hino hlt
    go_wp2_with fail
    refine (Ape nm s ino _).mono ?_
    rintro e w2 ⟨rfl,hb2⟩
    have HB2 := Hd (HBR.out.trans (hb2.mono hszr))
    clear hb2 y0 y1
    go_wp2_with fail
    go_ret2
    refine ⟨HFIN.out _ _ rfl ?_,HB2.out⟩
    rw [beq_iff_eq,Apc,HNM.out]
    exact ⟨fun h => ⟨hin,h⟩,fun ⟨_,h⟩ => h⟩
   ·have hin' : M.length ≤ i := by omega
    clear hlt
    go_wp2_with fail
    go_ret2
    exact ⟨HFIN.out _ _ rfl (by simp [hin]),HBR.out⟩
end Go.Proofs.YtkdfbliiblojoaaGreatDoor
