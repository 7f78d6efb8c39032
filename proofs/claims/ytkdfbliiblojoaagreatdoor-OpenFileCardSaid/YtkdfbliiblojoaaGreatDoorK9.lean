import Derived.Test.YtkdfbliiblojoaaGreatDoorK8
import Derived.Laws.AppendOwn
import Derived.Deep.Cut
set_option linter.all false
set_option maxRecDepth 100000
set_option maxHeartbeats 64000000
namespace Go.Proofs.YtkdfbliiblojoaaGreatDoor
open Go Go.RowKit
theorem Ap7 {x : Ino} (ha : Abo x = true) (h0 : x.kind ≠ 0) (h2 : x.kind ≠ 2) (h3 : x.kind ≠ 3) : x.kind = 1 := by
 unfold Abo at ha
 rw [if_neg h0] at ha
 split at ha
 ·cases ha
 split at ha
 ·assumption
 first
 | cases ha
 | (rw [if_neg h3,if_neg h2] at ha; cases ha)
theorem Aho {L : List Ino} {np : Nat} {o : Opn} (h0 : o.off = 0) (h1 : o.refs = 1) (h : (o.kind = 1 ∧ (o.flags = 1 ∨ o.flags = 2 ∨ o.flags = 3 ∨ o.flags = 6 ∨ o.flags = 7) ∧ ∃ n : Nat,∃ hn : n < L.length,o.at_ = (n : Int) ∧ L[n].kind = 1) ∨
   (o.kind = 2 ∧ (∃ n : Nat,n < np ∧ o.at_ = (n : Int)) ∧ o.off = 0 ∧ o.flags = 1) ∨
   (o.kind = 3 ∧ (∃ n : Nat,n < np ∧ o.at_ = (n : Int)) ∧ o.off = 0 ∧ o.flags = 2) ∨
   (o.kind = 4 ∧ (o.at_ = 0 ∨ o.at_ = 1) ∧ o.off = 0 ∧ o.flags = 2)) : Abb L np o := .inr ⟨by omega,by omega,by omega,by omega,h⟩
def Aer (L L' : List Ino) : Prop := ∀ n (hn : n < L.length),L[n].kind = 1 → ∃ hn' : n < L'.length,L'[n].kind = 1
theorem Ads (L : List Ino) : Aer L L := fun _ hn h => ⟨hn,h⟩
theorem Aj3 {L : List Ino} {k : Nat} (hk : k < L.length) (d : List UInt8) : Aer L (Agm L k d) := fun n hn h => by
 refine ⟨by rw [Agg]; exact hn,?_⟩
 unfold Agm
 rw [List.getElem_set]
 split
 ·rename_i e
  subst e
  rw [Aad L k hk]
  exact h
 ·exact h
def Aa3 (how : Int) : Int × Int := if how = 0 then (4,1) else if how = 2 then (2,6) else if how = 3 then (6,3) else (2,2)
def Aaz (L : List Ino) (b cwd : Int) (p : List UInt8) (how : Int) : List Ino × Int × Int :=
 if (Acv L cwd p true).2 = 2 ∧ how ≠ 0 then Ae3 L cwd p 6 else
 if (Acv L cwd p true).2 ≠ 0 then (L,0,(Acv L cwd p true).2) else
 if how = 4 ∧ (Aaf L (Acv L cwd p true).1).kind = 1 then (L,0,17) else
 if (Aaf L (Acv L cwd p true).1).kind = 2 ∧ how ≠ 0 then (L,0,21) else
 if mayL L (Acv L cwd p true).1 (Aa3 how).1 = false then (L,0,13) else
 if (Aaf L (Acv L cwd p true).1).kind = 2 then (L,0,21) else
 if how = 1 ∨ how = 4 then ((cutW L b (Acv L cwd p true).1 0).1,(Acv L cwd p true).1,(cutW L b (Acv L cwd p true).1 0).2) else (L,(Acv L cwd p true).1,0)
theorem Amm {L : List Ino} {m b : Int} (hF : FitP L m b) {cwd : Int} {p : List UInt8} {how : Int} {L' : List Ino} {ino : Int} (hz : Aaz L b cwd p how = (L',ino,0)) :
  FitP L' m b ∧ Aer L L' ∧ ∃ n : Nat,∃ hn : n < L'.length,ino = (n : Int) ∧ L'[n].kind = 1 := by
 unfold Aaz at hz
 split at hz
 ·-- it is made
  obtain ⟨-,hM⟩ := (Ait hF hz).1 rfl
  obtain ⟨d,s,j,rfl,-,hL,⟨hj,hj0⟩,hA,-⟩ := hM.made
  have hfit := hA.fits
  rw [← hL] at hfit
  have hd := hA.dlt
  have hdj : d ≠ j := hA.ne
  have hdk := hA.dir
  refine ⟨hfit,fun n hn h1 => ?_,j,by rw [hL,Acy]; exact hj,rfl,?_⟩
  ·refine ⟨by rw [hL,Acy]; exact hn,?_⟩
   subst hL
   rw [Ahq hd s _ n hn]
   have e1 : d ≠ n := fun e => by subst e; omega
   have e2 : j ≠ n := fun e => by subst e; omega
   rw [if_neg e1,if_neg e2]
   exact h1
  ·subst hL
   rw [Ahq hd s _ j hj,if_neg hdj,if_pos rfl]
   rfl
 split at hz
 ·rename_i h2
  simp only [Prod.mk.injEq] at hz
  exact absurd hz.2.2 h2
 rename_i hw0
 have hw : (Acv L cwd p true).2 = 0 := by simpa using hw0
 obtain ⟨hlive,h3⟩ := (Alt hF cwd p).2 hw
 obtain ⟨n,hn,hwz,hk0⟩ := Apz hlive
 rw [hwz] at hz h3
 rw [Aad L n hn] at hz h3
 split at hz
 ·simp only [Prod.mk.injEq] at hz
  exact absurd hz.2.2 (by decide)
 split at hz
 ·simp only [Prod.mk.injEq] at hz
  exact absurd hz.2.2 (by decide)
 split at hz
 ·simp only [Prod.mk.injEq] at hz
  exact absurd hz.2.2 (by decide)
 split at hz
 ·simp only [Prod.mk.injEq] at hz
  exact absurd hz.2.2 (by decide)
 rename_i h2
 have h1 : L[n].kind = 1 := Ap7 (hF.ins n hn).1 hk0 h2 h3
 split at hz
 ·simp only [Prod.mk.injEq] at hz
  obtain ⟨hL,rfl,he⟩ := hz
  have hc : cutW L b (n : Int) 0 = (L',0) := Prod.ext hL he
  obtain ⟨n',o,hn',e,-,-,-,hL2,hF2⟩ := (Bam hF hc).1 rfl
  obtain rfl : n = n' := by omega
  refine ⟨hF2,by rw [hL2]; exact Aj3 hn _,n,by rw [hL2,Agg]; exact hn,rfl,?_⟩
  have h5 := Awd hn (cutL L[n].data o) (by rw [Agg]; exact hn)
  subst hL2
  rw [h5]
  exact h1
 ·simp only [Prod.mk.injEq] at hz
  obtain ⟨rfl,rfl,-⟩ := hz
  exact ⟨hF,Ads L,n,hn,rfl,h1⟩
theorem Anu (how : Int) : (Aa3 how).2 = 1 ∨ (Aa3 how).2 = 2 ∨ (Aa3 how).2 = 3 ∨ (Aa3 how).2 = 6 ∨ (Aa3 how).2 = 7 := by
 unfold Aa3
 split
 ·exact .inl rfl
 split
 ·exact .inr (.inr (.inr (.inl rfl)))
 split
 ·exact .inr (.inr (.inl rfl))
 ·exact .inr (.inl rfl)
theorem Axt {k : Krn} {f : List Int} {er ew : Nat → Int} (h : FitE k f er ew) {L' : List Ino} (hF : FitP L' k.m k.b) (hs : Aer k.tree L') : FitE { k with tree := L' } f er ew :=
 ⟨hF,h.np,h.no,h.o0,h.o1,fun i hi => Ahb (h.opens i hi) (Nat.le_refl _) hs,h.pipes,h.len,h.fds⟩
def Ah7 (k : Krn) (f : List Int) (fd cwd : Int) (p : List UInt8) (how : Int) : Krn × List Int × Int :=
 if isFd fd = false then (k,f,9) else if how < 0 ∨ 5 ≤ how then (k,f,22) else
 if (Aaz k.tree k.b cwd p how).2.2 ≠ 0 then (k,f,(Aaz k.tree k.b cwd p how).2.2) else
 if (putK k.opens ⟨1,(Aaz k.tree k.b cwd p how).2.1,0,(Aa3 how).2,1⟩).2 = 0 then (k,f,24) else
 ((Aat { k with tree := (Aaz k.tree k.b cwd p how).1,opens := (putK k.opens ⟨1,(Aaz k.tree k.b cwd p how).2.1,0,(Aa3 how).2,1⟩).1 } f fd.toNat).1,
  (Aat { k with tree := (Aaz k.tree k.b cwd p how).1,opens := (putK k.opens ⟨1,(Aaz k.tree k.b cwd p how).2.1,0,(Aa3 how).2,1⟩).1 } f fd.toNat).2.set fd.toNat (putK k.opens ⟨1,(Aaz k.tree k.b cwd p how).2.1,0,(Aa3 how).2,1⟩).2,0)
theorem Ahh (er : Nat → Int) (kd : Int) (o : Opn) (h : o.kind ≠ kd) : Aby er kd o = er := by
 funext i
 unfold Aby
 have : ¬ Acd kd i o = true := by
  unfold Acd
  have e : (o.kind == kd) = false := by simpa using h
  rw [e]
  simp
 rw [if_neg this]
 omega
theorem Auc {k : Krn} {f : List Int} (h : FitK k f) {fd cwd : Int} {p : List UInt8} {how : Int} {k' : Krn} {f' : List Int} {e : Int} (hz : Ah7 k f fd cwd p how = (k',f',e)) : FitK k' f' ∧ (e ≠ 0 → k' = k ∧ f' = f) := by
 unfold Ah7 at hz
 split at hz
 ·simp only [Prod.mk.injEq] at hz
  obtain ⟨rfl,rfl,rfl⟩ := hz
  exact ⟨h,fun _ => ⟨rfl,rfl⟩⟩
 rename_i hfd
 split at hz
 ·simp only [Prod.mk.injEq] at hz
  obtain ⟨rfl,rfl,rfl⟩ := hz
  exact ⟨h,fun _ => ⟨rfl,rfl⟩⟩
 obtain ⟨⟨L',ino,et⟩,ht⟩ : ∃ r,Aaz k.tree k.b cwd p how = r := ⟨_,rfl⟩
 rw [ht] at hz
 simp only at hz
 split at hz
 ·simp only [Prod.mk.injEq] at hz
  obtain ⟨rfl,rfl,rfl⟩ := hz
  exact ⟨h,fun _ => ⟨rfl,rfl⟩⟩
 rename_i het
 obtain rfl : et = 0 := by simpa using het
 obtain ⟨⟨O',a⟩,hp⟩ : ∃ r,putK k.opens ⟨1,ino,0,(Aa3 how).2,1⟩ = r := ⟨_,rfl⟩
 rw [hp] at hz
 simp only at hz
 split at hz
 ·simp only [Prod.mk.injEq] at hz
  obtain ⟨rfl,rfl,rfl⟩ := hz
  exact ⟨h,fun _ => ⟨rfl,rfl⟩⟩
 rename_i ha
 simp only [Prod.mk.injEq] at hz
 obtain ⟨rfl,rfl,rfl⟩ := hz
 refine ⟨?_,fun h0 => absurd rfl h0⟩
 obtain ⟨q,rfl,hq⟩ := Ach (show isFd fd = true by simpa using hfd)
 rw [Int.toNat_natCast]
 obtain ⟨hF,hs,n,hn,rfl,h1⟩ := Amm h.tree ht
 have hT := Axt h hF hs
 have hg : Abb L' k.pipes.length ⟨1,(n : Int),0,(Aa3 how).2,1⟩ := Aho rfl rfl (.inl ⟨rfl,Anu how,n,hn,rfl,h1⟩)
 obtain ⟨j,rfl,hS,hE,-⟩ := An6 hT hg (show (1 : Int) ≠ 0 by decide) rfl hp ha
 rw [Ahh _ 2 _ (show (1 : Int) ≠ 2 by decide),Ahh _ 3 _ (show (1 : Int) ≠ 3 by decide)] at hE
 have hql : q < f.length := by rw [h.len]; exact hq
 have hE2 := Agd hE Adh Adh hql
 have hS2 := Aej hE hql hS
 have hl2 : q < (Aat { k with tree := L',opens := O' } f q).2.length := by rw [(Ae1 _ _ _).2]; exact hql
 have hz2 := Ag6 hE hql q
 rw [if_pos rfl,Abd _ q hl2] at hz2
 exact Ah9 hE2 hl2 hz2 hS2
def Ac7 (P : List Pip) : Nat := match (P.drop 1).findIdx? (fun p => p.rd == 0 && p.wr == 0) with | some i => i + 1 | none => P.length
theorem Al3 {P : List Pip} {at_ : Nat} (h : Ac7 P = at_) : at_ = P.length ∨ (0 < at_ ∧ ∃ ha : at_ < P.length,P[at_].rd = 0 ∧ P[at_].wr = 0) := by
 unfold Ac7 at h
 split at h
 ·rename_i i hi
  obtain ⟨h1,h2,-⟩ := List.findIdx?_eq_some_iff_getElem.1 hi
  subst h
  rw [List.length_drop] at h1
  rw [List.getElem_drop] at h2
  simp only [Bool.and_eq_true,beq_iff_eq] at h2
  have e : 1 + i = i + 1 := by omega
  refine .inr ⟨by omega,by omega,?_⟩
  simp only [e] at h2
  exact h2
 ·exact .inl h.symm
def Adf (P : List Pip) (at_ : Nat) (p : Pip) : List Pip := if at_ = P.length then P ++ [p] else P.set at_ p
def Ai8 (k : Krn) (f : List Int) (r w size : Int) : Krn × List Int × Int :=
 if isFd r = false ∨ isFd w = false then (k,f,9) else if r = w then (k,f,22) else if (Aao size).2 ≠ 0 then (k,f,(Aao size).2) else
 if 32 ≤ Ac7 k.pipes then (k,f,24) else
 if (putK k.opens ⟨2,(Ac7 k.pipes : Int),0,1,1⟩).2 = 0 then (k,f,24) else
 if (putK (putK k.opens ⟨2,(Ac7 k.pipes : Int),0,1,1⟩).1 ⟨3,(Ac7 k.pipes : Int),0,2,1⟩).2 = 0 then (k,f,24) else
 let x := { k with pipes := Adf k.pipes (Ac7 k.pipes) (Aao size).1,opens := (putK (putK k.opens ⟨2,(Ac7 k.pipes : Int),0,1,1⟩).1 ⟨3,(Ac7 k.pipes : Int),0,2,1⟩).1 }
 let y := Aat x f r.toNat
 let z := Aat y.1 y.2 w.toNat
 (z.1,(z.2.set r.toNat (putK k.opens ⟨2,(Ac7 k.pipes : Int),0,1,1⟩).2).set w.toNat (putK (putK k.opens ⟨2,(Ac7 k.pipes : Int),0,1,1⟩).1 ⟨3,(Ac7 k.pipes : Int),0,2,1⟩).2,0)
def Afg (a : Nat) : Nat → Int := fun i => if i = a then 1 else 0
theorem An9 {k : Krn} {f : List Int} (h : FitK k f) {at_ : Nat} (hat : Ac7 k.pipes = at_) (h32 : at_ < 32) {size : Int} (hn : (Aao size).2 = 0) : FitE { k with pipes := Adf k.pipes at_ (Aao size).1 } f (Afg at_) (Afg at_) ∧ at_ < (Adf k.pipes at_ (Aao size).1).length := by
 obtain ⟨n1,n2,n3⟩ := Ap2 hn
 have hrd : (Aao size).1.rd = 1 ∧ (Aao size).1.wr = 1 := by
  unfold Aao at hn ⊢
  split at hn
  ·exact absurd hn (by decide)
  ·rename_i hs
   rw [if_neg hs]
   exact ⟨rfl,rfl⟩
 rcases Al3 hat with hl | ⟨hpos,hlt,hr0,hw0⟩
 ·-- behind all
  have hW : Adf k.pipes at_ (Aao size).1 = k.pipes ++ [(Aao size).1] := by unfold Adf; rw [if_pos hl]
  have hlen : (k.pipes ++ [(Aao size).1]).length = k.pipes.length + 1 := by simp
  have hnone : ∀ kd : Int,kd = 2 ∨ kd = 3 → Abl k.opens kd at_ = 0 := fun kd hkd => by
   unfold Abl
   rw [List.countP_eq_zero]
   intro o ho hE
   obtain ⟨q,hq,rfl⟩ := List.getElem_of_mem ho
   unfold Acd at hE
   simp only [Bool.and_eq_true,beq_iff_eq] at hE
   rcases h.opens q hq with hg | ⟨-,-,-,-,⟨a,-⟩ | ⟨a,⟨n,b,c⟩,-⟩ | ⟨a,⟨n,b,c⟩,-⟩ | ⟨a,-⟩⟩
   ·rw [hg] at hE
    have : Aap.kind = 0 := rfl
    omega
   all_goals omega
  rw [hW]
  refine ⟨⟨h.tree,by show (k.pipes ++ [(Aao size).1]).length ≤ 32; omega,h.no,h.o0,h.o1,fun i hi => Ahb (h.opens i hi) (by show k.pipes.length ≤ (k.pipes ++ [(Aao size).1]).length; omega) (Ads _),fun i hi => ?_,h.len,h.fds⟩,by omega⟩
  have hi' : i < (k.pipes ++ [(Aao size).1]).length := hi
  show Abw (k.pipes ++ [(Aao size).1])[i] = true ∧ (k.pipes ++ [(Aao size).1])[i].rd = (Abl k.opens 2 i : Int) + Afg at_ i ∧ ((k.pipes ++ [(Aao size).1])[i].wr = (Abl k.opens 3 i : Int) + Afg at_ i ∨ (i = 0 ∧ (k.pipes ++ [(Aao size).1])[i].wr ≤ (Abl k.opens 3 i : Int) + Afg at_ i))
  by_cases e : i < k.pipes.length
  ·obtain ⟨p1,p2,p3⟩ := h.pipes i e
   have hz : Afg at_ i = 0 := by unfold Afg; rw [if_neg (by omega)]
   have hz0 : Afz i = 0 := rfl
   rw [List.getElem_append_left e,hz]
   rw [hz0] at p2 p3
   exact ⟨p1,p2,p3⟩
  ·have e2 : i = k.pipes.length := by omega
   have e3 : i = at_ := by omega
   have h2 := hnone 2 (.inl rfl)
   have h3 := hnone 3 (.inr rfl)
   have ho : Afg at_ i = 1 := by unfold Afg; rw [if_pos e3]
   rw [← e3] at h2 h3
   rw [ho,h2,h3]
   have hx : (k.pipes ++ [(Aao size).1])[i] = (Aao size).1 := by
    simp only [e2]
    exact List.getElem_concat_length rfl _
   rw [hx]
   exact ⟨n1,hrd.1,.inl hrd.2⟩
 ·-- in the place of one without ends
  have hW : Adf k.pipes at_ (Aao size).1 = k.pipes.set at_ (Aao size).1 := by unfold Adf; rw [if_neg (by omega)]
  have hlen : (k.pipes.set at_ (Aao size).1).length = k.pipes.length := List.length_set ..
  rw [hW]
  refine ⟨⟨h.tree,by show (k.pipes.set at_ (Aao size).1).length ≤ 32; rw [hlen]; exact h.np,h.no,h.o0,h.o1,fun i hi => Ahb (h.opens i hi) (by show k.pipes.length ≤ (k.pipes.set at_ (Aao size).1).length; omega) (Ads _),fun i hi => ?_,h.len,h.fds⟩,by omega⟩
  have hi' : i < (k.pipes.set at_ (Aao size).1).length := hi
  have hik : i < k.pipes.length := by omega
  obtain ⟨p1,p2,p3⟩ := h.pipes i hik
  have hz0 : Afz i = 0 := rfl
  rw [hz0] at p2 p3
  show Abw (k.pipes.set at_ (Aao size).1)[i] = true ∧ (k.pipes.set at_ (Aao size).1)[i].rd = (Abl k.opens 2 i : Int) + Afg at_ i ∧ ((k.pipes.set at_ (Aao size).1)[i].wr = (Abl k.opens 3 i : Int) + Afg at_ i ∨ (i = 0 ∧ (k.pipes.set at_ (Aao size).1)[i].wr ≤ (Abl k.opens 3 i : Int) + Afg at_ i))
  by_cases e : at_ = i
  ·subst e
   have hone : Afg at_ at_ = 1 := by unfold Afg; rw [if_pos rfl]
   rw [hone,List.getElem_set_self]
   exact ⟨n1,by omega,.inl (by omega)⟩
  ·have hone : Afg at_ i = 0 := by unfold Afg; rw [if_neg (by omega)]
   rw [hone,List.getElem_set_ne e]
   exact ⟨p1,p2,p3⟩
theorem As8 {k : Krn} {f : List Int} (h : FitK k f) {r w size : Int} {k' : Krn} {f' : List Int} {e : Int} (hz : Ai8 k f r w size = (k',f',e)) : FitK k' f' ∧ (e ≠ 0 → k' = k ∧ f' = f) := by
 unfold Ai8 at hz
 split at hz
 ·simp only [Prod.mk.injEq] at hz
  obtain ⟨rfl,rfl,rfl⟩ := hz
  exact ⟨h,fun _ => ⟨rfl,rfl⟩⟩
 rename_i hfd
 split at hz
 ·simp only [Prod.mk.injEq] at hz
  obtain ⟨rfl,rfl,rfl⟩ := hz
  exact ⟨h,fun _ => ⟨rfl,rfl⟩⟩
 rename_i hne
 split at hz
 ·simp only [Prod.mk.injEq] at hz
  obtain ⟨rfl,rfl,rfl⟩ := hz
  exact ⟨h,fun _ => ⟨rfl,rfl⟩⟩
 rename_i hsz
 obtain ⟨at_,hat⟩ : ∃ a,Ac7 k.pipes = a := ⟨_,rfl⟩
 rw [hat] at hz
 split at hz
 ·simp only [Prod.mk.injEq] at hz
  obtain ⟨rfl,rfl,rfl⟩ := hz
  exact ⟨h,fun _ => ⟨rfl,rfl⟩⟩
 rename_i h32
 obtain ⟨⟨O1,a⟩,hp1⟩ : ∃ x,putK k.opens ⟨2,(at_ : Int),0,1,1⟩ = x := ⟨_,rfl⟩
 rw [hp1] at hz
 simp only at hz
 split at hz
 ·simp only [Prod.mk.injEq] at hz
  obtain ⟨rfl,rfl,rfl⟩ := hz
  exact ⟨h,fun _ => ⟨rfl,rfl⟩⟩
 rename_i ha
 obtain ⟨⟨O2,c⟩,hp2⟩ : ∃ x,putK O1 ⟨3,(at_ : Int),0,2,1⟩ = x := ⟨_,rfl⟩
 rw [hp2] at hz
 simp only at hz
 split at hz
 ·simp only [Prod.mk.injEq] at hz
  obtain ⟨rfl,rfl,rfl⟩ := hz
  exact ⟨h,fun _ => ⟨rfl,rfl⟩⟩
 rename_i hc
 simp only [Prod.mk.injEq] at hz
 obtain ⟨rfl,rfl,rfl⟩ := hz
 refine ⟨?_,fun h0 => absurd rfl h0⟩
 simp only [not_or] at hfd
 obtain ⟨q,rfl,hq⟩ := Ach (show isFd r = true by simpa using hfd.1)
 obtain ⟨u,rfl,hu⟩ := Ach (show isFd w = true by simpa using hfd.2)
 rw [Int.toNat_natCast,Int.toNat_natCast]
 have hqu : q ≠ u := fun e => hne (by rw [e])
 obtain ⟨hN,hatl⟩ := An9 h hat (by omega) (show (Aao size).2 = 0 by simpa using hsz)
 obtain ⟨k1,hk1⟩ : ∃ x : Krn,x = { k with pipes := Adf k.pipes at_ (Aao size).1 } := ⟨_,rfl⟩
 rw [← hk1] at hN
 have hpl : k1.pipes.length = (Adf k.pipes at_ (Aao size).1).length := by rw [hk1]
 have hp1' : putK k1.opens ⟨2,(at_ : Int),0,1,1⟩ = (O1,a) := by rw [hk1]; exact hp1
 obtain ⟨j,rfl,hS,hE,-⟩ := An6 hN (o := ⟨2,(at_ : Int),0,1,1⟩) (Aho rfl rfl (.inr (.inl ⟨rfl,⟨at_,by omega,rfl⟩,rfl,rfl⟩))) (show (2 : Int) ≠ 0 by decide) rfl hp1' ha
 obtain ⟨k2,hk2⟩ : ∃ x : Krn,x = { k1 with opens := O1 } := ⟨_,rfl⟩
 rw [← hk2] at hE hS
 have hp2' : putK k2.opens ⟨3,(at_ : Int),0,2,1⟩ = (O2,c) := by rw [hk2]; exact hp2
 obtain ⟨j2,rfl,hS2,hE2,hSS⟩ := An6 hE (o := ⟨3,(at_ : Int),0,2,1⟩) (Aho rfl rfl (.inr (.inr (.inl ⟨rfl,⟨at_,by rw [hk2]; show at_ < k1.pipes.length; omega,rfl⟩,rfl,rfl⟩)))) (show (3 : Int) ≠ 0 by decide) rfl hp2' hc
 obtain ⟨hS1,hjj⟩ := hSS j hS
 obtain ⟨k3,hk3⟩ : ∃ x : Krn,x = { k2 with opens := O2 } := ⟨_,rfl⟩
 rw [← hk3] at hE2 hS2 hS1
 have he2 : Aby (Aby (Afg at_) 2 ⟨2,(at_ : Int),0,1,1⟩) 2 ⟨3,(at_ : Int),0,2,1⟩ = Afz := by
  rw [Ahh _ 2 ⟨3,(at_ : Int),0,2,1⟩ (show (3 : Int) ≠ 2 by decide)]
  funext i
  unfold Aby Afg Afz
  by_cases e : i = at_
  ·rw [if_pos e,if_pos (by unfold Acd; simp; omega)]; rfl
  ·rw [if_neg e,if_neg (by unfold Acd; simp; omega)]; rfl
 have he3 : Aby (Aby (Afg at_) 3 ⟨2,(at_ : Int),0,1,1⟩) 3 ⟨3,(at_ : Int),0,2,1⟩ = Afz := by
  rw [Ahh _ 3 ⟨2,(at_ : Int),0,1,1⟩ (show (2 : Int) ≠ 3 by decide)]
  funext i
  unfold Aby Afg Afz
  by_cases e : i = at_
  ·rw [if_pos e,if_pos (by unfold Acd; simp; omega)]; rfl
  ·rw [if_neg e,if_neg (by unfold Acd; simp; omega)]; rfl
 rw [he2,he3] at hE2
 have hk3e : k3 = { k with pipes := Adf k.pipes at_ (Aao size).1,opens := O2 } := by rw [hk3,hk2,hk1]
 rw [← hk3e]
 have hql : q < f.length := by rw [h.len]; exact hq
 have hul : u < f.length := by rw [h.len]; exact hu
 -- r is closed
 have hEr := Agd hE2 Adh Adh hql
 have hSr1 := Aej hE2 hql hS1
 have hSr2 := Aej hE2 hql hS2
 have hzr := fun i => Ag6 hE2 hql i
 have hlr := (Ae1 k3 f q).2
 generalize Aat k3 f q = y at hEr hSr1 hSr2 hzr hlr ⊢
 obtain ⟨ky,fy⟩ := y
 simp only at hEr hSr1 hSr2 hzr hlr ⊢
 -- w is closed
 have hul2 : u < fy.length := by omega
 have hql2 : q < fy.length := by omega
 have hEw := Agd hEr Adh Adh hul2
 have hSw1 := Aej hEr hul2 hSr1
 have hSw2 := Aej hEr hul2 hSr2
 have hzw := fun i => Ag6 hEr hul2 i
 have hlw := (Ae1 ky fy u).2
 generalize Aat ky fy u = z at hEw hSw1 hSw2 hzw hlw ⊢
 obtain ⟨kz,fz⟩ := z
 simp only at hEw hSw1 hSw2 hzw hlw ⊢
 have hq3 : q < fz.length := by omega
 have hu3 : u < fz.length := by omega
 have zq : fz[q] = 0 := by
  have h1 := hzw q
  rw [if_neg (fun e => hqu e.symm),hzr q,if_pos rfl,Abd _ q hq3] at h1
  exact h1
 have zu : fz[u] = 0 := by
  have h1 := hzw u
  rw [if_pos rfl,Abd _ u hu3] at h1
  exact h1
 have hE4 := Ah9 hEw hq3 zq hSw1
 have hS4 := Aro hq3 zq (fun e => hjj e.symm) hSw2
 have hu4 : u < (fz.set q ((j : Int) + 1)).length := by rw [List.length_set]; exact hu3
 exact Ah9 hE4 hu4 (by rw [List.getElem_set_ne hqu]; exact zu) hS4
theorem Ao6 : (Tryz.prog.info? 87).map (fun i => (i.zero,i.size,i.bytes)) = some (some (.agg #[.string ByteArray.empty,.int .i64 0,.int .i64 0,.int .i64 0]),4,40) := by kernel_rfl
theorem Apj : (Tryz.prog.info? 70).map (fun i => (i.zero,i.size,i.bytes)) = some (some (.agg #[.int .i64 0,.int .i64 0,.int .i64 0,.int .i64 0,.int .i64 0]),5,40) := by kernel_rfl
structure KOwn (W : World) (B : Nat) (A : KAd) (P : List Pip) (O : List Opn) : Prop where
 pipes : W.ownsRow B 87 4 (.slice A.pa P.length A.pc) P.length (rowC pipF P)
 opens : W.ownsRow B 70 5 (.slice A.oa O.length A.oc) O.length (rowC opnF O)
 apart : ∀ a b,A.pa = some a → A.oa = some b → a.block ≠ b.block
theorem Al1 {W : World} {B B' : Nat} {e : TypeId} {k : Nat} {v : Value} {n : Nat} {xs : List Value} (h : W.ownsRow B e k v n xs) (hb : B' ≤ B) : W.ownsRow B' e k v n xs := by
 refine ⟨h.1,?_⟩
 rcases h.2 with h | ⟨g,cap,cur,h1,h2,h3⟩
 ·exact .inl h
 ·exact .inr ⟨g,cap,cur,h1,Nat.le_trans hb h2,h3⟩
theorem KOwn.kern {W : World} {B : Nat} {A : KAd} {K : Krn} (h : KOwn W B A K.pipes K.opens) (ht : Aah W A.ta A.tc K.tree) : KernIn W A K := ⟨ht,.of_row h.pipes,.of_row h.opens⟩
theorem Aja {W : World} {B : Nat} {e : TypeId} {k : Nat} {v : Value} {n : Nat} {xs : List Value} (h : W.ownsRow B e k v n xs) : ∃ a cap,v = .slice a n cap ∧ (∀ x,a = some x → ∃ g,x = ⟨g,0,none⟩ ∧ B ≤ g ∧ g < W.heap.size) := by
 rcases h.2 with ⟨h1,h2⟩ | ⟨g,cap,cur,h1,h2,h3,-⟩
 ·subst h2
  exact ⟨none,0,h1,fun x hx => by cases hx⟩
 ·exact ⟨_,cap,h1,fun x hx => by cases hx; exact ⟨g,rfl,h2,lt_of_block h3⟩⟩
theorem Afw {W W' : World} {B B' : Nat} {e : TypeId} {k : Nat} {v : Value} {n : Nat} {xs : List Value} (h : W.ownsRow B e k v n xs) (hb : Below B' W W') (hB : W.heap.size ≤ B') : W'.ownsRow B e k v n xs := by
 refine ⟨h.1,?_⟩
 rcases h.2 with h | ⟨g,cap,cur,h1,h2,h3,h4⟩
 ·exact .inl h
 ·exact .inr ⟨g,cap,cur,h1,h2,(hb.block g (Nat.lt_of_lt_of_le (lt_of_block h3) hB)).trans h3,h4⟩
theorem An1 {W W' : World} {B : Nat} {e : TypeId} {k : Nat} {v : Value} {n : Nat} {xs : List Value} (h : W.ownsRow B e k v n xs) (hg : ∀ g,B ≤ g → W'.heap[g]? = W.heap[g]?) : W'.ownsRow B e k v n xs := by
 refine ⟨h.1,?_⟩
 rcases h.2 with h | ⟨g,cap,cur,h1,h2,h3,h4⟩
 ·exact .inl h
 ·exact .inr ⟨g,cap,cur,h1,h2,(hg g h2).trans h3,h4⟩
theorem Axw {W : World} {a : Option Addr} {n cap k : Nat} {xs : List Value} (h : SlIn W a n cap k xs) (hk : 0 < k) : ∀ ad,a = some ad → ∀ j u,xs[j]? = some u → W.cell? (ad.add j) = some u := by
 intro ad had j u hj
 by_cases h0 : n = 0
 ·have h1 := h.2.2.1
  rw [h0,Nat.zero_mul] at h1
  rw [List.length_eq_zero_iff.1 h1] at hj
  cases hj
 ·obtain ⟨b,o,ha,-,hc⟩ := h.addr (by omega) hk
  rw [had] at ha
  obtain rfl : ad = ⟨b,o,none⟩ := by simpa using ha
  rw [Ajn]
  exact hc j u hj
theorem Aoz {W : World} {n cap k : Nat} {xs : List Value} (h : SlIn W none n cap k xs) (hk : 0 < k) : n = 0 ∧ xs = [] := by
 have h0 : n = 0 := by
  rcases Nat.eq_zero_or_pos n with h0 | h0
  ·exact h0
  ·obtain ⟨b,o,ha,-⟩ := h.addr h0 hk
   cases ha
 have h1 := h.2.2.1
 rw [h0,Nat.zero_mul] at h1
 exact ⟨h0,List.length_eq_zero_iff.1 h1⟩
def Afu (k : Krn) (j : Nat) (x : Int) : Krn := { k with opens := k.opens.set j { k.opens.getD j Aap with off := x } }
def Agn (k : Krn) (i : Nat) (p : Pip) : Krn := { k with pipes := k.pipes.set i p }
section
variable {k : Krn} {f : List Int} {er ew : Nat → Int}
theorem Ar7 (h : FitE k f er ew) {j : Nat} (hj : j < k.opens.length) (h1 : k.opens[j].kind = 1) {x : Int} (hx0 : 0 ≤ x) (hx1 : x ≤ 65536) : FitE (Afu k j x) f er ew := by
 have hO : (Afu k j x).opens = k.opens.set j { k.opens[j] with off := x } := by
  unfold Afu
  rw [Abd _ j hj]
 have hlen : (Afu k j x).opens.length = k.opens.length := by rw [hO]; exact List.length_set ..
 have hat : ∀ i (hi : i < k.opens.length),(Afu k j x).opens[i]'(by rw [hlen]; exact hi) = if j = i then { k.opens[j] with off := x } else k.opens[i] := fun i hi => by simp only [hO,List.getElem_set]
 have hends : ∀ kd i,Abl (Afu k j x).opens kd i = Abl k.opens kd i := fun kd i => by
  have h2 := Agz k.opens j hj { k.opens[j] with off := x } kd i
  have h3 : Acd kd i { k.opens[j] with off := x } = Acd kd i k.opens[j] := rfl
  rw [h3,← hO] at h2
  omega
 refine ⟨h.tree,h.np,by rw [hlen]; exact h.no,h.o0,h.o1,fun i hi => ?_,fun i hi => ?_,h.len,fun i hi => ?_⟩
 ·have hi' : i < k.opens.length := by rw [hlen] at hi; exact hi
  rw [hat i hi']
  split
  ·rename_i e
   subst e
   rcases h.opens j hj with hg | ⟨a1,a2,a3,a4,a5⟩
   ·rw [hg] at h1; exact absurd h1 (by decide)
   ·refine .inr ⟨a1,a2,hx0,hx1,?_⟩
    rcases a5 with a5 | ⟨b,-⟩ | ⟨b,-⟩ | ⟨b,-⟩
    ·exact .inl a5
    all_goals omega
  ·exact h.opens i hi'
 ·rw [hends,hends]
  exact h.pipes i hi
 ·rcases h.fds i hi with h2 | ⟨j2,hj2,h2,h3,h4⟩
  ·exact .inl h2
  ·refine .inr ⟨j2,by rw [hlen]; exact hj2,h2,?_⟩
   rw [hat j2 hj2]
   split
   ·rename_i e
    subst e
    exact ⟨h3,h4⟩
   ·exact ⟨h3,h4⟩
theorem Asy (h : FitE k f er ew) {i : Nat} (hi : i < k.pipes.length) {p : Pip} (hp : Abw p = true) (hrd : p.rd = k.pipes[i].rd) (hwr : p.wr = k.pipes[i].wr) : FitE (Agn k i p) f er ew := by
 have hlen : (Agn k i p).pipes.length = k.pipes.length := List.length_set ..
 refine ⟨h.tree,by rw [hlen]; exact h.np,h.no,h.o0,h.o1,fun q hq => Ahb (h.opens q hq) (by rw [hlen]; exact Nat.le_refl _) (Ads _),fun q hq => ?_,h.len,h.fds⟩
 have hq' : q < k.pipes.length := by rw [hlen] at hq; exact hq
 have e : (Agn k i p).pipes[q] = if i = q then p else k.pipes[q] := by
  show (k.pipes.set i p)[q]'(by rw [List.length_set]; exact hq') = _
  rw [List.getElem_set]
 rw [e]
 split
 ·rename_i e2
  subst e2
  obtain ⟨p1,p2,p3⟩ := h.pipes i hi
  refine ⟨hp,hrd.trans p2,?_⟩
  rw [hwr]
  exact p3
 ·exact h.pipes q hq'
theorem Aup (h : FitE k f er ew) {o0 o1 : List UInt8} (h0 : o0.length ≤ 65536) (h1 : o1.length ≤ 65536) : FitE { k with out0 := o0,out1 := o1 } f er ew := ⟨h.tree,h.np,h.no,h0,h1,h.opens,h.pipes,h.len,h.fds⟩
end
theorem Au6 {p : Pip} {n : Int} {q : Pip} {t : List UInt8} {e : Int} (hz : Aca p n = (q,t,e)) : q.rd = p.rd ∧ q.wr = p.wr := by
 unfold Aca at hz
 split at hz
 ·simp only [Prod.mk.injEq] at hz
  rw [← hz.1]; exact ⟨rfl,rfl⟩
 split at hz
 ·split at hz
  ·simp only [Prod.mk.injEq] at hz
   rw [← hz.1]; exact ⟨rfl,rfl⟩
  ·simp only [Prod.mk.injEq] at hz
   rw [← hz.1]; exact ⟨rfl,rfl⟩
 ·simp only [Prod.mk.injEq] at hz
  rw [← hz.1]; exact ⟨rfl,rfl⟩
theorem Aqr {p : Pip} {s : List UInt8} {q : Pip} {n e : Int} (hz : Abu p s = (q,n,e)) : q.rd = p.rd ∧ q.wr = p.wr := by
 unfold Abu at hz
 split at hz
 ·simp only [Prod.mk.injEq] at hz
  rw [← hz.1]; exact ⟨rfl,rfl⟩
 split at hz
 ·simp only [Prod.mk.injEq] at hz
  rw [← hz.1]; exact ⟨rfl,rfl⟩
 split at hz
 ·simp only [Prod.mk.injEq] at hz
  rw [← hz.1]; exact ⟨rfl,rfl⟩
 ·simp only [Prod.mk.injEq] at hz
  rw [← hz.1]; exact ⟨rfl,rfl⟩
def Adb (k : Krn) (f : List Int) (fd n : Int) : Krn × List UInt8 × Int :=
 if isFd fd = false ∨ f.getD fd.toNat 0 = 0 then (k,[],9) else
 let j := (f.getD fd.toNat 0 - 1).toNat
 let o := k.opens.getD j Aap
 if o.flags % 2 = 0 then (k,[],9) else if n < 1 then (k,[],22) else
 if o.kind = 1 then (if (Afj k.tree o.at_ o.off n).2 ≠ 0 then (k,[],(Afj k.tree o.at_ o.off n).2) else (Afu k j (o.off + ((Afj k.tree o.at_ o.off n).1.length : Int)),(Afj k.tree o.at_ o.off n).1,0)) else
 if (Aca (k.pipes.getD o.at_.toNat Ab9) n).2.2 ≠ 0 then (k,[],(Aca (k.pipes.getD o.at_.toNat Ab9) n).2.2) else
 (Agn k o.at_.toNat (Aca (k.pipes.getD o.at_.toNat Ab9) n).1,(Aca (k.pipes.getD o.at_.toNat Ab9) n).2.1,0)
theorem Aoc {k : Krn} {f : List Int} (h : FitK k f) {fd n : Int} {k' : Krn} {s : List UInt8} {e : Int} (hz : Adb k f fd n = (k',s,e)) : FitK k' f ∧ (e ≠ 0 → k' = k ∧ s = []) := by
 unfold Adb at hz
 split at hz
 ·simp only [Prod.mk.injEq] at hz
  obtain ⟨rfl,rfl,rfl⟩ := hz
  exact ⟨h,fun _ => ⟨rfl,rfl⟩⟩
 rename_i hn
 simp only [not_or] at hn
 obtain ⟨q,rfl,hq⟩ := Ach (show isFd fd = true by simpa using hn.1)
 have hql : q < f.length := by rw [h.len]; exact hq
 have hn2 := hn.2
 rw [Int.toNat_natCast,h.at_zero hql] at hn2
 obtain ⟨j,hj,h1,h2,-⟩ := h.desc hql hn2
 rw [Int.toNat_natCast,h.at_zero hql,h1,show ((j : Int) + 1 - 1).toNat = j by omega] at hz
 simp only at hz
 rw [Abd _ j hj] at hz
 split at hz
 ·simp only [Prod.mk.injEq] at hz
  obtain ⟨rfl,rfl,rfl⟩ := hz
  exact ⟨h,fun _ => ⟨rfl,rfl⟩⟩
 rename_i hfl
 split at hz
 ·simp only [Prod.mk.injEq] at hz
  obtain ⟨rfl,rfl,rfl⟩ := hz
  exact ⟨h,fun _ => ⟨rfl,rfl⟩⟩
 split at hz
 ·rename_i hk1
  split at hz
  ·simp only [Prod.mk.injEq] at hz
   obtain ⟨rfl,rfl,rfl⟩ := hz
   exact ⟨h,fun _ => ⟨rfl,rfl⟩⟩
  ·rename_i he
   simp only [Prod.mk.injEq] at hz
   obtain ⟨rfl,rfl,rfl⟩ := hz
   refine ⟨?_,fun h0 => absurd rfl h0⟩
   rcases h.opens j hj with hg | ⟨-,-,a3,a4,⟨-,-,u,hu,b1,b2⟩ | ⟨b,-⟩ | ⟨b,-⟩ | ⟨b,-⟩⟩
   ·rw [hg] at hk1; exact absurd hk1 (by decide)
   ·refine Ar7 h hj hk1 (by omega) ?_
    have hdl := Ahp k.tree u hu
    obtain ⟨-,-,-,l4,l5⟩ := h.tree.limits
    have hb : ∀ x : List UInt8 × Int,x = Afj k.tree k.opens[j].at_ k.opens[j].off n → k.opens[j].off + (x.1.length : Int) ≤ 65536 := fun x hx => by
     unfold Afj at hx
     split at hx
     ·rw [hx]; show _ + ((0 : Nat) : Int) ≤ _; omega
     split at hx
     ·rw [hx]; show _ + ((0 : Nat) : Int) ≤ _; omega
     ·rw [hx,b1,Aad k.tree u hu]
      show _ + ((((k.tree[u].data.drop k.opens[j].off.toNat).take n.toNat).length : Nat) : Int) ≤ _
      rw [List.length_take,List.length_drop]
      omega
    exact hb _ rfl
   all_goals omega
 ·rename_i hk1
  split at hz
  ·simp only [Prod.mk.injEq] at hz
   obtain ⟨rfl,rfl,rfl⟩ := hz
   exact ⟨h,fun _ => ⟨rfl,rfl⟩⟩
  ·simp only [Prod.mk.injEq] at hz
   obtain ⟨rfl,rfl,rfl⟩ := hz
   refine ⟨?_,fun h0 => absurd rfl h0⟩
   have hpipe : ∃ u : Nat,u < k.pipes.length ∧ k.opens[j].at_ = (u : Int) := by
    rcases h.opens j hj with hg | ⟨-,-,-,-,⟨b,-⟩ | ⟨-,b,-⟩ | ⟨-,b,-⟩ | ⟨-,-,-,b⟩⟩
    ·rw [hg] at h2; exact absurd rfl h2
    ·omega
    ·exact b
    ·exact b
    ·rw [b] at hfl; exact absurd rfl hfl
   obtain ⟨u,hu,hat⟩ := hpipe
   rw [hat,Int.toNat_natCast,Abd _ u hu]
   obtain ⟨⟨p',t,e'⟩,hr⟩ : ∃ x,Aca k.pipes[u] n = x := ⟨_,rfl⟩
   rw [hr]
   obtain ⟨e1,e2⟩ := Au6 hr
   exact Asy h hu (Av8 (h.pipes u hu).1 hr).1 e1 e2
def Ab5 (k : Krn) (f : List Int) (fd : Int) (s : List UInt8) : Krn × Int × Int :=
 if isFd fd = false ∨ f.getD fd.toNat 0 = 0 then (k,0,9) else
 let j := (f.getD fd.toNat 0 - 1).toNat
 let o := k.opens.getD j Aap
 if o.flags / 2 % 2 = 0 then (k,0,9) else
 if o.kind = 1 then
  let off := if 4 ≤ o.flags then ((Aaf k.tree o.at_).data.length : Int) else o.off
  (if (Aes k.tree k.b o.at_ off s).2 ≠ 0 then (k,0,(Aes k.tree k.b o.at_ off s).2) else (Afu { k with tree := (Aes k.tree k.b o.at_ off s).1 } j (off + (s.length : Int)),(s.length : Int),0))
 else if o.kind = 4 then
  (if o.at_ = 0 then (if 65536 - (k.out0.length : Int) < (s.length : Int) then (k,0,28) else ({ k with out0 := k.out0 ++ s,out1 := k.out1 },(s.length : Int),0))
   else (if 65536 - (k.out1.length : Int) < (s.length : Int) then (k,0,28) else ({ k with out0 := k.out0,out1 := k.out1 ++ s },(s.length : Int),0)))
 else if (Abu (k.pipes.getD o.at_.toNat Ab9) s).2.2 ≠ 0 then (k,0,(Abu (k.pipes.getD o.at_.toNat Ab9) s).2.2) else
 (Agn k o.at_.toNat (Abu (k.pipes.getD o.at_.toNat Ab9) s).1,(Abu (k.pipes.getD o.at_.toNat Ab9) s).2.1,0)
theorem At8 {L : List Ino} {m b : Int} (hF : FitP L m b) {k off : Int} {s : List UInt8} {L' : List Ino} (h0 : 0 ≤ off) (h1 : off ≤ 65536) (hz : Aes L b k off s = (L',0)) : FitP L' m b ∧ Aer L L' ∧ off + (s.length : Int) ≤ 65536 := by
 rcases (Av1 hF hz).1 rfl with ⟨rfl,rfl⟩ | ⟨n,o,hn,rfl,rfl,-,h2,hL,hF2⟩
 ·exact ⟨hF,Ads _,by show off + ((0 : Nat) : Int) ≤ _; omega⟩
 ·exact ⟨hF2,by rw [hL]; exact Aj3 hn _,by omega⟩
theorem Ajb {k : Krn} {f : List Int} (h : FitK k f) {fd : Int} {s : List UInt8} {k' : Krn} {n e : Int} (hz : Ab5 k f fd s = (k',n,e)) : FitK k' f ∧ (e ≠ 0 → k' = k ∧ n = 0) := by
 unfold Ab5 at hz
 split at hz
 ·simp only [Prod.mk.injEq] at hz
  obtain ⟨rfl,rfl,rfl⟩ := hz
  exact ⟨h,fun _ => ⟨rfl,rfl⟩⟩
 rename_i hn
 simp only [not_or] at hn
 obtain ⟨q,rfl,hq⟩ := Ach (show isFd fd = true by simpa using hn.1)
 have hql : q < f.length := by rw [h.len]; exact hq
 have hn2 := hn.2
 rw [Int.toNat_natCast,h.at_zero hql] at hn2
 obtain ⟨j,hj,h1,h2,-⟩ := h.desc hql hn2
 rw [Int.toNat_natCast,h.at_zero hql,h1,show ((j : Int) + 1 - 1).toNat = j by omega] at hz
 simp only at hz
 rw [Abd _ j hj] at hz
 split at hz
 ·simp only [Prod.mk.injEq] at hz
  obtain ⟨rfl,rfl,rfl⟩ := hz
  exact ⟨h,fun _ => ⟨rfl,rfl⟩⟩
 rename_i hfl
 split at hz
 ·rename_i hk1
  obtain ⟨off,hoff⟩ : ∃ x : Int,x = if 4 ≤ k.opens[j].flags then ((Aaf k.tree k.opens[j].at_).data.length : Int) else k.opens[j].off := ⟨_,rfl⟩
  rw [← hoff] at hz
  have hob : 0 ≤ off ∧ off ≤ 65536 := by
   rcases h.opens j hj with hg | ⟨-,-,a3,a4,⟨-,-,u,hu,b1,b2⟩ | ⟨b,-⟩ | ⟨b,-⟩ | ⟨b,-⟩⟩
   ·rw [hg] at hk1; exact absurd hk1 (by decide)
   ·rw [hoff,b1,Aad k.tree u hu]
    have hdl := Ahp k.tree u hu
    obtain ⟨-,-,-,l4,l5⟩ := h.tree.limits
    split <;> omega
   all_goals omega
  obtain ⟨⟨L',e'⟩,hw⟩ : ∃ x,Aes k.tree k.b k.opens[j].at_ off s = x := ⟨_,rfl⟩
  rw [hw] at hz
  simp only at hz
  split at hz
  ·simp only [Prod.mk.injEq] at hz
   obtain ⟨rfl,rfl,rfl⟩ := hz
   exact ⟨h,fun _ => ⟨rfl,rfl⟩⟩
  ·rename_i he
   simp only [Prod.mk.injEq] at hz
   obtain ⟨rfl,rfl,rfl⟩ := hz
   refine ⟨?_,fun h0 => absurd rfl h0⟩
   obtain rfl : e' = 0 := by simpa using he
   obtain ⟨w1,w2,w3⟩ := At8 h.tree hob.1 hob.2 hw
   exact Ar7 (Axt h w1 w2) hj hk1 (by omega) w3
 split at hz
 ·split at hz
  ·split at hz
   ·simp only [Prod.mk.injEq] at hz
    obtain ⟨rfl,rfl,rfl⟩ := hz
    exact ⟨h,fun _ => ⟨rfl,rfl⟩⟩
   ·simp only [Prod.mk.injEq] at hz
    obtain ⟨rfl,rfl,rfl⟩ := hz
    exact ⟨Aup h (by rw [List.length_append]; omega) h.o1,fun h0 => absurd rfl h0⟩
  ·split at hz
   ·simp only [Prod.mk.injEq] at hz
    obtain ⟨rfl,rfl,rfl⟩ := hz
    exact ⟨h,fun _ => ⟨rfl,rfl⟩⟩
   ·simp only [Prod.mk.injEq] at hz
    obtain ⟨rfl,rfl,rfl⟩ := hz
    exact ⟨Aup h h.o0 (by rw [List.length_append]; omega),fun h0 => absurd rfl h0⟩
 ·rename_i hk1 hk4
  split at hz
  ·simp only [Prod.mk.injEq] at hz
   obtain ⟨rfl,rfl,rfl⟩ := hz
   exact ⟨h,fun _ => ⟨rfl,rfl⟩⟩
  ·simp only [Prod.mk.injEq] at hz
   obtain ⟨rfl,rfl,rfl⟩ := hz
   refine ⟨?_,fun h0 => absurd rfl h0⟩
   have hpipe : ∃ u : Nat,u < k.pipes.length ∧ k.opens[j].at_ = (u : Int) := by
    rcases h.opens j hj with hg | ⟨-,-,-,-,⟨b,-⟩ | ⟨-,b,-⟩ | ⟨-,b,-⟩ | ⟨b,-⟩⟩
    ·rw [hg] at h2; exact absurd rfl h2
    ·omega
    ·exact b
    ·exact b
    ·omega
   obtain ⟨u,hu,hat⟩ := hpipe
   rw [hat,Int.toNat_natCast,Abd _ u hu]
   obtain ⟨⟨p',t,e'⟩,hr⟩ : ∃ x,Abu k.pipes[u] s = x := ⟨_,rfl⟩
   rw [hr]
   obtain ⟨e1,e2⟩ := Aqr hr
   exact Asy h hu (At0 (h.pipes u hu).1 s hr).1 e1 e2
end Go.Proofs.YtkdfbliiblojoaaGreatDoor
