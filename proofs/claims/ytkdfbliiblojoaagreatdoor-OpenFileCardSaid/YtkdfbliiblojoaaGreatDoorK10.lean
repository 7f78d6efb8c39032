import Derived.Test.YtkdfbliiblojoaaGreatDoorK9
set_option linter.all false
set_option maxRecDepth 100000
set_option maxHeartbeats 64000000
namespace Go.Proofs.YtkdfbliiblojoaaGreatDoor
open Go Go.RowKit
def Acj : List Int → Krn → Krn
 | [],k => k
 | x :: r,k => Acj r (if x = 0 then k else Abe k (x - 1).toNat)
def Alw (k : Krn) (f : List Int) : Krn := Acj f k
def Ahe : Nat → Nat → Krn → List Int → Krn
 | 0,_,k,_ => k
 | n + 1,i,k,f => Ahe n (i + 1) (Aat k f i).1 (Aat k f i).2
def Avv (k : Krn) (f : List Int) : Krn := Ahe 10 0 k f
structure Plus (k0 k : Krn) (g : List Int) : Prop where
 tree : k.tree = k0.tree
 m : k.m = k0.m
 b : k.b = k0.b
 pipes : k.pipes = k0.pipes
 o0 : k.out0 = k0.out0
 o1 : k.out1 = k0.out1
 len : k.opens.length = k0.opens.length
 opens : ∀ j (h0 : j < k0.opens.length) (h : j < k.opens.length),k.opens[j] = { k0.opens[j] with refs := k0.opens[j].refs + (g.count ((j : Int) + 1) : Int) }
theorem Amb (k : Krn) : Plus k k [] := ⟨rfl,rfl,rfl,rfl,rfl,rfl,rfl,fun j h0 h => by show k.opens[j] = { k.opens[j] with refs := k.opens[j].refs + ((0 : Nat) : Int) }; simp⟩
theorem Aty {k0 k : Krn} (h : Plus k0 k []) : k = k0 := by
 have hO : k.opens = k0.opens := by
  refine List.ext_getElem h.len fun j h1 h2 => ?_
  rw [h.opens j h2 h1]
  show ({ k0.opens[j] with refs := k0.opens[j].refs + ((0 : Nat) : Int) } : Opn) = _
  simp
 obtain ⟨t,m,b,p,o,x,y⟩ := k
 obtain ⟨t0,m0,b0,p0,o0,x0,y0⟩ := k0
 obtain ⟨h1,h2,h3,h4,h5,h6,-,-⟩ := h
 simp only at h1 h2 h3 h4 h5 h6 hO
 rw [h1,h2,h3,h4,h5,h6,hO]
theorem Au1 {k0 k : Krn} {g : List Int} (h : Plus k0 k g) {j : Nat} (hj : j < k0.opens.length) : Plus k0 (Abe k j) (g ++ [(j : Int) + 1]) := by
 have hj' : j < k.opens.length := by rw [h.len]; exact hj
 refine ⟨h.tree,h.m,h.b,h.pipes,h.o0,h.o1,by rw [Ac1]; exact h.len,fun i h0 hi => ?_⟩
 have hi' : i < k.opens.length := by rw [Ac1] at hi; exact hi
 rw [Afr hj' i hi',List.count_append,List.count_singleton]
 by_cases e : j = i
 ·subst e
  rw [if_pos rfl,h.opens j h0 hi',if_pos (by simp)]
  simp
  omega
 ·rw [if_neg e,h.opens i h0 hi',if_neg (by simp; omega)]
  simp
theorem Ava {k0 k : Krn} {g : List Int} (h : Plus k0 k g) : Plus k0 k (g ++ [0]) :=
 ⟨h.tree,h.m,h.b,h.pipes,h.o0,h.o1,h.len,fun i h0 hi => by
  rw [h.opens i h0 hi,List.count_append,List.count_singleton,if_neg (by simp; omega)]
  simp⟩
theorem Ai0 {k0 : Krn} : ∀ (l : List Int) (k : Krn) (g : List Int),Plus k0 k g → (∀ x ∈ l,x = 0 ∨ ∃ j : Nat,j < k0.opens.length ∧ x = (j : Int) + 1) → Plus k0 (Acj l k) (g ++ l)
 | [],k,g,h,_ => by rw [List.append_nil]; exact h
 | x :: r,k,g,h,hx => by
  rw [Acj,show g ++ x :: r = (g ++ [x]) ++ r by simp]
  refine Ai0 r _ _ ?_ (fun y hy => hx y (List.mem_cons_of_mem _ hy))
  rcases hx x List.mem_cons_self with h0 | ⟨j,hj,h1⟩
  ·rw [if_pos h0,h0]
   exact Ava h
  ·rw [if_neg (by omega),h1,show ((j : Int) + 1 - 1).toNat = j by omega]
   exact Au1 h hj
theorem Arq {k0 k : Krn} {g : List Int} (h : Plus k0 k (0 :: g)) : Plus k0 k g :=
 ⟨h.tree,h.m,h.b,h.pipes,h.o0,h.o1,h.len,fun i h0 hi => by
  have h1 := h.opens i h0 hi
  rw [List.count_cons,if_neg (by simp; omega)] at h1
  simpa using h1⟩
theorem Ar4 {k0 k : Krn} {g : List Int} {j : Nat} (h : Plus k0 k (((j : Int) + 1) :: g)) (hj : j < k0.opens.length) (hr : 1 ≤ k0.opens[j].refs) : Plus k0 (Aa5 k j) g := by
 have hj' : j < k.opens.length := by rw [h.len]; exact hj
 have hc : ((((j : Int) + 1) :: g).count ((j : Int) + 1) : Int) = (g.count ((j : Int) + 1) : Int) + 1 := by
  rw [List.count_cons,if_pos (by simp)]
  omega
 have hrj : k.opens[j].refs = k0.opens[j].refs + ((g.count ((j : Int) + 1) : Int) + 1) := by rw [h.opens j hj hj',← hc]
 have hne : k.opens[j].refs ≠ 1 := by omega
 have hE := Acm k j hj' hne
 obtain ⟨t1,t2,t3,t4,t5⟩ := Ais k j
 have hP : (Aa5 k j).pipes = k.pipes := by rw [hE]
 refine ⟨t1.trans h.tree,t2.trans h.m,t3.trans h.b,hP.trans h.pipes,t4.trans h.o0,t5.trans h.o1,by rw [Ab6]; exact h.len,fun i h0 hi => ?_⟩
 have hi' : i < k.opens.length := by rw [Ab6] at hi; exact hi
 by_cases e : j = i
 ·subst e
  have hO : (Aa5 k j).opens[j] = { k.opens[j] with refs := k.opens[j].refs - 1 } := by simp only [hE,List.getElem_set_self]
  have h7 : k.opens[j].refs - 1 = k0.opens[j].refs + (g.count ((j : Int) + 1) : Int) := by omega
  rw [hO,h7,h.opens j h0 hj']
 ·rw [Aco k j i e hi',h.opens i h0 hi',List.count_cons,if_neg (by simp; omega)]
  simp
theorem Ay4 {f : List Int} {i : Nat} (hi : i < f.length) : f.drop i = f[i] :: f.drop (i + 1) := List.drop_eq_getElem_cons hi
theorem Ajq {k0 : Krn} {f0 : List Int} (hF : FitK k0 f0) : ∀ (n i : Nat) (k : Krn) (f : List Int),i + n = f0.length → f.length = f0.length → (∀ q (h0 : q < f0.length) (h : q < f.length),i ≤ q → f[q] = f0[q]) → Plus k0 k (f0.drop i) → Ahe n i k f = k0
 | 0,i,k,f,hi,_,_,hP => by
  rw [Ahe]
  rw [List.drop_of_length_le (by omega)] at hP
  exact Aty hP
 | n + 1,i,k,f,hi,hl,hsame,hP => by
  have hi0 : i < f0.length := by omega
  have hil : i < f.length := by omega
  have hfi : f[i] = f0[i] := hsame i hi0 hil (Nat.le_refl _)
  rw [Ahe]
  rw [Ay4 hi0] at hP
  unfold Aat
  rw [Abd f i hil,hfi]
  by_cases h0 : f0[i] = 0
  ·rw [if_pos h0]
   rw [h0] at hP
   exact Ajq hF n (i + 1) k f (by omega) hl (fun q h1 h2 h3 => hsame q h1 h2 (by omega)) (Arq hP)
  ·obtain ⟨j,hj,h1,h2,-⟩ := hF.desc hi0 h0
   rw [if_neg h0,h1,show ((j : Int) + 1 - 1).toNat = j by omega]
   rw [h1] at hP
   refine Ajq hF n (i + 1) _ _ (by omega) (by show (f.set i 0).length = _; rw [List.length_set]; exact hl) (fun q h3 h4 h5 => ?_) (Ar4 hP hj (Ahf (hF.opens j hj) h2))
   have h6 : q < f.length := by omega
   show (f.set i 0)[q]'(by rw [List.length_set]; exact h6) = _
   rw [List.getElem_set_ne (by omega)]
   exact hsame q h3 h6 (by omega)
theorem Avb {k : Krn} {f : List Int} (h : FitK k f) : Avv (Alw k f) f = k := by
 have hP := Ai0 (k0 := k) f k [] (Amb k) (fun x hx => by
  obtain ⟨q,hq,rfl⟩ := List.getElem_of_mem hx
  rcases h.fds q hq with h0 | ⟨j,hj,h1,-⟩
  ·exact .inl h0
  ·exact .inr ⟨j,hj,h1⟩)
 rw [List.nil_append] at hP
 exact Ajq h 10 0 _ f (by rw [h.len]) rfl (fun _ _ _ _ => rfl) (by rw [List.drop_zero]; exact hP)
def Al4 : List Int := List.replicate 10 0
theorem Aqe {k : Krn} {f : List Int} (h : FitK k f) : FitK k Al4 := ⟨h.tree,h.np,h.no,h.o0,h.o1,h.opens,h.pipes,by decide,fun i hi => .inl (List.eq_of_mem_replicate (List.getElem_mem hi))⟩
theorem Ag1 {O : List Opn} {o : Opn} {O' : List Opn} {a : Int} (hz : putK O o = (O',a)) (ha : a ≠ 0) : ∃ j : Nat,a = (j : Int) + 1 ∧ (∃ hj : j < O'.length,O'[j] = o) ∧ ∀ i (hi : i < O.length),O[i].kind ≠ 0 → i ≠ j ∧ ∃ hi' : i < O'.length,O'[i] = O[i] := by
 rcases Ae5 hz ha with ⟨i,hi,h0,rfl,rfl⟩ | ⟨hlen,rfl,rfl⟩
 ·refine ⟨i,rfl,⟨by rw [List.length_set]; exact hi,List.getElem_set_self ..⟩,fun q hq hk => ?_⟩
  have e : i ≠ q := fun e => by subst e; exact hk h0
  exact ⟨fun e2 => e e2.symm,by rw [List.length_set]; exact hq,List.getElem_set_ne e ..⟩
 ·have hl : (O ++ [o]).length = O.length + 1 := by simp
  exact ⟨O.length,rfl,⟨by omega,List.getElem_concat_length rfl _⟩,fun q hq _ => ⟨by omega,by omega,List.getElem_append_left hq⟩⟩
theorem Ayl {P : List Pip} {at_ : Nat} (h : Ac7 P = at_) (p : Pip) : ∃ ha : at_ < (Adf P at_ p).length,(Adf P at_ p)[at_] = p := by
 unfold Adf
 rcases Al3 h with hl | ⟨-,hlt,-⟩
 ·have hlen : (P ++ [p]).length = P.length + 1 := by simp
  simp only [if_pos hl]
  exact ⟨by omega,by simp only [hl]; exact List.getElem_concat_length rfl _⟩
 ·have hne : at_ ≠ P.length := by omega
  simp only [if_neg hne]
  exact ⟨by rw [List.length_set]; exact hlt,List.getElem_set_self ..⟩
theorem Av5 {k : Krn} {f : List Int} (h : FitK k f) {x : Krn} {g : List Int} {e : Int} (hz : Ai8 k Al4 3 4 5 = (x,g,e)) : (e ≠ 0 → e = 24) ∧ (e = 0 → FitK x g ∧ Adb x g 3 1 = (x,[],11) ∧ ∃ (y : Krn) (h2 : List Int),Ado x g 4 = (y,h2,0) ∧ FitK y h2 ∧ Adb y h2 3 1 = (y,[],0)) := by
 have hfit := As8 (Aqe h) hz
 unfold Ai8 at hz
 rw [if_neg (by decide),if_neg (by decide),if_neg (by decide)] at hz
 obtain ⟨at_,hat⟩ : ∃ a,Ac7 k.pipes = a := ⟨_,rfl⟩
 rw [hat] at hz
 split at hz
 ·simp only [Prod.mk.injEq] at hz
  exact ⟨fun _ => hz.2.2.symm,fun h0 => absurd (hz.2.2.trans h0) (by decide)⟩
 obtain ⟨⟨O1,a⟩,hp1⟩ : ∃ x,putK k.opens ⟨2,(at_ : Int),0,1,1⟩ = x := ⟨_,rfl⟩
 rw [hp1] at hz
 simp only at hz
 split at hz
 ·simp only [Prod.mk.injEq] at hz
  exact ⟨fun _ => hz.2.2.symm,fun h0 => absurd (hz.2.2.trans h0) (by decide)⟩
 rename_i ha
 obtain ⟨⟨O2,c⟩,hp2⟩ : ∃ x,putK O1 ⟨3,(at_ : Int),0,2,1⟩ = x := ⟨_,rfl⟩
 rw [hp2] at hz
 simp only at hz
 split at hz
 ·simp only [Prod.mk.injEq] at hz
  exact ⟨fun _ => hz.2.2.symm,fun h0 => absurd (hz.2.2.trans h0) (by decide)⟩
 rename_i hc
 obtain ⟨k1,hk1⟩ : ∃ q : Krn,q = { k with pipes := Adf k.pipes at_ (Aao 5).1,opens := O2 } := ⟨_,rfl⟩
 rw [← hk1] at hz
 have hs : ∀ (q : Krn) (i : Nat),Aat q Al4 i = (q,Al4) := fun q i => by
  unfold Aat
  rw [if_pos]
  rw [List.getD_eq_getElem?_getD]
  unfold Al4
  rw [List.getElem?_replicate]
  split <;> rfl
 rw [hs] at hz
 simp only at hz
 rw [hs] at hz
 simp only [Prod.mk.injEq] at hz
 obtain ⟨hx,hg,rfl⟩ := hz
 refine ⟨fun h0 => absurd rfl h0,fun _ => ⟨hfit.1,?_⟩⟩
 have hfit2 := hfit.1
 obtain ⟨j,rfl,⟨hj,hOj⟩,-⟩ := Ag1 hp1 ha
 obtain ⟨j2,rfl,⟨hj2,hOj2⟩,hkeep⟩ := Ag1 hp2 hc
 obtain ⟨hjj,hj',hOj'⟩ := hkeep j hj (by rw [hOj]; show (2 : Int) ≠ 0; decide)
 obtain ⟨hatl,hpat⟩ := Ayl hat (Aao 5).1
 have hP5 : (Aao 5).1 = ⟨[],1,1,5⟩ := rfl
 subst hx
 have hxo : k1.opens = O2 := by rw [hk1]
 have hxp : k1.pipes = Adf k.pipes at_ (Aao 5).1 := by rw [hk1]
 have hgl : Al4.length = 10 := by decide
 rw [show Int.toNat 3 = 3 from rfl,show Int.toNat 4 = 4 from rfl] at hg
 have hg3 : g.getD 3 0 = (j : Int) + 1 := by
  rw [← hg,List.getD_eq_getElem?_getD,List.getElem?_set_ne (by decide),List.getElem?_set_self (by decide)]
  rfl
 have hg4 : g.getD 4 0 = (j2 : Int) + 1 := by
  rw [← hg,List.getD_eq_getElem?_getD,List.getElem?_set_self (by rw [List.length_set]; decide)]
  rfl
 have hjl : j < k1.opens.length := by rw [hxo]; exact hj'
 have hjl2 : j2 < k1.opens.length := by rw [hxo]; exact hj2
 have hatp : at_ < k1.pipes.length := by rw [hxp]; exact hatl
 have oj : k1.opens[j] = ⟨2,(at_ : Int),0,1,1⟩ := by simp only [hxo]; rw [hOj',hOj]
 have oj2 : k1.opens[j2] = ⟨3,(at_ : Int),0,2,1⟩ := by simp only [hxo]; exact hOj2
 have opt : k1.pipes[at_] = ⟨[],1,1,5⟩ := by simp only [hxp]; rw [hpat,hP5]
 -- reading,where somebody writes; and where nobody does
 have hread : ∀ (q : Krn) (fq : List Int) (p : Pip) (hjq : j < q.opens.length) (hpq : at_ < q.pipes.length),fq.getD 3 0 = (j : Int) + 1 → q.opens[j] = ⟨2,(at_ : Int),0,1,1⟩ → q.pipes[at_] = p → p.data = [] → Adb q fq 3 1 = if p.wr = 0 then (Agn q at_ p,[],0) else (q,[],11) := fun q fq p hjq hpq h3 ho hp hd => by
  unfold Adb
  rw [show ((3 : Int)).toNat = 3 from rfl,h3,if_neg (by simp only [not_or]; exact ⟨by decide,by omega⟩),show ((j : Int) + 1 - 1).toNat = j by omega]
  simp only
  rw [Abd _ j hjq,ho]
  simp only
  have hrp : Aca p 1 = if p.wr = 0 then (p,[],0) else (p,[],11) := by
   unfold Aca
   rw [if_neg (by decide),if_pos hd]
  rw [if_neg (by decide),if_neg (by decide),if_neg (by decide),Int.toNat_natCast,Abd _ at_ hpq,hp,hrp]
  by_cases hw : p.wr = 0
  ·rw [if_pos hw,if_pos hw,if_neg (show ¬ (0 : Int) ≠ 0 by decide)]
  ·rw [if_neg hw,if_neg hw,if_pos (show (11 : Int) ≠ 0 by decide)]
 have hr1 := hread k1 g _ hjl hatp hg3 oj opt rfl
 rw [if_neg (by decide)] at hr1
 refine ⟨hr1,Aa5 k1 j2,g.set 4 0,?_,?_,?_⟩
 ·unfold Ado
  rw [show ((4 : Int)).toNat = 4 from rfl,hg4,if_neg (by simp only [not_or]; exact ⟨by decide,by omega⟩)]
  unfold Aat
  rw [hg4,if_neg (by omega),show ((j2 : Int) + 1 - 1).toNat = j2 by omega]
 ·have h4 : 4 < g.length := by rw [hfit2.len]; decide
  exact Apr hfit2 Adh Adh h4 hjl2 (by rw [← Abd g 4 h4 0]; exact hg4)
 ·have hLp : (Aa5 k1 j2).pipes = k1.pipes.set at_ ⟨[],1,0,5⟩ := by
   unfold Aa5
   rw [Abd _ j2 hjl2,oj2,if_pos (show (1 : Int) - 1 = 0 by decide)]
   show (if (3 : Int) = 2 ∨ (3 : Int) = 3 then k1.pipes.set (Int.toNat (at_ : Int)) (Aa1 (k1.pipes.getD (Int.toNat (at_ : Int)) Ab9) ((3 : Int) == 2)) else k1.pipes) = _
   rw [if_pos (.inr rfl),Int.toNat_natCast,Abd _ at_ hatp,opt]
   rfl
  have hjm : j < (Aa5 k1 j2).opens.length := by rw [Ab6]; exact hjl
  have hpm : at_ < (Aa5 k1 j2).pipes.length := by rw [Ad5]; exact hatp
  have hom : (Aa5 k1 j2).opens[j] = ⟨2,(at_ : Int),0,1,1⟩ := by rw [Aco k1 j2 j (fun e => hjj e.symm) hjl]; exact oj
  have hpm2 : (Aa5 k1 j2).pipes[at_] = ⟨[],1,0,5⟩ := by simp only [hLp,List.getElem_set_self]
  have hg3' : (g.set 4 0).getD 3 0 = (j : Int) + 1 := by
   rw [List.getD_eq_getElem?_getD,List.getElem?_set_ne (by decide),← List.getD_eq_getElem?_getD]
   exact hg3
  have hr2 := hread (Aa5 k1 j2) (g.set 4 0) _ hjm hpm hg3' hom hpm2 rfl
  rw [if_pos rfl] at hr2
  rw [hr2]
  have hself : Agn (Aa5 k1 j2) at_ ⟨[],1,0,5⟩ = Aa5 k1 j2 := by
   unfold Agn
   have : (Aa5 k1 j2).pipes.set at_ ⟨[],1,0,5⟩ = (Aa5 k1 j2).pipes := by
    rw [hLp,List.set_set]
   rw [this]
  rw [hself]
def fdA (g : List Int) (j : Nat) : Int := g.getD j 0
theorem Amk (g : List Int) (n : Nat) (hn : n < 10) : (#[.int .i64 (fdA g 0),.int .i64 (fdA g 1),.int .i64 (fdA g 2),.int .i64 (fdA g 3),.int .i64 (fdA g 4),.int .i64 (fdA g 5),.int .i64 (fdA g 6),.int .i64 (fdA g 7),.int .i64 (fdA g 8),.int .i64 (fdA g 9)] : Array Value)[n]? = some (.int .i64 (fdA g n)) := by
 match n,hn with
 | 0,_ => rfl
 | 1,_ => rfl
 | 2,_ => rfl
 | 3,_ => rfl
 | 4,_ => rfl
 | 5,_ => rfl
 | 6,_ => rfl
 | 7,_ => rfl
 | 8,_ => rfl
 | 9,_ => rfl
theorem Azb (g : List Int) (hg : g.length = 10) (n : Nat) (hn : n < 10) (x : Int) (j : Nat) : fdA (g.set n x) j = if n = j then x else fdA g j := by
 unfold fdA
 rw [List.getD_eq_getElem?_getD,List.getD_eq_getElem?_getD,List.getElem?_set]
 by_cases h : n = j
 ·subst h
  rw [if_pos rfl,if_pos rfl,if_pos (by omega)]
  rfl
 ·rw [if_neg h,if_neg h]
structure But (g : Nat) (W W' : World) : Prop where
 os : W'.os = W.os
 tape : W'.tape = W.tape
 output : W'.output = W.output
 size : W'.heap.size = W.heap.size
 block : ∀ k,k ≠ g → W'.heap[k]? = W.heap[k]?
theorem But.set (W : World) (g j : Nat) (u : Value) : But g W (W.setCell ⟨g,j,none⟩ u) := ⟨rfl,rfl,rfl,by simp [World.setCell],fun _ h => Below.heap_setCell _ _ _ _ h⟩
theorem But.trans {g : Nat} {A B C : World} (h : But g A B) (k : But g B C) : But g A C := ⟨k.os.trans h.os,k.tape.trans h.tape,k.output.trans h.output,k.size.trans h.size,fun j hj => (k.block j hj).trans (h.block j hj)⟩
theorem But.below {g n : Nat} {A B C : World} (h : Below n A B) (k : But g B C) (hg : n ≤ g) : Below n A C := ⟨k.os.trans h.os,k.tape.trans h.tape,k.output.trans h.output,Nat.le_trans h.size (Nat.le_of_eq k.size.symm),fun j hj => (k.block j (by omega)).trans (h.block j hj)⟩
def Ade (W : World) (g o : Nat) (x y z u : Value) : World := (((W.setCell ⟨g,o,none⟩ x).setCell ⟨g,o + 1,none⟩ y).setCell ⟨g,o + 2,none⟩ z).setCell ⟨g,o + 3,none⟩ u
def Apf (W : World) (g o : Nat) (x y z u v : Value) : World := ((((W.setCell ⟨g,o,none⟩ x).setCell ⟨g,o + 1,none⟩ y).setCell ⟨g,o + 2,none⟩ z).setCell ⟨g,o + 3,none⟩ u).setCell ⟨g,o + 4,none⟩ v
theorem Ael (W : World) (g o : Nat) (x y z u : Value) : But g W (Ade W g o x y z u) := (((But.set W g o x).trans (But.set _ g _ y)).trans (But.set _ g _ z)).trans (But.set _ g _ u)
theorem Akd (W : World) (g o : Nat) (x y z u v : Value) : But g W (Apf W g o x y z u v) := ((((But.set W g o x).trans (But.set _ g _ y)).trans (But.set _ g _ z)).trans (But.set _ g _ u)).trans (But.set _ g _ v)
theorem Aki {W : World} {B g cap : Nat} {P : List Pip} {e : TypeId} (h : W.ownsRow B e 4 (.slice (some ⟨g,0,none⟩) P.length cap) P.length (rowC pipF P)) (i : Nat) (hi : i < P.length) (q : Pip) :
  (Ade W g (i * 4) (.string ⟨q.data.toArray⟩) (.int .i64 q.rd) (.int .i64 q.wr) (.int .i64 q.cap)).ownsRow B e 4 (.slice (some ⟨g,0,none⟩) P.length cap) P.length (rowC pipF (P.set i q)) := by
 have h0 := (h.stored (i * 4 + 0) (.string ⟨q.data.toArray⟩)).1
 rw [← Adj Aey P i hi { P[i] with data := q.data } 0 _ (by decide) rfl] at h0
 have h1 := (h0.stored (i * 4 + 1) (.int .i64 q.rd)).1
 rw [← Adj Aey _ i (by simpa using hi) { P[i] with data := q.data,rd := q.rd } 1 _ (by decide) (by simp [pipF]),List.set_set] at h1
 have h2 := (h1.stored (i * 4 + 2) (.int .i64 q.wr)).1
 rw [← Adj Aey _ i (by simpa using hi) { P[i] with data := q.data,rd := q.rd,wr := q.wr } 2 _ (by decide) (by simp [pipF]),List.set_set] at h2
 have h3 := (h2.stored (i * 4 + 3) (.int .i64 q.cap)).1
 rw [← Adj Aey _ i (by simpa using hi) q 3 _ (by decide) (by simp [pipF]),List.set_set] at h3
 exact h3
theorem Aj7 {W : World} {B g cap : Nat} {P : List Opn} {e : TypeId} (h : W.ownsRow B e 5 (.slice (some ⟨g,0,none⟩) P.length cap) P.length (rowC opnF P)) (i : Nat) (hi : i < P.length) (q : Opn) :
  (Apf W g (i * 5) (.int .i64 q.kind) (.int .i64 q.at_) (.int .i64 q.off) (.int .i64 q.flags) (.int .i64 q.refs)).ownsRow B e 5 (.slice (some ⟨g,0,none⟩) P.length cap) P.length (rowC opnF (P.set i q)) := by
 have h0 := (h.stored (i * 5 + 0) (.int .i64 q.kind)).1
 rw [← Adj Ad2 P i hi { P[i] with kind := q.kind } 0 _ (by decide) rfl] at h0
 have h1 := (h0.stored (i * 5 + 1) (.int .i64 q.at_)).1
 rw [← Adj Ad2 _ i (by simpa using hi) { P[i] with kind := q.kind,at_ := q.at_ } 1 _ (by decide) (by simp [opnF]),List.set_set] at h1
 have h2 := (h1.stored (i * 5 + 2) (.int .i64 q.off)).1
 rw [← Adj Ad2 _ i (by simpa using hi) { P[i] with kind := q.kind,at_ := q.at_,off := q.off } 2 _ (by decide) (by simp [opnF]),List.set_set] at h2
 have h3 := (h2.stored (i * 5 + 3) (.int .i64 q.flags)).1
 rw [← Adj Ad2 _ i (by simpa using hi) { P[i] with kind := q.kind,at_ := q.at_,off := q.off,flags := q.flags } 3 _ (by decide) (by simp [opnF]),List.set_set] at h3
 have h4 := (h3.stored (i * 5 + 4) (.int .i64 q.refs)).1
 rw [← Adj Ad2 _ i (by simpa using hi) q 4 _ (by decide) (by simp [opnF]),List.set_set] at h4
 exact h4
def Ag5 (L : List Ino) (o : Opn) : Bool :=
 (decide (0 ≤ o.at_) && decide (o.at_ < (L.length : Int)) && (Aaf L o.at_).kind == 1) && (o.flags == 1 || o.flags == 2 || o.flags == 3 || o.flags == 6 || o.flags == 7)
def endB (np : Nat) (o : Opn) : Bool := decide (0 ≤ o.at_) && decide (o.at_ < (np : Int)) && o.off == 0
def outB (o : Opn) : Bool := decide (0 ≤ o.at_) && decide (o.at_ < 2) && o.off == 0 && o.flags == 2
def Ant (o : Opn) : Bool := o.kind == 0 && o.at_ == 0 && o.off == 0 && o.flags == 0 && o.refs == 0
def Ad8 (L : List Ino) (np : Nat) (o : Opn) : Bool :=
 if o.kind = 0 then Ant o else if o.kind = 1 then Ag5 L o else if o.kind = 2 then endB np o && o.flags == 1 else if o.kind = 3 then endB np o && o.flags == 2 else if o.kind = 4 then outB o else false
theorem Ax2 {o : Opn} : Ant o = true ↔ o = Aap := by
 obtain ⟨a,b,c,d,e⟩ := o
 unfold Ant Aap
 simp [and_assoc]
theorem Atn {L : List Ino} {o : Opn} : Ag5 L o = true ↔ (o.flags = 1 ∨ o.flags = 2 ∨ o.flags = 3 ∨ o.flags = 6 ∨ o.flags = 7) ∧ ∃ n : Nat,∃ hn : n < L.length,o.at_ = (n : Int) ∧ L[n].kind = 1 := by
 unfold Ag5
 simp only [Bool.and_eq_true,Bool.or_eq_true,decide_eq_true_eq,beq_iff_eq]
 constructor
 ·rintro ⟨⟨⟨h1,h2⟩,h3⟩,h4⟩
  obtain ⟨n,hn⟩ : ∃ n : Nat,o.at_ = (n : Int) := ⟨o.at_.toNat,by omega⟩
  have hl : n < L.length := by omega
  rw [hn,Aad L n hl] at h3
  exact ⟨by omega,n,hl,hn,h3⟩
 ·rintro ⟨h4,n,hn,h1,h3⟩
  refine ⟨⟨⟨by omega,by omega⟩,?_⟩,by omega⟩
  rw [h1,Aad L n hn]
  exact h3
theorem Aq6 {np : Nat} {o : Opn} : endB np o = true ↔ (∃ n : Nat,n < np ∧ o.at_ = (n : Int)) ∧ o.off = 0 := by
 unfold endB
 simp only [Bool.and_eq_true,decide_eq_true_eq,beq_iff_eq]
 constructor
 ·rintro ⟨⟨h1,h2⟩,h3⟩
  exact ⟨⟨o.at_.toNat,by omega,by omega⟩,h3⟩
 ·rintro ⟨⟨n,h1,h2⟩,h3⟩
  exact ⟨⟨by omega,by omega⟩,h3⟩
def Anx (o : Opn) : Bool := decide (1 ≤ o.refs) && decide (o.refs ≤ 1000) && decide (0 ≤ o.off) && decide (o.off ≤ 65536)
theorem Baq {L : List Ino} {np : Nat} {o : Opn} : Abb L np o ↔ Ad8 L np o = true ∧ (o.kind ≠ 0 → Anx o = true) := by
 unfold Abb Ad8 Anx
 by_cases h0 : o.kind = 0
 ·rw [if_pos h0,Ax2]
  constructor
  ·rintro (h | ⟨-,-,-,-,⟨h,-⟩ | ⟨h,-⟩ | ⟨h,-⟩ | ⟨h,-⟩⟩)
   ·exact ⟨h,fun h1 => absurd h0 h1⟩
   all_goals omega
  ·rintro ⟨h,-⟩
   exact .inl h
 rw [if_neg h0]
 have hn : ¬ o = Aap := fun h => h0 (by rw [h]; rfl)
 simp only [Bool.and_eq_true,decide_eq_true_eq]
 by_cases h1 : o.kind = 1
 ·rw [if_pos h1,Atn]
  constructor
  ·rintro (h | ⟨a,b,c,d,⟨-,h⟩ | ⟨h,-⟩ | ⟨h,-⟩ | ⟨h,-⟩⟩)
   ·exact absurd h hn
   ·exact ⟨h,fun _ => ⟨⟨⟨a,b⟩,c⟩,d⟩⟩
   all_goals omega
  ·rintro ⟨h,k⟩
   obtain ⟨⟨⟨a,b⟩,c⟩,d⟩ := k h0
   exact .inr ⟨a,b,c,d,.inl ⟨h1,h⟩⟩
 rw [if_neg h1]
 by_cases h2 : o.kind = 2
 ·rw [if_pos h2,Bool.and_eq_true,Aq6,beq_iff_eq]
  constructor
  ·rintro (h | ⟨a,b,c,d,⟨h,-⟩ | ⟨-,h,h5,h6⟩ | ⟨h,-⟩ | ⟨h,-⟩⟩)
   ·exact absurd h hn
   ·omega
   ·exact ⟨⟨⟨h,h5⟩,h6⟩,fun _ => ⟨⟨⟨a,b⟩,c⟩,d⟩⟩
   all_goals omega
  ·rintro ⟨⟨⟨h,h5⟩,h6⟩,k⟩
   obtain ⟨⟨⟨a,b⟩,c⟩,d⟩ := k h0
   exact .inr ⟨a,b,c,d,.inr (.inl ⟨h2,h,h5,h6⟩)⟩
 rw [if_neg h2]
 by_cases h3 : o.kind = 3
 ·rw [if_pos h3,Bool.and_eq_true,Aq6,beq_iff_eq]
  constructor
  ·rintro (h | ⟨a,b,c,d,⟨h,-⟩ | ⟨h,-⟩ | ⟨-,h,h5,h6⟩ | ⟨h,-⟩⟩)
   ·exact absurd h hn
   ·omega
   ·omega
   ·exact ⟨⟨⟨h,h5⟩,h6⟩,fun _ => ⟨⟨⟨a,b⟩,c⟩,d⟩⟩
   ·omega
  ·rintro ⟨⟨⟨h,h5⟩,h6⟩,k⟩
   obtain ⟨⟨⟨a,b⟩,c⟩,d⟩ := k h0
   exact .inr ⟨a,b,c,d,.inr (.inr (.inl ⟨h3,h,h5,h6⟩))⟩
 rw [if_neg h3]
 by_cases h4 : o.kind = 4
 ·rw [if_pos h4]
  have ho : outB o = true ↔ (o.at_ = 0 ∨ o.at_ = 1) ∧ o.off = 0 ∧ o.flags = 2 := by
   unfold outB
   simp only [Bool.and_eq_true,decide_eq_true_eq,beq_iff_eq]
   constructor
   ·rintro ⟨⟨⟨a,b⟩,c⟩,d⟩; exact ⟨by omega,c,d⟩
   ·rintro ⟨a,b,c⟩; exact ⟨⟨⟨by omega,by omega⟩,b⟩,c⟩
  rw [ho]
  constructor
  ·rintro (h | ⟨a,b,c,d,⟨h,-⟩ | ⟨h,-⟩ | ⟨h,-⟩ | ⟨-,h⟩⟩)
   ·exact absurd h hn
   ·omega
   ·omega
   ·omega
   ·exact ⟨h,fun _ => ⟨⟨⟨a,b⟩,c⟩,d⟩⟩
  ·rintro ⟨h,k⟩
   obtain ⟨⟨⟨a,b⟩,c⟩,d⟩ := k h0
   exact .inr ⟨a,b,c,d,.inr (.inr (.inr ⟨h4,h⟩))⟩
 rw [if_neg h4]
 constructor
 ·rintro (h | ⟨-,-,-,-,⟨h,-⟩ | ⟨h,-⟩ | ⟨h,-⟩ | ⟨h,-⟩⟩)
  ·exact absurd h hn
  all_goals omega
 ·rintro ⟨h,-⟩
  exact absurd h (by decide)
def Led (k : Krn) (f : List Int) (fd : Nat) : Prop :=
 f.getD fd 0 = 0 ∨ ∃ j : Nat,∃ hj : j < k.opens.length,f.getD fd 0 = (j : Int) + 1 ∧ k.opens[j].kind ≠ 0 ∧ Ad8 k.tree k.pipes.length k.opens[j] = true ∧ 1 ≤ k.opens[j].refs ∧ k.opens[j].refs ≤ 1000
theorem Ad0 {k : Krn} {f : List Int} {er ew : Nat → Int} (h : FitE k f er ew) {fd : Nat} (hfd : fd < 10) : Led k f fd := by
 have hl : fd < f.length := by rw [h.len]; exact hfd
 unfold Led
 rw [h.at_zero hl]
 by_cases h0 : f[fd] = 0
 ·exact .inl h0
 ·obtain ⟨j,hj,h1,h2,-⟩ := h.desc hl h0
  have hg := h.opens j hj
  obtain ⟨g1,g2⟩ := Baq.1 hg
  have := Ahf hg h2
  have hc := g2 h2
  unfold Anx at hc
  simp only [Bool.and_eq_true,decide_eq_true_eq] at hc
  exact .inr ⟨j,hj,h1,h2,g1,by omega,by omega⟩
def Acb (f : List Int) (fd : Int) : Int × Bool := if isFd fd = true ∧ f.getD fd.toNat 0 ≠ 0 then (f.getD fd.toNat 0 - 1,true) else (0,false)
def Adg (k : Krn) (f : List Int) (fd j : Nat) : Krn × List Int := (Abe (Aat k f fd).1 j,(Aat k f fd).2.set fd ((j : Int) + 1))
theorem Ac6 {a b : Krn} (h1 : a.tree = b.tree) (h2 : a.m = b.m) (h3 : a.b = b.b) (h4 : a.pipes = b.pipes) (h5 : a.opens = b.opens) (h6 : a.out0 = b.out0) (h7 : a.out1 = b.out1) : a = b := by
 obtain ⟨_,_,_,_,_,_,_⟩ := a
 obtain ⟨_,_,_,_,_,_,_⟩ := b
 simp only at h1 h2 h3 h4 h5 h6 h7
 subst h1 h2 h3 h4 h5 h6 h7
 rfl
theorem Af8 (k : Krn) (j : Nat) (hj : j < k.opens.length) (h : k.opens[j].refs = 1) : Aa5 k j = { k with pipes := (if k.opens[j].kind = 2 ∨ k.opens[j].kind = 3 then k.pipes.set k.opens[j].at_.toNat (Aa1 (k.pipes.getD k.opens[j].at_.toNat Ab9) (k.opens[j].kind == 2)) else k.pipes),opens := k.opens.set j Aap } := by
 unfold Aa5
 rw [Abd _ j hj,if_pos (by omega)]
theorem Auq {k : Krn} {i j : Nat} (hi : i < k.opens.length) (hj : j < k.opens.length) (h : i = j → k.opens[j].refs ≠ 1 ∧ k.opens[j].refs ≠ 0) : Abe (Aa5 k i) j = Aa5 (Abe k j) i := by
 have hj' : j < (Aa5 k i).opens.length := by rw [Ab6]; exact hj
 have hi' : i < (Abe k j).opens.length := by rw [Ac1]; exact hi
 have hm := Afr hj i hi
 by_cases e : i = j
 ·subst e
  obtain ⟨h1,h0⟩ := h rfl
  rw [if_pos rfl] at hm
  rw [Acm k i hi h1,Acm (Abe k i) i hi' (by rw [hm]; show k.opens[i].refs + 1 ≠ 1; omega),hm]
  refine Ac6 rfl rfl rfl rfl ?_ rfl rfl
  show (k.opens.set i _).set i _ = (k.opens.set i _).set i _
  rw [List.set_set,List.set_set,Abd _ i (by rw [List.length_set]; exact hi),List.getElem_set_self]
  show k.opens.set i { k.opens[i] with refs := k.opens[i].refs - 1 + 1 } = k.opens.set i { k.opens[i] with refs := k.opens[i].refs + 1 - 1 }
  rw [show k.opens[i].refs - 1 + 1 = k.opens[i].refs + 1 - 1 by omega]
 ·rw [if_neg (fun e2 => e e2.symm)] at hm
  have ho := Aco k i j e hj
  by_cases h1 : k.opens[i].refs = 1
  ·rw [Af8 k i hi h1,Af8 (Abe k j) i hi' (by rw [hm]; exact h1),hm]
   refine Ac6 rfl rfl rfl rfl ?_ rfl rfl
   show (k.opens.set i Aap).set j _ = (k.opens.set j _).set i Aap
   rw [List.set_comm _ _ e]
   congr 1
   rw [Abd _ j (by rw [List.length_set]; exact hj),Abd _ j hj,List.getElem_set_ne e]
  ·rw [Acm k i hi h1,Acm (Abe k j) i hi' (by rw [hm]; exact h1),hm]
   refine Ac6 rfl rfl rfl rfl ?_ rfl rfl
   show (k.opens.set i _).set j _ = (k.opens.set j _).set i _
   rw [List.set_comm _ _ e]
   congr 1
   rw [Abd _ j (by rw [List.length_set]; exact hj),Abd _ j hj,List.getElem_set_ne e]
theorem Af1 {k : Krn} {f : List Int} {fd j : Nat} (hj : j < k.opens.length) (hf : f.getD fd 0 = 0 ∨ ∃ i : Nat,∃ hi : i < k.opens.length,f.getD fd 0 = (i : Int) + 1 ∧ (i = j → k.opens[j].refs ≠ 1 ∧ k.opens[j].refs ≠ 0)) :
  Adg k f fd j = ((Aat (Abe k j) f fd).1,(Aat (Abe k j) f fd).2.set fd ((j : Int) + 1)) := by
 unfold Adg Aat
 rcases hf with h0 | ⟨i,hi,h1,h2⟩
 ·rw [if_pos h0,if_pos h0]
 ·rw [if_neg (by omega),if_neg (by omega),h1,show ((i : Int) + 1 - 1).toNat = i by omega]
  show (Abe (Aa5 k i) j,(f.set fd 0).set fd ((j : Int) + 1)) = (Aa5 (Abe k j) i,(f.set fd 0).set fd ((j : Int) + 1))
  rw [Auq hi hj h2]
def dupL (k : Krn) (f : List Int) (fr to : Int) : Krn × List Int × Int :=
 if isFd fr = false ∨ isFd to = false ∨ f.getD fr.toNat 0 = 0 then (k,f,9) else if fr = to then (k,f,0) else
 ((Adg k f to.toNat (f.getD fr.toNat 0 - 1).toNat).1,(Adg k f to.toNat (f.getD fr.toNat 0 - 1).toNat).2,0)
theorem Au8 (f : List Int) (i j : Nat) (hi : i < f.length) (hj : j < f.length) (h : i ≠ j) (e : f[i] = f[j]) : 2 ≤ f.count f[i] := by
 have h1 := Ai5 f i hi (f[i] + 1) f[i]
 rw [if_pos rfl,if_neg (by omega)] at h1
 have hj2 : j < (f.set i (f[i] + 1)).length := by rw [List.length_set]; exact hj
 have h2 : (f.set i (f[i] + 1))[j] = f[i] := by rw [List.getElem_set_ne h]; exact e.symm
 have h3 := Ap3 (f.set i (f[i] + 1)) j hj2
 rw [h2] at h3
 omega
theorem Avx {k : Krn} {f : List Int} (h : FitK k f) (fr to : Int) : dupL k f fr to = dupK k f fr to := by
 unfold dupL dupK
 by_cases hn : isFd fr = false ∨ isFd to = false ∨ f.getD fr.toNat 0 = 0
 ·rw [if_pos hn,if_pos hn]
 rw [if_neg hn,if_neg hn]
 by_cases he : fr = to
 ·rw [if_pos he,if_pos he]
 rw [if_neg he,if_neg he]
 simp only [not_or] at hn
 obtain ⟨a,rfl,ha⟩ := Ach (show isFd fr = true by simpa using hn.1)
 obtain ⟨c,rfl,hc⟩ := Ach (show isFd to = true by simpa using hn.2.1)
 have hal : a < f.length := by rw [h.len]; exact ha
 have hcl : c < f.length := by rw [h.len]; exact hc
 have h0 := hn.2.2
 rw [Int.toNat_natCast,h.at_zero hal] at h0
 obtain ⟨j,hj,h1,h2,h3⟩ := h.desc hal h0
 have hac : a ≠ c := fun e => he (by rw [e])
 rw [Int.toNat_natCast,Int.toNat_natCast,h.at_zero hal,h1,show ((j : Int) + 1 - 1).toNat = j by omega,Af1 hj]
 rw [h.at_zero hcl]
 by_cases h4 : f[c] = 0
 ·exact .inl h4
 ·obtain ⟨i,hi,h5,h6,h7⟩ := h.desc hcl h4
  refine .inr ⟨i,hi,h5,fun e => ?_⟩
  subst e
  have := Au8 f a c hal hcl hac (by rw [h1,h5])
  rw [h1] at this
  omega
theorem Aii {O : List Opn} {o : Opn} (hk : o.kind ≠ 0) : (putK O { o with refs := 0 }).2 = (putK O o).2 ∧ ∀ j : Nat,(putK O o).2 = (j : Int) + 1 → ∃ hj : j < (putK O { o with refs := 0 }).1.length,(putK O { o with refs := 0 }).1[j] = { o with refs := 0 } ∧ (putK O { o with refs := 0 }).1.set j o = (putK O o).1 := by
 unfold putK
 cases hf : O.findIdx? (fun x => x.kind == 0) with
 | some i =>
  obtain ⟨hi,-,-⟩ := List.findIdx?_eq_some_iff_getElem.1 hf
  refine ⟨rfl,fun j h => ?_⟩
  have h' : (i : Int) + 1 = (j : Int) + 1 := h
  obtain rfl : i = j := by omega
  refine ⟨by rw [List.length_set]; exact hi,List.getElem_set_self ..,?_⟩
  show (O.set i { o with refs := 0 }).set i o = O.set i o
  rw [List.set_set]
 | none =>
  by_cases h64 : 64 ≤ O.length
  ·simp only [if_pos h64]
   refine ⟨trivial,fun j h => ?_⟩
   have h' : (0 : Int) = (j : Int) + 1 := h
   omega
  ·simp only [if_neg h64]
   refine ⟨trivial,fun j h => ?_⟩
   obtain rfl : O.length = j := by omega
   refine ⟨by simp,List.getElem_concat_length rfl _,?_⟩
   rw [List.set_append_right _ _ (Nat.le_refl _),Nat.sub_self]
   rfl
theorem Apd {k : Krn} {o : Opn} (hk : o.kind ≠ 0) (hr : o.refs = 1) {j : Nat} (hz : (putK k.opens o).2 = (j : Int) + 1) : Abe { k with opens := (putK k.opens { o with refs := 0 }).1 } j = { k with opens := (putK k.opens o).1 } := by
 obtain ⟨hj,h1,h2⟩ := (Aii (O := k.opens) hk).2 j hz
 refine Ac6 rfl rfl rfl rfl ?_ rfl rfl
 show (putK k.opens { o with refs := 0 }).1.set j { (putK k.opens { o with refs := 0 }).1.getD j Aap with refs := ((putK k.opens { o with refs := 0 }).1.getD j Aap).refs + 1 } = (putK k.opens o).1
 rw [Abd _ j hj,h1,← h2]
 congr 1
 obtain ⟨a,b,c,d,e⟩ := o
 simp only at hr
 subst hr
 rfl
end Go.Proofs.YtkdfbliiblojoaaGreatDoor
