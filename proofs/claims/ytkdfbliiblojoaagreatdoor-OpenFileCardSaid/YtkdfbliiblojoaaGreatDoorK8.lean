import Derived.Laws.OwnMore
import Derived.Test.YtkdfbliiblojoaaGreatDoorK7
import Derived.Laws.StructEq
import Derived.ChangeKeysEq
set_option linter.all false
set_option maxRecDepth 100000
set_option maxHeartbeats 64000000
namespace Go.Proofs.YtkdfbliiblojoaaGreatDoor
open Go Go.RowKit
section
variable {T : Type} {F : T → List Value} {k : Nat}
def rowC (F : T → List Value) : List T → List Value
 | [] => []
 | x :: r => F x ++ rowC F r
theorem Aia (hF : ∀ x,(F x).length = k) : ∀ L : List T,(rowC F L).length = L.length * k
 | [] => by simp [rowC]
 | x :: r => by rw [rowC,List.length_append,hF,Aia hF r,List.length_cons,Nat.succ_mul]; omega
theorem Aio (hF : ∀ x,(F x).length = k) : ∀ (L : List T) (i : Nat) (hi : i < L.length) (f : Nat),f < k → (rowC F L)[i * k + f]? = (F L[i])[f]?
 | [],i,hi,_,_ => absurd hi (Nat.not_lt_zero _)
 | x :: r,0,_,f,hf => by
  rw [rowC,Nat.zero_mul,Nat.zero_add,List.getElem?_append_left (by rw [hF]; exact hf)]
  rfl
 | x :: r,i + 1,hi,f,hf => by
  have h := Aio hF r i (Nat.lt_of_succ_lt_succ hi) f hf
  rw [rowC,List.getElem?_append_right (by rw [hF,Nat.succ_mul]; omega),hF,show (i + 1) * k + f - k = i * k + f by rw [Nat.succ_mul]; omega]
  exact h
theorem Alk : ∀ (L M : List T),rowC F (L ++ M) = rowC F L ++ rowC F M
 | [],_ => rfl
 | x :: r,M => by rw [List.cons_append,rowC,rowC,Alk r M,List.append_assoc]
theorem Adj (hF : ∀ x,(F x).length = k) : ∀ (L : List T) (i : Nat) (hi : i < L.length) (y : T) (f : Nat) (v : Value),f < k → F y = (F L[i]).set f v → rowC F (L.set i y) = (rowC F L).set (i * k + f) v
 | [],i,hi,_,_,_,_,_ => absurd hi (Nat.not_lt_zero _)
 | x :: r,0,_,y,f,v,hf,h => by
  rw [List.set_cons_zero,rowC,rowC,Nat.zero_mul,Nat.zero_add,List.set_append_left _ _ (by rw [hF]; exact hf)]
  rw [show F y = (F x).set f v from h]
 | x :: r,i + 1,hi,y,f,v,hf,h => by
  have h2 := Adj hF r i (Nat.lt_of_succ_lt_succ hi) y f v hf h
  rw [List.set_cons_succ,rowC,rowC,List.set_append_right _ _ (by rw [hF,Nat.succ_mul]; omega),hF,show (i + 1) * k + f - k = i * k + f by rw [Nat.succ_mul]; omega,h2]
theorem Ali : ∀ (L : List T) (v : Value),v ∈ rowC F L → ∃ x,v ∈ F x
 | [],_,h => by cases h
 | x :: r,v,h => by
  rw [rowC,List.mem_append] at h
  rcases h with h | h
  ·exact ⟨x,h⟩
  ·exact Ali r v h
end
def pipF (p : Pip) : List Value := [.string ⟨p.data.toArray⟩,.int .i64 p.rd,.int .i64 p.wr,.int .i64 p.cap]
def opnF (o : Opn) : List Value := [.int .i64 o.kind,.int .i64 o.at_,.int .i64 o.off,.int .i64 o.flags,.int .i64 o.refs]
theorem Aey (p : Pip) : (pipF p).length = 4 := rfl
theorem Ad2 (o : Opn) : (opnF o).length = 5 := rfl
theorem Aps : ∀ (P : List Pip),∀ u ∈ rowC pipF P,u.oneCell' = true := fun P u h => by
 obtain ⟨x,hx⟩ := Ali P u h
 simp only [pipF,List.mem_cons,List.not_mem_nil,or_false] at hx
 rcases hx with rfl | rfl | rfl | rfl <;> rfl
theorem Apg : ∀ (P : List Opn),∀ u ∈ rowC opnF P,u.oneCell' = true := fun P u h => by
 obtain ⟨x,hx⟩ := Ali P u h
 simp only [opnF,List.mem_cons,List.not_mem_nil,or_false] at hx
 rcases hx with rfl | rfl | rfl | rfl | rfl <;> rfl
def SlIn (W : World) (a : Option Addr) (n cap k : Nat) (xs : List Value) : Prop :=
 n ≤ cap ∧ cap ≤ maxLen ∧ xs.length = n * k ∧ ∀ j,j < n * k → ∃ b o,a = some ⟨b,o,none⟩ ∧ W.cell? ⟨b,o + j,none⟩ = xs[j]?
theorem SlIn.below {W W' : World} {a : Option Addr} {n cap k : Nat} {xs : List Value} (h : SlIn W a n cap k xs) (hb : Below W.heap.size W W') : SlIn W' a n cap k xs := by
 refine ⟨h.1,h.2.1,h.2.2.1,fun j hj => ?_⟩
 obtain ⟨b,o,e1,e2⟩ := h.2.2.2 j hj
 have h3 := h.2.2.1
 rw [List.getElem?_eq_getElem (by omega)] at e2 ⊢
 exact ⟨b,o,e1,Aaa hb e2⟩
theorem SlIn.addr {W : World} {a : Option Addr} {n cap k : Nat} {xs : List Value} (h : SlIn W a n cap k xs) (hn : 0 < n) (hk : 0 < k) : ∃ b o,a = some ⟨b,o,none⟩ ∧ b < W.heap.size ∧ ∀ j u,xs[j]? = some u → W.cell? ⟨b,o + j,none⟩ = some u := by
 have hm := Nat.mul_pos hn hk
 obtain ⟨b,o,e1,e2⟩ := h.2.2.2 0 hm
 have h3 := h.2.2.1
 refine ⟨b,o,e1,?_,fun j u hj => ?_⟩
 ·rw [List.getElem?_eq_getElem (by omega)] at e2
  exact Aaj e2
 ·have hlt := (List.getElem?_eq_some_iff.1 hj).1
  obtain ⟨b',o',e3,e4⟩ := h.2.2.2 j (by omega)
  rw [e1] at e3
  obtain ⟨rfl,rfl⟩ : b = b' ∧ o = o' := by simpa using e3
  rw [e4,hj]
structure KAd where
 ta : Option Addr
 tc : Nat
 pa : Option Addr
 pc : Nat
 oa : Option Addr
 oc : Nat
structure KernIn (W : World) (A : KAd) (K : Krn) : Prop where
 tree : Aah W A.ta A.tc K.tree
 pipes : SlIn W A.pa K.pipes.length A.pc 4 (rowC pipF K.pipes)
 opens : SlIn W A.oa K.opens.length A.oc 5 (rowC opnF K.opens)
theorem KernIn.below {W W' : World} {A : KAd} {K : Krn} (h : KernIn W A K) (hb : Below W.heap.size W W') : KernIn W' A K := ⟨h.tree.below hb,h.pipes.below hb,h.opens.below hb⟩
def Aeb (f : List Int) : Array Value := (f.map (Value.int .i64)).toArray
theorem SlIn.of_row {W : World} {B : Nat} {e : TypeId} {k : Nat} {a : Option Addr} {n cap : Nat} {xs : List Value} (h : W.ownsRow B e k (.slice a n cap) n xs) : SlIn W a n cap k xs := by
 rcases h.2 with ⟨hv,h0⟩ | ⟨g,cap',cur,hv,hg,hc,h1,h2,h3,h4⟩
 ·simp only [Value.slice.injEq] at hv
  obtain ⟨rfl,rfl,rfl⟩ := hv
  exact ⟨Nat.le_refl _,Nat.zero_le _,h.1,fun j hj => by simp at hj⟩
 ·simp only [Value.slice.injEq] at hv
  obtain ⟨rfl,-,rfl⟩ := hv
  exact ⟨h1,h2,h.1,fun j hj => ⟨g,0,rfl,by rw [Nat.zero_add]; exact h.cellAt j hj⟩⟩
theorem SlIn.pip {W : World} {a : Option Addr} {cap : Nat} {P : List Pip} (h : SlIn W a P.length cap 4 (rowC pipF P)) (i : Nat) (hi : i < P.length) : ∃ b o,a = some ⟨b,o,none⟩ ∧ W.cell? ⟨b,o + i * 4,none⟩ = some (.string ⟨P[i].data.toArray⟩) ∧ W.cell? ⟨b,o + i * 4 + 1,none⟩ = some (.int .i64 P[i].rd) ∧ W.cell? ⟨b,o + i * 4 + 2,none⟩ = some (.int .i64 P[i].wr) ∧ W.cell? ⟨b,o + i * 4 + 3,none⟩ = some (.int .i64 P[i].cap) := by
 obtain ⟨b,o,ha,-,hc⟩ := h.addr (by omega) (by decide)
 have hg := fun f hf => Aio Aey P i hi f hf
 exact ⟨b,o,ha,hc _ _ (hg 0 (by decide)),hc _ _ (hg 1 (by decide)),hc _ _ (hg 2 (by decide)),hc _ _ (hg 3 (by decide))⟩
theorem SlIn.opn {W : World} {a : Option Addr} {cap : Nat} {P : List Opn} (h : SlIn W a P.length cap 5 (rowC opnF P)) (i : Nat) (hi : i < P.length) : ∃ b o,a = some ⟨b,o,none⟩ ∧ W.cell? ⟨b,o + i * 5,none⟩ = some (.int .i64 P[i].kind) ∧ W.cell? ⟨b,o + i * 5 + 1,none⟩ = some (.int .i64 P[i].at_) ∧ W.cell? ⟨b,o + i * 5 + 2,none⟩ = some (.int .i64 P[i].off) ∧ W.cell? ⟨b,o + i * 5 + 3,none⟩ = some (.int .i64 P[i].flags) ∧ W.cell? ⟨b,o + i * 5 + 4,none⟩ = some (.int .i64 P[i].refs) := by
 obtain ⟨b,o,ha,-,hc⟩ := h.addr (by omega) (by decide)
 have hg := fun f hf => Aio Ad2 P i hi f hf
 exact ⟨b,o,ha,hc _ _ (hg 0 (by decide)),hc _ _ (hg 1 (by decide)),hc _ _ (hg 2 (by decide)),hc _ _ (hg 3 (by decide)),hc _ _ (hg 4 (by decide))⟩
theorem Ajn (b o n : Nat) : (⟨b,o,none⟩ : Addr).add n = ⟨b,o + n,none⟩ := by
 unfold Addr.add
 split
 ·rename_i h
  rw [h]
  rfl
 ·rfl
theorem Ad4 (w : World) (A B C : Array Value) (s t u : TypeId) : ∃ w3,w3 = ((w.alloc (.cells A s)).alloc (.cells B t)).alloc (.cells C u) ∧ Below w.heap.size w w3 ∧ w3.heap.size = w.heap.size + 3 ∧ w3.heap[w.heap.size]? = some (.cells A s (0,0)) ∧ w3.heap[w.heap.size + 1]? = some (.cells B t (0,0)) ∧ w3.heap[w.heap.size + 2]? = some (.cells C u (0,0)) := by
 obtain ⟨w2,hw2,h1,h2,h3,h4⟩ := Aam w A B s t
 refine ⟨_,rfl,?_,?_,?_,?_,?_⟩ <;> rw [← hw2]
 ·exact h1.alloc h1.size _
 ·rw [World.size_alloc,h2]
 ·rw [Below.heap_alloc _ _ _ (by omega)]; exact h3
 ·rw [Below.heap_alloc _ _ _ (by omega)]; exact h4
 ·have := Aae w2 (.cells C u)
  rw [h2] at this
  exact this
theorem Agf (f : List Int) (n : Nat) (h : n < f.length) : (Aeb f)[n]? = some (.int .i64 (f.getD n 0)) := by
 simp [Aeb,h]
theorem Akh (f : List Int) (n : Nat) (x : Int) : (Aeb f).setIfInBounds n (.int .i64 x) = Aeb (f.set n x) := by
 apply Array.ext'
 simp [Aeb,List.map_set]
def put7 (W : World) (k : Nat) (x0 x1 x2 x3 x4 x5 x6 : Value) : World := ((((((W.setCell ⟨k,0,none⟩ x0).setCell ⟨k,1,none⟩ x1).setCell ⟨k,2,none⟩ x2).setCell ⟨k,3,none⟩ x3).setCell ⟨k,4,none⟩ x4).setCell ⟨k,5,none⟩ x5).setCell ⟨k,6,none⟩ x6
theorem Afh {W : World} {k : Nat} {a b c d e f g : Value} {t : TypeId} (h : W.heap[k]? = some (.cells #[a,b,c,d,e,f,g] t (0,0))) (x0 x1 x2 x3 x4 x5 x6 : Value) : (put7 W k x0 x1 x2 x3 x4 x5 x6).heap[k]? = some (.cells #[x0,x1,x2,x3,x4,x5,x6] t (0,0)) := by
 have h0 : (W.setCell ⟨k,0,none⟩ x0).heap[k]? = some (.cells #[x0,b,c,d,e,f,g] t (0,0)) := Aa0 h 0 x0
 have h1 : ((W.setCell ⟨k,0,none⟩ x0).setCell ⟨k,1,none⟩ x1).heap[k]? = some (.cells #[x0,x1,c,d,e,f,g] t (0,0)) := Aa0 h0 1 x1
 have h2 : (((W.setCell ⟨k,0,none⟩ x0).setCell ⟨k,1,none⟩ x1).setCell ⟨k,2,none⟩ x2).heap[k]? = some (.cells #[x0,x1,x2,d,e,f,g] t (0,0)) := Aa0 h1 2 x2
 have h3 : ((((W.setCell ⟨k,0,none⟩ x0).setCell ⟨k,1,none⟩ x1).setCell ⟨k,2,none⟩ x2).setCell ⟨k,3,none⟩ x3).heap[k]? = some (.cells #[x0,x1,x2,x3,e,f,g] t (0,0)) := Aa0 h2 3 x3
 have h4 : (((((W.setCell ⟨k,0,none⟩ x0).setCell ⟨k,1,none⟩ x1).setCell ⟨k,2,none⟩ x2).setCell ⟨k,3,none⟩ x3).setCell ⟨k,4,none⟩ x4).heap[k]? = some (.cells #[x0,x1,x2,x3,x4,f,g] t (0,0)) := Aa0 h3 4 x4
 have h5 : ((((((W.setCell ⟨k,0,none⟩ x0).setCell ⟨k,1,none⟩ x1).setCell ⟨k,2,none⟩ x2).setCell ⟨k,3,none⟩ x3).setCell ⟨k,4,none⟩ x4).setCell ⟨k,5,none⟩ x5).heap[k]? = some (.cells #[x0,x1,x2,x3,x4,x5,g] t (0,0)) := Aa0 h4 5 x5
 have h6 : (((((((W.setCell ⟨k,0,none⟩ x0).setCell ⟨k,1,none⟩ x1).setCell ⟨k,2,none⟩ x2).setCell ⟨k,3,none⟩ x3).setCell ⟨k,4,none⟩ x4).setCell ⟨k,5,none⟩ x5).setCell ⟨k,6,none⟩ x6).heap[k]? = some (.cells #[x0,x1,x2,x3,x4,x5,x6] t (0,0)) := Aa0 h5 6 x6
 exact h6
theorem Ahn {W : World} {k j : Nat} (h : j ≠ k) (x0 x1 x2 x3 x4 x5 x6 : Value) : (put7 W k x0 x1 x2 x3 x4 x5 x6).heap[j]? = W.heap[j]? := by
 unfold put7
 rw [Below.heap_setCell _ _ _ _ h,Below.heap_setCell _ _ _ _ h,Below.heap_setCell _ _ _ _ h,Below.heap_setCell _ _ _ _ h,Below.heap_setCell _ _ _ _ h,Below.heap_setCell _ _ _ _ h,Below.heap_setCell _ _ _ _ h]
theorem Aqz {B : Nat} {w W : World} {k : Nat} (h : Below B w W) (hk : B ≤ k) (x0 x1 x2 x3 x4 x5 x6 : Value) : Below B w (put7 W k x0 x1 x2 x3 x4 x5 x6) := ((((((h.setCell hk _).setCell hk _).setCell hk _).setCell hk _).setCell hk _).setCell hk _).setCell hk _
theorem Aar {W : World} {g : Nat} {c0 c1 c2 c3 c4 c5 c6 : Value} {t : TypeId} (h : W.heap[g]? = some (.cells #[c0,c1,c2,c3,c4,c5,c6] t (0,0))) :
  W.cell? ⟨g,0,none⟩ = some c0 ∧ W.cell? ⟨g,1,none⟩ = some c1 ∧ W.cell? ⟨g,2,none⟩ = some c2 ∧ W.cell? ⟨g,3,none⟩ = some c3 ∧ W.cell? ⟨g,4,none⟩ = some c4 ∧ W.cell? ⟨g,5,none⟩ = some c5 ∧ W.cell? ⟨g,6,none⟩ = some c6 :=
 ⟨bC h 0,bC h 1,bC h 2,bC h 3,bC h 4,bC h 5,bC h 6⟩
section
variable {k : Krn} {f : List Int} {er ew : Nat → Int}
theorem FitE.at_zero (_h : FitE k f er ew) {fd : Nat} (hfd : fd < f.length) : f.getD fd 0 = f[fd] := Abd f fd hfd 0
theorem FitE.desc (h : FitE k f er ew) {fd : Nat} (hfd : fd < f.length) (h0 : f[fd] ≠ 0) : ∃ j : Nat,∃ hj : j < k.opens.length,f[fd] = (j : Int) + 1 ∧ k.opens[j].kind ≠ 0 ∧ (f.count ((j : Int) + 1) : Int) ≤ k.opens[j].refs := by
 rcases h.fds fd hfd with h1 | ⟨j,hj,h2,h3,h4⟩
 ·exact absurd h1 h0
 ·rw [h2] at h4
  exact ⟨j,hj,h2,h3,h4⟩
theorem Aht (h : FitE k f er ew) {fd : Nat} (hfd : fd < f.length) : (f[fd] = 0 ∧ Aat k f fd = (k,f)) ∨ ∃ j : Nat,∃ hj : j < k.opens.length,f[fd] = (j : Int) + 1 ∧ k.opens[j].kind ≠ 0 ∧ (f.count ((j : Int) + 1) : Int) ≤ k.opens[j].refs ∧ Aat k f fd = (Aa5 k j,f.set fd 0) := by
 unfold Aat
 rw [h.at_zero hfd]
 by_cases h0 : f[fd] = 0
 ·rw [if_pos h0]
  exact .inl ⟨h0,rfl⟩
 ·obtain ⟨j,hj,h1,h2,h3⟩ := h.desc hfd h0
  rw [if_neg h0]
  exact .inr ⟨j,hj,h1,h2,h3,by rw [h1,show ((j : Int) + 1 - 1).toNat = j by omega]⟩
theorem Agd (h : FitE k f er ew) (her : ∀ i,0 ≤ er i) (hew : ∀ i,0 ≤ ew i) {fd : Nat} (hfd : fd < f.length) : FitE (Aat k f fd).1 (Aat k f fd).2 er ew := by
 rcases Aht h hfd with ⟨-,e⟩ | ⟨j,hj,h1,h2,h3,e⟩
 ·rw [e]; exact h
 ·rw [e]; exact Apr h her hew hfd hj h1
theorem Ag6 (h : FitE k f er ew) {fd : Nat} (hfd : fd < f.length) (i : Nat) : (Aat k f fd).2.getD i 0 = if fd = i then 0 else f.getD i 0 := by
 rcases Aht h hfd with ⟨h0,e⟩ | ⟨j,hj,h1,h2,h3,e⟩
 ·rw [e]
  split
  ·rename_i e2
   subst e2
   rw [h.at_zero hfd]; exact h0
  ·rfl
 ·rw [e]
  show (f.set fd 0).getD i 0 = _
  rw [List.getD_eq_getElem?_getD,List.getD_eq_getElem?_getD,List.getElem?_set]
  split
  ·rename_i e2
   subst e2
   rfl
  ·rfl
theorem Ae1 (k : Krn) (f : List Int) (fd : Nat) : (Aat k f fd).1.opens.length = k.opens.length ∧ (Aat k f fd).2.length = f.length := by
 unfold Aat
 split
 ·exact ⟨rfl,rfl⟩
 ·exact ⟨Ab6 _ _,List.length_set ..⟩
theorem Aej (h : FitE k f er ew) {fd : Nat} (hfd : fd < f.length) {j : Nat} (hS : Alc k f j) : Alc (Aat k f fd).1 (Aat k f fd).2 j := by
 obtain ⟨hj,hk,hc⟩ := hS
 rcases Aht h hfd with ⟨-,e⟩ | ⟨j0,hj0,h1,h2,h3,e⟩
 ·rw [e]; exact ⟨hj,hk,hc⟩
 ·rw [e]
  have hcs := Ai5 f fd hfd 0 ((j : Int) + 1)
  rw [if_neg (show ¬ (0 : Int) = (j : Int) + 1 by omega)] at hcs
  refine ⟨by rw [Ab6]; exact hj,?_⟩
  by_cases ej : j0 = j
  ·subst ej
   rw [if_pos h1] at hcs
   have h5 := Ap3 f fd hfd
   rw [h1] at h5
   have hne : k.opens[j0].refs ≠ 1 := by omega
   have hE := Acm k j0 hj hne
   have hO : (Aa5 k j0).opens[j0]'(by rw [Ab6]; exact hj) = { k.opens[j0] with refs := k.opens[j0].refs - 1 } := by simp only [hE,List.getElem_set_self]
   rw [hO]
   exact ⟨hk,by show ((f.set fd 0).count _ : Int) + 1 ≤ k.opens[j0].refs - 1; omega⟩
  ·rw [if_neg (by omega)] at hcs
   rw [Aco k j0 j ej hj]
   exact ⟨hk,by show ((f.set fd 0).count _ : Int) + 1 ≤ _; omega⟩
theorem Ah9 (h : FitE k f er ew) {fd : Nat} (hfd : fd < f.length) (h0 : f[fd] = 0) {j : Nat} (hS : Alc k f j) : FitE k (f.set fd ((j : Int) + 1)) er ew := by
 obtain ⟨hj,hk,hc⟩ := hS
 refine ⟨h.tree,h.np,h.no,h.o0,h.o1,h.opens,h.pipes,by rw [List.length_set]; exact h.len,fun i hi => ?_⟩
 have hi' : i < f.length := by rw [List.length_set] at hi; exact hi
 have hcs := fun y => Ai5 f fd hfd ((j : Int) + 1) y
 by_cases e : fd = i
 ·subst e
  have e2 : (f.set fd ((j : Int) + 1))[fd] = (j : Int) + 1 := List.getElem_set_self ..
  refine .inr ⟨j,hj,e2,hk,?_⟩
  rw [e2,hcs,if_neg (by omega),if_pos rfl]
  omega
 ·have e2 : (f.set fd ((j : Int) + 1))[i] = f[i] := List.getElem_set_ne e ..
  rw [e2]
  rcases h.fds i hi' with h1 | ⟨j2,hj2,h2,h3,h4⟩
  ·exact .inl h1
  ·refine .inr ⟨j2,hj2,h2,h3,?_⟩
   rw [hcs,if_neg (by omega)]
   by_cases ej : j = j2
   ·subst ej
    rw [if_pos h2.symm]
    rw [h2] at h4 ⊢
    omega
   ·rw [if_neg (by omega)]
    omega
theorem Aro {fd : Nat} (hfd : fd < f.length) (h0 : f[fd] = 0) {j j2 : Nat} (hne : j ≠ j2) (hS : Alc k f j2) : Alc k (f.set fd ((j : Int) + 1)) j2 := by
 obtain ⟨hj,hk,hc⟩ := hS
 refine ⟨hj,hk,?_⟩
 rw [Ai5 f fd hfd,if_neg (by omega),if_neg (by omega)]
 omega
def putK (O : List Opn) (o : Opn) : List Opn × Int :=
 match O.findIdx? (fun x => x.kind == 0) with
 | some i => (O.set i o,(i : Int) + 1)
 | none => if 64 ≤ O.length then (O,0) else (O ++ [o],(O.length : Int) + 1)
theorem Ae5 {O : List Opn} {o : Opn} {O' : List Opn} {a : Int} (hz : putK O o = (O',a)) (ha : a ≠ 0) :
  (∃ i : Nat,∃ hi : i < O.length,O[i].kind = 0 ∧ O' = O.set i o ∧ a = (i : Int) + 1) ∨ (O.length < 64 ∧ O' = O ++ [o] ∧ a = (O.length : Int) + 1) := by
 unfold putK at hz
 split at hz
 ·rename_i i hi
  obtain ⟨h1,h2,-⟩ := List.findIdx?_eq_some_iff_getElem.1 hi
  simp only [Prod.mk.injEq] at hz
  exact .inl ⟨i,h1,by simpa using h2,hz.1.symm,hz.2.symm⟩
 ·split at hz
  ·simp only [Prod.mk.injEq] at hz
   exact absurd hz.2.symm ha
  ·simp only [Prod.mk.injEq] at hz
   exact .inr ⟨by omega,hz.1.symm,hz.2.symm⟩
def Aby (e : Nat → Int) (kd : Int) (o : Opn) : Nat → Int := fun i => e i - (if Acd kd i o = true then 1 else 0)
theorem An6 (h : FitE k f er ew) {o : Opn} (hg : Abb k.tree k.pipes.length o) (hk : o.kind ≠ 0) (hr : o.refs = 1) {O' : List Opn} {a : Int} (hz : putK k.opens o = (O',a)) (ha : a ≠ 0) :
  ∃ j : Nat,a = (j : Int) + 1 ∧ Alc { k with opens := O' } f j ∧ FitE { k with opens := O' } f (Aby er 2 o) (Aby ew 3 o) ∧ (∀ j2,Alc k f j2 → Alc { k with opens := O' } f j2 ∧ j ≠ j2) := by
 rcases Ae5 hz ha with ⟨i,hi,h0,rfl,rfl⟩ | ⟨hlen,rfl,rfl⟩
 ·-- in the place of one that is free
  have hno : k.opens[i] = Aap := Alq (h.opens i hi) h0
  have hends : ∀ kd : Int,kd ≠ 0 → ∀ q,(Abl (k.opens.set i o) kd q : Int) = Abl k.opens kd q + (if Acd kd q o = true then 1 else 0) := fun kd hkd q => by
   rw [Agz _ i hi,hno,if_neg (show ¬ Acd kd q Aap = true by rw [Akk kd hkd]; decide)]
   omega
  have hcnt : f.count ((i : Int) + 1) = 0 := by
   rw [List.count_eq_zero]
   intro hm
   obtain ⟨q,hq,e⟩ := List.getElem_of_mem hm
   rcases h.fds q hq with h1 | ⟨j2,hj2,h2,h3,-⟩
   ·omega
   ·obtain rfl : i = j2 := by omega
    exact h3 h0
  refine ⟨i,rfl,⟨by show i < (k.opens.set i o).length; rw [List.length_set]; exact hi,?_⟩,⟨h.tree,h.np,by show (k.opens.set i o).length ≤ 64; rw [List.length_set]; exact h.no,h.o0,h.o1,fun q hq => ?_,fun q hq => ?_,h.len,fun q hq => ?_⟩,fun j2 hS => ?_⟩
  ·have hii : i < (k.opens.set i o).length := by rw [List.length_set]; exact hi
   have e : (k.opens.set i o)[i] = o := List.getElem_set_self ..
   show (k.opens.set i o)[i].kind ≠ 0 ∧ _ ≤ (k.opens.set i o)[i].refs
   rw [e,hcnt,hr]
   exact ⟨hk,by decide⟩
  ·have hq' : q < k.opens.length := by have : q < (k.opens.set i o).length := hq; rw [List.length_set] at this; exact this
   show Abb k.tree k.pipes.length (k.opens.set i o)[q]
   by_cases e : i = q
   ·subst e
    rw [List.getElem_set_self]; exact hg
   ·rw [List.getElem_set_ne e]; exact h.opens q hq'
  ·obtain ⟨p1,p2,p3⟩ := h.pipes q hq
   have e2 := hends 2 (by decide) q
   have e3 := hends 3 (by decide) q
   show Abw k.pipes[q] = true ∧ k.pipes[q].rd = (Abl (k.opens.set i o) 2 q : Int) + Aby er 2 o q ∧ (k.pipes[q].wr = (Abl (k.opens.set i o) 3 q : Int) + Aby ew 3 o q ∨ (q = 0 ∧ k.pipes[q].wr ≤ (Abl (k.opens.set i o) 3 q : Int) + Aby ew 3 o q))
   unfold Aby
   rw [e2,e3]
   exact ⟨p1,by omega,by omega⟩
  ·rcases h.fds q hq with h1 | ⟨j2,hj2,h2,h3,h4⟩
   ·exact .inl h1
   ·have e : i ≠ j2 := fun e => by subst e; exact h3 h0
    have hjj : j2 < (k.opens.set i o).length := by rw [List.length_set]; exact hj2
    refine .inr ⟨j2,hjj,h2,?_⟩
    show (k.opens.set i o)[j2].kind ≠ 0 ∧ _ ≤ (k.opens.set i o)[j2].refs
    rw [List.getElem_set_ne e]
    exact ⟨h3,h4⟩
  ·obtain ⟨hj,hk2,hc⟩ := hS
   have e : i ≠ j2 := fun e => by subst e; exact hk2 h0
   have hjj : j2 < (k.opens.set i o).length := by rw [List.length_set]; exact hj
   refine ⟨⟨hjj,?_⟩,e⟩
   show (k.opens.set i o)[j2].kind ≠ 0 ∧ _ ≤ (k.opens.set i o)[j2].refs
   rw [List.getElem_set_ne e]
   exact ⟨hk2,hc⟩
 ·-- behind all
  have hcnt : f.count ((k.opens.length : Int) + 1) = 0 := by
   rw [List.count_eq_zero]
   intro hm
   obtain ⟨q,hq,e⟩ := List.getElem_of_mem hm
   rcases h.fds q hq with h1 | ⟨j2,hj2,h2,h3,-⟩
   ·omega
   ·omega
  have hlen2 : (k.opens ++ [o]).length = k.opens.length + 1 := by simp
  refine ⟨k.opens.length,rfl,⟨by show k.opens.length < (k.opens ++ [o]).length; omega,?_⟩,⟨h.tree,h.np,by show (k.opens ++ [o]).length ≤ 64; omega,h.o0,h.o1,fun q hq => ?_,fun q hq => ?_,h.len,fun q hq => ?_⟩,fun j2 hS => ?_⟩
  ·have hii : k.opens.length < (k.opens ++ [o]).length := by omega
   have e : (k.opens ++ [o])[k.opens.length] = o := List.getElem_concat_length rfl _
   show (k.opens ++ [o])[k.opens.length].kind ≠ 0 ∧ _ ≤ (k.opens ++ [o])[k.opens.length].refs
   rw [e,hcnt,hr]
   exact ⟨hk,by decide⟩
  ·have hq' : q < (k.opens ++ [o]).length := hq
   show Abb k.tree k.pipes.length (k.opens ++ [o])[q]
   by_cases e : q < k.opens.length
   ·rw [List.getElem_append_left e]; exact h.opens q e
   ·have e2 : q = k.opens.length := by omega
    subst e2
    rw [List.getElem_concat_length rfl]; exact hg
  ·obtain ⟨p1,p2,p3⟩ := h.pipes q hq
   have e2 := Aiq k.opens o 2 q
   have e3 := Aiq k.opens o 3 q
   show Abw k.pipes[q] = true ∧ k.pipes[q].rd = (Abl (k.opens ++ [o]) 2 q : Int) + Aby er 2 o q ∧ (k.pipes[q].wr = (Abl (k.opens ++ [o]) 3 q : Int) + Aby ew 3 o q ∨ (q = 0 ∧ k.pipes[q].wr ≤ (Abl (k.opens ++ [o]) 3 q : Int) + Aby ew 3 o q))
   unfold Aby
   rw [e2,e3]
   exact ⟨p1,by omega,by omega⟩
  ·rcases h.fds q hq with h1 | ⟨j2,hj2,h2,h3,h4⟩
   ·exact .inl h1
   ·have hjj : j2 < (k.opens ++ [o]).length := by omega
    refine .inr ⟨j2,hjj,h2,?_⟩
    show (k.opens ++ [o])[j2].kind ≠ 0 ∧ _ ≤ (k.opens ++ [o])[j2].refs
    rw [List.getElem_append_left hj2]
    exact ⟨h3,h4⟩
  ·obtain ⟨hj,hk2,hc⟩ := hS
   have hjj : j2 < (k.opens ++ [o]).length := by omega
   refine ⟨⟨hjj,?_⟩,by omega⟩
   show (k.opens ++ [o])[j2].kind ≠ 0 ∧ _ ≤ (k.opens ++ [o])[j2].refs
   rw [List.getElem_append_left hj]
   exact ⟨hk2,hc⟩
end
def isFd (fd : Int) : Bool := decide (0 ≤ fd) && decide (fd < 10)
def Ado (k : Krn) (f : List Int) (fd : Int) : Krn × List Int × Int :=
 if isFd fd = false ∨ f.getD fd.toNat 0 = 0 then (k,f,9) else ((Aat k f fd.toNat).1,(Aat k f fd.toNat).2,0)
def Abe (k : Krn) (j : Nat) : Krn := { k with opens := k.opens.set j { k.opens.getD j Aap with refs := (k.opens.getD j Aap).refs + 1 } }
def dupK (k : Krn) (f : List Int) (fr to : Int) : Krn × List Int × Int :=
 if isFd fr = false ∨ isFd to = false ∨ f.getD fr.toNat 0 = 0 then (k,f,9) else if fr = to then (k,f,0) else
 ((Aat (Abe k (f.getD fr.toNat 0 - 1).toNat) f to.toNat).1,(Aat (Abe k (f.getD fr.toNat 0 - 1).toNat) f to.toNat).2.set to.toNat (f.getD fr.toNat 0),0)
theorem Ach {fd : Int} (h : isFd fd = true) : ∃ n : Nat,fd = (n : Int) ∧ n < 10 := by
 unfold isFd at h
 simp only [Bool.and_eq_true,decide_eq_true_eq] at h
 exact ⟨fd.toNat,by omega,by omega⟩
theorem Adh (i : Nat) : 0 ≤ Afz i := Int.le_refl _
theorem Axp {k : Krn} {f : List Int} (h : FitK k f) (fd : Int) {k' : Krn} {f' : List Int} {e : Int} (hz : Ado k f fd = (k',f',e)) : FitK k' f' ∧ (e ≠ 0 → k' = k ∧ f' = f) := by
 unfold Ado at hz
 split at hz
 ·simp only [Prod.mk.injEq] at hz
  obtain ⟨rfl,rfl,rfl⟩ := hz
  exact ⟨h,fun _ => ⟨rfl,rfl⟩⟩
 ·rename_i hn
  simp only [Prod.mk.injEq] at hz
  obtain ⟨rfl,rfl,rfl⟩ := hz
  have hfd : isFd fd = true := by
   cases hb : isFd fd with
   | true => rfl
   | false => exact absurd (.inl hb) hn
  obtain ⟨n,rfl,hn10⟩ := Ach hfd
  exact ⟨Agd h Adh Adh (by rw [Int.toNat_natCast,h.len]; exact hn10),fun h0 => absurd rfl h0⟩
theorem Amn {k : Krn} {j : Nat} (hj : j < k.opens.length) (kd : Int) (i : Nat) : Abl (Abe k j).opens kd i = Abl k.opens kd i := by
 have h2 := Agz k.opens j hj { k.opens[j] with refs := k.opens[j].refs + 1 } kd i
 have h3 : Acd kd i { k.opens[j] with refs := k.opens[j].refs + 1 } = Acd kd i k.opens[j] := rfl
 rw [h3] at h2
 have h1 : (Abe k j).opens = k.opens.set j { k.opens[j] with refs := k.opens[j].refs + 1 } := by
  unfold Abe
  rw [Abd _ j hj]
 rw [h1]
 omega
theorem Afr {k : Krn} {j : Nat} (hj : j < k.opens.length) (i : Nat) (hi : i < k.opens.length) : (Abe k j).opens[i]'(by unfold Abe; rw [List.length_set]; exact hi) = if j = i then { k.opens[j] with refs := k.opens[j].refs + 1 } else k.opens[i] := by
 unfold Abe
 simp only [Abd _ j hj,List.getElem_set]
theorem Ac1 (k : Krn) (j : Nat) : (Abe k j).opens.length = k.opens.length := by unfold Abe; exact List.length_set ..
theorem Ao4 {k : Krn} {f : List Int} {er ew : Nat → Int} (h : FitE k f er ew) {j : Nat} (hj : j < k.opens.length) (hk : k.opens[j].kind ≠ 0) (hr : k.opens[j].refs ≤ 999) : FitE (Abe k j) f er ew := by
 refine ⟨h.tree,h.np,by rw [Ac1]; exact h.no,h.o0,h.o1,fun i hi => ?_,fun i hi => ?_,h.len,fun i hi => ?_⟩
 ·have hi' : i < k.opens.length := by rw [Ac1] at hi; exact hi
  rw [Afr hj i hi']
  split
  ·rename_i e
   subst e
   have := Ahf (h.opens j hj) hk
   exact Aml (h.opens j hj) hk (by omega) (by omega)
  ·exact h.opens i hi'
 ·rw [Amn hj,Amn hj]
  exact h.pipes i hi
 ·rcases h.fds i hi with h1 | ⟨j2,hj2,h2,h3,h4⟩
  ·exact .inl h1
  ·refine .inr ⟨j2,by rw [Ac1]; exact hj2,h2,?_⟩
   rw [Afr hj j2 hj2]
   split
   ·rename_i e
    subst e
    exact ⟨hk,by show _ ≤ k.opens[j].refs + 1; omega⟩
   ·exact ⟨h3,h4⟩
theorem Bai {k : Krn} {f : List Int} (h : FitK k f) (hr : ∀ o ∈ k.opens,o.refs ≤ 900) (fr to : Int) {k' : Krn} {f' : List Int} {e : Int} (hz : dupK k f fr to = (k',f',e)) : FitK k' f' ∧ (e ≠ 0 → k' = k ∧ f' = f) := by
 unfold dupK at hz
 split at hz
 ·simp only [Prod.mk.injEq] at hz
  obtain ⟨rfl,rfl,rfl⟩ := hz
  exact ⟨h,fun _ => ⟨rfl,rfl⟩⟩
 rename_i hn
 split at hz
 ·simp only [Prod.mk.injEq] at hz
  obtain ⟨rfl,rfl,rfl⟩ := hz
  exact ⟨h,fun _ => ⟨rfl,rfl⟩⟩
 simp only [Prod.mk.injEq] at hz
 obtain ⟨rfl,rfl,rfl⟩ := hz
 refine ⟨?_,fun h0 => absurd rfl h0⟩
 simp only [not_or] at hn
 obtain ⟨n1,n2,n3⟩ := hn
 obtain ⟨a,rfl,ha⟩ := Ach (show isFd fr = true by simpa using n1)
 obtain ⟨c,rfl,hc⟩ := Ach (show isFd to = true by simpa using n2)
 rw [Int.toNat_natCast] at n3
 rw [Int.toNat_natCast,Int.toNat_natCast]
 have hal : a < f.length := by rw [h.len]; exact ha
 have hcl : c < f.length := by rw [h.len]; exact hc
 rw [h.at_zero hal] at n3 ⊢
 obtain ⟨j,hj,h1,h2,h3⟩ := h.desc hal n3
 rw [h1,show ((j : Int) + 1 - 1).toNat = j by omega]
 have hF := Ao4 h hj h2 (by have := hr _ (List.getElem_mem hj); omega)
 have hS : Alc (Abe k j) f j := by
  refine ⟨by rw [Ac1]; exact hj,?_⟩
  rw [Afr hj j hj,if_pos rfl]
  exact ⟨h2,by show _ + 1 ≤ k.opens[j].refs + 1; omega⟩
 have hF2 := Agd hF Adh Adh hcl
 have hS2 := Aej hF hcl hS
 have hl2 : c < (Aat (Abe k j) f c).2.length := by rw [(Ae1 _ _ _).2]; exact hcl
 have hz2 := Ag6 hF hcl c
 rw [if_pos rfl,Abd _ c hl2] at hz2
 exact Ah9 hF2 hl2 hz2 hS2
structure MadeOk (L : List Ino) (m b : Int) (cwd : Int) (p : List UInt8) (x : Ino) (L' : List Ino) (k : Int) : Prop where
 made : ∃ (d : Nat) (s : List UInt8) (j : Nat),k = (j : Int) ∧ Abk L cwd p = ((d : Int),s,0) ∧ L' = addL L d j s { x with links := 1 } ∧ (∃ h : j < L.length,L[j].kind = 0) ∧ Adds L m b d j s { x with links := 1 } ∧ j ≠ 0
theorem Atd {L : List Ino} {m b : Int} (hF : FitP L m b) (h : 0 < L.length) : L[0].kind = 2 := (Acr (n := 0) h).1 hF.root
theorem Apy {L : List Ino} {m b : Int} (hF : FitP L m b) {cwd : Int} {p : List UInt8} {dirs : Bool} (h : (Abp L cwd p dirs).2.2 = 0) {x : Ino} (ha : Abo { x with links := 1 } = true) (h0 : x.kind ≠ 0) (hkids : x.kids = []) (hup : x.kind = 2 → x.up = (Abp L cwd p dirs).1) (hub : (Aax L : Int) + x.data.length ≤ b)
  {L' : List Ino} {k e : Int} (hz : Ajo L (Abp L cwd p dirs).1 (Abp L cwd p dirs).2.1 x = (L',k,e)) : (e = 0 → MadeOk L m b cwd p x L' k) ∧ (e ≠ 0 → L' = L ∧ k = 0) := by
 obtain ⟨d,s,hd,hp,hf,hdir,hs,hn,-⟩ := Ak7 hF h
 rw [hf] at hz hup
 unfold Ajo at hz
 split at hz
 ·cases hz
  exact ⟨(fun h => by cases h),fun _ => ⟨rfl,rfl⟩⟩
 ·rename_i hroom
  have hroom' : L[d].kids.length < 1024 := by
   have h1 : ¬ 1024 ≤ (Aaf L (d : Int)).kids.length := hroom
   rw [Aad L d hd] at h1
   omega
  split at hz
  ·cases hz
   exact ⟨(fun h => by cases h),fun _ => ⟨rfl,rfl⟩⟩
  ·rename_i j hj
   obtain ⟨hjl,hj0,hA⟩ := Aq9 hF hd hdir hs hn hj hroom' ha h0 hkids hup hub
   cases hz
   refine ⟨fun _ => ⟨d,s,j,rfl,hp,by rw [Int.toNat_natCast],⟨hjl,hj0⟩,hA,fun e => ?_⟩,fun h => absurd rfl h⟩
   subst e
   rw [Atd hF hjl] at hj0
   cases hj0
theorem Aph {L : List Ino} {cwd : Int} {p : List UInt8} {dirs : Bool} {A B : List Ino × Int × Int} {z : List Ino × Int × Int} (h : (if (Abp L cwd p dirs).2.2 ≠ 0 then A else B) = z) : ((Abp L cwd p dirs).2.2 ≠ 0 ∧ A = z) ∨ ((Abp L cwd p dirs).2.2 = 0 ∧ B = z) := by
 by_cases h0 : (Abp L cwd p dirs).2.2 = 0
 ·rw [if_neg (by simp [h0])] at h
  exact Or.inr ⟨h0,h⟩
 ·rw [if_pos h0] at h
  exact Or.inl ⟨h0,h⟩
theorem Azm {L : List Ino} {m b : Int} (hF : FitP L m b) {cwd : Int} {p : List UInt8} {q : Int} {L' : List Ino} {k e : Int} (hz : mkdirW L cwd p q = (L',k,e)) : (e = 0 → Ah4 q = true ∧ ∃ u,MadeOk L m b cwd p (Aem 2 q [] u) L' k) ∧ (e ≠ 0 → L' = L ∧ k = 0) := by
 obtain ⟨-,-,-,l4,-⟩ := hF.limits
 unfold mkdirW at hz
 split at hz
 ·cases hz
  exact ⟨(fun h => by cases h),fun _ => ⟨rfl,rfl⟩⟩
 ·rename_i hq
  have hq' : Ah4 q = true := by simpa using hq
  rcases Aph hz with ⟨h1,h2⟩ | ⟨h1,h2⟩
  ·cases h2
   exact ⟨fun h => absurd h h1,fun _ => ⟨rfl,rfl⟩⟩
  ·have := Apy hF h1 (x := Aem 2 q [] (Abp L cwd p true).1) (alone_dir q _ hq') (by show (2 : Int) ≠ 0; decide) rfl (fun _ => rfl) (by show (Aax L : Int) + (0 : Nat) ≤ b; omega) h2
   exact ⟨fun h => ⟨hq',_,this.1 h⟩,this.2⟩
theorem Ait {L : List Ino} {m b : Int} (hF : FitP L m b) {cwd : Int} {p : List UInt8} {q : Int} {L' : List Ino} {k e : Int} (hz : Ae3 L cwd p q = (L',k,e)) : (e = 0 → Ah4 q = true ∧ MadeOk L m b cwd p (Aem 1 q [] 0) L' k) ∧ (e ≠ 0 → L' = L ∧ k = 0) := by
 obtain ⟨-,-,-,l4,-⟩ := hF.limits
 unfold Ae3 at hz
 split at hz
 ·cases hz
  exact ⟨(fun h => by cases h),fun _ => ⟨rfl,rfl⟩⟩
 ·rename_i hq
  have hq' : Ah4 q = true := by simpa using hq
  rcases Aph hz with ⟨h1,h2⟩ | ⟨h1,h2⟩
  ·cases h2
   exact ⟨fun h => absurd h h1,fun _ => ⟨rfl,rfl⟩⟩
  ·have := Apy hF h1 (x := Aem 1 q [] 0) (Aqu q hq') (by show (1 : Int) ≠ 0; decide) rfl (fun h => by cases h) (by show (Aax L : Int) + (0 : Nat) ≤ b; omega) h2
   exact ⟨fun h => ⟨hq',this.1 h⟩,this.2⟩
theorem Awo : (Tryz.prog.info? 9).map (fun i => (i.zero,i.size,i.bytes)) = some (some (.string ByteArray.empty),1,16) := by kernel_rfl
theorem Ai7 : Tryz.prog.eqGuardType Tryz.prog.depth 70 = false := by kernel_rfl
theorem Arn : Tryz.prog.eqGuardType Tryz.prog.depth 27 = false := by kernel_rfl
theorem Arr (a a' : ByteArray) (i j k i' j' k' : Int) (v : Bool) (hv : v = true ↔ a.data.toList = a'.data.toList ∧ i = i' ∧ j = j' ∧ k = k') (W : World) :
  (Op.equalIn 10000 87 (.agg #[.string a,.int .i64 i,.int .i64 j,.int .i64 k]) (.agg #[.string a',.int .i64 i',.int .i64 j',.int .i64 k'])).run Tryz.prog W = .ok v W := by
 have hS : Tryz.prog.underlying 87 = some (.struct (Tryz.prog.fieldsOf 87)) := by kernel_rfl
 have hp : Tryz.prog.stoodInHeld 87 = false := by kernel_rfl
 have u3 := Tryz.underlying3
 have u9 := Tryz.underlying9
 have a3 := Tryz.isAgg3
 have z3 := Tryz.sizeOf3
 have a9 := Tryz.isAgg9
 have z9 := Tryz.sizeOf9
 rw [show (10000 : Nat) = 9999 + 1 from rfl,run_equalIn_agg W 9999 87 _ _ hS hp]
 simp only [Program.fieldsOf,Tryz.underlying87]
 go_simp
 rw [ByteArray.toList_eq,ByteArray.toList_eq]
 by_cases h1 : a.data.toList = a'.data.toList <;> by_cases h2 : i = i' <;> by_cases h3 : j = j' <;> by_cases h4 : k = k' <;> cases v <;> simp_all
theorem Aw2 (a a' : ByteArray) (i j k i' j' k' : Int) (v : Bool) (hv : v = true ↔ a.data.toList = a'.data.toList ∧ i = i' ∧ j = j' ∧ k = k') (W : World) :
  (binOp .neq 87 (.agg #[.string a,.int .i64 i,.int .i64 j,.int .i64 k]) (.agg #[.string a',.int .i64 i',.int .i64 j',.int .i64 k'])).run Tryz.prog W = .ok (.bool (!v)) W := by
 rw [run_neq_struct,Arr a a' i j k i' j' k' v hv]
 rfl
theorem Aj5 (i j k l m i' j' k' l' m' : Int) (v : Bool) (hv : v = true ↔ i = i' ∧ j = j' ∧ k = k' ∧ l = l' ∧ m = m') (W : World) :
  (Op.equalIn 10000 70 (.agg #[.int .i64 i,.int .i64 j,.int .i64 k,.int .i64 l,.int .i64 m]) (.agg #[.int .i64 i',.int .i64 j',.int .i64 k',.int .i64 l',.int .i64 m'])).run Tryz.prog W = .ok v W := by
 have hS : Tryz.prog.underlying 70 = some (.struct (Tryz.prog.fieldsOf 70)) := by kernel_rfl
 have hp : Tryz.prog.stoodInHeld 70 = false := by kernel_rfl
 have u3 := Tryz.underlying3
 have a3 := Tryz.isAgg3
 have z3 := Tryz.sizeOf3
 rw [show (10000 : Nat) = 9999 + 1 from rfl,run_equalIn_agg W 9999 70 _ _ hS hp]
 simp only [Program.fieldsOf,Tryz.underlying70]
 go_simp
 by_cases h1 : i = i' <;> by_cases h2 : j = j' <;> by_cases h3 : k = k' <;> by_cases h4 : l = l' <;> by_cases h5 : m = m' <;> cases v <;> simp_all
theorem Avw (i j k l m i' j' k' l' m' : Int) (v : Bool) (hv : v = true ↔ i = i' ∧ j = j' ∧ k = k' ∧ l = l' ∧ m = m') (W : World) :
  (binOp .neq 70 (.agg #[.int .i64 i,.int .i64 j,.int .i64 k,.int .i64 l,.int .i64 m]) (.agg #[.int .i64 i',.int .i64 j',.int .i64 k',.int .i64 l',.int .i64 m'])).run Tryz.prog W = .ok (.bool (!v)) W := by
 rw [run_neq_struct,Aj5 i j k l m i' j' k' l' m' v hv]
 rfl
theorem Asb (i j k l m i' j' k' l' m' : Int) (v : Bool) (hv : v = true ↔ i = i' ∧ j = j' ∧ k = k' ∧ l = l' ∧ m = m') (W : World) :
  (binOp .eql 70 (.agg #[.int .i64 i,.int .i64 j,.int .i64 k,.int .i64 l,.int .i64 m]) (.agg #[.int .i64 i',.int .i64 j',.int .i64 k',.int .i64 l',.int .i64 m'])).run Tryz.prog W = .ok (.bool v) W := by
 rw [run_eql_struct,Aj5 i j k l m i' j' k' l' m' v hv]
 rfl
theorem Avy (a b a' b' : ByteArray) (v : Bool) (hv : v = true ↔ a.data.toList = a'.data.toList ∧ b.data.toList = b'.data.toList) (W : World) :
  (binOp .neq 27 (.agg #[.string a,.string b]) (.agg #[.string a',.string b'])).run Tryz.prog W = .ok (.bool (!v)) W := by
 have u9 := Tryz.underlying9
 have a9 := Tryz.isAgg9
 have z9 := Tryz.sizeOf9
 obtain ⟨i0,hi,hz0,hz1,hz2⟩ := info_parts Awo
 have hc : Tryz.prog.cellsOf 9 = 1 := by kernel_rfl
 rw [run_neq_struct,show (10000 : Nat) = 9999 + 1 from rfl,run_equalIn_array W 9999 _ _ Tryz.underlying27 hi,hc,show List.range 2 = [0,1] from rfl]
 simp only [Op.eqItems]
 go_simp
 rw [ByteArray.toList_eq,ByteArray.toList_eq,ByteArray.toList_eq,ByteArray.toList_eq]
 by_cases h1 : a.data.toList = a'.data.toList <;> by_cases h2 : b.data.toList = b'.data.toList <;> cases v <;> simp_all [Result.andThen]
end Go.Proofs.YtkdfbliiblojoaaGreatDoor
