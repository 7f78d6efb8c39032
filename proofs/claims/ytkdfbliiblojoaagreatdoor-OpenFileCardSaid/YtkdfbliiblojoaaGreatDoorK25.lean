import Derived.Deep.AppendSrc
import Derived.RangeFuncWrites
import Derived.Test.YtkdfbliiblojoaaGreatDoorK7
import Derived.RangeFuncLeaves
import Derived.RangeFuncNested
import Derived.RangeFuncBound
import Derived.RangeFuncCalls
import Derived.Shelf.Abstract
import Derived.OwnWalkIn
import Derived.TacticsInMore
import Derived.LoopNIn
import Derived.LoopIn
set_option linter.all false
set_option maxRecDepth 100000
set_option maxHeartbeats 64000000
namespace Go.Proofs.YtkdfbliiblojoaaGreatDoor
open Go Go.RowKit
def View (w : World) (v : Value) (L : List (List UInt8)) : Prop :=
 ∃ a cap,v = .slice a L.length cap ∧ L.length ≤ cap ∧ cap ≤ maxLen ∧ ∀ i (hi : i < L.length),∃ b o,a = some ⟨b,o,none⟩ ∧ w.cell? ⟨b,o + i,none⟩ = some (strv L[i])
def Held (B : Nat) (w : World) (v : Value) (L : List (List UInt8)) : Prop :=
 (v = .slice none 0 0 ∧ L = []) ∨ ∃ g o cap cur,v = .slice (some ⟨g,o,none⟩) L.length cap ∧ B ≤ g ∧ L.length ≤ cap ∧ cap ≤ maxLen ∧ w.heap[g]? = some (.cells cur 9 (0,0)) ∧ o + cap ≤ cur.size ∧ ∀ i (hi : i < L.length),cur[o + i]? = some (strv L[i])
theorem Aal {w : World} {g i : Nat} {cur : Array Value} {t : TypeId} {fr : Nat × Nat} {u : Value} (h : w.heap[g]? = some (.cells cur t fr)) (hi : cur[i]? = some u) : w.cell? ⟨g,i,none⟩ = some u := by
 simp only [World.cell?,h]
 simpa using hi
theorem Held.view {B : Nat} {w : World} {v : Value} {L : List (List UInt8)} (h : Held B w v L) : View w v L := by
 rcases h with ⟨rfl,rfl⟩ | ⟨g,o,cap,cur,rfl,-,h2,h3,h4,-,h6⟩
 ·exact ⟨none,0,rfl,Nat.le_refl _,Nat.zero_le _,fun i hi => absurd hi (Nat.not_lt_zero _)⟩
 ·exact ⟨_,cap,rfl,h2,h3,fun i hi => ⟨g,o,rfl,Aal h4 (h6 i hi)⟩⟩
theorem Agr.held {B : Nat} {w : World} {v : Value} {L : List (List UInt8)} (h : Agr B w v L) : Held B w v L := by
 obtain ⟨h1,h2 | ⟨g,cap,cur,rfl,hg,hh,hn,hm,hs,ht⟩⟩ := h
 ·obtain ⟨rfl,hn⟩ := h2
  exact Or.inl ⟨rfl,List.length_eq_zero_iff.1 hn⟩
 ·refine Or.inr ⟨g,0,cap,cur,rfl,hg,hn,hm,hh,by omega,fun i hi => ?_⟩
  have e1 : (cur.toList.take (L.length * 1))[i]? = (L.map strv)[i]? := by rw [ht]
  rw [List.getElem?_take,if_pos (by omega),List.getElem?_map,List.getElem?_eq_getElem hi] at e1
  rw [Nat.zero_add,← Array.getElem?_toList]
  exact e1
theorem Agr.view {B : Nat} {w : World} {v : Value} {L : List (List UInt8)} (h : Agr B w v L) : View w v L := h.held.view
theorem View.below {w w' : World} {v : Value} {L : List (List UInt8)} (h : View w v L) (hb : Below w.heap.size w w') : View w' v L := by
 obtain ⟨a,cap,h1,h2,h3,h4⟩ := h
 refine ⟨a,cap,h1,h2,h3,fun i hi => ?_⟩
 obtain ⟨b,o,e1,e2⟩ := h4 i hi
 exact ⟨b,o,e1,Aaa hb e2⟩
theorem Held.kept {B : Nat} {w w' : World} {v : Value} {L : List (List UInt8)} (h : Held B w v L) (hk : ∀ g,v.ownBlock = some g → w'.heap[g]? = w.heap[g]?) : Held B w' v L := by
 rcases h with h | ⟨g,o,cap,cur,rfl,h1,h2,h3,h4,h5,h6⟩
 ·exact Or.inl h
 ·exact Or.inr ⟨g,o,cap,cur,rfl,h1,h2,h3,(hk g rfl).trans h4,h5,h6⟩
theorem Held.own {B : Nat} {w : World} {v : Value} {L : List (List UInt8)} (h : Held B w v L) {g : Nat} (hg : v.ownBlock = some g) : B ≤ g ∧ ∃ cur,w.heap[g]? = some (.cells cur 9 (0,0)) := by
 rcases h with ⟨rfl,-⟩ | ⟨g',o,cap,cur,rfl,h1,-,-,h4,-⟩
 ·cases hg
 ·obtain rfl : g' = g := by simpa [Value.ownBlock] using hg
  exact ⟨h1,cur,h4⟩
theorem Held.tail {B : Nat} {w : World} {x : List UInt8} {L : List (List UInt8)} {g o cap : Nat} (h : Held B w (.slice (some ⟨g,o,none⟩) (L.length + 1) cap) (x :: L)) : Held B w (.slice (if cap = 1 then some ⟨g,o,none⟩ else some ⟨g,o + 1,none⟩) L.length (cap - 1)) L := by
 rcases h with ⟨h,-⟩ | ⟨g',o',cap',cur,e,h1,h2,h3,h4,h5,h6⟩
 ·cases h
 ·simp only [Value.slice.injEq,Option.some.injEq,Addr.mk.injEq,List.length_cons] at e h2
  obtain ⟨⟨rfl,rfl,-⟩,-,rfl⟩ := e
  by_cases hc : cap = 1
  ·rw [if_pos hc]
   have h0 : L = [] := List.length_eq_zero_iff.1 (by omega)
   subst h0
   exact Or.inr ⟨g,o,cap - 1,cur,rfl,h1,by simp,by unfold maxLen at *; omega,h4,by omega,fun i hi => absurd hi (Nat.not_lt_zero _)⟩
  ·rw [if_neg hc]
   refine Or.inr ⟨g,o + 1,cap - 1,cur,rfl,h1,by omega,by unfold maxLen at *; omega,h4,by omega,fun i hi => ?_⟩
   have := h6 (i + 1) (by simp only [List.length_cons]; omega)
   rw [show o + 1 + i = o + (i + 1) by omega,this]
   rfl
theorem Held.init {B : Nat} {w : World} {x : List UInt8} {L : List (List UInt8)} {g o cap : Nat} (h : Held B w (.slice (some ⟨g,o,none⟩) (L.length + 1) cap) (L ++ [x])) : Held B w (.slice (some ⟨g,o,none⟩) L.length cap) L := by
 rcases h with ⟨h,-⟩ | ⟨g',o',cap',cur,e,h1,h2,h3,h4,h5,h6⟩
 ·cases h
 ·simp only [Value.slice.injEq,Option.some.injEq,Addr.mk.injEq,List.length_append,List.length_cons,List.length_nil] at e h2
  obtain ⟨⟨rfl,rfl,-⟩,-,rfl⟩ := e
  refine Or.inr ⟨g,o,cap,cur,rfl,h1,by omega,h3,h4,h5,fun i hi => ?_⟩
  have := h6 i (by simp only [List.length_append,List.length_cons,List.length_nil]; omega)
  rw [this,List.getElem_append_left hi]
theorem View.tail {w : World} {x : List UInt8} {L : List (List UInt8)} {b o cap : Nat} (h : View w (.slice (some ⟨b,o,none⟩) (L.length + 1) cap) (x :: L)) : View w (.slice (if cap = 1 then some ⟨b,o,none⟩ else some ⟨b,o + 1,none⟩) L.length (cap - 1)) L := by
 obtain ⟨a,cap',e,h1,h2,h3⟩ := h
 simp only [Value.slice.injEq,List.length_cons] at e h1
 obtain ⟨rfl,-,rfl⟩ := e
 refine ⟨_,cap - 1,rfl,by omega,by unfold maxLen at *; omega,fun i hi => ?_⟩
 obtain ⟨b',o',e1,e2⟩ := h3 (i + 1) (by simp only [List.length_cons]; omega)
 simp only [Option.some.injEq,Addr.mk.injEq] at e1
 obtain ⟨rfl,rfl,-⟩ := e1
 refine ⟨b,o + 1,by rw [if_neg (by omega)],?_⟩
 rw [show o + 1 + i = o + (i + 1) by omega,e2]
 rfl
theorem Azn (b o n : Nat) : (⟨b,o,none⟩ : Addr).add n = ⟨b,o + n,none⟩ := by
 unfold Addr.add
 split
 ·rename_i h
  rw [h]
  rfl
 ·rfl
theorem View.src {w : World} {x : Value} {L : List (List UInt8)} (h : View w x L) : Src Tryz.prog 1 61 x L.length (L.map strv) w := by
 obtain ⟨a,cap,rfl,h1,h2,h3⟩ := h
 cases a with
 | none =>
  have h0 : L = [] := by
   cases L with
   | nil => rfl
   | cons y r =>
    obtain ⟨b,o,e,-⟩ := h3 0 (by simp)
    cases e
  subst h0
  exact Src.ofNil w Tryz.underlying61 cap
 | some a =>
  refine Src.ofSlice w Tryz.underlying61 a L.length cap _ (by simp) (fun j u hu => ?_) (fun u hu => ?_)
  ·rw [List.getElem?_map] at hu
   by_cases hj : j < L.length
   ·rw [List.getElem?_eq_getElem hj] at hu
    obtain ⟨b,o,e,hc⟩ := h3 j hj
    simp only [Option.some.injEq] at e
    subst e
    rw [Azn,hc]
    exact hu
   ·rw [List.getElem?_eq_none (by omega)] at hu
    cases hu
  ·obtain ⟨z,-,rfl⟩ := List.mem_map.1 hu
   rfl
theorem Axn : ∃ i,Tryz.prog.info? 9 = some i ∧ i.zero = some (.string ByteArray.empty) ∧ i.size = 1 ∧ i.bytes = 16 := info_parts Azl
theorem Af3 {B : Nat} {w : World} {v x : Value} {L L2 : List (List UInt8)} (h : Held B w v L) (hx : View w x L2) (hn : L.length + L2.length ≤ 1048576) (hB : B ≤ w.heap.size) (ty : TypeId) :
  ∃ v' w',(Builtin.append_ #[61,61] ty #[v,x]).run Tryz.prog w = .ok v' w' ∧ Held B w' v' (L ++ L2) ∧ w.grownBy w' v.ownBlock ∧ ∀ k,v'.ownBlock = some k → v.ownBlock = some k ∨ w.heap.size ≤ k := by
 obtain ⟨i0,hi,hz0,hz1,hz2⟩ := Axn
 have hs := hx.src
 rw [← hz1] at hs
 have hlen : (L2.map strv).length = L2.length := by simp
 have hcell : ∀ i (hi : i < (L ++ L2).length),(L.map strv ++ L2.map strv)[i]? = some (strv (L ++ L2)[i]) := fun i hi => by
  rw [← List.map_append,List.getElem?_map,List.getElem?_eq_getElem hi]
  rfl
 -- a new row
 have grow : ∀ (base : Option Addr) (sCap : Nat) (row : Option Nat),sCap < L.length + L2.length → (Builtin.firstCells i0.size L.length (.slice base L.length sCap)).run Tryz.prog w.drew = .ok (L.map strv).toArray w.drew →
   ∃ v' w',(Builtin.append_ #[61,61] ty #[.slice base L.length sCap,x]).run Tryz.prog w = .ok v' w' ∧ Held B w' v' (L ++ L2) ∧ w.grownBy w' row ∧ ∀ k,v'.ownBlock = some k → row = some k ∨ w.heap.size ≤ k := by
  intro base sCap row hlt hold
  have hr := run_append_grow_src w 61 61 ty 9 i0 (.string ByteArray.empty) Tryz.underlying61 hi hz0 base L.length sCap (L.map strv) hold x L2.length (L2.map strv) hs hlt (by omega) (growslice_fits (by omega) (by rw [hz2]; omega))
  refine ⟨_,_,hr,Or.inr ⟨w.heap.size,0,_,_,by rw [List.length_append],hB,?_,?_,heap_alloc_new w.drew _,?_,fun i hi => ?_⟩,⟨rfl,rfl,rfl,by simp,fun k hk _ => Below.heap_alloc w.drew _ k hk⟩,fun k hk => Or.inr (by simp only [Value.ownBlock,Option.some.injEq] at hk; omega)⟩
  ·rw [List.length_append]; exact grownCap_ge w _ sCap _
  ·exact grownCap_le_maxLen w _ sCap _ (by unfold maxLen; omega)
  ·have hge := grownCap_ge w (L.length + L2.length) sCap 9
   simp only [Array.size_append,List.size_toArray,List.length_append,List.length_map,size_zeroCells]
   show _ ≤ _ + _ * 1
   omega
  ·have h1 := hcell i hi
   have hi' : i < (L.map strv ++ L2.map strv).length := by simpa using hi
   rw [Nat.zero_add,Array.getElem?_append_left (by simpa using hi')]
   rw [List.getElem?_toArray]
   exact h1
 rcases h with ⟨rfl,rfl⟩ | ⟨g,o,cap,cur,rfl,h1,h2,h3,h4,h5,h6⟩
 ·by_cases hm : L2 = []
  ·subst hm
   refine ⟨.slice none 0 0,w,?_,Or.inl ⟨rfl,rfl⟩,⟨rfl,rfl,rfl,Nat.le_refl _,fun _ _ _ => rfl⟩,fun k hk => by cases hk⟩
   have hc := hs.cells
   have hl := hs.len
   simp only [List.length_nil,List.map_nil] at hc hl
   have hl0 : ∀ w',(Builtin.lenOf (.slice none 0 0)).run Tryz.prog w' = .ok 0 w' := fun _ => rfl
   simp [Builtin.append_,run_underlying Tryz.underlying61,sizeOf,typeInfo,hi,hl,hc]
  ·have hpos : 0 < L2.length := by
    cases L2 with
    | nil => exact absurd rfl hm
    | cons y r => simp
   exact grow none 0 _ (by simpa using hpos) (run_firstCells_none w.drew i0.size 0 0 0)
 ·by_cases hroom : L.length + L2.length ≤ cap
  ·have hst := run_storeCells_at Tryz.prog g (o + L.length) 9 (L2.map strv) 0 cur w h4 (by rw [hlen]; omega) hs.one
   simp only [Nat.add_zero] at hst
   have hc := hs.cells
   have hl := hs.len
   have hrun : (Builtin.append_ #[61,61] ty #[.slice (some ⟨g,o,none⟩) L.length cap,x]).run Tryz.prog w = .ok (.slice (some ⟨g,o,none⟩) (L.length + L2.length) cap)
     (w.setRow g (cur.toList.take (o + L.length) ++ L2.map strv ++ cur.toList.drop (o + L.length + (L2.map strv).length)).toArray) := by
    rw [hz1] at hc
    simp [Builtin.append_,run_underlying Tryz.underlying61,sizeOf,typeInfo,hi,hz1,hl,hc,hroom,Addr.add_lit,hst]
   refine ⟨_,_,hrun,Or.inr ⟨g,o,cap,_,by rw [List.length_append],h1,by rw [List.length_append]; omega,h3,setRow_heap w g cur _ 9 _ h4,?_,fun i hi => ?_⟩,⟨rfl,rfl,rfl,by simp,fun k _ hk => setRow_other w g k _ (fun e => hk (by simp [Value.ownBlock,e]))⟩,fun k hk => Or.inl hk⟩
   ·simp only [List.size_toArray,List.length_append,List.length_take,List.length_drop,List.length_map,Array.length_toList]
    omega
   ·have hci := hcell i hi
    rw [List.length_append] at hi
    rw [List.getElem?_toArray]
    have hz : (cur.toList.take (o + L.length)).length = o + L.length := by
     rw [List.length_take,Array.length_toList]
     exact Nat.min_eq_left (show o + L.length ≤ cur.size by omega)
    by_cases hiL : i < L.length
    ·have hlt : o + i < (cur.toList.take (o + L.length)).length := by omega
     rw [List.append_assoc,List.getElem?_append_left hlt,List.getElem?_take,if_pos (show o + i < o + L.length by omega),Array.getElem?_toList,h6 i hiL,List.getElem_append_left hiL]
    ·have hge : (cur.toList.take (o + L.length)).length ≤ o + i := by omega
     have hlt : i - L.length < (L2.map strv).length := by omega
     rw [List.append_assoc,List.getElem?_append_right hge,hz,show o + i - (o + L.length) = i - L.length by omega,List.getElem?_append_left hlt]
     rw [List.getElem?_append_right (by rw [List.length_map]; omega),List.length_map] at hci
     exact hci
  ·refine grow _ cap _ (by omega) ?_
   have hf := run_firstCells_some (P := Tryz.prog) w.drew i0.size L.length ⟨g,o,none⟩ L.length cap (L.map strv) (by rw [hz1]; simp) (fun j u hu => by
    rw [List.getElem?_map] at hu
    by_cases hj : j < L.length
    ·rw [List.getElem?_eq_getElem hj] at hu
     rw [Azn]
     show w.cell? ⟨g,o + j,none⟩ = some u
     rw [Aal h4 (h6 j hj)]
     exact hu
    ·rw [List.getElem?_eq_none (by omega)] at hu
     cases hu)
   exact hf
theorem Ai3 {B : Nat} {w : World} {v x : Value} {L L2 : List (List UInt8)} (hT : Held B w v L) (hS : View w x L2) (hn : L.length + L2.length ≤ 1048576) (hB : B ≤ w.heap.size)
  {ops : Array Oper} {rest : List Oper} {o : Oper} {a : Act} {Q : Exit → Act → World → Prop} (hgd : o.guard = none) (s y : Operand)
  (ho : o.op = .call { callee := .builtin .append,args := #[s,y],argTypes := #[61,61] }) (hs : a.eval s = v) (hx : a.eval y = x)
  (h : ∀ v' w',Held B w' v' (L ++ L2) → w.grownBy w' v.ownBlock → wpList Tryz.prog ops Q rest (a.put o.dst v') w') : wpList Tryz.prog ops Q (o :: rest) a w := by
 obtain ⟨v',w',hrun,h1,h2,-⟩ := Af3 hT hS hn hB o.type
 refine wpList_plain hgd fun K hK => ?_
 unfold Oper.wp
 simp [execOp,ho,resolve,invoke,builtin,hs,hx,hrun,Result.andThen]
 exact hK _ _ (h v' w' h1 h2)
theorem Ac8 {B : Nat} {w : World} {v x : Value} {L L2 : List (List UInt8)} (hT : Held B w v L) (hS : View w x L2) (hn : L.length + L2.length ≤ 1048576) (hB : B ≤ w.heap.size)
  {ops : Array Oper} {o : Oper} {a : Act} {K : Act → World → Prop} {Q : Exit → Act → World → Prop} {E : Prop} (hgd : o.guard = none) (s y : Operand)
  (ho : o.op = Op.call { callee := Callee.builtin Builtin.append,args := #[s,y],argTypes := #[61,61] }) (hs : a.eval s = v) (hx : a.eval y = x)
  (hK : ∀ v' w',Held B w' v' (L ++ L2) → w.grownBy w' v.ownBlock → (∀ k,v'.ownBlock = some k → v.ownBlock = some k ∨ w.heap.size ≤ k) → K (a.put o.dst v') w') :
  if Region.wanted o (yielded ops a.tmps) = true then Oper.wp Tryz.prog o a w K Q else E := by
 have hw : Region.wanted o (yielded ops a.tmps) = true := by simp [Region.wanted,hgd]
 rw [if_pos hw]
 obtain ⟨v',w',hrun,h1,h2,h3⟩ := Af3 hT hS hn hB o.type
 unfold Oper.wp
 simp [execOp,ho,resolve,invoke,builtin,hs,hx,hrun,Result.andThen]
 exact hK _ _ h1 h2 h3
def Ak2 : Obj → Bool
 | .cells _ t _ => t != 9
 | _ => true
def Abr (n₀ g : Nat) (T : Value × Value × Value) (W : World) (p : Int) (st : List (List UInt8)) (links : Int) : Prop :=
 g < n₀ ∧ ∃ v,W.heap[g]? = some (.cells #[T.1,T.2.1,T.2.2,.int .i64 p,v,.int .i64 links] 180 (0,0)) ∧ Held n₀ W v st
structure Moved (g : Nat) (W W' : World) : Prop where
 below : Below g W W'
 kept : ∀ (k : Nat) (o : Obj),W.heap[k]? = some o → k ≠ g → Ak2 o = true → W'.heap[k]? = some o
theorem Moved.trans {g : Nat} {A B C : World} (h : Moved g A B) (k : Moved g B C) : Moved g A C := ⟨h.below.trans k.below,fun i o hi hg ho => k.kept i o (h.kept i o hi hg ho) hg ho⟩
theorem Moved.of_below {g : Nat} {W W' : World} (h : Below W.heap.size W W') (hg : g ≤ W.heap.size) : Moved g W W' := ⟨h.mono hg,fun k _o hk _ _ => (h.block k (Array.getElem?_eq_some_iff.1 hk).1).trans hk⟩
theorem Avq {o : Obj} (h : o.isCells = false) : Ak2 o = true := by cases o <;> first | rfl | cases h
theorem Moved.set {g : Nat} (W : World) (i : Nat) (u : Value) : Moved g W (W.setCell ⟨g,i,none⟩ u) :=
 ⟨(Below.refl _ _).setCell (p := ⟨g,i,none⟩) (Nat.le_refl _) _,fun k _o hk hg _ => (Below.heap_setCell W ⟨g,i,none⟩ u k hg).trans hk⟩
theorem Ag2 {W : World} {g : Nat} {cs : Array Value} {t : TypeId} {fr : Nat × Nat} (h : W.heap[g]? = some (.cells cs t fr)) (i : Nat) (u : Value) : (W.setCell ⟨g,i,none⟩ u).heap[g]? = some (.cells (cs.setIfInBounds i u) t fr) := by
 obtain ⟨hlt,hk⟩ := Array.getElem?_eq_some_iff.1 h
 show (W.heap.modify g _)[g]? = _
 rw [Array.getElem?_eq_getElem (by rw [Array.size_modify]; exact hlt),Array.getElem_modify_self,hk]
 rfl
theorem Aik {n₀ g : Nat} {W : World} {v : Value} {st : List (List UInt8)} (h : Held n₀ W v st) (hg : g < n₀) (i : Nat) (u : Value) : Held n₀ (W.setCell ⟨g,i,none⟩ u) v st :=
 h.kept fun k hk => Below.heap_setCell W ⟨g,i,none⟩ u k (by have := (h.own hk).1; show k ≠ g; omega)
theorem Abr.lt {n₀ g : Nat} {T : Value × Value × Value} {W : World} {p : Int} {st : List (List UInt8)} {links : Int} (h : Abr n₀ g T W p st links) : g < W.heap.size := by
 obtain ⟨_,v,h,-⟩ := h
 exact (Array.getElem?_eq_some_iff.1 h).1
theorem Abr.below {n₀ g : Nat} {T : Value × Value × Value} {W W' : World} {p : Int} {st : List (List UInt8)} {links : Int} (h : Abr n₀ g T W p st links) (hb : Below W.heap.size W W') : Abr n₀ g T W' p st links := by
 have hlt := h.lt
 obtain ⟨hg,v,h1,h2⟩ := h
 refine ⟨hg,v,(hb.block g hlt).trans h1,h2.kept fun k hk => ?_⟩
 obtain ⟨-,cur,hc⟩ := h2.own hk
 exact hb.block k (Array.getElem?_eq_some_iff.1 hc).1
theorem Abr.drew {n₀ g : Nat} {T : Value × Value × Value} {W : World} {p : Int} {st : List (List UInt8)} {links : Int} (h : Abr n₀ g T W p st links) : Abr n₀ g T W.drew p st links := h
theorem Abr.own {n₀ g : Nat} {T : Value × Value × Value} {W W' : World} {p : Int} {st : List (List UInt8)} {links : Int} (h : Abr n₀ g T W p st links) {row : Option Nat} (hg : W.grownBy W' row) (hr : ∀ r,row = some r → ∃ o : Obj,W.heap[r]? = some o ∧ o.isCells = false) : Abr n₀ g T W' p st links := by
 obtain ⟨h0,v,h1,h2⟩ := h
 refine ⟨h0,v,(grownBy_keeps_cells hg hr h1 rfl).trans h1,h2.kept fun k hk => ?_⟩
 obtain ⟨-,cur,hc⟩ := h2.own hk
 exact grownBy_keeps_cells hg hr hc rfl
theorem Axq {L : List Ino} {n : Nat} (hn : n < L.length) : Adc L (n : Int) = (L[n].kind != 0) := by
 unfold Adc
 rw [Aef L n hn,Aad L n hn,Bool.true_and]
theorem Ae0 (a : Option Addr) (cap : Nat) (m b k : Int) (L : List Ino) (v : Bool) (hv : Adc L k = v) (w : World) (hN : Aah w a cap L) :
  Calls Tryz.prog 120 #[.agg #[.slice a L.length cap,.int .i64 m,.int .i64 b],.int .i64 k] w fun e w' => e = .returned (.bool v) ∧ Below w.heap.size w w' := by
 subst hv
 have hb1 := Aab w (.cells #[.slice a L.length cap,.int .i64 m,.int .i64 b] 24)
 have HB1 := Hd hb1
 have hcap := hN.1
 have hmax := hN.2.1
 unfold maxLen at hmax
 cases ht : Aa4 L k with
 | true =>
  obtain ⟨n,rfl,hn⟩ := Aa7 ht
  obtain ⟨bb,o,rfl,hx⟩ := (hN.below hb1).2.2 n hn
  have h1 := hx.kind
  have hd0 : (0 : Int) ≤ (n : Int) := by omega
  have hd1 : (n : Int) < (L.length : Int) := by omega
  have HV := Hd (Axq (L := L) hn)
  clear hN hb1 ht hx
  cases hk : (L[n].kind != 0)
  all_goals
   have HK := Hd hk
   go_enter Tryz.func120,Tryz.ntmps120
   go_wp2_with fail
   go_ret
   exact ⟨by rw [HV.out,HK.out]; rfl,HB1.out⟩
 | false =>
  have hv : Adc L k = false := by unfold Adc; rw [ht]; rfl
  have HV := Hd hv
  rcases Ami ht with h | h
  ·clear hN hb1 ht hv
   go_enter Tryz.func120,Tryz.ntmps120
   go_wp2_with fail
   go_ret
   exact ⟨by rw [HV.out]; rfl,HB1.out⟩
  ·have h0 : (0 : Int) ≤ k := by omega
   have h1 : ¬ k < (L.length : Int) := by omega
   have h2 : decide (k < (L.length : Int)) = false := decide_eq_false h1
   clear hN hb1 ht hv
   go_enter Tryz.func120,Tryz.ntmps120
   go_wp2_with fail
   go_ret
   exact ⟨by rw [HV.out]; rfl,HB1.out⟩
theorem Aww (L : List Ino) (k : Int) : dirB L k = (Adc L k && (Aaf L k).kind == 2) := by
 unfold dirB Adc
 cases Aa4 L k with
 | false => rfl
 | true =>
  rw [Bool.true_and,Bool.true_and]
  by_cases h : (Aaf L k).kind = 2
  ·rw [h]; rfl
  ·have : ((Aaf L k).kind == 2) = false := by simpa using h
   rw [this,Bool.and_false]
theorem Acp (a : Option Addr) (cap : Nat) (m b k : Int) (L : List Ino) (v : Bool) (hv : dirB L k = v) (w : World) (hN : Aah w a cap L) :
  Calls Tryz.prog 80 #[.agg #[.slice a L.length cap,.int .i64 m,.int .i64 b],.int .i64 k] w fun e w' => e = .returned (.bool v) ∧ Below w.heap.size w w' := by
 subst hv
 have hb1 := Aab w (.cells #[.slice a L.length cap,.int .i64 m,.int .i64 b] 24)
 have HB1 := Hd hb1
 have hcap := hN.1
 have hmax := hN.2.1
 unfold maxLen at hmax
 have HM := Hd (hN.below hb1)
 have HD := Hd (Aww L k)
 cases hl : Adc L k with
 | false =>
  have HL := Hd hl
  have HV := Hd (show dirB L k = false by rw [HD.out,hl]; rfl)
  clear hN hb1 hl
  go_enter Tryz.func80,Tryz.ntmps80
  go_wp2_with (first | (go_at_call 120; refine (Ae0 _ _ _ _ _ L _ HL.out _ HM.out).mono ?_; rintro e w2 ⟨rfl,hb2⟩) | fail)
  go_ret
  exact ⟨by rw [HV.out]; rfl,HB1.out.trans (hb2.mono (by simp))⟩
 | true =>
  obtain ⟨n,rfl,hn⟩ := Aa7 (Adv hl)
  have HL := Hd hl
  obtain ⟨bb,o,rfl,hx⟩ := HM.out.2.2 n hn
  have h1 := hx.kind
  have hd0 : (0 : Int) ≤ (n : Int) := by omega
  have hd1 : (n : Int) < (L.length : Int) := by omega
  have HV := Hd (show dirB L (n : Int) = (L[n].kind == 2) by rw [HD.out,hl,Bool.true_and,Aad L n hn])
  clear hN hb1 hl hx
  cases hk : (L[n].kind == 2)
  all_goals
   have HK := Hd hk
   go_enter Tryz.func80,Tryz.ntmps80
   go_wp2_with (first | (go_at_call 120; refine (Ae0 _ _ _ _ _ L _ HL.out _ HM.out).mono ?_; rintro e w2 ⟨rfl,hb2⟩; obtain ⟨q0,q1,q2⟩ := box3 hb2; have h2 := Aaa hb2 h1) | fail)
   go_ret
   exact ⟨by rw [HV.out,HK.out]; rfl,HB1.out.trans (hb2.mono (by simp))⟩
theorem Awp (a : Option Addr) (cap : Nat) (m b k what : Int) (L : List Ino) (h : what < 0 ∨ 7 < what) (w : World) :
  Calls Tryz.prog 86 #[.agg #[.slice a L.length cap,.int .i64 m,.int .i64 b],.int .i64 k,.int .i64 what] w fun e w' => e = .returned (.bool false) ∧ Below w.heap.size w w' := by
 have HB1 := Hd (Aab w (.cells #[.slice a L.length cap,.int .i64 m,.int .i64 b] 24))
 rcases h with h | h
 ·go_enter Tryz.func86,Tryz.ntmps86
  go_wp2_with fail
  go_ret
  exact ⟨rfl,HB1.out⟩
 ·have h0 : ¬ what < 0 := by omega
  go_enter Tryz.func86,Tryz.ntmps86
  go_wp2_with fail
  go_ret
  exact ⟨rfl,HB1.out⟩
theorem Aq2 (a : Option Addr) (cap : Nat) (m b k what : Int) (L : List Ino) (hw1 : 0 ≤ what) (hw2 : what ≤ 7) (hI : Aea L) (w : World) (hN : Aah w a cap L) :
  Calls Tryz.prog 86 #[.agg #[.slice a L.length cap,.int .i64 m,.int .i64 b],.int .i64 k,.int .i64 what] w fun e w' => e = .returned (.bool (mayL L k what)) ∧ Below w.heap.size w w' := by
 have hb1 := Aab w (.cells #[.slice a L.length cap,.int .i64 m,.int .i64 b] 24)
 have HB1 := Hd hb1
 have hcap := hN.1
 have hmax := hN.2.1
 unfold maxLen at hmax
 have HM := Hd (hN.below hb1)
 cases hl : Adc L k with
 | false =>
  have HL := Hd hl
  have HV := Hd (show mayL L k what = false by unfold mayL; rw [hl]; simp)
  clear hN hb1 hl
  go_enter Tryz.func86,Tryz.ntmps86
  go_wp2_with (first | (go_at_call 120; refine (Ae0 _ _ _ _ _ L _ HL.out _ HM.out).mono ?_; rintro e w2 ⟨rfl,hb2⟩) | fail)
  go_ret
  exact ⟨by rw [HV.out]; rfl,HB1.out.trans (hb2.mono (by simp))⟩
 | true =>
  obtain ⟨n,rfl,hn⟩ := Aa7 (Adv hl)
  have HL := Hd hl
  obtain ⟨bb,o,rfl,hx⟩ := HM.out.2.2 n hn
  have h1 := hx.mode
  have hd0 : (0 : Int) ≤ (n : Int) := by omega
  have hd1 : (n : Int) < (L.length : Int) := by omega
  have HV := Hd (show mayL L (n : Int) what = Aqg L[n].mode what by unfold mayL; rw [hl,Aad L n hn,decide_eq_true hw1,decide_eq_true hw2]; rfl)
  have hmr := Ajy hI (Aef L n hn)
  rw [Aad L n hn] at hmr
  obtain ⟨q,hq⟩ : ∃ q,q = L[n].mode := ⟨_,rfl⟩
  rw [← hq] at h1 HV hmr
  obtain ⟨hq1,hq2⟩ := hmr
  rw [HV.out]
  have HB2 := Hd (show ∀ w2,Below (w.alloc (.cells #[.slice (some ⟨bb,o,none⟩) L.length cap,.int .i64 m,.int .i64 b] 24)).heap.size (w.alloc (.cells #[.slice (some ⟨bb,o,none⟩) L.length cap,.int .i64 m,.int .i64 b] 24)) w2 → Below w.heap.size w w2 from fun w2 h => HB1.out.trans (h.mono (by simp)))
  clear hN hb1 hl hx hq hI
  go_enter Tryz.func86,Tryz.ntmps86
  go_wp2_with (first | (go_at_call 120; refine (Ae0 _ _ _ _ _ L _ HL.out _ HM.out).mono ?_; rintro e w2 ⟨rfl,hb2⟩; obtain ⟨q0,q1,q2⟩ := box3 hb2; have h2 := Aaa hb2 h1) | fail)
  all_goals
   go_ret
   refine ⟨?_,HB2.out _ hb2⟩
   show Ending.returned (Value.bool _) = Ending.returned (Value.bool _)
   congr 2
   unfold Aqg
   simp [*]
theorem Asn (a : Option Addr) (cap : Nat) (m b k what : Int) (L : List Ino) (hI : Aea L) (v : Bool) (hv : mayL L k what = v) (w : World) (hN : Aah w a cap L) :
  Calls Tryz.prog 86 #[.agg #[.slice a L.length cap,.int .i64 m,.int .i64 b],.int .i64 k,.int .i64 what] w fun e w' => e = .returned (.bool v) ∧ Below w.heap.size w w' := by
 subst hv
 by_cases h : 0 ≤ what ∧ what ≤ 7
 ·exact Aq2 a cap m b k what L h.1 h.2 hI w hN
 ·have e : mayL L k what = false := by
   unfold mayL
   by_cases h1 : 0 ≤ what
   ·rw [decide_eq_false (show ¬ what ≤ 7 from fun h2 => h ⟨h1,h2⟩)]
    simp
   ·rw [decide_eq_false h1]
    rfl
  rw [e]
  exact Awp a cap m b k what L (by omega) w
theorem Ara (a : Option Addr) (cap : Nat) (m b d : Int) (nm : List UInt8) (L : List Ino) (z : Int) (hz : kidL L d nm = z) (w : World) (hN : Aah w a cap L) :
  Calls Tryz.prog 150 #[.agg #[.slice a L.length cap,.int .i64 m,.int .i64 b],.int .i64 d,.string ⟨nm.toArray⟩] w fun e w' => e = .returned (.int .i64 z) ∧ Below w.heap.size w w' := by
 subst hz
 exact Avm a cap m b d nm L w hN
theorem Ata (a : Option Addr) (cap : Nat) (m b p : Int) (x : List UInt8) (L : List Ino) (hI : Aea L) (w : World) (hN : Aah w a cap L) :
  Calls Tryz.prog 118 #[.agg #[.slice a L.length cap,.int .i64 m,.int .i64 b],.int .i64 p,.string ⟨x.toArray⟩] w fun e w' => e = .returned (.tuple #[.int .i64 (Ack L p x).1,.int .i64 (Ack L p x).2]) ∧ Below w.heap.size w w' := by
 obtain ⟨w1,hw1⟩ : ∃ w1,w1 = w.alloc (.cells #[.slice a L.length cap,.int .i64 m,.int .i64 b] 24) := ⟨_,rfl⟩
 have hb1 := Aab w (.cells #[.slice a L.length cap,.int .i64 m,.int .i64 b] 24)
 have hM := hN.below hb1
 have hsz : w1.heap.size = w.heap.size + 1 := by rw [hw1]; simp
 have hbox : ∀ W',Below w1.heap.size w1 W' → W'.cell? ⟨w.heap.size,0,none⟩ = some (.slice a L.length cap) ∧ W'.cell? ⟨w.heap.size,1,none⟩ = some (.int .i64 m) ∧ W'.cell? ⟨w.heap.size,2,none⟩ = some (.int .i64 b) := fun W' h => box3 (by rw [← hw1]; exact h)
 rw [← hw1] at hM hb1
 have HM := Hd hM
 have HB := Hd hb1
 have HX := Hd hbox
 have HEND := Hd (show ∀ W',Below w1.heap.size w1 W' → Below w.heap.size w W' from fun W' h => HB.out.trans (h.mono (by rw [hsz]; omega)))
 have hcap := hN.1
 have hmax := hN.2.1
 unfold maxLen at hmax
 have HI := Hd hI
 obtain ⟨F,hF⟩ : ∃ F,F = Ack L p x := ⟨_,rfl⟩
 rw [← hF]
 have HF := Hd hF
 clear hM hN hb1 hbox hsz hI hF
 cases hd : dirB L p with
 | false =>
  have HD := Hd hd
  have HV := Hd (show F = (0,20) by rw [HF.out]; unfold Ack; rw [hd,if_pos rfl])
  clear hd
  go_enter Tryz.func118,Tryz.ntmps118
  go_wp2_with fail
  rw [← hw1]
  refine (Acp _ _ _ _ _ L _ HD.out _ HM.out).mono ?_
  rintro e w2 ⟨rfl,hb2⟩
  go_wp2_with fail
  go_ret2
  exact ⟨by rw [HV.out]; rfl,HEND.out _ hb2⟩
 | true =>
  obtain ⟨n,rfl,hn⟩ := Ae7 hd
  obtain ⟨bb,o,rfl,hx⟩ := HM.out.2.2 n hn
  have h5' := hx.up
  have HD := Hd hd
  have hd0 : (0 : Int) ≤ (n : Int) := by omega
  have hd1 : (n : Int) < (L.length : Int) := by omega
  clear hx hd
  cases hm : mayL L (n : Int) 1 with
  | false =>
   have HMY := Hd hm
   have HV := Hd (show F = (0,13) by rw [HF.out]; unfold Ack; rw [HD.out,hm,if_neg (by simp),if_pos rfl])
   clear hm
   go_enter Tryz.func118,Tryz.ntmps118
   go_wp2_with fail
   rw [← hw1]
   refine (Acp _ _ _ _ _ L _ HD.out _ HM.out).mono ?_
   rintro e w2 ⟨rfl,hb2⟩
   have HB2 := Hd hb2
   obtain ⟨q0,q1,q2⟩ := HX.out _ hb2
   clear hb2 h5'
   go_wp2_with fail
   refine (Asn _ _ _ _ _ _ L HI.out _ HMY.out _ (HM.out.below HB2.out)).mono ?_
   rintro e w3 ⟨rfl,hb3⟩
   have HB3 := Hd (HB2.out.trans (hb3.mono HB2.out.size))
   clear hb3 q0 q1 q2
   go_wp2_with fail
   go_ret2
   exact ⟨by rw [HV.out]; rfl,HEND.out _ HB3.out⟩
  | true =>
   have HMY := Hd hm
   have HV := Hd (show F = if x = [46] then ((n : Int),0) else if x = [46,46] then ((Aaf L (n : Int)).up,0) else if kidL L (n : Int) x < 0 then (0,2) else (kidL L (n : Int) x,0) by rw [HF.out]; unfold Ack; rw [HD.out,hm,if_neg (by simp),if_neg (by simp)])
   clear hm
   go_enter Tryz.func118,Tryz.ntmps118
   go_wp2_with fail
   rw [← hw1]
   refine (Acp _ _ _ _ _ L _ HD.out _ HM.out).mono ?_
   rintro e w2 ⟨rfl,hb2⟩
   have HB2 := Hd hb2
   obtain ⟨q0,q1,q2⟩ := HX.out _ hb2
   have h5'' := Aaa hb2 h5'
   clear hb2 h5' hw1
   go_wp2_with fail
   refine (Asn _ _ _ _ _ _ L HI.out _ HMY.out _ (HM.out.below HB2.out)).mono ?_
   rintro e w3 ⟨rfl,hb3⟩
   have HB3 := Hd (HB2.out.trans (hb3.mono HB2.out.size))
   have h5 := Aaa hb3 h5''
   clear hb3 q0 q1 q2 h5''
   obtain ⟨q0,q1,q2⟩ := HX.out _ HB3.out
   cases hx1 : (x == [46]) with
   | true =>
    have HW := Hd (show F = ((n : Int),0) by rw [HV.out,if_pos (by simpa using hx1)])
    go_wp2_with fail
    go_ret2
    exact ⟨by rw [HW.out]; rfl,HEND.out _ HB3.out⟩
   | false =>
    have hne1 : ¬ x = [46] := by simpa using hx1
    cases hx2 : (x == [46,46]) with
    | true =>
     have HW := Hd (show F = (L[n].up,0) by rw [HV.out,if_neg hne1,if_pos (by simpa using hx2),Aad L n hn])
     clear hne1
     go_wp2_with fail
     go_ret2
     exact ⟨by rw [HW.out]; rfl,HEND.out _ HB3.out⟩
    | false =>
     have hne2 : ¬ x = [46,46] := by simpa using hx2
     obtain ⟨z,hz⟩ : ∃ z,kidL L (n : Int) x = z := ⟨_,rfl⟩
     have HZ := Hd hz
     have HW := Hd (show F = if z < 0 then (0,2) else (z,0) by rw [HV.out,if_neg hne1,if_neg hne2,hz])
     clear hne1 hne2 hz
     go_wp2_with fail
     refine (Ara _ _ _ _ _ _ L z HZ.out _ (HM.out.below HB3.out)).mono ?_
     rintro e w4 ⟨rfl,hb4⟩
     have HB4 := Hd (HB3.out.trans (hb4.mono HB3.out.size))
     clear hb4 q0 q1 q2 h5
     by_cases hz0 : z < 0
     ·have HW2 := Hd (show F = (0,2) by rw [HW.out,if_pos hz0])
      go_wp2_with fail
      go_ret2
      exact ⟨by rw [HW2.out]; rfl,HEND.out _ HB4.out⟩
     ·have HW2 := Hd (show F = (z,0) by rw [HW.out,if_neg hz0])
      have hz1 : 0 ≤ z := by omega
      clear hz0
      go_wp2_with fail
      go_ret2
      exact ⟨by rw [HW2.out]; rfl,HEND.out _ HB4.out⟩
theorem Arh (cwd : Int) (p : List UInt8) (w : World) :
  Calls Tryz.prog 78 #[.int .i64 cwd,.string ⟨p.toArray⟩] w fun e w' => e = .returned (.int .i64 (Adn cwd p)) ∧ w = w' := by
 cases h : Ac3 p
 all_goals
  have HV := Hd h
  have hw := Ake ⟨p.toArray⟩ w
  have e1 : (⟨p.toArray⟩ : ByteArray).data.toList = p := rfl
  rw [e1,h] at hw
  have HW := Hd hw
  clear hw h e1
  go_enter Tryz.func78,Tryz.ntmps78
  go_wp2_with (first | (go_at_call 119; refine HW.out.mono ?_; rintro e w' ⟨rfl,rfl⟩) | fail)
  go_ret
  exact ⟨by unfold Adn; rw [HV.out]; rfl,rfl⟩
end Go.Proofs.YtkdfbliiblojoaaGreatDoor
namespace Go.Proofs.YtkdfbliiblojoaaGreatDoor
open Go Go.RowKit Go.Shelf
attribute [local go_sem] Oper.semAt_some
def Aqm (Bn : Nat) (W W' : World) : Prop := W'.heap[Bn]? = W.heap[Bn]?
theorem Ayg {Bn : Nat} {A B C : World} (h : Aqm Bn A B) (k : Aqm Bn B C) : Aqm Bn A C := Eq.trans k h
theorem Ayn {Bn : Nat} {w : World} (hb : Bn < w.heap.size) (W : World) (l : Nat) (o o' : Obj) (hl : w.heap.size ≤ l) (_ : W.heap[l]? = some o) (_ : o.isCells = false) (_ : o.isWalk = false) : Aqm Bn W (W.putObj l o') :=
 by
 show (W.putObj l o').heap[Bn]? = W.heap[Bn]?
 simp only [World.putObj]
 rw [Array.getElem?_setIfInBounds_ne (by omega)]
def Rest (s : List UInt8) (D : List (List UInt8)) (r : List UInt8) : Prop := r.length ≤ s.length ∧ Aan s = D ++ Aan r
theorem Rest.start (s : List UInt8) : Rest s [] s := ⟨Nat.le_refl _,rfl⟩
theorem Rest.skip {s r : List UInt8} {D : List (List UInt8)} (h : Rest s D r) (hh : Ad6 r = []) : Rest s D (Aeg r) := by
 refine ⟨Nat.le_trans (Aij r) h.1,?_⟩
 rw [h.2,Akc r,if_pos hh,List.nil_append]
theorem Rest.takes {s r : List UInt8} {D : List (List UInt8)} (h : Rest s D r) (hh : Ad6 r ≠ []) : Rest s (D ++ [Ad6 r]) (Aeg r) := by
 refine ⟨Nat.le_trans (Aij r) h.1,?_⟩
 rw [h.2,Akc r,if_neg hh,List.append_assoc]
theorem Rest.done {s : List UInt8} {D : List (List UInt8)} (h : Rest s D []) : D = Aan s := by
 rw [h.2]
 simp [Aan,Abz]
theorem Rest.pre {s r : List UInt8} {D : List (List UInt8)} (h : Rest s D r) : D <+: Aan s := ⟨Aan r,h.2.symm⟩
def IRel (s : ByteArray) (Bn : Nat) (J : List (List UInt8) → World → Prop) (r : Value) (wr : World) : Prop :=
 ∃ (l : List UInt8) (D : List (List UInt8)),r = .string ⟨l.toArray⟩ ∧ Rest s.data.toList D l ∧ J D wr ∧ wr.cell? ⟨Bn,0,none⟩ = some (.string s)
def lenOf : Value → Nat
 | .string b => b.size
 | _ => 0
theorem Akg (l : List UInt8) : ((⟨l.toArray⟩ : ByteArray).toList.isEmpty) = l.isEmpty := by rw [ByteArray.toList_eq]
theorem App (l : List UInt8) (hs : l.length ≤ 1073741824) (w : World) :
  Calls Tryz.prog 200 #[.string ⟨l.toArray⟩,.string ⟨#[47]⟩] w fun e w' => (∃ b,e = .returned (.tuple #[.string ⟨(Ad6 l).toArray⟩,.string ⟨(Aeg l).toArray⟩,.bool b])) ∧ Azk w w' :=
 Ayr ⟨l.toArray⟩ (by show l.toArray.size ≤ _; simpa using hs) w
structure Open (F : Fence) : Prop where
 fn : ∀ f,F.fn f
 ro : F.round = none
 calls : ∀ {n : Nat} {P : Program} {f : FuncId} {args : Array Value} {w : World} {R : Ending → World → Prop},Calls P f args w R → CallsIn F n P f args w R
theorem Agx : Open Fence.wide := ⟨fun _ => trivial,rfl,fun h => callsIn_wide.2 h⟩
theorem Asq (F : Fence) (hF : Open F) (n : Nat) (hn : 1 ≤ n) (l Bn : Nat) (s : ByteArray) (hs : s.size ≤ 1073741824) (J Jx : List (List UInt8) → World → Prop) (hdr : ∀ pre W m,J pre W → J pre (W.drewN m))
  (hY : ∀ pre x W,J pre W → pre.length < (Aan s.data.toList).length → YieldAt F (n - 1) Tryz.prog l #[.string ⟨x.toArray⟩] W fun e W' =>
   (e = .returned (.bool true) ∧ J (pre ++ [x]) W' ∧ Aqm Bn W W') ∨ (e = .returned (.bool false) ∧ Jx (pre ++ [x]) W'))
  (W : World) (hBn : W.cell? ⟨Bn,0,none⟩ = some (.string s)) (h0 : J [] W) :
  CallsIn F n Tryz.prog 199 #[.func (.yield l) #[] #[],.pointer (some ⟨Bn,0,none⟩)] W fun e W' => (∃ v,e = .returned v) ∧
   ((∃ ys,ys = Aan s.data.toList ∧ J ys W') ∨ (∃ pre,pre <+: Aan s.data.toList ∧ Jx pre W')) := by
 have hsl := Aas s
 have hro : F.round = none := hF.ro
 have hfc : F.fn 200 := hF.fn _
 refine callsIn_of_wp Tryz.func199 rfl (hF.fn _) ?_ hro
 simp only [Tryz.ntmps199,List.size_toArray,List.length_cons,List.length_nil,Nat.reduceAdd,Nat.reduceSub,Array.replicate_succ,Array.replicate_zero,List.push_toArray,List.append_toArray,List.nil_append,List.cons_append]
 gi_wp2
 gi_loopw [3,4] (fun r _ wr => IRel s Bn J r wr) (fun r _ _ => lenOf r)
 case atStart => exact ⟨s.data.toList,[],rfl,Rest.start _,h0,hBn⟩
 case round =>
  obtain ⟨r,D,rfl,hrest,hJ,hcell⟩ := hrel
  have HR := Hd hrest
  have HJ := Hd hJ
  clear hrest hJ
  have he := Akg r
  cases hr : r.isEmpty with
  | true =>
   obtain rfl : r = [] := by simpa using hr
   have hfin := Hd (Rest.done HR.out)
   gi_wp2
   go_end0
   exact ⟨⟨_,rfl⟩,.inl ⟨D,hfin.out,HJ.out⟩⟩
  | false =>
   have hrl : r.length ≤ 1073741824 := by have := HR.out.1; omega
   have hrn : r ≠ [] := fun e => by rw [e] at hr; cases hr
   have htl := Asm r hrn
   have HT := Hd htl
   clear htl hrn
   have he2 := Akg (Ad6 r)
   cases hh : (Ad6 r).isEmpty with
   | true =>
    have hnext := Hd (HR.out.skip (by simpa using hh))
    gi_wp2_with (gi_at_call 200; refine (hF.calls (App r hrl _)).mono ?_; rintro e w' ⟨⟨b,rfl⟩,m,rfl⟩)
    refine ⟨fun _ h => (by cases h),?_⟩
    gi_wp2
    go_roundw
    case rel => exact ⟨Aeg r,D,rfl,hnext.out,hdr _ _ _ HJ.out,hcell⟩
    case measure => exact HT.out
   | false =>
    have hnext := Hd (HR.out.takes (by simpa using hh))
    have hlen : D.length < (Aan s.data.toList).length := by
     have := (Rest.pre hnext.out).length_le
     simp at this
     omega
    gi_wp2_with (gi_at_call 200; refine (hF.calls (App r hrl _)).mono ?_; rintro e w' ⟨⟨b,rfl⟩,m,rfl⟩; obtain ⟨fn,tmps,assign,body,hy,hR⟩ := hY D (Ad6 r) _ (hdr _ _ m HJ.out) hlen)
    refine hR.mono ?_
    rintro e W3 (⟨rfl,hJ3,hk3⟩ | ⟨rfl,hJx3⟩)
    ·have hcell3 : W3.cell? ⟨Bn,0,none⟩ = some (.string s) := (World.cell?_of_block (w := wr.drewN m) (a := ⟨Bn,0,none⟩) (show W3.heap[Bn]? = (wr.drewN m).heap[Bn]? from hk3)).trans hcell
     gi_wp2
     go_roundw
     case rel => exact ⟨Aeg r,D ++ [Ad6 r],rfl,hnext.out,hJ3,hcell3⟩
     case measure => exact HT.out
    ·have hpre := Rest.pre hnext.out
     gi_wp2
     refine bodyPost_ret (results_none rfl _ _ _) rfl ?_
     exact ⟨⟨_,rfl⟩,.inr ⟨D ++ [Ad6 r],hpre,hJx3⟩⟩
theorem Av2 (F : Fence) (hF : Open F) (n : Nat) (s : ByteArray) (w : World) :
  CallsIn F n Tryz.prog 189 #[.string s] w fun e w' => e = .returned (.func (.func 199) #[] #[.pointer (some ⟨w.heap.size,0,none⟩)]) ∧ w' = w.alloc (.cells #[.string s] 9) := by
 have hro : F.round = none := hF.ro
 refine callsIn_of_wp Tryz.func189 rfl (hF.fn _) ?_ hro
 simp only [Tryz.ntmps189,List.size_toArray,List.length_cons,List.length_nil,Nat.reduceAdd,Nat.reduceSub,Array.replicate_succ,Array.replicate_zero,List.push_toArray,List.append_toArray,List.nil_append,List.cons_append]
 gi_wp2
 go_ret
 exact ⟨rfl,rfl⟩
theorem Akr (W : World) (m : Nat) : W.grownBy (W.drewN m) none := ⟨rfl,rfl,rfl,Nat.le_refl _,fun _ _ _ => rfl⟩
theorem An4 (F : Fence) (hF : Open F) (n : Nat) (hn : 1 ≤ n) (Bn : Nat) (s : ByteArray) (hs : s.size ≤ 1073741824) (w : World) (hBn : Bn < w.heap.size)
  (hc : w.cell? ⟨Bn,0,none⟩ = some (.string s)) :
  SeqStopsK F n Tryz.prog 199 #[.pointer (some ⟨Bn,0,none⟩)] (fun x : List UInt8 => #[Value.string ⟨x.toArray⟩]) (Aqm Bn) (fun ys => ys = Aan s.data.toList) (fun pre => pre <+: Aan s.data.toList) (Aan s.data.toList).length w := fun l J Jx W hW hJ _ hY h0 =>
 Asq F hF n hn l Bn s hs J Jx (fun pre W m h => hJ pre W _ none h (Akr W m) (fun _ e => by cases e)) hY W ((hW.cell (p := ⟨Bn,0,none⟩) hBn).trans hc) h0
end Go.Proofs.YtkdfbliiblojoaaGreatDoor
