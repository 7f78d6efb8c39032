import Derived.Test.YtkdfbliiblojoaaGreatDoorK19
import Derived.Laws.AppendOwnNone
import Derived.Test.YtkdfbliiblojoaaGreatDoorK21
set_option linter.all false
set_option maxRecDepth 100000
set_option maxHeartbeats 64000000
namespace Go.Proofs.YtkdfbliiblojoaaGreatDoor
open Go Go.RowKit
structure CRel (w3 : World) (B g cap : Nat) (L : List Ino) (vs0 : List Value) (K : Nat) (vs : List Value) (wr : World) : Prop where
 nodes : NodesOwn wr g cap L vs
 own : ∀ i (hi : i < L.length) (hv : i < vs.length),i < K → Aba wr B vs[i] L[i].kids
 apart : ∀ i j (hi : i < vs.length) (hj : j < vs.length),i < K → j < K → i ≠ j → vs[i].ownBlock = none ∨ vs[i].ownBlock ≠ vs[j].ownBlock
 off : ∀ i (hi : i < vs.length),i < K → vs[i].ownBlock ≠ some g
 rest : ∀ i,K ≤ i → vs[i]? = vs0[i]?
 below : Below B w3 wr
 size : B ≤ wr.heap.size
section
variable {w3 wr wn : World} {B g cap K : Nat} {L : List Ino} {vs0 vs : List Value}
theorem CRel.step (h : CRel w3 B g cap L vs0 K vs wr) (hg : B ≤ g) (hK : K < L.length) {v : Value} (ho : Aba wn wr.heap.size v L[K].kids) (hb : Below wr.heap.size wr wn) : CRel w3 B g cap L vs0 (K + 1) (vs.set K v) (wn.setCell ⟨g,K * 6 + 4,none⟩ v) := by
 have hKv : K < vs.length := by rw [h.nodes.len]; exact hK
 have hN := (h.nodes.below hb).setKids hK hKv v L[K].kids
 have e1 : L.set K { L[K] with kids := L[K].kids } = L := List.set_getElem_self ..
 rw [e1] at hN
 have hst : ∀ k,k ≠ g → (wn.setCell ⟨g,K * 6 + 4,none⟩ v).heap[k]? = wn.heap[k]? := fun k hk => Below.heap_setCell _ _ _ _ hk
 have hnew : ∀ k,v.ownBlock = some k → wr.heap.size ≤ k := fun k hk => (ho.lt k hk).1
 have hgl := h.nodes.lt
 refine ⟨hN,fun i hi hv hiK => ?_,fun i j hi hj hiK hjK hij => ?_,fun i hi hiK => ?_,fun i hi => ?_,?_,?_⟩
 ·rw [List.length_set] at hv
  by_cases e : K = i
  ·subst e
   rw [List.getElem_set_self]
   refine Aba.same (W := wn) ?_ fun k hk => hst k (by have := hnew k hk; omega)
   have := h.size
   exact ho.lower this
  ·rw [List.getElem_set_ne e]
   have hk := h.own i hi hv (by omega)
   refine hk.same fun k hkb => ?_
   rw [hst k (fun e3 => h.off i hv (by omega) (hkb.trans (congrArg some e3)))]
   exact hb.block k (hk.lt k hkb).2
 ·rw [List.length_set] at hi hj
  rw [List.getElem_set,List.getElem_set]
  have hx : ∀ t (ht : t < vs.length),t < K → ∀ k,vs[t].ownBlock = some k → k < wr.heap.size := fun t ht htK k hk => ((h.own t (by rw [← h.nodes.len]; exact ht) ht htK).lt k hk).2
  by_cases e : K = i
  ·rw [if_pos e,if_neg (fun e2 => hij (e.symm.trans e2))]
   cases hq : v.ownBlock with
   | none => exact Or.inl rfl
   | some k =>
    refine Or.inr fun e3 => ?_
    have h1 := hx j hj (by omega) k e3.symm
    have h2 := hnew k hq
    omega
  ·rw [if_neg e]
   by_cases e2 : K = j
   ·rw [if_pos e2]
    cases hq : vs[i].ownBlock with
    | none => exact Or.inl rfl
    | some k =>
     refine Or.inr fun e3 => ?_
     have h1 := hx i hi (by omega) k hq
     have h2 := hnew k e3.symm
     omega
   ·rw [if_neg e2]
    exact h.apart i j hi hj (by omega) (by omega) hij
 ·rw [List.length_set] at hi
  rw [List.getElem_set]
  by_cases e : K = i
  ·rw [if_pos e]
   exact fun e3 => by have := hnew g e3; omega
  ·rw [if_neg e]
   exact h.off i hi (by omega)
 ·rw [List.getElem?_set_ne (by omega)]
  exact h.rest i (by omega)
 ·exact (h.below.trans (hb.mono h.size)).setCell hg v
 ·rw [Age]
  exact Nat.le_trans h.size hb.size
theorem CRel.done (h : CRel w3 B g cap L vs0 L.length vs wr) (hg : B ≤ g) : OwnT wr B g cap L vs :=
 ⟨h.nodes,hg,fun i hi hv => h.own i hi hv hi,fun i j hi hj hij => h.apart i j hi hj (by rw [← h.nodes.len]; exact hi) (by rw [← h.nodes.len]; exact hj) hij,fun i hi => h.off i hi (by rw [← h.nodes.len]; exact hi)⟩
end
theorem Adt (a : Option Addr) (cap : Nat) (m b : Int) (L : List Ino) (hL : 0 < L.length) (hL2 : L.length ≤ 1000) (hk : ∀ x ∈ L,x.kids.length ≤ 4096) (w : World) (hN : Aah w a cap L) :
  Calls Tryz.prog 52 #[.agg #[.slice a L.length cap,.int .i64 m,.int .i64 b]] w fun e w' => ∃ g cap' vs,e = .returned (.agg #[.slice (some ⟨g,0,none⟩) L.length cap',.int .i64 m,.int .i64 b]) ∧ OwnT w' w.heap.size g cap' L vs ∧ Below w.heap.size w w' := by
 have HN := Hd hN
 have HK := Hd hk
 clear hN hk
 go_enter Tryz.func52,Tryz.ntmps52
 go_wp2_with fail
 obtain ⟨w2,hw2⟩ : ∃ w2,w2 = (w.alloc (.cells #[.slice a L.length cap,.int .i64 m,.int .i64 b] 24)).alloc (.cells #[.slice none 0 0,.int .i64 0,.int .i64 0] 24) := ⟨_,rfl⟩
 have hb2 : Below w.heap.size w w2 := by rw [hw2]; exact (Aab w _).alloc (by simp) _
 have hs2 : w2.heap.size = w.heap.size + 2 := by rw [hw2]; simp
 have hA : w2.heap[w.heap.size]? = some (.cells #[.slice a L.length cap,.int .i64 m,.int .i64 b] 24 (0,0)) := by rw [hw2,Below.heap_alloc _ _ _ (by simp)]; exact Aae _ _
 have hB : w2.heap[w.heap.size + 1]? = some (.cells #[.slice none 0 0,.int .i64 0,.int .i64 0] 24 (0,0)) := by
  rw [hw2]
  have := Aae (w.alloc (.cells #[.slice a L.length cap,.int .i64 m,.int .i64 b] 24)) (.cells #[.slice none 0 0,.int .i64 0,.int .i64 0] 24)
  rw [World.size_alloc] at this
  exact this
 rw [← hw2]
 have HB2 := Hd hb2
 have HA := Hd hA
 have HBB := Hd hB
 clear hw2 hb2 hA hB
 refine (Amv a cap L hL (by omega) w _ HB2.out HN.out).mono ?_
 rintro e w3 ⟨g,cap',vs,rfl,hO,hg,hkids,hb3⟩
 rw [hs2] at hg
 have hA3 : w3.heap[w.heap.size]? = _ := (hb3.block _ (by omega)).trans HA.out
 have hB3 : w3.heap[w.heap.size + 1]? = _ := (hb3.block _ (by omega)).trans HBB.out
 have a0 := bC hA3 0
 have f0 := bF hA3 0
 obtain ⟨w4,hw4⟩ : ∃ w4,w4 = w3.setCell ⟨w.heap.size,0,none⟩ (.slice (some ⟨g,0,none⟩) L.length cap') := ⟨_,rfl⟩
 have hA4 : w4.heap[w.heap.size]? = some (.cells #[.slice (some ⟨g,0,none⟩) L.length cap',.int .i64 m,.int .i64 b] 24 (0,0)) := by rw [hw4]; exact Aa0 hA3 0 _
 have hB4 : w4.heap[w.heap.size + 1]? = some (.cells #[.slice none 0 0,.int .i64 0,.int .i64 0] 24 (0,0)) := by rw [hw4,Below.heap_setCell _ _ _ _ (show w.heap.size + 1 ≠ w.heap.size by omega)]; exact hB3
 have hb4 : Below w.heap.size w w4 := by
  rw [hw4]
  exact (HB2.out.trans (hb3.mono (by omega))).setCell (show w.heap.size ≤ w.heap.size from Nat.le_refl _) _
 have hO4 : NodesOwn w4 g cap' L vs := hO.same (by rw [hw4]; exact Below.heap_setCell _ _ _ _ (show g ≠ w.heap.size by omega))
 have hs4 : w.heap.size + 2 ≤ w4.heap.size := by rw [hw4,Age]; have := hb3.size; omega
 have HA4 := Hd hA4
 have HB4 := Hd hB4
 have HBel := Hd hb4
 have HO4 := Hd hO4
 have HKIDS := Hd hkids
 have HG := Hd hg
 have HS4 := Hd hs4
 clear hO hkids hb3 hA4 hB4 hb4 hO4 hs4 hA3 hB3
 go_wp2_with fail
 rw [← hw4]
 clear hw4
 go_loopw [3,11] (fun _ iv wr => ∃ K vs',K ≤ L.length ∧ iv = .int .i64 K ∧ Hid (CRel w4 (w.heap.size + 2) g cap' L vs K vs' wr)) (fun _ iv _ => L.length - (intOf iv).toNat)
 case atStart => exact ⟨0,vs,Nat.zero_le _,rfl,HO4.out,fun _ _ _ h => absurd h (Nat.not_lt_zero _),fun _ _ _ _ h => absurd h (Nat.not_lt_zero _),fun _ _ h => absurd h (Nat.not_lt_zero _),fun _ _ => rfl,Below.refl _ _,HS4.out⟩
 case round =>
  obtain ⟨K,vs',hK,rfl,HR⟩ := hrel
  by_cases hlt : K < L.length
  ·have hv : K < vs'.length := by rw [HR.out.nodes.len]; exact hlt
   have hn := HR.out.nodes.node K hlt hv
   obtain ⟨kv,hkv⟩ : ∃ kv,kv = vs'[K] := ⟨_,rfl⟩
   have hki : Acc wr kv L[K].kids := by
    have e := HR.out.rest K (Nat.le_refl _)
    rw [List.getElem?_eq_getElem hv,List.getElem?_eq_getElem (by rw [HO4.out.len]; exact hlt)] at e
    rw [hkv,Option.some.inj e]
    exact (HKIDS.out K hlt (by rw [HO4.out.len]; exact hlt)).below (HBel.out.trans (HR.out.below.mono (by omega)))
   have HKI := Hd hki
   have hc4 := hn.kids
   rw [← hkv] at hc4
   have hf4 := HR.out.nodes.free (K * 6 + 4)
   have hgl := HR.out.nodes.lt
   have q0 : wr.cell? ⟨w.heap.size,0,none⟩ = some (.slice (some ⟨g,0,none⟩) L.length cap') := bC ((HR.out.below.block _ (by omega)).trans HA4.out) 0
   have hq0l : w.heap.size < wr.heap.size := Aaj q0
   have hne : (⟨g,K * 6 + 4,none⟩ : Addr) ≠ ⟨w.heap.size,0,none⟩ := fun e => by have := (Addr.mk.inj e).1; omega
   have hlt' : (K : Int) < (L.length : Int) := by omega
   have hk0 : (0 : Int) ≤ (K : Int) := by omega
   clear hn hki hkv
   go_wp2_with fail
   go_region_with
    (first
     | (go_at_call 91; refine (Aiu kv L[K].kids (by have := HK.out _ (List.getElem_mem hlt); omega) wr.drew (show Acc wr.drew kv L[K].kids from HKI.out)).mono ?_; rintro e wn ⟨v',rfl,hO',hbn⟩; obtain ⟨va,vc,rfl⟩ := Aba.form hO'; have HO' : Hid (Aba wn wr.heap.size (.slice va L[K].kids.length vc) L[K].kids) := Hd hO'; have hb0 : Below wr.heap.size wr wn := ⟨hbn.os,hbn.tape,hbn.output,hbn.size,hbn.block⟩; have q0 := Aaa hb0 q0; have hc4 := Aaa hb0 hc4; have hf4 : wn.frozen? ⟨g,K * 6 + 4,none⟩ = false := (Below.frozen hb0 (p := ⟨g,K * 6 + 4,none⟩) hgl).trans hf4; have HBN := Hd hb0; clear hbn hO' hb0))
   all_goals
    have hst := HR.out.step (B := w.heap.size + 2) (by have := HG.out; omega) hlt HO'.out HBN.out
    have HST := Hd hst
    clear hst q0 hc4 hf4
    go_wp2_with fail
    go_roundw
    case rel => exact ⟨K + 1,_,by omega,by go_num,HST.out⟩
    case measure => simp [intOf] <;> omega
  ·have hKL : K = L.length := by omega
   subst hKL
   have hAr := (HR.out.below.block w.heap.size (by omega)).trans HA4.out
   have hBr := (HR.out.below.block (w.heap.size + 1) (by omega)).trans HB4.out
   have p0 := bC hAr 0
   have p1 := bC hAr 1
   have p2 := bC hAr 2
   have r0 := bC hBr 0
   have r1 := bC hBr 1
   have r2 := bC hBr 2
   have s0 := bF hBr 0
   have s1 := bF hBr 1
   have s2 := bF hBr 2
   have hgl := HR.out.nodes.lt
   have HOT := Hd (HR.out.done HG.out)
   have HBE := Hd (HBel.out.trans (HR.out.below.mono (show w.heap.size ≤ w.heap.size + 2 by omega)))
   have HBR := Hd hBr
   clear hAr hBr
   go_wp2_with fail
   change bodyPost _ _ _ _ _ (put3 wr (w.heap.size + 1) (.slice (some ⟨g,0,none⟩) L.length cap') (.int .i64 m) (.int .i64 b))
   obtain ⟨c0,c1,c2⟩ := Aau HBR.out (.slice (some ⟨g,0,none⟩) L.length cap') (.int .i64 m) (.int .i64 b)
   have HOF := Hd ((HOT.out.low (W' := put3 wr (w.heap.size + 1) (.slice (some ⟨g,0,none⟩) L.length cap') (.int .i64 m) (.int .i64 b)) fun k hk => Abq (by omega) _ _ _).lower (show w.heap.size ≤ w.heap.size + 2 by omega))
   have HBF := Hd (Aa8 HBE.out (show w.heap.size ≤ w.heap.size + 1 by omega) (.slice (some ⟨g,0,none⟩) L.length cap') (.int .i64 m) (.int .i64 b))
   generalize put3 wr (w.heap.size + 1) (.slice (some ⟨g,0,none⟩) L.length cap') (.int .i64 m) (.int .i64 b) = wF at *
   refine bodyPost_ret (v := .agg #[.slice (some ⟨g,0,none⟩) L.length cap',.int .i64 m,.int .i64 b]) (by simp [results,Tryz.results52,go_sem,c0,c1,c2]) rfl ⟨g,cap',vs',rfl,HOF.out,HBF.out⟩
theorem RefT.cells {W : World} {g cap : Nat} {L : List Ino} {vs : List Value} (h : RefT W g cap L vs) {i : Nat} (hi : i < L.length) (j : Nat) (hj : j < 6) : (∃ u,W.cell? ⟨g,i * 6 + j,none⟩ = some u) ∧ W.frozen? ⟨g,i * 6 + j,none⟩ = false := by
 obtain ⟨v,hn,-,hf⟩ := h.node hi
 refine ⟨?_,hf _⟩
 match j,hj with
 | 0,_ => exact ⟨_,hn.kind⟩
 | 1,_ => exact ⟨_,hn.mode⟩
 | 2,_ => exact ⟨_,hn.links⟩
 | 3,_ => exact ⟨_,hn.data⟩
 | 4,_ => exact ⟨_,hn.kids⟩
 | 5,_ => exact ⟨_,hn.up⟩


def Asr (w : World) (m b : Int) (L' : List Ino) (rest : List Value) (e : Ending) (w' : World) : Prop :=
 (∃ g cap vs,e = .returned (.tuple (#[.agg #[.slice (some ⟨g,0,none⟩) L'.length cap,.int .i64 m,.int .i64 b]] ++ rest.toArray)) ∧ OwnT w' w.heap.size g cap L' vs) ∧ Below w.heap.size w w'
section
variable {W W' : World} {base g cap : Nat} {L : List Ino} {vs : List Value}
theorem NodesOwn.setData (h : NodesOwn W g cap L vs) {i : Nat} (hi : i < L.length) (hv : i < vs.length) (d : List UInt8) : NodesOwn (W.setCell ⟨g,i * 6 + 3,none⟩ (.string ⟨d.toArray⟩)) g cap (L.set i { L[i] with data := d }) (vs.set i vs[i]) := by
 have hn := h.node i hi hv
 have hc := Aku (u := .string ⟨d.toArray⟩) hn.data
 refine h.put hi (Age _ _) (fun j => World.frozen?_setCell ..) (fun j hj => by rw [hc,if_neg (by omega)]) ⟨?_,?_,?_,?_,?_,?_⟩
 ·rw [hc,if_neg (by omega)]; exact hn.kind
 ·rw [hc,if_neg (by omega)]; exact hn.mode
 ·rw [hc,if_neg (by omega)]; exact hn.links
 ·rw [hc,if_pos rfl]
 ·rw [hc,if_neg (by omega)]; exact hn.kids
 ·rw [hc,if_neg (by omega)]; exact hn.up
theorem OwnT.setData (h : OwnT W base g cap L vs) {i : Nat} (hi : i < L.length) (d : List UInt8) : OwnT (W.setCell ⟨g,i * 6 + 3,none⟩ (.string ⟨d.toArray⟩)) base g cap (Agm L i d) vs := by
 have hv : i < vs.length := by rw [h.nodes.len]; exact hi
 have hN := h.nodes.setData hi hv d
 rw [Aoy] at hN
 unfold Agm
 rw [Aad L i hi]
 refine ⟨hN,h.hbase,fun j hj hvj => ?_,h.apart,h.off⟩
 have hj' : j < L.length := by rw [List.length_set] at hj; exact hj
 have hk : (L.set i { L[i] with data := d })[j].kids = L[j].kids := by
  rw [List.getElem_set]
  split
  ·rename_i e; subst e; rfl
  ·rfl
 rw [hk]
 exact (h.kids j hj' hvj).same fun k hk2 => Below.heap_setCell _ _ _ _ (fun e => h.off j hvj (hk2.trans (congrArg some e)))
end

def Avz (L : List Ino) (w1 : World) (n b i : Value) (wr : World) : Prop :=
 ∃ k : Nat,k ≤ L.length ∧ i = .int .i64 k ∧ n = .int .i64 (Ah3 (L.take k)) ∧ b = .int .i64 (Aax (L.take k)) ∧ Below w1.heap.size w1 wr
theorem At2 (a : Option Addr) (cap : Nat) (m b : Int) (L : List Ino) (hL : L.length ≤ 1000) (hB : Aax L ≤ 4611686018427387904) (w : World) (hN : Aah w a cap L) :
  Calls Tryz.prog 165 #[.agg #[.slice a L.length cap,.int .i64 m,.int .i64 b]] w fun e w' => e = .returned (.tuple #[.int .i64 (Ah3 L),.int .i64 (Aax L)]) ∧ Below w.heap.size w w' := by
 have hb1 := Aab w (.cells #[.slice a L.length cap,.int .i64 m,.int .i64 b] 24)
 obtain ⟨w1,hw1⟩ : ∃ w1,w1 = w.alloc (.cells #[.slice a L.length cap,.int .i64 m,.int .i64 b] 24) := ⟨_,rfl⟩
 have hM := hN.below hb1
 have hsz : w1.heap.size = w.heap.size + 1 := by rw [hw1]; simp
 rw [← hw1] at hM hb1
 have HM := Hd hM
 have HB1 := Hd hb1
 have HSZ := Hd hsz
 clear hM hN hb1 hsz
 go_enter Tryz.func165,Tryz.ntmps165
 go_wp2_with fail
 rw [← hw1]
 clear hw1
 go_loopw [4,5,11] (fun n b i wr => Avz L w1 n b i wr) (fun _ _ i _ => L.length - (intOf i).toNat)
 case atStart => exact ⟨0,by omega,rfl,rfl,rfl,Below.refl _ _⟩
 case round =>
  obtain ⟨k,hk,rfl,rfl,rfl,hbr⟩ := hrel
  have HBR := Hd hbr
  have hszr := hbr.size
  clear hbr
  by_cases hlt : k < L.length
  ·obtain ⟨bb,o,rfl,hx⟩ := (HM.out.below HBR.out).2.2 k hlt
   have h0 := hx.kind
   have h1 := hx.mode
   have h2 := hx.links
   have h3 := hx.data
   obtain ⟨kv,h4,hks⟩ := hx.kids
   have h5 := hx.up
   obtain ⟨ka,kcap,rfl,-,-,-⟩ := hks
   have hs := Acs L[k].data
   have hu1 := Aq5 L k
   have hu2 := Arc L (k + 1)
   have hn1 := Aka (L.take k) L[k]
   have hn2 := Ahk (L.take k) L[k]
   rw [← List.take_succ_eq_append_getElem hlt] at hn1 hn2
   have HBA := Hd (show ∀ o,Below w1.heap.size w1 (wr.alloc o) from fun o => HBR.out.alloc hszr o)
   clear hx
   cases hz : (L[k].kind != 0) with
   | true =>
    have hz' : L[k].kind ≠ 0 := by simpa using hz
    rw [if_neg hz'] at hn1
    have H1 := Hd hn1
    have H2 := Hd hn2
    have hb2 : Aax (L.take k) + L[k].data.length ≤ 4611686018427387904 := by omega
    clear hn1 hn2 hu2 hz'
    go_wp2_with fail
    go_roundw
    case rel => exact ⟨k + 1,by omega,by go_num,by rw [H1.out]; go_num,by rw [H2.out]; go_num,HBA.out _⟩
    case measure => simp [intOf] <;> omega
   | false =>
    have hz' : L[k].kind = 0 := by simpa using hz
    rw [if_pos hz'] at hn1
    have H1 := Hd hn1
    have H2 := Hd hn2
    have hb2 : Aax (L.take k) + L[k].data.length ≤ 4611686018427387904 := by omega
    clear hn1 hn2 hu2 hz'
    go_wp2_with fail
    go_roundw
    case rel => exact ⟨k + 1,by omega,by go_num,by rw [H1.out]; rfl,by rw [H2.out]; go_num,HBA.out _⟩
    case measure => simp [intOf] <;> omega
  ·go_wp2_with fail
   go_ret2
   rw [List.take_of_length_le (by omega)]
   exact ⟨rfl,HB1.out.trans (HBR.out.mono (by rw [HSZ.out]; omega))⟩
theorem Aky {L : List Ino} {m b : Int} (hF : FitP L m b) {k : Nat} (hk : k < L.length) : L[k].data.length ≤ 65536 := by
 obtain ⟨-,h2,-⟩ := Aud hF
 have := Ahp L k hk
 omega
theorem Ajc (a : Option Addr) (cap : Nat) (m b : Int) (n : Int) (hn : -281474976710656 ≤ n ∧ n ≤ 281474976710656) (L : List Ino) (hL : L.length ≤ 1000) (hB : Aax L ≤ 1048576) (w : World) (hN : Aah w a cap L) :
  Calls Tryz.prog 183 #[.agg #[.slice a L.length cap,.int .i64 m,.int .i64 b],.int .i64 n] w fun e w' => e = .returned (.bool (decide ((Aax L : Int) + n ≤ b))) ∧ Below w.heap.size w w' := by
 have hb1 := Aab w (.cells #[.slice a L.length cap,.int .i64 m,.int .i64 b] 24)
 have HM := Hd (hN.below hb1)
 have HB1 := Hd hb1
 clear hN hb1
 go_enter Tryz.func183,Tryz.ntmps183
 go_wp2_with fail
 refine (At2 _ _ _ _ L hL (by omega) _ HM.out).mono ?_
 rintro e w2 ⟨rfl,hb2⟩
 obtain ⟨q0,q1,q2⟩ := box3 hb2
 have HB2 := Hd (HB1.out.trans (hb2.mono (by simp)))
 have hw : IntKind.i64.wrap ((Aax L : Int) + n) = (Aax L : Int) + n := by rw [IntKind.wrap_i64]; omega
 clear hb2
 go_wp2_with fail
 go_ret
 exact ⟨rfl,HB2.out⟩
theorem Amj {B g : Nat} {w0 w : World} (hb : Below B w0 w) (hg : B ≤ g) (cs : Array Value) : Below B w0 (w.setRow g cs) := ⟨hb.os,hb.tape,hb.output,by rw [setRow_size]; exact hb.size,fun k hk => by rw [setRow_other w g k cs (by omega)]; exact hb.block k hk⟩
theorem Aze (old : List UInt8) (n : Nat) : (List.replicate n (0 : UInt8)).take 0 ++ old.take n ++ (List.replicate n 0).drop (0 + min old.length n) = cutL old n := by
 unfold cutL
 rw [List.take_zero,List.nil_append,List.drop_replicate]
 congr 2
 omega
theorem Avk (old : List UInt8) (off : Nat) (s : List UInt8) (n : Nat) (hn : n = max (off + s.length) old.length) : (cutL old n).take off ++ s.take (n - off) ++ (cutL old n).drop (off + min s.length (n - off)) = Akx old off s := by
 have h1 : s.take (n - off) = s := List.take_of_length_le (by omega)
 have h2 : min s.length (n - off) = s.length := by omega
 rw [h1,h2]
 refine List.ext_getElem? fun i => ?_
 have hl : ((cutL old n).take off).length = off := by rw [List.length_take,Ah8]; omega
 rw [Awj,List.getElem?_append,List.length_append,hl]
 by_cases c1 : i < off
 ·rw [if_pos (by omega),List.getElem?_append,hl,if_pos c1,if_pos c1,List.getElem?_take,if_pos c1,Ao3,if_pos (by omega)]
 ·rw [if_neg c1]
  by_cases c2 : i < off + s.length
  ·rw [if_pos c2,if_pos c2,List.getElem?_append,hl,if_neg c1]
  ·rw [if_neg c2,if_neg c2,List.getElem?_drop,show off + s.length + (i - (off + s.length)) = i by omega,Ao3]
   by_cases c3 : i < n
   ·rw [if_pos c3,if_pos (by omega)]
   ·rw [if_neg c3,List.getElem?_eq_none (by omega)]
theorem Avi (a : Option Addr) (cap : Nat) (m b : Int) (k size : Nat) (hsz : size ≤ 1000000) (L : List Ino) (hF : FitP L m b) (hk : k < L.length) (hno : b < (Aax L : Int) - (L[k].data.length : Int) + (size : Int)) (w : World) (hN : Aah w a cap L) :
  Calls Tryz.prog 161 #[.agg #[.slice a L.length cap,.int .i64 m,.int .i64 b],.int .i64 k,.int .i64 size] w fun e w' => e = .returned (.tuple #[.slice none 0 0,.int .i64 28]) ∧ Below w.heap.size w w' := by
 have hb1 := Aab w (.cells #[.slice a L.length cap,.int .i64 m,.int .i64 b] 24)
 have HM := Hd (hN.below hb1)
 have HB1 := Hd hb1
 obtain ⟨l1,l2,l3,l4,l5⟩ := hF.limits
 obtain ⟨bb,o,rfl,hx⟩ := (hN.below hb1).2.2 k hk
 have x3 := hx.data
 have hxl := Aaj x3
 have hk0 : (0 : Int) ≤ (k : Int) := by omega
 have hk1 : (k : Int) < (L.length : Int) := by omega
 obtain ⟨D,hD⟩ : ∃ D : ByteArray,D = ⟨L[k].data.toArray⟩ := ⟨_,rfl⟩
 have hDs : D.size = L[k].data.length := by rw [hD]; simp [ByteArray.size]
 have hDb : D.size ≤ 65536 := by rw [hDs]; exact Aky hF hk
 have hU : Aax L ≤ 65536 := by omega
 have hLl : L.length ≤ 1000 := by omega
 rw [← hD] at x3
 rw [← hDs] at hno
 have hwr : IntKind.i64.wrap ((size : Int) - (D.size : Int)) = (size : Int) - (D.size : Int) := by rw [IntKind.wrap_i64]; omega
 have HR := Hd (fun W hW => Ajc (some ⟨bb,o,none⟩) cap m b ((size : Int) - (D.size : Int)) (by omega) L hLl (by omega) W hW)
 have HV := Hd (show decide ((Aax L : Int) + ((size : Int) - (D.size : Int)) ≤ b) = false from decide_eq_false (by omega))
 clear hN hb1 hx hF hD hDs hno l1 l2 l3 l4 l5 hU
 go_enter Tryz.func161,Tryz.ntmps161
 go_wp2_with fail
 refine (HR.out _ HM.out).mono ?_
 rintro e w2 ⟨rfl,hb2⟩
 rw [HV.out]
 have HB2 := Hd (HB1.out.trans (hb2.mono (by simp)))
 clear hb2
 go_wp2_with fail
 go_ret2
 exact ⟨rfl,HB2.out⟩
theorem Api (a : Option Addr) (cap : Nat) (m b : Int) (k size : Nat) (hsz : size ≤ 1000000) (L : List Ino) (hF : FitP L m b) (hk : k < L.length) (hyes : ¬ b < (Aax L : Int) - (L[k].data.length : Int) + (size : Int)) (w : World) (hN : Aah w a cap L) :
  Calls Tryz.prog 161 #[.agg #[.slice a L.length cap,.int .i64 m,.int .i64 b],.int .i64 k,.int .i64 size] w fun e w' => ∃ B,e = .returned (.tuple #[.slice (some ⟨B,0,none⟩) size size,.int .i64 0]) ∧ w'.heap[B]? = some (.cells (rowB (cutL L[k].data size)) 5 (0,0)) ∧ w.heap.size ≤ B ∧ Below w.heap.size w w' := by
 have hb1 := Aab w (.cells #[.slice a L.length cap,.int .i64 m,.int .i64 b] 24)
 have HM := Hd (hN.below hb1)
 have HB1 := Hd hb1
 obtain ⟨l1,l2,l3,l4,l5⟩ := hF.limits
 obtain ⟨bb,o,rfl,hx⟩ := (hN.below hb1).2.2 k hk
 have x3 := hx.data
 have hxl := Aaj x3
 have hk0 : (0 : Int) ≤ (k : Int) := by omega
 have hk1 : (k : Int) < (L.length : Int) := by omega
 obtain ⟨D,hD⟩ : ∃ D : ByteArray,D = ⟨L[k].data.toArray⟩ := ⟨_,rfl⟩
 have hDs : D.size = L[k].data.length := by rw [hD]; simp [ByteArray.size]
 have HDL := Hd (show D.data.toList = L[k].data by rw [hD])
 have hDb : D.size ≤ 65536 := by rw [hDs]; exact Aky hF hk
 have hU : Aax L ≤ 65536 := by omega
 have hLl : L.length ≤ 1000 := by omega
 rw [← hD] at x3
 rw [← hDs] at hyes
 have hwr : IntKind.i64.wrap ((size : Int) - (D.size : Int)) = (size : Int) - (D.size : Int) := by rw [IntKind.wrap_i64]; omega
 have HR := Hd (fun W hW => Ajc (some ⟨bb,o,none⟩) cap m b ((size : Int) - (D.size : Int)) (by omega) L hLl (by omega) W hW)
 have HV := Hd (show decide ((Aax L : Int) + ((size : Int) - (D.size : Int)) ≤ b) = true from decide_eq_true (by omega))
 clear hN hb1 hx hF hD hyes l1 l2 l3 l4 l5 hU
 have HDS := Hd hDs
 clear hDs
 go_enter Tryz.func161,Tryz.ntmps161
 go_wp2_with fail
 refine (HR.out _ HM.out).mono ?_
 rintro e w2 ⟨rfl,hb2⟩
 rw [HV.out]
 have HB2 := Hd (HB1.out.trans (hb2.mono (by simp)))
 have hmk := Ajv w2 (size : Int) size rfl (by omega)
 have hcp := Ago (w2.alloc (.cells (rowB (List.replicate size 0)) 5)) w2.heap.size 0 size size D (List.replicate size 0) 5 (Aae w2 _) (by rw [List.length_replicate]; omega)
 have hrow : (List.replicate size (0 : UInt8)).take 0 ++ D.data.toList.take size ++ (List.replicate size 0).drop (0 + min D.size size) = cutL L[k].data size := by
  rw [HDL.out,HDS.out,Aze]
 rw [hrow] at hcp
 have hs2 : w.heap.size ≤ w2.heap.size := HB2.out.size
 have HBW := Hd (Amj ((HB2.out).alloc hs2 (.cells (rowB (List.replicate size 0)) 5)) hs2 (rowB (cutL L[k].data size)))
 have HHW := Hd (setRow_heap (w2.alloc (.cells (rowB (List.replicate size 0)) 5)) w2.heap.size (rowB (List.replicate size 0)) (rowB (cutL L[k].data size)) 5 (0,0) (Aae w2 _))
 clear hb2 hrow
 go_wp2_with fail
 go_ret2
 exact ⟨w2.heap.size,rfl,HHW.out,hs2,HBW.out⟩
theorem Aox {L : List Ino} {k least : Int} (h : refW L k least = 0) : Adm L k = 0 ∧ 0 ≤ least := by
 unfold refW at h
 by_cases h0 : Adm L k = 0
 ·rw [if_neg (by simpa using h0)] at h
  by_cases h1 : least < 0
  ·rw [if_pos h1] at h; exact absurd h (by decide)
  ·exact ⟨h0,by omega⟩
 ·rw [if_pos h0] at h; exact absurd h h0
theorem Ay5 (L : List Ino) (b k n : Int) : cutW L b k n = if refW L k n ≠ 0 then (L,refW L k n) else if 65536 < n then (L,27) else Aft L b k.toNat (cutL (Aaf L k).data n.toNat) := by
 unfold cutW refW
 by_cases h0 : Adm L k = 0
 ·by_cases h1 : n < 0
  ·simp [h0,h1]
  ·simp [h0,h1]
 ·simp [h0]
theorem Ama (a : Option Addr) (cap : Nat) (m b ino n : Int) (L : List Ino) (hF : FitP L m b) (L' : List Ino) (er : Int) (hz : cutW L b ino n = (L',er)) (w : World) (hN : Aah w a cap L) :
  Calls Tryz.prog 124 #[.agg #[.slice a L.length cap,.int .i64 m,.int .i64 b],.int .i64 ino,.int .i64 n] w (Asr w m b L' [.int .i64 er]) := by
 obtain ⟨w2,hw2,hb2,hs2,hA,hB⟩ := Aam w #[.slice a L.length cap,.int .i64 m,.int .i64 b] #[.slice none 0 0,.int .i64 0,.int .i64 0] 24 24
 have HX := Hd (show ∀ W,Below w2.heap.size w2 W → W.heap[w.heap.size + 1]? = some (.cells #[.slice none 0 0,.int .i64 0,.int .i64 0] 24 (0,0)) ∧ W.cell? ⟨w.heap.size,0,none⟩ = some (.slice a L.length cap) ∧ W.cell? ⟨w.heap.size,1,none⟩ = some (.int .i64 m) ∧ W.cell? ⟨w.heap.size,2,none⟩ = some (.int .i64 b) from fun W hW => by
  have h := (hW.block w.heap.size (by omega)).trans hA
  exact ⟨(hW.block _ (by omega)).trans hB,bC h 0,bC h 1,bC h 2⟩)
 have HM := Hd (show ∀ W,Below w2.heap.size w2 W → Aah W a cap L from fun W hW => hN.below (hb2.trans (hW.mono (by omega))))
 have HB2 := Hd hb2
 have HF := Hd hF
 have HK := Hd (show ∀ x ∈ L,x.kids.length ≤ 4096 from fun x hx => by obtain ⟨j,hj,rfl⟩ := List.getElem_of_mem hx; have := (hF.ins j hj).2.1; omega)
 obtain ⟨l1,l2,l3,l4,l5⟩ := hF.limits
 have hz2 := hz
 rw [Ay5] at hz2
 obtain ⟨rf,hrf⟩ : ∃ v,refW L ino n = v := ⟨_,rfl⟩
 rw [hrf] at hz2
 have HRF := Hd hrf
 clear hz hN hb2 hA hB hF hrf
 obtain ⟨hRx,q0,q1,q2⟩ := HX.out _ (Below.refl _ _)
 have HRX := Hd hRx
 have hq := Aaj q0
 have r0 := bC hRx 0
 have r1 := bC hRx 1
 have r2 := bC hRx 2
 have s0 := bF hRx 0
 have s1 := bF hRx 1
 have s2 := bF hRx 2
 have hrl := lt_of_block hRx
 clear hRx
 rw [hw2] at r0 r1 r2 s0 s1 s2 hrl q0 q1 q2 hq
 go_enter Tryz.func124,Tryz.ntmps124
 go_wp2_with fail
 rw [← hw2]
 clear HRX r0 r1 r2 s0 s1 s2 hrl q0 q1 q2 hq
 clear hw2
 refine (Adt a cap m b L (by omega) (by omega) HK.out _ (HM.out _ (Below.refl _ _))).mono ?_
 rintro e w3 ⟨g,cap',vs,rfl,hO3,hb3⟩
 have HO3 := Hd (hO3.lower (show w.heap.size + 2 ≤ w2.heap.size by omega))
 have hgl3 := hO3.nodes.lt
 have hgb : w.heap.size + 2 ≤ g := by have := hO3.hbase; omega
 have HB3 := Hd hb3
 have hs3 := hb3.size
 obtain ⟨-,q0,q1,q2⟩ := HX.out _ hb3
 have hq := Aaj q0
 clear hO3 hb3
 go_wp2_with fail
 obtain ⟨w4,hw4⟩ : ∃ w4,w4 = w3.alloc (.cells #[.slice (some ⟨g,0,none⟩) L.length cap',.int .i64 m,.int .i64 b] 24) := ⟨_,rfl⟩
 have hb4 : Below w3.heap.size w3 w4 := by rw [hw4]; exact Aab w3 _
 have hM4 : w4.heap[w3.heap.size]? = some (.cells #[.slice (some ⟨g,0,none⟩) L.length cap',.int .i64 m,.int .i64 b] 24 (0,0)) := by rw [hw4]; exact Aae w3 _
 have hs4 : w4.heap.size = w3.heap.size + 1 := by rw [hw4]; simp
 rw [← hw4]
 clear hw4 q0 q1 q2 hq
 have HB34 := Hd hb4
 have HB4 := Hd (HB3.out.trans (hb4.mono hs3))
 have HX4 := Hd (show ∀ W,Below w4.heap.size w4 W → W.heap[w.heap.size + 1]? = some (.cells #[.slice none 0 0,.int .i64 0,.int .i64 0] 24 (0,0)) ∧ W.cell? ⟨w.heap.size,0,none⟩ = some (.slice a L.length cap) ∧ W.cell? ⟨w.heap.size,1,none⟩ = some (.int .i64 m) ∧ W.cell? ⟨w.heap.size,2,none⟩ = some (.int .i64 b) ∧ W.heap[w3.heap.size]? = some (.cells #[.slice (some ⟨g,0,none⟩) L.length cap',.int .i64 m,.int .i64 b] 24 (0,0)) ∧ OwnT W (w.heap.size + 2) g cap' L vs from fun W hW => by
  obtain ⟨x0,x1,x2,x3⟩ := HX.out W (HB4.out.trans (hW.mono (by omega)))
  exact ⟨x0,x1,x2,x3,(hW.block w3.heap.size (by omega)).trans hM4,HO3.out.below (HB34.out.trans (hW.mono (by omega)))⟩)
 have HM4 := Hd (show ∀ W,Below w4.heap.size w4 W → Aah W a cap L from fun W hW => HM.out W (HB4.out.trans (hW.mono (by omega))))
 have HEND := Hd (show ∀ W,Below w4.heap.size w4 W → Below w.heap.size w W from fun W hW => HB2.out.trans ((HB4.out.trans (hW.mono (by omega))).mono (by omega)))
 clear hb4 hM4 hs4
 refine (Alg _ _ _ _ _ _ L rf HRF.out _ (HM4.out _ (Below.refl _ _))).mono ?_
 rintro e w5 ⟨rfl,hb5⟩
 have HB5 := Hd hb5
 have hs5 := hb5.size
 clear hb5
 obtain ⟨hRx,q0,q1,q2,hMx,hRT⟩ := HX4.out _ HB5.out
 have HRX := Hd hRx
 have HRT := Hd hRT
 have hq := Aaj q0
 have r0 := bC hRx 0
 have r1 := bC hRx 1
 have r2 := bC hRx 2
 have s0 := bF hRx 0
 have s1 := bF hRx 1
 have s2 := bF hRx 2
 have hrl := lt_of_block hRx
 have m0 := bC hMx 0
 have m1 := bC hMx 1
 have m2 := bC hMx 2
 have hml := lt_of_block hMx
 have HMX := Hd hMx
 clear hRx hMx hRT
 by_cases h0 : rf = 0
 ·subst h0
  rw [if_neg (by simp)] at hz2
  obtain ⟨hf0,hn0⟩ := Aox HRF.out
  obtain ⟨k,hk,rfl,-⟩ := Ajl hf0
  obtain ⟨n1,rfl⟩ : ∃ n1 : Nat,n = (n1 : Int) := ⟨n.toNat,by omega⟩
  have hk0 : (0 : Int) ≤ (k : Int) := by omega
  have hk1 : (k : Int) < (L.length : Int) := by omega
  rw [Aad L k hk,Int.toNat_natCast,Int.toNat_natCast] at hz2
  clear hf0 hn0
  by_cases h1 : (65536 : Int) < (n1 : Int)
  ·rw [if_pos h1] at hz2
   simp only [Prod.mk.injEq] at hz2
   obtain ⟨rfl,rfl⟩ := hz2
   go_wp2_with fail
   change bodyPost _ _ _ _ _ (put3 w5 (w.heap.size + 1) (.slice (some ⟨g,0,none⟩) L.length cap') (.int .i64 m) (.int .i64 b))
   obtain ⟨c0,c1,c2⟩ := Aau HRX.out (.slice (some ⟨g,0,none⟩) L.length cap') (.int .i64 m) (.int .i64 b)
   exact bodyPost_ret (v := .tuple #[.agg #[.slice (some ⟨g,0,none⟩) L.length cap',.int .i64 m,.int .i64 b],.int .i64 27]) (by simp [results,Tryz.results124,go_sem,c0,c1,c2]) rfl ⟨⟨_,_,_,rfl,(HRT.out.low fun k hk => Abq (by omega) _ _ _).lower (by omega)⟩,Aa8 (HEND.out _ HB5.out) (by omega) _ _ _⟩
  ·rw [if_neg h1] at hz2
   unfold Aft at hz2
   rw [Aad L k hk,Ah8] at hz2
   by_cases h2 : b < (Aax L : Int) - (L[k].data.length : Int) + (n1 : Int)
   ·rw [if_pos h2] at hz2
    simp only [Prod.mk.injEq] at hz2
    obtain ⟨rfl,rfl⟩ := hz2
    have HNO := Hd (fun W hW => Avi a cap m b k n1 (by omega) L HF.out hk h2 W hW)
    clear h2
    go_wp2_with fail
    refine (HNO.out _ (HM4.out _ HB5.out)).mono ?_
    rintro e w7 ⟨rfl,hb7⟩
    have HB7 := Hd (HB5.out.trans (hb7.mono HB5.out.size))
    clear hb7
    clear HRX HRT HMX r0 r1 r2 s0 s1 s2 hrl q0 q1 q2 hq m0 m1 m2 hml
    obtain ⟨hRx,q0,q1,q2,hMx,hRT⟩ := HX4.out _ HB7.out
    have HRX := Hd hRx
    have HRT := Hd hRT
    have hq := Aaj q0
    have r0 := bC hRx 0
    have r1 := bC hRx 1
    have r2 := bC hRx 2
    have s0 := bF hRx 0
    have s1 := bF hRx 1
    have s2 := bF hRx 2
    have hrl := lt_of_block hRx
    have m0 := bC hMx 0
    have m1 := bC hMx 1
    have m2 := bC hMx 2
    have hml := lt_of_block hMx
    have HMX := Hd hMx
    clear hRx hMx hRT
    go_wp2_with fail
    change bodyPost _ _ _ _ _ (put3 w7 (w.heap.size + 1) (.slice (some ⟨g,0,none⟩) L.length cap') (.int .i64 m) (.int .i64 b))
    obtain ⟨c0,c1,c2⟩ := Aau HRX.out (.slice (some ⟨g,0,none⟩) L.length cap') (.int .i64 m) (.int .i64 b)
    exact bodyPost_ret (v := .tuple #[.agg #[.slice (some ⟨g,0,none⟩) L.length cap',.int .i64 m,.int .i64 b],.int .i64 28]) (by simp [results,Tryz.results124,go_sem,c0,c1,c2]) rfl ⟨⟨_,_,_,rfl,(HRT.out.low fun k hk => Abq (by omega) _ _ _).lower (by omega)⟩,Aa8 (HEND.out _ HB7.out) (by omega) _ _ _⟩
   ·rw [if_neg h2] at hz2
    simp only [Prod.mk.injEq] at hz2
    obtain ⟨hL',rfl⟩ := hz2
    obtain ⟨d,hd⟩ : ∃ d,d = cutL L[k].data n1 := ⟨_,rfl⟩
    have hdl : d.length = n1 := by rw [hd,Ah8]
    have HYES := Hd (fun W hW => Api a cap m b k n1 (by omega) L HF.out hk h2 W hW)
    rw [← hd] at hL' HYES
    have HDL := Hd hL'
    clear h2 hL' hd
    go_wp2_with fail
    refine (HYES.out _ (HM4.out _ HB5.out)).mono ?_
    rintro e w7 ⟨B,rfl,hB7,hBl,hb7⟩
    have HB7 := Hd (HB5.out.trans (hb7.mono HB5.out.size))
    have hcv := Aue w7 B n1 d 5 hB7
    rw [hdl] at hcv
    clear hb7 hB7 hdl
    clear HRX HRT HMX r0 r1 r2 s0 s1 s2 hrl q0 q1 q2 hq m0 m1 m2 hml
    obtain ⟨hRx,q0,q1,q2,hMx,hRT⟩ := HX4.out _ HB7.out
    have HRX := Hd hRx
    have HRT := Hd hRT
    have hq := Aaj q0
    have r0 := bC hRx 0
    have r1 := bC hRx 1
    have r2 := bC hRx 2
    have s0 := bF hRx 0
    have s1 := bF hRx 1
    have s2 := bF hRx 2
    have hrl := lt_of_block hRx
    have m0 := bC hMx 0
    have m1 := bC hMx 1
    have m2 := bC hMx 2
    have hml := lt_of_block hMx
    have HMX := Hd hMx
    clear hRx hMx hRT
    obtain ⟨⟨d3,n3⟩,f3⟩ := HRT.out.refT.cells hk 3 (by omega)
    have hgl5 := HRT.out.nodes.lt
    obtain ⟨w6,hw6⟩ : ∃ p,p = w7.setCell ⟨g,k * 6 + 3,none⟩ (.string ⟨d.toArray⟩) := ⟨_,rfl⟩
    have hR6 : OwnT w6 (w.heap.size + 2) g cap' L' vs := by
     have h := HRT.out.setData hk d
     rw [HDL.out,← hw6] at h
     exact h
    have hne : ∀ j,j ≠ g → w6.heap[j]? = w7.heap[j]? := fun j hj => by rw [hw6]; exact Below.heap_setCell _ _ _ _ hj
    have hB6 : Below w.heap.size w w6 := by rw [hw6]; exact (HEND.out _ HB7.out).setCell (show w.heap.size ≤ g by omega) _
    have hR6x := (hne (w.heap.size + 1) (by omega)).trans HRX.out
    have HR6 := Hd hR6
    have HB6 := Hd hB6
    have HW6 := Hd hw6
    have HLE := Hd (show L'.length = L.length by rw [← HDL.out,Agg])
    clear hR6 hB6 hw6 hne
    go_wp2_with fail
    rw [← HW6.out]
    clear HRX
    have HRX := Hd hR6x
    clear hR6x
    change bodyPost _ _ _ _ _ (put3 w6 (w.heap.size + 1) (.slice (some ⟨g,0,none⟩) L.length cap') (.int .i64 m) (.int .i64 b))
    obtain ⟨c0,c1,c2⟩ := Aau HRX.out (.slice (some ⟨g,0,none⟩) L.length cap') (.int .i64 m) (.int .i64 b)
    exact bodyPost_ret (v := .tuple #[.agg #[.slice (some ⟨g,0,none⟩) L'.length cap',.int .i64 m,.int .i64 b],.int .i64 0]) (by simp [results,Tryz.results124,go_sem,c0,c1,c2,HLE.out]) rfl ⟨⟨_,_,_,rfl,(HR6.out.low fun k hk => Abq (by omega) _ _ _).lower (by omega)⟩,Aa8 HB6.out (by omega) _ _ _⟩
 ·rw [if_pos h0] at hz2
  have h0b : (rf != 0) = true := by simpa using h0
  simp only [Prod.mk.injEq] at hz2
  obtain ⟨rfl,rfl⟩ := hz2
  go_wp2_with fail
  change bodyPost _ _ _ _ _ (put3 w5 (w.heap.size + 1) (.slice (some ⟨g,0,none⟩) L.length cap') (.int .i64 m) (.int .i64 b))
  obtain ⟨c0,c1,c2⟩ := Aau HRX.out (.slice (some ⟨g,0,none⟩) L.length cap') (.int .i64 m) (.int .i64 b)
  exact bodyPost_ret (v := .tuple #[.agg #[.slice (some ⟨g,0,none⟩) L.length cap',.int .i64 m,.int .i64 b],.int .i64 rf]) (by simp [results,Tryz.results124,go_sem,c0,c1,c2]) rfl ⟨⟨_,_,_,rfl,(HRT.out.low fun k hk => Abq (by omega) _ _ _).lower (by omega)⟩,Aa8 (HEND.out _ HB5.out) (by omega) _ _ _⟩
theorem Azh (p : Pip) (hF : Abw p = true) (S : ByteArray) (hS : S.size ≤ 281474976710656) (q : Pip) (k er : Int) (hz : Abu p S.data.toList = (q,k,er)) (w : World) :
  Calls Tryz.prog 135 #[.agg #[.string ⟨p.data.toArray⟩,.int .i64 p.rd,.int .i64 p.wr,.int .i64 p.cap],.string S] w fun e w' => e = .returned (.tuple #[.agg #[.string ⟨q.data.toArray⟩,.int .i64 q.rd,.int .i64 q.wr,.int .i64 q.cap],.int .i64 k,.int .i64 er]) ∧ Below w.heap.size w w' := by
 obtain ⟨g1,g2,g3,g4,g5,g6,g7⟩ := Adu.1 hF
 obtain ⟨D,hD⟩ : ∃ D : ByteArray,D = ⟨p.data.toArray⟩ := ⟨_,rfl⟩
 obtain ⟨hDl,hDs⟩ := Af2 hD
 have hSs : S.data.toList.length = S.size := Array.length_toList
 have HD := Hd hD
 rw [← hD]
 clear hD hF
 have HEND := Hd (Ai4 w)
 unfold Abu at hz
 by_cases h1 : p.rd = 0
 ·rw [if_pos h1] at hz
  simp only [Prod.mk.injEq] at hz
  obtain ⟨rfl,rfl,rfl⟩ := hz
  have hd1 : decide (p.rd < 1) = true := decide_eq_true (by omega)
  rw [← HD.out]
  clear hDl hDs g1 g2 h1
  go_enter Tryz.func135,Tryz.ntmps135
  go_wp2_with fail
  exact bodyPost_ret (v := (.tuple #[.agg #[.string D,.int .i64 p.rd,.int .i64 p.wr,.int .i64 p.cap],.int .i64 0,.int .i64 32])) (by simp [results,Tryz.results135,go_sem]) rfl ⟨rfl,HEND.out _ _⟩
 have hd1 : decide (p.rd < 1) = false := decide_eq_false (by omega)
 rw [if_neg h1] at hz
 by_cases he : S.data.toList = []
 ·rw [if_pos he] at hz
  simp only [Prod.mk.injEq] at hz
  obtain ⟨rfl,rfl,rfl⟩ := hz
  have hS0 := Ap0 he
  subst hS0
  rw [← HD.out]
  clear hDl hDs g1 g2 h1 he hS hSs
  go_enter Tryz.func135,Tryz.ntmps135
  go_wp2_with fail
  exact bodyPost_ret (v := (.tuple #[.agg #[.string D,.int .i64 p.rd,.int .i64 p.wr,.int .i64 p.cap],.int .i64 0,.int .i64 0])) (by simp [results,Tryz.results135,go_sem]) rfl ⟨rfl,HEND.out _ _⟩
 rw [if_neg he] at hz
 obtain ⟨hpl,hpe⟩ := Att he
 have hwr : IntKind.i64.wrap (p.cap - (D.size : Int)) = p.cap - (D.size : Int) := by rw [IntKind.wrap_i64]; omega
 by_cases h2 : p.cap - (p.data.length : Int) = 0
 ·rw [if_pos h2] at hz
  simp only [Prod.mk.injEq] at hz
  obtain ⟨rfl,rfl,rfl⟩ := hz
  have hd2 : decide (p.cap ≤ (D.size : Int)) = true := decide_eq_true (by omega)
  have hd3 : (p.cap - (D.size : Int) == 0) = true := by rw [hDs]; simpa using h2
  rw [← HD.out]
  clear hDl hDs g1 g2 g3 g4 g5 g6 g7 h1 h2 he hS hSs
  go_enter Tryz.func135,Tryz.ntmps135
  go_wp2_with fail
  exact bodyPost_ret (v := (.tuple #[.agg #[.string D,.int .i64 p.rd,.int .i64 p.wr,.int .i64 p.cap],.int .i64 0,.int .i64 11])) (by simp [results,Tryz.results135,go_sem]) rfl ⟨rfl,HEND.out _ _⟩
 ·rw [if_neg h2] at hz
  simp only [Prod.mk.injEq] at hz
  obtain ⟨rfl,rfl,rfl⟩ := hz
  have hd2 : decide (p.cap ≤ (D.size : Int)) = false := decide_eq_false (by omega)
  have hd3 : (p.cap - (D.size : Int) == 0) = false := by rw [hDs]; simpa using h2
  obtain ⟨K,hK⟩ : ∃ K : Nat,(K : Int) = min (S.size : Int) (p.cap - (D.size : Int)) := ⟨(min (S.size : Int) (p.cap - (D.size : Int))).toNat,by omega⟩
  have hKS : K ≤ S.size := by omega
  obtain ⟨E,hE⟩ : ∃ E : ByteArray,E = ⟨(S.data.toList.take K).toArray⟩ := ⟨_,rfl⟩
  have c2 := fun W => Akq S (min (S.size : Int) (p.cap - (D.size : Int))) K hK.symm hKS W
  rw [← hE] at c2
  obtain ⟨hEl,hEs⟩ : E.data.toList = S.data.toList.take K ∧ E.size = K := by
   have e : E.data.toList = S.data.toList.take K := by rw [hE]
   have e2 : E.data.toList.length = E.size := Array.length_toList
   exact ⟨e,by rw [← e2,e,List.length_take]; omega⟩
  have hsum : ¬ 9223372036854775807 < D.size + E.size := by omega
  have hfin : D ++ E = ⟨(p.data ++ S.data.toList.take (p.cap - (p.data.length : Int)).toNat).toArray⟩ := by
   apply ByteArray.ext
   apply Array.ext'
   have e1 : (D ++ E).data.toList = D.data.toList ++ E.data.toList := by simp
   have e2 : S.data.toList.take K = S.data.toList.take (p.cap - (p.data.length : Int)).toNat := by
    rw [List.take_eq_take_iff]
    omega
   rw [e1,hDl,hEl,e2]
  have hk2 : min (S.size : Int) (p.cap - (D.size : Int)) = min (p.cap - (p.data.length : Int)) (S.data.toList.length : Int) := by (rw [hSs,hDs]) <;> omega
  have HF := Hd (And.intro hfin hk2)
  clear hDl hDs g1 g2 g3 g4 g5 g6 g7 h1 h2 he hS hSs hK hKS hE hEl hEs hfin hk2
  go_enter Tryz.func135,Tryz.ntmps135
  go_wp2_with fail
  go_region
  go_wp2_with fail
  exact bodyPost_ret (v := (.tuple #[.agg #[.string (D ++ E),.int .i64 p.rd,.int .i64 p.wr,.int .i64 p.cap],.int .i64 (min (S.size : Int) (p.cap - (D.size : Int))),.int .i64 0])) (by simp [results,Tryz.results135,go_sem]) rfl ⟨by rw [HF.out.1,HF.out.2],(HEND.out _ _).drew⟩
end Go.Proofs.YtkdfbliiblojoaaGreatDoor
