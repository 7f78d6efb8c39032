import Derived.Test.YtkdfbliiblojoaaGreatDoorK33
set_option linter.all false
set_option maxRecDepth 100000
set_option maxHeartbeats 64000000
namespace Go.Proofs.YtkdfbliiblojoaaGreatDoor
open Go Go.RowKit
structure Under (g : Nat) (vs : List Value) (n : Nat) : Prop where
 g : g < n
 own : ∀ i (hi : i < vs.length) k,vs[i].ownBlock = some k → k < n
theorem OwnT.under {W : World} {base g cap : Nat} {L : List Ino} {vs : List Value} (h : OwnT W base g cap L vs) : Under g vs W.heap.size :=
 ⟨h.nodes.lt,fun i hi k hk => ((h.kids i (by rw [← h.nodes.len]; exact hi) hi).lt k hk).2⟩
theorem Axe {W w5 : World} {base g cap : Nat} {L : List Ino} {vs : List Value} (hO : OwnT W base g cap L vs) (hbase : base ≤ W.heap.size) {d : Nat} (hd : d < L.length) (hv : d < vs.length) {v : Value} {M : List (List UInt8 × Int)} (hk : Aba w5 W.heap.size v M) (hb : Below W.heap.size W w5) :
  OwnT (w5.setCell ⟨g,d * 6 + 4,none⟩ v) base g cap (L.set d { L[d] with kids := M }) (vs.set d v) ∧ Below base W (w5.setCell ⟨g,d * 6 + 4,none⟩ v) ∧ ∀ j,j < W.heap.size → j ≠ g → (w5.setCell ⟨g,d * 6 + 4,none⟩ v).heap[j]? = W.heap[j]? :=
 ⟨hO.setKids hd hv (W' := w5) ⟨hb.os,hb.tape,hb.output,hb.size,fun k hk _ => hb.block k hk⟩ (hk.lower hbase) (fun k hk' => Or.inr (hk.lt k hk').1),(hb.mono hbase).setCell (show base ≤ g from hO.hbase) _,fun j hj hjg => (Below.heap_setCell _ _ _ _ hjg).trans (hb.block j hj)⟩
theorem Aus (base g cap d k : Nat) (m b : Int) (s : List UInt8) (slash : Bool) (L : List Ino) (vs : List Value) (hd : d < L.length) (hk : k < L.length) (hdk : d ≠ k) (hR : Afy L[d].kids) (hl : L[d].kids.length ≤ 1024) (hn : ∀ e ∈ L[d].kids,e.1 ≠ s)
  (hlk0 : 0 ≤ L[k].links) (hlk : L[k].links ≤ 4611686018427387904) (w : World) (hbs : base ≤ w.heap.size) (hO : OwnT w base g cap L vs) :
  Calls Tryz.prog 184 #[.agg #[.int .i64 d,.string ⟨s.toArray⟩,.bool slash],.agg #[.slice (some ⟨g,0,none⟩) L.length cap,.int .i64 m,.int .i64 b],.int .i64 k] w fun e w' => e = .returned (.tuple #[]) ∧ (∃ vs',OwnT w' base g cap ((L.set d (Aee L[d] (Abs L[d].kids s k))).set k { L[k] with links := L[k].links + 1 }) vs') ∧ Below base w w' ∧ ∀ n,Under g vs n → ∀ j,n ≤ j → j < w.heap.size → w'.heap[j]? = w.heap[j]? := by
 have HO := Hd hO
 have HU := Hd hO.under
 have HR := Hd hR
 have HN := Hd hn
 clear hO hR hn
 have hd0 : (0 : Int) ≤ (d : Int) := by omega
 have hdl : (d : Int) < (L.length : Int) := by omega
 have hk0 : (0 : Int) ≤ (k : Int) := by omega
 have hkl : (k : Int) < (L.length : Int) := by omega
 have hdv : d < vs.length := by rw [HO.out.nodes.len]; exact hd
 have hgl := HO.out.nodes.lt
 obtain ⟨ka,kc,hkv⟩ := (HO.out.kids d hd hdv).form
 have HKV := Hd hkv
 clear hkv
 go_enter Tryz.func184,Tryz.ntmps184
 go_wp2_with fail
 obtain ⟨w2,hw2,hb2,hs2,hA,hB⟩ := Aam w #[.int .i64 d,.string ⟨s.toArray⟩,.bool slash] #[.slice (some ⟨g,0,none⟩) L.length cap,.int .i64 m,.int .i64 b] 203 24
 rw [← hw2]
 have HB2 := Hd hb2
 have HA := Hd hA
 have HBB := Hd hB
 have HO2 := Hd (HO.out.below hb2)
 clear hw2 hb2 hA hB
 have y4 : w2.cell? ⟨g,d * 6 + 4,none⟩ = some (.slice ka L[d].kids.length kc) := by
  have := (HO2.out.nodes.node d hd hdv).kids
  rw [HKV.out] at this
  exact this
 have y1 : w2.cell? ⟨w.heap.size,1,none⟩ = some (.string ⟨s.toArray⟩) := bC HA.out 1
 have hg2 : g < w2.heap.size := Aaj y4
 have ha2 : w.heap.size < w2.heap.size := Aaj y1
 have HI := Hd (Asx L[d].kids s k (by omega) hl HR.out HN.out (.slice ka L[d].kids.length kc) w2.drew (by
  have := (HO2.out.kids d hd hdv).kidsIn
  rw [HKV.out] at this
  exact this))
 have HST := Hd (show ∀ w5,Below w2.heap.size w2 w5 → w5.cell? ⟨g,d * 6 + 4,none⟩ = some (.slice ka L[d].kids.length kc) ∧ w5.frozen? ⟨g,d * 6 + 4,none⟩ = false from fun w5 h5 => by
  have hN5 := HO2.out.nodes.same (h5.block g HO2.out.nodes.lt)
  have h1 := (hN5.node d hd hdv).kids
  rw [HKV.out] at h1
  exact ⟨h1,hN5.free _⟩)
 have HQ := Hd (show ∀ w5 v,Aba w5 w2.heap.size v (Abs L[d].kids s k) → Below w2.heap.size w2 w5 →
   (w5.setCell ⟨g,d * 6 + 4,none⟩ v).cell? ⟨w.heap.size + 1,0,none⟩ = some (.slice (some ⟨g,0,none⟩) L.length cap) ∧ (w5.setCell ⟨g,d * 6 + 4,none⟩ v).cell? ⟨g,k * 6 + 2,none⟩ = some (.int .i64 L[k].links) ∧ (w5.setCell ⟨g,d * 6 + 4,none⟩ v).frozen? ⟨g,k * 6 + 2,none⟩ = false ∧
   (∃ vs',OwnT ((w5.setCell ⟨g,d * 6 + 4,none⟩ v).setCell ⟨g,k * 6 + 2,none⟩ (.int .i64 (L[k].links + 1))) base g cap ((L.set d (Aee L[d] (Abs L[d].kids s k))).set k { L[k] with links := L[k].links + 1 }) vs') ∧ Below base w ((w5.setCell ⟨g,d * 6 + 4,none⟩ v).setCell ⟨g,k * 6 + 2,none⟩ (.int .i64 (L[k].links + 1))) ∧ ∀ n,Under g vs n → ∀ j,n ≤ j → j < w.heap.size → ((w5.setCell ⟨g,d * 6 + 4,none⟩ v).setCell ⟨g,k * 6 + 2,none⟩ (.int .i64 (L[k].links + 1))).heap[j]? = w.heap[j]? from fun w5 v h1 h2 => by
  obtain ⟨hO6,hB6,hK6⟩ := Axe HO2.out (by omega) hd hdv h1 h2
  have hkL : k < (L.set d { L[d] with kids := Abs L[d].kids s (k : Int) }).length := by rw [List.length_set]; exact hk
  have hkv : k < (vs.set d v).length := by rw [List.length_set,HO.out.nodes.len]; exact hk
  have hn6 := hO6.nodes.node k hkL hkv
  have hO7 := hO6.setLinks hkL (L[k].links + 1)
  have hdk' : (L.set d { L[d] with kids := Abs L[d].kids s (k : Int) })[k]'hkL = L[k] := List.getElem_set_ne hdk _
  have h5 := (hK6 (w.heap.size + 1) (by omega) (by omega)).trans HBB.out
  refine ⟨bC h5 0,?_,hO6.nodes.free _,⟨vs.set d v,?_⟩,?_,fun n hn j hnj hj => ?_⟩
  ·have := hn6.links
   rw [hdk'] at this
   exact this
  ·rw [hdk'] at hO7
   exact hO7
  ·exact ((HB2.out.mono hbs).trans hB6).setCell (show base ≤ g from HO.out.hbase) _
  ·have hjg : j ≠ g := by have := hn.g; omega
   rw [Below.heap_setCell _ _ _ _ hjg,hK6 j (by omega) hjg]
   exact HB2.out.block j hj)
 go_region_with (first | (go_at_call 195; refine HI.out.mono ?_; rintro e w5 ⟨v',rfl,hk5,hb5⟩; obtain ⟨va,vc,rfl⟩ := hk5.form; have HB5 : Hid (Below w2.heap.size w2 w5) := Hd ⟨hb5.os,hb5.tape,hb5.output,hb5.size,hb5.block⟩; have HK5 : Hid (Aba w5 w2.heap.size (.slice va (Abs L[d].kids s k).length vc) (Abs L[d].kids s k)) := Hd hk5; obtain ⟨z4,zf⟩ := HST.out w5 HB5.out; clear hk5 hb5))
 all_goals
  obtain ⟨u1,u2,u3,hfin⟩ := HQ.out w5 _ HK5.out HB5.out
  have HFIN := Hd hfin
  have hgu : g < (w5.setCell ⟨g,d * 6 + 4,none⟩ (.slice va (Abs L[d].kids s k).length vc)).heap.size := Aaj u2
  clear hfin z4 zf
  generalize w5.setCell ⟨g,d * 6 + 4,none⟩ (.slice va (Abs L[d].kids s k).length vc) = w6 at *
  go_wp2_with fail
  go_end0
  exact ⟨rfl,HFIN.out⟩
end Go.Proofs.YtkdfbliiblojoaaGreatDoor
