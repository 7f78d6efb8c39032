import Derived.Test.YtkdfbliiblojoaaGreatDoorK15
set_option linter.all false
set_option maxRecDepth 100000
set_option maxHeartbeats 64000000
namespace Go.Proofs.YtkdfbliiblojoaaGreatDoor
open Go Go.RowKit
theorem RowStep.of_drew {w w' : World} {a a' : Option Addr} (h : RowStep w.drew a a' w') : RowStep w a a' w' := ⟨h.os,h.tape,h.output,h.size,h.block,h.near⟩
section
variable {B g : Nat} {A : KAd} {K : Krn} {f : List Int}
def Ay3 (B g : Nat) (A : KAd) (K : Krn) (f : List Int) (x : Opn) (w : World) (e : Ending) (w' : World) : Prop :=
 e = .returned (.tuple #[.int .i64 ((Abv K x).2.1 : Int),.int .i64 (Abv K x).2.2]) ∧ ∃ A',Wk w' B g A' { K with opens := (Abv K x).1 } f ∧ Stepw g A w A' w'
theorem Afa (kd at_ off fl rf : Int) (w : World) (hW : Wk w B g A K f) (hol : K.opens.length ≤ 1000) (hBw : B ≤ w.heap.size) :
  Calls Tryz.prog 83 #[.pointer (some ⟨g,0,none⟩),.agg #[.int .i64 kd,.int .i64 at_,.int .i64 off,.int .i64 fl,.int .i64 rf]] w (Ay3 B g A K f ⟨kd,at_,off,fl,rf⟩ w) := by
 obtain ⟨w2,hw2,hb2,hs2,hX,hY⟩ := Aam w #[.pointer (some ⟨g,0,none⟩)] #[.int .i64 kd,.int .i64 at_,.int .i64 off,.int .i64 fl,.int .i64 rf] 74 70
 have HW2 := Hd (hW.below hb2)
 have HST := Hd (Stepw.of_below (g := g) (A := A) hb2)
 have HBW := Hd (Nat.le_trans hBw hb2.size)
 have p0 := bC hX 0
 have y0 := bC hY 0
 have y1 := bC hY 1
 have y2 := bC hY 2
 have y3 := bC hY 3
 have y4 := bC hY 4
 have xl := lt_of_block hX
 have yl := lt_of_block hY
 have q4 := HW2.out.kcells.2.2.2.2.1
 have fq := HW2.out.free 4
 have gl := HW2.out.lt
 have HC := Hd (fun W (hb : Below w2.heap.size w2 W) => Bas w.heap.size kd at_ off fl rf W (HW2.out.below hb) hol (Aaa hb (bC hX 0)) (Nat.le_trans HBW.out hb.size))
 have hwg : w.heap.size ≠ g := fun e => by have := hW.lt; omega
 have HPS := Hd (show ∀ (W : World) (u : Value),(W.setCell ⟨g,4,none⟩ u).cell? ⟨w.heap.size,0,none⟩ = W.cell? ⟨w.heap.size,0,none⟩ from fun W u => World.cell?_of_block (a := ⟨w.heap.size,0,none⟩) (Below.heap_setCell _ _ _ _ hwg))
 have HN3 := Hd (show ∀ k,Own3 g A k → k ≠ w.heap.size from fun k h3 e => by have := (hW.own3 h3).2; omega)
 clear hW hX hY hb2 hBw
 go_enter Tryz.func83,Tryz.ntmps83
 go_upto_region 3 with fail
 rw [← hw2]
 clear hw2
 refine wp_region_held_drew (S := (fun W => W.cell? ⟨w.heap.size,0,none⟩ = some (.pointer (some ⟨g,0,none⟩)))) (by kernel_rfl) p0 (fun hHeld => ?_)
 refine wpAnyH_take (i := 0) (v := ?_) rfl (by kernel_rfl) (by kernel_rfl) (by kernel_rfl) (fun _ _ _ h => h) (Or.inl ⟨by rfl,?hy0⟩) hHeld ?rest0
 case hy0 => intro W' hSw; (try dsimp only at hSw); go_simp <;> with_reducible rfl
 try simp only [Act.put,List.setIfInBounds_toArray,List.set_cons_zero,List.set_cons_succ]
 refine wpAnyH_take (i := 1) (v := ?_) rfl (by kernel_rfl) (by kernel_rfl) (by kernel_rfl) (fun _ _ _ h => h) (Or.inl ⟨by rfl,?hy1⟩) hHeld ?rest1
 case hy1 => intro W' hSw; (try dsimp only at hSw); go_simp <;> with_reducible rfl
 try simp only [Act.put,List.setIfInBounds_toArray,List.set_cons_zero,List.set_cons_succ]
 refine wpAnyH_take (i := 2) (v := ?_) rfl (by kernel_rfl) (by kernel_rfl) (by kernel_rfl) (fun _ _ _ h => h) (Or.inl ⟨by rfl,?hy2⟩) hHeld ?rest2
 case hy2 => intro W' hSw; (try dsimp only at hSw); go_simp <;> with_reducible rfl
 try simp only [Act.put,List.setIfInBounds_toArray,List.set_cons_zero,List.set_cons_succ]
 refine wpAnyH_take (i := 3) (v := ?_) rfl (by kernel_rfl) (by kernel_rfl) (by kernel_rfl) (fun _ _ _ h => h) (Or.inl ⟨by rfl,?hy3⟩) hHeld ?rest3
 case hy3 => intro W' hSw; (try dsimp only at hSw); go_simp <;> with_reducible rfl
 try simp only [Act.put,List.setIfInBounds_toArray,List.set_cons_zero,List.set_cons_succ]
 refine wpAnyH_take (i := 4) (v := ?_) rfl (by kernel_rfl) (by kernel_rfl) (by kernel_rfl) (fun _ _ _ h => h) (Or.inl ⟨by rfl,?hy4⟩) hHeld ?rest4
 case hy4 => intro W' hSw; (try dsimp only at hSw); go_simp <;> with_reducible rfl
 try simp only [Act.put,List.setIfInBounds_toArray,List.set_cons_zero,List.set_cons_succ]
 refine wpAnyH_ready (rs := [5,6,7]) (by kernel_rfl) (by simp) ?_
 refine AllReadyH.cons rfl (fun K' hK => ?o_5) (AllReadyH.cons rfl (fun K' hK => ?o_6) (AllReadyH.cons rfl (fun K' hK => ?o_7) AllReadyH.nil))
 case' o_5 =>
  go_simp
  refine hK.out _ _ p0 (fun hHeld => ?_)
  clear hK K'
  try simp only [Act.put,List.setIfInBounds_toArray,List.set_cons_zero,List.set_cons_succ]
  refine wpAnyH_ready (rs := [6,7]) (by kernel_rfl) (by simp) ?_
  refine AllReadyH.cons rfl (fun K' hK => ?o5_6) (AllReadyH.cons rfl (fun K' hK => ?o5_7) AllReadyH.nil)
  case' o5_6 =>
   go_simp
   refine hK.out _ _ p0 (fun hHeld => ?_)
   clear hK K'
   try simp only [Act.put,List.setIfInBounds_toArray,List.set_cons_zero,List.set_cons_succ]
   refine wpAnyH_ready (rs := [7]) (by kernel_rfl) (by simp) ?_
   refine AllReadyH.cons rfl (fun K' hK => ?_) AllReadyH.nil
   go_simp
   refine hK.out _ _ p0 (fun hHeld => ?_)
   clear hK K'
   try simp only [Act.put,List.setIfInBounds_toArray,List.set_cons_zero,List.set_cons_succ]
  case' o5_7 =>
   go_simp
   refine hK.out _ _ p0 (fun hHeld => ?_)
   clear hK K'
   try simp only [Act.put,List.setIfInBounds_toArray,List.set_cons_zero,List.set_cons_succ]
   refine wpAnyH_ready (rs := [6]) (by kernel_rfl) (by simp) ?_
   refine AllReadyH.cons rfl (fun K' hK => ?_) AllReadyH.nil
   go_simp
   refine hK.out _ _ p0 (fun hHeld => ?_)
   clear hK K'
   try simp only [Act.put,List.setIfInBounds_toArray,List.set_cons_zero,List.set_cons_succ]
 case' o_6 =>
  go_simp
  refine hK.out _ _ p0 (fun hHeld => ?_)
  clear hK K'
  try simp only [Act.put,List.setIfInBounds_toArray,List.set_cons_zero,List.set_cons_succ]
  refine wpAnyH_ready (rs := [5,7]) (by kernel_rfl) (by simp) ?_
  refine AllReadyH.cons rfl (fun K' hK => ?o6_5) (AllReadyH.cons rfl (fun K' hK => ?o6_7) AllReadyH.nil)
  case' o6_5 =>
   go_simp
   refine hK.out _ _ p0 (fun hHeld => ?_)
   clear hK K'
   try simp only [Act.put,List.setIfInBounds_toArray,List.set_cons_zero,List.set_cons_succ]
   refine wpAnyH_ready (rs := [7]) (by kernel_rfl) (by simp) ?_
   refine AllReadyH.cons rfl (fun K' hK => ?_) AllReadyH.nil
   go_simp
   refine hK.out _ _ p0 (fun hHeld => ?_)
   clear hK K'
   try simp only [Act.put,List.setIfInBounds_toArray,List.set_cons_zero,List.set_cons_succ]
  case' o6_7 =>
   go_simp
   refine hK.out _ _ p0 (fun hHeld => ?_)
   clear hK K'
   try simp only [Act.put,List.setIfInBounds_toArray,List.set_cons_zero,List.set_cons_succ]
   refine wpAnyH_ready (rs := [5]) (by kernel_rfl) (by simp) ?_
   refine AllReadyH.cons rfl (fun K' hK => ?_) AllReadyH.nil
   go_simp
   refine hK.out _ _ p0 (fun hHeld => ?_)
   clear hK K'
   try simp only [Act.put,List.setIfInBounds_toArray,List.set_cons_zero,List.set_cons_succ]
 case' o_7 =>
  go_simp
  refine hK.out _ _ p0 (fun hHeld => ?_)
  clear hK K'
  try simp only [Act.put,List.setIfInBounds_toArray,List.set_cons_zero,List.set_cons_succ]
  refine wpAnyH_ready (rs := [5,6]) (by kernel_rfl) (by simp) ?_
  refine AllReadyH.cons rfl (fun K' hK => ?o7_5) (AllReadyH.cons rfl (fun K' hK => ?o7_6) AllReadyH.nil)
  case' o7_5 =>
   go_simp
   refine hK.out _ _ p0 (fun hHeld => ?_)
   clear hK K'
   try simp only [Act.put,List.setIfInBounds_toArray,List.set_cons_zero,List.set_cons_succ]
   refine wpAnyH_ready (rs := [6]) (by kernel_rfl) (by simp) ?_
   refine AllReadyH.cons rfl (fun K' hK => ?_) AllReadyH.nil
   go_simp
   refine hK.out _ _ p0 (fun hHeld => ?_)
   clear hK K'
   try simp only [Act.put,List.setIfInBounds_toArray,List.set_cons_zero,List.set_cons_succ]
  case' o7_6 =>
   go_simp
   refine hK.out _ _ p0 (fun hHeld => ?_)
   clear hK K'
   try simp only [Act.put,List.setIfInBounds_toArray,List.set_cons_zero,List.set_cons_succ]
   refine wpAnyH_ready (rs := [5]) (by kernel_rfl) (by simp) ?_
   refine AllReadyH.cons rfl (fun K' hK => ?_) AllReadyH.nil
   go_simp
   refine hK.out _ _ p0 (fun hHeld => ?_)
   clear hK K'
   try simp only [Act.put,List.setIfInBounds_toArray,List.set_cons_zero,List.set_cons_succ]
 all_goals
  refine wpAnyH_ready (rs := [8]) (by kernel_rfl) (by simp) ?_
  refine AllReadyH.cons rfl (fun K' hK => ?_) AllReadyH.nil
  go_simp
  refine (HC.out _ (Aac (Below.refl _ _))).mono ?_; rintro e wn ⟨a',c',rfl,hr,hs⟩; have HR := Hd hr; have HS := Hd hs.of_drew; have hgn := (hs.of_drew.block g HW2.out.lt (fun x hx => HW2.out.go x hx)).trans HW2.out.box; have q4 := bC hgn 4; have fq := bF hgn 4; have gl := lt_of_block hgn; have p0 : wn.cell? ⟨w.heap.size,0,none⟩ = some (.pointer (some ⟨g,0,none⟩)) := (World.cell?_of_block (a := ⟨w.heap.size,0,none⟩) (hs.of_drew.block w.heap.size xl (fun x hx e => HN3.out _ (.inr (.inr ⟨x,hx,e⟩)) rfl))).trans p0; clear hgn hr hs
  refine hK.out _ _ p0 (fun hHeld => ?_)
  clear hK K'
  try simp only [Act.put,List.setIfInBounds_toArray,List.set_cons_zero,List.set_cons_succ]
  refine wpAnyH_take (i := 9) (v := ?_) rfl (by kernel_rfl) (by kernel_rfl) (by kernel_rfl) (fun _ _ _ h => h) (Or.inl ⟨by rfl,?_⟩) hHeld ?_
  rotate_left
  ·intro W' hSw; (try dsimp only at hSw); go_simp <;> with_reducible rfl
  try simp only [Act.put,List.setIfInBounds_toArray,List.set_cons_zero,List.set_cons_succ]
  refine wpAnyH_take (i := 10) (v := ?_) rfl (by kernel_rfl) (by kernel_rfl) (by kernel_rfl) (fun _ _ _ h => h) (Or.inl ⟨by rfl,?_⟩) hHeld ?_
  rotate_left
  ·intro W' hSw; (try dsimp only at hSw); go_simp <;> with_reducible rfl
  try simp only [Act.put,List.setIfInBounds_toArray,List.set_cons_zero,List.set_cons_succ]
  refine wpAnyH_take (i := 11) (v := ?_) rfl (by kernel_rfl) (by kernel_rfl) (by kernel_rfl) (fun _ _ _ h => h) (Or.inl ⟨by rfl,?_⟩) hHeld ?_
  rotate_left
  ·intro W' hSw; (try dsimp only at hSw); go_simp <;> with_reducible rfl
  try simp only [Act.put,List.setIfInBounds_toArray,List.set_cons_zero,List.set_cons_succ]
  refine wpAnyH_take (i := 12) (v := ?_) rfl (by kernel_rfl) (by kernel_rfl) (by kernel_rfl) (fun _ _ _ h => h) (Or.inl ⟨by rfl,?_⟩) hHeld ?_
  rotate_left
  ·intro W' hSw; (try dsimp only at hSw); go_simp <;> with_reducible rfl
  try simp only [Act.put,List.setIfInBounds_toArray,List.set_cons_zero,List.set_cons_succ]
  refine wpAnyH_take (i := 13) (v := ?_) rfl (by kernel_rfl) (by kernel_rfl) (by kernel_rfl) (fun _ _ _ h => h) (Or.inl ⟨by rfl,?_⟩) hHeld ?_
  rotate_left
  ·intro W' hSw; (try dsimp only at hSw); go_simp <;> with_reducible rfl
  try simp only [Act.put,List.setIfInBounds_toArray,List.set_cons_zero,List.set_cons_succ]
  refine wpAnyH_take (i := 14) (v := ?_) rfl (by kernel_rfl) (by kernel_rfl) (by kernel_rfl) (fun _ _ _ h => h) (Or.inl ⟨by rfl,?_⟩) hHeld ?_
  rotate_left
  ·intro W' hSw; (try dsimp only at hSw); go_simp <;> with_reducible rfl
  try simp only [Act.put,List.setIfInBounds_toArray,List.set_cons_zero,List.set_cons_succ]
  refine wpAnyH_take (i := 15) (v := ?_) rfl (by kernel_rfl) (by kernel_rfl) (by kernel_rfl) (fun _ _ _ h => h) (Or.inl ⟨by rfl,?_⟩) hHeld ?_
  rotate_left
  ·intro W' hSw; (try dsimp only at hSw); go_simp <;> with_reducible rfl
  try simp only [Act.put,List.setIfInBounds_toArray,List.set_cons_zero,List.set_cons_succ]
  refine wpAnyH_ready (rs := [16]) (by kernel_rfl) (by simp) ?_
  refine AllReadyH.cons rfl (fun K' hK => ?_) AllReadyH.nil
  go_simp
  refine hK.out _ _ ((HPS.out _ _).trans p0) (fun hHeld => ?_)
  clear hK K'
  try simp only [Act.put,List.setIfInBounds_toArray,List.set_cons_zero,List.set_cons_succ]
  refine wpAnyH_take (i := 17) (v := ?_) rfl (by kernel_rfl) (by kernel_rfl) (by kernel_rfl) (fun _ _ _ h => h) (Or.inl ⟨by rfl,?_⟩) hHeld ?_
  rotate_left
  ·intro W' hSw; (try dsimp only at hSw); go_simp <;> with_reducible rfl
  try simp only [Act.put,List.setIfInBounds_toArray,List.set_cons_zero,List.set_cons_succ]
  refine wpAnyH_take (i := 18) (v := ?_) rfl (by kernel_rfl) (by kernel_rfl) (by kernel_rfl) (fun _ _ _ h => h) (Or.inl ⟨by rfl,?_⟩) hHeld ?_
  rotate_left
  ·intro W' hSw; (try dsimp only at hSw); go_simp <;> with_reducible rfl
  try simp only [Act.put,List.setIfInBounds_toArray,List.set_cons_zero,List.set_cons_succ]
  refine wpAnyH_done (by kernel_rfl) ?_ _
 all_goals
  go_wp2_with fail
  go_ret2
  obtain ⟨a1,a2⟩ := HW2.out.newOpens HR.out HS.out HBW.out
  exact ⟨rfl,_,a1,HST.out.trans a2⟩
end
end Go.Proofs.YtkdfbliiblojoaaGreatDoor
