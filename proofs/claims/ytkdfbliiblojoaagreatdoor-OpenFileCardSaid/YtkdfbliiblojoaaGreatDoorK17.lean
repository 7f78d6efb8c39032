import Derived.Test.YtkdfbliiblojoaaGreatDoorK16
set_option linter.all false
set_option maxRecDepth 100000
set_option maxHeartbeats 64000000
namespace Go.Proofs.YtkdfbliiblojoaaGreatDoor
open Go Go.RowKit
section
variable {B g : Nat} {A : KAd} {K : Krn} {f : List Int}
def Aqn (B g : Nat) (A : KAd) (K : Krn) (f : List Int) (size : Int) (w : World) (e : Ending) (w' : World) : Prop :=
 ((Aao size).2 ≠ 0 → e = .returned (.tuple #[.int .i64 0,.int .i64 (Aao size).2]) ∧ Below w.heap.size w w') ∧
 ((Aao size).2 = 0 → e = .returned (.tuple #[.int .i64 ((Ac5 K (Aao size).1).2.1 : Int),.int .i64 (Ac5 K (Aao size).1).2.2]) ∧ ∃ A',Wk w' B g A' { K with pipes := (Ac5 K (Aao size).1).1 } f ∧ Stepw g A w A' w')
theorem Av4 (size : Int) (w : World) (hW : Wk w B g A K f) (hpl : K.pipes.length ≤ 1000) (hBw : B ≤ w.heap.size) :
  Calls Tryz.prog 111 #[.pointer (some ⟨g,0,none⟩),.int .i64 size] w (Aqn B g A K f size w) := by
 obtain ⟨w1,hw1⟩ : ∃ p,p = w.alloc (.cells #[.pointer (some ⟨g,0,none⟩)] 74) := ⟨_,rfl⟩
 have hb1 : Below w.heap.size w w1 := by rw [hw1]; exact Aab w _
 have hX : w1.heap[w.heap.size]? = some (.cells #[.pointer (some ⟨g,0,none⟩)] 74 (0,0)) := by rw [hw1]; exact Aae w _
 obtain ⟨⟨q,er⟩,hz⟩ : ∃ z,Aao size = z := ⟨_,rfl⟩
 have HNW := Hd (fun W => Baz size q er hz W)
 have HX := Hd hX
 have HB1 := Hd hb1
 have HW1 := Hd (hW.below hb1)
 have HST := Hd (Stepw.of_below (g := g) (A := A) hb1)
 have HBW := Hd hBw
 have hwg : w.heap.size ≠ g := fun e => by have := hW.lt; omega
 have HN3 := Hd (show ∀ k,Own3 g A k → k ≠ w.heap.size from fun k h3 e => by have := (hW.own3 h3).2; omega)
 obtain ⟨dt,rd,wr_,cp⟩ := q
 have HZ := Hd hz
 clear hb1 hX hz hW hBw
 by_cases he : er = 0
 rotate_left
 ·have HE := Hd he
  have heb : (er != 0) = true := by simpa using he
  go_enter Tryz.func111,Tryz.ntmps111
  go_wp2_with fail
  rw [← hw1]
  clear hw1 he
  refine (HNW.out _).mono ?_
  rintro e w2 ⟨rfl,hb2⟩
  have HB2 := Hd (HB1.out.trans (hb2.mono HB1.out.size))
  clear hb2
  go_wp2_with fail
  go_ret2
  exact ⟨fun _ => ⟨by rw [HZ.out]; rfl,(HB2.out).alloc HB2.out.size _⟩,fun h => absurd (by rw [HZ.out] at h; exact h) HE.out⟩
 ·subst he
  go_enter Tryz.func111,Tryz.ntmps111
  go_wp2_with fail
  rw [← hw1]
  clear hw1
  refine (HNW.out _).mono ?_
  rintro e w2 ⟨rfl,hb2⟩
  have HB2 := Hd hb2
  clear hb2
  obtain ⟨w3,hw3⟩ : ∃ p,p = w2.alloc (.cells #[.string ⟨dt.toArray⟩,.int .i64 rd,.int .i64 wr_,.int .i64 cp] 87) := ⟨_,rfl⟩
  have hb3 : Below w2.heap.size w2 w3 := by rw [hw3]; exact Aab w2 _
  have hY : w3.heap[w2.heap.size]? = some (.cells #[.string ⟨dt.toArray⟩,.int .i64 rd,.int .i64 wr_,.int .i64 cp] 87 (0,0)) := by rw [hw3]; exact Aae w2 _
  have hb13 : Below w1.heap.size w1 w3 := HB2.out.trans (hb3.mono HB2.out.size)
  have HW3 := Hd (HW1.out.below hb13)
  have HST3 := Hd (HST.out.below hb13)
  have HBW3 := Hd (show B ≤ w3.heap.size from by have := HBW.out; have := HB1.out.size; have := hb13.size; omega)
  have p0 := Aaa hb13 (bC HX.out 0)
  have y0 := bC hY 0
  have y1 := bC hY 1
  have y2 := bC hY 2
  have y3 := bC hY 3
  have xl : w.heap.size < w3.heap.size := Aaj p0
  have yl := lt_of_block hY
  have q3 := HW3.out.kcells.2.2.2.1
  have fq := HW3.out.free 3
  have gl := HW3.out.lt
  have HC := Hd (fun W (hb : Below w3.heap.size w3 W) => Baw w.heap.size dt rd wr_ cp W (HW3.out.below hb) hpl (Aaa hb p0) (Nat.le_trans HBW3.out hb.size))
  have HPS := Hd (show ∀ (W : World) (u : Value),(W.setCell ⟨g,3,none⟩ u).cell? ⟨w.heap.size,0,none⟩ = W.cell? ⟨w.heap.size,0,none⟩ from fun W u => World.cell?_of_block (a := ⟨w.heap.size,0,none⟩) (Below.heap_setCell _ _ _ _ hwg))
  clear hb13 hb3 hY
  go_upto_region 5 with fail
  rw [← hw3]
  clear hw3
  refine wp_region_held_drew (S := (fun W => W.cell? ⟨w.heap.size,0,none⟩ = some (.pointer (some ⟨g,0,none⟩)))) (by kernel_rfl) p0 (fun hHeld => ?_)
  refine wpAnyH_take (i := 0) (v := ?_) rfl (by kernel_rfl) (by kernel_rfl) (by kernel_rfl) (fun _ _ _ h => h) (Or.inl ⟨by rfl,?hy0⟩) hHeld ?rest0
  case hy0 => intro W' hSw; (try dsimp only at hSw); go_simp <;> with_reducible rfl
  try simp only [Act.put,List.setIfInBounds_toArray,List.set_cons_zero,List.set_cons_succ]
  refine wpAnyH_take (i := 1) (v := ?_) rfl (by kernel_rfl) (by kernel_rfl) (by kernel_rfl) (fun _ _ _ h => h) (Or.inl ⟨by rfl,?hy1⟩) hHeld ?rest1
  case hy1 => intro W' hSw; (try dsimp only at hSw); go_simp <;> with_reducible rfl
  try simp only [Act.put,List.setIfInBounds_toArray,List.set_cons_zero,List.set_cons_succ]
  refine wpAnyH_take (i := 2) (v := ?_) rfl (by kernel_rfl) (by kernel_rfl) (by kernel_rfl) (fun _ _ _ h => h) (Or.inl ⟨by rfl,?hy2⟩) hHeld ?rest2
  case hy2 => intro W' hSw; (try dsimp only at hSw); go_simp <;> with_reducible rfl
  try simp only [Act.put,List.setIfInBounds_toArray,List.set_cons_zero,List.set_cons_succ]
  refine wpAnyH_take (i := 3) (v := ?_) rfl (by kernel_rfl) (by kernel_rfl) (by kernel_rfl) (fun _ _ _ h => h) (Or.inl ⟨by rfl,?hy3⟩) hHeld ?rest3
  case hy3 => intro W' hSw; (try dsimp only at hSw); go_simp <;> with_reducible rfl
  try simp only [Act.put,List.setIfInBounds_toArray,List.set_cons_zero,List.set_cons_succ]
  refine wpAnyH_take (i := 4) (v := ?_) rfl (by kernel_rfl) (by kernel_rfl) (by kernel_rfl) (fun _ _ _ h => h) (Or.inl ⟨by rfl,?hy4⟩) hHeld ?rest4
  case hy4 => intro W' hSw; (try dsimp only at hSw); go_simp <;> with_reducible rfl
  try simp only [Act.put,List.setIfInBounds_toArray,List.set_cons_zero,List.set_cons_succ]
  refine wpAnyH_ready (rs := [5,6,7]) (by kernel_rfl) (by simp) ?_
  refine AllReadyH.cons rfl (fun K' hK => ?o_5) (AllReadyH.cons rfl (fun K' hK => ?o_6) (AllReadyH.cons rfl (fun K' hK => ?o_7) AllReadyH.nil))
  case' o_5 =>
   go_simp
   refine hK.out _ _ p0 (fun hHeld => ?_)
   clear hK K'
   try simp only [Act.put,List.setIfInBounds_toArray,List.set_cons_zero,List.set_cons_succ]
   refine wpAnyH_ready (rs := [6,7]) (by kernel_rfl) (by simp) ?_
   refine AllReadyH.cons rfl (fun K' hK => ?o5_6) (AllReadyH.cons rfl (fun K' hK => ?o5_7) AllReadyH.nil)
   case' o5_6 =>
    go_simp
    refine hK.out _ _ p0 (fun hHeld => ?_)
    clear hK K'
    try simp only [Act.put,List.setIfInBounds_toArray,List.set_cons_zero,List.set_cons_succ]
    refine wpAnyH_ready (rs := [7]) (by kernel_rfl) (by simp) ?_
    refine AllReadyH.cons rfl (fun K' hK => ?_) AllReadyH.nil
    go_simp
    refine hK.out _ _ p0 (fun hHeld => ?_)
    clear hK K'
    try simp only [Act.put,List.setIfInBounds_toArray,List.set_cons_zero,List.set_cons_succ]
   case' o5_7 =>
    go_simp
    refine hK.out _ _ p0 (fun hHeld => ?_)
    clear hK K'
    try simp only [Act.put,List.setIfInBounds_toArray,List.set_cons_zero,List.set_cons_succ]
    refine wpAnyH_ready (rs := [6]) (by kernel_rfl) (by simp) ?_
    refine AllReadyH.cons rfl (fun K' hK => ?_) AllReadyH.nil
    go_simp
    refine hK.out _ _ p0 (fun hHeld => ?_)
    clear hK K'
    try simp only [Act.put,List.setIfInBounds_toArray,List.set_cons_zero,List.set_cons_succ]
  case' o_6 =>
   go_simp
   refine hK.out _ _ p0 (fun hHeld => ?_)
   clear hK K'
   try simp only [Act.put,List.setIfInBounds_toArray,List.set_cons_zero,List.set_cons_succ]
   refine wpAnyH_ready (rs := [5,7]) (by kernel_rfl) (by simp) ?_
   refine AllReadyH.cons rfl (fun K' hK => ?o6_5) (AllReadyH.cons rfl (fun K' hK => ?o6_7) AllReadyH.nil)
   case' o6_5 =>
    go_simp
    refine hK.out _ _ p0 (fun hHeld => ?_)
    clear hK K'
    try simp only [Act.put,List.setIfInBounds_toArray,List.set_cons_zero,List.set_cons_succ]
    refine wpAnyH_ready (rs := [7]) (by kernel_rfl) (by simp) ?_
    refine AllReadyH.cons rfl (fun K' hK => ?_) AllReadyH.nil
    go_simp
    refine hK.out _ _ p0 (fun hHeld => ?_)
    clear hK K'
    try simp only [Act.put,List.setIfInBounds_toArray,List.set_cons_zero,List.set_cons_succ]
   case' o6_7 =>
    go_simp
    refine hK.out _ _ p0 (fun hHeld => ?_)
    clear hK K'
    try simp only [Act.put,List.setIfInBounds_toArray,List.set_cons_zero,List.set_cons_succ]
    refine wpAnyH_ready (rs := [5]) (by kernel_rfl) (by simp) ?_
    refine AllReadyH.cons rfl (fun K' hK => ?_) AllReadyH.nil
    go_simp
    refine hK.out _ _ p0 (fun hHeld => ?_)
    clear hK K'
    try simp only [Act.put,List.setIfInBounds_toArray,List.set_cons_zero,List.set_cons_succ]
  case' o_7 =>
   go_simp
   refine hK.out _ _ p0 (fun hHeld => ?_)
   clear hK K'
   try simp only [Act.put,List.setIfInBounds_toArray,List.set_cons_zero,List.set_cons_succ]
   refine wpAnyH_ready (rs := [5,6]) (by kernel_rfl) (by simp) ?_
   refine AllReadyH.cons rfl (fun K' hK => ?o7_5) (AllReadyH.cons rfl (fun K' hK => ?o7_6) AllReadyH.nil)
   case' o7_5 =>
    go_simp
    refine hK.out _ _ p0 (fun hHeld => ?_)
    clear hK K'
    try simp only [Act.put,List.setIfInBounds_toArray,List.set_cons_zero,List.set_cons_succ]
    refine wpAnyH_ready (rs := [6]) (by kernel_rfl) (by simp) ?_
    refine AllReadyH.cons rfl (fun K' hK => ?_) AllReadyH.nil
    go_simp
    refine hK.out _ _ p0 (fun hHeld => ?_)
    clear hK K'
    try simp only [Act.put,List.setIfInBounds_toArray,List.set_cons_zero,List.set_cons_succ]
   case' o7_6 =>
    go_simp
    refine hK.out _ _ p0 (fun hHeld => ?_)
    clear hK K'
    try simp only [Act.put,List.setIfInBounds_toArray,List.set_cons_zero,List.set_cons_succ]
    refine wpAnyH_ready (rs := [5]) (by kernel_rfl) (by simp) ?_
    refine AllReadyH.cons rfl (fun K' hK => ?_) AllReadyH.nil
    go_simp
    refine hK.out _ _ p0 (fun hHeld => ?_)
    clear hK K'
    try simp only [Act.put,List.setIfInBounds_toArray,List.set_cons_zero,List.set_cons_succ]
  all_goals
   refine wpAnyH_ready (rs := [8]) (by kernel_rfl) (by simp) ?_
   refine AllReadyH.cons rfl (fun K' hK => ?_) AllReadyH.nil
   go_simp
   refine (HC.out _ (Aac (Below.refl _ _))).mono ?_; rintro e wn ⟨a',c',rfl,hr,hs⟩; have HR := Hd hr; have HS := Hd hs.of_drew; have hgn := (hs.of_drew.block g HW3.out.lt (fun x hx => HW3.out.gp x hx)).trans HW3.out.box; have q3 := bC hgn 3; have fq := bF hgn 3; have gl := lt_of_block hgn; have p0 : wn.cell? ⟨w.heap.size,0,none⟩ = some (.pointer (some ⟨g,0,none⟩)) := (World.cell?_of_block (a := ⟨w.heap.size,0,none⟩) (hs.of_drew.block w.heap.size xl (fun x hx e => HN3.out _ (.inr (.inl ⟨x,hx,e⟩)) rfl))).trans p0; clear hgn hr hs
   refine hK.out _ _ p0 (fun hHeld => ?_)
   clear hK K'
   try simp only [Act.put,List.setIfInBounds_toArray,List.set_cons_zero,List.set_cons_succ]
   refine wpAnyH_take (i := 9) (v := ?_) rfl (by kernel_rfl) (by kernel_rfl) (by kernel_rfl) (fun _ _ _ h => h) (Or.inl ⟨by rfl,?_⟩) hHeld ?_
   rotate_left
   ·intro W' hSw; (try dsimp only at hSw); go_simp <;> with_reducible rfl
   try simp only [Act.put,List.setIfInBounds_toArray,List.set_cons_zero,List.set_cons_succ]
   refine wpAnyH_take (i := 10) (v := ?_) rfl (by kernel_rfl) (by kernel_rfl) (by kernel_rfl) (fun _ _ _ h => h) (Or.inl ⟨by rfl,?_⟩) hHeld ?_
   rotate_left
   ·intro W' hSw; (try dsimp only at hSw); go_simp <;> with_reducible rfl
   try simp only [Act.put,List.setIfInBounds_toArray,List.set_cons_zero,List.set_cons_succ]
   refine wpAnyH_take (i := 11) (v := ?_) rfl (by kernel_rfl) (by kernel_rfl) (by kernel_rfl) (fun _ _ _ h => h) (Or.inl ⟨by rfl,?_⟩) hHeld ?_
   rotate_left
   ·intro W' hSw; (try dsimp only at hSw); go_simp <;> with_reducible rfl
   try simp only [Act.put,List.setIfInBounds_toArray,List.set_cons_zero,List.set_cons_succ]
   refine wpAnyH_take (i := 12) (v := ?_) rfl (by kernel_rfl) (by kernel_rfl) (by kernel_rfl) (fun _ _ _ h => h) (Or.inl ⟨by rfl,?_⟩) hHeld ?_
   rotate_left
   ·intro W' hSw; (try dsimp only at hSw); go_simp <;> with_reducible rfl
   try simp only [Act.put,List.setIfInBounds_toArray,List.set_cons_zero,List.set_cons_succ]
   refine wpAnyH_take (i := 13) (v := ?_) rfl (by kernel_rfl) (by kernel_rfl) (by kernel_rfl) (fun _ _ _ h => h) (Or.inl ⟨by rfl,?_⟩) hHeld ?_
   rotate_left
   ·intro W' hSw; (try dsimp only at hSw); go_simp <;> with_reducible rfl
   try simp only [Act.put,List.setIfInBounds_toArray,List.set_cons_zero,List.set_cons_succ]
   refine wpAnyH_take (i := 14) (v := ?_) rfl (by kernel_rfl) (by kernel_rfl) (by kernel_rfl) (fun _ _ _ h => h) (Or.inl ⟨by rfl,?_⟩) hHeld ?_
   rotate_left
   ·intro W' hSw; (try dsimp only at hSw); go_simp <;> with_reducible rfl
   try simp only [Act.put,List.setIfInBounds_toArray,List.set_cons_zero,List.set_cons_succ]
   refine wpAnyH_take (i := 15) (v := ?_) rfl (by kernel_rfl) (by kernel_rfl) (by kernel_rfl) (fun _ _ _ h => h) (Or.inl ⟨by rfl,?_⟩) hHeld ?_
   rotate_left
   ·intro W' hSw; (try dsimp only at hSw); go_simp <;> with_reducible rfl
   try simp only [Act.put,List.setIfInBounds_toArray,List.set_cons_zero,List.set_cons_succ]
   refine wpAnyH_ready (rs := [16]) (by kernel_rfl) (by simp) ?_
   refine AllReadyH.cons rfl (fun K' hK => ?_) AllReadyH.nil
   go_simp
   refine hK.out _ _ ((HPS.out _ _).trans p0) (fun hHeld => ?_)
   clear hK K'
   try simp only [Act.put,List.setIfInBounds_toArray,List.set_cons_zero,List.set_cons_succ]
   refine wpAnyH_take (i := 17) (v := ?_) rfl (by kernel_rfl) (by kernel_rfl) (by kernel_rfl) (fun _ _ _ h => h) (Or.inl ⟨by rfl,?_⟩) hHeld ?_
   rotate_left
   ·intro W' hSw; (try dsimp only at hSw); go_simp <;> with_reducible rfl
   try simp only [Act.put,List.setIfInBounds_toArray,List.set_cons_zero,List.set_cons_succ]
   refine wpAnyH_take (i := 18) (v := ?_) rfl (by kernel_rfl) (by kernel_rfl) (by kernel_rfl) (fun _ _ _ h => h) (Or.inl ⟨by rfl,?_⟩) hHeld ?_
   rotate_left
   ·intro W' hSw; (try dsimp only at hSw); go_simp <;> with_reducible rfl
   try simp only [Act.put,List.setIfInBounds_toArray,List.set_cons_zero,List.set_cons_succ]
   refine wpAnyH_done (by kernel_rfl) ?_ _
  all_goals
   go_wp2_with fail
   go_ret2
   obtain ⟨a1,a2⟩ := HW3.out.newPipes HR.out HS.out HBW3.out
   exact ⟨fun h => absurd (by rw [HZ.out]) h,fun _ => ⟨by rw [HZ.out]; rfl,_,by rw [HZ.out]; exact a1,HST3.out.trans a2⟩⟩
end
end Go.Proofs.YtkdfbliiblojoaaGreatDoor
