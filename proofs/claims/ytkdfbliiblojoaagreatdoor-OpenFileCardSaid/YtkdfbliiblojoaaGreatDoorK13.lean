import Derived.Test.YtkdfbliiblojoaaGreatDoorK12
import Derived.Deep.RegionHeld3
set_option linter.all false
set_option maxRecDepth 100000
set_option maxHeartbeats 64000000
namespace Go.Proofs.YtkdfbliiblojoaaGreatDoor
open Go Go.RowKit
section
variable {B g : Nat} {A : KAd} {K : Krn} {f : List Int}
theorem Aj9 (fd : Int) (w : World) (hW : Wk w B g A K f) (hol : K.opens.length ≤ 1000) (hL : isFd fd = true → Led K f fd.toNat) : Calls Tryz.prog 75 #[.pointer (some ⟨g,0,none⟩),.int .i64 fd] w fun e w' => e = .returned (.tuple #[.int .i64 (Acb f fd).1,.bool (Acb f fd).2]) ∧ Below w.heap.size w w' := by
 obtain ⟨q0,q1,q2,q3,q4,q5,q6⟩ := hW.kcells
 have gl := hW.lt
 have HW := Hd hW
 cases hfd : isFd fd with
 | false =>
  have HE := Hd (show Acb f fd = (0,false) by unfold Acb; rw [if_neg (by rw [hfd]; simp)])
  rw [HE.out]
  clear hW
  go_enter Tryz.func75,Tryz.ntmps75
  go_wp2_with fail
  refine (Adx fd _).mono ?_
  rintro e w2 ⟨rfl,rfl⟩
  rw [hfd]
  go_wp2_with fail
  go_ret2
  exact ⟨rfl,Below.refl _ _⟩
 | true =>
  obtain ⟨n,rfl,hn⟩ := Ach hfd
  have cn := hW.fd n hn
  have h0 : (0 : Int) ≤ (n : Int) := by omega
  have h1 : (n : Int) < 10 := by omega
  have hl := hL hfd
  rw [Int.toNat_natCast] at hl
  have hfA : f.getD n 0 = fdA f n := rfl
  unfold Led at hl
  rw [hfA] at hl
  clear hL
  rcases hl with hz | ⟨j,hj,e1,e2,e3,e4,e5⟩
  ·have HE := Hd (show Acb f (n : Int) = (0,false) by unfold Acb; rw [if_neg (by rw [Int.toNat_natCast,hfA,hz]; simp)])
   rw [HE.out]
   rw [hz] at cn
   clear hW hz hfA
   go_enter Tryz.func75,Tryz.ntmps75
   go_wp2_with fail
   refine (Adx (n : Int) _).mono ?_
   rintro e w2 ⟨rfl,rfl⟩
   rw [hfd]
   go_wp2_with fail
   go_ret2
   exact ⟨rfl,Below.refl _ _⟩
  ·have HE := Hd (show Acb f (n : Int) = ((j : Int),true) by unfold Acb; rw [if_pos ⟨hfd,by rw [Int.toNat_natCast,hfA,e1]; omega⟩,Int.toNat_natCast,hfA,e1,show (j : Int) + 1 - 1 = (j : Int) by omega])
   rw [HE.out]
   rw [e1] at cn
   obtain ⟨go,ha,hgo,hO⟩ := hW.opn hj
   obtain ⟨x0,x1,x2,x3,x4,xl,xf⟩ := hO
   rw [ha] at q4
   have b1 : decide (((j : Int) + 1) < 1) = false := decide_eq_false (by omega)
   have b2 : decide (((j : Int) + 1) > (K.opens.length : Int)) = false := decide_eq_false (by omega)
   have b3 : (K.opens[j].kind == 0) = false := by simpa using e2
   have b4 : (0 : Int) ≤ (j : Int) := by omega
   have b5 : (j : Int) < (K.opens.length : Int) := by omega
   have b6 : (j : Int) + 1 - 1 = (j : Int) := by omega
   have b7 : (j : Int) ≤ 1000 := by omega
   obtain ⟨o,ho⟩ : ∃ o,o = K.opens[j] := ⟨_,rfl⟩
   rw [← ho] at x0 x1 x2 x3 x4 b3
   have HKT := Hd (show Ad8 K.tree K.pipes.length ⟨o.kind,o.at_,o.off,o.flags,o.refs⟩ = true by rw [ho]; exact e3)
   clear hW e1 e2 e3 e4 e5 hfA ha hgo xf ho
   go_enter Tryz.func75,Tryz.ntmps75
   go_wp2_with fail
   refine (Adx (n : Int) _).mono ?_
   rintro e w2 ⟨rfl,rfl⟩
   rw [hfd]
   go_wp2_with (first | (go_at_call 117; refine (Atx _ _ _ _ _ _ HW.out).mono ?_; rintro e w3 ⟨rfl,hb3⟩; rw [HKT.out]) | fail)
   go_ret2
   exact ⟨by first | rfl | simp | go_num,hb3⟩
end
theorem As5 (p : Pip) (hF : Abw p = true) (reads : Bool) (w : World) :
  Calls Tryz.prog 134 #[.agg #[.string ⟨p.data.toArray⟩,.int .i64 p.rd,.int .i64 p.wr,.int .i64 p.cap],.bool reads] w fun e w' => e = .returned (.agg #[.string ⟨(Aa1 p reads).data.toArray⟩,.int .i64 (Aa1 p reads).rd,.int .i64 (Aa1 p reads).wr,.int .i64 (Aa1 p reads).cap]) ∧ Below w.heap.size w w' := by
 have HC := Hd (fun W => At9 p hF reads (-1) (by decide) W)
 rw [← Aq0 hF reads]
 obtain ⟨q,hq⟩ : ∃ q,q = Agt p reads (-1) := ⟨_,rfl⟩
 rw [← hq] at HC ⊢
 obtain ⟨D,hD⟩ : ∃ D : ByteArray,D = ⟨p.data.toArray⟩ := ⟨_,rfl⟩
 obtain ⟨hDl,hDs⟩ := Af2 hD
 obtain ⟨w2,hw2,hb2,hs2,hA,hB⟩ := Aam w #[.string D,.int .i64 p.rd,.int .i64 p.wr,.int .i64 p.cap] #[.string ⟨#[]⟩,.int .i64 0,.int .i64 0,.int .i64 0] 87 87
 have HA := Hd hA
 have HBK := Hd hB
 have HB2 := Hd hb2
 have HD := Hd hD
 rw [← hD]
 have hl := lt_of_block hB
 have q0 := bC hA 0
 have q1 := bC hA 1
 have q2 := bC hA 2
 have q3 := bC hA 3
 have f0 := bF hA 0
 have f1 := bF hA 1
 have f2 := bF hA 2
 have r0 := bC hB 0
 have r1 := bC hB 1
 have r2 := bC hB 2
 have r3 := bC hB 3
 have s0 := bF hB 0
 have s1 := bF hB 1
 have s2 := bF hB 2
 have s3 := bF hB 3
 clear hA hB hb2 hD
 have HCD := Hd (show ∀ W,Calls Tryz.prog 164 #[.agg #[.string D,.int .i64 p.rd,.int .i64 p.wr,.int .i64 p.cap],.bool reads,.int .i64 (-1)] W fun e w' => e = .returned (.agg #[.string ⟨q.data.toArray⟩,.int .i64 q.rd,.int .i64 q.wr,.int .i64 q.cap]) ∧ Below W.heap.size W w' from fun W => by rw [HD.out]; exact HC.out W)
 clear hDl hDs hF hq r0 r1 r2 r3 s0 s1 s2 s3 f0 f1 f2
 rw [hw2] at q0 q1 q2 q3 hl
 go_enter Tryz.func134,Tryz.ntmps134
 go_wp2_with fail
 rw [← hw2]
 clear hw2 q0 q1 q2 q3 hl
 refine (HCD.out _).mono ?_
 rintro e w3 ⟨rfl,hb3⟩
 have hB3 := (hb3.block (w.heap.size + 1) (by omega)).trans HBK.out
 have HB3 := Hd (HB2.out.trans (hb3.mono (by omega)))
 have hs3 := hb3.size
 have r0 := bC hB3 0
 have r1 := bC hB3 1
 have r2 := bC hB3 2
 have r3 := bC hB3 3
 have s0 := bF hB3 0
 have s1 := bF hB3 1
 have s2 := bF hB3 2
 have s3 := bF hB3 3
 have hl := lt_of_block hB3
 have HB4 := Hd hB3
 clear hB3 hb3
 go_wp2_with fail
 change bodyPost _ _ _ _ _ (put4 w3 (w.heap.size + 1) (.string ⟨q.data.toArray⟩) (.int .i64 q.rd) (.int .i64 q.wr) (.int .i64 q.cap))
 obtain ⟨c0,c1,c2,c3⟩ := Ae8 HB4.out (.string ⟨q.data.toArray⟩) (.int .i64 q.rd) (.int .i64 q.wr) (.int .i64 q.cap)
 exact bodyPost_ret (v := .agg #[.string ⟨q.data.toArray⟩,.int .i64 q.rd,.int .i64 q.wr,.int .i64 q.cap]) (by simp [results,Tryz.results134,go_sem,c0,c1,c2,c3]) rfl ⟨rfl,Acf HB3.out (by omega) (.string ⟨q.data.toArray⟩) (.int .i64 q.rd) (.int .i64 q.wr) (.int .i64 q.cap)⟩
theorem Aac {n : Nat} {A B : World} (h : Below n A B) : Below n A B.drew := ⟨h.os,h.tape,h.output,h.size,h.block⟩
theorem Aak {n : Nat} {A B B' C : World} (h : Below n A B) (k : Below B'.heap.size B' C) (hn : n ≤ B.heap.size) (e : B'.os = B.os ∧ B'.tape = B.tape ∧ B'.output = B.output ∧ B'.heap = B.heap) : Below n A C := by
 have h' : Below n A B' := ⟨e.1.trans h.os,e.2.1.trans h.tape,e.2.2.1.trans h.output,by rw [e.2.2.2]; exact h.size,by rw [e.2.2.2]; exact h.block⟩
 exact h'.trans (k.mono (by rw [e.2.2.2]; exact hn))
section
variable {B g : Nat} {A : KAd} {K : Krn} {f : List Int}
theorem Ax1 (r : Value) (kd at_ off fl rf : Int) (w : World) : Calls Tryz.prog 96 #[r,.agg #[.int .i64 kd,.int .i64 at_,.int .i64 off,.int .i64 fl,.int .i64 rf]] w fun e w' => e = .returned (.tuple #[]) ∧ Below w.heap.size w w' := by
 have HB := Hd (Aab w (.cells #[.int .i64 kd,.int .i64 at_,.int .i64 off,.int .i64 fl,.int .i64 rf] 70))
 go_enter Tryz.func96,Tryz.ntmps96
 go_wp2_with fail
 go_end0
 exact ⟨rfl,HB.out⟩
theorem Aoa (kd : Int) (i : Nat) (off fl rf : Int) (w : World) (hW : Wk w B g A K f) (hi : i < K.pipes.length) (hF : Abw K.pipes[i] = true) : Calls Tryz.prog 99 #[.pointer (some ⟨g,0,none⟩),.agg #[.int .i64 kd,.int .i64 i,.int .i64 off,.int .i64 fl,.int .i64 rf]] w fun e w' => e = .returned (.tuple #[]) ∧ Wk w' B g A { K with pipes := K.pipes.set i (Aa1 K.pipes[i] true) } f ∧ Stepw g A w A w' := by
 obtain ⟨w1,hw1⟩ : ∃ p,p = w.alloc (.cells #[.int .i64 kd,.int .i64 i,.int .i64 off,.int .i64 fl,.int .i64 rf] 70) := ⟨_,rfl⟩
 have hb1 : Below w.heap.size w w1 := by rw [hw1]; exact Aab w _
 have hX : w1.heap[w.heap.size]? = some (.cells #[.int .i64 kd,.int .i64 i,.int .i64 off,.int .i64 fl,.int .i64 rf] 70 (0,0)) := by rw [hw1]; exact Aae w _
 have HW1 := Hd (hW.below hb1)
 have HST := Hd (Stepw.of_below (g := g) (A := A) hb1)
 obtain ⟨go,ha,hgo,hP⟩ := hW.pip hi
 have HA := Hd ha
 have h0 : (0 : Int) ≤ (i : Int) := by omega
 have h1 : (i : Int) < (K.pipes.length : Int) := by omega
 have hsS : ∀ W,Below w1.heap.size w1 W → W.cell? ⟨g,3,none⟩ = some (.slice (some ⟨go,0,none⟩) K.pipes.length A.pc) ∧ W.cell? ⟨w.heap.size,1,none⟩ = some (.int .i64 i) ∧ W.cell? ⟨go,i * 4,none⟩ = some (.string ⟨K.pipes[i].data.toArray⟩) ∧ W.cell? ⟨go,i * 4 + 1,none⟩ = some (.int .i64 K.pipes[i].rd) ∧ W.cell? ⟨go,i * 4 + 2,none⟩ = some (.int .i64 K.pipes[i].wr) ∧ W.cell? ⟨go,i * 4 + 3,none⟩ = some (.int .i64 K.pipes[i].cap) ∧ (W.frozen? ⟨go,i * 4,none⟩ = false ∧ W.frozen? ⟨go,i * 4 + 1,none⟩ = false ∧ W.frozen? ⟨go,i * 4 + 2,none⟩ = false ∧ W.frozen? ⟨go,i * 4 + 3,none⟩ = false) := fun W hW2 => by
  have hk := HW1.out.below hW2
  obtain ⟨go',ha',-,hp'⟩ := hk.pip hi
  rw [HA.out] at ha'
  obtain rfl : go = go' := by simpa using ha'
  have q := hk.kcells.2.2.2.1
  rw [HA.out] at q
  exact ⟨q,Aaa hW2 (bC hX 1),hp'.data,hp'.rd,hp'.wr,hp'.cap,hp'.free _,hp'.free _,hp'.free _,hp'.free _⟩
 have HSS := Hd hsS
 have HBB := Hd (Below.refl w1.heap.size w1)
 have gl : g < w1.heap.size := HW1.out.lt
 have gol : go < w1.heap.size := by have := hP.lt; have := hb1.size; omega
 have hwl : w.heap.size < w1.heap.size := lt_of_block hX
 obtain ⟨q3,x1,p0,p1,p2,p3,z0,z1,z2,z3⟩ := HSS.out _ HBB.out
 have hgg : g ≠ go := fun e => HW1.out.gp _ HA.out e.symm
 have hwg : w.heap.size ≠ go := by have := hP.lt; omega
 have HPS := Hd (show ∀ W,Below w1.heap.size w1 W → ∀ x y z u,(Ade W go (i * 4) x y z u).cell? ⟨g,3,none⟩ = some (.slice (some ⟨go,0,none⟩) K.pipes.length A.pc) ∧ (Ade W go (i * 4) x y z u).cell? ⟨w.heap.size,1,none⟩ = some (.int .i64 i) from fun W hW2 x y z u => by
  obtain ⟨a1,a2,-⟩ := HSS.out W hW2
  have hbt := Ael W go (i * 4) x y z u
  exact ⟨(World.cell?_of_block (a := ⟨g,3,none⟩) (hbt.block g hgg)).trans a1,(World.cell?_of_block (a := ⟨w.heap.size,1,none⟩) (hbt.block _ hwg)).trans a2⟩)
 have HC := Hd (fun W => As5 K.pipes[i] hF true W)
 clear hb1 hX hW ha hP hsS
 go_enter Tryz.func99,Tryz.ntmps99
 go_upto_region 1 with fail
 rw [← hw1]
 clear hw1
 refine wp_region_held_drew (S := (fun W => W.cell? ⟨g,3,none⟩ = some (.slice (some ⟨go,0,none⟩) K.pipes.length A.pc) ∧ W.cell? ⟨w.heap.size,1,none⟩ = some (.int .i64 i))) (by kernel_rfl) ⟨q3,x1⟩ (fun hHeld => ?_)
 refine wpAnyH_take (i := 0) (v := ?_) rfl (by kernel_rfl) (by kernel_rfl) (by kernel_rfl) (fun _ _ _ h => h) (Or.inl ⟨by rfl,?hy0⟩) hHeld ?rest0
 case hy0 => intro W' hSw; (try dsimp only at hSw); obtain ⟨q3,x1⟩ := hSw; go_simp <;> with_reducible rfl
 try simp only [Act.put,List.setIfInBounds_toArray,List.set_cons_zero,List.set_cons_succ]
 refine wpAnyH_take (i := 1) (v := ?_) rfl (by kernel_rfl) (by kernel_rfl) (by kernel_rfl) (fun _ _ _ h => h) (Or.inl ⟨by rfl,?hy1⟩) hHeld ?rest1
 case hy1 => intro W' hSw; (try dsimp only at hSw); obtain ⟨q3,x1⟩ := hSw; go_simp <;> with_reducible rfl
 try simp only [Act.put,List.setIfInBounds_toArray,List.set_cons_zero,List.set_cons_succ]
 refine wpAnyH_take (i := 2) (v := ?_) rfl (by kernel_rfl) (by kernel_rfl) (by kernel_rfl) (fun _ _ _ h => h) (Or.inl ⟨by rfl,?hy2⟩) hHeld ?rest2
 case hy2 => intro W' hSw; (try dsimp only at hSw); obtain ⟨q3,x1⟩ := hSw; go_simp <;> with_reducible rfl
 try simp only [Act.put,List.setIfInBounds_toArray,List.set_cons_zero,List.set_cons_succ]
 refine wpAnyH_take (i := 3) (v := ?_) rfl (by kernel_rfl) (by kernel_rfl) (by kernel_rfl) (fun _ _ _ h => h) (Or.inl ⟨by rfl,?hy3⟩) hHeld ?rest3
 case hy3 => intro W' hSw; (try dsimp only at hSw); obtain ⟨q3,x1⟩ := hSw; go_simp <;> with_reducible rfl
 try simp only [Act.put,List.setIfInBounds_toArray,List.set_cons_zero,List.set_cons_succ]
 refine wpAnyH_take (i := 4) (v := ?_) rfl (by kernel_rfl) (by kernel_rfl) (by kernel_rfl) (fun _ _ _ h => h) (Or.inl ⟨by rfl,?hy4⟩) hHeld ?rest4
 case hy4 => intro W' hSw; (try dsimp only at hSw); obtain ⟨q3,x1⟩ := hSw; go_simp <;> with_reducible rfl
 try simp only [Act.put,List.setIfInBounds_toArray,List.set_cons_zero,List.set_cons_succ]
 refine wpAnyH_take (i := 5) (v := ?_) rfl (by kernel_rfl) (by kernel_rfl) (by kernel_rfl) (fun _ _ _ h => h) (Or.inl ⟨by rfl,?hy5⟩) hHeld ?rest5
 case hy5 => intro W' hSw; (try dsimp only at hSw); obtain ⟨q3,x1⟩ := hSw; go_simp <;> with_reducible rfl
 try simp only [Act.put,List.setIfInBounds_toArray,List.set_cons_zero,List.set_cons_succ]
 refine wpAnyH_take (i := 6) (v := ?_) rfl (by kernel_rfl) (by kernel_rfl) (by kernel_rfl) (fun _ _ _ h => h) (Or.inl ⟨by rfl,?hy6⟩) hHeld ?rest6
 case hy6 => intro W' hSw; (try dsimp only at hSw); obtain ⟨q3,x1⟩ := hSw; go_simp <;> with_reducible rfl
 try simp only [Act.put,List.setIfInBounds_toArray,List.set_cons_zero,List.set_cons_succ]
 refine wpAnyH_take (i := 7) (v := ?_) rfl (by kernel_rfl) (by kernel_rfl) (by kernel_rfl) (fun _ _ _ h => h) (Or.inl ⟨by rfl,?hy7⟩) hHeld ?rest7
 case hy7 => intro W' hSw; (try dsimp only at hSw); obtain ⟨q3,x1⟩ := hSw; go_simp <;> with_reducible rfl
 try simp only [Act.put,List.setIfInBounds_toArray,List.set_cons_zero,List.set_cons_succ]
 refine wpAnyH_take (i := 8) (v := ?_) rfl (by kernel_rfl) (by kernel_rfl) (by kernel_rfl) (fun _ _ _ h => h) (Or.inl ⟨by rfl,?hy8⟩) hHeld ?rest8
 case hy8 => intro W' hSw; (try dsimp only at hSw); obtain ⟨q3,x1⟩ := hSw; go_simp <;> with_reducible rfl
 try simp only [Act.put,List.setIfInBounds_toArray,List.set_cons_zero,List.set_cons_succ]
 refine wpAnyH_take (i := 9) (v := ?_) rfl (by kernel_rfl) (by kernel_rfl) (by kernel_rfl) (fun _ _ _ h => h) (Or.inl ⟨by rfl,?hy9⟩) hHeld ?rest9
 case hy9 => intro W' hSw; (try dsimp only at hSw); obtain ⟨q3,x1⟩ := hSw; go_simp <;> with_reducible rfl
 try simp only [Act.put,List.setIfInBounds_toArray,List.set_cons_zero,List.set_cons_succ]
 refine wpAnyH_take (i := 10) (v := ?_) rfl (by kernel_rfl) (by kernel_rfl) (by kernel_rfl) (fun _ _ _ h => h) (Or.inl ⟨by rfl,?hy10⟩) hHeld ?rest10
 case hy10 => intro W' hSw; (try dsimp only at hSw); obtain ⟨q3,x1⟩ := hSw; go_simp <;> with_reducible rfl
 try simp only [Act.put,List.setIfInBounds_toArray,List.set_cons_zero,List.set_cons_succ]
 refine wpAnyH_take (i := 11) (v := ?_) rfl (by kernel_rfl) (by kernel_rfl) (by kernel_rfl) (fun _ _ _ h => h) (Or.inl ⟨by rfl,?hy11⟩) hHeld ?rest11
 case hy11 => intro W' hSw; (try dsimp only at hSw); obtain ⟨q3,x1⟩ := hSw; go_simp <;> with_reducible rfl
 try simp only [Act.put,List.setIfInBounds_toArray,List.set_cons_zero,List.set_cons_succ]
 refine wpAnyH_take (i := 12) (v := ?_) rfl (by kernel_rfl) (by kernel_rfl) (by kernel_rfl) (fun _ _ _ h => h) (Or.inl ⟨by rfl,?hy12⟩) hHeld ?rest12
 case hy12 => intro W' hSw; (try dsimp only at hSw); obtain ⟨q3,x1⟩ := hSw; go_simp <;> with_reducible rfl
 try simp only [Act.put,List.setIfInBounds_toArray,List.set_cons_zero,List.set_cons_succ]
 refine wpAnyH_take (i := 13) (v := ?_) rfl (by kernel_rfl) (by kernel_rfl) (by kernel_rfl) (fun _ _ _ h => h) (Or.inl ⟨by rfl,?hy13⟩) hHeld ?rest13
 case hy13 => intro W' hSw; (try dsimp only at hSw); obtain ⟨q3,x1⟩ := hSw; go_simp <;> with_reducible rfl
 try simp only [Act.put,List.setIfInBounds_toArray,List.set_cons_zero,List.set_cons_succ]
 refine wpAnyH_take (i := 14) (v := ?_) rfl (by kernel_rfl) (by kernel_rfl) (by kernel_rfl) (fun _ _ _ h => h) (Or.inl ⟨by rfl,?hy14⟩) hHeld ?rest14
 case hy14 => intro W' hSw; (try dsimp only at hSw); obtain ⟨q3,x1⟩ := hSw; go_simp <;> with_reducible rfl
 try simp only [Act.put,List.setIfInBounds_toArray,List.set_cons_zero,List.set_cons_succ]
 refine wpAnyH_ready (rs := [15]) (by kernel_rfl) (by simp) ?_
 refine AllReadyH.cons rfl (fun K' hK => ?_) AllReadyH.nil
 go_simp
 refine hK.out _ _ ⟨q3,x1⟩ (fun hHeld => ?_)
 clear hK K'
 try simp only [Act.put,List.setIfInBounds_toArray,List.set_cons_zero,List.set_cons_succ]
 refine wpAnyH_ready (rs := [16]) (by kernel_rfl) (by simp) ?_
 refine AllReadyH.cons rfl (fun K' hK => ?_) AllReadyH.nil
 go_simp
 refine (HC.out _).mono ?_; rintro e wn ⟨rfl,hbn⟩; have HBB : Hid (Below w1.heap.size w1 wn) := Hd (Aak HBB.out hbn HBB.out.size ⟨rfl,rfl,rfl,rfl⟩); obtain ⟨q3,x1,p0,p1,p2,p3,z0,z1,z2,z3⟩ := HSS.out _ HBB.out
 refine hK.out _ _ ⟨q3,x1⟩ (fun hHeld => ?_)
 clear hK K'
 try simp only [Act.put,List.setIfInBounds_toArray,List.set_cons_zero,List.set_cons_succ]
 refine wpAnyH_take (i := 17) (v := ?_) rfl (by kernel_rfl) (by kernel_rfl) (by kernel_rfl) (fun _ _ _ h => h) (Or.inl ⟨by rfl,?hy17⟩) hHeld ?rest17
 case hy17 => intro W' hSw; (try dsimp only at hSw); obtain ⟨q3,x1⟩ := hSw; go_simp <;> with_reducible rfl
 try simp only [Act.put,List.setIfInBounds_toArray,List.set_cons_zero,List.set_cons_succ]
 refine wpAnyH_ready (rs := [18]) (by kernel_rfl) (by simp) ?_
 refine AllReadyH.cons rfl (fun K' hK => ?_) AllReadyH.nil
 go_simp
 refine hK.out _ _ (HPS.out _ HBB.out _ _ _ _) (fun hHeld => ?_)
 clear hK K'
 try simp only [Act.put,List.setIfInBounds_toArray,List.set_cons_zero,List.set_cons_succ]
 refine wpAnyH_done (by kernel_rfl) ?_ _
 all_goals
  go_wp2_with fail
  go_end0
  obtain ⟨a1,a2⟩ := (HW1.out.below HBB.out).storePip HA.out hi (Aa1 K.pipes[i] true)
  exact ⟨rfl,a1,(HST.out.trans (.of_below HBB.out)).trans a2⟩
theorem Ano (kd : Int) (i : Nat) (off fl rf : Int) (w : World) (hW : Wk w B g A K f) (hi : i < K.pipes.length) (hF : Abw K.pipes[i] = true) : Calls Tryz.prog 102 #[.pointer (some ⟨g,0,none⟩),.agg #[.int .i64 kd,.int .i64 i,.int .i64 off,.int .i64 fl,.int .i64 rf]] w fun e w' => e = .returned (.tuple #[]) ∧ Wk w' B g A { K with pipes := K.pipes.set i (Aa1 K.pipes[i] false) } f ∧ Stepw g A w A w' := by
 obtain ⟨w1,hw1⟩ : ∃ p,p = w.alloc (.cells #[.int .i64 kd,.int .i64 i,.int .i64 off,.int .i64 fl,.int .i64 rf] 70) := ⟨_,rfl⟩
 have hb1 : Below w.heap.size w w1 := by rw [hw1]; exact Aab w _
 have hX : w1.heap[w.heap.size]? = some (.cells #[.int .i64 kd,.int .i64 i,.int .i64 off,.int .i64 fl,.int .i64 rf] 70 (0,0)) := by rw [hw1]; exact Aae w _
 have HW1 := Hd (hW.below hb1)
 have HST := Hd (Stepw.of_below (g := g) (A := A) hb1)
 obtain ⟨go,ha,hgo,hP⟩ := hW.pip hi
 have HA := Hd ha
 have h0 : (0 : Int) ≤ (i : Int) := by omega
 have h1 : (i : Int) < (K.pipes.length : Int) := by omega
 have hsS : ∀ W,Below w1.heap.size w1 W → W.cell? ⟨g,3,none⟩ = some (.slice (some ⟨go,0,none⟩) K.pipes.length A.pc) ∧ W.cell? ⟨w.heap.size,1,none⟩ = some (.int .i64 i) ∧ W.cell? ⟨go,i * 4,none⟩ = some (.string ⟨K.pipes[i].data.toArray⟩) ∧ W.cell? ⟨go,i * 4 + 1,none⟩ = some (.int .i64 K.pipes[i].rd) ∧ W.cell? ⟨go,i * 4 + 2,none⟩ = some (.int .i64 K.pipes[i].wr) ∧ W.cell? ⟨go,i * 4 + 3,none⟩ = some (.int .i64 K.pipes[i].cap) ∧ (W.frozen? ⟨go,i * 4,none⟩ = false ∧ W.frozen? ⟨go,i * 4 + 1,none⟩ = false ∧ W.frozen? ⟨go,i * 4 + 2,none⟩ = false ∧ W.frozen? ⟨go,i * 4 + 3,none⟩ = false) := fun W hW2 => by
  have hk := HW1.out.below hW2
  obtain ⟨go',ha',-,hp'⟩ := hk.pip hi
  rw [HA.out] at ha'
  obtain rfl : go = go' := by simpa using ha'
  have q := hk.kcells.2.2.2.1
  rw [HA.out] at q
  exact ⟨q,Aaa hW2 (bC hX 1),hp'.data,hp'.rd,hp'.wr,hp'.cap,hp'.free _,hp'.free _,hp'.free _,hp'.free _⟩
 have HSS := Hd hsS
 have HBB := Hd (Below.refl w1.heap.size w1)
 have gl : g < w1.heap.size := HW1.out.lt
 have gol : go < w1.heap.size := by have := hP.lt; have := hb1.size; omega
 have hwl : w.heap.size < w1.heap.size := lt_of_block hX
 obtain ⟨q3,x1,p0,p1,p2,p3,z0,z1,z2,z3⟩ := HSS.out _ HBB.out
 have hgg : g ≠ go := fun e => HW1.out.gp _ HA.out e.symm
 have hwg : w.heap.size ≠ go := by have := hP.lt; omega
 have HPS := Hd (show ∀ W,Below w1.heap.size w1 W → ∀ x y z u,(Ade W go (i * 4) x y z u).cell? ⟨g,3,none⟩ = some (.slice (some ⟨go,0,none⟩) K.pipes.length A.pc) ∧ (Ade W go (i * 4) x y z u).cell? ⟨w.heap.size,1,none⟩ = some (.int .i64 i) from fun W hW2 x y z u => by
  obtain ⟨a1,a2,-⟩ := HSS.out W hW2
  have hbt := Ael W go (i * 4) x y z u
  exact ⟨(World.cell?_of_block (a := ⟨g,3,none⟩) (hbt.block g hgg)).trans a1,(World.cell?_of_block (a := ⟨w.heap.size,1,none⟩) (hbt.block _ hwg)).trans a2⟩)
 have HC := Hd (fun W => As5 K.pipes[i] hF false W)
 clear hb1 hX hW ha hP hsS
 go_enter Tryz.func102,Tryz.ntmps102
 go_upto_region 1 with fail
 rw [← hw1]
 clear hw1
 refine wp_region_held_drew (S := (fun W => W.cell? ⟨g,3,none⟩ = some (.slice (some ⟨go,0,none⟩) K.pipes.length A.pc) ∧ W.cell? ⟨w.heap.size,1,none⟩ = some (.int .i64 i))) (by kernel_rfl) ⟨q3,x1⟩ (fun hHeld => ?_)
 refine wpAnyH_take (i := 0) (v := ?_) rfl (by kernel_rfl) (by kernel_rfl) (by kernel_rfl) (fun _ _ _ h => h) (Or.inl ⟨by rfl,?hy0⟩) hHeld ?rest0
 case hy0 => intro W' hSw; (try dsimp only at hSw); obtain ⟨q3,x1⟩ := hSw; go_simp <;> with_reducible rfl
 try simp only [Act.put,List.setIfInBounds_toArray,List.set_cons_zero,List.set_cons_succ]
 refine wpAnyH_take (i := 1) (v := ?_) rfl (by kernel_rfl) (by kernel_rfl) (by kernel_rfl) (fun _ _ _ h => h) (Or.inl ⟨by rfl,?hy1⟩) hHeld ?rest1
 case hy1 => intro W' hSw; (try dsimp only at hSw); obtain ⟨q3,x1⟩ := hSw; go_simp <;> with_reducible rfl
 try simp only [Act.put,List.setIfInBounds_toArray,List.set_cons_zero,List.set_cons_succ]
 refine wpAnyH_take (i := 2) (v := ?_) rfl (by kernel_rfl) (by kernel_rfl) (by kernel_rfl) (fun _ _ _ h => h) (Or.inl ⟨by rfl,?hy2⟩) hHeld ?rest2
 case hy2 => intro W' hSw; (try dsimp only at hSw); obtain ⟨q3,x1⟩ := hSw; go_simp <;> with_reducible rfl
 try simp only [Act.put,List.setIfInBounds_toArray,List.set_cons_zero,List.set_cons_succ]
 refine wpAnyH_take (i := 3) (v := ?_) rfl (by kernel_rfl) (by kernel_rfl) (by kernel_rfl) (fun _ _ _ h => h) (Or.inl ⟨by rfl,?hy3⟩) hHeld ?rest3
 case hy3 => intro W' hSw; (try dsimp only at hSw); obtain ⟨q3,x1⟩ := hSw; go_simp <;> with_reducible rfl
 try simp only [Act.put,List.setIfInBounds_toArray,List.set_cons_zero,List.set_cons_succ]
 refine wpAnyH_take (i := 4) (v := ?_) rfl (by kernel_rfl) (by kernel_rfl) (by kernel_rfl) (fun _ _ _ h => h) (Or.inl ⟨by rfl,?hy4⟩) hHeld ?rest4
 case hy4 => intro W' hSw; (try dsimp only at hSw); obtain ⟨q3,x1⟩ := hSw; go_simp <;> with_reducible rfl
 try simp only [Act.put,List.setIfInBounds_toArray,List.set_cons_zero,List.set_cons_succ]
 refine wpAnyH_take (i := 5) (v := ?_) rfl (by kernel_rfl) (by kernel_rfl) (by kernel_rfl) (fun _ _ _ h => h) (Or.inl ⟨by rfl,?hy5⟩) hHeld ?rest5
 case hy5 => intro W' hSw; (try dsimp only at hSw); obtain ⟨q3,x1⟩ := hSw; go_simp <;> with_reducible rfl
 try simp only [Act.put,List.setIfInBounds_toArray,List.set_cons_zero,List.set_cons_succ]
 refine wpAnyH_take (i := 6) (v := ?_) rfl (by kernel_rfl) (by kernel_rfl) (by kernel_rfl) (fun _ _ _ h => h) (Or.inl ⟨by rfl,?hy6⟩) hHeld ?rest6
 case hy6 => intro W' hSw; (try dsimp only at hSw); obtain ⟨q3,x1⟩ := hSw; go_simp <;> with_reducible rfl
 try simp only [Act.put,List.setIfInBounds_toArray,List.set_cons_zero,List.set_cons_succ]
 refine wpAnyH_take (i := 7) (v := ?_) rfl (by kernel_rfl) (by kernel_rfl) (by kernel_rfl) (fun _ _ _ h => h) (Or.inl ⟨by rfl,?hy7⟩) hHeld ?rest7
 case hy7 => intro W' hSw; (try dsimp only at hSw); obtain ⟨q3,x1⟩ := hSw; go_simp <;> with_reducible rfl
 try simp only [Act.put,List.setIfInBounds_toArray,List.set_cons_zero,List.set_cons_succ]
 refine wpAnyH_take (i := 8) (v := ?_) rfl (by kernel_rfl) (by kernel_rfl) (by kernel_rfl) (fun _ _ _ h => h) (Or.inl ⟨by rfl,?hy8⟩) hHeld ?rest8
 case hy8 => intro W' hSw; (try dsimp only at hSw); obtain ⟨q3,x1⟩ := hSw; go_simp <;> with_reducible rfl
 try simp only [Act.put,List.setIfInBounds_toArray,List.set_cons_zero,List.set_cons_succ]
 refine wpAnyH_take (i := 9) (v := ?_) rfl (by kernel_rfl) (by kernel_rfl) (by kernel_rfl) (fun _ _ _ h => h) (Or.inl ⟨by rfl,?hy9⟩) hHeld ?rest9
 case hy9 => intro W' hSw; (try dsimp only at hSw); obtain ⟨q3,x1⟩ := hSw; go_simp <;> with_reducible rfl
 try simp only [Act.put,List.setIfInBounds_toArray,List.set_cons_zero,List.set_cons_succ]
 refine wpAnyH_take (i := 10) (v := ?_) rfl (by kernel_rfl) (by kernel_rfl) (by kernel_rfl) (fun _ _ _ h => h) (Or.inl ⟨by rfl,?hy10⟩) hHeld ?rest10
 case hy10 => intro W' hSw; (try dsimp only at hSw); obtain ⟨q3,x1⟩ := hSw; go_simp <;> with_reducible rfl
 try simp only [Act.put,List.setIfInBounds_toArray,List.set_cons_zero,List.set_cons_succ]
 refine wpAnyH_take (i := 11) (v := ?_) rfl (by kernel_rfl) (by kernel_rfl) (by kernel_rfl) (fun _ _ _ h => h) (Or.inl ⟨by rfl,?hy11⟩) hHeld ?rest11
 case hy11 => intro W' hSw; (try dsimp only at hSw); obtain ⟨q3,x1⟩ := hSw; go_simp <;> with_reducible rfl
 try simp only [Act.put,List.setIfInBounds_toArray,List.set_cons_zero,List.set_cons_succ]
 refine wpAnyH_take (i := 12) (v := ?_) rfl (by kernel_rfl) (by kernel_rfl) (by kernel_rfl) (fun _ _ _ h => h) (Or.inl ⟨by rfl,?hy12⟩) hHeld ?rest12
 case hy12 => intro W' hSw; (try dsimp only at hSw); obtain ⟨q3,x1⟩ := hSw; go_simp <;> with_reducible rfl
 try simp only [Act.put,List.setIfInBounds_toArray,List.set_cons_zero,List.set_cons_succ]
 refine wpAnyH_take (i := 13) (v := ?_) rfl (by kernel_rfl) (by kernel_rfl) (by kernel_rfl) (fun _ _ _ h => h) (Or.inl ⟨by rfl,?hy13⟩) hHeld ?rest13
 case hy13 => intro W' hSw; (try dsimp only at hSw); obtain ⟨q3,x1⟩ := hSw; go_simp <;> with_reducible rfl
 try simp only [Act.put,List.setIfInBounds_toArray,List.set_cons_zero,List.set_cons_succ]
 refine wpAnyH_take (i := 14) (v := ?_) rfl (by kernel_rfl) (by kernel_rfl) (by kernel_rfl) (fun _ _ _ h => h) (Or.inl ⟨by rfl,?hy14⟩) hHeld ?rest14
 case hy14 => intro W' hSw; (try dsimp only at hSw); obtain ⟨q3,x1⟩ := hSw; go_simp <;> with_reducible rfl
 try simp only [Act.put,List.setIfInBounds_toArray,List.set_cons_zero,List.set_cons_succ]
 refine wpAnyH_ready (rs := [15]) (by kernel_rfl) (by simp) ?_
 refine AllReadyH.cons rfl (fun K' hK => ?_) AllReadyH.nil
 go_simp
 refine hK.out _ _ ⟨q3,x1⟩ (fun hHeld => ?_)
 clear hK K'
 try simp only [Act.put,List.setIfInBounds_toArray,List.set_cons_zero,List.set_cons_succ]
 refine wpAnyH_ready (rs := [16]) (by kernel_rfl) (by simp) ?_
 refine AllReadyH.cons rfl (fun K' hK => ?_) AllReadyH.nil
 go_simp
 refine (HC.out _).mono ?_; rintro e wn ⟨rfl,hbn⟩; have HBB : Hid (Below w1.heap.size w1 wn) := Hd (Aak HBB.out hbn HBB.out.size ⟨rfl,rfl,rfl,rfl⟩); obtain ⟨q3,x1,p0,p1,p2,p3,z0,z1,z2,z3⟩ := HSS.out _ HBB.out
 refine hK.out _ _ ⟨q3,x1⟩ (fun hHeld => ?_)
 clear hK K'
 try simp only [Act.put,List.setIfInBounds_toArray,List.set_cons_zero,List.set_cons_succ]
 refine wpAnyH_take (i := 17) (v := ?_) rfl (by kernel_rfl) (by kernel_rfl) (by kernel_rfl) (fun _ _ _ h => h) (Or.inl ⟨by rfl,?hy17⟩) hHeld ?rest17
 case hy17 => intro W' hSw; (try dsimp only at hSw); obtain ⟨q3,x1⟩ := hSw; go_simp <;> with_reducible rfl
 try simp only [Act.put,List.setIfInBounds_toArray,List.set_cons_zero,List.set_cons_succ]
 refine wpAnyH_ready (rs := [18]) (by kernel_rfl) (by simp) ?_
 refine AllReadyH.cons rfl (fun K' hK => ?_) AllReadyH.nil
 go_simp
 refine hK.out _ _ (HPS.out _ HBB.out _ _ _ _) (fun hHeld => ?_)
 clear hK K'
 try simp only [Act.put,List.setIfInBounds_toArray,List.set_cons_zero,List.set_cons_succ]
 refine wpAnyH_done (by kernel_rfl) ?_ _
 all_goals
  go_wp2_with fail
  go_end0
  obtain ⟨a1,a2⟩ := (HW1.out.below HBB.out).storePip HA.out hi (Aa1 K.pipes[i] false)
  exact ⟨rfl,a1,(HST.out.trans (.of_below HBB.out)).trans a2⟩
end
end Go.Proofs.YtkdfbliiblojoaaGreatDoor
