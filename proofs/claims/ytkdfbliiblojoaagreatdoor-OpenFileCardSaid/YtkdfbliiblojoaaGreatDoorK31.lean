import Derived.Test.YtkdfbliiblojoaaGreatDoorK29
import Derived.Test.YtkdfbliiblojoaaGreatDoorK20
set_option linter.all false
set_option maxRecDepth 100000
set_option maxHeartbeats 64000000
namespace Go.Proofs.YtkdfbliiblojoaaGreatDoor
open Go Go.RowKit
def Aen (B g : Nat) (K' : Krn) (f : List Int) (v : Value) (er : Int) (w : World) (e : Ending) (w' : World) : Prop :=
 e = .returned (.tuple #[v,.int .i64 er]) ∧ Below B w w' ∧ (er = 0 → ∃ A',Wk w' B g A' K' f)
section
variable {B g : Nat} {A : KAd} {K : Krn} {f : List Int}
theorem Aqj (go j n : Nat) (S : ByteArray) (hS : S.size ≤ 1000000) (w : World) (hW : Wk w B g A K f) (hBw : B ≤ w.heap.size) (hj : j < K.opens.length) (ha : A.oa = some ⟨go,0,none⟩) (hn : n < K.tree.length) (hat : K.opens[j].at_ = (n : Int)) (hfl : K.opens[j].flags = 1 ∨ K.opens[j].flags = 2 ∨ K.opens[j].flags = 3 ∨ K.opens[j].flags = 6 ∨ K.opens[j].flags = 7) (hF : FitP K.tree K.m K.b) (off : Int) (hoff : off = if 4 ≤ K.opens[j].flags then (K.tree[n].data.length : Int) else K.opens[j].off) (h0 : 0 ≤ off) (h1 : off ≤ 65536) (L' : List Ino) (er m : Int) (hm : m = if er = 0 then (S.size : Int) else 0) (hz : Aes K.tree K.b (n : Int) off S.data.toList = (L',er)) :
  Calls Tryz.prog 95 #[.pointer (some ⟨g,0,none⟩),.pointer (some ⟨go,j * 5,none⟩),.string S] w (Aen B g { K with tree := L',opens := K.opens.set j { K.opens[j] with off := off + (S.size : Int) } } f (.int .i64 m) er w) := by
 have HM := Hd hm
 clear hm
 have HW := Hd hW
 have HA := Hd ha
 have HAT := Hd hat
 have HBw := Hd hBw
 have HC := Hd (fun W (hN : Aah W A.ta A.tc K.tree) => Aol A.ta A.tc K.m K.b (n : Int) off S hS K.tree hF L' er hz W hN)
 have HSS := Hd (show ∀ W,Below w.heap.size w W → W.cell? ⟨g,0,none⟩ = some (.slice A.ta K.tree.length A.tc) ∧ W.cell? ⟨g,1,none⟩ = some (.int .i64 K.m) ∧ W.cell? ⟨g,2,none⟩ = some (.int .i64 K.b) ∧ W.cell? ⟨go,j * 5 + 1,none⟩ = some (.int .i64 n) from fun W hb => by
  have hk := HW.out.below hb
  obtain ⟨q0,q1,q2,-⟩ := hk.kcells
  have ho := (hk.all hj HA.out).2.at_
  rw [HAT.out] at ho
  exact ⟨q0,q1,q2,ho⟩)
 have gl := hW.lt
 obtain ⟨-,ox0,ox1,ox2,ox3,ox4,gol,-⟩ := hW.all hj ha
 obtain ⟨fl,hflg⟩ : ∃ x,K.opens[j].flags = x := ⟨_,rfl⟩
 obtain ⟨of0,hof0⟩ : ∃ x,K.opens[j].off = x := ⟨_,rfl⟩
 rw [hflg] at ox3 hfl hoff
 rw [hof0] at ox2 hoff
 obtain ⟨bt,ot,hta,hx⟩ := hW.nodes.2.2 n hn
 have xd := hx.data
 have xbl := Aaj xd
 obtain ⟨D,hD⟩ : ∃ D : ByteArray,D = ⟨K.tree[n].data.toArray⟩ := ⟨_,rfl⟩
 have hDs : D.size = K.tree[n].data.length := by rw [hD]; simp [ByteArray.size]
 rw [← hD] at xd
 have HTA := Hd hta
 have HOF := Hd hoff
 have HDS := Hd hDs
 have b0 : (0 : Int) ≤ (n : Int) := by omega
 have b1 : (n : Int) < (K.tree.length : Int) := by omega
 obtain ⟨q0,q1,q2,x1⟩ := HSS.out _ (Below.refl _ _)
 have HH := Hd (And.intro h0 h1)
 clear hW ha hat hF hz hBw hx hD hDs hoff hta h0 h1 ox0 ox1 ox4 hflg hof0
 have hand : bits .and .i64 fl 4 = if 4 ≤ fl then 4 else 0 := by
  rcases hfl with rfl | rfl | rfl | rfl | rfl <;> rfl
 by_cases h4 : 4 ≤ fl
 ·rw [if_pos h4] at hand
  have HF4 := Hd h4
  have hoff : off = (D.size : Int) := by rw [HOF.out,if_pos h4,HDS.out]
  have HOD := Hd hoff
  rw [HTA.out] at q0
  have g0 := Aai q0
  have g1 := Aai x1
  have g2 := Aai xd
  clear hfl h4 hoff
  go_enter Tryz.func95,Tryz.ntmps95
  go_upto_region 3 with fail
  refine Aag (by kernel_rfl) (by kernel_rfl) ?_
  repeat (first | go_big_quiet_skip | (go_big_quiet_want; go_big_quiet_op; go_big_quiet_on))
  refine wpQuiet_nil ?_
  intro wq hwq
  have hbq : Below w.heap.size w wq := by obtain ⟨x,rfl⟩ := hwq; exact x.below
  clear hwq g0 g1 g2 hand
  rw [← HOD.out]
  have HWQ := Hd (HW.out.below hbq)
  have HBQ := Hd hbq
  have HSQ := Hd (show ∀ W,Below wq.heap.size wq W → W.cell? ⟨g,0,none⟩ = some (.slice A.ta K.tree.length A.tc) ∧ W.cell? ⟨g,1,none⟩ = some (.int .i64 K.m) ∧ W.cell? ⟨g,2,none⟩ = some (.int .i64 K.b) ∧ W.cell? ⟨go,j * 5 + 1,none⟩ = some (.int .i64 n) from fun W hb => HSS.out _ (HBQ.out.trans (hb.mono HBQ.out.size)))
  have HBB := Hd (Below.refl wq.heap.size wq)
  clear hbq q0 q1 q2 x1 gl gol xd xbl ox2 ox3
  obtain ⟨q0,q1,q2,x1⟩ := HSQ.out _ HBB.out
  have gl := HWQ.out.lt
  have gol := Aaj x1
  go_upto_region 4 with fail
  go_cut [9,10] from 35 (fun c d wx => ∃ nb gt cap vs,c = .pointer (some ⟨nb,0,none⟩) ∧ d = .int .i64 er ∧ wx.heap[nb]? = some (.cells #[.slice (some ⟨gt,0,none⟩) L'.length cap,.int .i64 K.m,.int .i64 K.b] 24 (0,0)) ∧ OwnT wx wq.heap.size gt cap L' vs ∧ Below wq.heap.size wq wx)
  case first =>
   go_region_held3 (fun W => W.cell? ⟨g,0,none⟩ = some (.slice A.ta K.tree.length A.tc) ∧ W.cell? ⟨g,1,none⟩ = some (.int .i64 K.m) ∧ W.cell? ⟨g,2,none⟩ = some (.int .i64 K.b) ∧ W.cell? ⟨go,j * 5 + 1,none⟩ = some (.int .i64 n))
    (first | exact ⟨q0,q1,q2,x1⟩ | exact HSQ.out _ (Aab _ _) | exact HSQ.out _ (Aac (Aab _ _)) | exact HSQ.out _ HBB.out | exact HSQ.out _ (HBB.out.alloc HBB.out.size _) | exact HSQ.out _ (Aac (HBB.out.alloc HBB.out.size _)) | exact HSQ.out _ (Aa8 HBB.out (Nat.le_refl _) _ _ _) | exact HSQ.out _ (Aac (Aa8 HBB.out (Nat.le_refl _) _ _ _)))
    (first
     | (go_at_call 131; refine (HC.out _ (HWQ.out.below (by first | exact Aab _ _ | exact Aac (Aab _ _) | exact (Aac (Below.refl _ _)).alloc (Nat.le_refl _) _)).nodes).mono ?_; rintro e wn ⟨⟨gt,cap,vs,rfl,hot⟩,hbn⟩; have HBB : Hid (Below wq.heap.size wq wn) := Hd (Aak (Aab wq (.cells #[.slice none 0 0,.int .i64 0,.int .i64 0] 24)) hbn (Aab wq _).size ⟨rfl,rfl,rfl,rfl⟩); have hzz : wn.heap[wq.heap.size]? = some (.cells #[.slice none 0 0,.int .i64 0,.int .i64 0] 24 (0,0)) := (hbn.block wq.heap.size (Nat.lt_of_lt_of_eq (Nat.lt_succ_self _) (World.size_alloc _ _).symm)).trans (Aae wq _); have HZZ := Hd hzz; have HOT := Hd (OwnT.mid (W' := put3 wn wq.heap.size (.slice (some ⟨gt,0,none⟩) L'.length cap) (.int .i64 K.m) (.int .i64 K.b)) hot (fun k hk _ => Abq (fun e => absurd (Nat.lt_of_lt_of_le (Nat.lt_of_lt_of_eq (Nat.lt_succ_self _) (World.size_alloc _ _).symm) hk) (by rw [e]; exact Nat.lt_irrefl _)) _ _ _)); have HOL := Hd (show wq.heap.size ≤ wq.heap.size + 1 from Nat.le_succ _); have e0 := bC hzz 0; have e1 := bC hzz 1; have e2_ := bC hzz 2; have f0 := bF hzz 0; have f1 := bF hzz 1; have f2 := bF hzz 2; have el := lt_of_block hzz; clear hzz hot hbn; obtain ⟨q0,q1,q2,x1⟩ := HSQ.out _ HBB.out)
     | (go_at_call 131; refine (HC.out _ (HWQ.out.below (by first | exact Below.refl _ _ | exact Aac (Below.refl _ _))).nodes).mono ?_; rintro e wn ⟨⟨gt,cap,vs,rfl,hot⟩,hbn⟩; have HBB : Hid (Below wq.heap.size wq wn) := Hd (Aak HBB.out hbn HBB.out.size ⟨rfl,rfl,rfl,rfl⟩); have HOT := Hd (hot.below (Aab wn (.cells #[.slice (some ⟨gt,0,none⟩) L'.length cap,.int .i64 K.m,.int .i64 K.b] 24))); clear hot hbn; obtain ⟨q0,q1,q2,x1⟩ := HSQ.out _ HBB.out))
   all_goals
    go_wp2_with fail
    go_meet
    first
     | exact ⟨wn.heap.size,gt,cap,vs,rfl,rfl,Aae wn _,HOT.out,HBB.out.alloc HBB.out.size _⟩
     | exact ⟨wq.heap.size,gt,cap,vs,rfl,rfl,Ae4 HZZ.out _ _ _,HOT.out.lower (by simp),Aa8 HBB.out (Nat.le_refl _) _ _ _⟩
  case rest =>
   obtain ⟨nb,gt,cap,vs,rfl,rfl,hnb,hot,hbc⟩ := hcut
   clear q0 q1 q2 x1 gl gol HBB
   obtain ⟨wb,hwb⟩ : ∃ z,z = wc := ⟨_,rfl⟩
   rw [← hwb] at hnb hbc hot ⊢
   have HBC := Hd hbc
   have HOT := Hd hot
   have e0 := bC hnb 0
   have e1 := bC hnb 1
   have e2_ := bC hnb 2
   have el := lt_of_block hnb
   clear hnb hot hbc hwb
   by_cases he : er = 0
   ·subst he
    have hwb2 := HWQ.out.below HBC.out
    have gl := hwb2.lt
    have s0 := hwb2.free 0
    have s1 := hwb2.free 1
    have s2 := hwb2.free 2
    obtain ⟨t0,t1,t2,-⟩ := hwb2.kcells
    obtain ⟨-,y0,y1,y2,y3,y4,gol,yf⟩ := hwb2.all hj HA.out
    have yf2 := yf (j * 5 + 2)
    obtain ⟨hh0,hh1⟩ := HH.out
    have hrw : IntKind.i64.wrap (off + (S.size : Int)) = off + (S.size : Int) := by rw [IntKind.wrap_i64]; omega
    have hgo : go ≠ g := fun e => hwb2.go _ HA.out e
    obtain ⟨a1,a2⟩ := HWQ.out.newTree HBC.out HOT.out
    have HA1 := Hd a1
    have HA2 := Hd a2
    obtain ⟨c1,c2⟩ := a1.storeOff HA.out hj (off + (S.size : Int))
    have HC1 := Hd c1
    have HC2 := Hd c2
    clear hwb2 yf a1 a2 c1 c2 y0 y1 y3 y4 hh0 hh1
    go_wp2_with fail
    go_ret2
    exact ⟨by rw [show m = (S.size : Int) by simpa using HM.out]; rfl,HW.out.low ((Stepw.of_below HBQ.out).trans (HA2.out.trans HC2.out)) HBw.out,fun _ => ⟨_,HC1.out⟩⟩
   ·have heb : (er != 0) = true := by simpa using he
    have HE := Hd he
    clear he
    go_wp2_with fail
    go_ret2
    exact ⟨by rw [show m = 0 by simpa [HE.out] using HM.out]; rfl,(HBQ.out.trans (HBC.out.mono HBQ.out.size)).mono HBw.out,fun h => absurd h HE.out⟩
 ·rw [if_neg h4] at hand
  have hoff : off = of0 := by rw [HOF.out,if_neg h4]
  have hbq : Below w.heap.size w w := Below.refl _ _
  rw [← hoff] at ox2
  clear hfl h4 hoff
  go_enter Tryz.func95,Tryz.ntmps95
  go_upto_region 4 with fail
  clear hand
  have HWQ := Hd (HW.out.below hbq)
  have HBQ := Hd hbq
  have HSQ := Hd (show ∀ W,Below w.heap.size w W → W.cell? ⟨g,0,none⟩ = some (.slice A.ta K.tree.length A.tc) ∧ W.cell? ⟨g,1,none⟩ = some (.int .i64 K.m) ∧ W.cell? ⟨g,2,none⟩ = some (.int .i64 K.b) ∧ W.cell? ⟨go,j * 5 + 1,none⟩ = some (.int .i64 n) from fun W hb => HSS.out _ (HBQ.out.trans (hb.mono HBQ.out.size)))
  have HBB := Hd (Below.refl w.heap.size w)
  clear hbq q0 q1 q2 x1 gl gol xd xbl ox2 ox3
  obtain ⟨q0,q1,q2,x1⟩ := HSQ.out _ HBB.out
  have gl := HWQ.out.lt
  have gol := Aaj x1
  go_cut [9,10] from 35 (fun c d wx => ∃ nb gt cap vs,c = .pointer (some ⟨nb,0,none⟩) ∧ d = .int .i64 er ∧ wx.heap[nb]? = some (.cells #[.slice (some ⟨gt,0,none⟩) L'.length cap,.int .i64 K.m,.int .i64 K.b] 24 (0,0)) ∧ OwnT wx w.heap.size gt cap L' vs ∧ Below w.heap.size w wx)
  case first =>
   go_region_held3 (fun W => W.cell? ⟨g,0,none⟩ = some (.slice A.ta K.tree.length A.tc) ∧ W.cell? ⟨g,1,none⟩ = some (.int .i64 K.m) ∧ W.cell? ⟨g,2,none⟩ = some (.int .i64 K.b) ∧ W.cell? ⟨go,j * 5 + 1,none⟩ = some (.int .i64 n))
    (first | exact ⟨q0,q1,q2,x1⟩ | exact HSQ.out _ (Aab _ _) | exact HSQ.out _ (Aac (Aab _ _)) | exact HSQ.out _ HBB.out | exact HSQ.out _ (HBB.out.alloc HBB.out.size _) | exact HSQ.out _ (Aac (HBB.out.alloc HBB.out.size _)) | exact HSQ.out _ (Aa8 HBB.out (Nat.le_refl _) _ _ _) | exact HSQ.out _ (Aac (Aa8 HBB.out (Nat.le_refl _) _ _ _)))
    (first
     | (go_at_call 131; refine (HC.out _ (HWQ.out.below (by first | exact Aab _ _ | exact Aac (Aab _ _) | exact (Aac (Below.refl _ _)).alloc (Nat.le_refl _) _)).nodes).mono ?_; rintro e wn ⟨⟨gt,cap,vs,rfl,hot⟩,hbn⟩; have HBB : Hid (Below w.heap.size w wn) := Hd (Aak (Aab w (.cells #[.slice none 0 0,.int .i64 0,.int .i64 0] 24)) hbn (Aab w _).size ⟨rfl,rfl,rfl,rfl⟩); have hzz : wn.heap[w.heap.size]? = some (.cells #[.slice none 0 0,.int .i64 0,.int .i64 0] 24 (0,0)) := (hbn.block w.heap.size (Nat.lt_of_lt_of_eq (Nat.lt_succ_self _) (World.size_alloc _ _).symm)).trans (Aae w _); have HZZ := Hd hzz; have HOT := Hd (OwnT.mid (W' := put3 wn w.heap.size (.slice (some ⟨gt,0,none⟩) L'.length cap) (.int .i64 K.m) (.int .i64 K.b)) hot (fun k hk _ => Abq (fun e => absurd (Nat.lt_of_lt_of_le (Nat.lt_of_lt_of_eq (Nat.lt_succ_self _) (World.size_alloc _ _).symm) hk) (by rw [e]; exact Nat.lt_irrefl _)) _ _ _)); have HOL := Hd (show w.heap.size ≤ w.heap.size + 1 from Nat.le_succ _); have e0 := bC hzz 0; have e1 := bC hzz 1; have e2_ := bC hzz 2; have f0 := bF hzz 0; have f1 := bF hzz 1; have f2 := bF hzz 2; have el := lt_of_block hzz; clear hzz hot hbn; obtain ⟨q0,q1,q2,x1⟩ := HSQ.out _ HBB.out)
     | (go_at_call 131; refine (HC.out _ (HWQ.out.below (by first | exact Below.refl _ _ | exact Aac (Below.refl _ _))).nodes).mono ?_; rintro e wn ⟨⟨gt,cap,vs,rfl,hot⟩,hbn⟩; have HBB : Hid (Below w.heap.size w wn) := Hd (Aak HBB.out hbn HBB.out.size ⟨rfl,rfl,rfl,rfl⟩); have HOT := Hd (hot.below (Aab wn (.cells #[.slice (some ⟨gt,0,none⟩) L'.length cap,.int .i64 K.m,.int .i64 K.b] 24))); clear hot hbn; obtain ⟨q0,q1,q2,x1⟩ := HSQ.out _ HBB.out))
   all_goals
    go_wp2_with fail
    go_meet
    first
     | exact ⟨wn.heap.size,gt,cap,vs,rfl,rfl,Aae wn _,HOT.out,HBB.out.alloc HBB.out.size _⟩
     | exact ⟨w.heap.size,gt,cap,vs,rfl,rfl,Ae4 HZZ.out _ _ _,HOT.out.lower (by simp),Aa8 HBB.out (Nat.le_refl _) _ _ _⟩
  case rest =>
   obtain ⟨nb,gt,cap,vs,rfl,rfl,hnb,hot,hbc⟩ := hcut
   clear q0 q1 q2 x1 gl gol HBB
   obtain ⟨wb,hwb⟩ : ∃ z,z = wc := ⟨_,rfl⟩
   rw [← hwb] at hnb hbc hot ⊢
   have HBC := Hd hbc
   have HOT := Hd hot
   have e0 := bC hnb 0
   have e1 := bC hnb 1
   have e2_ := bC hnb 2
   have el := lt_of_block hnb
   clear hnb hot hbc hwb
   by_cases he : er = 0
   ·subst he
    have hwb2 := HWQ.out.below HBC.out
    have gl := hwb2.lt
    have s0 := hwb2.free 0
    have s1 := hwb2.free 1
    have s2 := hwb2.free 2
    obtain ⟨t0,t1,t2,-⟩ := hwb2.kcells
    obtain ⟨-,y0,y1,y2,y3,y4,gol,yf⟩ := hwb2.all hj HA.out
    have yf2 := yf (j * 5 + 2)
    obtain ⟨hh0,hh1⟩ := HH.out
    have hrw : IntKind.i64.wrap (off + (S.size : Int)) = off + (S.size : Int) := by rw [IntKind.wrap_i64]; omega
    have hgo : go ≠ g := fun e => hwb2.go _ HA.out e
    obtain ⟨a1,a2⟩ := HWQ.out.newTree HBC.out HOT.out
    have HA1 := Hd a1
    have HA2 := Hd a2
    obtain ⟨c1,c2⟩ := a1.storeOff HA.out hj (off + (S.size : Int))
    have HC1 := Hd c1
    have HC2 := Hd c2
    clear hwb2 yf a1 a2 c1 c2 y0 y1 y3 y4 hh0 hh1
    go_wp2_with fail
    go_ret2
    exact ⟨by rw [show m = (S.size : Int) by simpa using HM.out]; rfl,HW.out.low ((Stepw.of_below HBQ.out).trans (HA2.out.trans HC2.out)) HBw.out,fun _ => ⟨_,HC1.out⟩⟩
   ·have heb : (er != 0) = true := by simpa using he
    have HE := Hd he
    clear he
    go_wp2_with fail
    go_ret2
    exact ⟨by rw [show m = 0 by simpa [HE.out] using HM.out]; rfl,(HBQ.out.trans (HBC.out.mono HBQ.out.size)).mono HBw.out,fun h => absurd h HE.out⟩
end
end Go.Proofs.YtkdfbliiblojoaaGreatDoor
