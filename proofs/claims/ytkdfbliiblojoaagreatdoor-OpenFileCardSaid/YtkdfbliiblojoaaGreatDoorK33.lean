import Derived.Deep.RegionWith
import Derived.Deep.DrawnRows
import Derived.Test.YtkdfbliiblojoaaGreatDoorK30
set_option linter.all false
set_option maxRecDepth 100000
set_option maxHeartbeats 64000000
namespace Go.Proofs.YtkdfbliiblojoaaGreatDoor
open Go Go.RowKit
theorem Auv {K : List (List UInt8 × Int)} {s : List UInt8} (k : Int) (_hR : Afy K) (hn : ∀ e ∈ K,e.1 ≠ s) : ∃ i,i ≤ K.length ∧ Abs K s k = insK K i (s,k) ∧ ∀ e,BAns K s e → e = .returned (.tuple #[.int .i64 i,.bool false]) := by
 obtain ⟨A,B,h1,h2,h3,h4⟩ := Af7 K s k hn
 have hA : K.take A.length = A := by rw [h1]; simp
 have hB : K.drop A.length = B := by rw [h1]; simp
 refine ⟨A.length,by rw [h1,List.length_append]; omega,by rw [h2]; unfold insK; rw [hA,hB],?_⟩
 rintro e ⟨i,v,rfl,hi,hv,hlo,hhi⟩
 have hlen : K.length = A.length + B.length := by rw [h1,List.length_append]
 have hvf : v = false := by
  cases v with
  | false => rfl
  | true =>
   obtain ⟨h,he⟩ := hv.1 rfl
   exact absurd he (hn _ (List.getElem_mem h))
 have hiA : i = A.length := by
  rcases Nat.lt_trichotomy i A.length with h | h | h
  ·exfalso
   have hx := hhi i (by omega) (Nat.le_refl _)
   have hm : K[i]'(by omega) = A[i] := by simp only [h1,List.getElem_append_left h]
   rw [hm,h3 _ (List.getElem_mem h)] at hx
   cases hx
  ·exact h
  ·exfalso
   cases B with
   | nil => simp only [List.length_nil] at hlen; omega
   | cons b r =>
    have hl : A.length < K.length := by rw [hlen,List.length_cons]; omega
    have hx := hlo A.length hl h
    have hm : K[A.length] = b := by simp only [h1]; rw [List.getElem_append_right (Nat.le_refl _)]; simp
    rw [hm] at hx
    have hy := h4 b r rfl
    have h0 := Ac2 _ _ _ hx hy
    rw [Acw] at h0
    cases h0
 rw [hiA,hvf]
theorem Akw (M : List (List UInt8 × Int)) (hM : M.length ≤ 1024) (hR : Afy M) (s : List UInt8) (i : Nat) (hans : ∀ e,BAns M s e → e = .returned (.tuple #[.int .i64 i,.bool false])) (ka : Option Addr) (kcap : Nat) (w : World) (hK : Acc w (.slice ka M.length kcap) M) :
  Calls Tryz.prog 201 #[.slice ka M.length kcap,.string ⟨s.toArray⟩,.func (.func 205) #[] #[]] w fun e w' => e = .returned (.tuple #[.int .i64 i,.bool false]) ∧ Below w.heap.size w w' :=
 (Ank M hM hR s ka kcap w hK).mono fun e _ h => ⟨hans e h.1,h.2⟩
theorem Asx (K : List (List UInt8 × Int)) (s : List UInt8) (k : Int) (hl : K.length ≤ 4096) (hl2 : K.length ≤ 1024) (hR : Afy K) (hn : ∀ e ∈ K,e.1 ≠ s) (v : Value) (w : World) (hK : Acc w v K) :
  Calls Tryz.prog 195 #[v,.string ⟨s.toArray⟩,.int .i64 k] w fun e w' => ∃ v',e = .returned v' ∧ Aba w' w.heap.size v' (Abs K s k) ∧ Below w.heap.size w w' := by
 obtain ⟨i,hi,hins,hans⟩ := Auv k hR hn
 obtain ⟨ka,kc,rfl,hk1⟩ := hK
 have HK := Hd (show Acc w (.slice ka K.length kc) K from ⟨ka,kc,rfl,hk1⟩)
 have HINS := Hd hins
 have HANS := Hd hans
 have HR := Hd hR
 clear hk1 hins hans hR hn
 go_enter Tryz.func195,Tryz.ntmps195
 go_wp2_with fail
 refine (Akw K hl2 HR.out s i HANS.out ka kc _ HK.out).mono ?_
 rintro e w1 ⟨rfl,hb1⟩
 have HB1 := Hd hb1
 have HK1 := Hd (HK.out.below hb1)
 clear hb1
 go_wp2_with fail
 refine (Aiu _ K (by omega) _ HK1.out).mono ?_
 rintro e w2 ⟨v2,rfl,hO2,hb2⟩
 obtain ⟨va,vc,rfl⟩ := hO2.form
 have HO2 := Hd hO2
 have HB2 := Hd hb2
 have hs1 := HB1.out.size
 have hs2 := hb2.size
 clear hO2 hb2
 go_wp2_with fail
 obtain ⟨w3,hw3⟩ : ∃ w3,w3 = w2.alloc (.cells #[.string ⟨s.toArray⟩,.int .i64 k] 139) := ⟨_,rfl⟩
 have hb3 : Below w2.heap.size w2 w3 := by rw [hw3]; exact Aab w2 _
 have hs3 : w3.heap.size = w2.heap.size + 1 := by rw [hw3]; simp
 have hE3 : w3.heap[w2.heap.size]? = some (.cells (entC (s,k)).toArray 139 (0,0)) := by rw [hw3]; exact Aae w2 _
 have hO3 : Aba w3 w.heap.size (.slice va K.length vc) K := (HO2.out.same fun j hj => hb3.block j ((HO2.out).lt j hj).2).lower (by omega)
 have hoff : (.slice va K.length vc : Value).ownBlock ≠ some w2.heap.size := fun e => by
  have := (HO2.out.lt w2.heap.size e).2
  omega
 have hI := Ana w.heap.size (.slice va K.length vc) K i (s,k) w2.heap.size 1 w3 hO3 hi (by omega) (by omega) hE3 hoff
 have HI := Hd hI
 have HO3 := Hd hO3
 have HB3 := Hd hb3
 rw [← hw3]
 clear hI hO3 hb3 hE3 hw3
 refine HI.out.mono ?_
 rintro e w4 ⟨v4,rfl,hk4,hg4,hv4⟩
 obtain ⟨xa,xc,rfl⟩ := hk4.form
 have HK4 := Hd hk4
 have hb4 : Below w.heap.size w w4 := by
  have h3 : Below w.heap.size w w3 := HB1.out.trans ((HB2.out.mono (by omega)).trans (HB3.out.mono (by omega)))
  refine h3.grown hg4 (by have := h3.size; omega) (fun r hr => (HO3.out.lt r hr).1)
 have HB4 := Hd hb4
 clear hk4 hg4 hv4 hb4
 go_wp2_with fail
 go_ret
 exact ⟨_,rfl,by rw [HINS.out]; exact HK4.out,HB4.out⟩
theorem Aew {n : Nat} {A B B' C : World} (h : Below n A B) (k : Below B'.heap.size B' C) (hn : n ≤ B.heap.size) (e : B'.os = B.os ∧ B'.tape = B.tape ∧ B'.output = B.output ∧ B'.heap = B.heap) : Below n A C := by
 have h' : Below n A B' := ⟨e.1.trans h.os,e.2.1.trans h.tape,e.2.2.1.trans h.output,by rw [e.2.2.2]; exact h.size,by rw [e.2.2.2]; exact h.block⟩
 exact h'.trans (k.mono (by rw [e.2.2.2]; exact hn))
theorem Aff (a : Option Addr) (cap : Nat) (m b cwd : Int) (pb : ByteArray) (hp : pb.size ≤ 1073741824) (L : List Ino) (z : Int) (hz : badW L cwd pb.data.toList = z) (w : World) (hN : Aah w a cap L) :
  Calls Tryz.prog 76 #[.agg #[.slice a L.length cap,.int .i64 m,.int .i64 b],.int .i64 cwd,.string pb] w fun e w' => e = .returned (.int .i64 z) ∧ Below w.heap.size w w' := by
 subst hz
 exact Aw1 a cap m b cwd pb.data.toList (by rw [Aas]; exact hp) L w hN
theorem Aeu (cwd : Int) (pb : ByteArray) (z : Int) (hz : Adn cwd pb.data.toList = z) (w : World) :
  Calls Tryz.prog 78 #[.int .i64 cwd,.string pb] w fun e w' => e = .returned (.int .i64 z) ∧ w = w' := by
 subst hz
 exact Arh cwd pb.data.toList w
theorem Awv (pb : ByteArray) (h : 0 < pb.size) : endL pb.data.toList = (((pb[pb.size - 1]'(by omega)).toNat : Int) == 47) := by
 unfold endL
 rw [Aug pb h,Bool.eq_iff_iff,beq_iff_eq,beq_iff_eq,Option.some.injEq,← UInt8.toNat_inj]
 show _ = 47 ↔ _
 omega
theorem As6 (a : Option Addr) (cap : Nat) (m b cwd : Int) (pb : ByteArray) (hp : pb.size ≤ 1073741824) (follow : Bool) (L : List Ino) (hF : FitP L m b) (w : World) (hN : Aah w a cap L) :
  Calls Tryz.prog 34 #[.agg #[.slice a L.length cap,.int .i64 m,.int .i64 b],.int .i64 cwd,.string pb,.bool follow] w fun e w' => e = .returned (.tuple #[.int .i64 (Acv L cwd pb.data.toList follow).1,.int .i64 (Acv L cwd pb.data.toList follow).2]) ∧ Below w.heap.size w w' := by
 obtain ⟨w1,hw1⟩ : ∃ w1,w1 = w.alloc (.cells #[.slice a L.length cap,.int .i64 m,.int .i64 b] 24) := ⟨_,rfl⟩
 have hb1 := Aab w (.cells #[.slice a L.length cap,.int .i64 m,.int .i64 b] 24)
 have hM := hN.below hb1
 have hsz : w1.heap.size = w.heap.size + 1 := by rw [hw1]; simp
 have hbox : ∀ W',Below w1.heap.size w1 W' → W'.cell? ⟨w.heap.size,0,none⟩ = some (.slice a L.length cap) ∧ W'.cell? ⟨w.heap.size,1,none⟩ = some (.int .i64 m) ∧ W'.cell? ⟨w.heap.size,2,none⟩ = some (.int .i64 b) := fun W' h => box3 (by rw [← hw1]; exact h)
 rw [← hw1] at hM hb1
 have HM := Hd hM
 have HB := Hd hb1
 have HX := Hd hbox
 have HEND := Hd (show ∀ W',Below w1.heap.size w1 W' → Below w.heap.size w W' from fun W' h => HB.out.trans (h.mono (by rw [hsz]; omega)))
 have HF := Hd hF
 obtain ⟨R,hR⟩ : ∃ R,R = Acv L cwd pb.data.toList follow := ⟨_,rfl⟩
 rw [← hR]
 have HR := Hd hR
 obtain ⟨z,hz⟩ : ∃ z,badW L cwd pb.data.toList = z := ⟨_,rfl⟩
 have HZ := Hd hz
 clear hM hN hb1 hbox hsz hF hR
 by_cases hbad : z ≠ 0
 ·have hzb : (z != 0) = true := by simpa using hbad
  have HW := Hd (show R = (0,z) by rw [HR.out]; unfold Acv; rw [hz,if_pos hbad])
  clear hbad hz
  go_enter Tryz.func34,Tryz.ntmps34
  go_wp2_with fail
  rw [← hw1]
  refine (Aff _ _ _ _ _ _ hp L z HZ.out _ HM.out).mono ?_
  rintro e w2 ⟨rfl,hb2⟩
  go_wp2_with fail
  go_ret2
  exact ⟨by rw [HW.out]; rfl,HEND.out _ hb2⟩
 ·obtain rfl : z = 0 := by simpa using hbad
  have hpne : pb.data.toList ≠ [] := fun e => by
   unfold badW at hz
   rw [if_pos (Or.inl e)] at hz
   cases hz
  have hp0 : 0 < pb.size := by
   rcases Nat.eq_zero_or_pos pb.size with h | h
   ·exact absurd (List.length_eq_zero_iff.1 (by rw [Aas]; exact h)) hpne
   ·exact h
  have heb := Awv pb hp0
  obtain ⟨st,hst⟩ : ∃ st,Adn cwd pb.data.toList = st := ⟨_,rfl⟩
  have HST := Hd hst
  obtain ⟨N,hNe⟩ : ∃ N,N = Aan pb.data.toList := ⟨_,rfl⟩
  have hlong : pb.size ≤ 1024 := by
   unfold badW at hz
   rw [if_neg (fun h => by rcases h with h | h; exact hpne h; rw [if_pos (Or.inr h)] at hz; cases hz)] at hz
   by_cases hl : Ahl pb.data.toList = true
   ·rw [if_pos hl] at hz; cases hz
   ·unfold Ahl at hl
    rw [Bool.or_eq_true,decide_eq_true_eq,Aas] at hl
    omega
  have HNL := Hd (show N.length ≤ 5000 by rw [hNe]; have := Aci pb.data.toList; rw [Aas] at this; omega)
  have hpa := Ahr pb hp
  rw [← hNe] at hpa
  have HPA := Hd (show ∀ W,Calls Tryz.prog 79 #[.string pb] W fun e w' => ∃ v,e = .returned v ∧ View w' v N ∧ Below W.heap.size W w' from fun W => (hpa W).mono fun e w' ⟨v,h1,h2,h3⟩ => ⟨v,h1,h2.view,h3⟩)
  obtain ⟨s,hsl⟩ : ∃ s,(((pb[pb.size - 1]'(by omega)).toNat : Int) == 47) = s := ⟨_,rfl⟩
  rw [hsl] at heb
  obtain ⟨kz,hkz⟩ : ∃ kz,kz = (wayW L (follow || s) 8 N st).1 := ⟨_,rfl⟩
  obtain ⟨ez,hez⟩ : ∃ ez,ez = (wayW L (follow || s) 8 N st).2 := ⟨_,rfl⟩
  have HWAY := Hd (show ∀ lb,lb = (follow || s) → ∀ W v,Below w1.heap.size w1 W → View W v N → Calls Tryz.prog 77 #[.agg #[.slice a L.length cap,.int .i64 m,.int .i64 b],.int .i64 st,v,.bool lb] W fun e w' => e = .returned (.tuple #[.int .i64 kz,.int .i64 ez]) ∧ Below W.heap.size W w' from fun lb hlb W v hW hv => by
   subst hlb
   rw [hkz,hez]
   exact Awz a cap m b st _ N HNL.out v L HF.out W (HM.out.below hW) hv)
  have HW := Hd (show R = if ez ≠ 0 then (0,ez) else if s = true ∧ dirB L kz = false then (0,20) else (kz,0) by
   rw [HR.out]
   unfold Acv
   rw [hz,if_neg (by simp),hst,← hNe,heb,← hez,← hkz])
  obtain ⟨dz,hdz⟩ : ∃ dz,dirB L kz = dz := ⟨_,rfl⟩
  have HDZ := Hd hdz
  rw [hdz] at HW
  clear hz hpne heb hst hNe hpa hkz hez hdz hbad HR
  cases follow
  case false =>
   cases s
   case false =>
    go_enter Tryz.func34,Tryz.ntmps34
    go_wp2_with fail
    rw [← hw1]
    refine (Aff _ _ _ _ _ _ hp L 0 HZ.out _ HM.out).mono ?_
    rintro e w2 ⟨rfl,hb2⟩
    have HBB := Hd hb2
    obtain ⟨q0,q1,q2⟩ := HX.out _ hb2
    clear hb2
    go_wp2_with fail
    go_region_held3 (fun W => W.cell? ⟨w.heap.size,0,none⟩ = some (.slice a L.length cap) ∧ W.cell? ⟨w.heap.size,1,none⟩ = some (.int .i64 m) ∧ W.cell? ⟨w.heap.size,2,none⟩ = some (.int .i64 b)) (exact ⟨q0,q1,q2⟩) (first | (go_at_call 78; refine (Aeu _ _ _ HST.out _).mono ?_; rintro e wn ⟨rfl,rfl⟩) | (go_at_call 79; refine (HPA.out _).mono ?_; rintro e wn ⟨vn,rfl,hvn,hbn⟩; have HVN := Hd hvn; have HBB : Hid (Below w1.heap.size w1 wn) := Hd (Aew HBB.out hbn HBB.out.size ⟨rfl,rfl,rfl,rfl⟩); obtain ⟨q0,q1,q2⟩ := HX.out _ HBB.out) | (go_at_call 77; refine (HWAY.out _ rfl _ _ ?_ HVN.out).mono ?_; (exact ⟨HBB.out.os,HBB.out.tape,HBB.out.output,HBB.out.size,HBB.out.block⟩); rintro e wn ⟨rfl,hbn⟩; have HBB : Hid (Below w1.heap.size w1 wn) := Hd (Aew HBB.out hbn HBB.out.size ⟨rfl,rfl,rfl,rfl⟩); obtain ⟨q0,q1,q2⟩ := HX.out _ HBB.out))
    cases he : (ez != 0) with
    | true =>
     have HW2 := Hd (show R = (0,ez) by rw [HW.out,if_pos (by simpa using he)])
     go_wp2_with fail
     go_ret2
     exact ⟨by rw [HW2.out]; rfl,HEND.out _ HBB.out⟩
    | false =>
     have hz0 : ez = 0 := by simpa using he
     subst hz0
     have HW2 := Hd (show R = (kz,0) by rw [HW.out,if_neg (by simp),if_neg (by simp)])
     go_wp2_with fail
     go_ret2
     exact ⟨by rw [HW2.out]; rfl,HEND.out _ HBB.out⟩
   case true =>
    go_enter Tryz.func34,Tryz.ntmps34
    go_wp2_with fail
    rw [← hw1]
    refine (Aff _ _ _ _ _ _ hp L 0 HZ.out _ HM.out).mono ?_
    rintro e w2 ⟨rfl,hb2⟩
    have HBB := Hd hb2
    obtain ⟨q0,q1,q2⟩ := HX.out _ hb2
    clear hb2
    go_wp2_with fail
    go_region_held3 (fun W => W.cell? ⟨w.heap.size,0,none⟩ = some (.slice a L.length cap) ∧ W.cell? ⟨w.heap.size,1,none⟩ = some (.int .i64 m) ∧ W.cell? ⟨w.heap.size,2,none⟩ = some (.int .i64 b)) (exact ⟨q0,q1,q2⟩) (first | (go_at_call 78; refine (Aeu _ _ _ HST.out _).mono ?_; rintro e wn ⟨rfl,rfl⟩) | (go_at_call 79; refine (HPA.out _).mono ?_; rintro e wn ⟨vn,rfl,hvn,hbn⟩; have HVN := Hd hvn; have HBB : Hid (Below w1.heap.size w1 wn) := Hd (Aew HBB.out hbn HBB.out.size ⟨rfl,rfl,rfl,rfl⟩); obtain ⟨q0,q1,q2⟩ := HX.out _ HBB.out) | (go_at_call 77; refine (HWAY.out _ rfl _ _ ?_ HVN.out).mono ?_; (exact ⟨HBB.out.os,HBB.out.tape,HBB.out.output,HBB.out.size,HBB.out.block⟩); rintro e wn ⟨rfl,hbn⟩; have HBB : Hid (Below w1.heap.size w1 wn) := Hd (Aew HBB.out hbn HBB.out.size ⟨rfl,rfl,rfl,rfl⟩); obtain ⟨q0,q1,q2⟩ := HX.out _ HBB.out))
    cases he : (ez != 0) with
    | true =>
     have HW2 := Hd (show R = (0,ez) by rw [HW.out,if_pos (by simpa using he)])
     go_wp2_with fail
     go_ret2
     exact ⟨by rw [HW2.out]; rfl,HEND.out _ HBB.out⟩
    | false =>
     have hz0 : ez = 0 := by simpa using he
     subst hz0
     cases dz with
     | false =>
      have HW2 := Hd (show R = (0,20) by rw [HW.out,if_neg (by simp),if_pos (by simp)])
      go_wp2_with (first | (go_at_call 80; refine (Acp _ _ _ _ _ L _ HDZ.out _ (HM.out.below HBB.out)).mono ?_; rintro e w7 ⟨rfl,hb7⟩; have HB7 := Hd (HBB.out.trans (hb7.mono HBB.out.size))) | fail)
      go_ret2
      exact ⟨by rw [HW2.out]; rfl,HEND.out _ HB7.out⟩
     | true =>
      have HW2 := Hd (show R = (kz,0) by rw [HW.out,if_neg (by simp),if_neg (by simp)])
      go_wp2_with (first | (go_at_call 80; refine (Acp _ _ _ _ _ L _ HDZ.out _ (HM.out.below HBB.out)).mono ?_; rintro e w7 ⟨rfl,hb7⟩; have HB7 := Hd (HBB.out.trans (hb7.mono HBB.out.size))) | fail)
      go_ret2
      exact ⟨by rw [HW2.out]; rfl,HEND.out _ HB7.out⟩
  case true =>
   cases s
   case false =>
    go_enter Tryz.func34,Tryz.ntmps34
    go_wp2_with fail
    rw [← hw1]
    refine (Aff _ _ _ _ _ _ hp L 0 HZ.out _ HM.out).mono ?_
    rintro e w2 ⟨rfl,hb2⟩
    have HBB := Hd hb2
    obtain ⟨q0,q1,q2⟩ := HX.out _ hb2
    clear hb2
    go_wp2_with fail
    refine wp_region_held_drew (S := fun W => W.cell? ⟨w.heap.size,0,none⟩ = some (.slice a L.length cap) ∧ W.cell? ⟨w.heap.size,1,none⟩ = some (.int .i64 m) ∧ W.cell? ⟨w.heap.size,2,none⟩ = some (.int .i64 b)) (by kernel_rfl) ⟨q0,q1,q2⟩ (fun hHeld => ?_)
    refine wpAnyH_take (i := 0) (v := ?_) rfl (by kernel_rfl) (by kernel_rfl) (by kernel_rfl) (fun _ _ _ h => h) (Or.inl ⟨by rfl,?hy0⟩) (by assumption) ?rest0
    case hy0 => intro W hSw; obtain ⟨s0,s1,s2⟩ := hSw; go_simp <;> with_reducible rfl
    try simp only [Act.put,List.setIfInBounds_toArray]
    refine wpAnyH_take (i := 1) (v := ?_) rfl (by kernel_rfl) (by kernel_rfl) (by kernel_rfl) (fun _ _ _ h => h) (Or.inl ⟨by rfl,?hy1⟩) (by assumption) ?rest1
    case hy1 => intro W hSw; obtain ⟨s0,s1,s2⟩ := hSw; go_simp <;> with_reducible rfl
    try simp only [Act.put]
    refine wpAnyH_take (i := 2) (v := ?_) rfl (by kernel_rfl) (by kernel_rfl) (by kernel_rfl) (fun _ _ _ h => h) (Or.inl ⟨by rfl,?hy2⟩) (by assumption) ?rest2
    case hy2 => intro W hSw; obtain ⟨s0,s1,s2⟩ := hSw; go_simp <;> with_reducible rfl
    try simp only [Act.put]
    refine wpAnyH_take (i := 4) (v := ?_) rfl (by kernel_rfl) (by kernel_rfl) (by kernel_rfl) (fun _ _ _ h => h) (Or.inl ⟨by rfl,?hy4⟩) (by assumption) ?rest4
    case hy4 => intro W hSw; obtain ⟨s0,s1,s2⟩ := hSw; go_simp <;> with_reducible rfl
    try simp only [Act.put]
    refine wpAnyH_take (i := 6) (v := ?_) rfl (by kernel_rfl) (by kernel_rfl) (by kernel_rfl) (fun _ _ _ h => h) (Or.inl ⟨by rfl,?hy6⟩) (by assumption) ?rest6
    case hy6 => intro W hSw; obtain ⟨s0,s1,s2⟩ := hSw; go_simp <;> with_reducible rfl
    try simp only [Act.put]
    refine wpAnyH_ready (rs := [3]) (by kernel_rfl) (by simp) ?_
    refine AllReadyH.cons rfl (fun K hK => ?_) AllReadyH.nil
    go_simp
    refine (Aeu _ _ _ HST.out _).mono ?_
    rintro e wn ⟨rfl,rfl⟩
    refine hK.out _ _ ⟨q0,q1,q2⟩ (fun hHeld => ?_)
    clear hK K
    try simp only [Act.put,List.setIfInBounds_toArray,List.set_cons_zero,List.set_cons_succ]
    refine wpAnyH_ready (rs := [5]) (by kernel_rfl) (by simp) ?_
    refine AllReadyH.cons rfl (fun K hK => ?_) AllReadyH.nil
    go_simp
    refine (HPA.out _).mono ?_
    rintro e wn ⟨vn,rfl,hvn,hbn⟩
    have HVN := Hd hvn
    have HBB : Hid (Below w1.heap.size w1 wn) := Hd (Aew HBB.out hbn HBB.out.size ⟨rfl,rfl,rfl,rfl⟩)
    obtain ⟨q0,q1,q2⟩ := HX.out _ HBB.out
    refine hK.out _ _ ⟨q0,q1,q2⟩ (fun hHeld => ?_)
    clear hK K
    try simp only [Act.put,List.setIfInBounds_toArray,List.set_cons_zero,List.set_cons_succ]
    refine wpAnyH_take (i := 7) (v := ?_) rfl (by kernel_rfl) (by kernel_rfl) (by kernel_rfl) (fun _ _ _ h => h) (Or.inl ⟨by rfl,?hy7⟩) (by assumption) ?rest7
    case hy7 => intro W hSw; obtain ⟨s0,s1,s2⟩ := hSw; go_simp <;> with_reducible rfl
    try simp only [Act.put,List.setIfInBounds_toArray]
    refine wpAnyH_take (i := 8) rfl (by kernel_rfl) (by kernel_rfl) (by kernel_rfl) (fun _ _ _ h => h) (Or.inr ⟨by rfl,rfl⟩) (by assumption) ?_
    try simp only [Act.put]
    refine wpAnyH_take (i := 9) (v := ?_) rfl (by kernel_rfl) (by kernel_rfl) (by kernel_rfl) (fun _ _ _ h => h) (Or.inl ⟨by rfl,?hy9⟩) (by assumption) ?rest9
    case hy9 => intro W hSw; obtain ⟨s0,s1,s2⟩ := hSw; go_simp <;> with_reducible rfl
    try simp only [Act.put]
    refine wpAnyH_ready (rs := [10]) (by kernel_rfl) (by simp) ?_
    refine AllReadyH.cons rfl (fun K hK => ?_) AllReadyH.nil
    go_simp
    refine (HWAY.out _ rfl _ _ ?_ HVN.out).mono ?_
    (exact ⟨HBB.out.os,HBB.out.tape,HBB.out.output,HBB.out.size,HBB.out.block⟩)
    rintro e wn ⟨rfl,hbn⟩
    have HBB : Hid (Below w1.heap.size w1 wn) := Hd (Aew HBB.out hbn HBB.out.size ⟨rfl,rfl,rfl,rfl⟩)
    obtain ⟨q0,q1,q2⟩ := HX.out _ HBB.out
    refine hK.out _ _ ⟨q0,q1,q2⟩ (fun hHeld => ?_)
    clear hK K
    try simp only [Act.put,List.setIfInBounds_toArray,List.set_cons_zero,List.set_cons_succ]
    refine wpAnyH_take (i := 11) (v := ?_) rfl (by kernel_rfl) (by kernel_rfl) (by kernel_rfl) (fun _ _ _ h => h) (Or.inl ⟨by rfl,?hy11⟩) (by assumption) ?rest11
    case hy11 => intro W hSw; obtain ⟨s0,s1,s2⟩ := hSw; go_simp <;> with_reducible rfl
    try simp only [Act.put,List.setIfInBounds_toArray]
    refine wpAnyH_take (i := 12) (v := ?_) rfl (by kernel_rfl) (by kernel_rfl) (by kernel_rfl) (fun _ _ _ h => h) (Or.inl ⟨by rfl,?hy12⟩) (by assumption) ?rest12
    case hy12 => intro W hSw; obtain ⟨s0,s1,s2⟩ := hSw; go_simp <;> with_reducible rfl
    try simp only [Act.put]
    refine wpAnyH_take (i := 13) (v := ?_) rfl (by kernel_rfl) (by kernel_rfl) (by kernel_rfl) (fun _ _ _ h => h) (Or.inl ⟨by rfl,?hy13⟩) (by assumption) ?rest13
    case hy13 => intro W hSw; obtain ⟨s0,s1,s2⟩ := hSw; go_simp <;> with_reducible rfl
    try simp only [Act.put]
    refine wpAnyH_take (i := 14) (v := ?_) rfl (by kernel_rfl) (by kernel_rfl) (by kernel_rfl) (fun _ _ _ h => h) (Or.inl ⟨by rfl,?hy14⟩) (by assumption) ?rest14
    case hy14 => intro W hSw; obtain ⟨s0,s1,s2⟩ := hSw; go_simp <;> with_reducible rfl
    try simp only [Act.put]
    refine wpAnyH_take (i := 15) (v := ?_) rfl (by kernel_rfl) (by kernel_rfl) (by kernel_rfl) (fun _ _ _ h => h) (Or.inl ⟨by rfl,?hy15⟩) (by assumption) ?rest15
    case hy15 => intro W hSw; obtain ⟨s0,s1,s2⟩ := hSw; go_simp <;> with_reducible rfl
    try simp only [Act.put]
    refine wpAnyH_done (by kernel_rfl) ?_ _
    clear hHeld
    cases he : (ez != 0) with
    | true =>
     have HW2 := Hd (show R = (0,ez) by rw [HW.out,if_pos (by simpa using he)])
     go_wp2_with fail
     go_ret2
     exact ⟨by rw [HW2.out]; rfl,HEND.out _ HBB.out⟩
    | false =>
     have hz0 : ez = 0 := by simpa using he
     subst hz0
     have HW2 := Hd (show R = (kz,0) by rw [HW.out,if_neg (by simp),if_neg (by simp)])
     go_wp2_with fail
     go_ret2
     exact ⟨by rw [HW2.out]; rfl,HEND.out _ HBB.out⟩
   case true =>
    go_enter Tryz.func34,Tryz.ntmps34
    go_wp2_with fail
    rw [← hw1]
    refine (Aff _ _ _ _ _ _ hp L 0 HZ.out _ HM.out).mono ?_
    rintro e w2 ⟨rfl,hb2⟩
    have HBB := Hd hb2
    obtain ⟨q0,q1,q2⟩ := HX.out _ hb2
    clear hb2
    go_wp2_with fail
    refine wp_region_held_drew (S := fun W => W.cell? ⟨w.heap.size,0,none⟩ = some (.slice a L.length cap) ∧ W.cell? ⟨w.heap.size,1,none⟩ = some (.int .i64 m) ∧ W.cell? ⟨w.heap.size,2,none⟩ = some (.int .i64 b)) (by kernel_rfl) ⟨q0,q1,q2⟩ (fun hHeld => ?_)
    refine wpAnyH_take (i := 0) (v := ?_) rfl (by kernel_rfl) (by kernel_rfl) (by kernel_rfl) (fun _ _ _ h => h) (Or.inl ⟨by rfl,?hx0⟩) (by assumption) ?more0
    case hx0 => intro W hSw; obtain ⟨s0,s1,s2⟩ := hSw; go_simp <;> with_reducible rfl
    try simp only [Act.put,List.setIfInBounds_toArray]
    refine wpAnyH_take (i := 1) (v := ?_) rfl (by kernel_rfl) (by kernel_rfl) (by kernel_rfl) (fun _ _ _ h => h) (Or.inl ⟨by rfl,?hx1⟩) (by assumption) ?more1
    case hx1 => intro W hSw; obtain ⟨s0,s1,s2⟩ := hSw; go_simp <;> with_reducible rfl
    try simp only [Act.put]
    refine wpAnyH_take (i := 2) (v := ?_) rfl (by kernel_rfl) (by kernel_rfl) (by kernel_rfl) (fun _ _ _ h => h) (Or.inl ⟨by rfl,?hx2⟩) (by assumption) ?more2
    case hx2 => intro W hSw; obtain ⟨s0,s1,s2⟩ := hSw; go_simp <;> with_reducible rfl
    try simp only [Act.put]
    refine wpAnyH_take (i := 4) (v := ?_) rfl (by kernel_rfl) (by kernel_rfl) (by kernel_rfl) (fun _ _ _ h => h) (Or.inl ⟨by rfl,?hx4⟩) (by assumption) ?more4
    case hx4 => intro W hSw; obtain ⟨s0,s1,s2⟩ := hSw; go_simp <;> with_reducible rfl
    try simp only [Act.put]
    refine wpAnyH_take (i := 6) (v := ?_) rfl (by kernel_rfl) (by kernel_rfl) (by kernel_rfl) (fun _ _ _ h => h) (Or.inl ⟨by rfl,?hx6⟩) (by assumption) ?more6
    case hx6 => intro W hSw; obtain ⟨s0,s1,s2⟩ := hSw; go_simp <;> with_reducible rfl
    try simp only [Act.put]
    refine wpAnyH_ready (rs := [3]) (by kernel_rfl) (by simp) ?_
    refine AllReadyH.cons rfl (fun K hK => ?_) AllReadyH.nil
    go_simp
    refine (Aeu _ _ _ HST.out _).mono ?_
    rintro e wn ⟨rfl,rfl⟩
    refine hK.out _ _ ⟨q0,q1,q2⟩ (fun hHeld => ?_)
    clear hK K
    try simp only [Act.put,List.setIfInBounds_toArray,List.set_cons_zero,List.set_cons_succ]
    refine wpAnyH_ready (rs := [5]) (by kernel_rfl) (by simp) ?_
    refine AllReadyH.cons rfl (fun K hK => ?_) AllReadyH.nil
    go_simp
    refine (HPA.out _).mono ?_
    rintro e wn ⟨vn,rfl,hvn,hbn⟩
    have HVN := Hd hvn
    have HBB : Hid (Below w1.heap.size w1 wn) := Hd (Aew HBB.out hbn HBB.out.size ⟨rfl,rfl,rfl,rfl⟩)
    obtain ⟨q0,q1,q2⟩ := HX.out _ HBB.out
    refine hK.out _ _ ⟨q0,q1,q2⟩ (fun hHeld => ?_)
    clear hK K
    try simp only [Act.put,List.setIfInBounds_toArray,List.set_cons_zero,List.set_cons_succ]
    refine wpAnyH_take (i := 7) (v := ?_) rfl (by kernel_rfl) (by kernel_rfl) (by kernel_rfl) (fun _ _ _ h => h) (Or.inl ⟨by rfl,?hx7⟩) (by assumption) ?more7
    case hx7 => intro W hSw; obtain ⟨s0,s1,s2⟩ := hSw; go_simp <;> with_reducible rfl
    try simp only [Act.put,List.setIfInBounds_toArray]
    refine wpAnyH_take (i := 8) rfl (by kernel_rfl) (by kernel_rfl) (by kernel_rfl) (fun _ _ _ h => h) (Or.inr ⟨by rfl,rfl⟩) (by assumption) ?_
    try simp only [Act.put]
    refine wpAnyH_take (i := 9) (v := ?_) rfl (by kernel_rfl) (by kernel_rfl) (by kernel_rfl) (fun _ _ _ h => h) (Or.inl ⟨by rfl,?hx9⟩) (by assumption) ?more9
    case hx9 => intro W hSw; obtain ⟨s0,s1,s2⟩ := hSw; go_simp <;> with_reducible rfl
    try simp only [Act.put]
    refine wpAnyH_ready (rs := [10]) (by kernel_rfl) (by simp) ?_
    refine AllReadyH.cons rfl (fun K hK => ?_) AllReadyH.nil
    go_simp
    refine (HWAY.out _ rfl _ _ ?_ HVN.out).mono ?_
    (exact ⟨HBB.out.os,HBB.out.tape,HBB.out.output,HBB.out.size,HBB.out.block⟩)
    rintro e wn ⟨rfl,hbn⟩
    have HBB : Hid (Below w1.heap.size w1 wn) := Hd (Aew HBB.out hbn HBB.out.size ⟨rfl,rfl,rfl,rfl⟩)
    obtain ⟨q0,q1,q2⟩ := HX.out _ HBB.out
    refine hK.out _ _ ⟨q0,q1,q2⟩ (fun hHeld => ?_)
    clear hK K
    try simp only [Act.put,List.setIfInBounds_toArray,List.set_cons_zero,List.set_cons_succ]
    refine wpAnyH_take (i := 11) (v := ?_) rfl (by kernel_rfl) (by kernel_rfl) (by kernel_rfl) (fun _ _ _ h => h) (Or.inl ⟨by rfl,?hx11⟩) (by assumption) ?more11
    case hx11 => intro W hSw; obtain ⟨s0,s1,s2⟩ := hSw; go_simp <;> with_reducible rfl
    try simp only [Act.put,List.setIfInBounds_toArray]
    refine wpAnyH_take (i := 12) (v := ?_) rfl (by kernel_rfl) (by kernel_rfl) (by kernel_rfl) (fun _ _ _ h => h) (Or.inl ⟨by rfl,?hx12⟩) (by assumption) ?more12
    case hx12 => intro W hSw; obtain ⟨s0,s1,s2⟩ := hSw; go_simp <;> with_reducible rfl
    try simp only [Act.put]
    refine wpAnyH_take (i := 13) (v := ?_) rfl (by kernel_rfl) (by kernel_rfl) (by kernel_rfl) (fun _ _ _ h => h) (Or.inl ⟨by rfl,?hx13⟩) (by assumption) ?more13
    case hx13 => intro W hSw; obtain ⟨s0,s1,s2⟩ := hSw; go_simp <;> with_reducible rfl
    try simp only [Act.put]
    refine wpAnyH_take (i := 14) (v := ?_) rfl (by kernel_rfl) (by kernel_rfl) (by kernel_rfl) (fun _ _ _ h => h) (Or.inl ⟨by rfl,?hx14⟩) (by assumption) ?more14
    case hx14 => intro W hSw; obtain ⟨s0,s1,s2⟩ := hSw; go_simp <;> with_reducible rfl
    try simp only [Act.put]
    refine wpAnyH_take (i := 15) (v := ?_) rfl (by kernel_rfl) (by kernel_rfl) (by kernel_rfl) (fun _ _ _ h => h) (Or.inl ⟨by rfl,?hx15⟩) (by assumption) ?more15
    case hx15 => intro W hSw; obtain ⟨s0,s1,s2⟩ := hSw; go_simp <;> with_reducible rfl
    try simp only [Act.put]
    refine wpAnyH_done (by kernel_rfl) ?_ _
    clear hHeld
    cases he : (ez != 0) with
    | true =>
     have HW2 := Hd (show R = (0,ez) by rw [HW.out,if_pos (by simpa using he)])
     go_wp2_with fail
     go_ret2
     exact ⟨by rw [HW2.out]; rfl,HEND.out _ HBB.out⟩
    | false =>
     have hz0 : ez = 0 := by simpa using he
     subst hz0
     cases dz with
     | false =>
      have HW2 := Hd (show R = (0,20) by rw [HW.out,if_neg (by simp),if_pos (by simp)])
      go_wp2_with (first | (go_at_call 80; refine (Acp _ _ _ _ _ L _ HDZ.out _ (HM.out.below HBB.out)).mono ?_; rintro e w7 ⟨rfl,hb7⟩; have HB7 := Hd (HBB.out.trans (hb7.mono HBB.out.size))) | fail)
      go_ret2
      exact ⟨by rw [HW2.out]; rfl,HEND.out _ HB7.out⟩
     | true =>
      have HW2 := Hd (show R = (kz,0) by rw [HW.out,if_neg (by simp),if_neg (by simp)])
      go_wp2_with (first | (go_at_call 80; refine (Acp _ _ _ _ _ L _ HDZ.out _ (HM.out.below HBB.out)).mono ?_; rintro e w7 ⟨rfl,hb7⟩; have HB7 := Hd (HBB.out.trans (hb7.mono HBB.out.size))) | fail)
      go_ret2
      exact ⟨by rw [HW2.out]; rfl,HEND.out _ HB7.out⟩
theorem Apb (n₀ g : Nat) (a : Option Addr) (cap : Nat) (m b : Int) (p0 : Int) (N0 : List (List UInt8)) (hN0 : N0.length ≤ 5000) (last : Bool) (L : List Ino) (hF : FitP L m b)
  (w0 : World) (hN : Aah w0 a cap L) (hw0 : w0.heap.size ≤ g) (w : World) (hb0 : Below w0.heap.size w0 w) (hn₀ : n₀ ≤ w.heap.size) (hW : Abr n₀ g (.slice a L.length cap,.int .i64 m,.int .i64 b) w p0 N0.reverse 0) (kz ez : Int) (hk : kz = (wayW L last 8 N0 p0).1) (he : ez = (wayW L last 8 N0 p0).2) :
  Calls Tryz.prog 154 #[.pointer (some ⟨g,0,none⟩),.bool last] w fun e w' => (∃ z : Int,e = .returned (.tuple #[.int .i64 z,.int .i64 ez]) ∧ (ez = 0 → z = kz)) ∧ Moved g w w' := by
 subst hk he
 exact callsIn_wide.1 (Bal Fence.wide rfl 5 (Nat.le_refl _) n₀ g a cap m b p0 N0 hN0 last L hF w0 hN hw0 w hb0 hn₀ hW)
theorem Ac0 (a : Option Addr) (cap : Nat) (m b cwd : Int) (pb : ByteArray) (hp : pb.size ≤ 1073741824) (L : List Ino) (z : Int) (hz : badW L cwd pb.data.toList = z) (w : World) (hN : Aah w a cap L) :
  Calls Tryz.prog 151 #[.agg #[.slice a L.length cap,.int .i64 m,.int .i64 b],.int .i64 cwd,.string pb] w fun e w' => e = .returned (.int .i64 z) ∧ Below w.heap.size w w' := by
 subst hz
 exact An5 a cap m b cwd pb.data.toList (by rw [Aas]; exact hp) L w hN
theorem Ar2 {L : List Ino} {k : Int} {dz : Bool} (h : dirB L k = dz) : (Aet L k != 2) = !dz := by rw [Ak3,h]
theorem Ab0 (tv mv bv : Value) (cwd : Int) (pb : ByteArray) (hp : pb.size ≤ 1024) (st : Int) (N : List (List UInt8)) (hst : Adn cwd pb.data.toList = st) (hN : N = Aan pb.data.toList) (w2 : World) :
  Calls Tryz.prog 153 #[.pointer (some ⟨w2.heap.size,0,none⟩),.string pb] (w2.alloc (.cells #[tv,mv,bv,.int .i64 cwd,.slice none 0 0,.int .i64 0] 180)) fun e w' =>
   (∃ u,e = .returned u) ∧ Abr (w2.heap.size + 1) w2.heap.size (tv,mv,bv) w' st N.reverse 0 ∧ Below w2.heap.size w2 w' ∧ w2.heap.size + 1 ≤ w'.heap.size := by
 subst hst hN
 have h := Ahv (w2.heap.size + 1) w2.heap.size (tv,mv,bv) cwd 0 [] pb.data.toList (by rw [Aas]; omega) (by simp) (w2.alloc (.cells #[tv,mv,bv,.int .i64 cwd,.slice none 0 0,.int .i64 0] 180)) (by simp) ⟨by omega,_,Aae w2 _,Or.inl ⟨rfl,rfl⟩⟩
 rw [List.nil_append] at h
 exact h.mono fun e w' hh => ⟨hh.1,hh.2.1,(Aab w2 _).trans hh.2.2.below,by have := hh.2.2.below.size; rw [World.size_alloc] at this; exact this⟩
theorem Ats (a : Option Addr) (cap : Nat) (m b cwd : Int) (pb : ByteArray) (hp : pb.size ≤ 1073741824) (follow : Bool) (L : List Ino) (hF : FitP L m b) (w : World) (hN : Aah w a cap L) :
  Calls Tryz.prog 121 #[.agg #[.slice a L.length cap,.int .i64 m,.int .i64 b],.int .i64 cwd,.string pb,.bool follow] w fun e w' => e = .returned (.tuple #[.int .i64 (Acv L cwd pb.data.toList follow).1,.int .i64 (Acv L cwd pb.data.toList follow).2]) ∧ Below w.heap.size w w' := by
 obtain ⟨w1,hw1⟩ : ∃ w1,w1 = w.alloc (.cells #[.slice a L.length cap,.int .i64 m,.int .i64 b] 24) := ⟨_,rfl⟩
 have hb1 := Aab w (.cells #[.slice a L.length cap,.int .i64 m,.int .i64 b] 24)
 have hM := hN.below hb1
 have hsz : w1.heap.size = w.heap.size + 1 := by rw [hw1]; simp
 have hbox : ∀ W',Below w1.heap.size w1 W' → W'.cell? ⟨w.heap.size,0,none⟩ = some (.slice a L.length cap) ∧ W'.cell? ⟨w.heap.size,1,none⟩ = some (.int .i64 m) ∧ W'.cell? ⟨w.heap.size,2,none⟩ = some (.int .i64 b) := fun W' h => box3 (by rw [← hw1]; exact h)
 rw [← hw1] at hM hb1
 have HM := Hd hM
 have HB := Hd hb1
 have HX := Hd hbox
 have HEND := Hd (show ∀ W',Below w1.heap.size w1 W' → Below w.heap.size w W' from fun W' h => HB.out.trans (h.mono (by rw [hsz]; omega)))
 have HF := Hd hF
 obtain ⟨R,hR⟩ : ∃ R,R = Acv L cwd pb.data.toList follow := ⟨_,rfl⟩
 rw [← hR]
 have HR := Hd hR
 obtain ⟨z,hz⟩ : ∃ z,badW L cwd pb.data.toList = z := ⟨_,rfl⟩
 have HZ := Hd hz
 clear hM hN hb1 hbox hsz hF hR
 by_cases hbad : z ≠ 0
 ·have hzb : (z != 0) = true := by simpa using hbad
  have HW := Hd (show R = (0,z) by rw [HR.out]; unfold Acv; rw [hz,if_pos hbad])
  clear hbad hz
  go_enter Tryz.func121,Tryz.ntmps121
  go_wp2_with fail
  rw [← hw1]
  refine (Ac0 _ _ _ _ _ _ hp L z HZ.out _ HM.out).mono ?_
  rintro e w2 ⟨rfl,hb2⟩
  go_wp2_with fail
  go_ret2
  exact ⟨by rw [HW.out]; rfl,HEND.out _ hb2⟩
 ·obtain rfl : z = 0 := by simpa using hbad
  have hpne : pb.data.toList ≠ [] := fun e => by
   unfold badW at hz
   rw [if_pos (Or.inl e)] at hz
   cases hz
  obtain ⟨st,hst⟩ : ∃ st,Adn cwd pb.data.toList = st := ⟨_,rfl⟩
  have HST := Hd hst
  obtain ⟨N,hNe⟩ : ∃ N,N = Aan pb.data.toList := ⟨_,rfl⟩
  have HNE := Hd hNe
  have hlong : pb.size ≤ 1024 := by
   unfold badW at hz
   rw [if_neg (fun h => by rcases h with h | h; exact hpne h; rw [if_pos (Or.inr h)] at hz; cases hz)] at hz
   by_cases hl : Ahl pb.data.toList = true
   ·rw [if_pos hl] at hz; cases hz
   ·unfold Ahl at hl
    rw [Bool.or_eq_true,decide_eq_true_eq,Aas] at hl
    omega
  have HNL := Hd (show N.length ≤ 5000 by rw [hNe]; have := Aci pb.data.toList; rw [Aas] at this; omega)
  obtain ⟨s,heb⟩ : ∃ s,endL pb.data.toList = s := ⟨_,rfl⟩
  have HS := Hd heb
  obtain ⟨kz,hkz⟩ : ∃ kz,kz = (wayW L (follow || s) 8 N st).1 := ⟨_,rfl⟩
  obtain ⟨ez,hez⟩ : ∃ ez,ez = (wayW L (follow || s) 8 N st).2 := ⟨_,rfl⟩
  have HWAY := Hd (show ∀ lb,lb = (follow || s) → ∀ W n₀ g,w1.heap.size ≤ g → Below w1.heap.size w1 W → n₀ ≤ W.heap.size → Abr n₀ g (.slice a L.length cap,.int .i64 m,.int .i64 b) W st N.reverse 0 → Calls Tryz.prog 154 #[.pointer (some ⟨g,0,none⟩),.bool lb] W fun e w' => (∃ z : Int,e = .returned (.tuple #[.int .i64 z,.int .i64 ez]) ∧ (ez = 0 → z = kz)) ∧ Moved g W w' from fun lb hlb W n₀ g hg hW hn hV => by
   subst hlb
   exact Apb n₀ g a cap m b st N HNL.out _ L HF.out w1 HM.out hg W hW hn hV kz ez hkz hez)
  have HW := Hd (show R = if ez ≠ 0 then (0,ez) else if s = true ∧ dirB L kz = false then (0,20) else (kz,0) by
   rw [HR.out]
   unfold Acv
   rw [hz,if_neg (by simp),hst,← hNe,heb,← hez,← hkz])
  obtain ⟨dz,hdz⟩ : ∃ dz,dirB L kz = dz := ⟨_,rfl⟩
  rw [hdz] at HW
  obtain ⟨kk,hkk⟩ : ∃ kk,Aet L kz = kk := ⟨_,rfl⟩
  have HKK := Hd hkk
  have hkd := Ar2 hdz
  rw [hkk] at hkd
  clear hz hpne heb hst hNe hkz hez hdz hbad HR hkk
  cases follow
  case false =>
   go_enter Tryz.func121,Tryz.ntmps121
   go_wp2_with fail
   rw [← hw1]
   refine (Ac0 _ _ _ _ _ _ hp L 0 HZ.out _ HM.out).mono ?_
   rintro e w2 ⟨rfl,hb2⟩
   have HB2 := Hd hb2
   obtain ⟨q0,q1,q2⟩ := HX.out _ hb2
   clear hb2
   cases he : (ez != 0) with
   | true =>
    have HW2 := Hd (show R = (0,ez) by rw [HW.out,if_pos (by simpa using he)])
    go_wp2_with (first | (go_at_call 152; refine (Ab4 _ hp _ HS.out _).mono ?_; rintro e wn ⟨rfl,rfl⟩) | (go_at_call 153; refine (Ab0 _ _ _ cwd pb hlong st N HST.out HNE.out w2).mono ?_; rintro e w3 ⟨⟨ue,rfl⟩,hv3,hb3,hs3⟩; have HV3 := Hd hv3; have HB3 := Hd (HB2.out.trans (hb3.mono HB2.out.size)); have hs2 := HB2.out.size; clear hv3 hb3 q0 q1 q2) | (go_at_call 154; refine (HWAY.out _ rfl w3 (w2.heap.size + 1) w2.heap.size hs2 HB3.out hs3 HV3.out).mono ?_; rintro e w4 ⟨⟨zz,rfl,hzz⟩,hm4⟩; have HB4 := Hd (HB3.out.trans (hm4.below.mono hs2)); have HZZ := Hd hzz; (obtain ⟨q0,q1,q2⟩ := HX.out _ HB4.out); clear hzz hm4) | fail)
    go_ret2
    exact ⟨by rw [HW2.out]; rfl,HEND.out _ HB4.out⟩
   | false =>
    have hz0 : ez = 0 := by simpa using he
    subst hz0
    cases s with
    | false =>
     have HW2 := Hd (show R = (kz,0) by rw [HW.out,if_neg (by simp),if_neg (by simp)])
     go_wp2_with (first | (go_at_call 152; refine (Ab4 _ hp _ HS.out _).mono ?_; rintro e wn ⟨rfl,rfl⟩) | (go_at_call 153; refine (Ab0 _ _ _ cwd pb hlong st N HST.out HNE.out w2).mono ?_; rintro e w3 ⟨⟨ue,rfl⟩,hv3,hb3,hs3⟩; have HV3 := Hd hv3; have HB3 := Hd (HB2.out.trans (hb3.mono HB2.out.size)); have hs2 := HB2.out.size; clear hv3 hb3 q0 q1 q2) | (go_at_call 154; refine (HWAY.out _ rfl w3 (w2.heap.size + 1) w2.heap.size hs2 HB3.out hs3 HV3.out).mono ?_; rintro e w4 ⟨⟨zz,rfl,hzz⟩,hm4⟩; have HB4 := Hd (HB3.out.trans (hm4.below.mono hs2)); have HZZ := Hd hzz; (obtain ⟨q0,q1,q2⟩ := HX.out _ HB4.out); clear hzz hm4) | fail)
     go_ret2
     exact ⟨by rw [HW2.out,HZZ.out (by trivial)]; rfl,HEND.out _ HB4.out⟩
    | true =>
     cases dz with
     | false =>
      have HW2 := Hd (show R = (0,20) by rw [HW.out,if_neg (by simp),if_pos (by simp)])
      simp only [Bool.not_false] at hkd
      go_wp2_with (first | (go_at_call 152; refine (Ab4 _ hp _ HS.out _).mono ?_; rintro e wn ⟨rfl,rfl⟩) | (go_at_call 153; refine (Ab0 _ _ _ cwd pb hlong st N HST.out HNE.out w2).mono ?_; rintro e w3 ⟨⟨ue,rfl⟩,hv3,hb3,hs3⟩; have HV3 := Hd hv3; have HB3 := Hd (HB2.out.trans (hb3.mono HB2.out.size)); have hs2 := HB2.out.size; clear hv3 hb3 q0 q1 q2) | (go_at_call 154; refine (HWAY.out _ rfl w3 (w2.heap.size + 1) w2.heap.size hs2 HB3.out hs3 HV3.out).mono ?_; rintro e w4 ⟨⟨zz,rfl,hzz⟩,hm4⟩; have HB4 := Hd (HB3.out.trans (hm4.below.mono hs2)); have HZZ := Hd hzz; (obtain ⟨q0,q1,q2⟩ := HX.out _ HB4.out); clear hzz hm4) | (go_at_call 155; refine (Aaw a cap m b _ L kk (by rw [HZZ.out (by trivial)]; exact HKK.out) _ (HM.out.below HB4.out)).mono ?_; rintro e w5 ⟨rfl,hb5⟩; have HB5 := Hd (HB4.out.trans (hb5.mono HB4.out.size))) | fail)
      go_ret2
      exact ⟨by rw [HW2.out]; rfl,HEND.out _ HB5.out⟩
     | true =>
      have HW2 := Hd (show R = (kz,0) by rw [HW.out,if_neg (by simp),if_neg (by simp)])
      simp only [Bool.not_true] at hkd
      go_wp2_with (first | (go_at_call 152; refine (Ab4 _ hp _ HS.out _).mono ?_; rintro e wn ⟨rfl,rfl⟩) | (go_at_call 153; refine (Ab0 _ _ _ cwd pb hlong st N HST.out HNE.out w2).mono ?_; rintro e w3 ⟨⟨ue,rfl⟩,hv3,hb3,hs3⟩; have HV3 := Hd hv3; have HB3 := Hd (HB2.out.trans (hb3.mono HB2.out.size)); have hs2 := HB2.out.size; clear hv3 hb3 q0 q1 q2) | (go_at_call 154; refine (HWAY.out _ rfl w3 (w2.heap.size + 1) w2.heap.size hs2 HB3.out hs3 HV3.out).mono ?_; rintro e w4 ⟨⟨zz,rfl,hzz⟩,hm4⟩; have HB4 := Hd (HB3.out.trans (hm4.below.mono hs2)); have HZZ := Hd hzz; (obtain ⟨q0,q1,q2⟩ := HX.out _ HB4.out); clear hzz hm4) | (go_at_call 155; refine (Aaw a cap m b _ L kk (by rw [HZZ.out (by trivial)]; exact HKK.out) _ (HM.out.below HB4.out)).mono ?_; rintro e w5 ⟨rfl,hb5⟩; have HB5 := Hd (HB4.out.trans (hb5.mono HB4.out.size))) | fail)
      go_ret2
      exact ⟨by rw [HW2.out,HZZ.out (by trivial)]; rfl,HEND.out _ HB5.out⟩
  case true =>
   go_enter Tryz.func121,Tryz.ntmps121
   go_wp2_with fail
   rw [← hw1]
   refine (Ac0 _ _ _ _ _ _ hp L 0 HZ.out _ HM.out).mono ?_
   rintro e w2 ⟨rfl,hb2⟩
   have HB2 := Hd hb2
   obtain ⟨q0,q1,q2⟩ := HX.out _ hb2
   clear hb2
   cases he : (ez != 0) with
   | true =>
    have HW2 := Hd (show R = (0,ez) by rw [HW.out,if_pos (by simpa using he)])
    go_wp2_with (first | (go_at_call 152; refine (Ab4 _ hp _ HS.out _).mono ?_; rintro e wn ⟨rfl,rfl⟩) | (go_at_call 153; refine (Ab0 _ _ _ cwd pb hlong st N HST.out HNE.out w2).mono ?_; rintro e w3 ⟨⟨ue,rfl⟩,hv3,hb3,hs3⟩; have HV3 := Hd hv3; have HB3 := Hd (HB2.out.trans (hb3.mono HB2.out.size)); have hs2 := HB2.out.size; clear hv3 hb3 q0 q1 q2) | (go_at_call 154; refine (HWAY.out _ rfl w3 (w2.heap.size + 1) w2.heap.size hs2 HB3.out hs3 HV3.out).mono ?_; rintro e w4 ⟨⟨zz,rfl,hzz⟩,hm4⟩; have HB4 := Hd (HB3.out.trans (hm4.below.mono hs2)); have HZZ := Hd hzz; (obtain ⟨q0,q1,q2⟩ := HX.out _ HB4.out); clear hzz hm4) | fail)
    go_ret2
    exact ⟨by rw [HW2.out]; rfl,HEND.out _ HB4.out⟩
   | false =>
    have hz0 : ez = 0 := by simpa using he
    subst hz0
    cases s with
    | false =>
     have HW2 := Hd (show R = (kz,0) by rw [HW.out,if_neg (by simp),if_neg (by simp)])
     go_wp2_with (first | (go_at_call 152; refine (Ab4 _ hp _ HS.out _).mono ?_; rintro e wn ⟨rfl,rfl⟩) | (go_at_call 153; refine (Ab0 _ _ _ cwd pb hlong st N HST.out HNE.out w2).mono ?_; rintro e w3 ⟨⟨ue,rfl⟩,hv3,hb3,hs3⟩; have HV3 := Hd hv3; have HB3 := Hd (HB2.out.trans (hb3.mono HB2.out.size)); have hs2 := HB2.out.size; clear hv3 hb3 q0 q1 q2) | (go_at_call 154; refine (HWAY.out _ rfl w3 (w2.heap.size + 1) w2.heap.size hs2 HB3.out hs3 HV3.out).mono ?_; rintro e w4 ⟨⟨zz,rfl,hzz⟩,hm4⟩; have HB4 := Hd (HB3.out.trans (hm4.below.mono hs2)); have HZZ := Hd hzz; (obtain ⟨q0,q1,q2⟩ := HX.out _ HB4.out); clear hzz hm4) | fail)
     go_ret2
     exact ⟨by rw [HW2.out,HZZ.out (by trivial)]; rfl,HEND.out _ HB4.out⟩
    | true =>
     cases dz with
     | false =>
      have HW2 := Hd (show R = (0,20) by rw [HW.out,if_neg (by simp),if_pos (by simp)])
      simp only [Bool.not_false] at hkd
      go_wp2_with (first | (go_at_call 152; refine (Ab4 _ hp _ HS.out _).mono ?_; rintro e wn ⟨rfl,rfl⟩) | (go_at_call 153; refine (Ab0 _ _ _ cwd pb hlong st N HST.out HNE.out w2).mono ?_; rintro e w3 ⟨⟨ue,rfl⟩,hv3,hb3,hs3⟩; have HV3 := Hd hv3; have HB3 := Hd (HB2.out.trans (hb3.mono HB2.out.size)); have hs2 := HB2.out.size; clear hv3 hb3 q0 q1 q2) | (go_at_call 154; refine (HWAY.out _ rfl w3 (w2.heap.size + 1) w2.heap.size hs2 HB3.out hs3 HV3.out).mono ?_; rintro e w4 ⟨⟨zz,rfl,hzz⟩,hm4⟩; have HB4 := Hd (HB3.out.trans (hm4.below.mono hs2)); have HZZ := Hd hzz; (obtain ⟨q0,q1,q2⟩ := HX.out _ HB4.out); clear hzz hm4) | (go_at_call 155; refine (Aaw a cap m b _ L kk (by rw [HZZ.out (by trivial)]; exact HKK.out) _ (HM.out.below HB4.out)).mono ?_; rintro e w5 ⟨rfl,hb5⟩; have HB5 := Hd (HB4.out.trans (hb5.mono HB4.out.size))) | fail)
      go_ret2
      exact ⟨by rw [HW2.out]; rfl,HEND.out _ HB5.out⟩
     | true =>
      have HW2 := Hd (show R = (kz,0) by rw [HW.out,if_neg (by simp),if_neg (by simp)])
      simp only [Bool.not_true] at hkd
      go_wp2_with (first | (go_at_call 152; refine (Ab4 _ hp _ HS.out _).mono ?_; rintro e wn ⟨rfl,rfl⟩) | (go_at_call 153; refine (Ab0 _ _ _ cwd pb hlong st N HST.out HNE.out w2).mono ?_; rintro e w3 ⟨⟨ue,rfl⟩,hv3,hb3,hs3⟩; have HV3 := Hd hv3; have HB3 := Hd (HB2.out.trans (hb3.mono HB2.out.size)); have hs2 := HB2.out.size; clear hv3 hb3 q0 q1 q2) | (go_at_call 154; refine (HWAY.out _ rfl w3 (w2.heap.size + 1) w2.heap.size hs2 HB3.out hs3 HV3.out).mono ?_; rintro e w4 ⟨⟨zz,rfl,hzz⟩,hm4⟩; have HB4 := Hd (HB3.out.trans (hm4.below.mono hs2)); have HZZ := Hd hzz; (obtain ⟨q0,q1,q2⟩ := HX.out _ HB4.out); clear hzz hm4) | (go_at_call 155; refine (Aaw a cap m b _ L kk (by rw [HZZ.out (by trivial)]; exact HKK.out) _ (HM.out.below HB4.out)).mono ?_; rintro e w5 ⟨rfl,hb5⟩; have HB5 := Hd (HB4.out.trans (hb5.mono HB4.out.size))) | fail)
      go_ret2
      exact ⟨by rw [HW2.out,HZZ.out (by trivial)]; rfl,HEND.out _ HB5.out⟩
theorem As3 (l : List UInt8) (c : UInt8) : decide (Lib.indexByte l c < 0) = l.all (fun x => x != c) := by
 induction l with
 | nil => rfl
 | cons b r ih =>
  have hge := Lib.indexByte_ge r c
  unfold Lib.indexByte
  by_cases hb : b = c
  ·simp [hb]
  ·have e1 : (b == c) = false := by simpa using hb
   rw [e1]
   simp only [List.all_cons,bne,e1,Bool.not_false,Bool.true_and]
   rw [show (r.all fun x => !(x == c)) = r.all (fun x => x != c) from rfl,← ih]
   by_cases hr : Lib.indexByte r c = -1
   ·simp [hr]
   ·have : ¬ Lib.indexByte r c + 1 < 0 := by omega
    have h2 : ¬ Lib.indexByte r c < 0 := by omega
    simp [hr,this,h2]
theorem Aym (l : List UInt8) : Abg l = (!l.isEmpty && decide (l.length ≤ 64) && !(l == [46]) && !(l == [46,46]) && decide (Lib.indexByte l 47 < 0) && decide (Lib.indexByte l 0 < 0)) := by
 unfold Abg
 rw [As3,As3]
 have : l.all (fun c => c != 47 && c != 0) = (l.all (fun x => x != 47) && l.all (fun x => x != 0)) := by
  induction l with
  | nil => rfl
  | cons b r ih =>
   simp only [List.all_cons,ih]
   cases (b != 47) <;> cases (b != 0) <;> simp
 rw [this]
 cases (l.all fun x => x != 47) <;> cases (l.all fun x => x != 0) <;> simp
theorem An0 (s : ByteArray) (c : Int) (i : Int) (h : Lib.indexByte s.data.toList c.toNat.toUInt8 = i) (w : World) :
  Calls Tryz.prog 186 #[.string s,.int .u8 c] w fun e w' => e = .returned (.int .i64 i) ∧ w = w' := by
 subst h
 exact At1 s c w
theorem Av9 (s : ByteArray) (w : World) : Calls Tryz.prog 187 #[.string s] w fun e w' => e = .returned (.bool (Abg s.data.toList)) ∧ w = w' := by
 have hlen := Aas s
 obtain ⟨i1,hi1⟩ : ∃ i,Lib.indexByte s.data.toList (47 : Int).toNat.toUInt8 = i := ⟨_,rfl⟩
 obtain ⟨i0,hi0⟩ : ∃ i,Lib.indexByte s.data.toList (0 : Int).toNat.toUInt8 = i := ⟨_,rfl⟩
 have hfin : Abg s.data.toList = (!s.toList.isEmpty && decide (s.size ≤ 64) && !(s.toList == [46]) && !(s.toList == [46,46]) && decide (i1 < 0) && decide (i0 < 0)) := by
  rw [Aym,hlen,ByteArray.toList_eq,← hi1,← hi0]
  rfl
 have H1 := Hd hi1
 have H0 := Hd hi0
 have HF := Hd hfin
 clear hi1 hi0 hfin hlen
 cases he : s.toList.isEmpty <;> cases h1 : (s.toList == [46]) <;> cases h2 : (s.toList == [46,46]) <;> by_cases h64 : s.size ≤ 64 <;> by_cases hn1 : i1 < 0 <;> by_cases hn0 : i0 < 0
 all_goals
  go_enter Tryz.func187,Tryz.ntmps187
  go_wp2_with (first | (go_at_call 186; refine (An0 _ _ _ (by first | exact H1.out | exact H0.out) _).mono ?_; rintro e w' ⟨rfl,rfl⟩) | fail)
  go_ret
  exact ⟨by rw [HF.out,he,h1,h2]; simp [h64,hn1,hn0],rfl⟩
theorem Agq (s : List UInt8) (v : Bool) (h : Abg s = v) (w : World) : Calls Tryz.prog 187 #[.string ⟨s.toArray⟩] w fun e w' => e = .returned (.bool v) ∧ w = w' := by
 subst h
 exact Av9 ⟨s.toArray⟩ w
end Go.Proofs.YtkdfbliiblojoaaGreatDoor
