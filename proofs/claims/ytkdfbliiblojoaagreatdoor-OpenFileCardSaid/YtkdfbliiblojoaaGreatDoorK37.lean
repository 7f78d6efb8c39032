import Derived.Test.YtkdfbliiblojoaaGreatDoorK35
import Derived.Test.YtkdfbliiblojoaaGreatDoorK34
set_option linter.all false
set_option maxRecDepth 100000
set_option maxHeartbeats 64000000
namespace Go.Proofs.YtkdfbliiblojoaaGreatDoor
open Go Go.RowKit
def newV (x : Ino) : Value := .agg #[.int .i64 x.kind,.int .i64 x.mode,.int .i64 x.links,.string ⟨x.data.toArray⟩,.slice none 0 0,.int .i64 x.up]
theorem Amy (up q : Int) (B : Nat) (w : World) (hc : w.cell? ⟨B,0,none⟩ = some (.int .i64 q)) : Calls Tryz.prog 158 #[.int .i64 up,.pointer (some ⟨B,0,none⟩)] w fun e w' => e = .returned (newV (Aem 1 q [] 0)) ∧ Below w.heap.size w w' := by
 have hl := Aaj hc
 have HB := Hd (Aab w (.cells #[.int .i64 1,.int .i64 q,.int .i64 0,.string ⟨#[]⟩,.slice none 0 0,.int .i64 0] 66))
 go_enter Tryz.func158,Tryz.ntmps158
 go_wp2_with fail
 exact bodyPost_ret (v := newV (Aem 1 q [] 0)) (by simp [results,Tryz.results158,go_sem,newV,Aem]) rfl ⟨rfl,HB.out⟩
def addS (L : List Ino) (b : Int) (cwd : Int) (p : List UInt8) (X : Int → Ino) : List Ino × Int × Int :=
 if (Afs L cwd p).2.2.2 ≠ 0 then (L,0,(Afs L cwd p).2.2.2) else
 if Acg L (Afs L cwd p).1 (Afs L cwd p).2.2.1 (X (Afs L cwd p).1).kind ≠ 0 then (L,0,Acg L (Afs L cwd p).1 (Afs L cwd p).2.2.1 (X (Afs L cwd p).1).kind) else
 if Ag9 L < 0 ∨ b < (Aax L : Int) + (X (Afs L cwd p).1).data.length then (L,0,28) else
 (addL L (Afs L cwd p).1.toNat (Ag9 L).toNat (Afs L cwd p).2.1 { X (Afs L cwd p).1 with links := 1 },Ag9 L,0)
def Asu (base : Nat) (w : World) (m b : Int) (L' : List Ino) (rest : List Value) (e : Ending) (w' : World) : Prop :=
 (∃ g cap vs,e = .returned (.tuple (#[.agg #[.slice (some ⟨g,0,none⟩) L'.length cap,.int .i64 m,.int .i64 b]] ++ rest.toArray)) ∧ OwnT w' base g cap L' vs) ∧ Below w.heap.size w w'
theorem Ahd {w W : World} {g cap : Nat} {L : List Ino} {vs : List Value} (hO : OwnT W (w.heap.size + 2) g cap L vs) (hB : Below w.heap.size w W) (x y z : Value) :
  OwnT (put3 W (w.heap.size + 1) x y z) w.heap.size g cap L vs ∧ Below w.heap.size w (put3 W (w.heap.size + 1) x y z) :=
 ⟨(hO.low fun k hk => Abq (by omega) x y z).lower (by omega),Aa8 hB (by omega) x y z⟩
theorem Axc {L : List Ino} {d k : Nat} (hd : d < L.length) (hdk : d ≠ k) (x : Ino) (s : List UInt8) (z : Int) :
  (((L.set k x).set d (Aee ((L.set k x)[d]'(by rw [List.length_set]; exact hd)) (Abs ((L.set k x)[d]'(by rw [List.length_set]; exact hd)).kids s k))).set k { x with links := z }) = addL L d k s { x with links := z } := by
 have e : (L.set k x)[d]'(by rw [List.length_set]; exact hd) = L[d] := List.getElem_set_ne (fun e => hdk e.symm) _
 rw [e]
 unfold addL
 rw [Aad L d hd,List.set_comm _ _ hdk,List.set_set]
theorem Axa (a : Option Addr) (cap : Nat) (m b cwd : Int) (pb : ByteArray) (hp : pb.size ≤ 1073741824) (L : List Ino) (hF : FitP L m b) (X : Int → Ino) (hX0 : ∀ d,(X d).kids = []) (hX1 : ∀ d,(X d).links = 0) (hX2 : ∀ d,(X d).data.length ≤ 1024) (fid : FuncId) (lb : Array Value)
  (eg : ∀ args w,(callFunc fid args).run Tryz.prog w = .ok (.enter fid args) w) (w : World) (hN : Aah w a cap L)
  (hmk : ∀ W d,Below w.heap.size w W → Calls Tryz.prog fid (#[.int .i64 d] ++ lb) W fun e w' => e = .returned (newV (X d)) ∧ Below W.heap.size W w')
  (L' : List Ino) (kz ez : Int) (hz : addS L b cwd pb.data.toList X = (L',kz,ez)) :
  Calls Tryz.prog 157 #[.agg #[.slice a L.length cap,.int .i64 m,.int .i64 b],.int .i64 cwd,.string pb,.func (.func fid) #[] lb] w (Asu w.heap.size w m b L' [.int .i64 kz,.int .i64 ez]) := by
 obtain ⟨⟨d,nm,sl,pe⟩,hsp⟩ : ∃ r,Afs L cwd pb.data.toList = r := ⟨_,rfl⟩
 obtain ⟨w2,hw2,hb2,hs2,hA,hB⟩ := Aam w #[.slice a L.length cap,.int .i64 m,.int .i64 b] #[.slice none 0 0,.int .i64 0,.int .i64 0] 24 24
 obtain ⟨l1,l2,l3,l4,l5⟩ := hF.limits
 have hL0 : 0 < L.length := by omega
 have hL1 : L.length ≤ 256 := by omega
 have hAll := Hd (show ∀ W,Below w2.heap.size w2 W → W.cell? ⟨w.heap.size,0,none⟩ = some (.slice a L.length cap) ∧ W.cell? ⟨w.heap.size,1,none⟩ = some (.int .i64 m) ∧ W.cell? ⟨w.heap.size,2,none⟩ = some (.int .i64 b) from fun W hW => by
  have h := (hW.block w.heap.size (by omega)).trans hA
  exact ⟨bC h 0,bC h 1,bC h 2⟩)
 have HSP := Hd hsp
 have HF := Hd hF
 have HN2 := Hd (hN.below hb2)
 have HZ := Hd hz
 have HMK := Hd hmk
 have HB2 := Hd hb2
 have HA := Hd hA
 have HR := Hd hB
 clear hsp hF hN hz hmk hb2 hA hB
 go_enter Tryz.func157,Tryz.ntmps157
 go_wp2_with fail
 rw [← hw2]
 clear hw2
 refine (Adt a cap m b L hL0 (by omega) (fun x hx => by obtain ⟨j,hj,rfl⟩ := List.getElem_of_mem hx; have := (HF.out.ins j hj).2.1; omega) _ HN2.out).mono ?_
 rintro e w3 ⟨g,cap',vs,rfl,hO3,hb3⟩
 have HO3 := Hd hO3
 have HB3 := Hd hb3
 have hs3 := hb3.size
 obtain ⟨q0,q1,q2⟩ := hAll.out _ hb3
 have hq := Aaj q0
 clear hO3 hb3
 go_wp2_with fail
 obtain ⟨w4,hw4⟩ : ∃ w4,w4 = w3.alloc (.cells #[.slice (some ⟨g,0,none⟩) L.length cap',.int .i64 m,.int .i64 b] 24) := ⟨_,rfl⟩
 have hb4 : Below w3.heap.size w3 w4 := by rw [hw4]; exact Aab w3 _
 have hM4 : w4.heap[w3.heap.size]? = some (.cells #[.slice (some ⟨g,0,none⟩) L.length cap',.int .i64 m,.int .i64 b] 24 (0,0)) := by rw [hw4]; exact Aae w3 _
 have hs4 : w4.heap.size = w3.heap.size + 1 := by rw [hw4]; simp
 rw [← hw4]
 clear hw4 q0 q1 q2 hq
 have HB4 := Hd (HB3.out.trans (hb4.mono hs3))
 have HB34 := Hd hb4
 have HM4 := Hd hM4
 clear hb4 hM4
 refine (Awc _ _ _ _ _ _ hp L HF.out _ _ _ _ HSP.out _ (HN2.out.below HB4.out)).mono ?_
 rintro e w5 ⟨rfl,hb5⟩
 have HB5 := Hd (HB4.out.trans (hb5.mono (by omega)))
 have HB35 := Hd (HB34.out.trans (hb5.mono (by omega)))
 have hM5 := (hb5.block w3.heap.size (by omega)).trans HM4.out
 have HM5 := Hd hM5
 have hs5 := hb5.size
 have HS5 := Hd hs5
 clear hb5 hM5
 by_cases h1 : pe = 0
 ·subst h1
  obtain ⟨w6,hw6⟩ : ∃ w6,w6 = w5.alloc (.cells #[.int .i64 d,.string ⟨nm.toArray⟩,.bool sl] 203) := ⟨_,rfl⟩
  have hb6 : Below w5.heap.size w5 w6 := by rw [hw6]; exact Aab w5 _
  have hS6 : w6.heap[w5.heap.size]? = some (.cells #[.int .i64 d,.string ⟨nm.toArray⟩,.bool sl] 203 (0,0)) := by rw [hw6]; exact Aae w5 _
  have hs6 : w6.heap.size = w5.heap.size + 1 := by rw [hw6]; simp
  have HB56 := Hd hb6
  have HS6 := Hd hS6
  have HARM := Hd (show ∀ W,Below w6.heap.size w6 W → W.cell? ⟨w5.heap.size,0,none⟩ = some (.int .i64 d) ∧ W.cell? ⟨w5.heap.size,1,none⟩ = some (.string ⟨nm.toArray⟩) ∧ W.cell? ⟨w5.heap.size,2,none⟩ = some (.bool sl) from fun W hW => by
   have h := (hW.block w5.heap.size (by omega)).trans HS6.out
   exact ⟨bC h 0,bC h 1,bC h 2⟩)
  have hAll2 := Hd (show ∀ W,Below w6.heap.size w6 W → W.cell? ⟨w.heap.size,0,none⟩ = some (.slice a L.length cap) ∧ W.cell? ⟨w.heap.size,1,none⟩ = some (.int .i64 m) ∧ W.cell? ⟨w.heap.size,2,none⟩ = some (.int .i64 b) from fun W hW => hAll.out W (HB5.out.trans ((HB56.out.mono (by omega)).trans (hW.mono (by omega)))))
  have HW6 := Hd (show Below w.heap.size w w6 from HB2.out.trans (((HB5.out).trans (HB56.out.mono (by omega))).mono (by omega)))
  obtain ⟨xk,hxk⟩ : ∃ v,(X d).kind = v := ⟨_,rfl⟩
  obtain ⟨xm,hxm⟩ : ∃ v,(X d).mode = v := ⟨_,rfl⟩
  obtain ⟨xd,hxd⟩ : ∃ v,(X d).data = v := ⟨_,rfl⟩
  obtain ⟨xu,hxu⟩ : ∃ v,(X d).up = v := ⟨_,rfl⟩
  have hxl := hX1 d
  have hc6 := HMK.out w6 d HW6.out
  unfold newV at hc6
  rw [hxk,hxm,hxl,hxd,hxu] at hc6
  have HXE := Hd (show X d = ⟨xk,xm,0,xd,[],xu⟩ by have h0 := hX0 d; cases hx : X d; rw [hx] at hxk hxm hxl hxd hxu h0; simp only at hxk hxm hxl hxd hxu h0; subst hxk hxm hxl hxd hxu h0; rfl)
  have HC6 := Hd hc6
  rw [hw6] at HC6
  have hxdl : xd.length ≤ 1024 := by rw [← hxd]; exact hX2 d
  clear hxk hxm hxl hxd hxu hc6 hX0 hX1 hX2 HMK hAll
  clear hb6 hS6
  go_wp2_with fail
  refine HC6.out.mono ?_
  rintro e w7 ⟨rfl,hb7⟩
  have hb7' : Below w6.heap.size w6 w7 := by rw [hw6]; exact hb7
  obtain ⟨q0,q1,q2⟩ := hAll2.out w7 hb7'
  obtain ⟨u0,u1,u2⟩ := HARM.out w7 hb7'
  have HB7 := Hd hb7'
  have hs7 := hb7'.size
  have hq := Aaj q0
  have hu := Aaj u0
  clear hb7 hb7' hw6 HC6
  go_wp2_with fail
  obtain ⟨w8,hw8⟩ : ∃ w8,w8 = w7.alloc (.cells #[.int .i64 xk,.int .i64 xm,.int .i64 0,.string ⟨xd.toArray⟩,.slice none 0 0,.int .i64 xu] 66) := ⟨_,rfl⟩
  have hb78 : Below w7.heap.size w7 w8 := by rw [hw8]; exact Aab w7 _
  have hI8 : w8.heap[w7.heap.size]? = some (.cells #[.int .i64 xk,.int .i64 xm,.int .i64 0,.string ⟨xd.toArray⟩,.slice none 0 0,.int .i64 xu] 66 (0,0)) := by rw [hw8]; exact Aae w7 _
  have hs8 : w8.heap.size = w7.heap.size + 1 := by rw [hw8]; simp
  rw [← hw8]
  clear hw8 q0 q1 q2 u0 u1 u2 hq hu
  have HB68 := Hd (HB7.out.trans (hb78.mono hs7))
  have HB58 := Hd (HB56.out.trans (HB68.out.mono (by omega)))
  have HA8 := Hd (show ∀ W,Below w8.heap.size w8 W → W.cell? ⟨w.heap.size,0,none⟩ = some (.slice a L.length cap) ∧ W.cell? ⟨w.heap.size,1,none⟩ = some (.int .i64 m) ∧ W.cell? ⟨w.heap.size,2,none⟩ = some (.int .i64 b) from fun W hW => hAll2.out W (HB68.out.trans (hW.mono (by omega))))
  have HS8 := Hd (show ∀ W,Below w8.heap.size w8 W → W.cell? ⟨w5.heap.size,0,none⟩ = some (.int .i64 d) ∧ W.cell? ⟨w5.heap.size,1,none⟩ = some (.string ⟨nm.toArray⟩) ∧ W.cell? ⟨w5.heap.size,2,none⟩ = some (.bool sl) from fun W hW => HARM.out W (HB68.out.trans (hW.mono (by omega))))
  have HM8 := Hd (show ∀ W,Below w8.heap.size w8 W → W.cell? ⟨w3.heap.size,0,none⟩ = some (.slice (some ⟨g,0,none⟩) L.length cap') ∧ W.cell? ⟨w3.heap.size,1,none⟩ = some (.int .i64 m) ∧ W.cell? ⟨w3.heap.size,2,none⟩ = some (.int .i64 b) from fun W hW => by
   have h := ((HB58.out.trans (hW.mono (by omega))).block w3.heap.size (by omega)).trans HM5.out
   exact ⟨bC h 0,bC h 1,bC h 2⟩)
  have HI8 := Hd (show ∀ W,Below w8.heap.size w8 W → W.heap[w7.heap.size]? = some (.cells #[.int .i64 xk,.int .i64 xm,.int .i64 0,.string ⟨xd.toArray⟩,.slice none 0 0,.int .i64 xu] 66 (0,0)) from fun W hW => (hW.block _ (by omega)).trans hI8)
  have HR8 := Hd (show ∀ W,Below w8.heap.size w8 W → W.heap[w.heap.size + 1]? = some (.cells #[.slice none 0 0,.int .i64 0,.int .i64 0] 24 (0,0)) from fun W hW => ((HB5.out.trans (HB58.out.mono (by omega))).block _ (by omega) |> (hW.block _ (by omega)).trans).trans HR.out)
  have HO8 := Hd (show ∀ W,Below w8.heap.size w8 W → OwnT W (w.heap.size + 2) g cap' L vs from fun W hW => by
   have := HO3.out.below (HB35.out.trans ((HB58.out.mono (by omega)).trans (hW.mono (by omega))))
   rw [hs2] at this
   exact this)
  have HN8 := Hd (show ∀ W,Below w8.heap.size w8 W → Aah W a cap L from fun W hW => HN2.out.below (HB5.out.trans ((HB58.out.mono (by omega)).trans (hW.mono (by omega)))))
  have HBW := Hd (show ∀ W,Below w8.heap.size w8 W → Below w.heap.size w W from fun W hW => HB2.out.trans ((HB5.out.trans ((HB58.out.mono (by omega)).trans (hW.mono (by omega)))).mono (by omega)))
  have hsp0 := HSP.out
  obtain ⟨dn,s',hdn,hpw,hfw,hkd,hnk,hnew,hmay⟩ := Ak7 HF.out (cwd := cwd) (p := pb.data.toList) (dirs := true) (by
   unfold Afs at hsp0
   split at hsp0
   ·rename_i h0
    exfalso
    exact h0 (by simpa using (Prod.mk.inj (Prod.mk.inj (Prod.mk.inj hsp0).2).2).2)
   ·rename_i h0
    simpa using h0)
  have hdd : d = (dn : Int) ∧ nm = s' := by
   unfold Afs at hsp0
   rw [hfw] at hsp0
   simp at hsp0
   exact ⟨hsp0.1.symm,hsp0.2.1.symm⟩
  obtain ⟨rfl,rfl⟩ := hdd
  have HNEW := Hd (show L[dn].kind = 2 ∧ Abg nm = true ∧ ∀ e ∈ L[dn].kids,e.1 ≠ nm from ⟨hkd,hnk,hnew⟩)
  clear hsp0 hpw hfw hkd hnk hnew hmay HARM hAll2 hb78 hI8 HB7 HB56 HS6 HW6
  obtain ⟨rf,hrf⟩ : ∃ v,Acg L (dn : Int) sl xk = v := ⟨_,rfl⟩
  have HRF := Hd hrf
  refine (Anr a cap m b dn ⟨nm.toArray⟩ sl xk L (by omega) hdn _ (HN8.out _ (Below.refl _ _))).mono ?_
  rw [hrf]
  rintro e w9 ⟨rfl,hb9⟩
  have HB8w9 := Hd hb9
  have hs9 := hb9.size
  clear hb9 hrf
  have hz2 := HZ.out
  unfold addS at hz2
  rw [HSP.out] at hz2
  simp only [ne_eq,not_true_eq_false,if_false,HXE.out,HRF.out] at hz2
  by_cases h2 : rf = 0
  ·subst h2
   obtain ⟨q0,q1,q2⟩ := HA8.out w9 HB8w9.out
   have hq := Aaj q0
   go_wp2_with fail
   refine (Atb a cap L (by omega) _ (HN8.out w9 HB8w9.out)).mono ?_
   rintro e w10 ⟨rfl,hb10⟩
   have HB8w10 := Hd (HB8w9.out.trans (hb10.mono hs9))
   have hs10 := hb10.size
   clear hb10 q0 q1 q2 hq
   obtain ⟨fz,hfz⟩ : ∃ v,Ag9 L = v := ⟨_,rfl⟩
   rw [hfz] at hz2 ⊢
   have HFZ := Hd hfz
   clear hfz
   by_cases h3 : fz < 0
   ·simp only [h3,true_or,not_true_eq_false,if_false,if_true,Prod.mk.injEq] at hz2
    obtain ⟨rfl,rfl,rfl⟩ := hz2
    have HRX := Hd (HR8.out w10 HB8w10.out)
    have r0 := bC HRX.out 0
    have r1 := bC HRX.out 1
    have r2 := bC HRX.out 2
    have s0 := bF HRX.out 0
    have s1 := bF HRX.out 1
    have s2 := bF HRX.out 2
    have hrl := lt_of_block HRX.out
    obtain ⟨m0,m1,m2⟩ := HM8.out w10 HB8w10.out
    have hml := Aaj m0
    go_wp2_with fail
    change bodyPost _ _ _ _ _ (put3 w10 (w.heap.size + 1) (.slice (some ⟨g,0,none⟩) L.length cap') (.int .i64 m) (.int .i64 b))
    obtain ⟨c0,c1,c2⟩ := Aau HRX.out (.slice (some ⟨g,0,none⟩) L.length cap') (.int .i64 m) (.int .i64 b)
    obtain ⟨hOF,hBF⟩ := Ahd (HO8.out w10 HB8w10.out) (HBW.out w10 HB8w10.out) (.slice (some ⟨g,0,none⟩) L.length cap') (.int .i64 m) (.int .i64 b)
    have HOG := Hd hOF
    have HBG := Hd hBF
    clear hOF hBF
    generalize put3 w10 (w.heap.size + 1) (.slice (some ⟨g,0,none⟩) L.length cap') (.int .i64 m) (.int .i64 b) = wF at *
    exact bodyPost_ret (v := .tuple #[.agg #[.slice (some ⟨g,0,none⟩) L.length cap',.int .i64 m,.int .i64 b],.int .i64 0,.int .i64 28]) (by simp [results,Tryz.results157,go_sem,c0,c1,c2]) rfl ⟨⟨g,cap',vs,rfl,HOG.out⟩,HBG.out⟩
   ·obtain ⟨k,hk,hkf⟩ : ∃ k : Nat,fz = (k : Int) ∧ Ahm L L.length 0 = some k := by
     have h4 := HFZ.out
     unfold Ag9 at h4
     cases hw : Ahm L L.length 0 with
     | none => rw [hw] at h4; simp only at h4; omega
     | some k => rw [hw] at h4; exact ⟨k,h4.symm,rfl⟩
    subst hk
    obtain ⟨-,hk1,hk2⟩ := Ajp L.length 0 hkf
    have hkl : k < L.length := by omega
    rw [Aad L k hkl] at hk2
    have HK2 := Hd hk2
    clear hk2 hkf
    obtain ⟨q0,q1,q2⟩ := HA8.out w10 HB8w10.out
    have hq := Aaj q0
    have i3 := bC (HI8.out w10 HB8w10.out) 3
    have hil := lt_of_block (HI8.out w10 HB8w10.out)
    have hsl := Acs xd
    go_wp2_with fail
    refine (Ajc a cap m b xd.length (by omega) L (by omega) (by omega) _ (HN8.out w10 HB8w10.out)).mono ?_
    rintro e w11 ⟨rfl,hb11⟩
    have HB8w11 := Hd (HB8w10.out.trans (hb11.mono (by omega)))
    have hs11 := hb11.size
    clear hb11 q0 q1 q2 hq i3 hil
    have h3' : ¬ ((k : Int) < 0) := by omega
    simp only [h3',false_or,not_true_eq_false,if_false] at hz2
    by_cases h5 : (Aax L : Int) + (xd.length : Int) ≤ b
    ·have h5b : decide ((Aax L : Int) + (xd.length : Int) ≤ b) = true := decide_eq_true h5
     rw [if_neg (by omega)] at hz2
     simp only [Prod.mk.injEq] at hz2
     obtain ⟨hL',rfl,rfl⟩ := hz2
     have HL' := Hd hL'
     have hO11 := HO8.out w11 HB8w11.out
     have hkv : k < vs.length := by rw [hO11.nodes.len]; exact hkl
     have hnk := hO11.nodes.node k hkl hkv
     have n0 := hnk.kind
     have n1 := hnk.mode
     have n2 := hnk.links
     have n3 := hnk.data
     have n4 := hnk.kids
     have n5 := hnk.up
     have fr0 := hO11.nodes.free (k * 6)
     have fr1 := hO11.nodes.free (k * 6 + 1)
     have fr2 := hO11.nodes.free (k * 6 + 2)
     have fr3 := hO11.nodes.free (k * 6 + 3)
     have fr4 := hO11.nodes.free (k * 6 + 4)
     have fr5 := hO11.nodes.free (k * 6 + 5)
     have hgl := hO11.nodes.lt
     have hB11 := HI8.out w11 HB8w11.out
     have i0 := bC hB11 0
     have i1 := bC hB11 1
     have i2 := bC hB11 2
     have i3 := bC hB11 3
     have i4 := bC hB11 4
     have i5 := bC hB11 5
     have hil := lt_of_block hB11
     obtain ⟨m0,m1,m2⟩ := HM8.out w11 HB8w11.out
     obtain ⟨u0,u1,u2⟩ := HS8.out w11 HB8w11.out
     have hml := Aaj m0
     have hul := Aaj u0
     have hg3 : g < w3.heap.size := HO3.out.nodes.lt
     have hne1 : ¬ (g = w3.heap.size) := by omega
     have hne2 : ¬ (g = w5.heap.size) := by omega
     have hkl' : (k : Int) < (L.length : Int) := by omega
     have hk0 : (0 : Int) ≤ (k : Int) := by omega
     obtain ⟨kv,hkvv⟩ : ∃ v,v = vs[k] := ⟨_,rfl⟩
     rw [← hkvv] at n4
     clear hB11 hnk hkvv hO11
     go_wp2_with fail
     change Calls _ _ _ (w11.setCells g (k * 6) (inoC (⟨xk,xm,0,xd,[],xu⟩ : Ino) (.slice none 0 0))) _
     obtain ⟨w12,hw12⟩ : ∃ w12,w12 = w11.setCells g (k * 6) (inoC (⟨xk,xm,0,xd,[],xu⟩ : Ino) (.slice none 0 0)) := ⟨_,rfl⟩
     rw [← hw12]
     have hO12 : OwnT w12 (w.heap.size + 2) g cap' (L.set k (⟨xk,xm,0,xd,[],xu⟩ : Ino)) (vs.set k (.slice none 0 0)) := by rw [hw12]; exact (HO8.out w11 HB8w11.out).setNode hkl (⟨xk,xm,0,xd,[],xu⟩ : Ino) rfl
     have hst12 : ∀ j,j ≠ g → w12.heap[j]? = w11.heap[j]? := fun j hj => by rw [hw12]; exact Aeq _ _ _ _ _ hj
     have hs12 : w12.heap.size = w11.heap.size := by rw [hw12]; exact Afd _ _ _ _
     have hb12 : Below w.heap.size w w12 := by
      have h1 := HBW.out w11 HB8w11.out
      have h2 := HO3.out.hbase
      have hsts : ∀ (l : List Value) (b o : Nat) (W : World),(W.setCells b o l).os = W.os ∧ (W.setCells b o l).tape = W.tape ∧ (W.setCells b o l).output = W.output := fun l => by
       induction l with
       | nil => exact fun _ _ _ => ⟨rfl,rfl,rfl⟩
       | cons v r ih => exact fun b o W => ih b (o + 1) (W.setCell ⟨b,o,none⟩ v)
      have h3 := hsts (inoC (⟨xk,xm,0,xd,[],xu⟩ : Ino) (.slice none 0 0)) g (k * 6) w11
      exact ⟨by rw [hw12]; exact h3.1.trans h1.os,by rw [hw12]; exact h3.2.1.trans h1.tape,by rw [hw12]; exact h3.2.2.trans h1.output,by rw [hs12]; exact h1.size,fun j hj => (hst12 j (by omega)).trans (h1.block j hj)⟩
     have HO12 := Hd hO12
     have HST12 := Hd hst12
     have HB12 := Hd hb12
     clear n0 n1 n2 n3 n4 n5 fr0 fr1 fr2 fr3 fr4 fr5 i0 i1 i2 i3 i4 i5 hil m0 m1 m2 u0 u1 u2 hml hul hw12 hO12 hst12 hb12
     have hdk : dn ≠ k := fun e => by
      have h1 := HNEW.out.1
      have h2 := HK2.out
      subst e
      rw [h2] at h1
      exact absurd h1 (by decide)
     have hdl' : dn < (L.set k (⟨xk,xm,0,xd,[],xu⟩ : Ino)).length := by rw [List.length_set]; exact hdn
     have hkl2 : k < (L.set k (⟨xk,xm,0,xd,[],xu⟩ : Ino)).length := by rw [List.length_set]; exact hkl
     have ed : (L.set k (⟨xk,xm,0,xd,[],xu⟩ : Ino))[dn] = L[dn] := List.getElem_set_ne (fun e => hdk e.symm) _
     have ek : (L.set k (⟨xk,xm,0,xd,[],xu⟩ : Ino))[k] = (⟨xk,xm,0,xd,[],xu⟩ : Ino) := List.getElem_set_self ..
     have hgive := Aus (w.heap.size + 2) g cap' dn k m b nm sl (L.set k (⟨xk,xm,0,xd,[],xu⟩ : Ino)) (vs.set k (.slice none 0 0)) hdl' hkl2 hdk (by rw [ed]; exact (Adk HF.out.ins dn hdn).2) (by rw [ed]; exact (HF.out.ins dn hdn).2.1) (by rw [ed]; exact HNEW.out.2.2) (by rw [ek]; exact Int.le_refl _) (by rw [ek]; show (0 : Int) ≤ 4611686018427387904; decide) w12 (by have := (HBW.out w11 HB8w11.out).size; omega) HO12.out
     rw [ek] at hgive
     simp only [Axc hdn hdk] at hgive
     rw [List.length_set] at hgive
     have HGIVE := Hd hgive
     have HUN := Hd (show Under g (vs.set k (.slice none 0 0)) w3.heap.size from ⟨HO3.out.nodes.lt,fun j hj r hr => by
      rw [List.length_set] at hj
      rw [List.getElem_set] at hr
      split at hr
      ·cases hr
      ·exact HO3.out.under.own j hj r hr⟩)
     clear hgive ed ek
     refine HGIVE.out.mono ?_
     rintro e w13 ⟨rfl,⟨vs',hO13⟩,hb13,hkeep⟩
     have hM13 : w13.heap[w3.heap.size]? = w11.heap[w3.heap.size]? := (hkeep _ HUN.out _ (Nat.le_refl _) (by rw [hs12]; exact Nat.lt_of_lt_of_le (by omega) HB8w11.out.size)).trans (HST12.out _ (by omega))
     have hc0 := (World.cell?_of_block (a := ⟨w3.heap.size,0,none⟩) hM13).trans (HM8.out w11 HB8w11.out).1
     have hc1 := (World.cell?_of_block (a := ⟨w3.heap.size,1,none⟩) hM13).trans (HM8.out w11 HB8w11.out).2.1
     have hc2 := (World.cell?_of_block (a := ⟨w3.heap.size,2,none⟩) hM13).trans (HM8.out w11 HB8w11.out).2.2
     have hml := Aaj hc0
     have hR13 : w13.heap[w.heap.size + 1]? = some (.cells #[.slice none 0 0,.int .i64 0,.int .i64 0] 24 (0,0)) := (hb13.block _ (by omega)).trans ((HST12.out _ (by have := HO3.out.hbase; omega)).trans (HR8.out w11 HB8w11.out))
     have HRX := Hd hR13
     have r0 := bC hR13 0
     have r1 := bC hR13 1
     have r2 := bC hR13 2
     have s0 := bF hR13 0
     have s1 := bF hR13 1
     have s2 := bF hR13 2
     have hrl := lt_of_block hR13
     have HO13 := Hd hO13
     have HB13 := Hd (HB12.out.trans (hb13.mono (show w.heap.size ≤ w.heap.size + 2 by omega)))
     clear hO13 hb13 hkeep hM13 hR13
     go_wp2_with fail
     change bodyPost _ _ _ _ _ (put3 w13 (w.heap.size + 1) (.slice (some ⟨g,0,none⟩) L.length cap') (.int .i64 m) (.int .i64 b))
     obtain ⟨c0,c1,c2⟩ := Aau HRX.out (.slice (some ⟨g,0,none⟩) L.length cap') (.int .i64 m) (.int .i64 b)
     obtain ⟨hOF,hBF⟩ := Ahd HO13.out HB13.out (.slice (some ⟨g,0,none⟩) L.length cap') (.int .i64 m) (.int .i64 b)
     have HOG := Hd hOF
     have HBG := Hd hBF
     clear hOF hBF
     generalize put3 w13 (w.heap.size + 1) (.slice (some ⟨g,0,none⟩) L.length cap') (.int .i64 m) (.int .i64 b) = wF at *
     have hLl : L'.length = L.length := by rw [← HL'.out,Int.toNat_natCast,Int.toNat_natCast]; exact Acy ..
     exact bodyPost_ret (v := .tuple #[.agg #[.slice (some ⟨g,0,none⟩) L.length cap',.int .i64 m,.int .i64 b],.int .i64 k,.int .i64 0]) (by simp [results,Tryz.results157,go_sem,c0,c1,c2]) rfl ⟨⟨g,cap',vs',by rw [hLl]; rfl,by rw [← HL'.out,Int.toNat_natCast,Int.toNat_natCast]; exact HOG.out⟩,HBG.out⟩
    ·have h5b : decide ((Aax L : Int) + (xd.length : Int) ≤ b) = false := decide_eq_false h5
     rw [if_pos (by omega)] at hz2
     simp only [Prod.mk.injEq] at hz2
     obtain ⟨rfl,rfl,rfl⟩ := hz2
     have HRX := Hd (HR8.out w11 HB8w11.out)
     have r0 := bC HRX.out 0
     have r1 := bC HRX.out 1
     have r2 := bC HRX.out 2
     have s0 := bF HRX.out 0
     have s1 := bF HRX.out 1
     have s2 := bF HRX.out 2
     have hrl := lt_of_block HRX.out
     obtain ⟨m0,m1,m2⟩ := HM8.out w11 HB8w11.out
     have hml := Aaj m0
     go_wp2_with fail
     change bodyPost _ _ _ _ _ (put3 w11 (w.heap.size + 1) (.slice (some ⟨g,0,none⟩) L.length cap') (.int .i64 m) (.int .i64 b))
     obtain ⟨c0,c1,c2⟩ := Aau HRX.out (.slice (some ⟨g,0,none⟩) L.length cap') (.int .i64 m) (.int .i64 b)
     obtain ⟨hOF,hBF⟩ := Ahd (HO8.out w11 HB8w11.out) (HBW.out w11 HB8w11.out) (.slice (some ⟨g,0,none⟩) L.length cap') (.int .i64 m) (.int .i64 b)
     have HOG := Hd hOF
     have HBG := Hd hBF
     clear hOF hBF
     generalize put3 w11 (w.heap.size + 1) (.slice (some ⟨g,0,none⟩) L.length cap') (.int .i64 m) (.int .i64 b) = wF at *
     exact bodyPost_ret (v := .tuple #[.agg #[.slice (some ⟨g,0,none⟩) L.length cap',.int .i64 m,.int .i64 b],.int .i64 0,.int .i64 28]) (by simp [results,Tryz.results157,go_sem,c0,c1,c2]) rfl ⟨⟨g,cap',vs,rfl,HOG.out⟩,HBG.out⟩
  ·simp only [h2,not_false_eq_true,if_true,Prod.mk.injEq] at hz2
   obtain ⟨rfl,rfl,rfl⟩ := hz2
   have hb2 : (rf != 0) = true := by simpa using h2
   have HRX := Hd (HR8.out w9 HB8w9.out)
   have r0 := bC HRX.out 0
   have r1 := bC HRX.out 1
   have r2 := bC HRX.out 2
   have s0 := bF HRX.out 0
   have s1 := bF HRX.out 1
   have s2 := bF HRX.out 2
   have hrl := lt_of_block HRX.out
   obtain ⟨m0,m1,m2⟩ := HM8.out w9 HB8w9.out
   have hml := Aaj m0
   go_wp2_with fail
   change bodyPost _ _ _ _ _ (put3 w9 (w.heap.size + 1) (.slice (some ⟨g,0,none⟩) L.length cap') (.int .i64 m) (.int .i64 b))
   obtain ⟨c0,c1,c2⟩ := Aau HRX.out (.slice (some ⟨g,0,none⟩) L.length cap') (.int .i64 m) (.int .i64 b)
   obtain ⟨hOF,hBF⟩ := Ahd (HO8.out w9 HB8w9.out) (HBW.out w9 HB8w9.out) (.slice (some ⟨g,0,none⟩) L.length cap') (.int .i64 m) (.int .i64 b)
   have HOG := Hd hOF
   have HBG := Hd hBF
   clear hOF hBF
   generalize put3 w9 (w.heap.size + 1) (.slice (some ⟨g,0,none⟩) L.length cap') (.int .i64 m) (.int .i64 b) = wF at *
   exact bodyPost_ret (v := .tuple #[.agg #[.slice (some ⟨g,0,none⟩) L.length cap',.int .i64 m,.int .i64 b],.int .i64 0,.int .i64 rf]) (by simp [results,Tryz.results157,go_sem,c0,c1,c2]) rfl ⟨⟨g,cap',vs,rfl,HOG.out⟩,HBG.out⟩
 ·have hz2 := HZ.out
  unfold addS at hz2
  rw [HSP.out] at hz2
  simp only [h1,ne_eq,not_false_eq_true,if_true,Prod.mk.injEq] at hz2
  obtain ⟨rfl,rfl,rfl⟩ := hz2
  have hb1 : (pe != 0) = true := by simpa using h1
  have m0 := bC HM5.out 0
  have m1 := bC HM5.out 1
  have m2 := bC HM5.out 2
  have hml := lt_of_block HM5.out
  have hR5 : w5.heap[w.heap.size + 1]? = some (.cells #[.slice none 0 0,.int .i64 0,.int .i64 0] 24 (0,0)) := (HB5.out.block _ (by omega)).trans HR.out
  have r0 := bC hR5 0
  have r1 := bC hR5 1
  have r2 := bC hR5 2
  have s0 := bF hR5 0
  have s1 := bF hR5 1
  have s2 := bF hR5 2
  have hrl := lt_of_block hR5
  have HRX := Hd hR5
  clear hAll HMK eg hR5
  go_wp2_with fail
  change bodyPost _ _ _ _ _ ((put3 w5 (w.heap.size + 1) (.slice (some ⟨g,0,none⟩) L.length cap') (.int .i64 m) (.int .i64 b)).alloc (.cells #[.int .i64 d,.string ⟨nm.toArray⟩,.bool sl] 203))
  have hO5 : OwnT w5 (w.heap.size + 2) g cap' L vs := by
   have := HO3.out.below HB35.out
   rw [hs2] at this
   exact this
  obtain ⟨c0,c1,c2⟩ := Aau HRX.out (.slice (some ⟨g,0,none⟩) L.length cap') (.int .i64 m) (.int .i64 b)
  obtain ⟨hOF,hBF⟩ := Ahd hO5 (HB2.out.trans (HB5.out.mono (by omega))) (.slice (some ⟨g,0,none⟩) L.length cap') (.int .i64 m) (.int .i64 b)
  have hbx := Aab (put3 w5 (w.heap.size + 1) (.slice (some ⟨g,0,none⟩) L.length cap') (.int .i64 m) (.int .i64 b)) (.cells #[.int .i64 d,.string ⟨nm.toArray⟩,.bool sl] 203)
  have d0 := Aaa hbx c0
  have d1 := Aaa hbx c1
  have d2 := Aaa hbx c2
  have HOG := Hd (hOF.below hbx)
  have HBG := Hd (hBF.trans (hbx.mono hBF.size))
  clear c0 c1 c2 hOF hBF hbx
  generalize (put3 w5 (w.heap.size + 1) (.slice (some ⟨g,0,none⟩) L.length cap') (.int .i64 m) (.int .i64 b)).alloc (.cells #[.int .i64 d,.string ⟨nm.toArray⟩,.bool sl] 203) = wF at *
  exact bodyPost_ret (v := .tuple #[.agg #[.slice (some ⟨g,0,none⟩) L.length cap',.int .i64 m,.int .i64 b],.int .i64 0,.int .i64 pe]) (by simp [results,Tryz.results157,go_sem,d0,d1,d2]) rfl ⟨⟨g,cap',vs,rfl,HOG.out⟩,HBG.out⟩
theorem Anv (a : Option Addr) (cap : Nat) (K : List Pip) (hb : K.length ≤ 100000) (w : World) (hK : SlIn w a K.length cap 4 (rowC pipF K)) :
  Calls Tryz.prog 115 #[.slice a K.length cap] w fun e w' => ∃ a' cap',e = .returned (.slice a' K.length cap') ∧ w'.ownsRow w.heap.size 87 4 (.slice a' K.length cap') K.length (rowC pipF K) ∧ Below w.heap.size w w' := by
 obtain ⟨i0,hi,hz0,hz1,hz2⟩ := info_parts Ao6
 have hm : K.length ≤ maxLen := by unfold maxLen; omega
 have q22 : ∀ (w : World) (a : Option Addr) (n c n' c' : Nat),(binOp .eql 25 (.slice a n c) (.slice none n' c')).run Tryz.prog w = .ok (.bool a.isNone) w := fun w a n c n' c' => Lib.run_eql_slice_nil w _ _ a n c n' c' Tryz.underlying25
 cases a with
 | none =>
  obtain ⟨h0,h1⟩ := Aoz hK (by decide)
  have HN := Hd (And.intro h0 h1)
  clear h1
  rw [h0]
  go_enter Tryz.func115,Tryz.ntmps115
  go_wp2_with fail
  go_ret
  refine ⟨none,0,rfl,?_,Below.refl _ _⟩
  rw [HN.out.2]
  exact World.ownsRow_nil _ _ _ _
 | some a =>
  have A : Aside (∀ j u,(rowC pipF K)[j]? = some u → w.cell? (a.add j) = some u) := fun j u hj => Axw hK (by decide) a rfl j u hj
  clear hK
  obtain ⟨ab,ao,asp⟩ := a
  go_enter Tryz.func115,Tryz.ntmps115
  go_wp2_with (at_builtin; refine wpList_append_own _ rfl _ _ 25 rfl w.heap.size 87 i0 _ 4 40 Tryz.underlying25 hi hz0 hz1 hz2 rfl (by decide) _ _ _ rfl (World.ownsRow_made w #[] 0 (Nat.le_refl _) (Nat.zero_le _) (by simp)) ⟨ab,ao,asp⟩ K.length cap (rowC pipF K) rfl ?qc1 ?qc2 ?qc3 ?qc4 ?qc5 ?qc6 ?_)
  case qc1 => exact Aia Aey K
  case qc2 =>
   intro j u hj
   exact Lib.cell?_alloc_some _ (A.out j u hj)
  case qc3 => exact Aps K
  case qc4 => rw [Nat.zero_add]; exact hm
  case qc5 => rw [Nat.zero_add]; omega
  case qc6 => simp
  intro v' w1 hown hgrow hnil
  have hown2 : w1.ownsRow w.heap.size 87 4 v' K.length (rowC pipF K) := by simpa using hown
  obtain ⟨a',cap',rfl,-⟩ := Aja hown2
  go_wp2_with fail
  go_ret
  refine ⟨a',cap',rfl,hown2,?_⟩
  exact ((Below.refl _ w).alloc (Nat.le_refl _) _).grown hgrow (by simp) (by intro k hk; simp [Value.ownBlock] at hk; omega)
theorem Anf (a : Option Addr) (cap : Nat) (K : List Opn) (hb : K.length ≤ 100000) (w : World) (hK : SlIn w a K.length cap 5 (rowC opnF K)) :
  Calls Tryz.prog 116 #[.slice a K.length cap] w fun e w' => ∃ a' cap',e = .returned (.slice a' K.length cap') ∧ w'.ownsRow w.heap.size 70 5 (.slice a' K.length cap') K.length (rowC opnF K) ∧ Below w.heap.size w w' := by
 obtain ⟨i0,hi,hz0,hz1,hz2⟩ := info_parts Apj
 have hm : K.length ≤ maxLen := by unfold maxLen; omega
 have q22 : ∀ (w : World) (a : Option Addr) (n c n' c' : Nat),(binOp .eql 26 (.slice a n c) (.slice none n' c')).run Tryz.prog w = .ok (.bool a.isNone) w := fun w a n c n' c' => Lib.run_eql_slice_nil w _ _ a n c n' c' Tryz.underlying26
 cases a with
 | none =>
  obtain ⟨h0,h1⟩ := Aoz hK (by decide)
  have HN := Hd (And.intro h0 h1)
  clear h1
  rw [h0]
  go_enter Tryz.func116,Tryz.ntmps116
  go_wp2_with fail
  go_ret
  refine ⟨none,0,rfl,?_,Below.refl _ _⟩
  rw [HN.out.2]
  exact World.ownsRow_nil _ _ _ _
 | some a =>
  have A : Aside (∀ j u,(rowC opnF K)[j]? = some u → w.cell? (a.add j) = some u) := fun j u hj => Axw hK (by decide) a rfl j u hj
  clear hK
  obtain ⟨ab,ao,asp⟩ := a
  go_enter Tryz.func116,Tryz.ntmps116
  go_wp2_with (at_builtin; refine wpList_append_own _ rfl _ _ 26 rfl w.heap.size 70 i0 _ 5 40 Tryz.underlying26 hi hz0 hz1 hz2 rfl (by decide) _ _ _ rfl (World.ownsRow_made w #[] 0 (Nat.le_refl _) (Nat.zero_le _) (by simp)) ⟨ab,ao,asp⟩ K.length cap (rowC opnF K) rfl ?qc1 ?qc2 ?qc3 ?qc4 ?qc5 ?qc6 ?_)
  case qc1 => exact Aia Ad2 K
  case qc2 =>
   intro j u hj
   exact Lib.cell?_alloc_some _ (A.out j u hj)
  case qc3 => exact Apg K
  case qc4 => rw [Nat.zero_add]; exact hm
  case qc5 => rw [Nat.zero_add]; omega
  case qc6 => simp
  intro v' w1 hown hgrow hnil
  have hown2 : w1.ownsRow w.heap.size 70 5 v' K.length (rowC opnF K) := by simpa using hown
  obtain ⟨a',cap',rfl,-⟩ := Aja hown2
  go_wp2_with fail
  go_ret
  refine ⟨a',cap',rfl,hown2,?_⟩
  exact ((Below.refl _ w).alloc (Nat.le_refl _) _).grown hgrow (by simp) (by intro k hk; simp [Value.ownBlock] at hk; omega)
structure Owned (W : World) (B : Nat) (A : KAd) (K : Krn) : Prop where
 own : KOwn W B A K.pipes K.opens
 tree : ∀ W',(∀ k,k < W.heap.size → (∀ x,A.pa = some x → x.block ≠ k) → (∀ x,A.oa = some x → x.block ≠ k) → W'.heap[k]? = W.heap[k]?) → Aah W' A.ta A.tc K.tree
theorem Owned.nodes {W : World} {B : Nat} {A : KAd} {K : Krn} (h : Owned W B A K) : Aah W A.ta A.tc K.tree := h.tree W fun _ _ _ _ => rfl
theorem Owned.kern {W : World} {B : Nat} {A : KAd} {K : Krn} (h : Owned W B A K) : KernIn W A K := h.own.kern h.nodes
theorem Owned.below {W W' : World} {B : Nat} {A : KAd} {K : Krn} (h : Owned W B A K) (hb : Below W.heap.size W W') : Owned W' B A K :=
 ⟨h.own.below hb,fun W'' hw => h.tree W'' fun k hk h1 h2 => (hw k (Nat.lt_of_lt_of_le hk hb.size) h1 h2).trans (hb.block k hk)⟩
theorem Wk.of_owned {W W' : World} {B g : Nat} {A : KAd} {K : Krn} {f : List Int} (h : Owned W B A K) (hb : Below W.heap.size W W') (hg : W.heap.size ≤ g) (hB : B ≤ W.heap.size) (hx : W'.heap[g]? = some (.cells (wrk g A K f) 124 (0,0))) (hf : f.length = 10) : Wk W' B g A K f := by
 have h' := h.below hb
 refine ⟨hx,Nat.le_trans hB hg,h'.own,fun a ha => ?_,fun a ha => ?_,fun W'' hw => h.tree W'' fun k hk h1 h2 => (hw k (Nat.lt_of_lt_of_le hk hb.size) (fun h3 => ?_)).trans (hb.block k hk),hf⟩
 ·obtain ⟨go,rfl,-,hlt⟩ := Abf h.own.pipes a ha
  show go ≠ g
  omega
 ·obtain ⟨go,rfl,-,hlt⟩ := Abf h.own.opens a ha
  show go ≠ g
  omega
 ·rcases h3 with e | ⟨x,hx,e⟩ | ⟨x,hx,e⟩
  ·omega
  ·exact h1 x hx e
  ·exact h2 x hx e
theorem Ail (A : KAd) (K : Krn) (hF0 : 0 < K.tree.length) (hF1 : K.tree.length ≤ 1000) (hF2 : ∀ x ∈ K.tree,x.kids.length ≤ 4096) (hp : K.pipes.length ≤ 1000) (ho : K.opens.length ≤ 1000) (w : World) (hK : KernIn w A K) :
  Calls Tryz.prog 74 #[.agg #[.slice A.ta K.tree.length A.tc,.int .i64 K.m,.int .i64 K.b,.slice A.pa K.pipes.length A.pc,.slice A.oa K.opens.length A.oc,.string ⟨K.out0.toArray⟩,.string ⟨K.out1.toArray⟩]] w fun e w' => ∃ A' : KAd,e = .returned (.agg #[.slice A'.ta K.tree.length A'.tc,.int .i64 K.m,.int .i64 K.b,.slice A'.pa K.pipes.length A'.pc,.slice A'.oa K.opens.length A'.oc,.string ⟨K.out0.toArray⟩,.string ⟨K.out1.toArray⟩]) ∧ Owned w' w.heap.size A' K ∧ Below w.heap.size w w' := by
 obtain ⟨D0,hD0⟩ : ∃ D : ByteArray,D = ⟨K.out0.toArray⟩ := ⟨_,rfl⟩
 obtain ⟨D1,hD1⟩ : ∃ D : ByteArray,D = ⟨K.out1.toArray⟩ := ⟨_,rfl⟩
 rw [← hD0,← hD1]
 clear hD0 hD1
 obtain ⟨w2,hw2,hb2,hs2,hX,hY⟩ := Aam w #[.slice A.ta K.tree.length A.tc,.int .i64 K.m,.int .i64 K.b,.slice A.pa K.pipes.length A.pc,.slice A.oa K.opens.length A.oc,.string D0,.string D1] #[.slice none 0 0,.int .i64 0,.int .i64 0,.slice none 0 0,.slice none 0 0,.string ⟨#[]⟩,.string ⟨#[]⟩] 29 29
 have HK0 := Hd hK
 have HK := Hd (hK.below hb2)
 have HB2 := Hd hb2
 have HX := Hd hX
 have HY := Hd hY
 clear hK hb2 hX hY
 obtain ⟨q0,q1,q2,q3,q4,q5,q6⟩ := Aar HX.out
 have s0 := bF HX.out 0
 have s1 := bF HX.out 1
 have s2 := bF HX.out 2
 have ql := lt_of_block HX.out
 rw [hw2] at q0 q1 q2 q3 q4 q5 q6 s0 s1 s2 ql
 go_enter Tryz.func74,Tryz.ntmps74
 go_wp2_with fail
 rw [← hw2]
 clear hw2 q0 q1 q2 q3 q4 q5 q6 s0 s1 s2 ql
 refine (Adt A.ta A.tc K.m K.b K.tree hF0 hF1 hF2 _ HK.out.tree).mono ?_
 rintro e w3 ⟨gt,ct,vs,rfl,hot,hb3⟩
 have HOT := Hd hot
 have HB3 := Hd hb3
 have hX3 := (hb3.block w.heap.size (by omega)).trans HX.out
 have hY3 := (hb3.block (w.heap.size + 1) (by omega)).trans HY.out
 have HX3 := Hd hX3
 have HY3 := Hd hY3
 clear hot hb3 hX3 hY3
 obtain ⟨q0,q1,q2,q3,q4,q5,q6⟩ := Aar HX3.out
 have s0 := bF HX3.out 0
 have s1 := bF HX3.out 1
 have s2 := bF HX3.out 2
 have ql := lt_of_block HX3.out
 go_upto_region 2 with fail
 obtain ⟨w4,hw4⟩ : ∃ z,z = put3 w3 w.heap.size (.slice (some ⟨gt,0,none⟩) K.tree.length ct) (.int .i64 K.m) (.int .i64 K.b) := ⟨_,rfl⟩
 change Code.wp _ _ _ _ (put3 w3 w.heap.size (.slice (some ⟨gt,0,none⟩) K.tree.length ct) (.int .i64 K.m) (.int .i64 K.b))
 have hbt : But w.heap.size w3 w4 := by rw [hw4]; exact ((But.set _ _ _ _).trans (But.set _ _ _ _)).trans (But.set _ _ _ _)
 have HBT := Hd hbt
 have hX4 : w4.heap[w.heap.size]? = some (.cells #[.slice (some ⟨gt,0,none⟩) K.tree.length ct,.int .i64 K.m,.int .i64 K.b,.slice A.pa K.pipes.length A.pc,.slice A.oa K.opens.length A.oc,.string D0,.string D1] 29 (0,0)) := by rw [hw4]; exact Aa0 (Aa0 (Aa0 HX3.out 0 _) 1 _) 2 _
 have hY4 : w4.heap[w.heap.size + 1]? = some (.cells #[.slice none 0 0,.int .i64 0,.int .i64 0,.slice none 0 0,.slice none 0 0,.string ⟨#[]⟩,.string ⟨#[]⟩] 29 (0,0)) := (hbt.block _ (by omega)).trans HY3.out
 have hB4 : Below w.heap.size w w4 := But.below (HB2.out.trans (HB3.out.mono (by omega))) hbt (Nat.le_refl _)
 have hot4 : OwnT w4 w2.heap.size gt ct K.tree vs := HOT.out.mid fun k hk _ => hbt.block k (by omega)
 have hp4 : SlIn w4 A.pa K.pipes.length A.pc 4 (rowC pipF K.pipes) := HK0.out.pipes.below hB4
 have ho4 : SlIn w4 A.oa K.opens.length A.oc 5 (rowC opnF K.opens) := HK0.out.opens.below hB4
 have HX4 := Hd hX4
 have HY4 := Hd hY4
 have HB4 := Hd hB4
 have HOT4 := Hd hot4
 have HP4 := Hd hp4
 have HO4 := Hd ho4
 have hs4 : w2.heap.size ≤ w4.heap.size := by have := HB3.out.size; have := hbt.size; omega
 rw [← hw4]
 clear hw4 hbt hX4 hY4 hB4 hot4 hp4 ho4 q0 q1 q2 q3 q4 q5 q6 s0 s1 s2 ql HX3 HY3
 obtain ⟨q0,q1,q2,q3,q4,q5,q6⟩ := Aar HX4.out
 have s3 := bF HX4.out 3
 have ql := lt_of_block HX4.out
 go_wp2_with fail
 refine (Anv A.pa A.pc K.pipes (by omega) _ HP4.out).mono ?_
 rintro e w5 ⟨pa',pc',rfl,hr5,hb5⟩
 have HR5 := Hd hr5
 have HB5 := Hd hb5
 have hX5 := (hb5.block w.heap.size ql).trans HX4.out
 have HX5 := Hd hX5
 clear hr5 hb5 hX5 q0 q1 q2 q3 q4 q5 q6 s3 ql
 obtain ⟨q0,q1,q2,q3,q4,q5,q6⟩ := Aar HX5.out
 have s3 := bF HX5.out 3
 have ql := lt_of_block HX5.out
 go_upto_region 3 with fail
 obtain ⟨w6,hw6⟩ : ∃ z,z = w5.setCell ⟨w.heap.size,3,none⟩ (.slice pa' K.pipes.length pc') := ⟨_,rfl⟩
 have hbt6 : But w.heap.size w5 w6 := by rw [hw6]; exact But.set _ _ _ _
 have hX6 : w6.heap[w.heap.size]? = some (.cells #[.slice (some ⟨gt,0,none⟩) K.tree.length ct,.int .i64 K.m,.int .i64 K.b,.slice pa' K.pipes.length pc',.slice A.oa K.opens.length A.oc,.string D0,.string D1] 29 (0,0)) := by rw [hw6]; exact Aa0 HX5.out 3 _
 have HX6 := Hd hX6
 have HBT6 := Hd hbt6
 have hs6 : w4.heap.size ≤ w6.heap.size := by have := HB5.out.size; have := hbt6.size; omega
 have HB6 := Hd (show Below w.heap.size w w6 from But.below (HB4.out.trans (HB5.out.mono HB4.out.size)) hbt6 (Nat.le_refl _))
 have HO6 := Hd (show SlIn w6 A.oa K.opens.length A.oc 5 (rowC opnF K.opens) from HK0.out.opens.below HB6.out)
 rw [← hw6]
 clear hw6 hbt6 hX6 q0 q1 q2 q3 q4 q5 q6 s3 ql
 obtain ⟨q0,q1,q2,q3,q4,q5,q6⟩ := Aar HX6.out
 have s4 := bF HX6.out 4
 have ql := lt_of_block HX6.out
 go_wp2_with fail
 refine (Anf A.oa A.oc K.opens (by omega) _ HO6.out).mono ?_
 rintro e w7 ⟨oa',oc',rfl,hr7,hb7⟩
 have HR7 := Hd hr7
 have HB7 := Hd hb7
 have hX7 := (hb7.block w.heap.size ql).trans HX6.out
 have HX7 := Hd hX7
 clear hr7 hb7 hX7 q0 q1 q2 q3 q4 q5 q6 s4 ql
 obtain ⟨q0,q1,q2,q3,q4,q5,q6⟩ := Aar HX7.out
 have s4 := bF HX7.out 4
 have ql := lt_of_block HX7.out
 go_upto_region 4 with fail
 obtain ⟨w8,hw8⟩ : ∃ z,z = w7.setCell ⟨w.heap.size,4,none⟩ (.slice oa' K.opens.length oc') := ⟨_,rfl⟩
 have hbt8 : But w.heap.size w7 w8 := by rw [hw8]; exact But.set _ _ _ _
 have hX8 : w8.heap[w.heap.size]? = some (.cells #[.slice (some ⟨gt,0,none⟩) K.tree.length ct,.int .i64 K.m,.int .i64 K.b,.slice pa' K.pipes.length pc',.slice oa' K.opens.length oc',.string D0,.string D1] 29 (0,0)) := by rw [hw8]; exact Aa0 HX7.out 4 _
 have hY8 : w8.heap[w.heap.size + 1]? = some (.cells #[.slice none 0 0,.int .i64 0,.int .i64 0,.slice none 0 0,.slice none 0 0,.string ⟨#[]⟩,.string ⟨#[]⟩] 29 (0,0)) :=
  (hbt8.block _ (by omega)).trans ((HB7.out.block _ (by omega)).trans ((HBT6.out.block _ (by omega)).trans ((HB5.out.block _ (by omega)).trans HY4.out)))
 have HX8 := Hd hX8
 have HY8 := Hd hY8
 have HBT8 := Hd hbt8
 rw [← hw8]
 clear hw8 hbt8 hX8 hY8 q0 q1 q2 q3 q4 q5 q6 s4 ql
 obtain ⟨q0,q1,q2,q3,q4,q5,q6⟩ := Aar HX8.out
 have r0 := bC HY8.out 0
 have r1 := bC HY8.out 1
 have r2 := bC HY8.out 2
 have r3 := bC HY8.out 3
 have r4 := bC HY8.out 4
 have r5 := bC HY8.out 5
 have r6 := bC HY8.out 6
 have s0 := bF HY8.out 0
 have s1 := bF HY8.out 1
 have s2 := bF HY8.out 2
 have s3 := bF HY8.out 3
 have s4 := bF HY8.out 4
 have s5 := bF HY8.out 5
 have s6 := bF HY8.out 6
 have ql := lt_of_block HY8.out
 go_wp2_with fail
 change bodyPost _ _ _ _ _ (put7 w8 (w.heap.size + 1) (.slice (some ⟨gt,0,none⟩) K.tree.length ct) (.int .i64 K.m) (.int .i64 K.b) (.slice pa' K.pipes.length pc') (.slice oa' K.opens.length oc') (.string D0) (.string D1))
 obtain ⟨c0,c1,c2,c3,c4,c5,c6⟩ := Aar (Afh HY8.out (.slice (some ⟨gt,0,none⟩) K.tree.length ct) (.int .i64 K.m) (.int .i64 K.b) (.slice pa' K.pipes.length pc') (.slice oa' K.opens.length oc') (.string D0) (.string D1))
 -- what lies behind the tree is left by all of it
 have hup : ∀ k,w2.heap.size ≤ k → k < w4.heap.size → (put7 w8 (w.heap.size + 1) (.slice (some ⟨gt,0,none⟩) K.tree.length ct) (.int .i64 K.m) (.int .i64 K.b) (.slice pa' K.pipes.length pc') (.slice oa' K.opens.length oc') (.string D0) (.string D1)).heap[k]? = w4.heap[k]? := fun k h1 h2 => by
  rw [Ahn (show k ≠ w.heap.size + 1 by omega),HBT8.out.block k (by omega),HB7.out.block k (by omega),HBT6.out.block k (by omega),HB5.out.block k h2]
 have hrp : w6.ownsRow w4.heap.size 87 4 (.slice pa' K.pipes.length pc') K.pipes.length (rowC pipF K.pipes) := An1 HR5.out fun k hk => HBT6.out.block k (by omega)
 have hrp7 := Afw hrp HB7.out (Nat.le_refl _)
 have hoff8 : ∀ k,w4.heap.size ≤ k → (put7 w8 (w.heap.size + 1) (.slice (some ⟨gt,0,none⟩) K.tree.length ct) (.int .i64 K.m) (.int .i64 K.b) (.slice pa' K.pipes.length pc') (.slice oa' K.opens.length oc') (.string D0) (.string D1)).heap[k]? = w7.heap[k]? := fun k hk => by
  rw [Ahn (show k ≠ w.heap.size + 1 by omega),HBT8.out.block k (by omega)]
 refine bodyPost_ret (v := .agg #[.slice (some ⟨gt,0,none⟩) K.tree.length ct,.int .i64 K.m,.int .i64 K.b,.slice pa' K.pipes.length pc',.slice oa' K.opens.length oc',.string D0,.string D1]) (by simp [results,Tryz.results74,go_sem,c0,c1,c2,c3,c4,c5,c6]) rfl ⟨⟨some ⟨gt,0,none⟩,ct,pa',pc',oa',oc'⟩,rfl,⟨⟨Al1 (An1 hrp7 hoff8) (by omega),Al1 (An1 HR7.out fun k hk => hoff8 k (by omega)) (by omega),fun x y hx hy => ?_⟩,fun W' hw => ?_⟩,?_⟩
 ·obtain ⟨ga,rfl,-,h1⟩ := Abf hrp x hx
  obtain ⟨gb,rfl,h2,-⟩ := Abf HR7.out y hy
  show ga ≠ gb
  omega
 ·refine (HOT4.out.mid fun k h1 h2 => ?_).nodesIn
  refine (hw k ?_ ?_ ?_).trans (hup k h1 h2)
  ·have e1 : (put7 w8 (w.heap.size + 1) (.slice (some ⟨gt,0,none⟩) K.tree.length ct) (.int .i64 K.m) (.int .i64 K.b) (.slice pa' K.pipes.length pc') (.slice oa' K.opens.length oc') (.string D0) (.string D1)).heap.size = w8.heap.size := by simp [put7,World.setCell]
   have e2 := HBT8.out.size
   have e3 := HB7.out.size
   omega
  ·intro x hx
   obtain ⟨ga,rfl,h3,-⟩ := Abf hrp x hx
   show ga ≠ k
   omega
  ·intro x hx
   obtain ⟨gb,rfl,h3,-⟩ := Abf HR7.out x hx
   show gb ≠ k
   omega
 ·exact Aqz (But.below (HB6.out.trans (HB7.out.mono HB6.out.size)) HBT8.out (Nat.le_refl _)) (by omega) _ _ _ _ _ _ _
end Go.Proofs.YtkdfbliiblojoaaGreatDoor
