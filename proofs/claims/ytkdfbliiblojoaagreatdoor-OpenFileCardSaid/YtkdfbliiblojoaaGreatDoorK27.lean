import Derived.Test.YtkdfbliiblojoaaGreatDoorK26
import Derived.Test.YtkdfbliiblojoaaGreatDoorShelf
set_option linter.all false
set_option maxRecDepth 100000
set_option maxHeartbeats 64000000
namespace Go.Proofs.YtkdfbliiblojoaaGreatDoor
open Go Go.RowKit
theorem Apu (n s : List UInt8) (i : Int) (w : World) :
  Calls Tryz.prog 202 #[.agg #[.string ⟨n.toArray⟩,.int .i64 i],.string ⟨s.toArray⟩] w fun e w' => e = .returned (.int .i64 (Lib.compareBytes n s)) ∧ Below w.heap.size w w' := by
 have HB := Hd (Aab w (.cells #[.string ⟨n.toArray⟩,.int .i64 i] 139))
 go_enter Tryz.func202,Tryz.ntmps202
 go_wp2_with fail
 refine (Tryz.strings_Compare _ _ _).mono ?_
 rintro e w' ⟨rfl,rfl⟩
 go_wp2_with fail
 go_ret
 exact ⟨rfl,HB.out⟩
def BRel (M : List (List UInt8 × Int)) (s : List UInt8) (w : World) (iv jv : Value) (wr : World) : Prop :=
 ∃ i j : Nat,i ≤ j ∧ j ≤ M.length ∧ iv = .int .i64 i ∧ jv = .int .i64 j ∧ Hid (∀ k (hk : k < M.length),k < i → Op.bytesLess M[k].1 s = true) ∧ Hid (∀ k (hk : k < M.length),j ≤ k → Op.bytesLess M[k].1 s = false) ∧ Below w.heap.size w wr
def BAns (M : List (List UInt8 × Int)) (s : List UInt8) (e : Ending) : Prop :=
 ∃ (i : Nat) (v : Bool),e = .returned (.tuple #[.int .i64 i,.bool v]) ∧ i ≤ M.length ∧ (v = true ↔ ∃ h : i < M.length,M[i].1 = s) ∧ (∀ k (hk : k < M.length),k < i → Op.bytesLess M[k].1 s = true) ∧ (∀ k (hk : k < M.length),i ≤ k → Op.bytesLess M[k].1 s = false)
theorem Anp (M : List (List UInt8 × Int)) (hM : M.length ≤ 1024) (hR : Afy M) (s : List UInt8) (ka : Option Addr) (kcap : Nat) (w : World) (hK : Acc w (.slice ka M.length kcap) M) :
  Calls Tryz.prog 201 #[.slice ka M.length kcap,.string ⟨s.toArray⟩,.func (.func 202) #[] #[]] w fun e w' => BAns M s e ∧ Below w.heap.size w w' := by
 obtain ⟨ka',kcap',e1,hkc,hkm,hkk⟩ := hK
 simp only [Value.slice.injEq] at e1
 obtain ⟨rfl,-,rfl⟩ := e1
 unfold maxLen at hkm
 have HK := Hd hkk
 have HR := Hd hR
 clear hkk hR
 go_enter Tryz.func201,Tryz.ntmps201
 go_wp2_with fail
 go_loopw [9,10,11] (fun i j _ wr => BRel M s w i j wr) (fun i j _ _ => (intOf j).toNat - (intOf i).toNat)
 case atStart => exact ⟨0,M.length,by omega,by omega,rfl,rfl,fun _ _ h => absurd h (Nat.not_lt_zero _),fun k hk h => absurd hk (by omega),Below.refl _ _⟩
 case round =>
  obtain ⟨i,j,hij,hj,rfl,rfl,hlo,hhi,hbr⟩ := hrel
  have HBR := Hd hbr
  have hszr := hbr.size
  clear hbr
  by_cases hlt : i < j
  ·have hih : i ≤ (i + j) / 2 := by omega
   have hhj : (i + j) / 2 < j := by omega
   have hhM : (i + j) / 2 < M.length := by omega
   obtain ⟨c1,p1,rfl,z0,z1⟩ := HK.out ((i + j) / 2) hhM
   have y0 := Aaa HBR.out z0
   have y1 := Aaa HBR.out z1
   obtain ⟨nm,hnm⟩ : ∃ nm,nm = M[(i + j) / 2].1 := ⟨_,rfl⟩
   obtain ⟨ino,hino⟩ : ∃ ino,ino = M[(i + j) / 2].2 := ⟨_,rfl⟩
   rw [← hnm] at y0
   rw [← hino] at y1
   have HNM := Hd hnm
   have hc1 := Ave nm s
   clear z0 z1 hnm hino
   go_wp2_with fail
   refine (Apu nm s ino _).mono ?_
   rintro e w2 ⟨rfl,hb2⟩
   have HB2 := Hd (HBR.out.trans (hb2.mono hszr))
   clear hb2 y0 y1
   cases hls : Op.bytesLess nm s with
   | true =>
    have hneg := Aip.2 hls
    have hlo' := Hd (show ∀ k (hk : k < M.length),k < (i + j) / 2 + 1 → Op.bytesLess M[k].1 s = true from fun k hk hkh => by
     by_cases e : k = (i + j) / 2
     ·subst e
      rw [← HNM.out]
      exact hls
     ·refine Ac2 _ _ _ (HR.out.lt k ((i + j) / 2) hhM (by omega)) ?_
      rw [← HNM.out]
      exact hls)
    clear hls
    go_wp2_with fail
    go_roundw
    case rel => exact ⟨(i + j) / 2 + 1,j,by omega,hj,by go_num,rfl,hlo',hhi,HB2.out⟩
    case measure => simp [intOf] <;> omega
   | false =>
    have hneg : ¬ Lib.compareBytes nm s < 0 := fun h => by rw [Aip.1 h] at hls; cases hls
    have hneg' : 0 ≤ Lib.compareBytes nm s := by omega
    have hhi' := Hd (show ∀ k (hk : k < M.length),(i + j) / 2 ≤ k → Op.bytesLess M[k].1 s = false from fun k hk hkh => by
     cases hb : Op.bytesLess M[k].1 s with
     | false => rfl
     | true =>
      by_cases e : k = (i + j) / 2
      ·subst e
       rw [← HNM.out,hls] at hb
       cases hb
      ·have h1 := Ac2 _ _ _ (HR.out.lt ((i + j) / 2) k hk (by omega)) hb
       rw [← HNM.out,hls] at h1
       cases h1)
    clear hls hneg
    go_wp2_with fail
    go_roundw
    case rel => exact ⟨i,(i + j) / 2,hih,by omega,rfl,by go_num,hlo,hhi',HB2.out⟩
    case measure => simp [intOf] <;> omega
  ·obtain rfl : i = j := by omega
   have HFIN := Hd (show ∀ (e : Ending) (v : Bool),e = .returned (.tuple #[.int .i64 i,.bool v]) → (v = true ↔ ∃ h : i < M.length,M[i].1 = s) → BAns M s e from fun e v h1 h2 => ⟨i,v,h1,hj,h2,hlo.out,hhi.out⟩)
   by_cases hin : i < M.length
   ·obtain ⟨c1,p1,rfl,z0,z1⟩ := HK.out i hin
    have y0 := Aaa HBR.out z0
    have y1 := Aaa HBR.out z1
    obtain ⟨nm,hnm⟩ : ∃ nm,nm = M[i].1 := ⟨_,rfl⟩
    obtain ⟨ino,hino⟩ : ∃ ino,ino = M[i].2 := ⟨_,rfl⟩
    rw [← hnm] at y0
    rw [← hino] at y1
    have HNM := Hd hnm
    clear z0 z1 hnm hino hlt
    go_wp2_with fail
    refine (Apu nm s ino _).mono ?_
    rintro e w2 ⟨rfl,hb2⟩
    have HB2 := Hd (HBR.out.trans (hb2.mono hszr))
    clear hb2 y0 y1
    go_wp2_with fail
    go_ret2
    refine ⟨HFIN.out _ _ rfl ?_,HB2.out⟩
    rw [beq_iff_eq,Apc,HNM.out]
    exact ⟨fun h => ⟨hin,h⟩,fun ⟨_,h⟩ => h⟩
   ·have hin' : M.length ≤ i := by omega
    clear hlt
    go_wp2_with fail
    go_ret2
    exact ⟨HFIN.out _ _ rfl (by simp [hin]),HBR.out⟩
theorem Av0 (a : Option Addr) (cap : Nat) (m b d : Int) (nm : List UInt8) (L : List Ino) (hR : ∀ k (h : k < L.length),L[k].kids.length ≤ 1024 ∧ Afy L[k].kids) (w : World) (hN : Aah w a cap L) :
  Calls Tryz.prog 193 #[.agg #[.slice a L.length cap,.int .i64 m,.int .i64 b],.int .i64 d,.string ⟨nm.toArray⟩] w fun e w' => e = .returned (.int .i64 (kidL L d nm)) ∧ Below w.heap.size w w' := by
 have hb1 := Aab w (.cells #[.slice a L.length cap,.int .i64 m,.int .i64 b] 24)
 have hM := hN.below hb1
 have hcap := hN.1
 have hmax := hN.2.1
 unfold maxLen at hmax
 have HM := Hd hM
 have HB1 := Hd hb1
 have HR := Hd hR
 clear hM hN hb1 hR
 obtain ⟨F,hF⟩ : ∃ F,F = kidL L d nm := ⟨_,rfl⟩
 rw [← hF]
 have HF := Hd hF
 clear hF
 cases hd : dirB L d with
 | false =>
  have HD := Hd hd
  have hfin := Hd (show F = -1 by rw [HF.out]; unfold kidL; rw [hd]; rfl)
  clear hd
  go_enter Tryz.func193,Tryz.ntmps193
  go_wp2_with fail
  refine (Ah1 _ _ _ _ _ L _ HD.out _ HM.out).mono ?_
  rintro e w2 ⟨rfl,hb2⟩
  have HB2 := Hd (HB1.out.trans (hb2.mono (by simp)))
  clear hb2
  go_wp2_with fail
  go_ret
  exact ⟨by rw [hfin.out]; rfl,HB2.out⟩
 | true =>
  obtain ⟨n,rfl,hn⟩ := Aa7 (show Aa4 L d = true by unfold dirB at hd; rw [Bool.and_eq_true] at hd; exact hd.1)
  have HD := Hd hd
  obtain ⟨bb,o,rfl,hx⟩ := HM.out.2.2 n hn
  obtain ⟨kv,hk1,hks⟩ := hx.kids
  obtain ⟨M,hMe⟩ : ∃ M,M = L[n].kids := ⟨_,rfl⟩
  rw [← hMe] at hks
  obtain ⟨ka,kcap,rfl,hkc,hkm,hkk⟩ := hks
  obtain ⟨hM1,hM2⟩ : M.length ≤ 1024 ∧ Afy M := by rw [hMe]; exact HR.out n hn
  have HM2 := Hd hM2
  have hfin := Hd (show F = Afv M nm by rw [HF.out]; unfold kidL; rw [hd,Aad L n hn,hMe]; rfl)
  have hd0 : (0 : Int) ≤ (n : Int) := by omega
  have HK := Hd (show Acc _ (.slice ka M.length kcap) M from ⟨ka,kcap,rfl,hkc,hkm,hkk⟩)
  unfold maxLen at hkm
  clear hd hx hMe hkk hM2
  go_enter Tryz.func193,Tryz.ntmps193
  go_wp2_with fail
  refine (Ah1 _ _ _ _ _ L _ HD.out _ HM.out).mono ?_
  rintro e w2 ⟨rfl,hb2⟩
  obtain ⟨q0,q1,q2⟩ := box3 hb2
  have h3 := Aaa hb2 hk1
  have HB2 := Hd (HB1.out.trans (hb2.mono (by simp)))
  have HK2 := Hd (HK.out.below hb2)
  have hs2 := HB2.out.size
  clear hb2 hk1
  go_wp2_with fail
  refine (Anp M hM1 HM2.out nm ka kcap _ HK2.out).mono ?_
  rintro e w3 ⟨⟨i,v,rfl,hi,hv,hlo,hhi⟩,hb3⟩
  have HB3 := Hd (HB2.out.trans (hb3.mono hs2))
  have HA := Hd (Awb HM2.out nm i hlo hhi)
  have HV := Hd hv
  have HK3 := Hd (HK2.out.below hb3)
  clear hb3 hlo hhi hv h3 q0 q1 q2
  cases v with
  | false =>
   have HE := Hd (show F = -1 by
    rw [hfin.out]
    refine HA.out.2 (fun hi e => ?_)
    have h := HV.out.2 ⟨hi,e⟩
    cases h)
   go_wp2_with fail
   go_ret
   exact ⟨by rw [HE.out]; rfl,HB3.out⟩
  | true =>
   obtain ⟨hil,he⟩ := HV.out.1 (by simp)
   have HE := Hd (show F = M[i].2 by rw [hfin.out]; exact HA.out.1 hil he)
   obtain ⟨ka',kcap',e1,-,-,hkk⟩ := HK3.out
   simp only [Value.slice.injEq] at e1
   obtain ⟨rfl,-,rfl⟩ := e1
   obtain ⟨c1,p1,rfl,z0,z1⟩ := hkk i hil
   have hi0 : (0 : Int) ≤ (i : Int) := by omega
   have hil' : (i : Int) < (M.length : Int) := by omega
   clear he hkk z0
   go_wp2_with fail
   go_ret
   exact ⟨by rw [HE.out]; rfl,HB3.out⟩
theorem Ae9 (a : Option Addr) (cap : Nat) (m b d : Int) (nm : List UInt8) (L : List Ino) (hR : ∀ k (h : k < L.length),L[k].kids.length ≤ 1024 ∧ Afy L[k].kids) (z : Int) (hz : kidL L d nm = z) (w : World) (hN : Aah w a cap L) :
  Calls Tryz.prog 193 #[.agg #[.slice a L.length cap,.int .i64 m,.int .i64 b],.int .i64 d,.string ⟨nm.toArray⟩] w fun e w' => e = .returned (.int .i64 z) ∧ Below w.heap.size w w' := by
 subst hz
 exact Av0 a cap m b d nm L hR w hN
theorem Alu (N : List (List UInt8)) (hN : N.length ≤ 1048576) (v : Value) (w : World) (hV : View w v N) (R : Bool) (hR : (N.any fun x => decide (64 < x.length)) = R) :
  Calls Tryz.prog 171 #[v,.func (.func 173) #[] #[]] w fun e w' => e = .returned (.bool R) ∧ w' = w := by
 have HV := Hd hV
 have HR := Hd hR
 clear hV hR
 go_enter Tryz.func171,Tryz.ntmps171
 go_wp2_with fail
 refine (Any N hN v _ HV.out).mono ?_
 rintro e w' ⟨⟨z,rfl,hz⟩,rfl⟩
 rw [HR.out] at hz
 have HZ := Hd hz
 clear hz
 go_wp2_with fail
 go_ret
 refine ⟨?_,rfl⟩
 rw [← HZ.out]
 rfl
theorem Aoe (p : List UInt8) (hp : p.length ≤ 1073741824) (w : World) :
  Calls Tryz.prog 172 #[.string ⟨p.toArray⟩] w fun e w' => ∃ v,e = .returned v ∧ View w' v (Aan p) ∧ Below w.heap.size w w' :=
 (Aiz ⟨p.toArray⟩ (by rw [Acs]; exact hp) w).mono fun e w' ⟨v,h1,h2,h3⟩ => ⟨v,h1,h2.view,h3⟩
theorem An5 (a : Option Addr) (cap : Nat) (m b cwd : Int) (p : List UInt8) (hp : p.length ≤ 1073741824) (L : List Ino) (w : World) (hN : Aah w a cap L) :
  Calls Tryz.prog 151 #[.agg #[.slice a L.length cap,.int .i64 m,.int .i64 b],.int .i64 cwd,.string ⟨p.toArray⟩] w fun e w' => e = .returned (.int .i64 (badW L cwd p)) ∧ Below w.heap.size w w' := by
 have hb1 := Aab w (.cells #[.slice a L.length cap,.int .i64 m,.int .i64 b] 24)
 have HM := Hd (hN.below hb1)
 have HB1 := Hd hb1
 have hs := Acs p
 obtain ⟨R,hR⟩ : ∃ R,R = badW L cwd p := ⟨_,rfl⟩
 rw [← hR]
 have HR := Hd hR
 clear hN hb1 hR
 by_cases hp0 : p = []
 ·subst hp0
  have HW := Hd (show R = 2 by rw [HR.out]; unfold badW; rw [if_pos (Or.inl rfl)])
  go_enter Tryz.func151,Tryz.ntmps151
  go_wp2_with fail
  go_ret
  exact ⟨by rw [HW.out]; rfl,HB1.out⟩
 ·have hpb : (p == []) = false := by simpa using hp0
  obtain ⟨z,hz⟩ : ∃ z,Aet L cwd = z := ⟨_,rfl⟩
  have HZ := Hd hz
  have hzd := Ak3 (L := L) (k := cwd)
  rw [hz] at hzd
  cases hd : dirB L cwd with
  | false =>
   rw [hd] at hzd
   have HW := Hd (show R = 2 by rw [HR.out]; unfold badW; rw [if_pos (Or.inr hd)])
   clear hd hp0 hz
   simp only [Bool.not_false] at hzd
   go_enter Tryz.func151,Tryz.ntmps151
   go_wp2_with (first | (go_at_call 155; refine (Aaw _ _ _ _ _ L _ HZ.out _ HM.out).mono ?_; rintro e w2 ⟨rfl,hb2⟩) | fail)
   go_ret
   exact ⟨by rw [HW.out]; rfl,HB1.out.trans (hb2.mono (by simp))⟩
  | true =>
   rw [hd] at hzd
   have HW := Hd (show R = if Ahl p then 36 else 0 by rw [HR.out]; unfold badW; rw [if_neg (by simp [hp0,hd])])
   clear hd hp0 hz
   simp only [Bool.not_true] at hzd
   by_cases hl : 1024 < p.length
   ·have HW2 := Hd (show R = 36 by rw [HW.out]; unfold Ahl; rw [decide_eq_true hl]; rfl)
    go_enter Tryz.func151,Tryz.ntmps151
    go_wp2_with (first | (go_at_call 155; refine (Aaw _ _ _ _ _ L _ HZ.out _ HM.out).mono ?_; rintro e w2 ⟨rfl,hb2⟩) | fail)
    go_ret
    exact ⟨by rw [HW2.out]; rfl,HB1.out.trans (hb2.mono (by simp))⟩
   ·have hl1 : p.length ≤ 1024 := by omega
    have HCL := Hd (show (Aan p).length ≤ 1048576 by have := Aci p; omega)
    have hlf : decide (1024 < p.length) = false := decide_eq_false hl
    obtain ⟨lb,hlb⟩ : ∃ lb,((Aan p).any fun x => decide (64 < x.length)) = lb := ⟨_,rfl⟩
    have HLB := Hd hlb
    have HW2 := Hd (show R = if lb = true then 36 else 0 by rw [HW.out,Apn p hl1,hlb])
    clear hl hlb HW
    go_enter Tryz.func151,Tryz.ntmps151
    go_wp2_with fail
    refine (Aaw _ _ _ _ _ L _ HZ.out _ HM.out).mono ?_
    rintro e w2 ⟨rfl,hb2⟩
    have HB2 := Hd (HB1.out.trans (hb2.mono (by simp)))
    clear hb2
    go_wp2_with fail
    refine (Aoe p hp _).mono ?_
    rintro e w3 ⟨v3,rfl,hv3,hb3⟩
    have HV := Hd hv3
    have HB3 := Hd (HB2.out.trans (hb3.mono HB2.out.size))
    clear hv3 hb3
    go_wp2_with fail
    refine (Alu _ HCL.out _ _ HV.out lb HLB.out).mono ?_
    rintro e w' ⟨rfl,rfl⟩
    cases lb
    all_goals
     go_wp2_with fail
     go_ret
     exact ⟨by rw [HW2.out]; rfl,HB3.out⟩
end Go.Proofs.YtkdfbliiblojoaaGreatDoor
namespace Go.Proofs.YtkdfbliiblojoaaGreatDoor
open Go Go.RowKit Go.Shelf
attribute [local go_sem] Oper.semAt_some
def Ai9 (Bx : Nat) (v : Value) (W W' : World) : Prop := W'.heap[Bx]? = W.heap[Bx]? ∧ ∀ k,v.ownBlock = some k → W'.heap[k]? = W.heap[k]?
theorem Asl {Bx : Nat} {v : Value} {A B C : World} (h : Ai9 Bx v A B) (k : Ai9 Bx v B C) : Ai9 Bx v A C := ⟨k.1.trans h.1,fun i hi => (k.2 i hi).trans (h.2 i hi)⟩
theorem Asz {Bx : Nat} {v : Value} {w : World} (hb : Bx < w.heap.size) (hv : ∀ k,v.ownBlock = some k → k < w.heap.size) (W : World) (l : Nat) (o o' : Obj) (hl : w.heap.size ≤ l) (_ : W.heap[l]? = some o) (_ : o.isCells = false) (_ : o.isWalk = false) : Ai9 Bx v W (W.putObj l o') :=
 ⟨World.putObj_heap_other (by omega),fun k hk => World.putObj_heap_other (by have := hv k hk; omega)⟩
theorem Am8 (W : World) (m : Nat) : W.grownBy (W.drewN m) none := ⟨rfl,rfl,rfl,Nat.le_refl _,fun _ _ _ => rfl⟩
def Ajj (Bx : Nat) (v : Value) (B : Nat) (N : List (List UInt8)) (W : World) : Prop := W.cell? ⟨Bx,0,none⟩ = some v ∧ Held B W v N
theorem Ajj.kept {Bx B : Nat} {v : Value} {N : List (List UInt8)} {W W' : World} (h : Ajj Bx v B N W) (hk : Ai9 Bx v W W') : Ajj Bx v B N W' :=
 ⟨(World.cell?_of_block (w := W) (a := ⟨Bx,0,none⟩) hk.1).trans h.1,h.2.kept hk.2⟩
theorem Avr (F : Fence) (hF : Open F) (n : Nat) (hn : 1 ≤ n) (l Bx B : Nat) (v : Value) (N : List (List UInt8)) (hN : N.length ≤ 1048576) (J Jx : List (Nat × List UInt8) → World → Prop)
  (_hdr : ∀ pre W m,J pre W → J pre (W.drewN m))
  (hY : ∀ pre x W,J pre W → pre.length < N.length → YieldAt F (n - 1) Tryz.prog l #[.int .i64 (x.1 : Nat),.string ⟨x.2.toArray⟩] W fun e W' =>
   (e = .returned (.bool true) ∧ J (pre ++ [x]) W' ∧ Ai9 Bx v W W') ∨ (e = .returned (.bool false) ∧ Jx (pre ++ [x]) W'))
  (W : World) (hR : Ajj Bx v B N W) (h0 : J [] W) :
  CallsIn F n Tryz.prog 191 #[.func (.yield l) #[] #[],.pointer (some ⟨Bx,0,none⟩)] W fun e W' => (∃ u,e = .returned u) ∧
   ((∃ ys,ys.map Prod.snd = N.reverse ∧ J ys W') ∨ (∃ pre,True ∧ Jx pre W')) := by
 have hro : F.round = none := hF.ro
 obtain ⟨hc,hheld⟩ := hR
 obtain ⟨na,nc,rfl,hc1,hc2,-⟩ := hheld.view
 have HR := Hd (show Ajj Bx (.slice na N.length nc) B N W from ⟨hc,hheld⟩)
 unfold maxLen at hc2
 refine callsIn_of_wp Tryz.func191 rfl (hF.fn _) ?_ hro
 simp only [Tryz.ntmps191,List.size_toArray,List.length_cons,List.length_nil,Nat.reduceAdd,Nat.reduceSub,Array.replicate_succ,Array.replicate_zero,List.push_toArray,List.append_toArray,List.nil_append,List.cons_append]
 gi_wp2
 gi_loopw [3] (fun iv wr => ∃ (k : Nat) (D : List (Nat × List UInt8)),k ≤ N.length ∧ iv = .int .i64 ((k : Int) - 1) ∧ Hid (D.map Prod.snd = (N.drop k).reverse) ∧ D.length + k = N.length ∧ Hid (J D wr) ∧ Hid (Ajj Bx (.slice na N.length nc) B N wr)) (fun iv _ => (intOf iv + 1).toNat)
 case atStart => exact ⟨N.length,[],Nat.le_refl _,by go_num,by simp [Hid],by simp,h0,HR.out⟩
 case round =>
  obtain ⟨k,D,hk,rfl,hD,hDl,hJ,hrow⟩ := hrel
  have HROW := Hd hrow.out
  have hcr := hrow.out.1
  cases k with
  | zero =>
   have hfin := Hd (show D.map Prod.snd = N.reverse by have := hD.out; simpa using this)
   clear hcr
   gi_wp2
   go_end0
   exact ⟨⟨_,rfl⟩,.inl ⟨D,hfin.out,hJ.out⟩⟩
  | succ k =>
   obtain ⟨na',nc',e,-,-,hcell⟩ := HROW.out.2.view
   simp only [Value.slice.injEq] at e
   obtain ⟨rfl,-,rfl⟩ := e
   obtain ⟨nb,no,rfl,hx⟩ := hcell k (by omega)
   unfold strv at hx
   have hk0 : (0 : Int) ≤ (k : Int) := by omega
   have hk1 : (k : Int) < (N.length : Int) := by omega
   have hnum : ((k + 1 : Nat) : Int) - 1 = (k : Int) := by omega
   rw [hnum]
   have HY := Hd (hY D (k,N[k]) wr hJ.out (by omega))
   have hdrop := Hd (show (D ++ [(k,N[k])]).map Prod.snd = (N.drop k).reverse by
    rw [List.map_append,hD.out,List.drop_eq_getElem_cons (show k < N.length by omega),List.reverse_cons]
    rfl)
   clear hcell hnum hY hD
   obtain ⟨fn,tmps,assign,body,hy,hR⟩ := HY.out
   have hy' : (Instr.yield l #[.int .i64 (k : Int),.string ⟨N[k].toArray⟩]).run Tryz.prog wr = .ok (.round l fn tmps assign body) wr := hy
   clear hy
   gi_wp2
   refine hR.mono ?_
   rintro e W3 (⟨rfl,hJ3,hk3⟩ | ⟨rfl,hJx3⟩)
   ·have hrow3 := HROW.out.kept hk3
    have hc3 := hrow3.1
    have HR3 := Hd hrow3
    have HJ3 := Hd hJ3
    clear hrow3 hk3 hJ3 hcr hx
    gi_wp2
    go_roundw
    case rel => exact ⟨k,D ++ [(k,N[k])],by omega,by go_num,hdrop,by simp only [List.length_append,List.length_cons,List.length_nil]; omega,HJ3,HR3⟩
    case measure => simp [intOf] <;> omega
   ·have HJX := Hd hJx3
    clear hJx3 hcr hx
    gi_wp2
    refine bodyPost_ret (results_none rfl _ _ _) rfl ?_
    exact ⟨⟨_,rfl⟩,.inr ⟨_,trivial,HJX.out⟩⟩
theorem As4 (F : Fence) (hF : Open F) (n : Nat) (a : Option Addr) (len cap : Nat) (w : World) :
  CallsIn F n Tryz.prog 176 #[.slice a len cap] w fun e w' => e = .returned (.func (.func 191) #[] #[.pointer (some ⟨w.heap.size,0,none⟩)]) ∧ w' = w.alloc (.cells #[.slice a len cap] 61) := by
 have hro : F.round = none := hF.ro
 refine callsIn_of_wp Tryz.func176 rfl (hF.fn _) ?_ hro
 simp only [Tryz.ntmps176,List.size_toArray,List.length_cons,List.length_nil,Nat.reduceAdd,Nat.reduceSub,Array.replicate_succ,Array.replicate_zero,List.push_toArray,List.append_toArray,List.nil_append,List.cons_append]
 gi_wp2
 go_ret
 exact ⟨rfl,rfl⟩
theorem Ani {Bx B : Nat} {v : Value} {N : List (List UInt8)} {w W : World} (hb : Bx < w.heap.size) (hv : ∀ k,v.ownBlock = some k → k < w.heap.size) (hW : Below w.heap.size w W) (h : Ajj Bx v B N w) : Ajj Bx v B N W :=
 h.kept ⟨hW.block _ hb,fun k hk => hW.block _ (hv k hk)⟩
theorem Ajx (F : Fence) (hF : Open F) (n : Nat) (hn : 1 ≤ n) (Bx B : Nat) (v : Value) (N : List (List UInt8)) (hN : N.length ≤ 1048576) (w : World) (hb : Bx < w.heap.size) (hv : ∀ k,v.ownBlock = some k → k < w.heap.size) (hR : Ajj Bx v B N w) :
  SeqStopsK F n Tryz.prog 191 #[.pointer (some ⟨Bx,0,none⟩)] (fun x : Nat × List UInt8 => #[Value.int .i64 (x.1 : Nat),Value.string ⟨x.2.toArray⟩]) (Ai9 Bx v) (fun ys => ys.map Prod.snd = N.reverse) (fun _ => True) N.length w := fun l J Jx W hW hJ _ hY h0 =>
 Avr F hF n hn l Bx B v N hN J Jx (fun pre W m h => hJ pre W _ none h (Am8 W m) (fun _ e => by cases e)) hY W (Ani hb hv hW hR) h0
end Go.Proofs.YtkdfbliiblojoaaGreatDoor
namespace Go.Proofs.YtkdfbliiblojoaaGreatDoor
open Go Go.RowKit
theorem Aa6 {n₀ g : Nat} {T : Value × Value × Value} {W : World} {p : Int} {st : List (List UInt8)} {links : Int} (h : Abr n₀ g T W p st links) :
  W.cell? ⟨g,0,none⟩ = some T.1 ∧ W.cell? ⟨g,1,none⟩ = some T.2.1 ∧ W.cell? ⟨g,2,none⟩ = some T.2.2 ∧ W.cell? ⟨g,3,none⟩ = some (.int .i64 p) ∧ (∃ v,W.cell? ⟨g,4,none⟩ = some v ∧ Held n₀ W v st) ∧ W.cell? ⟨g,5,none⟩ = some (.int .i64 links) := by
 obtain ⟨_,v,h1,h2⟩ := h
 exact ⟨Aal h1 rfl,Aal h1 rfl,Aal h1 rfl,Aal h1 rfl,⟨v,Aal h1 rfl,h2⟩,Aal h1 rfl⟩
theorem Abi {n₀ g : Nat} {T : Value × Value × Value} {W : World} {p : Int} {st : List (List UInt8)} {links : Int} (h : Abr n₀ g T W p st links) (i : Nat) : W.frozen? ⟨g,i,none⟩ = false := by
 obtain ⟨_,v,h1,-⟩ := h
 simp only [World.frozen?,h1]
 simp
theorem Ar8 (n₀ g : Nat) (a : Option Addr) (cap : Nat) (m b p links : Int) (st : List (List UInt8)) (x : List UInt8) (L : List Ino) (hF : FitP L m b) (w : World) (hN : Aah w a cap L) (hW : Abr n₀ g (.slice a L.length cap,.int .i64 m,.int .i64 b) w p st links) :
  Calls Tryz.prog 178 #[.pointer (some ⟨g,0,none⟩),.string ⟨x.toArray⟩] w fun e w' => e = .returned (.tuple #[.int .i64 (Ack L p x).1,.int .i64 (Ack L p x).2]) ∧ Below w.heap.size w w' := by
 obtain ⟨c0,c1,c2,c3,-,-⟩ := Aa6 hW
 have hg := hW.lt
 have HN := Hd hN
 have HF := Hd hF
 have HI := Hd hF.ins
 have hcap := hN.1
 have hmax := hN.2.1
 unfold maxLen at hmax
 obtain ⟨F,hFe⟩ : ∃ F,F = Ack L p x := ⟨_,rfl⟩
 rw [← hFe]
 have HFE := Hd hFe
 obtain ⟨z,hz⟩ : ∃ z,Aet L p = z := ⟨_,rfl⟩
 have HZ := Hd hz
 have hzd := Ak3 (L := L) (k := p)
 rw [hz] at hzd
 have H1 := Hd (Aa2 (wb := w) (fun W hW => Aaw a cap m b p L z HZ.out W (HN.out.below hW)))
 have f0 := Aai c0
 have f1 := Aai c1
 have f2 := Aai c2
 have f3 := Aai c3
 try simp only at f0 f1 f2
 clear hN hF hFe hz hW
 cases hd : dirB L p with
 | false =>
  rw [hd] at hzd
  have HV := Hd (show F = (0,20) by rw [HFE.out]; unfold Ack; rw [hd,if_pos rfl])
  simp only [Bool.not_false] at hzd
  clear hd
  go_enter Tryz.func178,Tryz.ntmps178
  go_wp2_with fail
  refine Aag (by kernel_rfl) (by kernel_rfl) ?_
  repeat (first | go_big_quiet_skip | (go_big_quiet_want; go_big_quiet_op; (first | go_big_quiet_on | (refine ⟨_,H1.out,?_⟩; go_big_quiet_on))))
  refine wpQuiet_nil ?_
  intro w8 hw8
  have HB8 := Hd (show Below w.heap.size w w8 from by obtain ⟨x,rfl⟩ := hw8; exact x.below)
  clear hw8 f0 f1 f2 f3 H1
  go_wp2_with fail
  go_ret2
  exact ⟨by rw [HV.out]; rfl,HB8.out⟩
 | true =>
  rw [hd] at hzd
  simp only [Bool.not_true] at hzd
  obtain ⟨n,rfl,hn⟩ := Ae7 hd
  have HD := Hd hd
  obtain ⟨my,hmy⟩ : ∃ my,mayL L (n : Int) 1 = my := ⟨_,rfl⟩
  have HMY := Hd hmy
  clear hd hmy
  go_enter Tryz.func178,Tryz.ntmps178
  go_wp2_with fail
  refine Aag (by kernel_rfl) (by kernel_rfl) ?_
  repeat (first | go_big_quiet_skip | (go_big_quiet_want; go_big_quiet_op; (first | go_big_quiet_on | (refine ⟨_,H1.out,?_⟩; go_big_quiet_on))))
  refine wpQuiet_nil ?_
  intro w1 hw1
  have HB1 := Hd (show Below w.heap.size w w1 from by obtain ⟨x,rfl⟩ := hw1; exact x.below)
  clear hw1 f0 f1 f2 f3 H1
  have d0 := Aaa HB1.out c0
  have d1 := Aaa HB1.out c1
  have d2 := Aaa HB1.out c2
  have d3 := Aaa HB1.out c3
  try simp only at d0 d1 d2
  have H2 := Hd (Aa2 (wb := w1) (fun W hW => Adz a cap m b (n : Int) 1 L HI.out my HMY.out W (HN.out.below (HB1.out.trans (hW.mono HB1.out.size)))))
  have f0 := Aai d0
  have f1 := Aai d1
  have f2 := Aai d2
  have f3 := Aai d3
  clear d0 d1 d2 d3
  go_wp2_with fail
  refine Aag (by kernel_rfl) (by kernel_rfl) ?_
  repeat (first | go_big_quiet_skip | (go_big_quiet_want; go_big_quiet_op; (first | go_big_quiet_on | (refine ⟨_,H2.out,?_⟩; go_big_quiet_on))))
  refine wpQuiet_nil ?_
  intro w2 hw2
  have hb12 : Below w1.heap.size w1 w2 := by obtain ⟨x,rfl⟩ := hw2; exact x.below
  have HB2 := Hd (HB1.out.trans (hb12.mono HB1.out.size))
  have HN2 := Hd (HN.out.below HB2.out)
  clear hw2 f0 f1 f2 f3 H2 hb12
  have d0 := Aaa HB2.out c0
  have d1 := Aaa HB2.out c1
  have d2 := Aaa HB2.out c2
  have d3 := Aaa HB2.out c3
  try simp only at d0 d1 d2
  clear c0 c1 c2 c3
  cases my with
  | false =>
   have HV := Hd (show F = (0,13) by rw [HFE.out]; unfold Ack; rw [HD.out,HMY.out,if_neg (by simp),if_pos rfl])
   go_wp2_with fail
   go_ret2
   exact ⟨by rw [HV.out]; rfl,HB2.out⟩
  | true =>
   have HV := Hd (show F = if x = [46] then ((n : Int),0) else if x = [46,46] then ((Aaf L (n : Int)).up,0) else if kidL L (n : Int) x < 0 then (0,2) else (kidL L (n : Int) x,0) by rw [HFE.out]; unfold Ack; rw [HD.out,HMY.out,if_neg (by simp),if_neg (by simp)])
   have hlive : ∀ k,Adc L k = true → ∃ ku,Aet L k = ku ∧ (ku == 0) = false := fun k hk => ⟨_,rfl,by have h := Aji (L := L) (k := k); rw [hk] at h; exact h⟩
   have HLV := Hd hlive
   clear hlive
   cases hx1 : (x == [46]) with
   | true =>
    have HW := Hd (show F = ((n : Int),0) by rw [HV.out,if_pos (by simpa using hx1)])
    obtain ⟨ku,hku,hku0⟩ := HLV.out (n : Int) (Ady HD.out)
    have HKU := Hd hku
    clear hku
    go_wp2_with fail
    refine (Aaw a cap m b (n : Int) L ku HKU.out _ HN2.out).mono ?_
    rintro e w9 ⟨rfl,hb9⟩
    have HB9 := Hd (HB2.out.trans (hb9.mono HB2.out.size))
    clear hb9
    go_wp2_with fail
    go_ret2
    exact ⟨by rw [HW.out]; rfl,HB9.out⟩
   | false =>
    have hne1 : ¬ x = [46] := by simpa using hx1
    cases hx2 : (x == [46,46]) with
    | true =>
     have HW := Hd (show F = (L[n].up,0) by rw [HV.out,if_neg hne1,if_pos (by simpa using hx2),Aad L n hn])
     have hud := Ax3 HF.out HD.out
     rw [Aad L n hn] at hud
     obtain ⟨ku,hku,hku0⟩ := HLV.out L[n].up (Ady hud)
     have HKU := Hd hku
     obtain ⟨bb,o,rfl,hxx⟩ := HN2.out.2.2 n hn
     have f0 := Aai d0
     have f1 := Aai d1
     have f2 := Aai d2
     have f3 := Aai d3
     have f5 := Aai hxx.up
     have hd0 : (0 : Int) ≤ (n : Int) := by omega
     have hd1 : (n : Int) < (L.length : Int) := by omega
     clear hku hud hne1 hxx
     go_wp2_with fail
     refine Aag (by kernel_rfl) (by kernel_rfl) ?_
     repeat (first | go_big_quiet_skip | (go_big_quiet_want; go_big_quiet_op; go_big_quiet_on))
     refine wpQuiet_nil ?_
     intro w3 hw3
     have hb3 : Below w2.heap.size w2 w3 := by obtain ⟨x,rfl⟩ := hw3; exact x.below
     have e0 := Aaa hb3 d0
     have e1 := Aaa hb3 d1
     have e2 := Aaa hb3 d2
     have HB3 := Hd (HB2.out.trans (hb3.mono HB2.out.size))
     have HN3 := Hd (HN2.out.below hb3)
     clear hw3 hb3 f0 f1 f2 f3 f5 d0 d1 d2 d3
     go_wp2_with fail
     refine (Aaw _ cap m b L[n].up L ku HKU.out _ HN3.out).mono ?_
     rintro e w9 ⟨rfl,hb9⟩
     have HB9 := Hd (HB3.out.trans (hb9.mono HB3.out.size))
     clear hb9
     go_wp2_with fail
     go_ret2
     exact ⟨by rw [HW.out]; rfl,HB9.out⟩
    | false =>
     have hne2 : ¬ x = [46,46] := by simpa using hx2
     obtain ⟨kz,hkz⟩ : ∃ kz,kidL L (n : Int) x = kz := ⟨_,rfl⟩
     have HKZ := Hd hkz
     have HW := Hd (show F = if kz < 0 then (0,2) else (kz,0) by rw [HV.out,if_neg hne1,if_neg hne2,hkz])
     have hdec : (kz < 0 ∧ Aet L kz = 0) ∨ (0 ≤ kz ∧ ∃ ku,Aet L kz = ku ∧ (ku == 0) = false) := by
      by_cases h : kz < 0
      ·refine Or.inl ⟨h,?_⟩
       unfold Aet Aa4
       rw [decide_eq_false (by omega)]
       rfl
      ·refine Or.inr ⟨by omega,HLV.out _ ?_⟩
       rw [← hkz]
       exact Apk HF.out (by omega)
     have H3 := Hd (Aa2 (wb := w2) (fun W hW => Ae9 a cap m b (n : Int) x L (Adk HI.out) kz HKZ.out W (HN2.out.below hW)))
     have f0 := Aai d0
     have f1 := Aai d1
     have f2 := Aai d2
     have f3 := Aai d3
     clear hkz hne1 hne2
     go_wp2_with fail
     refine Aag (by kernel_rfl) (by kernel_rfl) ?_
     repeat (first | go_big_quiet_skip | (go_big_quiet_want; go_big_quiet_op; (first | go_big_quiet_on | (refine ⟨_,H3.out,?_⟩; go_big_quiet_on))))
     refine wpQuiet_nil ?_
     intro w3 hw3
     have hb3 : Below w2.heap.size w2 w3 := by obtain ⟨x,rfl⟩ := hw3; exact x.below
     have e0 := Aaa hb3 d0
     have e1 := Aaa hb3 d1
     have e2 := Aaa hb3 d2
     have HB3 := Hd (HB2.out.trans (hb3.mono HB2.out.size))
     have HN3 := Hd (HN2.out.below hb3)
     clear hw3 hb3 f0 f1 f2 f3 d0 d1 d2 d3 H3
     rcases hdec with ⟨hk0,hku⟩ | ⟨hk0,ku,hku,hku0⟩
     ·have HKU := Hd hku
      have HW2 := Hd (show F = (0,2) by rw [HW.out,if_pos hk0])
      clear hku
      go_wp2_with fail
      refine (Aaw _ cap m b kz L 0 HKU.out _ HN3.out).mono ?_
      rintro e w9 ⟨rfl,hb9⟩
      have HB9 := Hd (HB3.out.trans (hb9.mono HB3.out.size))
      clear hb9
      go_wp2_with fail
      go_ret2
      exact ⟨by rw [HW2.out]; rfl,HB9.out⟩
     ·have HKU := Hd hku
      have HW2 := Hd (show F = (kz,0) by rw [HW.out,if_neg (by omega)])
      clear hku
      go_wp2_with fail
      refine (Aaw _ cap m b kz L ku HKU.out _ HN3.out).mono ?_
      rintro e w9 ⟨rfl,hb9⟩
      have HB9 := Hd (HB3.out.trans (hb9.mono HB3.out.size))
      clear hb9
      go_wp2_with fail
      go_ret2
      exact ⟨by rw [HW2.out]; rfl,HB9.out⟩
end Go.Proofs.YtkdfbliiblojoaaGreatDoor
