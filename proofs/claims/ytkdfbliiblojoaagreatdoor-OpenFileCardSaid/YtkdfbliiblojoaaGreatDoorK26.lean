import Derived.Test.YtkdfbliiblojoaaGreatDoorK25
import Derived.OrdersIn
import Derived.Orders
import Derived.Deep.Quiet
import Derived.OrdersHeld
import Derived.Scope
import Derived.WalkMore
set_option linter.all false
set_option maxRecDepth 100000
set_option maxHeartbeats 64000000
namespace Go.Proofs.YtkdfbliiblojoaaGreatDoor
open Go Go.RowKit
def Agi : Value → Nat
 | .slice _ n _ => n
 | _ => 0
def WRel (L : List Ino) (last : Bool) (R : Int × Int) (w1 : World) (pv nv lv : Value) (wr : World) : Prop :=
 ∃ (n k : Nat) (N : List (List UInt8)) (p : Int),k + n = 8 ∧ pv = .int .i64 p ∧ lv = .int .i64 k ∧ N.length ≤ 5000 + k * 2000 ∧ Hid (View wr nv N) ∧ Hid (R = wayW L last n N p) ∧ Below w1.heap.size w1 wr
theorem Amo {wr : World} {nv : Value} {x : List UInt8} {r : List (List UInt8)} (h : View wr nv (x :: r)) : ∃ b o cap,nv = .slice (some ⟨b,o,none⟩) (r.length + 1) cap ∧ r.length + 1 ≤ cap ∧ cap ≤ maxLen ∧ wr.cell? ⟨b,o,none⟩ = some (.string ⟨x.toArray⟩) := by
 obtain ⟨a,cap,rfl,h1,h2,h3⟩ := h
 obtain ⟨b,o,e,hc⟩ := h3 0 (by simp)
 subst e
 exact ⟨b,o,cap,rfl,h1,h2,hc⟩
theorem Awz (a : Option Addr) (cap : Nat) (m b p0 : Int) (last : Bool) (N0 : List (List UInt8)) (hN0 : N0.length ≤ 5000) (v0 : Value) (L : List Ino) (hF : FitP L m b) (w : World) (hN : Aah w a cap L) (hV : View w v0 N0) :
  Calls Tryz.prog 77 #[.agg #[.slice a L.length cap,.int .i64 m,.int .i64 b],.int .i64 p0,v0,.bool last] w fun e w' => e = .returned (.tuple #[.int .i64 (wayW L last 8 N0 p0).1,.int .i64 (wayW L last 8 N0 p0).2]) ∧ Below w.heap.size w w' := by
 obtain ⟨w1,hw1⟩ : ∃ w1,w1 = w.alloc (.cells #[.slice a L.length cap,.int .i64 m,.int .i64 b] 24) := ⟨_,rfl⟩
 have hb1 := Aab w (.cells #[.slice a L.length cap,.int .i64 m,.int .i64 b] 24)
 have hM := hN.below hb1
 have hVM := hV.below hb1
 have hsz : w1.heap.size = w.heap.size + 1 := by rw [hw1]; simp
 have hbox : ∀ W',Below w1.heap.size w1 W' → W'.cell? ⟨w.heap.size,0,none⟩ = some (.slice a L.length cap) ∧ W'.cell? ⟨w.heap.size,1,none⟩ = some (.int .i64 m) ∧ W'.cell? ⟨w.heap.size,2,none⟩ = some (.int .i64 b) := fun W' h => box3 (by rw [← hw1]; exact h)
 rw [← hw1] at hM hb1 hVM
 have HM := Hd hM
 have HB := Hd hb1
 have HX := Hd hbox
 have HEND := Hd (show ∀ W',Below w1.heap.size w1 W' → Below w.heap.size w W' from fun W' h => HB.out.trans (h.mono (by rw [hsz]; omega)))
 have hcap := hN.1
 have hmax := hN.2.1
 unfold maxLen at hmax
 have HF := Hd hF
 have HVM := Hd hVM
 have hgw : w.heap.size < w1.heap.size := by omega
 obtain ⟨R,hR⟩ : ∃ R,R = wayW L last 8 N0 p0 := ⟨_,rfl⟩
 rw [← hR]
 have HR := Hd hR
 clear hM hN hV hVM hb1 hbox hsz hF hR
 go_enter Tryz.func77,Tryz.ntmps77
 go_wp2_with fail
 rw [← hw1]
 clear hw1
 go_loopw [1,2,10,11,12,13,14] (fun pv nv lv _ _ _ _ wr => WRel L last R w1 pv nv lv wr) (fun _ nv lv _ _ _ _ _ => (8 - (intOf lv).toNat) * 30000 + Agi nv)
 case atStart => exact ⟨8,0,N0,p0,rfl,rfl,rfl,by omega,HVM,HR,Below.refl _ _⟩
 case round =>
  obtain ⟨n,k,N,p,hkn,rfl,rfl,hNl,hview,hgoal,hbr⟩ := hrel
  have HVW := Hd hview.out
  have HG := Hd hgoal.out
  have HBR := Hd hbr
  have hszr := hbr.size
  obtain ⟨q0,q1,q2⟩ := HX.out _ hbr
  clear hview hgoal hbr
  cases N with
  | nil =>
   obtain ⟨na,ncap,rfl,-,-,-⟩ := HVW.out
   have HW := Hd (show R = (p,0) by rw [HG.out,Apw])
   clear q0 q1 q2
   go_wp2_with fail
   go_ret2
   exact ⟨by rw [HW.out]; rfl,HEND.out _ HBR.out⟩
  | cons x r =>
   obtain ⟨nb,no,ncap,rfl,hc1,hc2,hx0⟩ := Amo HVW.out
   unfold maxLen at hc2
   simp only [List.length_cons] at hNl
   obtain ⟨z,hz⟩ : ∃ z,z = (Ack L p x).1 := ⟨_,rfl⟩
   obtain ⟨er,her⟩ : ∃ er,er = (Ack L p x).2 := ⟨_,rfl⟩
   have HST := Hd (show Ack L p x = (z,er) by rw [hz,her])
   have H1 := Hd (Aa2 (wb := wr) (fun W hW => by
    have h := Ata a cap m b p x L HF.out.ins W (HM.out.below (HBR.out.trans (hW.mono hszr)))
    rw [HST.out] at h
    exact h))
   have f0 := Aai q0
   have f1 := Aai q1
   have f2 := Aai q2
   have f3 := Aai hx0
   have hi1 : (1 : Int) ≤ ((r.length : Int) + 1) := by omega
   have hi2 : ((r.length : Int) + 1) ≤ (ncap : Int) := by omega
   have hi3 : (0 : Int) < ((r.length : Int) + 1) := by omega
   have hpos : (0 : Int) < ((r.length + 1 : Nat) : Int) := by omega
   clear hz her q0 q1 q2 hx0
   go_wp2_with fail
   refine Aag (by kernel_rfl) (by kernel_rfl) ?_
   repeat (first | go_big_quiet_skip | (go_big_quiet_want; go_big_quiet_op; (first | go_big_quiet_on | (refine ⟨_,H1.out,?_⟩; go_big_quiet_on))))
   refine wpQuiet_nil ?_
   intro w8 hw8
   have hbg : Below wr.heap.size wr w8 := by obtain ⟨x,rfl⟩ := hw8; exact x.below
   have HB8 := Hd (HBR.out.trans (hbg.mono hszr))
   have HV8 := Hd (HVW.out.below hbg)
   obtain ⟨q0,q1,q2⟩ := HX.out _ HB8.out
   have hs8 := HB8.out.size
   clear hw8 hbg f0 f1 f2 f3 H1
   cases he : (er != 0) with
   | true =>
    have HW := Hd (show R = (0,er) by rw [HG.out,Aos _ _ _ _ _ _ (by rw [HST.out]; simpa using he),HST.out])
    go_wp2_with fail
    go_ret2
    exact ⟨by rw [HW.out]; rfl,HEND.out _ HB8.out⟩
   | false =>
    have he0 : er = 0 := by simpa using he
    subst he0
    have hlive := Anq HF.out (show (Ack L p x).2 = 0 by rw [HST.out])
    rw [HST.out] at hlive
    obtain ⟨u,hu,hul⟩ := Aa7 (Adv hlive)
    have hzu : z = (u : Int) := hu
    subst hzu
    obtain ⟨bb,o,rfl,hx⟩ := (HM.out.below HB8.out).2.2 u hul
    have x0 := hx.kind
    have x3 := hx.data
    have hd0 : (0 : Int) ≤ (u : Int) := by omega
    have hd1 : (u : Int) < (L.length : Int) := by omega
    obtain ⟨ta,hta⟩ : ∃ ta,(if ncap = 1 then (some ⟨nb,no,none⟩ : Option Addr) else some ⟨nb,no + 1,none⟩) = ta := ⟨_,rfl⟩
    have htl := HV8.out.tail
    rw [hta] at htl
    have HTL := Hd htl
    have HND := Hd (Aad L u hul)
    clear hx hlive hu he htl
    cases hk3 : (L[u].kind != 3) with
    | true =>
     have HGO := Hd (show R = wayW L last n r (u : Int) by rw [HG.out,Ako _ _ _ _ _ _ _ HST.out (Or.inl (by rw [HND.out]; simpa using hk3))])
     clear x3
     go_wp2_with fail
     go_roundw
     case rel => exact ⟨n,k,r,(u : Int),hkn,rfl,rfl,by omega,HTL,HGO,HB8.out⟩
     case measure => simp [intOf,Agi] <;> omega
    | false =>
     have hk3' : L[u].kind = 3 := by simpa using hk3
     by_cases hlast : r = [] ∧ last = false
     ·obtain ⟨rfl,rfl⟩ := hlast
      have HGO := Hd (show R = wayW L false n [] (u : Int) by rw [HG.out,Ako _ _ _ _ _ _ _ HST.out (Or.inr ⟨rfl,rfl⟩)])
      clear x3
      go_wp2_with fail
      go_roundw
      case rel => exact ⟨n,k,[],(u : Int),hkn,rfl,rfl,by simp,HTL,HGO,HB8.out⟩
      case measure => simp [intOf,Agi] <;> omega
     ·have HNL := Hd (show ¬ ((Aaf L (u : Int)).kind ≠ 3 ∨ (r = [] ∧ last = false)) from fun h => by
       rcases h with h | h
       ·exact h (by rw [HND.out]; exact hk3')
       ·exact hlast h)
      obtain ⟨hd1024,-⟩ := Als HF.out.ins (Aef L u hul) (by rw [HND.out]; exact hk3')
      rw [HND.out] at hd1024
      obtain ⟨d,hde⟩ : ∃ d,d = L[u].data := ⟨_,rfl⟩
      rw [← hde] at x3 hd1024
      have HDE := Hd (show (Aaf L (u : Int)).data = d by rw [HND.out,hde])
      have HTLV := Hd HTL.out
      cases n with
      | zero =>
       obtain rfl : k = 8 := by omega
       have HW := Hd (show R = (0,40) by rw [HG.out,Amp _ _ _ _ _ _ HST.out HNL.out])
       clear hde x3
       by_cases hr0 : r = []
       ·subst hr0
        obtain rfl : last = true := by
         cases last with
         | true => rfl
         | false => exact absurd ⟨rfl,rfl⟩ hlast
        go_wp2_with fail
        go_ret2
        exact ⟨by rw [HW.out]; rfl,HEND.out _ HB8.out⟩
       ·have hrl : ((r.length : Int) == 0) = false := by
         rw [beq_eq_false_iff_ne]
         exact fun e => hr0 (List.length_eq_zero_iff.1 (by omega))
        clear hr0
        go_wp2_with fail
        go_ret2
        exact ⟨by rw [HW.out]; rfl,HEND.out _ HB8.out⟩
      | succ n =>
       have hk8 : (k : Int) < 8 := by omega
       have HP := Hd (show (Aan d).length ≤ 1025 by have := Aci d; omega)
       have HGO := Hd (show R = wayW L last n (Aan d ++ r) (if Ac3 d then 0 else p) by rw [HG.out,Amx _ _ _ _ _ _ _ HST.out HNL.out,HDE.out])
       have hwh := Ake ⟨d.toArray⟩
       have e1 : (⟨d.toArray⟩ : ByteArray).data.toList = d := rfl
       rw [e1] at hwh
       have HWH := Hd hwh
       have hpa := Ahr ⟨d.toArray⟩ (by show d.toArray.size ≤ _; simp; omega)
       rw [e1] at hpa
       have HPA := Hd hpa
       have HRL := Hd (show r.length ≤ 5000 + k * 2000 by omega)
       clear hde hwh hpa e1 HTL
       have hcase : (((r.length : Int) == 0) = true ∧ last = true) ∨ ((r.length : Int) == 0) = false := by
        by_cases hr0 : r = []
        ·subst hr0
         cases last with
         | true => exact Or.inl ⟨by simp,rfl⟩
         | false => exact absurd ⟨rfl,rfl⟩ hlast
        ·refine Or.inr ?_
         rw [beq_eq_false_iff_ne]
         exact fun e => hr0 (List.length_eq_zero_iff.1 (by omega))
       clear hlast
       rcases hcase with ⟨hrl,rfl⟩ | hrl
       all_goals
        cases hw : Ac3 d
        all_goals
         have HW := Hd hw
         rw [hw] at HWH HGO
         clear hw
         go_wp2_with (first | (go_at_call 119; refine (HWH.out _).mono ?_; rintro e w' ⟨rfl,rfl⟩) | (go_at_call 79; refine (HPA.out _).mono ?_; rintro e w9 ⟨v9,rfl,hT9,hb9⟩; have HV9 := Hd hT9.view; have HB9 := Hd (HB8.out.trans (hb9.mono hs8)); have HTL9 := Hd (HTLV.out.below hb9); have HP2 := Hd HP.out; clear hT9 hb9 HPA) | (at_builtin; refine Ai3 (B := w9.heap.size) (L := []) (Or.inl ⟨rfl,rfl⟩) HV9.out (by have := HP2.out; simp only [List.length_nil]; omega) (Nat.le_refl _) rfl _ _ rfl rfl rfl ?_; intro v10 w10 hH10 hg10; rw [List.nil_append] at hH10; have hB10 : Below w9.heap.size w9 w10 := (Below.refl _ _).grown hg10 (Nat.le_refl _) (fun k hk => by cases hk); have HTL10 := Hd (HTL9.out.below hB10); have HH10 := Hd hH10; have hs10 := hB10.size; have HB10 := Hd hB10; clear hH10 hg10 hB10 HP2) | (at_builtin; refine Ai3 HH10.out HTL10.out (by have := HP.out; have := HRL.out; omega) hs10 rfl _ _ rfl rfl rfl ?_; intro v11 w11 hH11 hg11; have HB11 := Hd (HB9.out.trans ((HB10.out.trans ((Below.refl _ _).grown hg11 hs10 (fun k hk => (HH10.out.own hk).1))).mono HB9.out.size)); (obtain ⟨N2,hN2⟩ : ∃ N2,N2 = Aan d ++ r := ⟨_,rfl⟩); rw [← hN2] at hH11; have HN2 := Hd hN2; have HV11 := Hd hH11.view; (obtain ⟨na,nc,hv11⟩ : ∃ na nc,v11 = .slice na N2.length nc := (by obtain ⟨na,nc,e,-⟩ := HV11.out; exact ⟨na,nc,e⟩)); clear hH11 hg11 hN2; subst hv11) | fail)
         go_roundw
         case rel => exact ⟨n,k + 1,N2,_,by omega,rfl,by go_num,by have := HP.out; have := HRL.out; rw [HN2.out,List.length_append]; omega,HV11,by rw [HN2.out]; exact HGO,HB11.out⟩
         case measure =>
          have := HP.out
          have := HRL.out
          have h2 : N2.length = (Aan d).length + r.length := by rw [HN2.out,List.length_append]
          simp only [intOf,Agi]
          omega
end Go.Proofs.YtkdfbliiblojoaaGreatDoor
namespace Go.Proofs.YtkdfbliiblojoaaGreatDoor
open Go Go.RowKit Go.Shelf
attribute [local go_sem] Oper.semAt_some
theorem Akn {w : World} {b b' : Nat} {e : TypeId} {z n : Nat} {v : Value} {xs : List Value} (h : w.ownsRow b e z v n xs) (hb : b' ≤ b) : w.ownsRow b' e z v n xs := by
 obtain ⟨h1,h2 | ⟨g,cap,cur,hv,hg,r⟩⟩ := h
 ·exact ⟨h1,Or.inl h2⟩
 ·exact ⟨h1,Or.inr ⟨g,cap,cur,hv,by omega,r⟩⟩
theorem Avu (l : List UInt8) : (Aan l).length ≤ l.length + 1 := by
 have h : ∀ (l cur : List UInt8),(Abz cur l).length ≤ l.length + 1 := by
  intro l
  induction l with
  | nil => intro cur; unfold Abz; split <;> simp
  | cons c r ih =>
   intro cur
   unfold Abz
   split
   ·split
    ·have := ih []; simp; omega
    ·have := ih []; simp only [List.length_cons]; omega
   ·have := ih (cur ++ [c]); simp only [List.length_cons]; omega
 exact h l []
theorem Avp (F : Fence) (hF : Open F) (n : Nat) (hn : 3 ≤ n) (s : ByteArray) (hs : s.size ≤ 1073741824) (w : World) :
  CallsIn F n Tryz.prog 172 #[.string s] w fun e W' => ∃ v,e = .returned v ∧ Agr w.heap.size W' v (Aan s.data.toList) ∧ Below w.heap.size w W' := by
 have hro : F.round = none := hF.ro
 have h23 : F.fn 189 := hF.fn _
 have h1 : 1 ≤ n := by omega
 have hpl := Avu s.data.toList
 rw [Aas] at hpl
 obtain ⟨i0,hi,hz0,hz1,hz2⟩ := info_parts Azl
 refine callsIn_of_wp_marks Tryz.func172 rfl (hF.fn _) ?_ hro
 simp only [Tryz.ntmps172,List.size_toArray,List.length_cons,List.length_nil,Nat.reduceAdd,Nat.reduceSub,Array.replicate_succ,Array.replicate_zero,List.push_toArray,List.append_toArray,List.nil_append,List.cons_append]
 gi_wp2_with (gi_at_call 189; refine (Av2 F hF (n - 1) _ _).mono ?_; rintro e w' ⟨rfl,rfl⟩)
 have bO := Boxed.new w 61 (.slice none 0 0)
 have bN := Boxed.new (w.alloc (.cells #[.slice none 0 0] 61)) 9 (.string s)
 rw [World.size_alloc] at bN
 have hB0 : Below w.heap.size w ((w.alloc (.cells #[.slice none 0 0] 61)).alloc (.cells #[.string s] 9)) := ((Below.refl _ w).alloc (Nat.le_refl _) _).alloc (by simp) _
 refine wpIn_rangeFunc_ownG hro h1 (gf := 199) (lb := #[.pointer (some ⟨w.heap.size + 1,0,none⟩)]) rfl (hF.fn _) (enters_of Tryz.func199 (by kernel_rfl) rfl)
  (An4 F hF (n - 1) (by omega) (w.heap.size + 1) s hs _ (by simp) bN.cell) Ayg (Ayn (by simp)) (Below.refl _ _) (fun _ => rfl)
  (fun pre W => (∃ v,Boxed W w.heap.size 61 v ∧ W.ownsRow (w.heap.size + 2) 9 1 v pre.length (pre.map strv) ∧ True) ∧ Boxed W (w.heap.size + 1) 9 (.string s) ∧ Below w.heap.size w W)
  (fun _ _ _ => False)
  (OwnFrom.and (Own.from (holdsRow_own (w.heap.size + 2) w.heap.size 61 9 1 (fun pre : List (List UInt8) => pre.length) (fun pre => pre.map strv) (fun _ _ => True)) _) (OwnFrom.and (Own.from (boxed_own _ _ _) _) (ownFrom_below (Nat.le_refl _) (by simp; omega))))
  (fun _ _ _ _ _ hs _ _ => hs)
  ⟨⟨_,bO.alloc _,World.ownsRow_nil _ _ _ _,trivial⟩,bN,hB0⟩
  (fun x => { tmps := #[.string s,undef,.slice none 0 0,.pointer (some ⟨w.heap.size,0,none⟩),.string ⟨x.toArray⟩,.string s,.func (.func 199) #[] #[.pointer (some ⟨w.heap.size + 1,0,none⟩)],.string ⟨x.toArray⟩,undef,undef,undef,undef,undef],defers := [] }) ?assign ?body ?done ?stop
 case assign =>
  intro l x W K hK
  gi_wp2
  exact hK
 case body =>
  rintro l pre x W ⟨⟨v,hv,hrow,-⟩,hp,hB⟩ hlt
  have hc := hv.cell
  have hpz := hp.lt
  have hne : ∀ k,v.ownBlock = some k → k ≠ w.heap.size + 1 := fun k e => by have := (hrow.lt k e).1; omega
  gi_wp2_with (gi_at_builtin; refine wpListIn_append_own _ rfl _ _ 61 rfl (w.heap.size + 2) 9 i0 (.string ByteArray.empty) 1 16 Tryz.underlying61 hi hz0 hz1 hz2 rfl (by decide) _ _ _ rfl (hrow.alloc _) ⟨W.heap.size,0,none⟩ 1 1 [.string ⟨x.toArray⟩] rfl rfl (cell_one_new _ _ _) (fun x hx => by simp at hx; subst hx; rfl) (by unfold maxLen; omega) (by omega) (by simp; omega) ?_; intro v' w1 hown' hgrow _; obtain ⟨g',cap',rfl⟩ := ownsRow_succ hown'; obtain ⟨hv1,hv2,hr2,hk2,hb2⟩ := hv.appended (by decide) (Akn hrow (Nat.le_add_right _ 2)) hB.size (Nat.le_refl _) (Akn hown' (Nat.le_add_right _ 2)) hgrow; have hc1 := hv1.cell; have hf1 := hv1.frozen)
  have hp1 := (hp.alloc (.cells #[.string ⟨x.toArray⟩] 9)).kept hgrow (fun e => hne _ e.symm rfl)
  refine ⟨hk2.from _,?_,⟨_,hv2,?_,trivial⟩,hp1.other (by omega) _,hB.trans hb2⟩
  ·exact ((hp1.other (B' := w.heap.size) (by omega) _).trans hp.symm)
  ·simpa [strv] using hown'.kept (grownBy_setCell' _ w.heap.size _) (.inr (hv1.not_row (by decide) hown').symm)
 case done =>
  rintro D ys W hD rfl ⟨⟨v,hv,hrow,-⟩,-,hB⟩ hK
  have hc := hv.cell
  gi_wp2
  refine ⟨by simp,.inl ⟨_,_,rfl,run_takeDeferred hK,?_⟩⟩
  exact ⟨_,results_tmp rfl _ _ _,v,rfl,ownsRow_putObj (Akn hrow (Nat.le_add_right _ 2)) _ hK rfl,hB.trans (belowK_b (w := w) (Nat.le_refl _) W D _ _ (by simp at hD; omega) hK rfl rfl)⟩
 case stop =>
  rintro D c pre W _ _ h _
  exact h.elim
theorem Aiz (s : ByteArray) (hs : s.size ≤ 1073741824) (w : World) :
  Calls Tryz.prog 172 #[.string s] w fun e W' => ∃ v,e = .returned v ∧ Agr w.heap.size W' v (Aan s.data.toList) ∧ Below w.heap.size w W' :=
 callsIn_wide.1 (Avp Fence.wide Agx 3 (Nat.le_refl _) s hs w)
end Go.Proofs.YtkdfbliiblojoaaGreatDoor
namespace Go.Proofs.YtkdfbliiblojoaaGreatDoor
open Go Go.RowKit
theorem Apn (p : List UInt8) (h : p.length ≤ 1024) : Ahl p = (Aan p).any fun x => decide (64 < x.length) := by
 unfold Ahl
 rw [decide_eq_false (by omega),Bool.false_or]
theorem Aw1 (a : Option Addr) (cap : Nat) (m b cwd : Int) (p : List UInt8) (hp : p.length ≤ 1073741824) (L : List Ino) (w : World) (hN : Aah w a cap L) :
  Calls Tryz.prog 76 #[.agg #[.slice a L.length cap,.int .i64 m,.int .i64 b],.int .i64 cwd,.string ⟨p.toArray⟩] w fun e w' => e = .returned (.int .i64 (badW L cwd p)) ∧ Below w.heap.size w w' := by
 have hb1 := Aab w (.cells #[.slice a L.length cap,.int .i64 m,.int .i64 b] 24)
 have HM := Hd (hN.below hb1)
 have HB1 := Hd hb1
 have hs := Acs p
 obtain ⟨R,hR⟩ : ∃ R,R = badW L cwd p := ⟨_,rfl⟩
 rw [← hR]
 have HR := Hd hR
 clear hN hb1 hR
 by_cases hp0 : p = []
 ·subst hp0
  have HW := Hd (show R = 2 by rw [HR.out]; unfold badW; rw [if_pos (Or.inl rfl)])
  go_enter Tryz.func76,Tryz.ntmps76
  go_wp2_with fail
  go_ret
  exact ⟨by rw [HW.out]; rfl,HB1.out⟩
 ·have hpb : (p == []) = false := by simpa using hp0
  cases hd : dirB L cwd with
  | false =>
   have HD := Hd hd
   have HW := Hd (show R = 2 by rw [HR.out]; unfold badW; rw [if_pos (Or.inr hd)])
   clear hd hp0
   go_enter Tryz.func76,Tryz.ntmps76
   go_wp2_with (first | (go_at_call 80; refine (Acp _ _ _ _ _ L _ HD.out _ HM.out).mono ?_; rintro e w2 ⟨rfl,hb2⟩) | fail)
   go_ret
   exact ⟨by rw [HW.out]; rfl,HB1.out.trans (hb2.mono (by simp))⟩
  | true =>
   have HD := Hd hd
   have HW := Hd (show R = if Ahl p then 36 else 0 by rw [HR.out]; unfold badW; rw [if_neg (by simp [hp0,hd])])
   clear hd hp0
   by_cases hl : 1024 < p.length
   ·have HW2 := Hd (show R = 36 by rw [HW.out]; unfold Ahl; rw [decide_eq_true hl]; rfl)
    go_enter Tryz.func76,Tryz.ntmps76
    go_wp2_with (first | (go_at_call 80; refine (Acp _ _ _ _ _ L _ HD.out _ HM.out).mono ?_; rintro e w2 ⟨rfl,hb2⟩) | fail)
    go_ret
    exact ⟨by rw [HW2.out]; rfl,HB1.out.trans (hb2.mono (by simp))⟩
   ·have HW2 := Hd (show R = if (Aan p).any fun x => decide (64 < x.length) then 36 else 0 by rw [HW.out,Apn p (by omega)])
    have hpa := Ahr ⟨p.toArray⟩ (by rw [hs]; exact hp)
    have e1 : (⟨p.toArray⟩ : ByteArray).data.toList = p := rfl
    rw [e1] at hpa
    have HPA := Hd hpa
    have HCL := Hd (Aci p)
    obtain ⟨N,hNe⟩ : ∃ N,N = Aan p := ⟨_,rfl⟩
    rw [← hNe] at HPA HW2 HCL
    have hl1 : p.length ≤ 1024 := by omega
    clear hpa e1 hNe hl HW
    go_enter Tryz.func76,Tryz.ntmps76
    go_wp2_with fail
    refine (Acp _ _ _ _ _ L _ HD.out _ HM.out).mono ?_
    rintro e w2 ⟨rfl,hb2⟩
    have HB2 := Hd (HB1.out.trans (hb2.mono (by simp)))
    have hs2 := HB2.out.size
    clear hb2
    go_wp2_with fail
    refine (HPA.out _).mono ?_
    rintro e w3 ⟨v3,rfl,hT3,hb3⟩
    obtain ⟨na,ncap,rfl,hc1,hc2,hcell⟩ := hT3.view
    have HC := Hd hcell
    have HB3 := Hd (HB2.out.trans (hb3.mono hs2))
    have hN1 : N.length ≤ 1025 := by have := HCL.out; omega
    unfold maxLen at hc2
    clear hT3 hb3 hcell HPA
    go_wp2_with fail
    go_loop [8] (fun iv => ∃ k : Nat,k ≤ N.length ∧ iv = .int .i64 k ∧ Hid (∀ j (hj : j < N.length),j < k → N[j].length ≤ 64)) (fun iv => N.length - (intOf iv).toNat)
    case atStart => exact ⟨0,by omega,rfl,fun _ _ h => absurd h (Nat.not_lt_zero _)⟩
    case round =>
     obtain ⟨k,hk,rfl,hok⟩ := hrel
     by_cases hlt : k < N.length
     ·obtain ⟨nb,no,rfl,hx⟩ := HC.out k hlt
      unfold strv at hx
      have hsx := Acs N[k]
      have hk0 : (0 : Int) ≤ (k : Int) := by omega
      by_cases h64 : 64 < N[k].length
      ·have HW3 := Hd (show R = 36 by
        rw [HW2.out,if_pos]
        rw [List.any_eq_true]
        exact ⟨N[k],List.getElem_mem _,decide_eq_true h64⟩)
       go_wp2_with fail
       go_ret
       exact ⟨by rw [HW3.out]; rfl,HB3.out⟩
      ·have HOK := Hd (show ∀ j (hj : j < N.length),j < k + 1 → N[j].length ≤ 64 from fun j hj hjk => by
        by_cases e : j = k
        ·subst e; omega
        ·exact hok.out j hj (by omega))
       go_wp2_with fail
       go_round
       case rel => exact ⟨k + 1,by omega,by go_num,HOK⟩
       case measure => simp [intOf] <;> omega
     ·have HW3 := Hd (show R = 0 by
       rw [HW2.out,if_neg]
       rw [List.any_eq_true]
       rintro ⟨x,hx,h⟩
       obtain ⟨j,hj,rfl⟩ := List.getElem_of_mem hx
       have h1 := hok.out j hj (by omega)
       have h2 := of_decide_eq_true h
       omega)
      go_wp2_with fail
      go_ret
      exact ⟨by rw [HW3.out]; rfl,HB3.out⟩
theorem Ah1 (a : Option Addr) (cap : Nat) (m b k : Int) (L : List Ino) (v : Bool) (hv : dirB L k = v) (w : World) (hN : Aah w a cap L) :
  Calls Tryz.prog 137 #[.agg #[.slice a L.length cap,.int .i64 m,.int .i64 b],.int .i64 k] w fun e w' => e = .returned (.bool v) ∧ Below w.heap.size w w' := by
 have hb1 := Aab w (.cells #[.slice a L.length cap,.int .i64 m,.int .i64 b] 24)
 have hM := hN.below hb1
 have HM := Hd hM
 have hcap := hN.1
 have hmax := hN.2.1
 unfold maxLen at hmax
 clear hM hN
 by_cases h0 : 0 ≤ k
 ·by_cases h1 : k < L.length
  ·obtain ⟨n,rfl⟩ : ∃ n : Nat,k = (n : Int) := ⟨k.toNat,by omega⟩
   have hn : n < L.length := by omega
   have hd : dirB L (n : Int) = (L[n].kind == 2) := by unfold dirB; rw [Aef L n hn,Aad L n hn]; rfl
   rw [hd] at hv
   subst hv
   obtain ⟨bb,o,rfl,hx⟩ := HM.out.2.2 n hn
   have x0 := hx.kind
   clear hx hd
   go_enter Tryz.func137,Tryz.ntmps137
   go_wp2_with fail
   all_goals
    go_ret
    exact ⟨rfl,hb1⟩
  ·have hd : dirB L k = false := by unfold dirB Aa4; rw [decide_eq_false h1,Bool.and_false,Bool.false_and]
   rw [hd] at hv
   subst hv
   clear hd
   go_enter Tryz.func137,Tryz.ntmps137
   go_wp2_with fail
   all_goals
    go_ret
    exact ⟨rfl,hb1⟩
 ·have hd : dirB L k = false := by unfold dirB Aa4; rw [decide_eq_false h0,Bool.false_and,Bool.false_and]
  rw [hd] at hv
  subst hv
  clear hd
  go_enter Tryz.func137,Tryz.ntmps137
  go_wp2_with fail
  all_goals
   go_ret
   exact ⟨rfl,hb1⟩
theorem Aaw (a : Option Addr) (cap : Nat) (m b k : Int) (L : List Ino) (v : Int) (hv : Aet L k = v) (w : World) (hN : Aah w a cap L) :
  Calls Tryz.prog 155 #[.agg #[.slice a L.length cap,.int .i64 m,.int .i64 b],.int .i64 k] w fun e w' => e = .returned (.int .i64 v) ∧ Below w.heap.size w w' := by
 subst hv
 have hb1 := Aab w (.cells #[.slice a L.length cap,.int .i64 m,.int .i64 b] 24)
 have HB1 := Hd hb1
 have hcap := hN.1
 have hmax := hN.2.1
 unfold maxLen at hmax
 cases ht : Aa4 L k with
 | true =>
  obtain ⟨n,rfl,hn⟩ := Aa7 ht
  obtain ⟨bb,o,rfl,hx⟩ := (hN.below hb1).2.2 n hn
  have h1 := hx.kind
  have hd0 : (0 : Int) ≤ (n : Int) := by omega
  have hd1 : (n : Int) < (L.length : Int) := by omega
  have HV := Hd (show Aet L (n : Int) = L[n].kind by unfold Aet; rw [ht,if_pos rfl,Aad L n hn])
  clear hN hb1 ht hx
  go_enter Tryz.func155,Tryz.ntmps155
  go_wp2_with fail
  go_ret
  exact ⟨by rw [HV.out]; rfl,HB1.out⟩
 | false =>
  have HV := Hd (show Aet L k = 0 by unfold Aet; rw [ht]; rfl)
  rcases Ami ht with h | h
  ·clear hN hb1 ht
   go_enter Tryz.func155,Tryz.ntmps155
   go_wp2_with fail
   go_ret
   exact ⟨by rw [HV.out]; rfl,HB1.out⟩
  ·have h0 : (0 : Int) ≤ k := by omega
   clear hN hb1 ht
   go_enter Tryz.func155,Tryz.ntmps155
   go_wp2_with fail
   go_ret
   exact ⟨by rw [HV.out]; rfl,HB1.out⟩
theorem Ak3 {L : List Ino} {k : Int} : (Aet L k != 2) = !dirB L k := by
 unfold Aet dirB
 cases Aa4 L k with
 | false => rfl
 | true => rw [if_pos rfl,Bool.true_and]; rfl
theorem Aji {L : List Ino} {k : Int} : (Aet L k == 0) = !Adc L k := by
 unfold Aet Adc
 cases Aa4 L k with
 | false => rfl
 | true => rw [if_pos rfl,Bool.true_and]; simp [bne]
theorem Awe : ∀ q : Nat,q < 8 → ∀ x : Nat,x < 8 → (bits BinOp.and IntKind.i64 (q : Int) (x : Int) == (x : Int)) = Aqg (q : Int) (x : Int) := by decide +kernel
theorem Ayq (q x : Int) (h1 : 0 ≤ q) (h2 : q ≤ 7) (h3 : 0 ≤ x) (h4 : x ≤ 7) : (bits BinOp.and IntKind.i64 q x == x) = Aqg q x := by
 obtain ⟨n,rfl⟩ : ∃ n : Nat,q = (n : Int) := ⟨q.toNat,by omega⟩
 obtain ⟨k,rfl⟩ : ∃ k : Nat,x = (k : Int) := ⟨x.toNat,by omega⟩
 exact Awe n (by omega) k (by omega)
theorem Adz (a : Option Addr) (cap : Nat) (m b k what : Int) (L : List Ino) (hI : Aea L) (v : Bool) (hv : mayL L k what = v) (w : World) (hN : Aah w a cap L) :
  Calls Tryz.prog 159 #[.agg #[.slice a L.length cap,.int .i64 m,.int .i64 b],.int .i64 k,.int .i64 what] w fun e w' => e = .returned (.bool v) ∧ Below w.heap.size w w' := by
 subst hv
 have hb1 := Aab w (.cells #[.slice a L.length cap,.int .i64 m,.int .i64 b] 24)
 have HB1 := Hd hb1
 have hcap := hN.1
 have hmax := hN.2.1
 unfold maxLen at hmax
 have HM := Hd (hN.below hb1)
 by_cases hw : 0 ≤ what ∧ what ≤ 7
 ·obtain ⟨hw1,hw2⟩ := hw
  cases hl : Adc L k with
  | false =>
   obtain ⟨z,hz⟩ : ∃ z,Aet L k = z := ⟨_,rfl⟩
   have hz0 : z = 0 := by have h := Aji (L := L) (k := k); rw [hl,hz] at h; simpa using h
   subst hz0
   have HZ := Hd hz
   have HV := Hd (show mayL L k what = false by unfold mayL; rw [hl]; simp)
   clear hN hb1 hl hz
   go_enter Tryz.func159,Tryz.ntmps159
   go_wp2_with (first | (go_at_call 155; refine (Aaw _ _ _ _ _ L _ HZ.out _ HM.out).mono ?_; rintro e w2 ⟨rfl,hb2⟩) | fail)
   go_ret
   exact ⟨by rw [HV.out]; rfl,HB1.out.trans (hb2.mono (by simp))⟩
  | true =>
   obtain ⟨n,rfl,hn⟩ := Aa7 (Adv hl)
   obtain ⟨z,hz⟩ : ∃ z,Aet L (n : Int) = z := ⟨_,rfl⟩
   have hz0 : (z == 0) = false := by have h := Aji (L := L) (k := (n : Int)); rw [hl,hz] at h; simpa using h
   have HZ := Hd hz
   obtain ⟨bb,o,rfl,hx⟩ := HM.out.2.2 n hn
   have h1 := hx.mode
   have hd0 : (0 : Int) ≤ (n : Int) := by omega
   have hd1 : (n : Int) < (L.length : Int) := by omega
   have HV := Hd (show mayL L (n : Int) what = Aqg L[n].mode what by unfold mayL; rw [hl,Aad L n hn,decide_eq_true hw1,decide_eq_true hw2]; rfl)
   have hmr := Ajy hI (Aef L n hn)
   rw [Aad L n hn] at hmr
   obtain ⟨q,hq⟩ : ∃ q,q = L[n].mode := ⟨_,rfl⟩
   rw [← hq] at h1 HV hmr
   obtain ⟨hq1,hq2⟩ := hmr
   rw [HV.out]
   clear hN hb1 hl hx hq hI hz
   go_enter Tryz.func159,Tryz.ntmps159
   go_wp2_with (first | (go_at_call 155; refine (Aaw _ _ _ _ _ L _ HZ.out _ HM.out).mono ?_; rintro e w2 ⟨rfl,hb2⟩; obtain ⟨q0,q1,q2⟩ := box3 hb2; have h2 := Aaa hb2 h1) | fail)
   go_ret
   refine ⟨?_,HB1.out.trans (hb2.mono (by simp))⟩
   show Ending.returned (Value.bool _) = Ending.returned (Value.bool _)
   congr 2
   exact Ayq q what hq1 hq2 hw1 hw2
 ·have HV := Hd (show mayL L k what = false by
   unfold mayL
   by_cases h1 : 0 ≤ what
   ·rw [decide_eq_false (show ¬ what ≤ 7 from fun h2 => hw ⟨h1,h2⟩)]
    simp
   ·rw [decide_eq_false h1]
    rfl)
  by_cases h1 : what < 0
  ·clear hN hb1 hw
   go_enter Tryz.func159,Tryz.ntmps159
   go_wp2_with fail
   go_ret
   exact ⟨by rw [HV.out]; rfl,HB1.out⟩
  ·have h2 : 7 < what := by omega
   clear hN hb1 hw
   go_enter Tryz.func159,Tryz.ntmps159
   go_wp2_with fail
   go_ret
   exact ⟨by rw [HV.out]; rfl,HB1.out⟩
theorem Ao2 (x : List UInt8) (w : World) : Calls Tryz.prog 173 #[.string ⟨x.toArray⟩] w fun e w' => e = .returned (.bool (decide (64 < x.length))) ∧ w' = w := by
 have hs := Acs x
 by_cases h : 64 < x.length
 all_goals
  have hh : decide (64 < x.length) = _ := (by first | exact decide_eq_true h | exact decide_eq_false h)
  have HH := Hd hh
  clear hh
  go_enter Tryz.func173,Tryz.ntmps173
  go_wp2_with fail
  go_ret
  refine ⟨?_,rfl⟩
  rw [HH.out]
  show Ending.returned (Value.bool _) = Ending.returned (Value.bool _)
  congr 2
  simp
  omega
theorem Any (N : List (List UInt8)) (hN : N.length ≤ 1048576) (v : Value) (w : World) (hV : View w v N) :
  Calls Tryz.prog 188 #[v,.func (.func 173) #[] #[]] w fun e w' => (∃ z : Int,e = .returned (.int .i64 z) ∧ decide (0 ≤ z) = N.any fun x => decide (64 < x.length)) ∧ w' = w := by
 obtain ⟨na,nc,rfl,hc1,hc2,hcell⟩ := hV
 unfold maxLen at hc2
 have HC := Hd hcell
 obtain ⟨R,hR⟩ : ∃ R,R = N.any fun x => decide (64 < x.length) := ⟨_,rfl⟩
 have HR := Hd hR
 rw [← hR]
 clear hcell hR
 go_enter Tryz.func188,Tryz.ntmps188
 go_wp2_with fail
 go_loop [5,8] (fun _ iv => ∃ k : Nat,k ≤ N.length ∧ iv = .int .i64 k ∧ Hid (∀ j (hj : j < N.length),j < k → N[j].length ≤ 64)) (fun _ iv => N.length - (intOf iv).toNat)
 case atStart => exact ⟨0,by omega,rfl,fun _ _ h => absurd h (Nat.not_lt_zero _)⟩
 case round =>
  obtain ⟨k,hk,rfl,hok⟩ := hrel
  by_cases hlt : k < N.length
  ·obtain ⟨nb,no,rfl,hx⟩ := HC.out k hlt
   unfold strv at hx
   have hk0 : (0 : Int) ≤ (k : Int) := by omega
   by_cases h64 : 64 < N[k].length
   ·have HL := Hd (Ao2 N[k])
    have HW3 := Hd (show R = true by
     rw [HR.out,List.any_eq_true]
     exact ⟨N[k],List.getElem_mem _,decide_eq_true h64⟩)
    have HD := Hd (decide_eq_true h64)
    go_wp2_with (first | (go_at_call 173; refine (HL.out _).mono ?_; rintro e w' ⟨rfl,rfl⟩; rw [HD.out]) | fail)
    go_ret
    exact ⟨⟨(k : Int),rfl,by rw [HW3.out]; exact decide_eq_true hk0⟩,rfl⟩
   ·have HOK := Hd (show ∀ j (hj : j < N.length),j < k + 1 → N[j].length ≤ 64 from fun j hj hjk => by
     by_cases e : j = k
     ·subst e; omega
     ·exact hok.out j hj (by omega))
    have HL := Hd (Ao2 N[k])
    have HD := Hd (decide_eq_false h64)
    go_wp2_with (first | (go_at_call 173; refine (HL.out _).mono ?_; rintro e w' ⟨rfl,rfl⟩; rw [HD.out]) | fail)
    go_round
    case rel => exact ⟨k + 1,by omega,by go_num,HOK⟩
    case measure => simp [intOf] <;> omega
  ·have HW3 := Hd (show R = false by
    rw [HR.out,List.any_eq_false]
    intro x hx
    obtain ⟨j,hj,rfl⟩ := List.getElem_of_mem hx
    have h1 := hok.out j hj (by omega)
    simpa using h1)
   go_wp2_with fail
   go_ret
   exact ⟨⟨-1,rfl,by rw [HW3.out]; rfl⟩,rfl⟩
def Ahc (ops : Array Oper) : Bool := ops.toList.all fun o => match o.op with | .defer _ => false | _ => true
theorem Ak5 {ops : Array Oper} (h : Ahc ops = true) {i : Nat} {o : Oper} (ho : ops[i]? = some o) : ∀ c,o.op ≠ .defer c := by
 intro c hc
 have h1 := List.all_eq_true.1 h o (by
  obtain ⟨hi,rfl⟩ := Array.getElem?_eq_some_iff.1 ho
  simp)
 rw [hc] at h1
 cases h1
def Atu (K : Act → World → Prop) (e : Exit) (a : Act) (w : World) : Prop := e = .normal ∧ K a w
theorem Ayd {ro : Option Nat} {n : Nat} {P : Program} {o : Oper} {a : Act} {w : World} {K K' R : Act → World → Prop} {Q : Exit → Act → World → Prop} (hd : ∀ c,o.op ≠ .defer c)
  (h : o.wp P a w K (Atu R)) (hK : ∀ a w,K a w → K' a w) : o.wpIn { Fence.wide with round := ro } n P a w K' Q := by
 refine ⟨fun _ _ => trivial,?_⟩
 rw [Oper.semAt_eq _ _ _ hd]
 unfold Oper.wp at h
 generalize (execOp a.eval o).run P w = r at h ⊢
 cases r with
 | ok x w' =>
  cases x with
  | value v => exact hK _ _ h
  | skip => exact hK _ _ h
  | defer d => exact hK _ _ h
  | enter f args =>
   refine ⟨fun h0 => (by cases h0),?_⟩
   refine (show CallsIn Fence.wide (n - 1) P f args w' _ from callsIn_wide.2 (Calls.mono h fun e w'' he => ?_))
   cases e with
   | returned v => exact hK _ _ he
   | panicked c => exact absurd he.1 (by simp)
   | outgrown => obtain ⟨_,_,h1,_⟩ := he; cases h1
  | row row args =>
   refine ⟨fun h0 => (by cases h0),?_⟩
   intro c cs _
   obtain ⟨v,w'',hr,hs⟩ := h c cs
   exact ⟨v,w'',hK _ _ hr,stepsIn_wide.2 hs⟩
  | _ => exact h.elim
 | halt x w' =>
  cases x with
  | panic v => exact absurd h.1 (by simp)
  | _ => exact h.elim
theorem Bav {ro : Option Nat} {n : Nat} {P : Program} {ops : Array Oper} {i : Nat} {a : Act} {w : World} {K K' R : Act → World → Prop} {Q : Exit → Act → World → Prop} (hd : Ahc ops = true)
  (h : wpOp P ops (Atu R) i K a w) (hK : ∀ a w,K a w → K' a w) : wpOpIn { Fence.wide with round := ro } n P ops Q i K' a w := by
 unfold wpOp at h
 unfold wpOpIn
 cases ho : ops[i]? with
 | none => simp only [ho] at h ⊢; exact hK _ _ h
 | some o =>
  simp only [ho] at h ⊢
  split
  ·rename_i hw
   rw [if_pos hw] at h
   rcases h with h | ⟨_,_,_,h1,_⟩
   ·exact Ayd (Ak5 hd ho) h hK
   ·cases h1
  ·rename_i hw
   rw [if_neg hw] at h
   exact ⟨fun _ _ => trivial,hK _ _ h⟩
theorem Axu {ro : Option Nat} {n : Nat} {P : Program} {md : Region.Mode} {ops : Array Oper} {R : Act → World → Prop} {Q : Exit → Act → World → Prop} (hd : Ahc ops = true) (hQ : ∀ a w,R a w → Q .normal a w) :
  ∀ (fuel : Nat) (listed : Array Bool) (a : Act) (w : World),wpAny P md ops (Atu R) fuel listed a w → wpAnyIn { Fence.wide with round := ro } n P md ops Q fuel listed a w
 | 0,_,_,_,h => ⟨h.1,hQ _ _ h.2.2⟩
 | fuel + 1,_listed,_a,_w,h => ⟨fun h0 => hQ _ _ (h.1 h0).2,fun i hi => Bav hd (h.2 i hi) fun a' w' h' => Axu hd hQ fuel _ a' w' h'⟩
theorem Aum {ro : Option Nat} {n : Nat} {P : Program} {id : Nat} {ops : Array Oper} {Q : Exit → Act → World → Prop} {a : Act} {w : World} (hm : P.follows .mixedOrders = true) (hd : Ahc ops = true)
  (h : wpAny P .any ops (Atu (Q .normal)) ops.size (Array.replicate ops.size false) a w.drew) : (Code.region id ops true).wpIn { Fence.wide with round := ro } n P Q a w :=
 wpIn_region_any hm (Axu hd (fun _ _ h => h) _ _ _ _ h)
theorem Ab8 {ro : Option Nat} {n : Nat} {P : Program} {id : Nat} {ops : Array Oper} {S : World → Prop} {Q : Exit → Act → World → Prop} {a : Act} {w : World} (hm : P.follows .mixedOrders = true) (hd : Ahc ops = true)
  (h : wpAnyH P .any ops (Atu (Q .normal)) S ops.size (Array.replicate ops.size false) a w.drew) : (Code.region id ops true).wpIn { Fence.wide with round := ro } n P Q a w :=
 Aum hm hd (wpAny_of_held _ _ _ _ h)
theorem Aeo {P : Program} {b : Frame} {a : Act} {k : List Item} {cs : List Frame} {w : World} {c : Code} : step P (lone (b.atR a (.code (.scope c) :: k)) cs w) = .next (lone (b.atR a (.code c :: .inScope c :: k)) cs w) :=
 step_lone_go (by simp [stepG,stepG.exec,Frame.atR])
theorem Ak8 {P : Program} {b : Frame} {a : Act} {k : List Item} {cs : List Frame} {w : World} {c : Code} : step P (lone (b.atR a (.inScope c :: k)) cs w) = .next (lone (b.atR a k) cs w) :=
 step_lone_go (by simp [stepG,stepG.exec,Frame.atR])
theorem Axd {F : Fence} {n : Nat} {P : Program} {Q : Exit → Act → World → Prop} {a : Act} {w : World} {c : Code} (hro : F.round = none) (h : c.wpIn F n P (Exit.noGoto Q) a w) : (Code.scope c).wpIn F n P Q a w := by
 intro b k cs hb0 hb hr
 have h0 : (lone (b.atR a (.code (.scope c) :: k)) cs w).fenced P F := fenced_calm hb hr rfl
 have hbn : b.roundOf = none := hb0.trans hro
 obtain ⟨e,a₁,w₁,hq,harr⟩ := h b (.inScope c :: k) cs hb0 hb hr
 cases e with
 | normal => exact ⟨.normal,a₁,w₁,hq,.head h0 Aeo (StepsIn.trans harr (.one (fenced_calm hb hr rfl) Ak8))⟩
 | exit id => exact ⟨.exit id,a₁,w₁,hq,fun k' hk => .head h0 Aeo (harr.1 k' (by simp [exitTo,hk])),fun hs => (by rw [hbn] at hs; cases hs)⟩
 | goto l => exact hq.elim
 | ret => exact ⟨_,a₁,w₁,hq,.of_steps (.one h0 Aeo) harr⟩
 | panic ch => exact ⟨_,a₁,w₁,hq,.of_steps (.one h0 Aeo) harr⟩
 | outgrown => exact ⟨_,a₁,w₁,hq,.of_steps (.one h0 Aeo) harr⟩
def Bae {σ : Type} (B : Nat) (T : σ → Prop) (I : σ → World → Prop) (Ix : Code → World → Prop) (W : World) : Exit → Act → World → Prop
 | .normal,_,W' => KeepsFrom B W W' ∧ ∃ s',T s' ∧ I s' W'
 | .ret,_,W' => KeepsFrom B W W' ∧ Ix .ret W'
 | .exit id,_,W' => KeepsFrom B W W' ∧ Ix (.exit id) W'
 | .goto t,_,W' => KeepsFrom B W W' ∧ Ix (.goto t) W'
 | .panic _,_,_ => False
 | .outgrown,_,_ => False
def Bap {σ : Type} (F : Fence) (n : Nat) (P : Program) (g : Nat) (lb : Array Value) (E : σ → Array Value) (I Ip : σ → World → Prop) (Nx : σ → σ → Prop) (S : World → Prop) (s0 : σ) : Prop :=
 ∀ (l : Nat) (G Jx : World → Prop) (W : World),(∀ A B,G A → KeepsOthers A B → G B) →
  (∀ s W1,Ip s W1 → G W1 → YieldAt F (n - 1) P l (E s) W1 fun e W' => (e = .returned (.bool true) ∧ ∃ s',Nx s s' ∧ I s' W' ∧ G W') ∨ (e = .returned (.bool false) ∧ Jx W')) →
  I s0 W → G W →
  CallsIn F n P g (#[.func (.yield l) #[] #[]] ++ lb) W fun e W' => (∃ v,e = .returned v) ∧ ((S W' ∧ G W') ∨ Jx W')
theorem Awg {σ : Type} {F : Fence} {n : Nat} {P : Program} {g : Operand} {ps : Array Tmp} {assign body : Code} {Q : Exit → Act → World → Prop} {a : Act} {w : World}
  (hro : F.round = none) (h1 : 1 ≤ n) {gf : Nat} {lb : Array Value} (hg : a.eval g = .func (.func gf) #[] lb) (hFg : F.fn gf) (eg : ∀ args w,(callFunc gf args).run P w = .ok (.enter gf args) w)
  {E : σ → Array Value} {I Ip : σ → World → Prop} {Nx : σ → σ → Prop} {S : World → Prop} {s0 : σ} (hseq : Bap F (n - 1) P gf lb E I Ip Nx S s0) (hps : ∀ s,(E s).size = ps.size)
  (Ix : Code → World → Prop) (hI : OwnFrom w.heap.size I) (hIp : OwnFrom w.heap.size Ip) (hIx : ∀ c,OwnFrom w.heap.size (fun (_ : Unit) W => Ix c W)) (hS : OwnFrom w.heap.size (fun (_ : Unit) W => S W)) (h0 : I s0 w) (a₁ : σ → Act)
  (hassign : ∀ (l : Nat) (s : σ) (W : World) (K : Act → World → Prop),K (a₁ s) W →
   assign.wpIn (F.inRound l) (n - 1 - 1) P (Exit.then K (fun _ _ _ => False)) { tmps := (ps.zip (E s)).foldl (fun t (p,v) => t.setIfInBounds p v) a.tmps,defers := [] } W)
  (hbody : ∀ (l : Nat) (s : σ) (W : World),Ip s W → body.wpIn (F.inRound l) (n - 1 - 1) P (Bae w.heap.size (Nx s) I Ix W) (a₁ s) W)
  (hdone : ∀ (D : Nat) (W : World),w.heap.size ≤ D → S W → W.heap[D]? = some (.deferred (some [])) → Q .normal { a with defers := { target := .collected D,args := #[] } :: a.defers } W)
  (hstop : ∀ (D : Nat) (c : Code) (W : World),w.heap.size ≤ D → Ix c W → W.heap[D]? = some (.deferred (some [])) → c.wpIn F n P Q { a with defers := { target := .collected D,args := #[] } :: a.defers } W) :
  (Code.rangeFunc g ps assign body).wpIn F n P Q a w := by
 refine wpIn_rangeFunc ?_
 intro fn hfn
 rw [hro]
 obtain ⟨rc,hrc⟩ : ∃ rc : LoopState → Option Code → Loop,rc = fun st pe => { state := st,pending := pe,fn,tmps := a.tmps,params := ps,assign,body,defers := w.heap.size } := ⟨_,rfl⟩
 obtain ⟨V,hV⟩ : ∃ V,V = (w.alloc (.deferred (some []))).alloc (.loop (rc .ready none)) := ⟨_,rfl⟩
 have hVl : V.heap[w.heap.size + 1]? = some (.loop (rc .ready none)) := by
  have h := World.alloc_heap_new (w.alloc (.deferred (some []))) (.loop (rc .ready none))
  rw [World.size_alloc,← hV] at h
  exact h
 have hVk : V.heap[w.heap.size]? = some (.deferred (some [])) := by
  rw [hV]
  exact (Below.heap_alloc _ _ _ (by simp)).trans (World.alloc_heap_new w _)
 have hVI : I s0 V := by rw [hV]; exact hI.alloc _ (hI.alloc _ h0)
 refine ⟨w.heap.size + 1,[{ target := .collected w.heap.size,args := #[] }],V,{ target := .fn (.func gf) lb,args := #[.func (.yield (w.heap.size + 1)) #[] #[]] },V,gf,#[.func (.yield (w.heap.size + 1)) #[] #[]] ++ lb,V,?_,?_,?_,?_,fun _ => h1,?_⟩
 ·rw [hV,hrc]
  exact run_enterLoop_outer _ _ _ _ _
 ·simp only [resolve,hg]
  simp [go_sem]
 ·intro f' hf'
  simp [Target.leads] at hf'
  subst hf'
  exact hFg
 ·simp [invoke,go_sem,eg]
 ·refine (hseq (w.heap.size + 1) (fun W => W.heap[w.heap.size + 1]? = some (.loop (rc .ready none)) ∧ W.heap[w.heap.size]? = some (.deferred (some [])))
   (fun W => ∃ c,Ix c W ∧ W.heap[w.heap.size + 1]? = some (.loop (rc .done (some c))) ∧ W.heap[w.heap.size]? = some (.deferred (some []))) V
   (fun A B h hk => ⟨hk.same _ _ h.1 rfl,hk.same _ _ h.2 rfl⟩) ?_ hVI ⟨hVl,hVk⟩).mono ?_
  ·rintro s W hi ⟨hl,hk⟩
   have hlt : w.heap.size + 1 < W.heap.size := (Array.getElem?_eq_some_iff.1 hl).1
   have hy := run_yield (P := P) (args := E s) hl (by rw [hrc]; exact hps s)
   rw [hrc] at hy
   have hbeg := run_beginRound (P := P) hl (by rw [hrc])
   refine ⟨fn,_,assign,body,hy,roundIn_of_wpIn hfn (hassign _ s W _ ⟨_,hbeg,?_⟩)⟩
   obtain ⟨U,hU⟩ : ∃ U,U = W.putObj (w.heap.size + 1) (.loop { rc .ready none with state := .busy }) := ⟨_,rfl⟩
   have hUl : U.heap[w.heap.size + 1]? = some (.loop { rc .ready none with state := .busy }) := by rw [hU]; exact World.putObj_heap_same hlt
   have hUk : U.heap[w.heap.size]? = some (.deferred (some [])) := by rw [hU]; exact (World.putObj_heap_other (by omega)).trans hk
   have hUI : Ip s U := by rw [hU]; exact hIp.putObj _ hi (by omega) hl rfl
   rw [← hU]
   have fin : ∀ (jump : Option Code) (W3 : World),KeepsFrom w.heap.size U W3 →
     (Instr.endRound (w.heap.size + 1) jump).run P W3 = .ok (.bool jump.isNone) (W3.putObj (w.heap.size + 1) (.loop (rc (if jump.isNone then .ready else .done) jump))) ∧
     W3.heap[w.heap.size + 1]? = some (.loop { rc .ready none with state := .busy }) ∧
     (W3.putObj (w.heap.size + 1) (.loop (rc (if jump.isNone then .ready else .done) jump))).heap[w.heap.size + 1]? = some (.loop (rc (if jump.isNone then .ready else .done) jump)) ∧
     (W3.putObj (w.heap.size + 1) (.loop (rc (if jump.isNone then .ready else .done) jump))).heap[w.heap.size]? = some (.deferred (some [])) := fun jump W3 hk3 => by
    have hl3 := hk3.same _ _ (by omega) hUl rfl
    have := run_endRound (P := P) jump hl3
    rw [hrc] at this ⊢
    exact ⟨this,by rw [hrc] at hl3; exact hl3,World.putObj_heap_same (Array.getElem?_eq_some_iff.1 hl3).1,(World.putObj_heap_other (by omega)).trans (hk3.same _ _ (Nat.le_refl _) hUk rfl)⟩
   refine wpIn_mono (hbody _ s U hUI) ?_
   rintro e a3 W3 hp
   cases e with
   | normal =>
    obtain ⟨hk3,s',hn3,hi3⟩ := hp
    obtain ⟨hr,hl3,hl4,hk4⟩ := fin none W3 hk3
    exact ⟨_,_,hr,.inl ⟨rfl,s',hn3,hI.putObj _ hi3 (by omega) hl3 rfl,hl4,hk4⟩⟩
   | ret =>
    obtain ⟨hk3,hi3⟩ := hp
    obtain ⟨hr,hl3,hl4,hk4⟩ := fin (some .ret) W3 hk3
    exact ⟨_,_,hr,.inr ⟨rfl,.ret,(hIx _).putObj (s := ()) _ hi3 (by omega) hl3 rfl,hl4,hk4⟩⟩
   | exit id =>
    obtain ⟨hk3,hi3⟩ := hp
    obtain ⟨hr,hl3,hl4,hk4⟩ := fin (some (.exit id)) W3 hk3
    exact ⟨_,_,hr,.inr ⟨rfl,.exit id,(hIx _).putObj (s := ()) _ hi3 (by omega) hl3 rfl,hl4,hk4⟩⟩
   | goto t =>
    obtain ⟨hk3,hi3⟩ := hp
    obtain ⟨hr,hl3,hl4,hk4⟩ := fin (some (.goto t)) W3 hk3
    exact ⟨_,_,hr,.inr ⟨rfl,.goto t,(hIx _).putObj (s := ()) _ hi3 (by omega) hl3 rfl,hl4,hk4⟩⟩
   | panic ch => exact hp.elim
   | outgrown => exact hp.elim
  ·rintro e W2 ⟨⟨v,rfl⟩,(⟨hi,hl,hk⟩ | ⟨c,hi,hl,hk⟩)⟩
   ·exact ⟨none,_,by have := run_endLoop (P := P) hl (by rw [hrc]; simp); rw [hrc] at this; exact this,hdone _ _ (Nat.le_refl _) (hS.putObj (s := ()) _ hi (by omega) hl rfl) ((World.putObj_heap_other (by omega)).trans hk)⟩
   ·exact ⟨some c,_,by have := run_endLoop (P := P) hl (by rw [hrc]; simp); rw [hrc] at this; exact this,hstop _ c _ (Nat.le_refl _) ((hIx c).putObj (s := ()) _ hi (by omega) hl rfl) ((World.putObj_heap_other (by omega)).trans hk)⟩
end Go.Proofs.YtkdfbliiblojoaaGreatDoor
