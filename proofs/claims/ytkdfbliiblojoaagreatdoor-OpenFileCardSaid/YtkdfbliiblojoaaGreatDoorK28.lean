import Derived.Deep.RegionHeld
import Derived.Test.YtkdfbliiblojoaaGreatDoorK27
set_option linter.all false
set_option maxRecDepth 100000
set_option maxHeartbeats 64000000
namespace Go.Proofs.YtkdfbliiblojoaaGreatDoor
open Go Go.RowKit Go.Shelf
attribute [local go_sem] Oper.semAt_some
theorem Akf (p : List UInt8) (b : Bool) (h : Ac3 p = b) (w : World) : Calls Tryz.prog 175 #[.string ⟨p.toArray⟩,.string ⟨#[47]⟩] w fun e w' => e = .returned (.bool b) ∧ w = w' := by
 subst h
 have HL := Hd (An2 ⟨p.toArray⟩)
 go_enter Tryz.func175,Tryz.ntmps175
 go_wp2_with (first | (go_at_call 190; refine (HL.out _).mono ?_; rintro e w' ⟨rfl,rfl⟩) | fail)
 go_ret
 exact ⟨rfl,rfl⟩
def WayX (n₀ g : Nat) (T : Value × Value × Value) (A : Nat → Prop) (W : World) (p : Int) (st : List (List UInt8)) (links : Int) : Prop :=
 g < n₀ ∧ ∃ v,W.heap[g]? = some (.cells #[T.1,T.2.1,T.2.2,.int .i64 p,v,.int .i64 links] 180 (0,0)) ∧ Held n₀ W v st ∧ ∀ k,A k → v.ownBlock ≠ some k
theorem WayX.way {n₀ g : Nat} {T : Value × Value × Value} {A : Nat → Prop} {W : World} {p : Int} {st : List (List UInt8)} {links : Int} (h : WayX n₀ g T A W p st links) : Abr n₀ g T W p st links := by
 obtain ⟨h0,v,h1,h2,-⟩ := h
 exact ⟨h0,v,h1,h2⟩
theorem Aqc {β : Type} (n₀ g : Nat) (T : Value × Value × Value) (A : Nat → Prop) (p : β → Int) (st : β → List (List UInt8)) (links : β → Int) : Own (fun (s : β) W => WayX n₀ g T A W (p s) (st s) (links s)) := fun s W W' row h hg hr => by
 obtain ⟨h0,v,h1,h2,h3⟩ := h
 refine ⟨h0,v,(grownBy_keeps_cells hg hr h1 rfl).trans h1,h2.kept fun k hk => ?_,h3⟩
 obtain ⟨-,cur,hc⟩ := h2.own hk
 exact grownBy_keeps_cells hg hr hc rfl
theorem Agj {n₀ g : Nat} {T : Value × Value × Value} {A : Nat → Prop} {W : World} {p : Int} {S : List (List UInt8)} {links : Int} {v v' : Value} {x : List UInt8} {w5 : World} {tmp : Obj} (h0 : g < n₀)
  (hb : W.heap[g]? = some (.cells #[T.1,T.2.1,T.2.2,.int .i64 p,v,.int .i64 links] 180 (0,0))) (hh : Held n₀ W v S) (hap : ∀ k,A k → v.ownBlock ≠ some k) (hA : ∀ k,A k → k < W.heap.size)
  (hg5 : (W.drew.alloc tmp).grownBy w5 v.ownBlock) (hH5 : Held n₀ w5 v' (S ++ [x])) (hf5 : ∀ k,v'.ownBlock = some k → v.ownBlock = some k ∨ (W.drew.alloc tmp).heap.size ≤ k) :
  KeepsOthers W (w5.setCell ⟨g,4,none⟩ v') ∧ (∀ k,k < W.heap.size → k ≠ g → v.ownBlock ≠ some k → (w5.setCell ⟨g,4,none⟩ v').heap[k]? = W.heap[k]?) ∧ WayX n₀ g T A (w5.setCell ⟨g,4,none⟩ v') p (S ++ [x]) links ∧ Moved g W (w5.setCell ⟨g,4,none⟩ v') := by
 have hgW : g < W.heap.size := (Array.getElem?_eq_some_iff.1 hb).1
 have hown : ∀ k,v.ownBlock = some k → g ≠ k := fun k hk => by have := (hh.own hk).1; omega
 have hal : ∀ k,k < W.heap.size → (W.drew.alloc tmp).heap[k]? = W.heap[k]? := fun k hk => Below.heap_alloc W.drew tmp k hk
 have hsz : (W.drew.alloc tmp).heap.size = W.heap.size + 1 := by rw [World.size_alloc]; rfl
 have hw5 : ∀ k,k < W.heap.size → v.ownBlock ≠ some k → w5.heap[k]? = W.heap[k]? := fun k hk hne => (hg5.block k (by omega) (fun e => hne e.symm)).trans (hal k hk)
 have hg5g : w5.heap[g]? = some (.cells #[T.1,T.2.1,T.2.2,.int .i64 p,v,.int .i64 links] 180 (0,0)) := (hw5 g hgW (fun e => hown g e rfl)).trans hb
 have hkept : ∀ k,k < W.heap.size → k ≠ g → v.ownBlock ≠ some k → (w5.setCell ⟨g,4,none⟩ v').heap[k]? = W.heap[k]? := fun k hk hne ho => (Below.heap_setCell w5 ⟨g,4,none⟩ v' k hne).trans (hw5 k hk ho)
 have hrow : ∀ (j : Nat) (o : Obj),v.ownBlock = some j → W.heap[j]? = some o → o.isCells = true ∧ Ak2 o = false := fun j o hj ho => by
  obtain ⟨-,cur,hc⟩ := hh.own hj
  rw [hc] at ho
  cases ho
  exact ⟨rfl,by simp [Ak2]⟩
 have hsize : W.heap.size ≤ (w5.setCell ⟨g,4,none⟩ v').heap.size := by
  have := hg5.size
  simp only [World.setCell,Array.size_modify]
  omega
 refine ⟨⟨hsize,fun k o hk ho => ?_⟩,hkept,⟨h0,v',?_,Aik hH5 h0 4 v',fun k hk e => ?_⟩,⟨?_,fun k o hk hne ho => ?_⟩⟩
 ·have hlt := (Array.getElem?_eq_some_iff.1 hk).1
  refine (hkept k hlt (fun e => ?_) (fun e => ?_)).trans hk
  ·subst e
   rw [hb] at hk
   cases hk
   cases ho
  ·rw [(hrow k o e hk).1] at ho
   cases ho
 ·have h := Ag2 hg5g 4 v'
  exact h
 ·rcases hf5 k e with h | h
  ·exact hap k hk h
  ·have := hA k hk
   omega
 ·have hb1 : Below g W w5 := ⟨hg5.os,hg5.tape,hg5.output,by have := hg5.size; omega,fun k hk => hw5 k (by omega) (fun e => by have := (hh.own e).1; omega)⟩
  exact hb1.setCell (p := ⟨g,4,none⟩) (Nat.le_refl _) v'
 ·have hlt := (Array.getElem?_eq_some_iff.1 hk).1
  refine (hkept k hlt hne (fun e => ?_)).trans hk
  rw [(hrow k o e hk).2] at ho
  cases ho
theorem Aep {β : Type} {B : Nat} {g : Nat} {w : World} (hw : w.heap.size ≤ B) (hg : g ≤ w.heap.size) : OwnFrom B (fun (_ : β) W => Moved g w W) := fun _ X Y row h hgr hr => by
 refine ⟨h.below.grown hgr (Nat.le_trans hg h.below.size) (fun k e => Nat.le_trans hg (Nat.le_trans hw (hr k e).1)),fun k o hk hne hno => ?_⟩
 have hlt : k < w.heap.size := (Array.getElem?_eq_some_iff.1 hk).1
 exact (hgr.block k (Nat.lt_of_lt_of_le hlt h.below.size) (fun e => by have := (hr k e.symm).1; omega)).trans (h.kept k o hk hne hno)
theorem Adl (W : World) (a : Addr) (v : Value) : (W.setCell a v).heap.size = W.heap.size := by simp [World.setCell]
theorem Alb {n₀ g : Nat} {T : Value × Value × Value} {W : World} {p : Int} {st : List (List UInt8)} {links : Int} (h : Abr n₀ g T W p st links) (q : Int) : Abr n₀ g T (W.setCell ⟨g,3,none⟩ (.int .i64 q)) q st links := by
 obtain ⟨h0,v,h1,h2⟩ := h
 exact ⟨h0,v,Ag2 h1 3 _,Aik h2 h0 3 _⟩
theorem Aei {w : World} {o : Obj} {a : Addr} {u : Value} (h : w.cell? a = some u) : (w.alloc o).cell? a = some u := Aaa (Aab w o) h
theorem Af9 {W : World} {g i b j : Nat} {u : Value} (h : b ≠ g) : (W.setCell ⟨g,i,none⟩ u).cell? ⟨b,j,none⟩ = W.cell? ⟨b,j,none⟩ := World.cell?_of_block (Below.heap_setCell W ⟨g,i,none⟩ u b h)
theorem Aih (w : World) (x : List UInt8) : View (w.alloc (.cells #[.string ⟨x.toArray⟩] 9)) (.slice (some ⟨w.heap.size,0,none⟩) 1 1) [x] := by
 refine ⟨_,1,rfl,Nat.le_refl _,by decide,fun i hi => ⟨w.heap.size,0,rfl,?_⟩⟩
 obtain rfl : i = 0 := by simpa using hi
 exact Aal (Aae w _) rfl
theorem Axl (F : Fence) (hwide : F = Fence.wide) (n : Nat) (hn : 4 ≤ n) (n₀ g : Nat) (T : Value × Value × Value) (p0 links : Int) (st : List (List UInt8)) (p : List UInt8) (hp : p.length ≤ 100000) (hst : st.length ≤ 100000) (w : World) (hn₀ : n₀ ≤ w.heap.size) (hW : Abr n₀ g T w p0 st links) :
  CallsIn F n Tryz.prog 153 #[.pointer (some ⟨g,0,none⟩),.string ⟨p.toArray⟩] w fun e w' => (∃ u,e = .returned u) ∧ Abr n₀ g T w' (if Ac3 p then 0 else p0) (st ++ (Aan p).reverse) links ∧ Moved g w w' := by
 have hO : Open F := by rw [hwide]; exact Agx
 have hro : F.round = none := hO.ro
 have h41 : F.fn 175 := hO.fn _
 have h38 : F.fn 172 := hO.fn _
 have h42 : F.fn 176 := hO.fn _
 have h1 : 1 ≤ n := by omega
 have hlt := hW.lt
 obtain ⟨c0,c1,c2,c3,-,c5⟩ := Aa6 hW
 have f3 := Abi hW 3
 have f4 := Abi hW 4
 have HW := Hd hW
 have HWIDE := Hd hwide
 clear hW hwide
 refine callsIn_of_wp_marks Tryz.func153 rfl (hO.fn _) ?_ hro
 simp only [Tryz.ntmps153,List.size_toArray,List.length_cons,List.length_nil,Nat.reduceAdd,Nat.reduceSub,Array.replicate_succ,Array.replicate_zero,List.push_toArray,List.append_toArray,List.nil_append,List.cons_append]
 cases hwh : Ac3 p with
 | true =>
  have HWH := Hd hwh
  obtain ⟨U,hUe⟩ : ∃ U,U = (w.setCell ⟨g,3,none⟩ (.int .i64 0)).alloc (.cells #[.pointer (some ⟨g,0,none⟩)] 194) := ⟨_,rfl⟩
  have hUs : U.heap.size = w.heap.size + 1 := by rw [hUe]; simp [World.setCell]
  have HUW := Hd (show Abr n₀ g T U 0 st links by rw [hUe]; exact (Alb HW.out 0).below (Aab _ _))
  have HUM := Hd (show Moved g w U by rw [hUe]; exact (Moved.set w 3 _).trans (Moved.of_below (Aab _ _) (by rw [Adl]; exact Nat.le_of_lt hlt)))
  have HUB := Hd (show U.heap[w.heap.size]? = some (.cells #[.pointer (some ⟨g,0,none⟩)] 194) by rw [hUe]; exact (by have h := Aae (w.setCell ⟨g,3,none⟩ (.int .i64 0)) (Obj.cells #[.pointer (some ⟨g,0,none⟩)] 194); rw [Adl] at h; exact h))
  gi_wp2_with (first | (gi_at_call 175; refine (hO.calls (Akf p _ HWH.out _)).mono ?_; rintro e w' ⟨rfl,rfl⟩) | (gi_at_call 172; rw [← hUe]; refine (hO.calls (Aiz ⟨p.toArray⟩ (by rw [Acs]; omega) U)).mono ?_; rintro e w3 ⟨v3,rfl,hT3,hb3⟩; (obtain ⟨na,nc,rfl,-,-,-⟩ := hT3.view); have HT3 := Hd hT3; have HB3 := Hd hb3; clear hT3 hb3) | (gi_at_call 176; refine (As4 F hO (n - 1) _ _ _ _).mono ?_; rintro e w4 ⟨rfl,hw4⟩) | fail)
  obtain ⟨N,hNe⟩ : ∃ N,N = Aan (⟨p.toArray⟩ : ByteArray).data.toList := ⟨_,rfl⟩
  have hNp : N = Aan p := hNe
  have hNl : N.length ≤ 100001 := by rw [hNp]; have := Aci p; omega
  rw [← hNe] at HT3 hw4
  try rw [← hNe]
  rw [← hw4]
  obtain ⟨v3,hv3⟩ : ∃ v3,v3 = Value.slice na N.length nc := ⟨_,rfl⟩
  have HT := Hd HT3.out
  rw [← hv3] at HT
  have hs3 := HB3.out.size
  have hs4 : w4.heap.size = w3.heap.size + 1 := by rw [hw4]; simp
  have hb4 : Below w3.heap.size w3 w4 := by rw [hw4]; exact Aab _ _
  have hbU : Below U.heap.size U w4 := HB3.out.trans (hb4.mono hs3)
  have hgU : g < U.heap.size := by omega
  have hown : ∀ k,v3.ownBlock = some k → U.heap.size ≤ k ∧ k < w3.heap.size := fun k hk => ⟨(HT.out.held.own hk).1,by obtain ⟨-,cur,hc⟩ := HT.out.held.own hk; exact (Array.getElem?_eq_some_iff.1 hc).1⟩
  have hrow : Ajj w3.heap.size v3 U.heap.size N w4 := ⟨by rw [hw4,hv3]; exact (Boxed.new w3 61 _).cell,HT.out.held.kept fun k hk => hb4.block k (hown k hk).2⟩
  have hx4 : WayX n₀ g T (fun k => v3.ownBlock = some k ∨ k = w3.heap.size) w4 0 (st ++ ([] : List (Nat × List UInt8)).map Prod.snd) links := by
   obtain ⟨h0,v,h1,h2⟩ := HUW.out
   refine ⟨h0,v,(hbU.block g hgU).trans h1,?_,fun k hk e => ?_⟩
   ·rw [List.map_nil,List.append_nil]
    exact h2.kept fun k hk => by obtain ⟨-,cur,hc⟩ := h2.own hk; exact hbU.block k (Array.getElem?_eq_some_iff.1 hc).1
   ·obtain ⟨-,cur,hc⟩ := h2.own e
    have h3 := (Array.getElem?_eq_some_iff.1 hc).1
    rcases hk with hk | hk
    ·have h4 := (hown k hk).1
     omega
    ·omega
  have hbx : Boxed w4 w.heap.size 194 (.pointer (some ⟨g,0,none⟩)) := (hbU.block _ (by omega)).trans HUB.out
  have hmv : Moved g w w4 := HUM.out.trans (Moved.of_below hbU (by omega))
  have HX4 := Hd hx4
  have HBX := Hd hbx
  have HMV := Hd hmv
  have HROW := Hd hrow
  have HOWN := Hd hown
  have HNP := Hd hNp
  clear hx4 hbx hmv hrow hown hb4 hbU hNe hNp HT HT3 HB3 HUB HUM HUW hUe hw4 c0 c1 c2 c3 c5 f3 f4
  rw [← hv3]
  clear hv3
  refine wpIn_rangeFunc_ownG hro h1 (gf := 191) (lb := #[.pointer (some ⟨w3.heap.size,0,none⟩)]) rfl (hO.fn _) (enters_of Tryz.func191 (by kernel_rfl) rfl)
   (Ajx F hO (n - 1) (by omega) w3.heap.size U.heap.size v3 N (by omega) w4 (by omega) (fun k hk => by have := (HOWN.out k hk).2; omega) HROW.out) Asl (Asz (by omega) (fun k hk => by have := (HOWN.out k hk).2; omega)) (Below.refl _ _) (fun _ => rfl)
   (fun pre W => WayX n₀ g T (fun k => v3.ownBlock = some k ∨ k = w3.heap.size) W 0 (st ++ pre.map Prod.snd) links ∧ Boxed W w.heap.size 194 (.pointer (some ⟨g,0,none⟩)) ∧ Moved g w W ∧ w4.heap.size ≤ W.heap.size)
   (fun _ _ _ => False)
   (OwnFrom.and (Own.from (Aqc n₀ g T (fun k => v3.ownBlock = some k ∨ k = w3.heap.size) (fun _ => 0) (fun pre : List (Nat × List UInt8) => st ++ pre.map Prod.snd) (fun _ => links)) _) (OwnFrom.and (Own.from (boxed_own _ _ _) _) (OwnFrom.and (Aep (by omega) (by omega)) (fun _ X Y row h hg _ => Nat.le_trans h hg.size))))
   (fun _ _ _ _ _ hs _ _ => hs)
   ⟨HX4.out,HBX.out,HMV.out,Nat.le_refl _⟩
   (fun x => { tmps := #[.pointer (some ⟨g,0,none⟩),.string ⟨p.toArray⟩,.pointer (some ⟨w.heap.size,0,none⟩),undef,undef,.string ⟨x.2.toArray⟩,.string ⟨p.toArray⟩,.bool true,.pointer (some ⟨g,0,none⟩),.pointer (some ⟨g,0,none⟩),.pointer (some ⟨g,3,none⟩),.string ⟨p.toArray⟩,v3,.func (.func 191) #[] #[.pointer (some ⟨w3.heap.size,0,none⟩)],.int .i64 (x.1 : Nat),.string ⟨x.2.toArray⟩,undef,undef,undef,undef,undef,undef,undef,undef,undef,undef],defers := [] }) ?assign ?body ?done ?stop
  case assign =>
   intro l x W K hK
   gi_wp2
   exact hK
  case body =>
   rintro l pre x W ⟨hS,hbx,hmv,HSZW⟩ hltn
   obtain ⟨h0,v,hb,hh,hap⟩ := hS
   have hbc := hbx.cell
   have hvc : W.cell? ⟨g,4,none⟩ = some v := Aal hb rfl
   have hfz : W.frozen? ⟨g,4,none⟩ = false := by simp only [World.frozen?,hb]; simp
   have hgW : g < W.heap.size := (Array.getElem?_eq_some_iff.1 hb).1
   have hsw := hmv.below.size
   have hwW : w.heap.size < W.heap.size := hbx.lt
   have hw := HWIDE.out
   subst hw
   have HH := Hd hh
   have HAP := Hd hap
   have HHB := Hd hb
   have HBX2 := Hd hbx
   have HMV2 := Hd hmv
   have HSZ := Hd (show w4.heap.size ≤ W.heap.size from HSZW)
   have hpl : (pre.map Prod.snd).length < N.length := by simpa using hltn
   clear hh hap hb hbx hmv
   gi_wp2
   refine Ab8 (S := fun W' => W'.cell? ⟨w.heap.size,0,none⟩ = some (.pointer (some ⟨g,0,none⟩))) (by kernel_rfl) (by kernel_rfl) ?_
   have hHeld : W.drew.cell? ⟨w.heap.size,0,none⟩ = some (.pointer (some ⟨g,0,none⟩)) := hbc
   have hAlt : ∀ k,(v3.ownBlock = some k ∨ k = w3.heap.size) → k < W.heap.size := fun k hk => by
    have h3 : w4.heap.size ≤ W.heap.size := HSZ.out
    rcases hk with hk | hk
    ·have := (HOWN.out k hk).2; omega
    ·omega
   have hAne : ∀ k,(v3.ownBlock = some k ∨ k = w3.heap.size) → k ≠ g := fun k hk => by
    rcases hk with hk | hk
    ·have := (HOWN.out k hk).1; omega
    ·omega
   have HNB := Hd (show v.ownBlock ≠ some w.heap.size from fun e => by
    obtain ⟨-,cur,hc⟩ := HH.out.own e
    have h2 : W.heap[w.heap.size]? = _ := HBX2.out
    rw [hc] at h2
    cases h2)
   have HH5 := Hd (show Held n₀ (W.drew.alloc (.cells #[.string ⟨x.2.toArray⟩] 9)) v (st ++ pre.map Prod.snd) from HH.out.kept fun k hk => by
    obtain ⟨-,cur,hc⟩ := HH.out.own hk
    exact Below.heap_alloc W.drew _ k (Array.getElem?_eq_some_iff.1 hc).1)
   refine wpAnyH_take (i := 0) (v := ?_) rfl (by kernel_rfl) (by kernel_rfl) (by kernel_rfl) (fun _ _ _ h => h) (Or.inl ⟨by rfl,?hyt0⟩) hHeld ?restt0
   case hyt0 => intro W hSw; go_simp <;> with_reducible rfl
   try simp only [Act.put,List.setIfInBounds_toArray]
   refine wpAnyH_take (i := 1) (v := ?_) rfl (by kernel_rfl) (by kernel_rfl) (by kernel_rfl) (fun _ _ _ h => h) (Or.inl ⟨by rfl,?hyt1⟩) hHeld ?restt1
   case hyt1 => intro W hSw; go_simp <;> with_reducible rfl
   try simp only [Act.put]
   refine wpAnyH_take (i := 2) (v := ?_) rfl (by kernel_rfl) (by kernel_rfl) (by kernel_rfl) (fun _ _ _ h => h) (Or.inl ⟨by rfl,?hyt2⟩) hHeld ?restt2
   case hyt2 => intro W hSw; go_simp <;> with_reducible rfl
   try simp only [Act.put]
   refine wpAnyH_take (i := 3) (v := ?_) rfl (by kernel_rfl) (by kernel_rfl) (by kernel_rfl) (fun _ _ _ h => h) (Or.inl ⟨by rfl,?hyt3⟩) hHeld ?restt3
   case hyt3 => intro W hSw; go_simp <;> with_reducible rfl
   try simp only [Act.put]
   refine wpAnyH_take (i := 5) (v := ?_) rfl (by kernel_rfl) (by kernel_rfl) (by kernel_rfl) (fun _ _ _ h => h) (Or.inl ⟨by rfl,?hyt5⟩) hHeld ?restt5
   case hyt5 => intro W hSw; go_simp <;> with_reducible rfl
   try simp only [Act.put]
   refine wpAnyH_ready (rs := [4,6]) (by kernel_rfl) (by simp) ?_
   refine AllReadyH.cons rfl (fun K hK => ?_) (AllReadyH.cons rfl (fun K hK => ?_) AllReadyH.nil)
   ·go_simp
    refine hK.out _ _ hHeld (fun hHeld => ?_)
    clear hK K
    try simp only [Act.put,List.setIfInBounds_toArray,List.set_cons_zero,List.set_cons_succ]
    refine wpAnyH_ready (rs := [6]) (by kernel_rfl) (by simp) ?_
    refine AllReadyH.cons rfl (fun K hK => ?_) AllReadyH.nil
    go_simp
    refine hK.out _ _ (Aei hHeld) (fun hHeld => ?_)
    clear hK K
    try simp only [Act.put,List.setIfInBounds_toArray,List.set_cons_zero,List.set_cons_succ]
    refine wpAnyH_ready (rs := [7]) (by kernel_rfl) (by simp) ?_
    refine AllReadyH.cons rfl (fun K hK => ?_) AllReadyH.nil
    refine Ac8 (B := n₀) (v := v) (L := st ++ pre.map Prod.snd) (L2 := [x.2]) (HH5.out) (Aih _ _) (by simp only [List.length_append,List.length_cons,List.length_nil]; omega) (by rw [World.size_alloc]; show n₀ ≤ W.heap.size + 1; omega) rfl _ _ rfl rfl rfl ?_
    intro v' w5 hH5 hg5 hf5
    obtain ⟨va,vl,vc,hv'⟩ : ∃ va vl vc,v' = .slice va vl vc := by
     obtain ⟨va,vc,e,-⟩ := hH5.view
     exact ⟨va,_,vc,e⟩
    subst hv'
    obtain ⟨e1,e2,e3,e4⟩ := Agj h0 HHB.out HH.out HAP.out hAlt hg5 hH5 hf5
    have hc5 : w5.cell? ⟨g,4,none⟩ = some v := (World.cell?_of_block (w := W) (a := ⟨g,4,none⟩) ((hg5.block g (by rw [World.size_alloc]; show g < W.heap.size + 1; omega) (fun e => by have := (HH.out.own e.symm).1; omega)).trans (Below.heap_alloc W.drew _ g hgW))).trans hvc
    have hf5' : w5.frozen? ⟨g,4,none⟩ = false := (World.frozen?_of_block (w := W) (a := ⟨g,4,none⟩) ((hg5.block g (by rw [World.size_alloc]; show g < W.heap.size + 1; omega) (fun e => by have := (HH.out.own e.symm).1; omega)).trans (Below.heap_alloc W.drew _ g hgW))).trans hfz
    have hb5 : w5.cell? ⟨w.heap.size,0,none⟩ = some (.pointer (some ⟨g,0,none⟩)) := (World.cell?_of_block (w := W) (a := ⟨w.heap.size,0,none⟩) ((hg5.block w.heap.size (by rw [World.size_alloc]; show w.heap.size < W.heap.size + 1; omega) (fun e => HNB.out e.symm)).trans (Below.heap_alloc W.drew _ _ hwW))).trans hbc
    have E1 := Hd e1
    have E2 := Hd e2
    have E3 := Hd e3
    have E4 := Hd e4
    clear e1 e2 e3 e4 hg5 hH5 hf5 hvc hfz
    refine hK.out _ _ hb5 (fun hHeld => ?_)
    clear hK K
    try simp only [Act.put,List.setIfInBounds_toArray]
    refine wpAnyH_take (i := 8) (v := ?_) rfl (by kernel_rfl) (by kernel_rfl) (by kernel_rfl) (fun _ _ _ h => h) (Or.inl ⟨by rfl,?hyTAt8⟩) hHeld ?restTAt8
    case hyTAt8 => intro W hSw; go_simp <;> with_reducible rfl
    try simp only [Act.put]
    refine wpAnyH_take (i := 9) (v := ?_) rfl (by kernel_rfl) (by kernel_rfl) (by kernel_rfl) (fun _ _ _ h => h) (Or.inl ⟨by rfl,?hyTAt9⟩) hHeld ?restTAt9
    case hyTAt9 => intro W hSw; go_simp <;> with_reducible rfl
    try simp only [Act.put]
    refine wpAnyH_ready (rs := [10]) (by kernel_rfl) (by simp) ?_
    refine AllReadyH.cons rfl (fun K hK => ?_) AllReadyH.nil
    go_simp
    refine hK.out _ _ ?_ (fun hHeld => ?_)
    ·rw [Af9 (by omega)]; exact hb5
    clear hK K
    refine wpAnyH_done (by kernel_rfl) ⟨rfl,?_⟩ _
    show KeepsFrom w4.heap.size W _ ∧ Ai9 w3.heap.size v3 W _ ∧ WayX _ _ _ _ _ _ _ _ ∧ Boxed _ _ _ _ ∧ Moved g w _ ∧ _
    refine ⟨E1.out.from _,⟨E2.out _ (hAlt _ (Or.inr rfl)) (hAne _ (Or.inr rfl)) (HAP.out _ (Or.inr rfl)),fun k hk => E2.out _ (hAlt _ (Or.inl hk)) (hAne _ (Or.inl hk)) (HAP.out _ (Or.inl hk))⟩,?_,?_,HMV2.out.trans E4.out,Nat.le_trans HSZ.out E1.out.size⟩
    ·rw [List.map_append,← List.append_assoc]; exact E3.out
    ·exact (E2.out _ hwW (by omega) HNB.out).trans HBX2.out
   ·go_simp
    refine hK.out _ _ (Aei hHeld) (fun hHeld => ?_)
    clear hK K
    try simp only [Act.put,List.setIfInBounds_toArray,List.set_cons_zero,List.set_cons_succ]
    have hvc2 := Aei (o := .cells #[.string ⟨x.2.toArray⟩] 9) (w := W.drew) hvc
    refine wpAnyH_ready (rs := [4]) (by kernel_rfl) (by simp) ?_
    refine AllReadyH.cons rfl (fun K hK => ?_) AllReadyH.nil
    go_simp
    refine hK.out _ _ hHeld (fun hHeld => ?_)
    clear hK K hvc2
    try simp only [Act.put,List.setIfInBounds_toArray,List.set_cons_zero,List.set_cons_succ]
    refine wpAnyH_ready (rs := [7]) (by kernel_rfl) (by simp) ?_
    refine AllReadyH.cons rfl (fun K hK => ?_) AllReadyH.nil
    refine Ac8 (B := n₀) (v := v) (L := st ++ pre.map Prod.snd) (L2 := [x.2]) (HH5.out) (Aih _ _) (by simp only [List.length_append,List.length_cons,List.length_nil]; omega) (by rw [World.size_alloc]; show n₀ ≤ W.heap.size + 1; omega) rfl _ _ rfl rfl rfl ?_
    intro v' w5 hH5 hg5 hf5
    obtain ⟨va,vl,vc,hv'⟩ : ∃ va vl vc,v' = .slice va vl vc := by
     obtain ⟨va,vc,e,-⟩ := hH5.view
     exact ⟨va,_,vc,e⟩
    subst hv'
    obtain ⟨e1,e2,e3,e4⟩ := Agj h0 HHB.out HH.out HAP.out hAlt hg5 hH5 hf5
    have hc5 : w5.cell? ⟨g,4,none⟩ = some v := (World.cell?_of_block (w := W) (a := ⟨g,4,none⟩) ((hg5.block g (by rw [World.size_alloc]; show g < W.heap.size + 1; omega) (fun e => by have := (HH.out.own e.symm).1; omega)).trans (Below.heap_alloc W.drew _ g hgW))).trans hvc
    have hf5' : w5.frozen? ⟨g,4,none⟩ = false := (World.frozen?_of_block (w := W) (a := ⟨g,4,none⟩) ((hg5.block g (by rw [World.size_alloc]; show g < W.heap.size + 1; omega) (fun e => by have := (HH.out.own e.symm).1; omega)).trans (Below.heap_alloc W.drew _ g hgW))).trans hfz
    have hb5 : w5.cell? ⟨w.heap.size,0,none⟩ = some (.pointer (some ⟨g,0,none⟩)) := (World.cell?_of_block (w := W) (a := ⟨w.heap.size,0,none⟩) ((hg5.block w.heap.size (by rw [World.size_alloc]; show w.heap.size < W.heap.size + 1; omega) (fun e => HNB.out e.symm)).trans (Below.heap_alloc W.drew _ _ hwW))).trans hbc
    have E1 := Hd e1
    have E2 := Hd e2
    have E3 := Hd e3
    have E4 := Hd e4
    clear e1 e2 e3 e4 hg5 hH5 hf5 hvc hfz
    refine hK.out _ _ hb5 (fun hHeld => ?_)
    clear hK K
    try simp only [Act.put,List.setIfInBounds_toArray]
    refine wpAnyH_take (i := 8) (v := ?_) rfl (by kernel_rfl) (by kernel_rfl) (by kernel_rfl) (fun _ _ _ h => h) (Or.inl ⟨by rfl,?hyTBt8⟩) hHeld ?restTBt8
    case hyTBt8 => intro W hSw; go_simp <;> with_reducible rfl
    try simp only [Act.put]
    refine wpAnyH_take (i := 9) (v := ?_) rfl (by kernel_rfl) (by kernel_rfl) (by kernel_rfl) (fun _ _ _ h => h) (Or.inl ⟨by rfl,?hyTBt9⟩) hHeld ?restTBt9
    case hyTBt9 => intro W hSw; go_simp <;> with_reducible rfl
    try simp only [Act.put]
    refine wpAnyH_ready (rs := [10]) (by kernel_rfl) (by simp) ?_
    refine AllReadyH.cons rfl (fun K hK => ?_) AllReadyH.nil
    go_simp
    refine hK.out _ _ ?_ (fun hHeld => ?_)
    ·rw [Af9 (by omega)]; exact hb5
    clear hK K
    refine wpAnyH_done (by kernel_rfl) ⟨rfl,?_⟩ _
    show KeepsFrom w4.heap.size W _ ∧ Ai9 w3.heap.size v3 W _ ∧ WayX _ _ _ _ _ _ _ _ ∧ Boxed _ _ _ _ ∧ Moved g w _ ∧ _
    refine ⟨E1.out.from _,⟨E2.out _ (hAlt _ (Or.inr rfl)) (hAne _ (Or.inr rfl)) (HAP.out _ (Or.inr rfl)),fun k hk => E2.out _ (hAlt _ (Or.inl hk)) (hAne _ (Or.inl hk)) (HAP.out _ (Or.inl hk))⟩,?_,?_,HMV2.out.trans E4.out,Nat.le_trans HSZ.out E1.out.size⟩
    ·rw [List.map_append,← List.append_assoc]; exact E3.out
    ·exact (E2.out _ hwW (by omega) HNB.out).trans HBX2.out
  case done =>
   rintro D ys W hD hys ⟨hS,hbx,hmv,-⟩ hK
   gi_wp2
   refine ⟨by simp,.inl ⟨_,_,rfl,run_takeDeferred hK,?_⟩⟩
   refine ⟨_,results_none rfl _ _ _,⟨_,rfl⟩,?_,?_⟩
   ·rw [hys,HNP.out] at hS
    exact hS.way.own (grownBy_putObj' W D _) (fun r e => by cases e; exact ⟨_,hK,rfl⟩)
   ·exact Aep (β := Unit) (B := w4.heap.size) (by omega) (by omega) () W _ (some D) hmv (grownBy_putObj' W D _) (fun r e => by cases e; exact ⟨hD,_,hK,rfl⟩)
  case stop =>
   rintro D c pre W _ _ h _
   exact h.elim
 | false =>
  have HWH := Hd hwh
  obtain ⟨U,hUe⟩ : ∃ U,U = w.alloc (.cells #[.pointer (some ⟨g,0,none⟩)] 194) := ⟨_,rfl⟩
  have hUs : U.heap.size = w.heap.size + 1 := by rw [hUe]; simp []
  have HUW := Hd (show Abr n₀ g T U p0 st links by rw [hUe]; exact HW.out.below (Aab w _))
  have HUM := Hd (show Moved g w U by rw [hUe]; exact Moved.of_below (Aab w _) (Nat.le_of_lt hlt))
  have HUB := Hd (show U.heap[w.heap.size]? = some (.cells #[.pointer (some ⟨g,0,none⟩)] 194) by rw [hUe]; exact Aae w _)
  gi_wp2_with (first | (gi_at_call 175; refine (hO.calls (Akf p _ HWH.out _)).mono ?_; rintro e w' ⟨rfl,rfl⟩) | (gi_at_call 172; rw [← hUe]; refine (hO.calls (Aiz ⟨p.toArray⟩ (by rw [Acs]; omega) U)).mono ?_; rintro e w3 ⟨v3,rfl,hT3,hb3⟩; (obtain ⟨na,nc,rfl,-,-,-⟩ := hT3.view); have HT3 := Hd hT3; have HB3 := Hd hb3; clear hT3 hb3) | (gi_at_call 176; refine (As4 F hO (n - 1) _ _ _ _).mono ?_; rintro e w4 ⟨rfl,hw4⟩) | fail)
  obtain ⟨N,hNe⟩ : ∃ N,N = Aan (⟨p.toArray⟩ : ByteArray).data.toList := ⟨_,rfl⟩
  have hNp : N = Aan p := hNe
  have hNl : N.length ≤ 100001 := by rw [hNp]; have := Aci p; omega
  rw [← hNe] at HT3 hw4
  try rw [← hNe]
  rw [← hw4]
  obtain ⟨v3,hv3⟩ : ∃ v3,v3 = Value.slice na N.length nc := ⟨_,rfl⟩
  have HT := Hd HT3.out
  rw [← hv3] at HT
  have hs3 := HB3.out.size
  have hs4 : w4.heap.size = w3.heap.size + 1 := by rw [hw4]; simp
  have hb4 : Below w3.heap.size w3 w4 := by rw [hw4]; exact Aab _ _
  have hbU : Below U.heap.size U w4 := HB3.out.trans (hb4.mono hs3)
  have hgU : g < U.heap.size := by omega
  have hown : ∀ k,v3.ownBlock = some k → U.heap.size ≤ k ∧ k < w3.heap.size := fun k hk => ⟨(HT.out.held.own hk).1,by obtain ⟨-,cur,hc⟩ := HT.out.held.own hk; exact (Array.getElem?_eq_some_iff.1 hc).1⟩
  have hrow : Ajj w3.heap.size v3 U.heap.size N w4 := ⟨by rw [hw4,hv3]; exact (Boxed.new w3 61 _).cell,HT.out.held.kept fun k hk => hb4.block k (hown k hk).2⟩
  have hx4 : WayX n₀ g T (fun k => v3.ownBlock = some k ∨ k = w3.heap.size) w4 p0 (st ++ ([] : List (Nat × List UInt8)).map Prod.snd) links := by
   obtain ⟨h0,v,h1,h2⟩ := HUW.out
   refine ⟨h0,v,(hbU.block g hgU).trans h1,?_,fun k hk e => ?_⟩
   ·rw [List.map_nil,List.append_nil]
    exact h2.kept fun k hk => by obtain ⟨-,cur,hc⟩ := h2.own hk; exact hbU.block k (Array.getElem?_eq_some_iff.1 hc).1
   ·obtain ⟨-,cur,hc⟩ := h2.own e
    have h3 := (Array.getElem?_eq_some_iff.1 hc).1
    rcases hk with hk | hk
    ·have h4 := (hown k hk).1
     omega
    ·omega
  have hbx : Boxed w4 w.heap.size 194 (.pointer (some ⟨g,0,none⟩)) := (hbU.block _ (by omega)).trans HUB.out
  have hmv : Moved g w w4 := HUM.out.trans (Moved.of_below hbU (by omega))
  have HX4 := Hd hx4
  have HBX := Hd hbx
  have HMV := Hd hmv
  have HROW := Hd hrow
  have HOWN := Hd hown
  have HNP := Hd hNp
  clear hx4 hbx hmv hrow hown hb4 hbU hNe hNp HT HT3 HB3 HUB HUM HUW hUe hw4 c0 c1 c2 c3 c5 f3 f4
  rw [← hv3]
  clear hv3
  refine wpIn_rangeFunc_ownG hro h1 (gf := 191) (lb := #[.pointer (some ⟨w3.heap.size,0,none⟩)]) rfl (hO.fn _) (enters_of Tryz.func191 (by kernel_rfl) rfl)
   (Ajx F hO (n - 1) (by omega) w3.heap.size U.heap.size v3 N (by omega) w4 (by omega) (fun k hk => by have := (HOWN.out k hk).2; omega) HROW.out) Asl (Asz (by omega) (fun k hk => by have := (HOWN.out k hk).2; omega)) (Below.refl _ _) (fun _ => rfl)
   (fun pre W => WayX n₀ g T (fun k => v3.ownBlock = some k ∨ k = w3.heap.size) W p0 (st ++ pre.map Prod.snd) links ∧ Boxed W w.heap.size 194 (.pointer (some ⟨g,0,none⟩)) ∧ Moved g w W ∧ w4.heap.size ≤ W.heap.size)
   (fun _ _ _ => False)
   (OwnFrom.and (Own.from (Aqc n₀ g T (fun k => v3.ownBlock = some k ∨ k = w3.heap.size) (fun _ => p0) (fun pre : List (Nat × List UInt8) => st ++ pre.map Prod.snd) (fun _ => links)) _) (OwnFrom.and (Own.from (boxed_own _ _ _) _) (OwnFrom.and (Aep (by omega) (by omega)) (fun _ X Y row h hg _ => Nat.le_trans h hg.size))))
   (fun _ _ _ _ _ hs _ _ => hs)
   ⟨HX4.out,HBX.out,HMV.out,Nat.le_refl _⟩
   (fun x => { tmps := #[.pointer (some ⟨g,0,none⟩),.string ⟨p.toArray⟩,.pointer (some ⟨w.heap.size,0,none⟩),undef,undef,.string ⟨x.2.toArray⟩,.string ⟨p.toArray⟩,.bool false,undef,undef,undef,.string ⟨p.toArray⟩,v3,.func (.func 191) #[] #[.pointer (some ⟨w3.heap.size,0,none⟩)],.int .i64 (x.1 : Nat),.string ⟨x.2.toArray⟩,undef,undef,undef,undef,undef,undef,undef,undef,undef,undef],defers := [] }) ?assign ?body ?done ?stop
  case assign =>
   intro l x W K hK
   gi_wp2
   exact hK
  case body =>
   rintro l pre x W ⟨hS,hbx,hmv,HSZW⟩ hltn
   obtain ⟨h0,v,hb,hh,hap⟩ := hS
   have hbc := hbx.cell
   have hvc : W.cell? ⟨g,4,none⟩ = some v := Aal hb rfl
   have hfz : W.frozen? ⟨g,4,none⟩ = false := by simp only [World.frozen?,hb]; simp
   have hgW : g < W.heap.size := (Array.getElem?_eq_some_iff.1 hb).1
   have hsw := hmv.below.size
   have hwW : w.heap.size < W.heap.size := hbx.lt
   have hw := HWIDE.out
   subst hw
   have HH := Hd hh
   have HAP := Hd hap
   have HHB := Hd hb
   have HBX2 := Hd hbx
   have HMV2 := Hd hmv
   have HSZ := Hd (show w4.heap.size ≤ W.heap.size from HSZW)
   have hpl : (pre.map Prod.snd).length < N.length := by simpa using hltn
   clear hh hap hb hbx hmv
   gi_wp2
   refine Ab8 (S := fun W' => W'.cell? ⟨w.heap.size,0,none⟩ = some (.pointer (some ⟨g,0,none⟩))) (by kernel_rfl) (by kernel_rfl) ?_
   have hHeld : W.drew.cell? ⟨w.heap.size,0,none⟩ = some (.pointer (some ⟨g,0,none⟩)) := hbc
   have hAlt : ∀ k,(v3.ownBlock = some k ∨ k = w3.heap.size) → k < W.heap.size := fun k hk => by
    have h3 : w4.heap.size ≤ W.heap.size := HSZ.out
    rcases hk with hk | hk
    ·have := (HOWN.out k hk).2; omega
    ·omega
   have hAne : ∀ k,(v3.ownBlock = some k ∨ k = w3.heap.size) → k ≠ g := fun k hk => by
    rcases hk with hk | hk
    ·have := (HOWN.out k hk).1; omega
    ·omega
   have HNB := Hd (show v.ownBlock ≠ some w.heap.size from fun e => by
    obtain ⟨-,cur,hc⟩ := HH.out.own e
    have h2 : W.heap[w.heap.size]? = _ := HBX2.out
    rw [hc] at h2
    cases h2)
   have HH5 := Hd (show Held n₀ (W.drew.alloc (.cells #[.string ⟨x.2.toArray⟩] 9)) v (st ++ pre.map Prod.snd) from HH.out.kept fun k hk => by
    obtain ⟨-,cur,hc⟩ := HH.out.own hk
    exact Below.heap_alloc W.drew _ k (Array.getElem?_eq_some_iff.1 hc).1)
   refine wpAnyH_take (i := 0) (v := ?_) rfl (by kernel_rfl) (by kernel_rfl) (by kernel_rfl) (fun _ _ _ h => h) (Or.inl ⟨by rfl,?hyf0⟩) hHeld ?restf0
   case hyf0 => intro W hSw; go_simp <;> with_reducible rfl
   try simp only [Act.put,List.setIfInBounds_toArray]
   refine wpAnyH_take (i := 1) (v := ?_) rfl (by kernel_rfl) (by kernel_rfl) (by kernel_rfl) (fun _ _ _ h => h) (Or.inl ⟨by rfl,?hyf1⟩) hHeld ?restf1
   case hyf1 => intro W hSw; go_simp <;> with_reducible rfl
   try simp only [Act.put]
   refine wpAnyH_take (i := 2) (v := ?_) rfl (by kernel_rfl) (by kernel_rfl) (by kernel_rfl) (fun _ _ _ h => h) (Or.inl ⟨by rfl,?hyf2⟩) hHeld ?restf2
   case hyf2 => intro W hSw; go_simp <;> with_reducible rfl
   try simp only [Act.put]
   refine wpAnyH_take (i := 3) (v := ?_) rfl (by kernel_rfl) (by kernel_rfl) (by kernel_rfl) (fun _ _ _ h => h) (Or.inl ⟨by rfl,?hyf3⟩) hHeld ?restf3
   case hyf3 => intro W hSw; go_simp <;> with_reducible rfl
   try simp only [Act.put]
   refine wpAnyH_take (i := 5) (v := ?_) rfl (by kernel_rfl) (by kernel_rfl) (by kernel_rfl) (fun _ _ _ h => h) (Or.inl ⟨by rfl,?hyf5⟩) hHeld ?restf5
   case hyf5 => intro W hSw; go_simp <;> with_reducible rfl
   try simp only [Act.put]
   refine wpAnyH_ready (rs := [4,6]) (by kernel_rfl) (by simp) ?_
   refine AllReadyH.cons rfl (fun K hK => ?_) (AllReadyH.cons rfl (fun K hK => ?_) AllReadyH.nil)
   ·go_simp
    refine hK.out _ _ hHeld (fun hHeld => ?_)
    clear hK K
    try simp only [Act.put,List.setIfInBounds_toArray,List.set_cons_zero,List.set_cons_succ]
    refine wpAnyH_ready (rs := [6]) (by kernel_rfl) (by simp) ?_
    refine AllReadyH.cons rfl (fun K hK => ?_) AllReadyH.nil
    go_simp
    refine hK.out _ _ (Aei hHeld) (fun hHeld => ?_)
    clear hK K
    try simp only [Act.put,List.setIfInBounds_toArray,List.set_cons_zero,List.set_cons_succ]
    refine wpAnyH_ready (rs := [7]) (by kernel_rfl) (by simp) ?_
    refine AllReadyH.cons rfl (fun K hK => ?_) AllReadyH.nil
    refine Ac8 (B := n₀) (v := v) (L := st ++ pre.map Prod.snd) (L2 := [x.2]) (HH5.out) (Aih _ _) (by simp only [List.length_append,List.length_cons,List.length_nil]; omega) (by rw [World.size_alloc]; show n₀ ≤ W.heap.size + 1; omega) rfl _ _ rfl rfl rfl ?_
    intro v' w5 hH5 hg5 hf5
    obtain ⟨va,vl,vc,hv'⟩ : ∃ va vl vc,v' = .slice va vl vc := by
     obtain ⟨va,vc,e,-⟩ := hH5.view
     exact ⟨va,_,vc,e⟩
    subst hv'
    obtain ⟨e1,e2,e3,e4⟩ := Agj h0 HHB.out HH.out HAP.out hAlt hg5 hH5 hf5
    have hc5 : w5.cell? ⟨g,4,none⟩ = some v := (World.cell?_of_block (w := W) (a := ⟨g,4,none⟩) ((hg5.block g (by rw [World.size_alloc]; show g < W.heap.size + 1; omega) (fun e => by have := (HH.out.own e.symm).1; omega)).trans (Below.heap_alloc W.drew _ g hgW))).trans hvc
    have hf5' : w5.frozen? ⟨g,4,none⟩ = false := (World.frozen?_of_block (w := W) (a := ⟨g,4,none⟩) ((hg5.block g (by rw [World.size_alloc]; show g < W.heap.size + 1; omega) (fun e => by have := (HH.out.own e.symm).1; omega)).trans (Below.heap_alloc W.drew _ g hgW))).trans hfz
    have hb5 : w5.cell? ⟨w.heap.size,0,none⟩ = some (.pointer (some ⟨g,0,none⟩)) := (World.cell?_of_block (w := W) (a := ⟨w.heap.size,0,none⟩) ((hg5.block w.heap.size (by rw [World.size_alloc]; show w.heap.size < W.heap.size + 1; omega) (fun e => HNB.out e.symm)).trans (Below.heap_alloc W.drew _ _ hwW))).trans hbc
    have E1 := Hd e1
    have E2 := Hd e2
    have E3 := Hd e3
    have E4 := Hd e4
    clear e1 e2 e3 e4 hg5 hH5 hf5 hvc hfz
    refine hK.out _ _ hb5 (fun hHeld => ?_)
    clear hK K
    try simp only [Act.put,List.setIfInBounds_toArray]
    refine wpAnyH_take (i := 8) (v := ?_) rfl (by kernel_rfl) (by kernel_rfl) (by kernel_rfl) (fun _ _ _ h => h) (Or.inl ⟨by rfl,?hyTAf8⟩) hHeld ?restTAf8
    case hyTAf8 => intro W hSw; go_simp <;> with_reducible rfl
    try simp only [Act.put]
    refine wpAnyH_take (i := 9) (v := ?_) rfl (by kernel_rfl) (by kernel_rfl) (by kernel_rfl) (fun _ _ _ h => h) (Or.inl ⟨by rfl,?hyTAf9⟩) hHeld ?restTAf9
    case hyTAf9 => intro W hSw; go_simp <;> with_reducible rfl
    try simp only [Act.put]
    refine wpAnyH_ready (rs := [10]) (by kernel_rfl) (by simp) ?_
    refine AllReadyH.cons rfl (fun K hK => ?_) AllReadyH.nil
    go_simp
    refine hK.out _ _ ?_ (fun hHeld => ?_)
    ·rw [Af9 (by omega)]; exact hb5
    clear hK K
    refine wpAnyH_done (by kernel_rfl) ⟨rfl,?_⟩ _
    show KeepsFrom w4.heap.size W _ ∧ Ai9 w3.heap.size v3 W _ ∧ WayX _ _ _ _ _ _ _ _ ∧ Boxed _ _ _ _ ∧ Moved g w _ ∧ _
    refine ⟨E1.out.from _,⟨E2.out _ (hAlt _ (Or.inr rfl)) (hAne _ (Or.inr rfl)) (HAP.out _ (Or.inr rfl)),fun k hk => E2.out _ (hAlt _ (Or.inl hk)) (hAne _ (Or.inl hk)) (HAP.out _ (Or.inl hk))⟩,?_,?_,HMV2.out.trans E4.out,Nat.le_trans HSZ.out E1.out.size⟩
    ·rw [List.map_append,← List.append_assoc]; exact E3.out
    ·exact (E2.out _ hwW (by omega) HNB.out).trans HBX2.out
   ·go_simp
    refine hK.out _ _ (Aei hHeld) (fun hHeld => ?_)
    clear hK K
    try simp only [Act.put,List.setIfInBounds_toArray,List.set_cons_zero,List.set_cons_succ]
    have hvc2 := Aei (o := .cells #[.string ⟨x.2.toArray⟩] 9) (w := W.drew) hvc
    refine wpAnyH_ready (rs := [4]) (by kernel_rfl) (by simp) ?_
    refine AllReadyH.cons rfl (fun K hK => ?_) AllReadyH.nil
    go_simp
    refine hK.out _ _ hHeld (fun hHeld => ?_)
    clear hK K hvc2
    try simp only [Act.put,List.setIfInBounds_toArray,List.set_cons_zero,List.set_cons_succ]
    refine wpAnyH_ready (rs := [7]) (by kernel_rfl) (by simp) ?_
    refine AllReadyH.cons rfl (fun K hK => ?_) AllReadyH.nil
    refine Ac8 (B := n₀) (v := v) (L := st ++ pre.map Prod.snd) (L2 := [x.2]) (HH5.out) (Aih _ _) (by simp only [List.length_append,List.length_cons,List.length_nil]; omega) (by rw [World.size_alloc]; show n₀ ≤ W.heap.size + 1; omega) rfl _ _ rfl rfl rfl ?_
    intro v' w5 hH5 hg5 hf5
    obtain ⟨va,vl,vc,hv'⟩ : ∃ va vl vc,v' = .slice va vl vc := by
     obtain ⟨va,vc,e,-⟩ := hH5.view
     exact ⟨va,_,vc,e⟩
    subst hv'
    obtain ⟨e1,e2,e3,e4⟩ := Agj h0 HHB.out HH.out HAP.out hAlt hg5 hH5 hf5
    have hc5 : w5.cell? ⟨g,4,none⟩ = some v := (World.cell?_of_block (w := W) (a := ⟨g,4,none⟩) ((hg5.block g (by rw [World.size_alloc]; show g < W.heap.size + 1; omega) (fun e => by have := (HH.out.own e.symm).1; omega)).trans (Below.heap_alloc W.drew _ g hgW))).trans hvc
    have hf5' : w5.frozen? ⟨g,4,none⟩ = false := (World.frozen?_of_block (w := W) (a := ⟨g,4,none⟩) ((hg5.block g (by rw [World.size_alloc]; show g < W.heap.size + 1; omega) (fun e => by have := (HH.out.own e.symm).1; omega)).trans (Below.heap_alloc W.drew _ g hgW))).trans hfz
    have hb5 : w5.cell? ⟨w.heap.size,0,none⟩ = some (.pointer (some ⟨g,0,none⟩)) := (World.cell?_of_block (w := W) (a := ⟨w.heap.size,0,none⟩) ((hg5.block w.heap.size (by rw [World.size_alloc]; show w.heap.size < W.heap.size + 1; omega) (fun e => HNB.out e.symm)).trans (Below.heap_alloc W.drew _ _ hwW))).trans hbc
    have E1 := Hd e1
    have E2 := Hd e2
    have E3 := Hd e3
    have E4 := Hd e4
    clear e1 e2 e3 e4 hg5 hH5 hf5 hvc hfz
    refine hK.out _ _ hb5 (fun hHeld => ?_)
    clear hK K
    try simp only [Act.put,List.setIfInBounds_toArray]
    refine wpAnyH_take (i := 8) (v := ?_) rfl (by kernel_rfl) (by kernel_rfl) (by kernel_rfl) (fun _ _ _ h => h) (Or.inl ⟨by rfl,?hyTBf8⟩) hHeld ?restTBf8
    case hyTBf8 => intro W hSw; go_simp <;> with_reducible rfl
    try simp only [Act.put]
    refine wpAnyH_take (i := 9) (v := ?_) rfl (by kernel_rfl) (by kernel_rfl) (by kernel_rfl) (fun _ _ _ h => h) (Or.inl ⟨by rfl,?hyTBf9⟩) hHeld ?restTBf9
    case hyTBf9 => intro W hSw; go_simp <;> with_reducible rfl
    try simp only [Act.put]
    refine wpAnyH_ready (rs := [10]) (by kernel_rfl) (by simp) ?_
    refine AllReadyH.cons rfl (fun K hK => ?_) AllReadyH.nil
    go_simp
    refine hK.out _ _ ?_ (fun hHeld => ?_)
    ·rw [Af9 (by omega)]; exact hb5
    clear hK K
    refine wpAnyH_done (by kernel_rfl) ⟨rfl,?_⟩ _
    show KeepsFrom w4.heap.size W _ ∧ Ai9 w3.heap.size v3 W _ ∧ WayX _ _ _ _ _ _ _ _ ∧ Boxed _ _ _ _ ∧ Moved g w _ ∧ _
    refine ⟨E1.out.from _,⟨E2.out _ (hAlt _ (Or.inr rfl)) (hAne _ (Or.inr rfl)) (HAP.out _ (Or.inr rfl)),fun k hk => E2.out _ (hAlt _ (Or.inl hk)) (hAne _ (Or.inl hk)) (HAP.out _ (Or.inl hk))⟩,?_,?_,HMV2.out.trans E4.out,Nat.le_trans HSZ.out E1.out.size⟩
    ·rw [List.map_append,← List.append_assoc]; exact E3.out
    ·exact (E2.out _ hwW (by omega) HNB.out).trans HBX2.out
  case done =>
   rintro D ys W hD hys ⟨hS,hbx,hmv,-⟩ hK
   gi_wp2
   refine ⟨by simp,.inl ⟨_,_,rfl,run_takeDeferred hK,?_⟩⟩
   refine ⟨_,results_none rfl _ _ _,⟨_,rfl⟩,?_,?_⟩
   ·rw [hys,HNP.out] at hS
    exact hS.way.own (grownBy_putObj' W D _) (fun r e => by cases e; exact ⟨_,hK,rfl⟩)
   ·exact Aep (β := Unit) (B := w4.heap.size) (by omega) (by omega) () W _ (some D) hmv (grownBy_putObj' W D _) (fun r e => by cases e; exact ⟨hD,_,hK,rfl⟩)
  case stop =>
   rintro D c pre W _ _ h _
   exact h.elim
attribute [local go_sem] Oper.semAt_some
theorem Ahv (n₀ g : Nat) (T : Value × Value × Value) (p0 links : Int) (st : List (List UInt8)) (p : List UInt8) (hp : p.length ≤ 100000) (hst : st.length ≤ 100000) (w : World) (hn₀ : n₀ ≤ w.heap.size) (hW : Abr n₀ g T w p0 st links) :
  Calls Tryz.prog 153 #[.pointer (some ⟨g,0,none⟩),.string ⟨p.toArray⟩] w fun e w' => (∃ u,e = .returned u) ∧ Abr n₀ g T w' (if Ac3 p then 0 else p0) (st ++ (Aan p).reverse) links ∧ Moved g w w' :=
 callsIn_wide.1 (Axl Fence.wide rfl 4 (Nat.le_refl _) n₀ g T p0 links st p hp hst w hn₀ hW)
theorem Aqa {n₀ g : Nat} {T : Value × Value × Value} {W : World} {p : Int} {st st' : List (List UInt8)} {links : Int} {v' : Value} (h : Abr n₀ g T W p st links) (hv : Held n₀ W v' st') : Abr n₀ g T (W.setCell ⟨g,4,none⟩ v') p st' links := by
 obtain ⟨h0,v,h1,h2⟩ := h
 exact ⟨h0,v',Ag2 h1 4 _,Aik hv h0 4 _⟩
theorem Apm {n₀ g : Nat} {T : Value × Value × Value} {W : World} {p : Int} {st : List (List UInt8)} {links : Int} (h : Abr n₀ g T W p st links) (q : Int) : Abr n₀ g T (W.setCell ⟨g,5,none⟩ (.int .i64 q)) p st q := by
 obtain ⟨h0,v,h1,h2⟩ := h
 exact ⟨h0,v,Ag2 h1 5 _,Aik h2 h0 5 _⟩
theorem Ass (n₀ g : Nat) (T : Value × Value × Value) (p links : Int) (w : World) (hW : Abr n₀ g T w p [] links) :
  Calls Tryz.prog 204 #[.pointer (some ⟨g,0,none⟩)] w fun e w' => e = .returned (.tuple #[.string ⟨#[]⟩,.bool false]) ∧ w' = w := by
 obtain ⟨-,-,-,-,⟨v,c4,hv⟩,-⟩ := Aa6 hW
 obtain ⟨na,nc,rfl,-,-,-⟩ := hv.view
 have hg := hW.lt
 clear hW hv
 go_enter Tryz.func204,Tryz.ntmps204
 go_wp2_with fail
 go_ret2
 exact ⟨rfl,rfl⟩
theorem Ajr (n₀ g : Nat) (T : Value × Value × Value) (p links : Int) (x : List UInt8) (r : List (List UInt8)) (w : World) (hW : Abr n₀ g T w p (x :: r) links) :
  Calls Tryz.prog 204 #[.pointer (some ⟨g,0,none⟩)] w fun e w' => e = .returned (.tuple #[.string ⟨x.toArray⟩,.bool true]) ∧ Abr n₀ g T w' p r links ∧ Moved g w w' := by
 obtain ⟨-,-,-,-,⟨v,c4,hv⟩,-⟩ := Aa6 hW
 have f4 := Abi hW 4
 have hg := hW.lt
 have HW := Hd hW
 obtain ⟨nb,no,nc,rfl,hc1,hc2,hx⟩ := Amo hv.view
 have HT := Hd hv.tail
 unfold maxLen at hc2
 obtain ⟨ta,hta⟩ : ∃ ta,(if nc = 1 then (some ⟨nb,no,none⟩ : Option Addr) else some ⟨nb,no + 1,none⟩) = ta := ⟨_,rfl⟩
 have ht2 := HT.out
 rw [hta] at ht2
 have HT2 := Hd ht2
 have hi1 : (1 : Int) ≤ ((r.length : Int) + 1) := by omega
 have hi2 : ((r.length : Int) + 1) ≤ (nc : Int) := by omega
 have hi3 : (0 : Int) < ((r.length : Int) + 1) := by omega
 have hi4 : (((r.length : Int) + 1) == 0) = false := by rw [beq_eq_false_iff_ne]; omega
 clear hW hv HT ht2
 go_enter Tryz.func204,Tryz.ntmps204
 go_wp2_with fail
 go_ret2
 exact ⟨rfl,Aqa HW.out HT2.out,Moved.set w 4 _⟩
theorem Atl (F : Fence) (hF : Open F) (n : Nat) (g : Nat) (w : World) :
  CallsIn F n Tryz.prog 177 #[.pointer (some ⟨g,0,none⟩)] w fun e w' => e = .returned (.func (.func 192) #[] #[.pointer (some ⟨w.heap.size,0,none⟩)]) ∧ w' = w.alloc (.cells #[.pointer (some ⟨g,0,none⟩)] 194) := by
 have hro : F.round = none := hF.ro
 refine callsIn_of_wp Tryz.func177 rfl (hF.fn _) ?_ hro
 simp only [Tryz.ntmps177,List.size_toArray,List.length_cons,List.length_nil,Nat.reduceAdd,Nat.reduceSub,Array.replicate_succ,Array.replicate_zero,List.push_toArray,List.append_toArray,List.nil_append,List.cons_append]
 gi_wp2
 go_ret
 exact ⟨rfl,rfl⟩
end Go.Proofs.YtkdfbliiblojoaaGreatDoor
