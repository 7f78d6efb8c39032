import Derived.Test.YtkdfbliiblojoaaGreatDoorK29
set_option linter.all false
set_option maxRecDepth 100000
set_option maxHeartbeats 64000000
namespace Go.Proofs.YtkdfbliiblojoaaGreatDoor
open Go Go.RowKit Go.Shelf
attribute [local go_sem] Oper.semAt_some
structure EndB (g B : Nat) (last : Bool) (err : Int) (w W : World) : Prop where
 b1 : W.heap[B]? = some (.cells #[.pointer (some ⟨g,0,none⟩)] 194 (0,0))
 b2 : W.heap[B + 1]? = some (.cells #[.bool last] 4 (0,0))
 b3 : W.heap[B + 2]? = some (.cells #[.int .i64 err] 34 (0,0))
 b4 : W.heap[B + 3]? = some (.cells #[.pointer (some ⟨g,0,none⟩)] 194 (0,0))
 moved : Moved g w W
theorem EndB.step {g B : Nat} {last : Bool} {err : Int} {w W W' : World} (h : EndB g B last err w W) (hg : g < B) (hm : Moved g W W') : EndB g B last err w W' :=
 ⟨hm.kept _ _ h.b1 (by omega) rfl,hm.kept _ _ h.b2 (by omega) rfl,hm.kept _ _ h.b3 (by omega) rfl,hm.kept _ _ h.b4 (by omega) rfl,h.moved.trans hm⟩
theorem Aic {β : Type} {M g B : Nat} {last : Bool} {err : Int} {w : World} (hw : w.heap.size ≤ M) (hg : g ≤ w.heap.size) : OwnFrom M (fun (_ : β) W => EndB g B last err w W) := fun s X Y row h hgr hr => by
 have hc := fun r e => (hr r e).2
 exact ⟨(grownBy_keeps_cells hgr hc h.b1 rfl).trans h.b1,(grownBy_keeps_cells hgr hc h.b2 rfl).trans h.b2,(grownBy_keeps_cells hgr hc h.b3 rfl).trans h.b3,(grownBy_keeps_cells hgr hc h.b4 rfl).trans h.b4,Aep (β := β) hw hg s X Y row h.moved hgr hr⟩
theorem EndB.setErr {g B : Nat} {last : Bool} {err : Int} {w W : World} (h : EndB g B last err w W) (hg : g < B) (hw : w.heap.size ≤ B) (e : Int) : EndB g B last e w (W.setCell ⟨B + 2,0,none⟩ (.int .i64 e)) := by
 have ho : ∀ k,k ≠ B + 2 → (W.setCell ⟨B + 2,0,none⟩ (.int .i64 e)).heap[k]? = W.heap[k]? := fun k hk => Below.heap_setCell W ⟨B + 2,0,none⟩ _ k hk
 refine ⟨(ho _ (by omega)).trans h.b1,(ho _ (by omega)).trans h.b2,Ag2 h.b3 0 _,(ho _ (by omega)).trans h.b4,⟨h.moved.below.setCell (p := ⟨B + 2,0,none⟩) (show g ≤ B + 2 by omega) _,fun k o hk hne hno => ?_⟩⟩
 have hlt : k < w.heap.size := (Array.getElem?_eq_some_iff.1 hk).1
 exact (ho k (by omega)).trans (h.moved.kept k o hk hne hno)
theorem Afo {n₀ g : Nat} {T : Value × Value × Value} {W : World} {p : Int} {st : List (List UInt8)} {links : Int} {b i : Nat} {t : TypeId} {c : Array Value} {u : Value} (h : Abr n₀ g T W p st links) (hb : W.heap[b]? = some (.cells c t (0,0))) (hne : b ≠ g) (ht : t ≠ 9) : Abr n₀ g T (W.setCell ⟨b,i,none⟩ u) p st links := by
 obtain ⟨h0,v,h1,h2⟩ := h
 refine ⟨h0,v,(Below.heap_setCell W ⟨b,i,none⟩ u g (fun e => hne e.symm)).trans h1,h2.kept fun k hk => Below.heap_setCell W ⟨b,i,none⟩ u k (fun e => ?_)⟩
 obtain ⟨-,cur,hc⟩ := h2.own hk
 have e' : k = b := e
 subst e'
 rw [hb] at hc
 cases hc
 exact ht rfl
theorem Abx {W : World} {b i : Nat} {c : Array Value} {t : TypeId} (h : W.heap[b]? = some (.cells c t (0,0))) : W.frozen? ⟨b,i,none⟩ = false := by
 simp only [World.frozen?,h]
 simp
theorem Acz {W W' : World} (h : Below W.heap.size W W') : KeepsOthers W W' := ⟨h.size,fun k _o hk _ => (h.block k (Array.getElem?_eq_some_iff.1 hk).1).trans hk⟩
theorem Aoo {g : Nat} {W W' : World} {c : Array Value} {t : TypeId} {fr : Nat × Nat} (hg : W.heap[g]? = some (.cells c t fr)) (h : Moved g W W') : KeepsOthers W W' := ⟨h.below.size,fun k o hk ho => by
 refine h.kept k o hk (fun e => ?_) (Avq ho)
 subst e
 rw [hg] at hk
 cases hk
 cases ho⟩
def GhE (L : List Ino) (last : Bool) (R : Int × Int) (k : Nat) (N : List (List UInt8)) (p : Int) : Prop := k ≤ 8 ∧ N.length ≤ 5000 + k * 2000 ∧ R = wayW L last (8 - k) N p
theorem Bal (F : Fence) (hwide : F = Fence.wide) (n : Nat) (hn : 5 ≤ n) (n₀ g : Nat) (a : Option Addr) (cap : Nat) (m b : Int) (p0 : Int) (N0 : List (List UInt8)) (hN0 : N0.length ≤ 5000) (last : Bool) (L : List Ino) (hF : FitP L m b)
  (w0 : World) (hN : Aah w0 a cap L) (hw0 : w0.heap.size ≤ g) (w : World) (hb0 : Below w0.heap.size w0 w) (hn₀ : n₀ ≤ w.heap.size) (hW : Abr n₀ g (.slice a L.length cap,.int .i64 m,.int .i64 b) w p0 N0.reverse 0) :
  CallsIn F n Tryz.prog 154 #[.pointer (some ⟨g,0,none⟩),.bool last] w fun e w' => (∃ z : Int,e = .returned (.tuple #[.int .i64 z,.int .i64 (wayW L last 8 N0 p0).2]) ∧ ((wayW L last 8 N0 p0).2 = 0 → z = (wayW L last 8 N0 p0).1)) ∧ Moved g w w' := by
 have hO : Open F := by rw [hwide]; exact Agx
 have hro : F.round = none := hO.ro
 have h43 : F.fn 177 := hO.fn _
 have h44 : F.fn 178 := hO.fn _
 have h26 : F.fn 155 := hO.fn _
 have h24 : F.fn 153 := hO.fn _
 have h1 : 1 ≤ n := by omega
 have h3 : 1 ≤ n - 1 - 1 := by omega
 have hlt := hW.lt
 have HW := Hd hW
 have HF := Hd hF
 have HN := Hd hN
 have HB0 := Hd hb0
 obtain ⟨R,hR⟩ : ∃ R,R = wayW L last 8 N0 p0 := ⟨_,rfl⟩
 rw [← hR]
 have HR := Hd hR
 have HWIDE := Hd hwide
 clear hW hwide hF hN hb0 hR
 refine callsIn_of_wp_marks Tryz.func154 rfl (hO.fn _) ?_ hro
 simp only [Tryz.ntmps154,List.size_toArray,List.length_cons,List.length_nil,Nat.reduceAdd,Nat.reduceSub,Array.replicate_succ,Array.replicate_zero,List.push_toArray,List.append_toArray,List.nil_append,List.cons_append]
 gi_wp2
 refine Axd hro ?_
 gi_wp2
 refine wpIn_label ?_
 gi_wp2_with (first | (gi_at_call 177; refine (Atl F hO (n - 1) g _).mono ?_; rintro e w4 ⟨rfl,hw4⟩) | fail)
 rw [← hw4]
 obtain ⟨B,hB⟩ : ∃ B,B = w.heap.size := ⟨_,rfl⟩
 have hs4 : w4.heap.size = B + 4 := by rw [hw4,hB]; simp
 have hb4 : Below w.heap.size w w4 := by
  rw [hw4]
  exact (((Aab w _).alloc (by simp) _).alloc (by simp; omega) _).alloc (by simp; omega) _
 have hend : EndB g B last 0 w w4 := by
  have e1 : (w.alloc (.cells #[.pointer (some ⟨g,0,none⟩)] 194)).heap.size = B + 1 := by simp [hB]
  have e2 : ((w.alloc (.cells #[.pointer (some ⟨g,0,none⟩)] 194)).alloc (.cells #[.bool last] 4)).heap.size = B + 2 := by simp [hB]
  have e3 : (((w.alloc (.cells #[.pointer (some ⟨g,0,none⟩)] 194)).alloc (.cells #[.bool last] 4)).alloc (.cells #[.int .i64 0] 34)).heap.size = B + 3 := by simp [hB]
  refine ⟨?_,?_,?_,?_,Moved.of_below hb4 (Nat.le_of_lt hlt)⟩
  ·rw [hw4,Below.heap_alloc _ _ _ (by rw [e3]; omega),Below.heap_alloc _ _ _ (by rw [e2]; omega),Below.heap_alloc _ _ _ (by rw [e1]; omega),hB]
   exact Aae w _
  ·have h := Aae (w.alloc (.cells #[.pointer (some ⟨g,0,none⟩)] 194)) (.cells #[.bool last] 4)
   rw [e1] at h
   rw [hw4,Below.heap_alloc _ _ _ (by rw [e3]; omega),Below.heap_alloc _ _ _ (by rw [e2]; omega)]
   exact h
  ·have h := Aae ((w.alloc (.cells #[.pointer (some ⟨g,0,none⟩)] 194)).alloc (.cells #[.bool last] 4)) (.cells #[.int .i64 0] 34)
   rw [e2] at h
   rw [hw4,Below.heap_alloc _ _ _ (by rw [e3]; omega)]
   exact h
  ·have h := Aae (((w.alloc (.cells #[.pointer (some ⟨g,0,none⟩)] 194)).alloc (.cells #[.bool last] 4)).alloc (.cells #[.int .i64 0] 34)) (.cells #[.pointer (some ⟨g,0,none⟩)] 194)
   rw [e3] at h
   rw [hw4]
   exact h
 have HEB := Hd hend
 have HW4 := Hd (HW.out.below hb4)
 have hgB : g < B := by omega
 have hwB : w.heap.size ≤ B := by omega
 have HBW := Hd hB
 clear hw4 hend hb4
 have hp4 : Value.pointer (some ⟨w.heap.size + 1 + 1 + 1,0,none⟩) = .pointer (some ⟨B + 3,0,none⟩) := by rw [hB]
 rw [← hB]
 rw [← hB] at hp4
 clear hB
 refine Awg hro h1 (gf := 192) (lb := #[.pointer (some ⟨B + 3,0,none⟩)]) (by first | rfl | exact congrArg _ hp4) (hO.fn _) (enters_of Tryz.func192 (by kernel_rfl) rfl)
  (An3 F HWIDE.out (n - 1) (by omega) n₀ g (B + 3) (.slice a L.length cap,.int .i64 m,.int .i64 b) (fun W => EndB g B last 0 w W ∧ w4.heap.size ≤ W.heap.size) (GhE L last R) (fun k N p h => by have := h.2.1; have := h.1; omega)
   (fun W h => Aal h.1.b4 rfl) (fun W v h => ⟨(h.1.step hgB (Moved.set W 4 v)).step hgB ⟨⟨rfl,rfl,rfl,Nat.le_refl _,fun _ _ => rfl⟩,fun _ _ h _ _ => h⟩,by show w4.heap.size ≤ (W.setCell ⟨g,4,none⟩ v).heap.size; rw [Adl]; exact h.2⟩) ⟨[],N0,p0,0⟩) (fun _ => rfl)
  (fun c W => c = .exit 0 ∧ (∃ (q k : Int) (st : List (List UInt8)),Abr n₀ g (.slice a L.length cap,.int .i64 m,.int .i64 b) W q st k) ∧ EndB g B last R.2 w W ∧ R.2 ≠ 0)
  (fun s X Y row h hg hr => ⟨h.1.own hg (fun r e => (hr r e).2),⟨Aic (β := Unit) (by omega) (by omega) () X Y row h.2.1.1 hg hr,Nat.le_trans h.2.1.2 hg.size⟩,h.2.2⟩)
  (fun s X Y row h hg hr => ⟨h.1.own hg (fun r e => (hr r e).2),⟨Aic (β := Unit) (by omega) (by omega) () X Y row h.2.1.1 hg hr,Nat.le_trans h.2.1.2 hg.size⟩,h.2.2⟩)
  (fun c s X Y row h hg hr => ⟨h.1,by obtain ⟨q,k,st,h2⟩ := h.2.1; exact ⟨q,k,st,h2.own hg (fun r e => (hr r e).2)⟩,Aic (β := Unit) (by omega) (by omega) () X Y row h.2.2.1 hg hr,h.2.2.2⟩)
  (fun s X Y row ⟨s',h0,h⟩ hg hr => ⟨s',h0,h.1.own hg (fun r e => (hr r e).2),⟨Aic (β := Unit) (by omega) (by omega) () X Y row h.2.1.1 hg hr,Nat.le_trans h.2.1.2 hg.size⟩,h.2.2⟩)
  ⟨HW4.out,⟨HEB.out,Nat.le_refl _⟩,⟨show (0 : Nat) ≤ 8 by omega,show N0.length ≤ 5000 + 0 * 2000 by omega,HR.out⟩⟩
  (fun s => { tmps := #[.pointer (some ⟨g,0,none⟩),.bool last,.pointer (some ⟨B,0,none⟩),.pointer (some ⟨B + 1,0,none⟩),.int .i64 0,.int .i64 0,.pointer (some ⟨B + 1 + 1,0,none⟩),.string ⟨s.x.toArray⟩,undef,.pointer (some ⟨g,0,none⟩),.func (.func 192) #[] #[.pointer (some ⟨B + 1 + 1 + 1,0,none⟩)],.string ⟨s.x.toArray⟩,undef,undef,undef,undef,undef,undef,undef,undef,undef,undef,undef,undef,undef,undef,undef,undef,undef,undef,undef,undef,undef,undef,undef,undef,undef,undef,undef,undef,undef,undef,undef,undef,undef,undef,undef,undef,undef,undef,undef,undef,undef,undef,undef,undef,undef,undef,undef,undef,undef,undef,undef,undef,undef,undef,undef,undef,undef,undef,undef,undef,undef,undef],defers := [] }) ?assign ?body ?done ?stop
 case assign =>
  intro l s W K hK
  gi_wp2
  exact hK
 case body =>
  rintro l ⟨x,N,p,k⟩ W ⟨hway,⟨heb,hsz⟩,hk,hNl,hRw⟩
  simp only at hway hk hNl hRw
  simp only [List.length_cons] at hNl
  have hw := HWIDE.out
  subst hw
  have hNW : Aah W a cap L := HN.out.below (HB0.out.trans (heb.moved.below.mono hw0))
  have b1c : W.cell? ⟨B,0,none⟩ = some (.pointer (some ⟨g,0,none⟩)) := Aal heb.b1 rfl
  have HNW := Hd hNW
  have HWAY := Hd hway
  have HEN := Hd heb
  have HRW := Hd hRw
  obtain ⟨z,hz⟩ : ∃ z,z = (Ack L p x).1 := ⟨_,rfl⟩
  obtain ⟨er,her⟩ : ∃ er,er = (Ack L p x).2 := ⟨_,rfl⟩
  have HST := Hd (show Ack L p x = (z,er) by rw [hz,her])
  have HCALL := Hd (show Calls Tryz.prog 178 #[.pointer (some ⟨g,0,none⟩),.string ⟨x.toArray⟩] W fun e w' => e = .returned (.tuple #[.int .i64 z,.int .i64 er]) ∧ Below W.heap.size W w' by
   have h := Ar8 n₀ g a cap m b p k N.reverse x L HF.out W HNW.out HWAY.out
   rw [HST.out] at h
   exact h)
  have hgW := hway.lt
  clear hz her hNW hway heb hRw
  have HSZ := Hd hsz
  have hBW : B + 4 ≤ W.heap.size := by omega
  have hkw : ((8 - k) + k = 8) ∧ k ≤ 8 := ⟨by omega,hk⟩
  cases he : (er != 0) with
  | true =>
   have hne : er ≠ 0 := by simpa using he
   have HR2 := Hd (show R.2 = er by rw [HRW.out,Aos _ _ _ _ _ _ (by rw [HST.out]; exact hne),HST.out])
   have HNE := Hd hne
   clear hne
   gi_wp2_with (first | (gi_at_call 178; refine (CallsIn.inRound l (hO.calls HCALL.out)).mono ?_; rintro e W2 ⟨rfl,hb2⟩; have HB2 := Hd hb2; have hs2 := hb2.size; clear hb2; have HEB2 := Hd (HEN.out.step hgB (Moved.of_below HB2.out (Nat.le_of_lt hgW))); have HWAY2 := Hd (HWAY.out.below HB2.out); have b3c : W2.cell? ⟨B + 1 + 1,0,none⟩ = some (.int .i64 0) := Aal HEB2.out.b3 rfl; have b3f : W2.frozen? ⟨B + 1 + 1,0,none⟩ = false := Abx HEB2.out.b3) | fail)
   exact ⟨((Acz HB2.out).trans (KeepsOthers.setCell W2 _ _)).from _,rfl,⟨p,k,N.reverse,Afo HWAY2.out HEB2.out.b3 (by omega) (by decide)⟩,by rw [HR2.out]; exact HEB2.out.setErr hgB hwB er,by rw [HR2.out]; exact HNE.out⟩
  | false =>
   have hz0 : er = 0 := by simpa using he
   subst hz0
   have hlive := Anq HF.out (show (Ack L p x).2 = 0 by rw [HST.out])
   rw [HST.out] at hlive
   obtain ⟨u,hu,hul⟩ := Aa7 (Adv hlive)
   have hzu : z = (u : Int) := hu
   subst hzu
   have hkl : Aet L (u : Int) = L[u].kind := by
    unfold Aet
    rw [Adv hlive,if_pos rfl,Aad L u hul]
   have HKL := Hd hkl
   have HND := Hd (Aad L u hul)
   clear hkl hlive hu he
   cases hk3 : (L[u].kind != 3) with
   | true =>
    have HGO := Hd (show R = wayW L last (8 - k) N (u : Int) by rw [HRW.out,Ako _ _ _ _ _ _ _ HST.out (Or.inl (by rw [HND.out]; simpa using hk3))])
    gi_wp2_with (first | (gi_at_call 178; refine (CallsIn.inRound l (hO.calls HCALL.out)).mono ?_; rintro e W2 ⟨rfl,hb2⟩; have HB2 := Hd hb2; have hs2 := hb2.size; clear hb2; have HEB2 := Hd (HEN.out.step hgB (Moved.of_below HB2.out (Nat.le_of_lt hgW))); have HWAY2 := Hd (HWAY.out.below HB2.out); have b3c : W2.cell? ⟨B + 1 + 1,0,none⟩ = some (.int .i64 0) := Aal HEB2.out.b3 rfl; have b3f : W2.frozen? ⟨B + 1 + 1,0,none⟩ = false := Abx HEB2.out.b3; have HEB3 := Hd (show EndB g B last 0 w (W2.setCell ⟨B + 1 + 1,0,none⟩ (.int .i64 0)) from HEB2.out.setErr hgB hwB 0); have HWAY3 := Hd (show Abr n₀ g (.slice a L.length cap,.int .i64 m,.int .i64 b) (W2.setCell ⟨B + 1 + 1,0,none⟩ (.int .i64 0)) p N.reverse k from Afo HWAY2.out HEB2.out.b3 (by omega) (by decide)); have d1 : (W2.setCell ⟨B + 1 + 1,0,none⟩ (.int .i64 0)).cell? ⟨B,0,none⟩ = some (.pointer (some ⟨g,0,none⟩)) := Aal HEB3.out.b1 rfl; (obtain ⟨d2,d3,d4,-,-,-⟩ := Aa6 HWAY3.out); have d5 : (W2.setCell ⟨B + 1 + 1,0,none⟩ (.int .i64 0)).cell? ⟨B + 1 + 1,0,none⟩ = some (.int .i64 0) := Aal HEB3.out.b3 rfl; have HNW3 := Hd (show Aah (W2.setCell ⟨B + 1 + 1,0,none⟩ (.int .i64 0)) a cap L from HN.out.below (HB0.out.trans (HEB3.out.moved.below.mono hw0))); have hs3 : (W2.setCell ⟨B + 1 + 1,0,none⟩ (.int .i64 0)).heap.size = W2.heap.size := Adl W2 _ _) | (gi_at_call 155; refine (CallsIn.inRound l (hO.calls (Aaw a cap m b (u : Int) L L[u].kind HKL.out _ HNW3.out))).mono ?_; rintro e W4 ⟨rfl,hb4⟩; have HB4 := Hd hb4; have hs5 := hb4.size; clear hb4 d1 d2 d3 d4 d5 b3c b3f; have hg3 : g < (W2.setCell ⟨B + 1 + 1,0,none⟩ (.int .i64 0)).heap.size := HWAY3.out.lt; have HEB4 := Hd (HEB3.out.step hgB (Moved.of_below HB4.out (Nat.le_of_lt hg3))); have HWAY4 := Hd (HWAY3.out.below HB4.out); have e1 : W4.cell? ⟨B,0,none⟩ = some (.pointer (some ⟨g,0,none⟩)) := Aal HEB4.out.b1 rfl; have e2 : W4.cell? ⟨B + 1,0,none⟩ = some (.bool last) := Aal HEB4.out.b2 rfl; have e3 : W4.cell? ⟨B + 1 + 1,0,none⟩ = some (.int .i64 0) := Aal HEB4.out.b3 rfl; have e4 : W4.frozen? ⟨B + 1 + 1,0,none⟩ = false := Abx HEB4.out.b3; have f3 := Abi HWAY4.out 3; have f5 := Abi HWAY4.out 5; (obtain ⟨c0,c1,c2,c3,⟨v4,c4,hv4⟩,c5⟩ := Aa6 HWAY4.out); (obtain ⟨va,vc,rfl,-,-,-⟩ := hv4.view); have HKO := Hd ((Acz HB2.out).trans ((KeepsOthers.setCell W2 ⟨B + 1 + 1,0,none⟩ (.int .i64 0)).trans (Acz HB4.out))); have HNW4 := Hd (HNW3.out.below HB4.out); clear hv4) | fail)
    exact ⟨(HKO.out.trans (KeepsOthers.setCell W4 _ _)).from _,⟨x,N,(u : Int),k⟩,Nat.le_refl _,Alb HWAY4.out u,⟨HEB4.out.step hgB (Moved.set W4 3 _),by rw [Adl]; exact Nat.le_trans HSZ.out HKO.out.size⟩,hk,by show N.length ≤ 5000 + k * 2000; omega,HGO.out⟩
   | false =>
    have hk3' : L[u].kind = 3 := by simpa using hk3
    by_cases hlast : N = [] ∧ last = false
    ·have HLN := Hd hlast.1
     have HLL := Hd hlast.2
     clear hlast
     have HGO := Hd (show R = wayW L last (8 - k) N (u : Int) by rw [HRW.out,Ako _ _ _ _ _ _ _ HST.out (Or.inr ⟨HLN.out,HLL.out⟩)])
     gi_wp2_with (first | (gi_at_call 178; refine (CallsIn.inRound l (hO.calls HCALL.out)).mono ?_; rintro e W2 ⟨rfl,hb2⟩; have HB2 := Hd hb2; have hs2 := hb2.size; clear hb2; have HEB2 := Hd (HEN.out.step hgB (Moved.of_below HB2.out (Nat.le_of_lt hgW))); have HWAY2 := Hd (HWAY.out.below HB2.out); have b3c : W2.cell? ⟨B + 1 + 1,0,none⟩ = some (.int .i64 0) := Aal HEB2.out.b3 rfl; have b3f : W2.frozen? ⟨B + 1 + 1,0,none⟩ = false := Abx HEB2.out.b3; have HEB3 := Hd (show EndB g B last 0 w (W2.setCell ⟨B + 1 + 1,0,none⟩ (.int .i64 0)) from HEB2.out.setErr hgB hwB 0); have HWAY3 := Hd (show Abr n₀ g (.slice a L.length cap,.int .i64 m,.int .i64 b) (W2.setCell ⟨B + 1 + 1,0,none⟩ (.int .i64 0)) p N.reverse k from Afo HWAY2.out HEB2.out.b3 (by omega) (by decide)); have d1 : (W2.setCell ⟨B + 1 + 1,0,none⟩ (.int .i64 0)).cell? ⟨B,0,none⟩ = some (.pointer (some ⟨g,0,none⟩)) := Aal HEB3.out.b1 rfl; (obtain ⟨d2,d3,d4,-,-,-⟩ := Aa6 HWAY3.out); have d5 : (W2.setCell ⟨B + 1 + 1,0,none⟩ (.int .i64 0)).cell? ⟨B + 1 + 1,0,none⟩ = some (.int .i64 0) := Aal HEB3.out.b3 rfl; have HNW3 := Hd (show Aah (W2.setCell ⟨B + 1 + 1,0,none⟩ (.int .i64 0)) a cap L from HN.out.below (HB0.out.trans (HEB3.out.moved.below.mono hw0))); have hs3 : (W2.setCell ⟨B + 1 + 1,0,none⟩ (.int .i64 0)).heap.size = W2.heap.size := Adl W2 _ _) | (gi_at_call 155; refine (CallsIn.inRound l (hO.calls (Aaw a cap m b (u : Int) L L[u].kind HKL.out _ HNW3.out))).mono ?_; rintro e W4 ⟨rfl,hb4⟩; have HB4 := Hd hb4; have hs5 := hb4.size; clear hb4 d1 d2 d3 d4 d5 b3c b3f; have hg3 : g < (W2.setCell ⟨B + 1 + 1,0,none⟩ (.int .i64 0)).heap.size := HWAY3.out.lt; have HEB4 := Hd (HEB3.out.step hgB (Moved.of_below HB4.out (Nat.le_of_lt hg3))); have HWAY4 := Hd (HWAY3.out.below HB4.out); have e1 : W4.cell? ⟨B,0,none⟩ = some (.pointer (some ⟨g,0,none⟩)) := Aal HEB4.out.b1 rfl; have e2 : W4.cell? ⟨B + 1,0,none⟩ = some (.bool last) := Aal HEB4.out.b2 rfl; have e3 : W4.cell? ⟨B + 1 + 1,0,none⟩ = some (.int .i64 0) := Aal HEB4.out.b3 rfl; have e4 : W4.frozen? ⟨B + 1 + 1,0,none⟩ = false := Abx HEB4.out.b3; have f3 := Abi HWAY4.out 3; have f5 := Abi HWAY4.out 5; (obtain ⟨c0,c1,c2,c3,⟨v4,c4,hv4⟩,c5⟩ := Aa6 HWAY4.out); (obtain ⟨va,vc,rfl,-,-,-⟩ := hv4.view); have HKO := Hd ((Acz HB2.out).trans ((KeepsOthers.setCell W2 ⟨B + 1 + 1,0,none⟩ (.int .i64 0)).trans (Acz HB4.out))); have HNW4 := Hd (HNW3.out.below HB4.out); clear hv4; simp only [List.length_reverse] at c4; (have e5 := e2); rw [HLL.out] at e5; rw [HLN.out,List.length_nil] at c4; clear e2) | fail)
     exact ⟨(HKO.out.trans (KeepsOthers.setCell W4 _ _)).from _,⟨x,N,(u : Int),k⟩,Nat.le_refl _,Alb HWAY4.out u,⟨HEB4.out.step hgB (Moved.set W4 3 _),by rw [Adl]; exact Nat.le_trans HSZ.out HKO.out.size⟩,hk,by show N.length ≤ 5000 + k * 2000; omega,HGO.out⟩
    ·have HNL := Hd (show ¬ ((Aaf L (u : Int)).kind ≠ 3 ∨ (N = [] ∧ last = false)) from fun h => by
      rcases h with h | h
      ·exact h (by rw [HND.out]; exact hk3')
      ·exact hlast h)
     have hcase : (N = [] ∧ last = true) ∨ ((N.length : Int) == 0) = false := by
      by_cases hr0 : N = []
      ·subst hr0
       cases last with
       | true => exact Or.inl ⟨rfl,rfl⟩
       | false => exact absurd ⟨rfl,rfl⟩ hlast
      ·refine Or.inr ?_
       rw [beq_eq_false_iff_ne]
       exact fun e => hr0 (List.length_eq_zero_iff.1 (by omega))
     clear hlast
     by_cases hk8 : k = 8
     ·have HK8 := Hd (show (k : Int) = 8 by omega)
      have HW := Hd (show R = (0,40) by rw [HRW.out,show 8 - k = 0 by omega]; exact Amp _ _ _ _ _ _ HST.out HNL.out)
      rcases hcase with ⟨hln,hll⟩ | hrl
      rotate_left
      ·gi_wp2_with (first | (gi_at_call 178; refine (CallsIn.inRound l (hO.calls HCALL.out)).mono ?_; rintro e W2 ⟨rfl,hb2⟩; have HB2 := Hd hb2; have hs2 := hb2.size; clear hb2; have HEB2 := Hd (HEN.out.step hgB (Moved.of_below HB2.out (Nat.le_of_lt hgW))); have HWAY2 := Hd (HWAY.out.below HB2.out); have b3c : W2.cell? ⟨B + 1 + 1,0,none⟩ = some (.int .i64 0) := Aal HEB2.out.b3 rfl; have b3f : W2.frozen? ⟨B + 1 + 1,0,none⟩ = false := Abx HEB2.out.b3; have HEB3 := Hd (show EndB g B last 0 w (W2.setCell ⟨B + 1 + 1,0,none⟩ (.int .i64 0)) from HEB2.out.setErr hgB hwB 0); have HWAY3 := Hd (show Abr n₀ g (.slice a L.length cap,.int .i64 m,.int .i64 b) (W2.setCell ⟨B + 1 + 1,0,none⟩ (.int .i64 0)) p N.reverse k from Afo HWAY2.out HEB2.out.b3 (by omega) (by decide)); have d1 : (W2.setCell ⟨B + 1 + 1,0,none⟩ (.int .i64 0)).cell? ⟨B,0,none⟩ = some (.pointer (some ⟨g,0,none⟩)) := Aal HEB3.out.b1 rfl; (obtain ⟨d2,d3,d4,-,-,-⟩ := Aa6 HWAY3.out); have d5 : (W2.setCell ⟨B + 1 + 1,0,none⟩ (.int .i64 0)).cell? ⟨B + 1 + 1,0,none⟩ = some (.int .i64 0) := Aal HEB3.out.b3 rfl; have HNW3 := Hd (show Aah (W2.setCell ⟨B + 1 + 1,0,none⟩ (.int .i64 0)) a cap L from HN.out.below (HB0.out.trans (HEB3.out.moved.below.mono hw0))); have hs3 : (W2.setCell ⟨B + 1 + 1,0,none⟩ (.int .i64 0)).heap.size = W2.heap.size := Adl W2 _ _) | (gi_at_call 155; refine (CallsIn.inRound l (hO.calls (Aaw a cap m b (u : Int) L L[u].kind HKL.out _ HNW3.out))).mono ?_; rintro e W4 ⟨rfl,hb4⟩; have HB4 := Hd hb4; have hs5 := hb4.size; clear hb4 d1 d2 d3 d4 d5 b3c b3f; have hg3 : g < (W2.setCell ⟨B + 1 + 1,0,none⟩ (.int .i64 0)).heap.size := HWAY3.out.lt; have HEB4 := Hd (HEB3.out.step hgB (Moved.of_below HB4.out (Nat.le_of_lt hg3))); have HWAY4 := Hd (HWAY3.out.below HB4.out); have e1 : W4.cell? ⟨B,0,none⟩ = some (.pointer (some ⟨g,0,none⟩)) := Aal HEB4.out.b1 rfl; have e2 : W4.cell? ⟨B + 1,0,none⟩ = some (.bool last) := Aal HEB4.out.b2 rfl; have e3 : W4.cell? ⟨B + 1 + 1,0,none⟩ = some (.int .i64 0) := Aal HEB4.out.b3 rfl; have e4 : W4.frozen? ⟨B + 1 + 1,0,none⟩ = false := Abx HEB4.out.b3; have f3 := Abi HWAY4.out 3; have f5 := Abi HWAY4.out 5; (obtain ⟨c0,c1,c2,c3,⟨v4,c4,hv4⟩,c5⟩ := Aa6 HWAY4.out); (obtain ⟨va,vc,rfl,-,-,-⟩ := hv4.view); have HKO := Hd ((Acz HB2.out).trans ((KeepsOthers.setCell W2 ⟨B + 1 + 1,0,none⟩ (.int .i64 0)).trans (Acz HB4.out))); have HNW4 := Hd (HNW3.out.below HB4.out); clear hv4; simp only [List.length_reverse] at c4; rw [HK8.out] at c5) | fail)
       exact ⟨(HKO.out.trans (KeepsOthers.setCell W4 _ _)).from _,rfl,⟨p,k,_,Afo HWAY4.out HEB4.out.b3 (by omega) (by decide)⟩,by rw [HW.out]; exact HEB4.out.setErr hgB hwB 40,by rw [HW.out]; decide⟩
      ·have HLN := Hd hln
       have HLL := Hd hll
       clear hln hll
       gi_wp2_with (first | (gi_at_call 178; refine (CallsIn.inRound l (hO.calls HCALL.out)).mono ?_; rintro e W2 ⟨rfl,hb2⟩; have HB2 := Hd hb2; have hs2 := hb2.size; clear hb2; have HEB2 := Hd (HEN.out.step hgB (Moved.of_below HB2.out (Nat.le_of_lt hgW))); have HWAY2 := Hd (HWAY.out.below HB2.out); have b3c : W2.cell? ⟨B + 1 + 1,0,none⟩ = some (.int .i64 0) := Aal HEB2.out.b3 rfl; have b3f : W2.frozen? ⟨B + 1 + 1,0,none⟩ = false := Abx HEB2.out.b3; have HEB3 := Hd (show EndB g B last 0 w (W2.setCell ⟨B + 1 + 1,0,none⟩ (.int .i64 0)) from HEB2.out.setErr hgB hwB 0); have HWAY3 := Hd (show Abr n₀ g (.slice a L.length cap,.int .i64 m,.int .i64 b) (W2.setCell ⟨B + 1 + 1,0,none⟩ (.int .i64 0)) p N.reverse k from Afo HWAY2.out HEB2.out.b3 (by omega) (by decide)); have d1 : (W2.setCell ⟨B + 1 + 1,0,none⟩ (.int .i64 0)).cell? ⟨B,0,none⟩ = some (.pointer (some ⟨g,0,none⟩)) := Aal HEB3.out.b1 rfl; (obtain ⟨d2,d3,d4,-,-,-⟩ := Aa6 HWAY3.out); have d5 : (W2.setCell ⟨B + 1 + 1,0,none⟩ (.int .i64 0)).cell? ⟨B + 1 + 1,0,none⟩ = some (.int .i64 0) := Aal HEB3.out.b3 rfl; have HNW3 := Hd (show Aah (W2.setCell ⟨B + 1 + 1,0,none⟩ (.int .i64 0)) a cap L from HN.out.below (HB0.out.trans (HEB3.out.moved.below.mono hw0))); have hs3 : (W2.setCell ⟨B + 1 + 1,0,none⟩ (.int .i64 0)).heap.size = W2.heap.size := Adl W2 _ _) | (gi_at_call 155; refine (CallsIn.inRound l (hO.calls (Aaw a cap m b (u : Int) L L[u].kind HKL.out _ HNW3.out))).mono ?_; rintro e W4 ⟨rfl,hb4⟩; have HB4 := Hd hb4; have hs5 := hb4.size; clear hb4 d1 d2 d3 d4 d5 b3c b3f; have hg3 : g < (W2.setCell ⟨B + 1 + 1,0,none⟩ (.int .i64 0)).heap.size := HWAY3.out.lt; have HEB4 := Hd (HEB3.out.step hgB (Moved.of_below HB4.out (Nat.le_of_lt hg3))); have HWAY4 := Hd (HWAY3.out.below HB4.out); have e1 : W4.cell? ⟨B,0,none⟩ = some (.pointer (some ⟨g,0,none⟩)) := Aal HEB4.out.b1 rfl; have e2 : W4.cell? ⟨B + 1,0,none⟩ = some (.bool last) := Aal HEB4.out.b2 rfl; have e3 : W4.cell? ⟨B + 1 + 1,0,none⟩ = some (.int .i64 0) := Aal HEB4.out.b3 rfl; have e4 : W4.frozen? ⟨B + 1 + 1,0,none⟩ = false := Abx HEB4.out.b3; have f3 := Abi HWAY4.out 3; have f5 := Abi HWAY4.out 5; (obtain ⟨c0,c1,c2,c3,⟨v4,c4,hv4⟩,c5⟩ := Aa6 HWAY4.out); (obtain ⟨va,vc,rfl,-,-,-⟩ := hv4.view); have HKO := Hd ((Acz HB2.out).trans ((KeepsOthers.setCell W2 ⟨B + 1 + 1,0,none⟩ (.int .i64 0)).trans (Acz HB4.out))); have HNW4 := Hd (HNW3.out.below HB4.out); clear hv4; simp only [List.length_reverse] at c4; (have e5 := e2); rw [HLL.out] at e5; rw [HLN.out,List.length_nil] at c4; clear e2; rw [HK8.out] at c5) | fail)
       exact ⟨(HKO.out.trans (KeepsOthers.setCell W4 _ _)).from _,rfl,⟨p,k,_,Afo HWAY4.out HEB4.out.b3 (by omega) (by decide)⟩,by rw [HW.out]; exact HEB4.out.setErr hgB hwB 40,by rw [HW.out]; decide⟩
     ·obtain ⟨hd1024,-⟩ := Als HF.out.ins (Aef L u hul) (by rw [HND.out]; exact hk3')
      rw [HND.out] at hd1024
      obtain ⟨d,hde⟩ : ∃ d,d = L[u].data := ⟨_,rfl⟩
      rw [← hde] at hd1024
      have HDE := Hd (show (Aaf L (u : Int)).data = d by rw [HND.out,hde])
      have HDD := Hd hde
      have hk7 : ((k : Int) == 8) = false := by rw [beq_eq_false_iff_ne]; omega
      have HP := Hd (show (Aan d).length ≤ 1025 by have := Aci d; omega)
      have HGO := Hd (show R = wayW L last (8 - (k + 1)) (Aan d ++ N) (if Ac3 d then 0 else p) by
       rw [HRW.out,show 8 - k = (8 - (k + 1)) + 1 by omega,Amx _ _ _ _ _ _ _ HST.out HNL.out,HDE.out])
      clear hde
      rcases hcase with ⟨hln,hll⟩ | hrl
      ·have HLN := Hd hln
       have HLL := Hd hll
       clear hln hll
       gi_wp2_with (first | (gi_at_call 178; refine (CallsIn.inRound l (hO.calls HCALL.out)).mono ?_; rintro e W2 ⟨rfl,hb2⟩; have HB2 := Hd hb2; have hs2 := hb2.size; clear hb2; have HEB2 := Hd (HEN.out.step hgB (Moved.of_below HB2.out (Nat.le_of_lt hgW))); have HWAY2 := Hd (HWAY.out.below HB2.out); have b3c : W2.cell? ⟨B + 1 + 1,0,none⟩ = some (.int .i64 0) := Aal HEB2.out.b3 rfl; have b3f : W2.frozen? ⟨B + 1 + 1,0,none⟩ = false := Abx HEB2.out.b3; have HEB3 := Hd (show EndB g B last 0 w (W2.setCell ⟨B + 1 + 1,0,none⟩ (.int .i64 0)) from HEB2.out.setErr hgB hwB 0); have HWAY3 := Hd (show Abr n₀ g (.slice a L.length cap,.int .i64 m,.int .i64 b) (W2.setCell ⟨B + 1 + 1,0,none⟩ (.int .i64 0)) p N.reverse k from Afo HWAY2.out HEB2.out.b3 (by omega) (by decide)); have d1 : (W2.setCell ⟨B + 1 + 1,0,none⟩ (.int .i64 0)).cell? ⟨B,0,none⟩ = some (.pointer (some ⟨g,0,none⟩)) := Aal HEB3.out.b1 rfl; (obtain ⟨d2,d3,d4,-,-,-⟩ := Aa6 HWAY3.out); have d5 : (W2.setCell ⟨B + 1 + 1,0,none⟩ (.int .i64 0)).cell? ⟨B + 1 + 1,0,none⟩ = some (.int .i64 0) := Aal HEB3.out.b3 rfl; have HNW3 := Hd (show Aah (W2.setCell ⟨B + 1 + 1,0,none⟩ (.int .i64 0)) a cap L from HN.out.below (HB0.out.trans (HEB3.out.moved.below.mono hw0))); have hs3 : (W2.setCell ⟨B + 1 + 1,0,none⟩ (.int .i64 0)).heap.size = W2.heap.size := Adl W2 _ _) | (gi_at_call 155; refine (CallsIn.inRound l (hO.calls (Aaw a cap m b (u : Int) L L[u].kind HKL.out _ HNW3.out))).mono ?_; rintro e W4 ⟨rfl,hb4⟩; have HB4 := Hd hb4; have hs5 := hb4.size; clear hb4 d1 d2 d3 d4 d5 b3c b3f; have hg3 : g < (W2.setCell ⟨B + 1 + 1,0,none⟩ (.int .i64 0)).heap.size := HWAY3.out.lt; have HEB4 := Hd (HEB3.out.step hgB (Moved.of_below HB4.out (Nat.le_of_lt hg3))); have HWAY4 := Hd (HWAY3.out.below HB4.out); have e1 : W4.cell? ⟨B,0,none⟩ = some (.pointer (some ⟨g,0,none⟩)) := Aal HEB4.out.b1 rfl; have e2 : W4.cell? ⟨B + 1,0,none⟩ = some (.bool last) := Aal HEB4.out.b2 rfl; have e3 : W4.cell? ⟨B + 1 + 1,0,none⟩ = some (.int .i64 0) := Aal HEB4.out.b3 rfl; have e4 : W4.frozen? ⟨B + 1 + 1,0,none⟩ = false := Abx HEB4.out.b3; have f3 := Abi HWAY4.out 3; have f5 := Abi HWAY4.out 5; (obtain ⟨c0,c1,c2,c3,⟨v4,c4,hv4⟩,c5⟩ := Aa6 HWAY4.out); (obtain ⟨va,vc,rfl,-,-,-⟩ := hv4.view); have HKO := Hd ((Acz HB2.out).trans ((KeepsOthers.setCell W2 ⟨B + 1 + 1,0,none⟩ (.int .i64 0)).trans (Acz HB4.out))); have HNW4 := Hd (HNW3.out.below HB4.out); clear hv4; simp only [List.length_reverse] at c4; (have e5 := e2); rw [HLL.out] at e5; rw [HLN.out,List.length_nil] at c4; clear e2) | fail)
       obtain ⟨X,hX⟩ : ∃ X,X = W4.setCell ⟨g,5,none⟩ (.int .i64 ((k : Int) + 1)) := ⟨_,rfl⟩
       have HWX := Hd (show Abr n₀ g (.slice a L.length cap,.int .i64 m,.int .i64 b) X p N.reverse ((k : Int) + 1) by rw [hX]; exact Apm HWAY4.out _)
       have HEX := Hd (show EndB g B last 0 w X by rw [hX]; exact HEB4.out.step hgB (Moved.set W4 5 _))
       have HKX := Hd (show KeepsOthers W X by rw [hX]; exact HKO.out.trans (KeepsOthers.setCell W4 _ _))
       have HNX := Hd (show Aah X a cap L from HN.out.below (HB0.out.trans (HEX.out.moved.below.mono hw0)))
       rw [← hX]
       clear hX e1 e3 e4 f3 f5 c0 c1 c2 c3 c4 c5
       have hgX := HWX.out.lt
       have hnX : n₀ ≤ X.heap.size := Nat.le_trans hn₀ HEX.out.moved.below.size
       obtain ⟨bb,o,hae,-⟩ := HNX.out.2.2 u hul
       subst hae
       have d0 : (0 : Int) ≤ (u : Int) := by omega
       have d1 : (u : Int) < (L.length : Int) := by omega
       have hHeld : X.drew.cell? ⟨B,0,none⟩ = some (.pointer (some ⟨g,0,none⟩)) ∧ X.drew.cell? ⟨g,0,none⟩ = some (.slice (some ⟨bb,o,none⟩) L.length cap) ∧ Aah X.drew (some ⟨bb,o,none⟩) cap L := ⟨Aal HEX.out.b1 rfl,(Aa6 HWX.out).1,HNX.out.below ⟨rfl,rfl,rfl,Nat.le_refl _,fun _ _ => rfl⟩⟩
       refine Ab8 (S := fun W' => W'.cell? ⟨B,0,none⟩ = some (.pointer (some ⟨g,0,none⟩)) ∧ W'.cell? ⟨g,0,none⟩ = some (.slice (some ⟨bb,o,none⟩) L.length cap) ∧ Aah W' (some ⟨bb,o,none⟩) cap L) (by kernel_rfl) (by kernel_rfl) ?_
       refine wpAnyH_take (i := 0) (v := ?_) rfl (by kernel_rfl) (by kernel_rfl) (by kernel_rfl) (fun _ _ _ h => nomatch h.1) (Or.inl ⟨by rfl,?hyp0⟩) hHeld ?restp0
       case hyp0 => intro W' hSw; (obtain ⟨q0,q1,q2⟩ := hSw); (obtain ⟨b',o',eb,hq⟩ := q2.2.2 u hul); cases eb; (have q3 := hq.data); rw [← HDD.out] at q3; clear q2 hq; go_simp <;> with_reducible rfl
       try simp only [Act.put,List.setIfInBounds_toArray]
       refine wpAnyH_take (i := 1) (v := ?_) rfl (by kernel_rfl) (by kernel_rfl) (by kernel_rfl) (fun _ _ _ h => nomatch h.1) (Or.inl ⟨by rfl,?hyp1⟩) hHeld ?restp1
       case hyp1 => intro W' hSw; (obtain ⟨q0,q1,q2⟩ := hSw); (obtain ⟨b',o',eb,hq⟩ := q2.2.2 u hul); cases eb; (have q3 := hq.data); rw [← HDD.out] at q3; clear q2 hq; go_simp <;> with_reducible rfl
       try simp only [Act.put]
       refine wpAnyH_take (i := 2) (v := ?_) rfl (by kernel_rfl) (by kernel_rfl) (by kernel_rfl) (fun _ _ _ h => nomatch h.1) (Or.inl ⟨by rfl,?hyp2⟩) hHeld ?restp2
       case hyp2 => intro W' hSw; (obtain ⟨q0,q1,q2⟩ := hSw); (obtain ⟨b',o',eb,hq⟩ := q2.2.2 u hul); cases eb; (have q3 := hq.data); rw [← HDD.out] at q3; clear q2 hq; go_simp <;> with_reducible rfl
       try simp only [Act.put]
       refine wpAnyH_take (i := 3) (v := ?_) rfl (by kernel_rfl) (by kernel_rfl) (by kernel_rfl) (fun _ _ _ h => nomatch h.1) (Or.inl ⟨by rfl,?hyp3⟩) hHeld ?restp3
       case hyp3 => intro W' hSw; (obtain ⟨q0,q1,q2⟩ := hSw); (obtain ⟨b',o',eb,hq⟩ := q2.2.2 u hul); cases eb; (have q3 := hq.data); rw [← HDD.out] at q3; clear q2 hq; go_simp <;> with_reducible rfl
       try simp only [Act.put]
       refine wpAnyH_take (i := 4) (v := ?_) rfl (by kernel_rfl) (by kernel_rfl) (by kernel_rfl) (fun _ _ _ h => nomatch h.1) (Or.inl ⟨by rfl,?hyp4⟩) hHeld ?restp4
       case hyp4 => intro W' hSw; (obtain ⟨q0,q1,q2⟩ := hSw); (obtain ⟨b',o',eb,hq⟩ := q2.2.2 u hul); cases eb; (have q3 := hq.data); rw [← HDD.out] at q3; clear q2 hq; go_simp <;> with_reducible rfl
       try simp only [Act.put]
       refine wpAnyH_take (i := 5) (v := ?_) rfl (by kernel_rfl) (by kernel_rfl) (by kernel_rfl) (fun _ _ _ h => nomatch h.1) (Or.inl ⟨by rfl,?hyp5⟩) hHeld ?restp5
       case hyp5 => intro W' hSw; (obtain ⟨q0,q1,q2⟩ := hSw); (obtain ⟨b',o',eb,hq⟩ := q2.2.2 u hul); cases eb; (have q3 := hq.data); rw [← HDD.out] at q3; clear q2 hq; go_simp <;> with_reducible rfl
       try simp only [Act.put]
       refine wpAnyH_take (i := 6) (v := ?_) rfl (by kernel_rfl) (by kernel_rfl) (by kernel_rfl) (fun _ _ _ h => nomatch h.1) (Or.inl ⟨by rfl,?hyp6⟩) hHeld ?restp6
       case hyp6 => intro W' hSw; (obtain ⟨q0,q1,q2⟩ := hSw); (obtain ⟨b',o',eb,hq⟩ := q2.2.2 u hul); cases eb; (have q3 := hq.data); rw [← HDD.out] at q3; clear q2 hq; go_simp <;> with_reducible rfl
       try simp only [Act.put]
       refine wpAnyH_take (i := 7) (v := ?_) rfl (by kernel_rfl) (by kernel_rfl) (by kernel_rfl) (fun _ _ _ h => nomatch h.1) (Or.inl ⟨by rfl,?hyp7⟩) hHeld ?restp7
       case hyp7 => intro W' hSw; (obtain ⟨q0,q1,q2⟩ := hSw); (obtain ⟨b',o',eb,hq⟩ := q2.2.2 u hul); cases eb; (have q3 := hq.data); rw [← HDD.out] at q3; clear q2 hq; go_simp <;> with_reducible rfl
       try simp only [Act.put]
       refine wpAnyH_take (i := 8) (v := ?_) rfl (by kernel_rfl) (by kernel_rfl) (by kernel_rfl) (fun _ _ _ h => nomatch h.1) (Or.inl ⟨by rfl,?hyp8⟩) hHeld ?restp8
       case hyp8 => intro W' hSw; (obtain ⟨q0,q1,q2⟩ := hSw); (obtain ⟨b',o',eb,hq⟩ := q2.2.2 u hul); cases eb; (have q3 := hq.data); rw [← HDD.out] at q3; clear q2 hq; go_simp <;> with_reducible rfl
       try simp only [Act.put]
       refine wpAnyH_take (i := 9) (v := ?_) rfl (by kernel_rfl) (by kernel_rfl) (by kernel_rfl) (fun _ _ _ h => nomatch h.1) (Or.inl ⟨by rfl,?hyp9⟩) hHeld ?restp9
       case hyp9 => intro W' hSw; (obtain ⟨q0,q1,q2⟩ := hSw); (obtain ⟨b',o',eb,hq⟩ := q2.2.2 u hul); cases eb; (have q3 := hq.data); rw [← HDD.out] at q3; clear q2 hq; go_simp <;> with_reducible rfl
       try simp only [Act.put]
       refine wpAnyH_ready (rs := [10]) (by kernel_rfl) (by simp) ?_
       refine AllReadyH.cons rfl (fun K hK => ?_) AllReadyH.nil
       go_simp
       refine (Ahv n₀ g (.slice (some ⟨bb,o,none⟩) L.length cap,.int .i64 m,.int .i64 b) p ((k : Int) + 1) N.reverse d (by omega) (by rw [List.length_reverse]; omega) X.drew hnX HWX.out.drew).mono ?_
       rintro e W5 ⟨⟨ue,rfl⟩,hwy,hmv⟩
       have hmX : Moved g X W5 := ⟨⟨hmv.below.1,hmv.below.2,hmv.below.3,hmv.below.4,hmv.below.5⟩,hmv.kept⟩
       have HEY := HEX.out.step hgB hmX
       refine hK.out _ _ ⟨Aal HEY.b1 rfl,(Aa6 hwy).1,HN.out.below (HB0.out.trans (HEY.moved.below.mono hw0))⟩ (fun _ => ?_)
       clear hK K
       refine wpAnyH_done (by kernel_rfl) ⟨rfl,?_⟩ _
       obtain ⟨c,tt,fr,hgc⟩ : ∃ c tt fr,X.heap[g]? = some (.cells c tt fr) := (by obtain ⟨_,v,h1,-⟩ := HWX.out; exact ⟨_,_,_,h1⟩)
       refine ⟨(HKX.out.trans (Aoo hgc hmX)).from _,⟨x,Aan d ++ N,if Ac3 d then 0 else p,k + 1⟩,?_,?_,⟨HEY,Nat.le_trans HSZ.out (Nat.le_trans HKX.out.size hmX.below.size)⟩,?_,?_,HGO.out⟩
       ·show (8 - (k + 1)) * 30000 + (Aan d ++ N).length ≤ (8 - k) * 30000 + N.length
        rw [List.length_append]
        have := HP.out
        omega
       ·show Abr _ _ _ _ _ (Aan d ++ N).reverse ((k + 1 : Nat) : Int)
        rw [List.reverse_append]
        exact hwy
       ·show k + 1 ≤ 8
        omega
       ·show (Aan d ++ N).length ≤ 5000 + (k + 1) * 2000
        rw [List.length_append]
        have := HP.out
        omega
      ·gi_wp2_with (first | (gi_at_call 178; refine (CallsIn.inRound l (hO.calls HCALL.out)).mono ?_; rintro e W2 ⟨rfl,hb2⟩; have HB2 := Hd hb2; have hs2 := hb2.size; clear hb2; have HEB2 := Hd (HEN.out.step hgB (Moved.of_below HB2.out (Nat.le_of_lt hgW))); have HWAY2 := Hd (HWAY.out.below HB2.out); have b3c : W2.cell? ⟨B + 1 + 1,0,none⟩ = some (.int .i64 0) := Aal HEB2.out.b3 rfl; have b3f : W2.frozen? ⟨B + 1 + 1,0,none⟩ = false := Abx HEB2.out.b3; have HEB3 := Hd (show EndB g B last 0 w (W2.setCell ⟨B + 1 + 1,0,none⟩ (.int .i64 0)) from HEB2.out.setErr hgB hwB 0); have HWAY3 := Hd (show Abr n₀ g (.slice a L.length cap,.int .i64 m,.int .i64 b) (W2.setCell ⟨B + 1 + 1,0,none⟩ (.int .i64 0)) p N.reverse k from Afo HWAY2.out HEB2.out.b3 (by omega) (by decide)); have d1 : (W2.setCell ⟨B + 1 + 1,0,none⟩ (.int .i64 0)).cell? ⟨B,0,none⟩ = some (.pointer (some ⟨g,0,none⟩)) := Aal HEB3.out.b1 rfl; (obtain ⟨d2,d3,d4,-,-,-⟩ := Aa6 HWAY3.out); have d5 : (W2.setCell ⟨B + 1 + 1,0,none⟩ (.int .i64 0)).cell? ⟨B + 1 + 1,0,none⟩ = some (.int .i64 0) := Aal HEB3.out.b3 rfl; have HNW3 := Hd (show Aah (W2.setCell ⟨B + 1 + 1,0,none⟩ (.int .i64 0)) a cap L from HN.out.below (HB0.out.trans (HEB3.out.moved.below.mono hw0))); have hs3 : (W2.setCell ⟨B + 1 + 1,0,none⟩ (.int .i64 0)).heap.size = W2.heap.size := Adl W2 _ _) | (gi_at_call 155; refine (CallsIn.inRound l (hO.calls (Aaw a cap m b (u : Int) L L[u].kind HKL.out _ HNW3.out))).mono ?_; rintro e W4 ⟨rfl,hb4⟩; have HB4 := Hd hb4; have hs5 := hb4.size; clear hb4 d1 d2 d3 d4 d5 b3c b3f; have hg3 : g < (W2.setCell ⟨B + 1 + 1,0,none⟩ (.int .i64 0)).heap.size := HWAY3.out.lt; have HEB4 := Hd (HEB3.out.step hgB (Moved.of_below HB4.out (Nat.le_of_lt hg3))); have HWAY4 := Hd (HWAY3.out.below HB4.out); have e1 : W4.cell? ⟨B,0,none⟩ = some (.pointer (some ⟨g,0,none⟩)) := Aal HEB4.out.b1 rfl; have e2 : W4.cell? ⟨B + 1,0,none⟩ = some (.bool last) := Aal HEB4.out.b2 rfl; have e3 : W4.cell? ⟨B + 1 + 1,0,none⟩ = some (.int .i64 0) := Aal HEB4.out.b3 rfl; have e4 : W4.frozen? ⟨B + 1 + 1,0,none⟩ = false := Abx HEB4.out.b3; have f3 := Abi HWAY4.out 3; have f5 := Abi HWAY4.out 5; (obtain ⟨c0,c1,c2,c3,⟨v4,c4,hv4⟩,c5⟩ := Aa6 HWAY4.out); (obtain ⟨va,vc,rfl,-,-,-⟩ := hv4.view); have HKO := Hd ((Acz HB2.out).trans ((KeepsOthers.setCell W2 ⟨B + 1 + 1,0,none⟩ (.int .i64 0)).trans (Acz HB4.out))); have HNW4 := Hd (HNW3.out.below HB4.out); clear hv4; simp only [List.length_reverse] at c4) | fail)
       obtain ⟨X,hX⟩ : ∃ X,X = W4.setCell ⟨g,5,none⟩ (.int .i64 ((k : Int) + 1)) := ⟨_,rfl⟩
       have HWX := Hd (show Abr n₀ g (.slice a L.length cap,.int .i64 m,.int .i64 b) X p N.reverse ((k : Int) + 1) by rw [hX]; exact Apm HWAY4.out _)
       have HEX := Hd (show EndB g B last 0 w X by rw [hX]; exact HEB4.out.step hgB (Moved.set W4 5 _))
       have HKX := Hd (show KeepsOthers W X by rw [hX]; exact HKO.out.trans (KeepsOthers.setCell W4 _ _))
       have HNX := Hd (show Aah X a cap L from HN.out.below (HB0.out.trans (HEX.out.moved.below.mono hw0)))
       rw [← hX]
       clear hX e1 e3 e4 f3 f5 c0 c1 c2 c3 c4 c5
       have hgX := HWX.out.lt
       have hnX : n₀ ≤ X.heap.size := Nat.le_trans hn₀ HEX.out.moved.below.size
       obtain ⟨bb,o,hae,-⟩ := HNX.out.2.2 u hul
       subst hae
       have d0 : (0 : Int) ≤ (u : Int) := by omega
       have d1 : (u : Int) < (L.length : Int) := by omega
       have hHeld : X.drew.cell? ⟨B,0,none⟩ = some (.pointer (some ⟨g,0,none⟩)) ∧ X.drew.cell? ⟨g,0,none⟩ = some (.slice (some ⟨bb,o,none⟩) L.length cap) ∧ Aah X.drew (some ⟨bb,o,none⟩) cap L := ⟨Aal HEX.out.b1 rfl,(Aa6 HWX.out).1,HNX.out.below ⟨rfl,rfl,rfl,Nat.le_refl _,fun _ _ => rfl⟩⟩
       refine Ab8 (S := fun W' => W'.cell? ⟨B,0,none⟩ = some (.pointer (some ⟨g,0,none⟩)) ∧ W'.cell? ⟨g,0,none⟩ = some (.slice (some ⟨bb,o,none⟩) L.length cap) ∧ Aah W' (some ⟨bb,o,none⟩) cap L) (by kernel_rfl) (by kernel_rfl) ?_
       refine wpAnyH_take (i := 0) (v := ?_) rfl (by kernel_rfl) (by kernel_rfl) (by kernel_rfl) (fun _ _ _ h => nomatch h.1) (Or.inl ⟨by rfl,?hyq0⟩) hHeld ?restq0
       case hyq0 => intro W' hSw; (obtain ⟨q0,q1,q2⟩ := hSw); (obtain ⟨b',o',eb,hq⟩ := q2.2.2 u hul); cases eb; (have q3 := hq.data); rw [← HDD.out] at q3; clear q2 hq; go_simp <;> with_reducible rfl
       try simp only [Act.put,List.setIfInBounds_toArray]
       refine wpAnyH_take (i := 1) (v := ?_) rfl (by kernel_rfl) (by kernel_rfl) (by kernel_rfl) (fun _ _ _ h => nomatch h.1) (Or.inl ⟨by rfl,?hyq1⟩) hHeld ?restq1
       case hyq1 => intro W' hSw; (obtain ⟨q0,q1,q2⟩ := hSw); (obtain ⟨b',o',eb,hq⟩ := q2.2.2 u hul); cases eb; (have q3 := hq.data); rw [← HDD.out] at q3; clear q2 hq; go_simp <;> with_reducible rfl
       try simp only [Act.put]
       refine wpAnyH_take (i := 2) (v := ?_) rfl (by kernel_rfl) (by kernel_rfl) (by kernel_rfl) (fun _ _ _ h => nomatch h.1) (Or.inl ⟨by rfl,?hyq2⟩) hHeld ?restq2
       case hyq2 => intro W' hSw; (obtain ⟨q0,q1,q2⟩ := hSw); (obtain ⟨b',o',eb,hq⟩ := q2.2.2 u hul); cases eb; (have q3 := hq.data); rw [← HDD.out] at q3; clear q2 hq; go_simp <;> with_reducible rfl
       try simp only [Act.put]
       refine wpAnyH_take (i := 3) (v := ?_) rfl (by kernel_rfl) (by kernel_rfl) (by kernel_rfl) (fun _ _ _ h => nomatch h.1) (Or.inl ⟨by rfl,?hyq3⟩) hHeld ?restq3
       case hyq3 => intro W' hSw; (obtain ⟨q0,q1,q2⟩ := hSw); (obtain ⟨b',o',eb,hq⟩ := q2.2.2 u hul); cases eb; (have q3 := hq.data); rw [← HDD.out] at q3; clear q2 hq; go_simp <;> with_reducible rfl
       try simp only [Act.put]
       refine wpAnyH_take (i := 4) (v := ?_) rfl (by kernel_rfl) (by kernel_rfl) (by kernel_rfl) (fun _ _ _ h => nomatch h.1) (Or.inl ⟨by rfl,?hyq4⟩) hHeld ?restq4
       case hyq4 => intro W' hSw; (obtain ⟨q0,q1,q2⟩ := hSw); (obtain ⟨b',o',eb,hq⟩ := q2.2.2 u hul); cases eb; (have q3 := hq.data); rw [← HDD.out] at q3; clear q2 hq; go_simp <;> with_reducible rfl
       try simp only [Act.put]
       refine wpAnyH_take (i := 5) (v := ?_) rfl (by kernel_rfl) (by kernel_rfl) (by kernel_rfl) (fun _ _ _ h => nomatch h.1) (Or.inl ⟨by rfl,?hyq5⟩) hHeld ?restq5
       case hyq5 => intro W' hSw; (obtain ⟨q0,q1,q2⟩ := hSw); (obtain ⟨b',o',eb,hq⟩ := q2.2.2 u hul); cases eb; (have q3 := hq.data); rw [← HDD.out] at q3; clear q2 hq; go_simp <;> with_reducible rfl
       try simp only [Act.put]
       refine wpAnyH_take (i := 6) (v := ?_) rfl (by kernel_rfl) (by kernel_rfl) (by kernel_rfl) (fun _ _ _ h => nomatch h.1) (Or.inl ⟨by rfl,?hyq6⟩) hHeld ?restq6
       case hyq6 => intro W' hSw; (obtain ⟨q0,q1,q2⟩ := hSw); (obtain ⟨b',o',eb,hq⟩ := q2.2.2 u hul); cases eb; (have q3 := hq.data); rw [← HDD.out] at q3; clear q2 hq; go_simp <;> with_reducible rfl
       try simp only [Act.put]
       refine wpAnyH_take (i := 7) (v := ?_) rfl (by kernel_rfl) (by kernel_rfl) (by kernel_rfl) (fun _ _ _ h => nomatch h.1) (Or.inl ⟨by rfl,?hyq7⟩) hHeld ?restq7
       case hyq7 => intro W' hSw; (obtain ⟨q0,q1,q2⟩ := hSw); (obtain ⟨b',o',eb,hq⟩ := q2.2.2 u hul); cases eb; (have q3 := hq.data); rw [← HDD.out] at q3; clear q2 hq; go_simp <;> with_reducible rfl
       try simp only [Act.put]
       refine wpAnyH_take (i := 8) (v := ?_) rfl (by kernel_rfl) (by kernel_rfl) (by kernel_rfl) (fun _ _ _ h => nomatch h.1) (Or.inl ⟨by rfl,?hyq8⟩) hHeld ?restq8
       case hyq8 => intro W' hSw; (obtain ⟨q0,q1,q2⟩ := hSw); (obtain ⟨b',o',eb,hq⟩ := q2.2.2 u hul); cases eb; (have q3 := hq.data); rw [← HDD.out] at q3; clear q2 hq; go_simp <;> with_reducible rfl
       try simp only [Act.put]
       refine wpAnyH_take (i := 9) (v := ?_) rfl (by kernel_rfl) (by kernel_rfl) (by kernel_rfl) (fun _ _ _ h => nomatch h.1) (Or.inl ⟨by rfl,?hyq9⟩) hHeld ?restq9
       case hyq9 => intro W' hSw; (obtain ⟨q0,q1,q2⟩ := hSw); (obtain ⟨b',o',eb,hq⟩ := q2.2.2 u hul); cases eb; (have q3 := hq.data); rw [← HDD.out] at q3; clear q2 hq; go_simp <;> with_reducible rfl
       try simp only [Act.put]
       refine wpAnyH_ready (rs := [10]) (by kernel_rfl) (by simp) ?_
       refine AllReadyH.cons rfl (fun K hK => ?_) AllReadyH.nil
       go_simp
       refine (Ahv n₀ g (.slice (some ⟨bb,o,none⟩) L.length cap,.int .i64 m,.int .i64 b) p ((k : Int) + 1) N.reverse d (by omega) (by rw [List.length_reverse]; omega) X.drew hnX HWX.out.drew).mono ?_
       rintro e W5 ⟨⟨ue,rfl⟩,hwy,hmv⟩
       have hmX : Moved g X W5 := ⟨⟨hmv.below.1,hmv.below.2,hmv.below.3,hmv.below.4,hmv.below.5⟩,hmv.kept⟩
       have HEY := HEX.out.step hgB hmX
       refine hK.out _ _ ⟨Aal HEY.b1 rfl,(Aa6 hwy).1,HN.out.below (HB0.out.trans (HEY.moved.below.mono hw0))⟩ (fun _ => ?_)
       clear hK K
       refine wpAnyH_done (by kernel_rfl) ⟨rfl,?_⟩ _
       obtain ⟨c,tt,fr,hgc⟩ : ∃ c tt fr,X.heap[g]? = some (.cells c tt fr) := (by obtain ⟨_,v,h1,-⟩ := HWX.out; exact ⟨_,_,_,h1⟩)
       refine ⟨(HKX.out.trans (Aoo hgc hmX)).from _,⟨x,Aan d ++ N,if Ac3 d then 0 else p,k + 1⟩,?_,?_,⟨HEY,Nat.le_trans HSZ.out (Nat.le_trans HKX.out.size hmX.below.size)⟩,?_,?_,HGO.out⟩
       ·show (8 - (k + 1)) * 30000 + (Aan d ++ N).length ≤ (8 - k) * 30000 + N.length
        rw [List.length_append]
        have := HP.out
        omega
       ·show Abr _ _ _ _ _ (Aan d ++ N).reverse ((k + 1 : Nat) : Int)
        rw [List.reverse_append]
        exact hwy
       ·show k + 1 ≤ 8
        omega
       ·show (Aan d ++ N).length ≤ 5000 + (k + 1) * 2000
        rw [List.length_append]
        have := HP.out
        omega
 case done =>
  rintro D W hD ⟨⟨x',N',p',k'⟩,hN',hway,⟨heb,hsz⟩,hgh⟩ hK
  simp only at hN' hway
  subst hN'
  obtain ⟨-,-,hRw⟩ := hgh
  have HR2 := Hd (show R = (p',0) by rw [hRw]; exact Apw _ _ _ _)
  have HMD := Hd (show Moved g w W.drew from ⟨⟨heb.moved.below.1,heb.moved.below.2,heb.moved.below.3,heb.moved.below.4,heb.moved.below.5⟩,heb.moved.kept⟩)
  have hw := HWIDE.out
  subst hw
  clear hRw
  gi_wp2
  refine Ab8 (ro := none) (S := fun W' => W'.cell? ⟨B,0,none⟩ = some (.pointer (some ⟨g,0,none⟩)) ∧ W'.cell? ⟨g,3,none⟩ = some (.int .i64 p') ∧ W'.cell? ⟨B + 1 + 1,0,none⟩ = some (.int .i64 0)) (by kernel_rfl) (by kernel_rfl) ?_
  have hHeld : W.drew.cell? ⟨B,0,none⟩ = some (.pointer (some ⟨g,0,none⟩)) ∧ W.drew.cell? ⟨g,3,none⟩ = some (.int .i64 p') ∧ W.drew.cell? ⟨B + 1 + 1,0,none⟩ = some (.int .i64 0) := ⟨Aal heb.b1 rfl,(Aa6 hway).2.2.2.1,Aal heb.b3 rfl⟩
  refine wpAnyH_take (i := 0) (v := ?_) rfl (by kernel_rfl) (by kernel_rfl) (by kernel_rfl) (fun _ _ _ h => nomatch h.1) (Or.inl ⟨by rfl,?hyd0⟩) hHeld ?restd0
  case hyd0 => intro W' hSw; (obtain ⟨q0,q1,q2⟩ := hSw); go_simp <;> with_reducible rfl
  try simp only [Act.put,List.getElem_toArray,List.getElem_cons_zero,List.setIfInBounds_toArray,List.set_cons_zero,List.set_cons_succ]
  refine wpAnyH_take (i := 1) (v := ?_) rfl (by kernel_rfl) (by kernel_rfl) (by kernel_rfl) (fun _ _ _ h => nomatch h.1) (Or.inl ⟨by rfl,?hyd1⟩) hHeld ?restd1
  case hyd1 => intro W' hSw; (obtain ⟨q0,q1,q2⟩ := hSw); go_simp <;> with_reducible rfl
  try simp only [Act.put,List.getElem_toArray,List.getElem_cons_zero,List.getElem_cons_succ,List.setIfInBounds_toArray,List.set_cons_zero,List.set_cons_succ]
  refine wpAnyH_take (i := 2) (v := ?_) rfl (by kernel_rfl) (by kernel_rfl) (by kernel_rfl) (fun _ _ _ h => nomatch h.1) (Or.inl ⟨by rfl,?hyd2⟩) hHeld ?restd2
  case hyd2 => intro W' hSw; (obtain ⟨q0,q1,q2⟩ := hSw); go_simp <;> with_reducible rfl
  try simp only [Act.put,List.getElem_toArray,List.getElem_cons_zero,List.getElem_cons_succ,List.setIfInBounds_toArray,List.set_cons_zero,List.set_cons_succ]
  refine wpAnyH_take (i := 3) (v := ?_) rfl (by kernel_rfl) (by kernel_rfl) (by kernel_rfl) (fun _ _ _ h => nomatch h.1) (Or.inl ⟨by rfl,?hyd3⟩) hHeld ?restd3
  case hyd3 => intro W' hSw; (obtain ⟨q0,q1,q2⟩ := hSw); go_simp <;> with_reducible rfl
  try simp only [Act.put,List.getElem_toArray,List.getElem_cons_zero,List.getElem_cons_succ,List.setIfInBounds_toArray,List.set_cons_zero,List.set_cons_succ]
  refine wpAnyH_take (i := 4) (v := ?_) rfl (by kernel_rfl) (by kernel_rfl) (by kernel_rfl) (fun _ _ _ h => nomatch h.1) (Or.inl ⟨by rfl,?hyd4⟩) hHeld ?restd4
  case hyd4 => intro W' hSw; (obtain ⟨q0,q1,q2⟩ := hSw); go_simp <;> with_reducible rfl
  try simp only [Act.put,List.getElem_toArray,List.getElem_cons_zero,List.getElem_cons_succ,List.setIfInBounds_toArray,List.set_cons_zero,List.set_cons_succ]
  refine wpAnyH_take (i := 5) (v := ?_) rfl (by kernel_rfl) (by kernel_rfl) (by kernel_rfl) (fun _ _ _ h => nomatch h.1) (Or.inl ⟨by rfl,?hyd5⟩) hHeld ?restd5
  case hyd5 => intro W' hSw; (obtain ⟨q0,q1,q2⟩ := hSw); go_simp <;> with_reducible rfl
  try simp only [Act.put,List.getElem_toArray,List.getElem_cons_zero,List.getElem_cons_succ,List.setIfInBounds_toArray,List.set_cons_zero,List.set_cons_succ]
  refine wpAnyH_take (i := 6) (v := ?_) rfl (by kernel_rfl) (by kernel_rfl) (by kernel_rfl) (fun _ _ _ h => nomatch h.1) (Or.inl ⟨by rfl,?hyd6⟩) hHeld ?restd6
  case hyd6 => intro W' hSw; (obtain ⟨q0,q1,q2⟩ := hSw); go_simp <;> with_reducible rfl
  try simp only [Act.put,List.getElem_toArray,List.getElem_cons_zero,List.getElem_cons_succ,List.setIfInBounds_toArray,List.set_cons_zero,List.set_cons_succ]
  refine wpAnyH_done (by kernel_rfl) ⟨rfl,?_⟩ _
  gi_wp2
  refine ⟨by simp,.inl ⟨_,_,rfl,run_takeDeferred hK,?_⟩⟩
  exact ⟨_,results_tmp2 rfl _ _ _,⟨p',by rw [HR2.out]; rfl,fun _ => by rw [HR2.out]⟩,Aep (β := Unit) (B := w4.heap.size) (by omega) (by omega) () W.drew _ (some D) HMD.out (grownBy_putObj' W.drew D _) (fun r e => by cases e; exact ⟨hD,_,hK,rfl⟩)⟩
 case stop =>
  rintro D c W hD ⟨rfl,⟨q,k',st',hway⟩,heb,hne⟩ hK
  have HR2 := Hd hne
  have HMD := Hd (show Moved g w W.drew from ⟨⟨heb.moved.below.1,heb.moved.below.2,heb.moved.below.3,heb.moved.below.4,heb.moved.below.5⟩,heb.moved.kept⟩)
  have hw := HWIDE.out
  subst hw
  clear hne
  gi_wp2
  refine Ab8 (ro := none) (S := fun W' => W'.cell? ⟨B,0,none⟩ = some (.pointer (some ⟨g,0,none⟩)) ∧ W'.cell? ⟨g,3,none⟩ = some (.int .i64 q) ∧ W'.cell? ⟨B + 1 + 1,0,none⟩ = some (.int .i64 R.2)) (by kernel_rfl) (by kernel_rfl) ?_
  have hHeld : W.drew.cell? ⟨B,0,none⟩ = some (.pointer (some ⟨g,0,none⟩)) ∧ W.drew.cell? ⟨g,3,none⟩ = some (.int .i64 q) ∧ W.drew.cell? ⟨B + 1 + 1,0,none⟩ = some (.int .i64 R.2) := ⟨Aal heb.b1 rfl,(Aa6 hway).2.2.2.1,Aal heb.b3 rfl⟩
  refine wpAnyH_take (i := 0) (v := ?_) rfl (by kernel_rfl) (by kernel_rfl) (by kernel_rfl) (fun _ _ _ h => nomatch h.1) (Or.inl ⟨by rfl,?hys0⟩) hHeld ?rests0
  case hys0 => intro W' hSw; (obtain ⟨q0,q1,q2⟩ := hSw); go_simp <;> with_reducible rfl
  try simp only [Act.put,List.getElem_toArray,List.getElem_cons_zero,List.setIfInBounds_toArray,List.set_cons_zero,List.set_cons_succ]
  refine wpAnyH_take (i := 1) (v := ?_) rfl (by kernel_rfl) (by kernel_rfl) (by kernel_rfl) (fun _ _ _ h => nomatch h.1) (Or.inl ⟨by rfl,?hys1⟩) hHeld ?rests1
  case hys1 => intro W' hSw; (obtain ⟨q0,q1,q2⟩ := hSw); go_simp <;> with_reducible rfl
  try simp only [Act.put,List.getElem_toArray,List.getElem_cons_zero,List.getElem_cons_succ,List.setIfInBounds_toArray,List.set_cons_zero,List.set_cons_succ]
  refine wpAnyH_take (i := 2) (v := ?_) rfl (by kernel_rfl) (by kernel_rfl) (by kernel_rfl) (fun _ _ _ h => nomatch h.1) (Or.inl ⟨by rfl,?hys2⟩) hHeld ?rests2
  case hys2 => intro W' hSw; (obtain ⟨q0,q1,q2⟩ := hSw); go_simp <;> with_reducible rfl
  try simp only [Act.put,List.getElem_toArray,List.getElem_cons_zero,List.getElem_cons_succ,List.setIfInBounds_toArray,List.set_cons_zero,List.set_cons_succ]
  refine wpAnyH_take (i := 3) (v := ?_) rfl (by kernel_rfl) (by kernel_rfl) (by kernel_rfl) (fun _ _ _ h => nomatch h.1) (Or.inl ⟨by rfl,?hys3⟩) hHeld ?rests3
  case hys3 => intro W' hSw; (obtain ⟨q0,q1,q2⟩ := hSw); go_simp <;> with_reducible rfl
  try simp only [Act.put,List.getElem_toArray,List.getElem_cons_zero,List.getElem_cons_succ,List.setIfInBounds_toArray,List.set_cons_zero,List.set_cons_succ]
  refine wpAnyH_take (i := 4) (v := ?_) rfl (by kernel_rfl) (by kernel_rfl) (by kernel_rfl) (fun _ _ _ h => nomatch h.1) (Or.inl ⟨by rfl,?hys4⟩) hHeld ?rests4
  case hys4 => intro W' hSw; (obtain ⟨q0,q1,q2⟩ := hSw); go_simp <;> with_reducible rfl
  try simp only [Act.put,List.getElem_toArray,List.getElem_cons_zero,List.getElem_cons_succ,List.setIfInBounds_toArray,List.set_cons_zero,List.set_cons_succ]
  refine wpAnyH_take (i := 5) (v := ?_) rfl (by kernel_rfl) (by kernel_rfl) (by kernel_rfl) (fun _ _ _ h => nomatch h.1) (Or.inl ⟨by rfl,?hys5⟩) hHeld ?rests5
  case hys5 => intro W' hSw; (obtain ⟨q0,q1,q2⟩ := hSw); go_simp <;> with_reducible rfl
  try simp only [Act.put,List.getElem_toArray,List.getElem_cons_zero,List.getElem_cons_succ,List.setIfInBounds_toArray,List.set_cons_zero,List.set_cons_succ]
  refine wpAnyH_take (i := 6) (v := ?_) rfl (by kernel_rfl) (by kernel_rfl) (by kernel_rfl) (fun _ _ _ h => nomatch h.1) (Or.inl ⟨by rfl,?hys6⟩) hHeld ?rests6
  case hys6 => intro W' hSw; (obtain ⟨q0,q1,q2⟩ := hSw); go_simp <;> with_reducible rfl
  try simp only [Act.put,List.getElem_toArray,List.getElem_cons_zero,List.getElem_cons_succ,List.setIfInBounds_toArray,List.set_cons_zero,List.set_cons_succ]
  refine wpAnyH_done (by kernel_rfl) ⟨rfl,?_⟩ _
  gi_wp2
  refine ⟨by simp,.inl ⟨_,_,rfl,run_takeDeferred hK,?_⟩⟩
  exact ⟨_,results_tmp2 rfl _ _ _,⟨q,rfl,fun h => absurd h HR2.out⟩,Aep (β := Unit) (B := w4.heap.size) (by omega) (by omega) () W.drew _ (some D) HMD.out (grownBy_putObj' W.drew D _) (fun r e => by cases e; exact ⟨hD,_,hK,rfl⟩)⟩
end Go.Proofs.YtkdfbliiblojoaaGreatDoor
