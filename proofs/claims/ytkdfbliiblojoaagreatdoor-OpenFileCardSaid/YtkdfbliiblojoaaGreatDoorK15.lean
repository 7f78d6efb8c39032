import Derived.Test.YtkdfbliiblojoaaGreatDoorK14
import Derived.Deep.AppendSrc
import Derived.Deep.AppendLies
set_option linter.all false
set_option maxRecDepth 100000
set_option maxHeartbeats 64000000
namespace Go.Proofs.YtkdfbliiblojoaaGreatDoor
open Go Go.RowKit
def Aed (K : Krn) : Prop := ∀ i (hi : i < K.opens.length),0 ≤ K.opens[i].refs ∧ K.opens[i].refs ≤ 1000
theorem Alr {K : Krn} {f : List Int} {n : Nat} (hR : Aed K) (hL : Led K f n) : Aed (Aat K f n).1 := by
 unfold Aat
 rcases hL with h0 | ⟨j,hj,h1,h2,h3,h4,h5⟩
 ·rw [if_pos h0]; exact hR
 ·rw [if_neg (by omega),h1,show ((j : Int) + 1 - 1).toNat = j by omega]
  intro i hi
  have hi' : i < K.opens.length := by rw [Ab6] at hi; exact hi
  show 0 ≤ ((Aa5 K j).opens[i]).refs ∧ ((Aa5 K j).opens[i]).refs ≤ 1000
  by_cases e : j = i
  ·subst e
   by_cases h6 : K.opens[j].refs = 1
   ·have hO : (Aa5 K j).opens[j] = Aap := by simp only [Af8 K j hj h6,List.getElem_set_self]
    rw [hO]
    exact ⟨by decide,by decide⟩
   ·have hO : (Aa5 K j).opens[j] = { K.opens[j] with refs := K.opens[j].refs - 1 } := by simp only [Acm K j hj h6,List.getElem_set_self]
    rw [hO]
    exact ⟨by show 0 ≤ K.opens[j].refs - 1; omega,by show K.opens[j].refs - 1 ≤ 1000; omega⟩
  ·rw [Aco K j i e hi']
   exact hR i hi'
theorem Aj2 {K : Krn} {f : List Int} {n : Nat} (hn : n < 10) : (Ado K f (n : Int)).1 = (Aat K f n).1 ∧ (Ado K f (n : Int)).2.1 = (Aat K f n).2 := by
 have hfd : isFd (n : Int) = true := by unfold isFd; simp; omega
 unfold Ado
 rw [Int.toNat_natCast]
 by_cases h0 : f.getD n 0 = 0
 ·have hs : Aat K f n = (K,f) := if_pos h0
  rw [if_pos (.inr h0),hs]
  exact ⟨rfl,rfl⟩
 ·rw [if_neg (by rw [not_or]; exact ⟨by rw [hfd]; decide,h0⟩)]
  exact ⟨rfl,rfl⟩
section
variable {B g : Nat} {A : KAd} {K : Krn} {f : List Int}
theorem Apa (n j : Nat) (hn : n < 10) (w : World) (hW : Wk w B g A K f) (hol : K.opens.length ≤ 1000) (hL : Led K f n) (hP : Agu K) (hR : Aed K) (hj : j < K.opens.length) : Calls Tryz.prog 84 #[.pointer (some ⟨g,0,none⟩),.int .i64 n,.int .i64 j] w fun e w' => e = .returned (.tuple #[]) ∧ Wk w' B g A (Adg K f n j).1 (Adg K f n j).2 ∧ Stepw g A w A w' := by
 obtain ⟨c1,c2⟩ := Aj2 (K := K) (f := f) hn
 have HC := Hd (Ane (n : Int) w hW hol (fun _ => by rw [Int.toNat_natCast]; exact hL) hP)
 rw [c1,c2] at HC
 have hRS := Alr hR hL
 have hjs : j < (Aat K f n).1.opens.length := by rw [(Ae1 _ _ _).1]; exact hj
 have hls : (Aat K f n).1.opens.length = K.opens.length := (Ae1 _ _ _).1
 have HE := Hd (show Adg K f n j = (Abe (Aat K f n).1 j,(Aat K f n).2.set n ((j : Int) + 1)) from rfl)
 rw [HE.out]
 obtain ⟨⟨K2,f2⟩,hs⟩ : ∃ z,Aat K f n = z := ⟨_,rfl⟩
 rw [hs] at HC hRS hjs hls ⊢
 simp only at HC hRS hjs hls ⊢
 have HS := Hd hs
 have b0 : (0 : Int) ≤ (n : Int) := by omega
 have b1 : (n : Int) < 10 := by omega
 have b2 : (0 : Int) ≤ (j : Int) := by omega
 have b3 : (j : Int) < (K2.opens.length : Int) := by omega
 obtain ⟨r,hr⟩ : ∃ r : Int,K2.opens[j].refs = r := ⟨_,rfl⟩
 have HR := Hd hr
 have hrr := hRS j hjs
 rw [hr] at hrr
 have hrw : IntKind.i64.wrap (r + 1) = r + 1 := by rw [IntKind.wrap_i64]; omega
 have hjw : IntKind.i64.wrap ((j : Int) + 1) = (j : Int) + 1 := by rw [IntKind.wrap_i64]; omega
 have b4 : (j : Int) ≤ 1000 := by omega
 obtain ⟨p1,p2⟩ := hrr
 clear hW hL hP hR c1 c2 hs hRS hr HE
 go_enter Tryz.func84,Tryz.ntmps84
 go_wp2_with fail
 refine HC.out.mono ?_
 rintro e w2 ⟨rfl,hw2,hs2⟩
 have HW2 := Hd hw2
 have HS2 := Hd hs2
 clear hw2 hs2
 obtain ⟨go,ha,-,-⟩ := HW2.out.opn hjs
 have HA := Hd ha
 clear ha
 obtain ⟨q4,x0,x1,x2,x3,x4,xl,xf⟩ := HW2.out.all hjs HA.out
 have gl := HW2.out.lt
 have xf4 := xf (j * 5 + 4)
 rw [HR.out] at x4
 clear xf
 go_upto_region 2 with fail
 obtain ⟨w3,hw3⟩ : ∃ z,z = w2.setCell ⟨go,j * 5 + 4,none⟩ (.int .i64 (r + 1)) := ⟨_,rfl⟩
 have HW3 := Hd (show Wk w3 B g A (Abe K2 j) f2 by
  rw [hw3]
  have h := (HW2.out.storeRefs HA.out hjs (r + 1)).1
  have e : Abe K2 j = { K2 with opens := K2.opens.set j { K2.opens[j] with refs := r + 1 } } := by
   unfold Abe
   rw [Abd _ j hjs,HR.out]
  rw [e]
  exact h)
 have HST3 := Hd (show Stepw g A w A w3 by rw [hw3]; exact HS2.out.trans (HW2.out.storeRefs HA.out hjs (r + 1)).2)
 rw [← hw3]
 clear q4 x0 x1 x2 x3 x4 xl xf4 gl hw3
 have gl := HW3.out.lt
 have fn_ := HW3.out.free (7 + n)
 have cn := HW3.out.fd n hn
 obtain ⟨a1,a2⟩ := HW3.out.setFd hn ((j : Int) + 1)
 have HA1 := Hd a1
 have HA2 := Hd a2
 clear a1 a2
 go_wp2_with fail
 go_end0
 exact ⟨rfl,HA1.out,HST3.out.trans HA2.out⟩
end
section
variable {B g : Nat} {A : KAd} {K : Krn} {f : List Int}
theorem Bat (fr to : Int) (w : World) (hW : Wk w B g A K f) (hol : K.opens.length ≤ 1000) (hL : ∀ n,n < 10 → Led K f n) (hP : Agu K) (hR : Aed K) : Calls Tryz.prog 62 #[.pointer (some ⟨g,0,none⟩),.int .i64 fr,.int .i64 to] w fun e w' => e = .returned (.int .i64 (dupL K f fr to).2.2) ∧ Wk w' B g A (dupL K f fr to).1 (dupL K f fr to).2.1 ∧ Stepw g A w A w' := by
 have hLf : ∀ x,isFd x = true → Led K f x.toNat := fun x hx => by
  obtain ⟨n,rfl,hn⟩ := Ach hx
  rw [Int.toNat_natCast]
  exact hL n hn
 have HC := Hd (Aj9 fr w hW hol (hLf fr))
 have HW := Hd hW
 by_cases h1 : isFd fr = false ∨ f.getD fr.toNat 0 = 0
 ·have HE := Hd (show dupL K f fr to = (K,f,9) by unfold dupL; rw [if_pos (by rcases h1 with h | h; exact .inl h; exact .inr (.inr h))])
  have HPL := Hd (show Acb f fr = (0,false) by
   unfold Acb
   rw [if_neg]
   rintro ⟨h2,h3⟩
   rcases h1 with h | h
   ·rw [h2] at h; cases h
   ·exact h3 h)
  rw [HE.out]
  clear hW hL hLf hP hR h1
  go_enter Tryz.func62,Tryz.ntmps62
  go_wp2_with fail
  refine HC.out.mono ?_
  rintro e w2 ⟨rfl,hb2⟩
  rw [HPL.out]
  have HB2 := Hd hb2
  clear hb2
  go_wp2_with fail
  go_ret
  exact ⟨rfl,HW.out.below HB2.out,.of_below HB2.out⟩
 rw [not_or] at h1
 have hfr : isFd fr = true := by simpa using h1.1
 have HPL := Hd (show Acb f fr = (f.getD fr.toNat 0 - 1,true) by unfold Acb; rw [if_pos ⟨hfr,h1.2⟩])
 obtain ⟨a,rfl,ha⟩ := Ach hfr
 rw [Int.toNat_natCast] at HPL h1
 obtain ⟨j,hj,e1⟩ : ∃ j : Nat,∃ hj : j < K.opens.length,f.getD a 0 = (j : Int) + 1 := by
  rcases hL a ha with h0 | ⟨j,hj,h2,-⟩
  ·exact absurd h0 h1.2
  ·exact ⟨j,hj,h2⟩
 rw [e1,show (j : Int) + 1 - 1 = (j : Int) by omega] at HPL
 cases hto : isFd to with
 | false =>
  have HE := Hd (show dupL K f (a : Int) to = (K,f,9) by unfold dupL; rw [if_pos (.inr (.inl hto))])
  rw [HE.out]
  clear hW hL hLf hP hR h1 e1 hfr
  go_enter Tryz.func62,Tryz.ntmps62
  go_wp2_with fail
  refine HC.out.mono ?_
  rintro e w2 ⟨rfl,hb2⟩
  rw [HPL.out]
  have HB2 := Hd hb2
  clear hb2
  go_wp2_with (first | (go_at_call 81; refine (Adx to _).mono ?_; rintro e w3 ⟨rfl,rfl⟩; rw [hto]) | fail)
  go_ret
  exact ⟨rfl,HW.out.below HB2.out,.of_below HB2.out⟩
 | true =>
  obtain ⟨c,rfl,hc⟩ := Ach hto
  by_cases he : (a : Int) = (c : Int)
  ·have HE := Hd (show dupL K f (a : Int) (c : Int) = (K,f,0) by
    unfold dupL
    rw [if_neg (by rw [Int.toNat_natCast]; simp only [not_or]; exact ⟨by rw [hfr]; decide,by rw [hto]; decide,h1.2⟩),if_pos he])
   rw [HE.out]
   have heb : ((a : Int) != (c : Int)) = false := by simpa using he
   clear hW hL hLf hP hR h1 e1 hfr he
   go_enter Tryz.func62,Tryz.ntmps62
   go_wp2_with fail
   refine HC.out.mono ?_
   rintro e w2 ⟨rfl,hb2⟩
   rw [HPL.out]
   have HB2 := Hd hb2
   clear hb2
   go_wp2_with (first | (go_at_call 81; refine (Adx (c : Int) _).mono ?_; rintro e w3 ⟨rfl,rfl⟩; rw [hto]) | fail)
   go_ret
   exact ⟨rfl,HW.out.below HB2.out,.of_below HB2.out⟩
  ·have HE := Hd (show dupL K f (a : Int) (c : Int) = ((Adg K f c j).1,(Adg K f c j).2,0) by
    unfold dupL
    rw [if_neg (by rw [Int.toNat_natCast]; simp only [not_or]; exact ⟨by rw [hfr]; decide,by rw [hto]; decide,h1.2⟩),if_neg he,Int.toNat_natCast,Int.toNat_natCast,e1,show ((j : Int) + 1 - 1).toNat = j by omega])
   rw [HE.out]
   have heb : ((a : Int) != (c : Int)) = true := by simpa using he
   have HLD := Hd (fun W (hb : Below w.heap.size w W) => Apa c j hc W (hW.below hb) hol (hL c hc) hP hR hj)
   clear hW hL hLf hP hR h1 e1 hfr he
   go_enter Tryz.func62,Tryz.ntmps62
   go_wp2_with fail
   refine HC.out.mono ?_
   rintro e w2 ⟨rfl,hb2⟩
   rw [HPL.out]
   have HB2 := Hd hb2
   clear hb2
   go_wp2_with (first | (go_at_call 81; refine (Adx (c : Int) _).mono ?_; rintro e w3 ⟨rfl,rfl⟩; rw [hto]) | (go_at_call 84; refine (HLD.out _ HB2.out).mono ?_; rintro e w4 ⟨rfl,hw4,hs4⟩) | fail)
   go_ret
   exact ⟨rfl,hw4,(Stepw.of_below HB2.out).trans hs4⟩
end
section
variable {B g : Nat} {A : KAd} {K : Krn} {f : List Int}
theorem Az1 (b i : Nat) (hi : i < K.opens.length) (w : World) (hW : Wk w B g A K f) (hb : w.cell? ⟨b,0,none⟩ = some (.pointer (some ⟨g,0,none⟩))) : Calls Tryz.prog 126 #[.int .i64 i,.pointer (some ⟨b,0,none⟩)] w fun e w' => e = .returned (.bool (K.opens[i].kind == 0)) ∧ w' = w := by
 obtain ⟨go,ha,-,-⟩ := hW.opn hi
 obtain ⟨q4,x0,x1,x2,x3,x4,xl,xf⟩ := hW.all hi ha
 have gl := hW.lt
 have b0 : (0 : Int) ≤ (i : Int) := by omega
 have b1 : (i : Int) < (K.opens.length : Int) := by omega
 have bl := Aaj hb
 clear hW xf ha x1 x2 x3 x4
 go_enter Tryz.func126,Tryz.ntmps126
 go_wp2_with fail
 go_ret
 exact ⟨rfl,rfl⟩
theorem Arz (b i : Nat) (hi : i < K.pipes.length) (w : World) (hW : Wk w B g A K f) (hb : w.cell? ⟨b,0,none⟩ = some (.pointer (some ⟨g,0,none⟩))) : Calls Tryz.prog 147 #[.int .i64 i,.pointer (some ⟨b,0,none⟩)] w fun e w' => e = .returned (.bool (decide (0 < i) && (K.pipes[i].rd == 0 && K.pipes[i].wr == 0))) ∧ w' = w := by
 obtain ⟨go,ha,-,hp⟩ := hW.pip hi
 obtain ⟨x0,x1,x2,x3,xl,xf⟩ := hp
 have q3 := hW.kcells.2.2.2.1
 rw [ha] at q3
 have gl := hW.lt
 have b0 : (0 : Int) ≤ (i : Int) := by omega
 have b1 : (i : Int) < (K.pipes.length : Int) := by omega
 have bl := Aaj hb
 obtain ⟨p,hp⟩ : ∃ p,p = K.pipes[i] := ⟨_,rfl⟩
 rw [← hp] at x0 x1 x2 x3 ⊢
 clear hW xf ha hp
 by_cases h0 : 0 < i
 ·have d0 : decide ((i : Int) > 0) = true := decide_eq_true (by omega)
  have d0b : decide (0 < i) = true := decide_eq_true h0
  rw [d0b]
  by_cases h1 : p.rd = 0
  ·have d1 : (p.rd == 0) = true := by simpa using h1
   rw [d1]
   clear h1
   go_enter Tryz.func147,Tryz.ntmps147
   go_wp2_with fail
   go_ret
   exact ⟨by simp,rfl⟩
  ·have d1 : (p.rd == 0) = false := by simpa using h1
   rw [d1]
   clear h1
   go_enter Tryz.func147,Tryz.ntmps147
   go_wp2_with fail
   go_ret
   exact ⟨by simp,rfl⟩
 ·have d0 : decide ((i : Int) > 0) = false := decide_eq_false (by omega)
  have d0b : decide (0 < i) = false := decide_eq_false h0
  rw [d0b]
  go_enter Tryz.func147,Tryz.ntmps147
  go_wp2_with fail
  go_ret
  exact ⟨by simp,rfl⟩
end
def layL {T : Type} (L : List T) (free : Nat → Bool) (x : T) (most : Nat) : List T × Nat × Int :=
 match (List.range L.length).find? free with
 | some i => (L.set i x,i,0)
 | none => if most ≤ L.length then (L,0,24) else (L ++ [x],L.length,0)
theorem Ayh {free : Nat → Bool} {k n : Nat} (hk : k < n) (h : ∀ i,i < k → free i = false) (h1 : free k = true) : (List.range n).find? free = some k := by
 rw [List.find?_eq_some_iff_getElem]
 refine ⟨h1,k,by simpa using hk,by simp,fun j hj => ?_⟩
 have hjn : j < n := by omega
 rw [List.getElem_range,h j hj]
 rfl
theorem Atc {free : Nat → Bool} {n : Nat} (h : ∀ i,i < n → free i = false) : (List.range n).find? free = none := by
 rw [List.find?_eq_none]
 intro x hx
 rw [h x (List.mem_range.1 hx)]
 decide
theorem Ap8 {T : Type} {L : List T} {free : Nat → Bool} {x : T} {most k : Nat} (hk : k < L.length) (h : ∀ i,i < k → free i = false) (h1 : free k = true) : layL L free x most = (L.set k x,k,0) := by
 unfold layL
 rw [Ayh hk h h1]
theorem Ain {T : Type} {L : List T} {free : Nat → Bool} {x : T} {most : Nat} (h : ∀ i,i < L.length → free i = false) (hm : most ≤ L.length) : layL L free x most = (L,0,24) := by
 unfold layL
 rw [Atc h]
 simp only [if_pos hm]
theorem Ak1 {T : Type} {L : List T} {free : Nat → Bool} {x : T} {most : Nat} (h : ∀ i,i < L.length → free i = false) (hm : ¬ most ≤ L.length) : layL L free x most = (L ++ [x],L.length,0) := by
 unfold layL
 rw [Atc h]
 simp only [if_neg hm]
structure RowStep (w : World) (a a' : Option Addr) (w' : World) : Prop where
 os : w'.os = w.os
 tape : w'.tape = w.tape
 output : w'.output = w.output
 size : w.heap.size ≤ w'.heap.size
 block : ∀ k,k < w.heap.size → (∀ x,a = some x → x.block ≠ k) → w'.heap[k]? = w.heap[k]?
 near : ∀ x,a' = some x → (∃ y,a = some y ∧ y.block = x.block) ∨ w.heap.size ≤ x.block
theorem RowStep.of_below {w w' : World} {a : Option Addr} (h : Below w.heap.size w w') : RowStep w a a w' := ⟨h.os,h.tape,h.output,h.size,fun k hk _ => h.block k hk,fun x hx => .inl ⟨x,hx,rfl⟩⟩
theorem RowStep.of_but {w w1 w' : World} {g : Nat} {x : Addr} (hx : x.block = g) (h : Below w.heap.size w w1) (hb : But g w1 w') : RowStep w (some x) (some x) w' :=
 ⟨hb.os.trans h.os,hb.tape.trans h.tape,hb.output.trans h.output,by rw [hb.size]; exact h.size,fun k hk hn => (hb.block k (fun e => hn x rfl (hx.trans e.symm))).trans (h.block k hk),fun y hy => .inl ⟨y,hy,rfl⟩⟩
theorem RowStep.of_grown {w w1 w' : World} {a a' : Option Addr} {n c n' c' : Nat} {B : Nat} {e : TypeId} {k : Nat} {xs : List Value} (h : Below w.heap.size w w1) (hg : w1.grownBy w' (Value.slice a n c).ownBlock) (hn : w1.heap.size ≤ w'.heap.size) (hr : ∀ x,a' = some x → (∃ y,a = some y ∧ y.block = x.block) ∨ w1.heap.size ≤ x.block) : RowStep w a a' w' :=
 ⟨hg.os.trans h.os,hg.tape.trans h.tape,hg.output.trans h.output,Nat.le_trans h.size hn,fun j hj hne => (hg.block j (Nat.lt_of_lt_of_le hj h.size) (fun e => by
  cases a with
  | none => cases e
  | some x => exact hne x rfl (Option.some.inj e).symm)).trans (h.block j hj),fun x hx => (hr x hx).imp id fun h2 => Nat.le_trans h.size h2⟩
section
variable {B g : Nat} {A : KAd} {K : Krn} {f : List Int}
theorem Wk.newOpens {W W' : World} (h : Wk W B g A K f) {a' : Option Addr} {c' : Nat} {O' : List Opn} (hr : W'.ownsRow B 70 5 (.slice a' O'.length c') O'.length (rowC opnF O')) (hs : RowStep W A.oa a' W') (hB : B ≤ W.heap.size) :
  Wk (W'.setCell ⟨g,4,none⟩ (.slice a' O'.length c')) B g { A with oa := a',oc := c' } { K with opens := O' } f ∧ Stepw g A W { A with oa := a',oc := c' } (W'.setCell ⟨g,4,none⟩ (.slice a' O'.length c')) := by
 have hgk : W'.heap[g]? = W.heap[g]? := hs.block g h.lt (fun x hx => h.go x hx)
 have hgb := hgk.trans h.box
 have hne : ∀ x,a' = some x → x.block ≠ g := fun x hx => by
  rcases hs.near x hx with ⟨y,h1,h2⟩ | h1
  ·rw [← h2]; exact h.go y h1
  ·have := h.lt; omega
 have hset : ∀ k,k ≠ g → (W'.setCell ⟨g,4,none⟩ (.slice a' O'.length c')).heap[k]? = W'.heap[k]? := fun k hk => Below.heap_setCell _ _ _ _ hk
 have hpa : ∀ x,A.pa = some x → (W'.setCell ⟨g,4,none⟩ (.slice a' O'.length c')).heap[x.block]? = W.heap[x.block]? := fun x hx => by
  rw [hset _ (h.gp x hx)]
  obtain ⟨go,rfl,-,hlt⟩ := Abf h.own.pipes x hx
  exact hs.block go hlt (fun y hy => (fun e => h.own.apart _ y hx hy e.symm))
 have hpl : ∀ x,A.pa = some x → x.block < W.heap.size := fun x hx => by
  obtain ⟨go,rfl,-,hlt⟩ := Abf h.own.pipes x hx
  exact hlt
 refine ⟨⟨?_,h.base,⟨Ac9 h.own.pipes hpa,Ac9 hr (fun x hx => hset _ (hne x hx)),?_⟩,h.gp,hne,fun W'' hw => ?_,h.flen⟩,⟨⟨hs.os,hs.tape,hs.output,?_,fun k hk hn => ?_⟩,⟨fun x hx => .inl ⟨x,hx,rfl⟩,hs.near⟩⟩⟩
 ·have hb := Aa0 hgb 4 (.slice a' O'.length c')
  rw [show (wrk g A K f).setIfInBounds 4 (.slice a' O'.length c') = wrk g { A with oa := a',oc := c' } { K with opens := O' } f from rfl] at hb
  exact hb
 ·intro x y hx hy
  rcases hs.near y hy with ⟨z,h1,h2⟩ | h1
  ·rw [← h2]; exact h.own.apart x z hx h1
  ·have := hpl x hx; omega
 ·refine h.tree W'' fun k hk hn => ?_
  have h1 : k ≠ g := fun e => hn (.inl e)
  rw [hw k (by rw [show (W'.setCell ⟨g,4,none⟩ (.slice a' O'.length c')).heap.size = W'.heap.size by simp [World.setCell]]; exact Nat.lt_of_lt_of_le hk hs.size) ?_,hset k h1]
  ·exact hs.block k hk (fun x hx e => hn (.inr (.inr ⟨x,hx,e⟩)))
  ·rintro (e | ⟨x,hx,e⟩ | ⟨x,hx,e⟩)
   ·exact h1 e
   ·exact hn (.inr (.inl ⟨x,hx,e⟩))
   ·rcases hs.near x hx with ⟨y,h2,h3⟩ | h2
    ·exact hn (.inr (.inr ⟨y,h2,h3.trans e⟩))
    ·omega
 ·show W.heap.size ≤ (W'.setCell _ _).heap.size
  simpa [World.setCell] using hs.size
 ·rw [hset k (fun e => hn (.inl e))]
  exact hs.block k hk (fun x hx e => hn (.inr (.inr ⟨x,hx,e⟩)))
theorem Wk.newPipes {W W' : World} (h : Wk W B g A K f) {a' : Option Addr} {c' : Nat} {P' : List Pip} (hr : W'.ownsRow B 87 4 (.slice a' P'.length c') P'.length (rowC pipF P')) (hs : RowStep W A.pa a' W') (hB : B ≤ W.heap.size) :
  Wk (W'.setCell ⟨g,3,none⟩ (.slice a' P'.length c')) B g { A with pa := a',pc := c' } { K with pipes := P' } f ∧ Stepw g A W { A with pa := a',pc := c' } (W'.setCell ⟨g,3,none⟩ (.slice a' P'.length c')) := by
 have hgk : W'.heap[g]? = W.heap[g]? := hs.block g h.lt (fun x hx => h.gp x hx)
 have hgb := hgk.trans h.box
 have hne : ∀ x,a' = some x → x.block ≠ g := fun x hx => by
  rcases hs.near x hx with ⟨y,h1,h2⟩ | h1
  ·rw [← h2]; exact h.gp y h1
  ·have := h.lt; omega
 have hset : ∀ k,k ≠ g → (W'.setCell ⟨g,3,none⟩ (.slice a' P'.length c')).heap[k]? = W'.heap[k]? := fun k hk => Below.heap_setCell _ _ _ _ hk
 have hoa : ∀ x,A.oa = some x → (W'.setCell ⟨g,3,none⟩ (.slice a' P'.length c')).heap[x.block]? = W.heap[x.block]? := fun x hx => by
  rw [hset _ (h.go x hx)]
  obtain ⟨go,rfl,-,hlt⟩ := Abf h.own.opens x hx
  exact hs.block go hlt (fun y hy => h.own.apart y _ hy hx)
 have hol : ∀ x,A.oa = some x → x.block < W.heap.size := fun x hx => by
  obtain ⟨go,rfl,-,hlt⟩ := Abf h.own.opens x hx
  exact hlt
 refine ⟨⟨?_,h.base,⟨Ac9 hr (fun x hx => hset _ (hne x hx)),Ac9 h.own.opens hoa,?_⟩,hne,h.go,fun W'' hw => ?_,h.flen⟩,⟨⟨hs.os,hs.tape,hs.output,?_,fun k hk hn => ?_⟩,⟨hs.near,fun x hx => .inl ⟨x,hx,rfl⟩⟩⟩⟩
 ·have hb := Aa0 hgb 3 (.slice a' P'.length c')
  rw [show (wrk g A K f).setIfInBounds 3 (.slice a' P'.length c') = wrk g { A with pa := a',pc := c' } { K with pipes := P' } f from rfl] at hb
  exact hb
 ·intro x y hx hy
  rcases hs.near x hx with ⟨z,h1,h2⟩ | h1
  ·rw [← h2]; exact h.own.apart z y h1 hy
  ·have := hol y hy; omega
 ·refine h.tree W'' fun k hk hn => ?_
  have h1 : k ≠ g := fun e => hn (.inl e)
  rw [hw k (by rw [show (W'.setCell ⟨g,3,none⟩ (.slice a' P'.length c')).heap.size = W'.heap.size by simp [World.setCell]]; exact Nat.lt_of_lt_of_le hk hs.size) ?_,hset k h1]
  ·exact hs.block k hk (fun x hx e => hn (.inr (.inl ⟨x,hx,e⟩)))
  ·rintro (e | ⟨x,hx,e⟩ | ⟨x,hx,e⟩)
   ·exact h1 e
   ·rcases hs.near x hx with ⟨y,h2,h3⟩ | h2
    ·exact hn (.inr (.inl ⟨y,h2,h3.trans e⟩))
    ·omega
   ·exact hn (.inr (.inr ⟨x,hx,e⟩))
 ·show W.heap.size ≤ (W'.setCell _ _).heap.size
  simpa [World.setCell] using hs.size
 ·rw [hset k (fun e => hn (.inl e))]
  exact hs.block k hk (fun x hx e => hn (.inr (.inl ⟨x,hx,e⟩)))
end
def Abv (K : Krn) (x : Opn) : List Opn × Nat × Int := layL K.opens (fun i => (K.opens.getD i Aap).kind == 0) x 64
def Ax0 (B : Nat) (A : KAd) (K : Krn) (x : Opn) (w : World) (e : Ending) (w' : World) : Prop :=
 ∃ a' c',e = .returned (.tuple #[.slice a' (Abv K x).1.length c',.int .i64 ((Abv K x).2.1 : Int),.int .i64 (Abv K x).2.2]) ∧ w'.ownsRow B 70 5 (.slice a' (Abv K x).1.length c') (Abv K x).1.length (rowC opnF (Abv K x).1) ∧ RowStep w A.oa a' w'
section
variable {B g : Nat} {A : KAd} {K : Krn} {f : List Int}
theorem Bas (b : Nat) (kd at_ off fl rf : Int) (w : World) (hW : Wk w B g A K f) (hol : K.opens.length ≤ 1000) (hb : w.cell? ⟨b,0,none⟩ = some (.pointer (some ⟨g,0,none⟩))) (hBw : B ≤ w.heap.size) :
  Calls Tryz.prog 125 #[.slice A.oa K.opens.length A.oc,.agg #[.int .i64 kd,.int .i64 at_,.int .i64 off,.int .i64 fl,.int .i64 rf],.int .i64 64,.func (.func 126) #[] #[.pointer (some ⟨b,0,none⟩)]] w (Ax0 B A K ⟨kd,at_,off,fl,rf⟩ w) := by
 obtain ⟨i0,hi,hz0,hz1,hz2⟩ := info_parts Apj
 obtain ⟨w1,hw1⟩ : ∃ p,p = w.alloc (.cells #[.int .i64 kd,.int .i64 at_,.int .i64 off,.int .i64 fl,.int .i64 rf] 70) := ⟨_,rfl⟩
 have hb1 : Below w.heap.size w w1 := by rw [hw1]; exact Aab w _
 have hX : w1.heap[w.heap.size]? = some (.cells #[.int .i64 kd,.int .i64 at_,.int .i64 off,.int .i64 fl,.int .i64 rf] 70 (0,0)) := by rw [hw1]; exact Aae w _
 have HW1 := Hd (hW.below hb1)
 have HB1 := Hd hb1
 have HX := Hd hX
 have HCB := Hd (Aaa hb1 hb)
 have hs1 := hb1.size
 have HBW := Hd (Nat.le_trans hBw hs1)
 have HOWN := Hd HW1.out.own.opens
 have HZ := Hd (show Abv K ⟨kd,at_,off,fl,rf⟩ = (layL K.opens (fun i => (K.opens.getD i Aap).kind == 0) ⟨kd,at_,off,fl,rf⟩ 64) from rfl)
 obtain ⟨fr,hfr⟩ : ∃ fr : Nat → Bool,fr = fun i => (K.opens.getD i Aap).kind == 0 := ⟨_,rfl⟩
 have HFR := Hd (show ∀ i (hi : i < K.opens.length),fr i = (K.opens[i].kind == 0) from fun i hi => by rw [hfr]; show ((K.opens.getD i Aap).kind == 0) = _; rw [Abd _ i hi])
 have hZ2 : Abv K ⟨kd,at_,off,fl,rf⟩ = layL K.opens fr ⟨kd,at_,off,fl,rf⟩ 64 := by rw [hfr]; rfl
 have HZ2 := Hd hZ2
 have HQ := Hd (fun i (hi : i < K.opens.length) W (hb : Below w1.heap.size w1 W) => Az1 b i hi W (HW1.out.below hb) (Aaa hb HCB.out))
 clear hb1 hX hW hb hBw hfr HZ hZ2
 obtain ⟨ta,tc,pa,pc,oa,oc⟩ := A
 simp only at HOWN ⊢
 unfold Ax0
 simp only
 obtain ⟨n,hn⟩ : ∃ n,n = K.opens.length := ⟨_,rfl⟩
 have HN := Hd hn
 rw [← hn] at hol ⊢
 clear hn
 have hn0 : (0 : Int) ≤ (n : Int) := by omega
 go_enter Tryz.func125,Tryz.ntmps125
 go_wp2_with fail
 rw [← hw1]
 clear hw1
 go_loopw [14] (fun iv wr => ∃ k : Nat,k ≤ n ∧ iv = .int .i64 k ∧ Hid (∀ i,i < k → fr i = false) ∧ Hid (Below w1.heap.size w1 wr)) (fun iv _ => n - (intOf iv).toNat)
 case atStart => exact ⟨0,by omega,rfl,Hd (fun i hi => absurd hi (Nat.not_lt_zero _)),Hd (Below.refl _ _)⟩
 case round =>
  obtain ⟨k,hk,rfl,HF,HB⟩ := hrel
  by_cases hlt : k < n
  ·have hk1 : (k : Int) < (n : Int) := by omega
   have hkO : k < K.opens.length := by rw [← HN.out]; exact hlt
   cases hfk : fr k with
   | false =>
    have hq := HQ.out k hkO _ HB.out
    rw [← HFR.out k hkO,hfk] at hq
    have HQ1 := Hd hq
    have HF2 := Hd (show ∀ i,i < k + 1 → fr i = false from fun i hi => by
     rcases Nat.lt_or_ge i k with h | h
     ·exact HF.out i h
     ·obtain rfl : i = k := by omega
      exact hfk)
    clear hq hfk hlt
    go_wp2_with (first | (go_at_call 126; refine HQ1.out.mono ?_; rintro e w3 ⟨rfl,rfl⟩) | fail)
    go_roundw
    case rel => exact ⟨k + 1,by omega,by go_num,HF2,HB⟩
    case measure => simp [intOf] <;> omega
   | true =>
    have hq := HQ.out k hkO _ HB.out
    rw [← HFR.out k hkO,hfk] at hq
    have HQ1 := Hd hq
    have HWR := Hd (HW1.out.below HB.out)
    have hzk : Abv K ⟨kd,at_,off,fl,rf⟩ = (K.opens.set k ⟨kd,at_,off,fl,rf⟩,k,0) := by rw [HZ2.out,Ap8 hkO HF.out hfk]
    have HZK := Hd hzk
    obtain ⟨go,ha,hgo,hyy⟩ := HWR.out.opn hkO
    obtain ⟨y0,y1,y2,y3,y4,yl,yf⟩ := hyy
    clear yf
    have ha' : oa = some ⟨go,0,none⟩ := ha
    subst ha'
    have hown := HWR.out.own.opens
    have HST := Hd (Aj7 hown k hkO ⟨kd,at_,off,fl,rf⟩)
    have HBT := Hd (Akd wr go (k * 5) (.int .i64 kd) (.int .i64 at_) (.int .i64 off) (.int .i64 fl) (.int .i64 rf))
    have HROW := Hd (Aig hown rfl)
    have z0 := HROW.out (k * 5)
    have z1 := HROW.out (k * 5 + 1)
    have z2 := HROW.out (k * 5 + 2)
    have z3 := HROW.out (k * 5 + 3)
    have z4 := HROW.out (k * 5 + 4)
    have hX2 := (HB.out.block w.heap.size (lt_of_block HX.out)).trans HX.out
    have x0 := bC hX2 0
    have x1 := bC hX2 1
    have x2 := bC hX2 2
    have x3 := bC hX2 3
    have x4 := bC hX2 4
    have xl := lt_of_block hX2
    have gol : go < wr.heap.size := by
     obtain ⟨go2,e2,-,h2⟩ := Abf hown _ rfl
     have e3 : go = go2 := by simpa using e2
     omega
    clear hq hfk hlt hown hzk ha hgo hX2
    go_wp2_with (first | (go_at_call 126; refine HQ1.out.mono ?_; rintro e w3 ⟨rfl,rfl⟩) | fail)
    go_ret3
    refine ⟨some ⟨go,0,none⟩,oc,?_,?_,?_⟩
    ·rw [HZK.out]
     simp only [List.length_set,← HN.out]
     first | rfl | simp
    ·rw [HZK.out]
     simp only [List.length_set]
     exact HST.out
    ·exact .of_but rfl (HB1.out.trans (HB.out.mono HB1.out.size)) HBT.out
  ·have hkn : k = n := by omega
   subst hkn
   have HNO := Hd (show ∀ i,i < K.opens.length → fr i = false from fun i hi => HF.out i (by rw [HN.out]; exact hi))
   have hwr : wr.ownsRow B 70 5 (.slice oa K.opens.length oc) K.opens.length (rowC opnF K.opens) := Afw HOWN.out HB.out (Nat.le_refl _)
   have HWN := Hd hwr
   have HBS := Hd (Nat.le_trans HBW.out HB.out.size)
   clear hwr hlt
   by_cases hm : 64 ≤ k
   ·have hmd : decide ((k : Int) ≥ 64) = true := decide_eq_true (by omega)
    have hmd2 : decide (64 ≤ (k : Int)) = true := decide_eq_true (by omega)
    have hzk : Abv K ⟨kd,at_,off,fl,rf⟩ = (K.opens,0,24) := by rw [HZ2.out,Ain HNO.out (by rw [← HN.out]; exact hm)]
    have HZK := Hd hzk
    clear hzk hm
    go_wp2_with fail
    go_ret3
    refine ⟨oa,oc,?_,?_,?_⟩
    ·rw [HZK.out]
     simp only [← HN.out]
     first | rfl | simp
    ·rw [HZK.out]
     exact HWN.out
    ·exact .of_below (HB1.out.trans (HB.out.mono HB1.out.size))
   ·have hmd : decide ((k : Int) ≥ 64) = false := decide_eq_false (by omega)
    have hmd2 : decide (64 ≤ (k : Int)) = false := decide_eq_false (by omega)
    have hzk : Abv K ⟨kd,at_,off,fl,rf⟩ = (K.opens ++ [⟨kd,at_,off,fl,rf⟩],k,0) := by rw [HZ2.out,Ak1 HNO.out (by rw [← HN.out]; exact hm),HN.out]
    have HZK := Hd hzk
    have hX2 := (HB.out.block w.heap.size (lt_of_block HX.out)).trans HX.out
    have x0 := bC hX2 0
    have x1 := bC hX2 1
    have x2 := bC hX2 2
    have x3 := bC hX2 3
    have x4 := bC hX2 4
    have xl := lt_of_block hX2
    rw [← HN.out] at HWN
    have hm2 : k < 64 := by omega
    clear hzk hm hX2
    go_wp2_with (first | (at_builtin; refine wpList_append_lies _ rfl _ _ 26 rfl B 70 i0 _ 5 40 Tryz.underlying26 hi hz0 hz1 hz2 rfl (by decide) (.slice oa k oc) k (rowC opnF K.opens) rfl ((HWN.out).kept (World.grownBy_alloc _ _ none) (by cases oa <;> simp [Value.ownBlock])) ⟨wr.heap.size,0,none⟩ 1 1 (opnF ⟨kd,at_,off,fl,rf⟩) rfl rfl ?qc2 (fun u hu => Apg [⟨kd,at_,off,fl,rf⟩] u (by simpa [rowC] using hu)) (by decide) (by unfold maxLen; omega) (by omega) (by have := HBS.out; simp; omega) _ rfl ?_) | fail)
    case qc2 =>
     intro j u hj
     rw [Ajn,Nat.zero_add]
     exact (bC (Aae wr _) j).trans (by simpa [opnF] using hj)
    intro gn c' w3 hown hgrow hat hgl
    have hown2 : w3.ownsRow B 70 5 (.slice (some ⟨gn,0,none⟩) (k + 1) c') (k + 1) (rowC opnF (K.opens ++ [⟨kd,at_,off,fl,rf⟩])) := by rw [Alk]; simpa [rowC] using hown
    have HO2 := Hd hown2
    have HG := Hd hgrow
    have HAT := Hd hat
    clear hown hown2 hgrow hat hgl xl
    go_wp2_with fail
    go_ret3
    refine ⟨some ⟨gn,0,none⟩,c',?_,?_,?_⟩
    ·rw [HZK.out]
     simp only [List.length_append,List.length_singleton,← HN.out]
     first | rfl | simp
    ·rw [HZK.out]
     simp only [List.length_append,List.length_singleton,← HN.out]
     exact HO2.out
    ·refine .of_grown (B := B) (e := 0) (k := 0) (xs := []) (n := k) (c := oc) (n' := 0) (c' := 0) (HB1.out.trans ((HB.out.mono HB1.out.size).alloc (Nat.le_trans HB1.out.size HB.out.size) _)) HG.out HG.out.size ?_
     intro x hx
     cases hx
     rcases HAT.out with h | h
     ·left
      cases hoa : oa with
      | none => rw [hoa] at h; cases h
      | some y => rw [hoa] at h; exact ⟨y,rfl,Option.some.inj h⟩
     ·right
      rw [h]
      simp
end
def Ac5 (K : Krn) (x : Pip) : List Pip × Nat × Int := layL K.pipes (fun i => decide (0 < i) && ((K.pipes.getD i Ab9).rd == 0 && (K.pipes.getD i Ab9).wr == 0)) x 32
def Axz (B : Nat) (A : KAd) (K : Krn) (x : Pip) (w : World) (e : Ending) (w' : World) : Prop :=
 ∃ a' c',e = .returned (.tuple #[.slice a' (Ac5 K x).1.length c',.int .i64 ((Ac5 K x).2.1 : Int),.int .i64 (Ac5 K x).2.2]) ∧ w'.ownsRow B 87 4 (.slice a' (Ac5 K x).1.length c') (Ac5 K x).1.length (rowC pipF (Ac5 K x).1) ∧ RowStep w A.pa a' w'
section
variable {B g : Nat} {A : KAd} {K : Krn} {f : List Int}
theorem Baw (b : Nat) (dt : List UInt8) (rd wr_ cp : Int) (w : World) (hW : Wk w B g A K f) (hol : K.pipes.length ≤ 1000) (hb : w.cell? ⟨b,0,none⟩ = some (.pointer (some ⟨g,0,none⟩))) (hBw : B ≤ w.heap.size) :
  Calls Tryz.prog 146 #[.slice A.pa K.pipes.length A.pc,.agg #[.string ⟨dt.toArray⟩,.int .i64 rd,.int .i64 wr_,.int .i64 cp],.int .i64 32,.func (.func 147) #[] #[.pointer (some ⟨b,0,none⟩)]] w (Axz B A K ⟨dt,rd,wr_,cp⟩ w) := by
 obtain ⟨i0,hi,hz0,hz1,hz2⟩ := info_parts Ao6
 obtain ⟨w1,hw1⟩ : ∃ p,p = w.alloc (.cells #[.string ⟨dt.toArray⟩,.int .i64 rd,.int .i64 wr_,.int .i64 cp] 87) := ⟨_,rfl⟩
 have hb1 : Below w.heap.size w w1 := by rw [hw1]; exact Aab w _
 have hX : w1.heap[w.heap.size]? = some (.cells #[.string ⟨dt.toArray⟩,.int .i64 rd,.int .i64 wr_,.int .i64 cp] 87 (0,0)) := by rw [hw1]; exact Aae w _
 have HW1 := Hd (hW.below hb1)
 have HB1 := Hd hb1
 have HX := Hd hX
 have HCB := Hd (Aaa hb1 hb)
 have hs1 := hb1.size
 have HBW := Hd (Nat.le_trans hBw hs1)
 have HOWN := Hd HW1.out.own.pipes
 have HZ := Hd (show Ac5 K ⟨dt,rd,wr_,cp⟩ = (layL K.pipes (fun i => decide (0 < i) && ((K.pipes.getD i Ab9).rd == 0 && (K.pipes.getD i Ab9).wr == 0)) ⟨dt,rd,wr_,cp⟩ 32) from rfl)
 obtain ⟨fr,hfr⟩ : ∃ fr : Nat → Bool,fr = fun i => decide (0 < i) && ((K.pipes.getD i Ab9).rd == 0 && (K.pipes.getD i Ab9).wr == 0) := ⟨_,rfl⟩
 have HFR := Hd (show ∀ i (hi : i < K.pipes.length),fr i = (decide (0 < i) && (K.pipes[i].rd == 0 && K.pipes[i].wr == 0)) from fun i hi => by rw [hfr]; show (decide (0 < i) && ((K.pipes.getD i Ab9).rd == 0 && (K.pipes.getD i Ab9).wr == 0)) = _; rw [Abd _ i hi])
 have hZ2 : Ac5 K ⟨dt,rd,wr_,cp⟩ = layL K.pipes fr ⟨dt,rd,wr_,cp⟩ 32 := by rw [hfr]; rfl
 have HZ2 := Hd hZ2
 have HQ := Hd (fun i (hi : i < K.pipes.length) W (hb : Below w1.heap.size w1 W) => Arz b i hi W (HW1.out.below hb) (Aaa hb HCB.out))
 clear hb1 hX hW hb hBw hfr HZ hZ2
 obtain ⟨ta,tc,pa,pc,oa,oc⟩ := A
 simp only at HOWN ⊢
 unfold Axz
 simp only
 obtain ⟨n,hn⟩ : ∃ n,n = K.pipes.length := ⟨_,rfl⟩
 have HN := Hd hn
 rw [← hn] at hol ⊢
 clear hn
 have hn0 : (0 : Int) ≤ (n : Int) := by omega
 go_enter Tryz.func146,Tryz.ntmps146
 go_wp2_with fail
 rw [← hw1]
 clear hw1
 go_loopw [14] (fun iv wr => ∃ k : Nat,k ≤ n ∧ iv = .int .i64 k ∧ Hid (∀ i,i < k → fr i = false) ∧ Hid (Below w1.heap.size w1 wr)) (fun iv _ => n - (intOf iv).toNat)
 case atStart => exact ⟨0,by omega,rfl,Hd (fun i hi => absurd hi (Nat.not_lt_zero _)),Hd (Below.refl _ _)⟩
 case round =>
  obtain ⟨k,hk,rfl,HF,HB⟩ := hrel
  by_cases hlt : k < n
  ·have hk1 : (k : Int) < (n : Int) := by omega
   have hkO : k < K.pipes.length := by rw [← HN.out]; exact hlt
   cases hfk : fr k with
   | false =>
    have hq := HQ.out k hkO _ HB.out
    rw [← HFR.out k hkO,hfk] at hq
    have HQ1 := Hd hq
    have HF2 := Hd (show ∀ i,i < k + 1 → fr i = false from fun i hi => by
     rcases Nat.lt_or_ge i k with h | h
     ·exact HF.out i h
     ·obtain rfl : i = k := by omega
      exact hfk)
    clear hq hfk hlt
    go_wp2_with (first | (go_at_call 147; refine HQ1.out.mono ?_; rintro e w3 ⟨rfl,rfl⟩) | fail)
    go_roundw
    case rel => exact ⟨k + 1,by omega,by go_num,HF2,HB⟩
    case measure => simp [intOf] <;> omega
   | true =>
    have hq := HQ.out k hkO _ HB.out
    rw [← HFR.out k hkO,hfk] at hq
    have HQ1 := Hd hq
    have HWR := Hd (HW1.out.below HB.out)
    have hzk : Ac5 K ⟨dt,rd,wr_,cp⟩ = (K.pipes.set k ⟨dt,rd,wr_,cp⟩,k,0) := by rw [HZ2.out,Ap8 hkO HF.out hfk]
    have HZK := Hd hzk
    obtain ⟨go,ha,hgo,hyy⟩ := HWR.out.pip hkO
    obtain ⟨y0,y1,y2,y3,yl,yf⟩ := hyy
    clear yf
    have ha' : pa = some ⟨go,0,none⟩ := ha
    subst ha'
    have hown := HWR.out.own.pipes
    have HST := Hd (Aki hown k hkO ⟨dt,rd,wr_,cp⟩)
    have HBT := Hd (Ael wr go (k * 4) (.string ⟨dt.toArray⟩) (.int .i64 rd) (.int .i64 wr_) (.int .i64 cp))
    have HROW := Hd (Aig hown rfl)
    have z0 := HROW.out (k * 4)
    have z1 := HROW.out (k * 4 + 1)
    have z2 := HROW.out (k * 4 + 2)
    have z3 := HROW.out (k * 4 + 3)
    have hX2 := (HB.out.block w.heap.size (lt_of_block HX.out)).trans HX.out
    have x0 := bC hX2 0
    have x1 := bC hX2 1
    have x2 := bC hX2 2
    have x3 := bC hX2 3
    have xl := lt_of_block hX2
    have gol : go < wr.heap.size := by
     obtain ⟨go2,e2,-,h2⟩ := Abf hown _ rfl
     have e3 : go = go2 := by simpa using e2
     omega
    clear hq hfk hlt hown hzk ha hgo hX2
    go_wp2_with (first | (go_at_call 147; refine HQ1.out.mono ?_; rintro e w3 ⟨rfl,rfl⟩) | fail)
    go_ret3
    refine ⟨some ⟨go,0,none⟩,pc,?_,?_,?_⟩
    ·rw [HZK.out]
     simp only [List.length_set,← HN.out]
     first | rfl | simp
    ·rw [HZK.out]
     simp only [List.length_set]
     exact HST.out
    ·exact .of_but rfl (HB1.out.trans (HB.out.mono HB1.out.size)) HBT.out
  ·have hkn : k = n := by omega
   subst hkn
   have HNO := Hd (show ∀ i,i < K.pipes.length → fr i = false from fun i hi => HF.out i (by rw [HN.out]; exact hi))
   have hwr : wr.ownsRow B 87 4 (.slice pa K.pipes.length pc) K.pipes.length (rowC pipF K.pipes) := Afw HOWN.out HB.out (Nat.le_refl _)
   have HWN := Hd hwr
   have HBS := Hd (Nat.le_trans HBW.out HB.out.size)
   clear hwr hlt
   by_cases hm : 32 ≤ k
   ·have hmd : decide ((k : Int) ≥ 32) = true := decide_eq_true (by omega)
    have hmd2 : decide (32 ≤ (k : Int)) = true := decide_eq_true (by omega)
    have hzk : Ac5 K ⟨dt,rd,wr_,cp⟩ = (K.pipes,0,24) := by rw [HZ2.out,Ain HNO.out (by rw [← HN.out]; exact hm)]
    have HZK := Hd hzk
    clear hzk hm
    go_wp2_with fail
    go_ret3
    refine ⟨pa,pc,?_,?_,?_⟩
    ·rw [HZK.out]
     simp only [← HN.out]
     first | rfl | simp
    ·rw [HZK.out]
     exact HWN.out
    ·exact .of_below (HB1.out.trans (HB.out.mono HB1.out.size))
   ·have hmd : decide ((k : Int) ≥ 32) = false := decide_eq_false (by omega)
    have hmd2 : decide (32 ≤ (k : Int)) = false := decide_eq_false (by omega)
    have hzk : Ac5 K ⟨dt,rd,wr_,cp⟩ = (K.pipes ++ [⟨dt,rd,wr_,cp⟩],k,0) := by rw [HZ2.out,Ak1 HNO.out (by rw [← HN.out]; exact hm),HN.out]
    have HZK := Hd hzk
    have hX2 := (HB.out.block w.heap.size (lt_of_block HX.out)).trans HX.out
    have x0 := bC hX2 0
    have x1 := bC hX2 1
    have x2 := bC hX2 2
    have x3 := bC hX2 3
    have xl := lt_of_block hX2
    rw [← HN.out] at HWN
    have hm2 : k < 32 := by omega
    clear hzk hm hX2
    go_wp2_with (first | (at_builtin; refine wpList_append_lies _ rfl _ _ 25 rfl B 87 i0 _ 4 40 Tryz.underlying25 hi hz0 hz1 hz2 rfl (by decide) (.slice pa k pc) k (rowC pipF K.pipes) rfl ((HWN.out).kept (World.grownBy_alloc _ _ none) (by cases pa <;> simp [Value.ownBlock])) ⟨wr.heap.size,0,none⟩ 1 1 (pipF ⟨dt,rd,wr_,cp⟩) rfl rfl ?qc2 (fun u hu => Aps [⟨dt,rd,wr_,cp⟩] u (by simpa [rowC] using hu)) (by decide) (by unfold maxLen; omega) (by omega) (by have := HBS.out; simp; omega) _ rfl ?_) | fail)
    case qc2 =>
     intro j u hj
     rw [Ajn,Nat.zero_add]
     exact (bC (Aae wr _) j).trans (by simpa [pipF] using hj)
    intro gn c' w3 hown hgrow hat hgl
    have hown2 : w3.ownsRow B 87 4 (.slice (some ⟨gn,0,none⟩) (k + 1) c') (k + 1) (rowC pipF (K.pipes ++ [⟨dt,rd,wr_,cp⟩])) := by rw [Alk]; simpa [rowC] using hown
    have HO2 := Hd hown2
    have HG := Hd hgrow
    have HAT := Hd hat
    clear hown hown2 hgrow hat hgl xl
    go_wp2_with fail
    go_ret3
    refine ⟨some ⟨gn,0,none⟩,c',?_,?_,?_⟩
    ·rw [HZK.out]
     simp only [List.length_append,List.length_singleton,← HN.out]
     first | rfl | simp
    ·rw [HZK.out]
     simp only [List.length_append,List.length_singleton,← HN.out]
     exact HO2.out
    ·refine .of_grown (B := B) (e := 0) (k := 0) (xs := []) (n := k) (c := pc) (n' := 0) (c' := 0) (HB1.out.trans ((HB.out.mono HB1.out.size).alloc (Nat.le_trans HB1.out.size HB.out.size) _)) HG.out HG.out.size ?_
     intro x hx
     cases hx
     rcases HAT.out with h | h
     ·left
      cases hoa : pa with
      | none => rw [hoa] at h; cases h
      | some y => rw [hoa] at h; exact ⟨y,rfl,Option.some.inj h⟩
     ·right
      rw [h]
      simp
end
theorem Au9 (x a b : Int) (w : World) : Calls Tryz.prog 170 #[.int .i64 x,.int .i64 a,.int .i64 b] w fun e w' => e = .returned (.bool (decide (a ≤ x) && decide (x ≤ b))) ∧ w' = w := by
 by_cases h : a ≤ x
 ·have hd : decide (a ≤ x) = true := decide_eq_true h
  go_enter Tryz.func170,Tryz.ntmps170
  go_wp2_with fail
  go_ret
  exact ⟨by simp [hd],rfl⟩
 ·have hd : decide (a ≤ x) = false := decide_eq_false h
  go_enter Tryz.func170,Tryz.ntmps170
  go_wp2_with fail
  go_ret
  exact ⟨by simp,rfl⟩
theorem Baz (size : Int) (q : Pip) (er : Int) (hz : Aao size = (q,er)) (w : World) :
  Calls Tryz.prog 145 #[.int .i64 size] w fun e w' => e = .returned (.tuple #[.agg #[.string ⟨q.data.toArray⟩,.int .i64 q.rd,.int .i64 q.wr,.int .i64 q.cap],.int .i64 er]) ∧ Below w.heap.size w w' := by
 obtain ⟨w1,hw1⟩ : ∃ w1,w1 = w.alloc (.cells #[.string ⟨#[]⟩,.int .i64 0,.int .i64 0,.int .i64 0] 87) := ⟨_,rfl⟩
 have hb1 : Below w.heap.size w w1 := by rw [hw1]; exact Aab w _
 have hB : w1.heap[w.heap.size]? = some (.cells #[.string ⟨#[]⟩,.int .i64 0,.int .i64 0,.int .i64 0] 87 (0,0)) := by rw [hw1]; exact Aae w _
 have HBK := Hd hB
 have HB1 := Hd hb1
 have r0 := bC hB 0
 have r1 := bC hB 1
 have r2 := bC hB 2
 have r3 := bC hB 3
 have s0 := bF hB 0
 have s1 := bF hB 1
 have s2 := bF hB 2
 have s3 := bF hB 3
 have hl := lt_of_block hB
 clear hB hb1
 unfold Aao at hz
 by_cases h : size < 1 ∨ 65536 < size
 ·rw [if_pos h] at hz
  simp only [Prod.mk.injEq] at hz
  obtain ⟨rfl,rfl⟩ := hz
  have hd : (decide ((1 : Int) ≤ size) && decide (size ≤ 65536)) = false := by
   simp only [Bool.and_eq_false_iff,decide_eq_false_iff_not]
   omega
  have HD := Hd hd
  clear hd
  go_enter Tryz.func145,Tryz.ntmps145
  go_wp2_with fail
  rw [← hw1]
  clear hw1
  refine (Au9 _ _ _ _).mono ?_
  rintro e w2 ⟨rfl,rfl⟩
  rw [HD.out]
  go_wp2_with fail
  change bodyPost _ _ _ _ _ (put4 w2 w.heap.size (.string ⟨#[]⟩) (.int .i64 0) (.int .i64 0) (.int .i64 0))
  obtain ⟨c0,c1,c2,c3⟩ := Ae8 HBK.out (.string ⟨#[]⟩) (.int .i64 0) (.int .i64 0) (.int .i64 0)
  exact bodyPost_ret (v := (.tuple #[.agg #[.string ⟨#[]⟩,.int .i64 0,.int .i64 0,.int .i64 0],.int .i64 22])) (by simp [results,Tryz.results145,go_sem,c0,c1,c2,c3]) rfl ⟨rfl,Acf HB1.out (Nat.le_refl _) (.string ⟨#[]⟩) (.int .i64 0) (.int .i64 0) (.int .i64 0)⟩
 ·rw [if_neg h] at hz
  simp only [Prod.mk.injEq] at hz
  obtain ⟨rfl,rfl⟩ := hz
  have hd : (decide ((1 : Int) ≤ size) && decide (size ≤ 65536)) = true := by
   simp only [Bool.and_eq_true,decide_eq_true_eq]
   omega
  have HD := Hd hd
  clear hd
  go_enter Tryz.func145,Tryz.ntmps145
  go_wp2_with fail
  rw [← hw1]
  clear hw1
  refine (Au9 _ _ _ _).mono ?_
  rintro e w2 ⟨rfl,rfl⟩
  rw [HD.out]
  go_wp2_with fail
  change bodyPost _ _ _ _ _ (put4 w2 w.heap.size (.string ⟨#[]⟩) (.int .i64 1) (.int .i64 1) (.int .i64 size))
  obtain ⟨c0,c1,c2,c3⟩ := Ae8 HBK.out (.string ⟨#[]⟩) (.int .i64 1) (.int .i64 1) (.int .i64 size)
  exact bodyPost_ret (v := (.tuple #[.agg #[.string ⟨#[]⟩,.int .i64 1,.int .i64 1,.int .i64 size],.int .i64 0])) (by simp [results,Tryz.results145,go_sem,c0,c1,c2,c3]) rfl ⟨rfl,Acf HB1.out (Nat.le_refl _) (.string ⟨#[]⟩) (.int .i64 1) (.int .i64 1) (.int .i64 size)⟩
end Go.Proofs.YtkdfbliiblojoaaGreatDoor
