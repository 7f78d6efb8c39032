import Derived.Test.YtkdfbliiblojoaaGreatDoorK18
import Derived.Shelf.SlicesE.Clone
set_option linter.all false
set_option maxRecDepth 100000
set_option maxHeartbeats 64000000
namespace Go.Proofs.YtkdfbliiblojoaaGreatDoor
open Go Go.RowKit
def Asd (B g : Nat) (Z : Krn × List Int × Int) (w : World) (e : Ending) (w' : World) : Prop :=
 e = .returned (.int .i64 Z.2.2) ∧ Below B w w' ∧ (Z.2.2 = 0 → ∃ A',Wk w' B g A' Z.1 Z.2.1)
theorem Ast {L : List Ino} {np np' : Nat} {o : Opn} (h : np ≤ np') (hk : Ad8 L np o = true) : Ad8 L np' o = true := by
 have he : endB np o = true → endB np' o = true := fun h1 => by
  obtain ⟨⟨n,h2,h3⟩,h4⟩ := Aq6.1 h1
  exact Aq6.2 ⟨⟨n,by omega,h3⟩,h4⟩
 unfold Ad8 at hk ⊢
 split at hk
 ·rename_i e; rw [if_pos e]; exact hk
 rename_i e0
 rw [if_neg e0]
 split at hk
 ·rename_i e; rw [if_pos e]; exact hk
 rename_i e1
 rw [if_neg e1]
 split at hk
 ·rename_i e
  rw [if_pos e]
  rw [Bool.and_eq_true] at hk ⊢
  exact ⟨he hk.1,hk.2⟩
 rename_i e2
 rw [if_neg e2]
 split at hk
 ·rename_i e
  rw [if_pos e]
  rw [Bool.and_eq_true] at hk ⊢
  exact ⟨he hk.1,hk.2⟩
 rename_i e3
 rw [if_neg e3]
 exact hk
theorem Ari {L L' : List Ino} {np : Nat} {o : Opn} (h : Aer L L') (hk : Ad8 L np o = true) : Ad8 L' np o = true := by
 have he : Ag5 L o = true → Ag5 L' o = true := fun h1 => by
  obtain ⟨h2,n,hn,h3,h4⟩ := Atn.1 h1
  obtain ⟨hn',h5⟩ := h n hn h4
  exact Atn.2 ⟨h2,n,hn',h3,h5⟩
 unfold Ad8 at hk ⊢
 split at hk
 ·rename_i e; rw [if_pos e]; exact hk
 rename_i e0
 rw [if_neg e0]
 split at hk
 ·rename_i e; rw [if_pos e]; exact he hk
 rename_i e1
 rw [if_neg e1]
 exact hk
theorem Ala {K : Krn} {f f' : List Int} {n : Nat} {K' : Krn} (hL : Led K f n) (hf : f'.getD n 0 = f.getD n 0) (ho : ∀ i (hi : i < K.opens.length),f.getD n 0 = (i : Int) + 1 → K.opens[i].kind ≠ 0 → ∃ hi' : i < K'.opens.length,K'.opens[i] = K.opens[i]) (ht : Aer K.tree K'.tree) (hp : K.pipes.length ≤ K'.pipes.length) : Led K' f' n := by
 unfold Led at hL ⊢
 rw [hf]
 rcases hL with h | ⟨j,hj,h1,h2,h3,h4,h5⟩
 ·exact .inl h
 ·obtain ⟨hj',e⟩ := ho j hj h1 h2
  refine .inr ⟨j,hj',h1,?_⟩
  rw [e]
  exact ⟨h2,Ari ht (Ast hp h3),h4,h5⟩
theorem Axb {K : Krn} {f : List Int} {q u : Nat} (hq : Led K f q) (hu : Led K f u) (hne : q ≠ u) (h2 : ∀ j (hj : j < K.opens.length),f.getD q 0 = (j : Int) + 1 → f.getD u 0 = (j : Int) + 1 → 2 ≤ K.opens[j].refs) : Led (Aat K f q).1 (Aat K f q).2 u := by
 have hfu := Aks K f hne
 unfold Aat at hfu ⊢
 rcases hq with h0 | ⟨j,hj,h1,hk,h3,h4,h5⟩
 ·rw [if_pos h0]; exact hu
 ·rw [if_neg (by omega),h1,show ((j : Int) + 1 - 1).toNat = j by omega] at hfu ⊢
  show Led (Aa5 K j) (f.set q 0) u
  unfold Led at hu ⊢
  rw [hfu]
  rcases hu with h | ⟨i,hi,i1,i2,i3,i4,i5⟩
  ·exact .inl h
  ·obtain ⟨t1,-,-,-,-⟩ := Ais K j
   refine .inr ⟨i,by rw [Ab6]; exact hi,i1,?_⟩
   rw [t1,Ad5]
   by_cases e : j = i
   ·subst e
    have hr := h2 j hj h1 i1
    have hO : (Aa5 K j).opens[j]'(by rw [Ab6]; exact hj) = { K.opens[j] with refs := K.opens[j].refs - 1 } := by simp only [Acm K j hj (show K.opens[j].refs ≠ 1 by omega),List.getElem_set_self]
    rw [hO]
    refine ⟨hk,?_,by show 1 ≤ K.opens[j].refs - 1; omega,by show K.opens[j].refs - 1 ≤ 1000; omega⟩
    unfold Ad8 at i3 ⊢
    simp only
    rw [if_neg i2] at i3 ⊢
    exact i3
   ·rw [Aco K j i e hi]
    exact ⟨i2,i3,i4,i5⟩
theorem Avd {P : List Pip} (h : ∀ i (hi : i < P.length),Abw P[i] = true) (n : Nat) (p : Pip) (hp : n < P.length → Abw p = true) (i : Nat) (hi : i < (P.set n p).length) : Abw (P.set n p)[i] = true := by
 have hi' : i < P.length := by rw [List.length_set] at hi; exact hi
 rw [List.getElem_set]
 split
 ·rename_i e; exact hp (by omega)
 ·exact h i hi'
theorem Avt {K : Krn} {f : List Int} {q : Nat} (h : Agu K) (hL : Led K f q) : Agu (Aat K f q).1 := by
 unfold Aat
 rcases hL with h0 | ⟨j,hj,h1,-⟩
 ·rw [if_pos h0]; exact h
 ·rw [if_neg (by omega),h1,show ((j : Int) + 1 - 1).toNat = j by omega]
  show Agu (Aa5 K j)
  by_cases hr : K.opens[j].refs = 1
  ·by_cases hk : K.opens[j].kind = 2 ∨ K.opens[j].kind = 3
   ·have e : (Aa5 K j).pipes = K.pipes.set K.opens[j].at_.toNat (Aa1 (K.pipes.getD K.opens[j].at_.toNat Ab9) (K.opens[j].kind == 2)) := by rw [Af8 K j hj hr,if_pos hk]
    unfold Agu
    rw [e]
    exact Avd h _ _ fun hn => by rw [Abd _ _ hn]; exact Ajh (h _ hn) _
   ·have e : (Aa5 K j).pipes = K.pipes := by rw [Af8 K j hj hr,if_neg hk]
    unfold Agu
    rw [e]
    exact h
  ·have e : (Aa5 K j).pipes = K.pipes := by rw [Acm K j hj hr]
   unfold Agu
   rw [e]
   exact h
theorem Atv {K : Krn} {j : Nat} (hR : Aed K) (hj : j < K.opens.length) (h : K.opens[j].refs ≤ 999) : Aed (Abe K j) := by
 intro i hi
 have hi' : i < K.opens.length := by rw [Ac1] at hi; exact hi
 rw [Afr hj i hi']
 split
 ·have := (hR j hj).1
  exact ⟨by show 0 ≤ K.opens[j].refs + 1; omega,by show K.opens[j].refs + 1 ≤ 1000; omega⟩
 ·exact hR i hi'
theorem Akp {K : Krn} {f : List Int} (h : FitK K f) : Aed K := fun i hi => by
 rcases h.opens i hi with hg | ⟨h1,h2,-⟩
 ·rw [hg]; exact ⟨by decide,by decide⟩
 ·exact ⟨by omega,h2⟩
theorem Af6 {K : Krn} {f : List Int} (h : FitK K f) : Agu K := fun i hi => (h.pipes i hi).1
theorem Akm {K : Krn} {o : Opn} (h : Aed K) (ho : 0 ≤ o.refs ∧ o.refs ≤ 1000) : Aed { K with opens := (putK K.opens o).1 } := by
 obtain ⟨⟨O',a⟩,hz⟩ : ∃ z,putK K.opens o = z := ⟨_,rfl⟩
 rw [hz]
 by_cases ha : a = 0
 ·subst ha
  have : O' = K.opens := by
   unfold putK at hz
   split at hz
   ·simp only [Prod.mk.injEq] at hz
    omega
   ·split at hz
    ·exact (Prod.mk.inj hz).1.symm
    ·simp only [Prod.mk.injEq] at hz
     omega
  subst this
  exact h
 ·rcases Ae5 hz ha with ⟨i,hi,h0,rfl,rfl⟩ | ⟨hlen,rfl,rfl⟩
  ·intro q hq
   have hq' : q < K.opens.length := by
    have : q < (K.opens.set i o).length := hq
    rw [List.length_set] at this
    exact this
   show 0 ≤ ((K.opens.set i o)[q]'(by rw [List.length_set]; exact hq')).refs ∧ _
   rw [List.getElem_set]
   split
   ·exact ho
   ·exact h q hq'
  ·intro q hq
   have hq' : q < K.opens.length + 1 := by
    have : q < (K.opens ++ [o]).length := hq
    rw [List.length_append] at this
    exact this
   show 0 ≤ ((K.opens ++ [o])[q]'(by rw [List.length_append]; exact hq')).refs ∧ _
   by_cases e : q < K.opens.length
   ·rw [List.getElem_append_left e]; exact h q e
   ·obtain rfl : q = K.opens.length := by omega
    rw [List.getElem_concat_length rfl]
    exact ho
theorem Ayc {K : Krn} {f : List Int} (h : FitK K f) {q u : Nat} (hq : q < 10) (hu : u < 10) (hne : q ≠ u) (j : Nat) (hj : j < K.opens.length) (h1 : f.getD q 0 = (j : Int) + 1) (h2 : f.getD u 0 = (j : Int) + 1) : 2 ≤ K.opens[j].refs := by
 have hql : q < f.length := by rw [h.len]; exact hq
 have hul : u < f.length := by rw [h.len]; exact hu
 rw [h.at_zero hql] at h1
 rw [h.at_zero hul] at h2
 have hc := Au8 f q u hql hul hne (by rw [h1,h2])
 rcases h.fds q hql with h0 | ⟨j2,hj2,h3,-,h5⟩
 ·omega
 ·obtain rfl : j = j2 := by omega
  omega
theorem Azq (a : Option Addr) (cap : Nat) (m b ino off n : Int) (L : List Ino) (_hF : FitP L m b) (s : List UInt8) (er : Int) (hz : Afj L ino off n = (s,er)) (w : World) (hN : Aah w a cap L) :
  Calls Tryz.prog 130 #[.agg #[.slice a L.length cap,.int .i64 m,.int .i64 b],.int .i64 ino,.int .i64 off,.int .i64 n] w fun e w' => e = .returned (.tuple #[.string ⟨s.toArray⟩,.int .i64 er]) ∧ Below w.heap.size w w' := by
 have hz2 := hz
 unfold Afj at hz2
 obtain ⟨w1,hw1⟩ : ∃ w1,w1 = w.alloc (.cells #[.slice a L.length cap,.int .i64 m,.int .i64 b] 24) := ⟨_,rfl⟩
 have hb1 : Below w.heap.size w w1 := by rw [hw1]; exact Aab w _
 have HX := Hd (show ∀ W',Below w1.heap.size w1 W' → W'.cell? ⟨w.heap.size,0,none⟩ = some (.slice a L.length cap) ∧ W'.cell? ⟨w.heap.size,1,none⟩ = some (.int .i64 m) ∧ W'.cell? ⟨w.heap.size,2,none⟩ = some (.int .i64 b) from fun W' h => box3 (by rw [← hw1]; exact h))
 have HM := Hd (hN.below hb1)
 have HB1 := Hd hb1
 obtain ⟨rf,hrf⟩ : ∃ v,refW L ino (min off n) = v := ⟨_,rfl⟩
 have HRF := Hd hrf
 clear hN hb1 hrf hz
 go_enter Tryz.func130,Tryz.ntmps130
 go_wp2_with fail
 rw [← hw1]
 clear hw1
 refine (Alg _ _ _ _ _ _ L rf HRF.out _ HM.out).mono ?_
 rintro e w2 ⟨rfl,hb2⟩
 obtain ⟨q0,q1,q2⟩ := HX.out _ hb2
 have hql := Aaj q0
 have HB2 := Hd hb2
 clear hb2
 have hrf := HRF.out
 unfold refW at hrf
 by_cases h0 : rf = 0
 ·subst h0
  have h1 : Adm L ino = 0 := by
   by_cases h : Adm L ino = 0
   ·exact h
   ·rw [if_pos h] at hrf
    exact hrf
  rw [if_neg (by simpa using h1)] at hz2 hrf
  have h2 : ¬ (min off n < 0) := fun h => by rw [if_pos h] at hrf; exact absurd hrf (by decide)
  rw [if_neg (by omega)] at hz2
  simp only [Prod.mk.injEq] at hz2
  obtain ⟨hs,rfl⟩ := hz2
  obtain ⟨k,hk,rfl,-⟩ := Ajl h1
  rw [Aad L k hk] at hs
  obtain ⟨bb,o,rfl,hx⟩ := (HM.out.below HB2.out).2.2 k hk
  have x3 := hx.data
  have hxl := Aaj x3
  have hk0 : (0 : Int) ≤ (k : Int) := by omega
  have hk1 : (k : Int) < (L.length : Int) := by omega
  obtain ⟨D,hD⟩ : ∃ D : ByteArray,D = ⟨L[k].data.toArray⟩ := ⟨_,rfl⟩
  rw [← hD] at x3
  have hDl : D.data.toList = L[k].data := by rw [hD]
  obtain ⟨o1,rfl⟩ : ∃ o1 : Nat,off = (o1 : Int) := ⟨off.toNat,by omega⟩
  obtain ⟨n1,rfl⟩ : ∃ n1 : Nat,n = (n1 : Int) := ⟨n.toNat,by omega⟩
  obtain ⟨E1,hE1⟩ : ∃ E : ByteArray,E = ⟨(D.data.toList.drop (min o1 D.size)).toArray⟩ := ⟨_,rfl⟩
  obtain ⟨E2,hE2⟩ : ∃ E : ByteArray,E = ⟨(E1.data.toList.take (min n1 E1.size)).toArray⟩ := ⟨_,rfl⟩
  have c1 := fun W => Ap5 D (min (o1 : Int) (D.size : Int)) (min o1 D.size) (by omega) (by omega) W
  rw [← hE1] at c1
  have c2 := fun W => Akq E1 (min (n1 : Int) (E1.size : Int)) (min n1 E1.size) (by omega) (by omega) W
  rw [← hE2] at c2
  have hfin : E2 = ⟨s.toArray⟩ := by
   have e1 : D.size = L[k].data.length := by rw [← hDl]; exact Array.length_toList.symm
   have e4 : E1.data.toList = L[k].data.drop o1 := by rw [hE1,hDl,e1,Aor]
   have e5 : E1.size = (L[k].data.drop o1).length := by rw [← e4]; exact Array.length_toList.symm
   rw [hE2,e4,e5,Ao8,← hs,Int.toNat_natCast,Int.toNat_natCast]
  have HFIN := Hd hfin
  clear hx hs hD hDl hE1 hE2 hfin hrf h1 h2
  go_wp2_with fail
  go_ret2
  exact ⟨by rw [HFIN.out]; rfl,HB1.out.trans (HB2.out.mono HB1.out.size)⟩
 ·have h0b : (rf != 0) = true := by simpa using h0
  have hz3 : s = [] ∧ er = rf := by
   by_cases h : Adm L ino = 0
   ·rw [if_neg (by simpa using h)] at hz2 hrf
    by_cases h2 : min off n < 0
    ·rw [if_pos h2] at hrf
     rw [if_pos (by omega)] at hz2
     simp only [Prod.mk.injEq] at hz2
     exact ⟨hz2.1.symm,by omega⟩
    ·rw [if_neg h2] at hrf
     exact absurd hrf.symm h0
   ·rw [if_pos h] at hz2 hrf
    simp only [Prod.mk.injEq] at hz2
    exact ⟨hz2.1.symm,by omega⟩
  obtain ⟨rfl,rfl⟩ := hz3
  clear hz2 hrf
  go_wp2_with fail
  go_ret2
  exact ⟨rfl,HB1.out.trans (HB2.out.mono HB1.out.size)⟩
theorem Ale (K : Krn) (x : Opn) : (Abv K x).2.2 = 0 ∨ (Abv K x).2.2 = 24 := by
 unfold Abv layL
 split
 ·exact .inl rfl
 ·split
  ·exact .inr rfl
  ·exact .inl rfl
section
variable {B g : Nat} {A : KAd} {K : Krn} {f : List Int}
theorem Az5 (r u size : Int) (w : World) (hW : Wk w B g A K f) (hF : FitK K f) (hBw : B ≤ w.heap.size) :
  Calls Tryz.prog 64 #[.pointer (some ⟨g,0,none⟩),.int .i64 r,.int .i64 u,.int .i64 size] w (Asd B g (Afl K f r u size) w) := by
 have hpl := hF.np
 have hol := hF.no
 have HW := Hd hW
 have HBw := Hd hBw
 by_cases h1 : isFd r = false
 ·have HE := Hd (show Afl K f r u size = (K,f,9) by unfold Afl; rw [if_pos (.inl h1)])
  have HR := Hd h1
  rw [HE.out]
  clear hW hF hBw h1
  go_enter Tryz.func64,Tryz.ntmps64
  go_wp2_with fail
  refine (Adx r _).mono ?_
  rintro e w2 ⟨rfl,rfl⟩
  rw [HR.out]
  go_wp2_with fail
  go_ret
  exact ⟨rfl,Below.refl _ _,fun h => absurd h (show ¬ (9 : Int) = 0 by decide)⟩
 by_cases h2 : isFd u = false
 ·have HE := Hd (show Afl K f r u size = (K,f,9) by unfold Afl; rw [if_pos (.inr h2)])
  have HR := Hd (show isFd r = true by simpa using h1)
  have HU := Hd h2
  rw [HE.out]
  clear hW hF hBw h1 h2
  go_enter Tryz.func64,Tryz.ntmps64
  go_wp2_with fail
  refine (Adx r _).mono ?_
  rintro e w2 ⟨rfl,rfl⟩
  rw [HR.out]
  go_wp2_with fail
  refine (Adx u _).mono ?_
  rintro e w3 ⟨rfl,rfl⟩
  rw [HU.out]
  go_wp2_with fail
  go_ret
  exact ⟨rfl,Below.refl _ _,fun h => absurd h (show ¬ (9 : Int) = 0 by decide)⟩
 obtain ⟨q,rfl,hq⟩ := Ach (show isFd r = true by simpa using h1)
 obtain ⟨v,rfl,hv⟩ := Ach (show isFd u = true by simpa using h2)
 have HR := Hd (show isFd (q : Int) = true by simpa using h1)
 have HU := Hd (show isFd (v : Int) = true by simpa using h2)
 have hfd : ¬ (isFd (q : Int) = false ∨ isFd (v : Int) = false) := by rw [not_or]; exact ⟨h1,h2⟩
 by_cases h3 : (q : Int) = (v : Int)
 ·have HE := Hd (show Afl K f (q : Int) (v : Int) size = (K,f,22) by unfold Afl; rw [if_neg hfd,if_pos h3])
  have h3b : ((q : Int) == (v : Int)) = true := by simpa using h3
  rw [HE.out]
  clear hW hF hBw h1 h2 h3 hfd
  go_enter Tryz.func64,Tryz.ntmps64
  go_wp2_with fail
  refine (Adx (q : Int) _).mono ?_
  rintro e w2 ⟨rfl,rfl⟩
  rw [HR.out]
  go_wp2_with fail
  refine (Adx (v : Int) _).mono ?_
  rintro e w3 ⟨rfl,rfl⟩
  rw [HU.out]
  go_wp2_with fail
  go_ret
  exact ⟨rfl,Below.refl _ _,fun h => absurd h (show ¬ (22 : Int) = 0 by decide)⟩
 have h3b : ((q : Int) == (v : Int)) = false := by simpa using h3
 have hqv : q ≠ v := fun e => h3 (by rw [e])
 have HQV := Hd hqv
 have HNP := Hd (Av4 size w hW (by omega) hBw)
 by_cases h4 : (Aao size).2 = 0
 rotate_left
 ·have HE := Hd (show Afl K f (q : Int) (v : Int) size = (K,f,(Aao size).2) by unfold Afl; rw [if_neg hfd,if_neg h3,if_pos h4])
  rw [HE.out]
  obtain ⟨en,hen⟩ : ∃ en,(Aao size).2 = en := ⟨_,rfl⟩
  have HEN := Hd hen
  rw [hen]
  have h4b : (en != 0) = true := by rw [← hen]; simpa using h4
  have H4 := Hd h4
  clear hW hF h1 h2 h3 h4 hfd hqv hen
  go_enter Tryz.func64,Tryz.ntmps64
  go_wp2_with fail
  refine (Adx (q : Int) _).mono ?_
  rintro e w2 ⟨rfl,rfl⟩
  rw [HR.out]
  go_wp2_with fail
  refine (Adx (v : Int) _).mono ?_
  rintro e w3 ⟨rfl,rfl⟩
  rw [HU.out]
  go_wp2_with fail
  refine HNP.out.mono ?_
  rintro e w4 ⟨ha,-⟩
  obtain ⟨rfl,hb4⟩ := ha H4.out
  rw [HEN.out]
  have HB4 := Hd hb4
  clear hb4 ha
  go_wp2_with fail
  go_ret
  exact ⟨rfl,HB4.out.mono hBw,fun h => absurd h (by have := H4.out; rw [HEN.out] at this; exact this)⟩
 -- a new pipe can be
 obtain ⟨at_,hat⟩ : ∃ a,Ac7 K.pipes = a := ⟨_,rfl⟩
 obtain ⟨np,hnp⟩ : ∃ p,(Aao size).1 = p := ⟨_,rfl⟩
 have hlp := Av3 K np (by omega)
 rw [hat] at hlp
 by_cases h5 : 32 ≤ at_
 ·have HE := Hd (show Afl K f (q : Int) (v : Int) size = (K,f,24) by unfold Afl; rw [if_neg hfd,if_neg h3,if_neg (by simpa using h4),hat,if_pos h5])
  rw [HE.out]
  rw [if_pos h5] at hlp
  have HLP := Hd hlp
  have HNN := Hd hnp
  have H4 := Hd h4
  clear hW hF h1 h2 h3 h4 h5 hfd hqv hlp hnp hat
  go_enter Tryz.func64,Tryz.ntmps64
  go_wp2_with fail
  refine (Adx (q : Int) _).mono ?_
  rintro e w2 ⟨rfl,rfl⟩
  rw [HR.out]
  go_wp2_with fail
  refine (Adx (v : Int) _).mono ?_
  rintro e w3 ⟨rfl,rfl⟩
  rw [HU.out]
  go_wp2_with fail
  refine HNP.out.mono ?_
  rintro e w4 ⟨-,ha⟩
  obtain ⟨rfl,A4,-,hs4⟩ := ha H4.out
  rw [HNN.out,HLP.out]
  have HS4 := Hd hs4
  clear hs4 ha
  go_wp2_with fail
  go_ret
  exact ⟨rfl,HW.out.low HS4.out HBw.out,fun h => absurd h (show ¬ (24 : Int) = 0 by decide)⟩
 rw [if_neg h5] at hlp
 have h5' : at_ < 32 := by omega
 obtain ⟨P',hP'⟩ : ∃ P,Adf K.pipes at_ np = P := ⟨_,rfl⟩
 rw [hP'] at hlp
 obtain ⟨K2,hK2⟩ : ∃ k : Krn,k = { K with pipes := P' } := ⟨_,rfl⟩
 have hK2o : K2.opens = K.opens := by rw [hK2]
 obtain ⟨⟨O1,i1,e1⟩,hz1⟩ : ∃ z,Abv K2 ⟨2,(at_ : Int),0,1,0⟩ = z := ⟨_,rfl⟩
 have hp1 := Ak0 K2 ⟨2,(at_ : Int),0,1,0⟩
 rw [hz1,hK2o] at hp1
 simp only at hp1
 have he1 := Ale K2 ⟨2,(at_ : Int),0,1,0⟩
 rw [hz1] at he1
 simp only at he1
 have HLP := Hd hlp
 have HNN := Hd hnp
 have H4 := Hd h4
 have HK2 := Hd hK2
 have HZ1 := Hd hz1
 by_cases h6 : e1 = 0
 rotate_left
 ·obtain rfl : e1 = 24 := he1.resolve_left h6
  have HE := Hd (show Afl K f (q : Int) (v : Int) size = (K,f,24) by unfold Afl; rw [if_neg hfd,if_neg h3,if_neg (by simpa using h4),hat,if_neg h5,hp1,if_pos (by simp)])
  rw [HE.out]
  clear hW hF h1 h2 h3 h4 h5 hfd hqv hlp hnp hat hK2 hz1 hp1 he1 h6 hP' h5'
  go_enter Tryz.func64,Tryz.ntmps64
  go_wp2_with fail
  refine (Adx (q : Int) _).mono ?_
  rintro e w2 ⟨rfl,rfl⟩
  rw [HR.out]
  go_wp2_with fail
  refine (Adx (v : Int) _).mono ?_
  rintro e w3 ⟨rfl,rfl⟩
  rw [HU.out]
  go_wp2_with fail
  refine HNP.out.mono ?_
  rintro e w4 ⟨-,ha⟩
  obtain ⟨rfl,A4,hw4,hs4⟩ := ha H4.out
  rw [HNN.out,HLP.out] at hw4 ⊢
  simp only at hw4 ⊢
  rw [← HK2.out] at hw4
  have HW4 := Hd hw4
  have HS4 := Hd hs4
  clear hw4 hs4 ha
  go_wp2_with fail
  refine (Afa 2 (at_ : Int) 0 1 0 w4 HW4.out (by rw [hK2o]; omega) (Nat.le_trans HBw.out HS4.out.off.size)).mono ?_
  rintro e w5 ⟨rfl,A5,-,hs5⟩
  rw [HZ1.out]
  have HS5 := Hd (HS4.out.trans hs5)
  clear hs5
  go_wp2_with fail
  go_ret
  exact ⟨rfl,HW.out.low HS5.out HBw.out,fun h => absurd h (show ¬ (24 : Int) = 0 by decide)⟩
 subst h6
 obtain ⟨K3,hK3⟩ : ∃ k : Krn,k = { K2 with opens := O1 } := ⟨_,rfl⟩
 have hK3o : K3.opens = O1 := by rw [hK3]
 obtain ⟨⟨O2,i2,e2⟩,hz2⟩ : ∃ z,Abv K3 ⟨3,(at_ : Int),0,2,0⟩ = z := ⟨_,rfl⟩
 have hp2 := Ak0 K3 ⟨3,(at_ : Int),0,2,0⟩
 rw [hz2,hK3o] at hp2
 simp only at hp2
 have he2 := Ale K3 ⟨3,(at_ : Int),0,2,0⟩
 rw [hz2] at he2
 simp only at he2
 simp only [if_pos] at hp1
 have hO1l : O1.length ≤ 65 := by
  rcases Ae5 hp1 (by omega) with ⟨i,hi,-,rfl,-⟩ | ⟨hl,rfl,-⟩
  ·rw [List.length_set]; omega
  ·rw [List.length_append]; simp; omega
 have HZ2 := Hd hz2
 have HK3 := Hd hK3
 by_cases h7 : e2 = 0
 rotate_left
 ·obtain rfl : e2 = 24 := he2.resolve_left h7
  have HE := Hd (show Afl K f (q : Int) (v : Int) size = (K,f,24) by
   unfold Afl
   rw [if_neg hfd,if_neg h3,if_neg (by simpa using h4),hat,if_neg h5,hp1,if_neg (by simp; omega),hp2,if_pos (by simp)])
  rw [HE.out]
  clear hW hF h1 h2 h3 h4 h5 hfd hqv hlp hnp hat hK2 hz1 hp1 he1 hP' h5' hz2 hp2 he2 hK3 h7
  go_enter Tryz.func64,Tryz.ntmps64
  go_wp2_with fail
  refine (Adx (q : Int) _).mono ?_
  rintro e w2 ⟨rfl,rfl⟩
  rw [HR.out]
  go_wp2_with fail
  refine (Adx (v : Int) _).mono ?_
  rintro e w3 ⟨rfl,rfl⟩
  rw [HU.out]
  go_wp2_with fail
  refine HNP.out.mono ?_
  rintro e w4 ⟨-,ha⟩
  obtain ⟨rfl,A4,hw4,hs4⟩ := ha H4.out
  rw [HNN.out,HLP.out] at hw4 ⊢
  simp only at hw4 ⊢
  rw [← HK2.out] at hw4
  have HW4 := Hd hw4
  have HS4 := Hd hs4
  clear hw4 hs4 ha
  go_wp2_with fail
  refine (Afa 2 (at_ : Int) 0 1 0 w4 HW4.out (by rw [hK2o]; omega) (Nat.le_trans HBw.out HS4.out.off.size)).mono ?_
  rintro e w5 ⟨rfl,A5,hw5,hs5⟩
  rw [HZ1.out] at hw5 ⊢
  simp only at hw5 ⊢
  rw [← HK3.out] at hw5
  have HW5 := Hd hw5
  have HS5 := Hd (HS4.out.trans hs5)
  clear hs5 hw5
  go_wp2_with fail
  refine (Afa 3 (at_ : Int) 0 2 0 w5 HW5.out (by rw [hK3o]; omega) (Nat.le_trans HBw.out HS5.out.off.size)).mono ?_
  rintro e w6 ⟨rfl,A6,-,hs6⟩
  rw [HZ2.out]
  have HS6 := Hd (HS5.out.trans hs6)
  clear hs6
  go_wp2_with fail
  go_ret
  exact ⟨rfl,HW.out.low HS6.out HBw.out,fun h => absurd h (show ¬ (24 : Int) = 0 by decide)⟩
 subst h7
 simp only [if_pos] at hp2
 obtain ⟨K4,hK4⟩ : ∃ k : Krn,k = { K3 with opens := O2 } := ⟨_,rfl⟩
 have hK4o : K4.opens = O2 := by rw [hK4]
 have hK4p : K4.pipes = P' := by rw [hK4,hK3,hK2]
 have hK4t : K4.tree = K.tree := by rw [hK4,hK3,hK2]
 have HE := Hd (show Afl K f (q : Int) (v : Int) size = ((Adg (Adg K4 f q i1).1 (Adg K4 f q i1).2 v i2).1,(Adg (Adg K4 f q i1).1 (Adg K4 f q i1).2 v i2).2,0) by
  unfold Afl
  rw [if_neg hfd,if_neg h3,if_neg (by simpa using h4),hat,if_neg h5,hp1,if_neg (by simp; omega),hp2,if_neg (by simp; omega),hnp,hP']
  simp only
  rw [Int.toNat_natCast,Int.toNat_natCast,show ((i1 : Int) + 1 - 1).toNat = i1 by omega,show ((i2 : Int) + 1 - 1).toNat = i2 by omega]
  have e : ({ K with pipes := P',opens := O2 } : Krn) = K4 := by rw [hK4,hK3,hK2]
  rw [e])
 -- what the two leadings meet
 obtain ⟨j1,ej1,⟨hj1,hOj1⟩,hkeep1⟩ := Ag1 hp1 (by omega)
 obtain rfl : i1 = j1 := by omega
 obtain ⟨j2,ej2,⟨hj2,hOj2⟩,hkeep2⟩ := Ag1 hp2 (by omega)
 obtain rfl : i2 = j2 := by omega
 obtain ⟨hjj,hj1',hOj1'⟩ := hkeep2 i1 hj1 (by rw [hOj1]; exact (show (2 : Int) ≠ 0 by decide))
 have hkeep : ∀ i (hi : i < K.opens.length),K.opens[i].kind ≠ 0 → ∃ hi' : i < K4.opens.length,K4.opens[i] = K.opens[i] := fun i hi hk => by
  obtain ⟨-,a1,a2⟩ := hkeep1 i hi hk
  obtain ⟨-,a3,a4⟩ := hkeep2 i a1 (by rw [a2]; exact hk)
  exact ⟨by rw [hK4o]; exact a3,by simp only [hK4o]; rw [a4,a2]⟩
 have hne : ∀ i (hi : i < K.opens.length),K.opens[i].kind ≠ 0 → i ≠ i1 ∧ i ≠ i2 := fun i hi hk => by
  obtain ⟨a0,a1,a2⟩ := hkeep1 i hi hk
  obtain ⟨a3,-,-⟩ := hkeep2 i a1 (by rw [a2]; exact hk)
  exact ⟨a0,a3⟩
 have hlenP : K.pipes.length ≤ K4.pipes.length := by
  rw [hK4p,← hP']
  unfold Adf
  split
  ·rw [List.length_append]; omega
  ·rw [List.length_set]; exact Nat.le_refl _
 have hL4 : ∀ n,n < 10 → Led K4 f n := fun n hn => Ala (Ad0 hF hn) rfl (fun i hi _ => hkeep i hi) (by rw [hK4t]; exact Ads _) hlenP
 have hP4 : Agu K4 := by
  have hfn := (Ap2 h4).1
  rw [hnp] at hfn
  unfold Agu
  rw [hK4p,← hP']
  unfold Adf
  split
  ·intro i hi
   rw [List.length_append] at hi
   by_cases e : i < K.pipes.length
   ·rw [List.getElem_append_left e]; exact Af6 hF i e
   ·have e2 : i = K.pipes.length := by simp at hi; omega
    subst e2
    rw [List.getElem_concat_length rfl]
    exact hfn
  ·exact Avd (Af6 hF) _ _ fun _ => hfn
 have hR4 : Aed K4 := by
  have a1 : Aed { K with opens := O1 } := by
   have h := Akm (K := K) (o := ⟨2,(at_ : Int),0,1,0⟩) (Akp hF) (show (0 : Int) ≤ 0 ∧ (0 : Int) ≤ 1000 by decide)
   rw [hp1] at h
   exact h
  have a2 : Aed { K with opens := O2 } := by
   have h := Akm (K := { K with opens := O1 }) (o := ⟨3,(at_ : Int),0,2,0⟩) a1 (show (0 : Int) ≤ 0 ∧ (0 : Int) ≤ 1000 by decide)
   have h' : Aed { K with opens := (putK O1 ⟨3,(at_ : Int),0,2,0⟩).1 } := h
   rw [hp2] at h'
   exact h'
  intro i hi
  have hi' : i < O2.length := by rw [hK4o] at hi; exact hi
  have h := a2 i hi'
  simp only [hK4o]
  exact h
 have hO2l : O2.length ≤ 66 := by
  rcases Ae5 hp2 (by omega) with ⟨i,hi,-,rfl,-⟩ | ⟨hl,rfl,-⟩
  ·rw [List.length_set]; omega
  ·rw [List.length_append]; simp; omega
 have hol4 : K4.opens.length ≤ 1000 := by rw [hK4o]; omega
 have hj14 : i1 < K4.opens.length := by rw [hK4o]; exact hj1'
 have hj24 : i2 < K4.opens.length := by rw [hK4o]; exact hj2
 -- the first leading
 have hls := (Ae1 K4 f q).1
 have hj1s : i1 < (Aat K4 f q).1.opens.length := by rw [hls]; exact hj14
 have h1s : (Aat K4 f q).1.opens[i1] = K4.opens[i1] := by
  rcases hL4 q hq with h0 | ⟨j,hj,a1,a2,-⟩
  ·have e : Aat K4 f q = (K4,f) := if_pos h0
   simp only [e]
  ·have hold := Ad0 hF hq
   rcases hold with h0 | ⟨j',hj',b1,b2,-⟩
   ·omega
   ·obtain rfl : j = j' := by omega
    have e : (Aat K4 f q).1 = Aa5 K4 j := by
     unfold Aat
     rw [if_neg (by omega),a1,show ((j : Int) + 1 - 1).toNat = j by omega]
    simp only [e]
    exact Aco K4 j i1 (hne j hj' b2).1 hj14
 have hR1 : Aed (Adg K4 f q i1).1 := Atv (Alr hR4 (hL4 q hq)) hj1s (by
  rw [h1s]
  have e : K4.opens[i1] = ⟨2,(at_ : Int),0,1,0⟩ := by simp only [hK4o]; rw [hOj1',hOj1]
  rw [e]
  exact (show (0 : Int) ≤ 999 by decide))
 have hP1 : Agu (Adg K4 f q i1).1 := Avt hP4 (hL4 q hq)
 have hl1 : (Adg K4 f q i1).1.opens.length = K4.opens.length := by
  show (Abe _ _).opens.length = _
  rw [Ac1,hls]
 have hL1 : Led (Adg K4 f q i1).1 (Adg K4 f q i1).2 v := by
  have hsv : Led (Aat K4 f q).1 (Aat K4 f q).2 v := Axb (hL4 q hq) (hL4 v hv) hqv fun j hj a1 a2 => by
   have hold := Ad0 hF hq
   rcases hold with h0 | ⟨j',hj',b1,b2,-⟩
   ·omega
   ·obtain rfl : j = j' := by omega
    have := Ayc hF hq hv hqv j hj' b1 a2
    obtain ⟨h9,e9⟩ := hkeep j hj' b2
    rw [e9]
    exact this
  refine Ala (K := (Aat K4 f q).1) (f := (Aat K4 f q).2) hsv ?_ ?_ (Ads _) (Nat.le_refl _)
  ·show ((Aat K4 f q).2.set q ((i1 : Int) + 1)).getD v 0 = _
   rw [List.getD_eq_getElem?_getD,List.getElem?_set_ne hqv,← List.getD_eq_getElem?_getD]
  ·intro i hi a1 a2
   have hi4 : i < K4.opens.length := by rw [hls] at hi; exact hi
   have hni : i ≠ i1 := by
    rw [Aks _ _ hqv] at a1
    have hold := Ad0 hF hv
    rcases hold with h0 | ⟨j',hj',b1,b2,-⟩
    ·omega
    ·obtain rfl : i = j' := by omega
     exact (hne i hj' b2).1
   refine ⟨by rw [hl1]; exact hi4,?_⟩
   show (Abe (Aat K4 f q).1 i1).opens[i]'(by rw [Ac1]; exact hi) = _
   rw [Afr hj1s i hi,if_neg (fun e => hni e.symm)]
 have HF1 := Hd (fun W (hW4 : ∃ A',Wk W B g A' K4 f ∧ Stepw g A w A' W) => hW4)
 have HLD1 := Hd (fun A' W (h : Wk W B g A' K4 f) => Apa q i1 hq W h hol4 (hL4 q hq) hP4 hR4 hj14)
 have HLD2 := Hd (fun A' W (h : Wk W B g A' (Adg K4 f q i1).1 (Adg K4 f q i1).2) => Apa v i2 hv W h (by rw [hl1]; exact hol4) hL1 hP1 hR1 (by rw [hl1]; exact hj24))
 rw [HE.out]
 have HK4 := Hd hK4
 have hol2 : K2.opens.length ≤ 1000 := by rw [hK2o]; omega
 have hol3 : K3.opens.length ≤ 1000 := by rw [hK3o]; omega
 clear hW hF h1 h2 h3 h4 h5 hfd hqv hlp hnp hat hK2 hz1 hp1 he1 hP' h5' hz2 hp2 he2 hK3 hK4 hkeep hne hlenP hL4 hP4 hR4 hkeep1 hkeep2 hls hj1s h1s hR1 hP1 hl1 hL1 hO1l hO2l hol4 hj14 hj24 hOj1 hOj2 hOj1' ej1 ej2 hj1 hj2 hj1' hjj hK4o hK4p hK4t hK2o hK3o HF1
 go_enter Tryz.func64,Tryz.ntmps64
 go_wp2_with fail
 refine (Adx (q : Int) _).mono ?_
 rintro e w2 ⟨rfl,rfl⟩
 rw [HR.out]
 go_wp2_with fail
 refine (Adx (v : Int) _).mono ?_
 rintro e w3 ⟨rfl,rfl⟩
 rw [HU.out]
 go_wp2_with fail
 refine HNP.out.mono ?_
 rintro e w4 ⟨-,ha⟩
 obtain ⟨rfl,A4,hw4,hs4⟩ := ha H4.out
 rw [HNN.out,HLP.out] at hw4 ⊢
 simp only at hw4 ⊢
 rw [← HK2.out] at hw4
 have HW4 := Hd hw4
 have HS4 := Hd hs4
 clear hw4 hs4 ha
 go_wp2_with fail
 refine (Afa 2 (at_ : Int) 0 1 0 w4 HW4.out hol2 (Nat.le_trans HBw.out HS4.out.off.size)).mono ?_
 rintro e w5 ⟨rfl,A5,hw5,hs5⟩
 rw [HZ1.out] at hw5 ⊢
 simp only at hw5 ⊢
 rw [← HK3.out] at hw5
 have HW5 := Hd hw5
 have HS5 := Hd (HS4.out.trans hs5)
 clear hs5 hw5
 go_wp2_with fail
 refine (Afa 3 (at_ : Int) 0 2 0 w5 HW5.out hol3 (Nat.le_trans HBw.out HS5.out.off.size)).mono ?_
 rintro e w6 ⟨rfl,A6,hw6,hs6⟩
 rw [HZ2.out] at hw6 ⊢
 simp only at hw6 ⊢
 rw [← HK4.out] at hw6
 have HW6 := Hd hw6
 have HS6 := Hd (HS5.out.trans hs6)
 clear hs6 hw6
 go_wp2_with fail
 refine (HLD1.out _ _ HW6.out).mono ?_
 rintro e w7 ⟨rfl,hw7,hs7⟩
 have HW7 := Hd hw7
 have HS7 := Hd (HS6.out.trans hs7)
 clear hs7 hw7
 go_wp2_with fail
 refine (HLD2.out _ _ HW7.out).mono ?_
 rintro e w8 ⟨rfl,hw8,hs8⟩
 have HW8 := Hd hw8
 have HS8 := Hd (HS7.out.trans hs8)
 clear hs8 hw8
 go_wp2_with fail
 go_ret
 exact ⟨rfl,HW.out.low HS8.out HBw.out,fun _ => ⟨_,HW8.out⟩⟩
end
theorem Az8 (p : Pip) (hw0 : 0 ≤ p.wr) (n : Int) (q : Pip) (t : List UInt8) (er : Int) (hz : Aca p n = (q,t,er)) (w : World) :
  Calls Tryz.prog 133 #[.agg #[.string ⟨p.data.toArray⟩,.int .i64 p.rd,.int .i64 p.wr,.int .i64 p.cap],.int .i64 n] w fun e w' => e = .returned (.tuple #[.agg #[.string ⟨q.data.toArray⟩,.int .i64 q.rd,.int .i64 q.wr,.int .i64 q.cap],.string ⟨t.toArray⟩,.int .i64 er]) ∧ Below w.heap.size w w' := by
 obtain ⟨D,hD⟩ : ∃ D : ByteArray,D = ⟨p.data.toArray⟩ := ⟨_,rfl⟩
 obtain ⟨hDl,hDs⟩ := Af2 hD
 have HD := Hd hD
 rw [← hD]
 clear hD
 have HEND := Hd (Ai4 w)
 unfold Aca at hz
 by_cases h1 : n < 1
 ·rw [if_pos h1] at hz
  simp only [Prod.mk.injEq] at hz
  obtain ⟨rfl,rfl,rfl⟩ := hz
  have hd1 : decide (n < 1) = true := decide_eq_true h1
  rw [← HD.out]
  clear hDl hDs
  go_enter Tryz.func133,Tryz.ntmps133
  go_wp2_with fail
  exact bodyPost_ret (v := (.tuple #[.agg #[.string D,.int .i64 p.rd,.int .i64 p.wr,.int .i64 p.cap],.string ⟨#[]⟩,.int .i64 22])) (by simp [results,Tryz.results133,go_sem]) rfl ⟨rfl,HEND.out _ _⟩
 have hd1 : decide (n < 1) = false := decide_eq_false h1
 rw [if_neg h1] at hz
 by_cases he : p.data = []
 ·rw [if_pos he] at hz
  have hD0 : D = ⟨#[]⟩ := by rw [HD.out,he]
  subst hD0
  by_cases hr : p.wr = 0
  ·rw [if_pos hr] at hz
   simp only [Prod.mk.injEq] at hz
   obtain ⟨rfl,rfl,rfl⟩ := hz
   rw [← HD.out]
   have hd2 : decide (0 < p.wr) = false := decide_eq_false (by omega)
   have hd3 : (p.wr == 0) = true := by simpa using hr
   have hm : min n 0 = 0 := by omega
   clear hr
   clear hDl hDs
   go_enter Tryz.func133,Tryz.ntmps133
   go_wp2_with fail
   exact bodyPost_ret (v := (.tuple #[.agg #[.string ⟨#[]⟩,.int .i64 p.rd,.int .i64 p.wr,.int .i64 p.cap],.string ⟨#[]⟩,.int .i64 0])) (by simp [results,Tryz.results133,go_sem] <;> first | rfl | exact ⟨rfl,rfl⟩) rfl ⟨rfl,HEND.out _ _⟩
  ·rw [if_neg hr] at hz
   simp only [Prod.mk.injEq] at hz
   obtain ⟨rfl,rfl,rfl⟩ := hz
   rw [← HD.out]
   have hd2 : decide (0 < p.wr) = true := decide_eq_true (by omega)
   have hd3 : (p.wr == 0) = false := by simpa using hr
   clear hDl hDs
   go_enter Tryz.func133,Tryz.ntmps133
   go_wp2_with fail
   exact bodyPost_ret (v := (.tuple #[.agg #[.string ⟨#[]⟩,.int .i64 p.rd,.int .i64 p.wr,.int .i64 p.cap],.string ⟨#[]⟩,.int .i64 11])) (by simp [results,Tryz.results133,go_sem]) rfl ⟨rfl,HEND.out _ _⟩
 ·rw [if_neg he] at hz
  simp only [Prod.mk.injEq] at hz
  obtain ⟨rfl,rfl,rfl⟩ := hz
  obtain ⟨hpl,hpe⟩ := Att (D := D) (by rw [hDl]; exact he)
  obtain ⟨n1,rfl⟩ : ∃ n1 : Nat,n = (n1 : Int) := ⟨n.toNat,by omega⟩
  obtain ⟨E1,hE1⟩ : ∃ E : ByteArray,E = ⟨(D.data.toList.drop (min n1 D.size)).toArray⟩ := ⟨_,rfl⟩
  obtain ⟨E2,hE2⟩ : ∃ E : ByteArray,E = ⟨(D.data.toList.take (min n1 D.size)).toArray⟩ := ⟨_,rfl⟩
  have c1 := fun W => Ap5 D (min (n1 : Int) (D.size : Int)) (min n1 D.size) (by omega) (by omega) W
  rw [← hE1] at c1
  have c2 := fun W => Akq D (min (n1 : Int) (D.size : Int)) (min n1 D.size) (by omega) (by omega) W
  rw [← hE2] at c2
  have hf1 : E1 = ⟨(p.data.drop n1).toArray⟩ := by rw [hE1,hDl,hDs,Aor]
  have hf2 : E2 = ⟨(p.data.take n1).toArray⟩ := by rw [hE2,hDl,hDs,Ao8]
  have HF := Hd (And.intro hf1 hf2)
  clear hDl hDs hE1 hE2 hf1 hf2 he h1
  go_enter Tryz.func133,Tryz.ntmps133
  go_wp2_with fail
  exact bodyPost_ret (v := (.tuple #[.agg #[.string E1,.int .i64 p.rd,.int .i64 p.wr,.int .i64 p.cap],.string E2,.int .i64 0])) (by simp [results,Tryz.results133,go_sem]) rfl ⟨by rw [HF.out.1,HF.out.2]; rfl,HEND.out _ _⟩
theorem Axr : (Tryz.prog.info? 139).map (fun i => (i.zero,i.size,i.bytes)) = some (some (.agg #[.string ⟨#[]⟩,.int .i64 0]),2,24) := by kernel_rfl
theorem Az9 : (Tryz.prog.info? 66).map (fun i => (i.zero,i.size,i.bytes)) = some (some (.agg #[.int .i64 0,.int .i64 0,.int .i64 0,.string ⟨#[]⟩,.slice none 0 0,.int .i64 0]),6,72) := by kernel_rfl
theorem Aiu (v : Value) (K : List (List UInt8 × Int)) (hb : K.length * 24 ≤ 140737488355328) (w : World) (hK : Acc w v K) :
  Calls Tryz.prog 91 #[v] w fun e w' => ∃ v',e = .returned v' ∧ Aba w' w.heap.size v' K ∧ Below w.heap.size w w' := by
 obtain ⟨i0,hi,hz0,hz1,hz2⟩ := info_parts Axr
 obtain ⟨a,cap,rfl,h1,h2,h3⟩ := hK
 have hm : K.length ≤ maxLen := by unfold maxLen; omega
 have q22 : ∀ (w : World) (a : Option Addr) (n c n' c' : Nat),(binOp .eql 64 (.slice a n c) (.slice none n' c')).run Tryz.prog w = .ok (.bool a.isNone) w := fun w a n c n' c' => Lib.run_eql_slice_nil w _ _ a n c n' c' Tryz.underlying64
 cases a with
 | none =>
  have hnil : K = [] := by
   cases K with
   | nil => rfl
   | cons e r => obtain ⟨b,o,e,-⟩ := h3 0 (Nat.zero_lt_succ _); cases e
  subst hnil
  go_enter Tryz.func91,Tryz.ntmps91
  go_wp2_with fail
  go_ret
  exact ⟨_,rfl,Aba.nil _ _,Below.refl _ _⟩
 | some a =>
  have A : Aside (∀ j u,(kidC K)[j]? = some u → w.cell? (a.add j) = some u) := fun j u hj => by
   have hj' : j < K.length * 2 := by rw [← Abc]; exact (List.getElem?_eq_some_iff.1 hj).1
   obtain ⟨b,o,e,-⟩ := h3 0 (by omega)
   cases e
   have : (⟨b,o,none⟩ : Addr).add j = ⟨b,o + j,none⟩ := Addr.add_lit ..
   rw [this]
   refine Aru (fun i hi => ?_) j u hj
   obtain ⟨b',o',e,c1,c2⟩ := h3 i hi
   cases e
   exact ⟨c1,c2⟩
  clear h3
  obtain ⟨ab,ao,asp⟩ := a
  go_enter Tryz.func91,Tryz.ntmps91
  go_wp2_with (at_builtin; refine wpList_append_own _ rfl _ _ 64 rfl w.heap.size 139 i0 _ 2 24 Tryz.underlying64 hi hz0 hz1 hz2 rfl (by decide) _ _ _ rfl (World.ownsRow_made w #[] 0 (Nat.le_refl _) (Nat.zero_le _) (by simp)) ⟨ab,ao,asp⟩ K.length cap (kidC K) rfl ?qc1 ?qc2 ?qc3 ?qc4 ?qc5 ?qc6 ?_)
  case qc1 => exact Abc K
  case qc2 =>
   intro j u hj
   exact Lib.cell?_alloc_some _ (A.out j u hj)
  case qc3 => exact Aie K
  case qc4 => rw [Nat.zero_add]; exact hm
  case qc5 => rw [Nat.zero_add]; exact hb
  case qc6 => simp
  intro v' w1 hown hgrow hnil
  go_wp2_with fail
  go_ret
  refine ⟨v',rfl,by simpa [Aba] using hown,?_⟩
  exact ((Below.refl _ w).alloc (Nat.le_refl _) _).grown hgrow (by simp) (by intro k hk; simp [Value.ownBlock] at hk; omega)
def Ahu : List Ino → List Value → List Value
 | x :: L,v :: vs => inoC x v ++ Ahu L vs
 | _,_ => []
theorem Ajs : ∀ (L : List Ino) (vs : List Value),vs.length = L.length → (Ahu L vs).length = L.length * 6
 | [],[],_ => rfl
 | x :: L,v :: vs,h => by
  have := Ajs L vs (Nat.succ.inj h)
  simp only [Ahu,List.length_append,List.length_cons,this]
  show 6 + L.length * 6 = _
  omega
theorem Ajk : ∀ (L : List Ino) (vs : List Value) (i : Nat) (hi : i < L.length) (hv : i < vs.length) (j : Nat),j < 6 → (Ahu L vs)[i * 6 + j]? = (inoC L[i] vs[i])[j]?
 | x :: L,v :: vs,0,_,_,j,hj => by
  rw [Nat.zero_mul,Nat.zero_add,Ahu,List.getElem?_append_left (by show j < 6; exact hj)]
  rfl
 | x :: L,v :: vs,i + 1,hi,hv,j,hj => by
  have h := Ajk L vs i (Nat.lt_of_succ_lt_succ hi) (Nat.lt_of_succ_lt_succ hv) j hj
  rw [Ahu,List.getElem?_append_right (by show 6 ≤ _; omega)]
  rw [show (i + 1) * 6 + j - (inoC x v).length = i * 6 + j by show (i + 1) * 6 + j - 6 = _; omega,h]
  rfl
theorem Asi {L : List Ino} {vs : List Value} (hone : ∀ v ∈ vs,v.oneCell' = true) : ∀ u ∈ Ahu L vs,u.oneCell' = true := by
 induction L generalizing vs with
 | nil => intro u h; cases h
 | cons x L ih =>
  cases vs with
  | nil => intro u h; cases h
  | cons v vs =>
   intro u h
   rw [Ahu,List.mem_append] at h
   rcases h with h | h
   ·simp only [inoC,List.mem_cons,List.not_mem_nil,or_false] at h
    rcases h with rfl | rfl | rfl | rfl | rfl | rfl
    ·rfl
    ·rfl
    ·rfl
    ·rfl
    ·exact hone _ List.mem_cons_self
    ·rfl
   ·exact ih (fun v hv => hone v (List.mem_cons_of_mem _ hv)) u h
theorem Arl {w : World} {a : Option Addr} {cap : Nat} {L : List Ino} (hN : Aah w a cap L) : ∃ vs : List Value,vs.length = L.length ∧ (∀ v ∈ vs,v.oneCell' = true) ∧ (∀ i (hi : i < L.length) (hv : i < vs.length),Acc w vs[i] L[i].kids) ∧
  ∀ j u,(Ahu L vs)[j]? = some u → ∃ b o,a = some ⟨b,o,none⟩ ∧ w.cell? ⟨b,o + j,none⟩ = some u := by
 have hone : ∀ i,i < L.length → ∃ v,v.oneCell' = true ∧ ∀ hi : i < L.length,Acc w v L[i].kids ∧ ∃ b o,a = some ⟨b,o,none⟩ ∧ NodeAt w b (o + i * 6) L[i] v := fun i hi => by
  obtain ⟨b,o,e,hn⟩ := hN.2.2 i hi
  obtain ⟨v,hv,hk⟩ := hn.kids
  refine ⟨v,?_,fun hi => ⟨hk,b,o,e,⟨hn.kind,hn.mode,hn.links,hn.data,hv,hn.up⟩⟩⟩
  obtain ⟨ka,kc,rfl,-⟩ := hk
  rfl
 obtain ⟨vs,hl,hvs⟩ : ∃ vs : List Value,vs.length = L.length ∧ ∀ i (_ : i < L.length) (hv : i < vs.length),vs[i].oneCell' = true ∧ ∀ hi : i < L.length,Acc w vs[i] L[i].kids ∧ ∃ b o,a = some ⟨b,o,none⟩ ∧ NodeAt w b (o + i * 6) L[i] vs[i] := by
  have : ∀ n,n ≤ L.length → ∃ vs : List Value,vs.length = n ∧ ∀ i (_ : i < n) (hv : i < vs.length),vs[i].oneCell' = true ∧ ∀ hi : i < L.length,Acc w vs[i] L[i].kids ∧ ∃ b o,a = some ⟨b,o,none⟩ ∧ NodeAt w b (o + i * 6) L[i] vs[i] := by
   intro n
   induction n with
   | zero => exact fun _ => ⟨[],rfl,fun i hi => absurd hi (Nat.not_lt_zero _)⟩
   | succ n ih =>
    intro hn
    obtain ⟨vs,h1,h2⟩ := ih (by omega)
    obtain ⟨v,h3,h4⟩ := hone n (by omega)
    refine ⟨vs ++ [v],by simp [h1],fun i hi hv => ?_⟩
    by_cases e : i < vs.length
    ·rw [List.getElem_append_left e]
     exact h2 i (by omega) e
    ·have e2 : i = vs.length := by omega
     subst e2
     rw [List.getElem_concat_length rfl]
     refine ⟨h3,fun hi2 => ?_⟩
     subst h1
     exact h4 hi2
  exact this L.length (Nat.le_refl _)
 refine ⟨vs,hl,fun v hv => ?_,fun i hi hv => ((hvs i hi hv).2 hi).1,fun j u hu => ?_⟩
 ·obtain ⟨i,hi,rfl⟩ := List.getElem_of_mem hv
  exact (hvs i (by omega) hi).1
 ·have hj : j < L.length * 6 := by rw [← Ajs L vs hl]; exact (List.getElem?_eq_some_iff.1 hu).1
  obtain ⟨i,t,rfl,ht⟩ : ∃ i t,j = i * 6 + t ∧ t < 6 := ⟨j / 6,j % 6,by omega,by omega⟩
  have hi : i < L.length := by omega
  rw [Ajk L vs i hi (by omega) t ht] at hu
  obtain ⟨b,o,e,hn⟩ := ((hvs i hi (by omega)).2 hi).2
  refine ⟨b,o,e,?_⟩
  rw [← Nat.add_assoc]
  match t,ht,hu with
  | 0,_,hu => cases hu; exact hn.kind
  | 1,_,hu => cases hu; exact hn.mode
  | 2,_,hu => cases hu; exact hn.links
  | 3,_,hu => cases hu; exact hn.data
  | 4,_,hu => cases hu; exact hn.kids
  | 5,_,hu => cases hu; exact hn.up
theorem Ame {w : World} {base cap g : Nat} {L : List Ino} {vs : List Value} (hl : vs.length = L.length) (h : w.ownsRow base 66 6 (.slice (some ⟨g,0,none⟩) L.length cap) L.length (Ahu L vs)) : NodesOwn w g cap L vs ∧ base ≤ g := by
 have hc : ∀ j u,(Ahu L vs)[j]? = some u → w.cell? ⟨g,j,none⟩ = some u := fun j u hu => by
  have := h.cells rfl j u hu
  rw [Abn] at this
  exact this
 have hlt := h.lt g rfl
 rcases h.2 with ⟨e,-⟩ | ⟨g',cap',cur,e,hb,hg,hn,hm,hs,ht⟩
 ·cases e
 ·cases e
  refine ⟨⟨hl,hn,hm,hlt.2,fun j => by simp [World.frozen?,hg],fun i hi hv => ?_⟩,hb⟩
  have hh : ∀ t,t < 6 → ∀ u,(inoC L[i] vs[i])[t]? = some u → w.cell? ⟨g,i * 6 + t,none⟩ = some u := fun t ht u hu => hc _ _ ((Ajk L vs i hi hv t ht).trans hu)
  exact ⟨hh 0 (by decide) _ rfl,hh 1 (by decide) _ rfl,hh 2 (by decide) _ rfl,hh 3 (by decide) _ rfl,hh 4 (by decide) _ rfl,hh 5 (by decide) _ rfl⟩
theorem Amv (a : Option Addr) (cap : Nat) (L : List Ino) (hL : 0 < L.length) (hb : L.length * 72 ≤ 140737488355328) (w0 w : World) (hw : Below w0.heap.size w0 w) (hN : Aah w0 a cap L) :
  Calls Tryz.prog 90 #[.slice a L.length cap] w fun e w' => ∃ g cap' vs,e = .returned (.slice (some ⟨g,0,none⟩) L.length cap') ∧ NodesOwn w' g cap' L vs ∧ w.heap.size ≤ g ∧ (∀ i (hi : i < L.length) (hv : i < vs.length),Acc w0 vs[i] L[i].kids) ∧ Below w.heap.size w w' := by
 obtain ⟨i0,hi,hz0,hz1,hz2⟩ := info_parts Az9
 obtain ⟨vs,hl,hone,hk,hcell⟩ := Arl hN
 have hm : L.length ≤ maxLen := by unfold maxLen; omega
 have q22 : ∀ (w : World) (a : Option Addr) (n c n' c' : Nat),(binOp .eql 22 (.slice a n c) (.slice none n' c')).run Tryz.prog w = .ok (.bool a.isNone) w := fun w a n c n' c' => Lib.run_eql_slice_nil w _ _ a n c n' c' Tryz.underlying22
 obtain ⟨b,o,rfl,-⟩ := hN.2.2 0 hL
 have A : Aside (∀ j u,(Ahu L vs)[j]? = some u → w.cell? ⟨b,o + j,none⟩ = some u) := fun j u hj => by
  obtain ⟨b',o',e,hc⟩ := hcell j u hj
  cases e
  exact Aaa hw hc
 have HK := Hd hk
 have HL := Hd hl
 clear hcell hk hN hl
 go_enter Tryz.func90,Tryz.ntmps90
 go_wp2_with (at_builtin; refine wpList_append_own _ rfl _ _ 22 rfl w.heap.size 66 i0 _ 6 72 Tryz.underlying22 hi hz0 hz1 hz2 rfl (by decide) _ _ _ rfl (World.ownsRow_made w #[] 0 (Nat.le_refl _) (Nat.zero_le _) (by simp)) ⟨b,o,none⟩ L.length cap (Ahu L vs) rfl ?qc1 ?qc2 ?qc3 ?qc4 ?qc5 ?qc6 ?_)
 case qc1 => exact Ajs L vs HL.out
 case qc2 =>
  intro j u hj
  rw [Addr.add_lit]
  exact Lib.cell?_alloc_some _ (A.out j u hj)
 case qc3 => exact Asi hone
 case qc4 => rw [Nat.zero_add]; exact hm
 case qc5 => rw [Nat.zero_add]; exact hb
 case qc6 => simp
 intro v' w1 hown hgrow hnil
 have hbel := ((Below.refl _ w).alloc (Nat.le_refl _) (.cells #[] 66)).grown hgrow (by simp) (by intro k hk; simp [Value.ownBlock] at hk; omega)
 rcases hown.2 with ⟨rfl,h0⟩ | ⟨g,cap',cur,rfl,-⟩
 ·omega
 obtain ⟨hown',hgb⟩ := Ame HL.out hown
 have HO := Hd hown'
 have HB := Hd hbel
 clear hown hown' hgrow hnil hbel
 go_wp2_with fail
 go_ret
 exact ⟨g,cap',vs,rfl,HO.out,hgb,HK.out,HB.out⟩
section
variable {g : Nat} {w w' w'' : World}
end
structure RefT (W : World) (g cap : Nat) (L : List Ino) (vs : List Value) : Prop where
 nodes : NodesOwn W g cap L vs
 kids : ∀ i (hi : i < L.length) (hv : i < vs.length) (W' : World),(∀ j,j ≠ g → j < W.heap.size → W'.heap[j]? = W.heap[j]?) → Acc W' vs[i] L[i].kids
section
variable {W W' : World} {base g cap : Nat} {L : List Ino} {vs : List Value}
theorem OwnT.refT (h : OwnT W base g cap L vs) : RefT W g cap L vs :=
 ⟨h.nodes,fun i hi hv _W' hw => ((h.kids i hi hv).same fun k hk => hw k (fun e => h.off i hv (e ▸ hk)) ((h.kids i hi hv).lt k hk).2).kidsIn⟩
theorem RefT.node (h : RefT W g cap L vs) {i : Nat} (hi : i < L.length) : ∃ v,NodeAt W g (i * 6) L[i] v ∧ Acc W v L[i].kids ∧ ∀ j,W.frozen? ⟨g,j,none⟩ = false := by
 have hv : i < vs.length := by rw [h.nodes.len]; exact hi
 exact ⟨vs[i],h.nodes.node i hi hv,h.kids i hi hv W fun _ _ _ => rfl,h.nodes.free⟩
end
end Go.Proofs.YtkdfbliiblojoaaGreatDoor
