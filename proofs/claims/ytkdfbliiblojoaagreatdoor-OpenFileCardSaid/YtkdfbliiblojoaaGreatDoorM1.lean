import Derived.Test.YtkdfbliiblojoaaGreatDoorK6
import Derived.Test.YtkdfbliiblojoaaGreatDoorK7
import Derived.Deep.Cut
import Derived.Test.YtkdfbliiblojoaaGreatDoorK8
import Derived.Test.YtkdfbliiblojoaaGreatDoorK43
import Derived.Test.YtkdfbliiblojoaaGreatDoorK10
import Derived.Test.YtkdfbliiblojoaaGreatDoorK44
import Derived.Test.YtkdfbliiblojoaaGreatDoorK49
import Derived.Test.YtkdfbliiblojoaaGreatDoorK1
set_option linter.all false
set_option maxRecDepth 100000
set_option maxHeartbeats 64000000
namespace Go.Proofs.YtkdfbliiblojoaaGreatDoor
open Go Go.RowKit
def Small9 (L : List Ino) (e : Ending) : Prop := ∃ v : Bool,e = .returned (.bool v) ∧ (v = true → L.length ≤ 300)
theorem small9 (a : Option Addr) (cap : Nat) (m b : Int) (L : List Ino) (hR : Reach L) (w : World) (hN : Aah w a cap L) :
  Calls Tryz.prog 14 #[.agg #[.slice a L.length cap,.int .i64 m,.int .i64 b]] w fun e w' => Small9 L e ∧ Below w.heap.size w w' := by
 obtain ⟨w1,hw1⟩ : ∃ w1,w1 = w.alloc (.cells #[.slice a L.length cap,.int .i64 m,.int .i64 b] 24) := ⟨_,rfl⟩
 have hb1 : Below w.heap.size w w1 := by rw [hw1]; exact Aab w _
 have hX : w1.heap[w.heap.size]? = some (.cells #[.slice a L.length cap,.int .i64 m,.int .i64 b] 24 (0,0)) := by rw [hw1]; exact Aae w _
 have HM := Hd (hN.below hb1)
 have HB := Hd hb1
 have HR := Hd hR
 have HW := Hd hw1
 have q0 := bC hX 0
 have ql := lt_of_block hX
 have hl := hR.nodes
 clear hN hb1 hR hX hw1
 go_enter Tryz.func14,Tryz.ntmps14
 go_upto_region 1 with fail
 have hh := HW.out
 rw [← hh]
 clear hh HW
 go_wp2_with fail
 go_loopw [3,4] (fun nv iv wr => wr = w1 ∧ ∃ i s : Nat,i ≤ L.length ∧ s ≤ 281474976720000 ∧ nv = .int .i64 s ∧ iv = .int .i64 i) (fun _ iv _ => L.length - (intOf iv).toNat)
 case atStart => exact ⟨rfl,0,0,by omega,by omega,rfl,rfl⟩
 case round =>
  obtain ⟨rfl,i,s,hi,hs,rfl,rfl⟩ := hrel
  by_cases hil : i < L.length
  ·have b1 : (0 : Int) ≤ (i : Int) := by omega
   have b2 : (i : Int) < (L.length : Int) := by omega
   by_cases h5 : s ≤ 5000
   ·have b3 : (s : Int) ≤ 5000 := by omega
    obtain ⟨bb,o,rfl,hx⟩ := HM.out.2.2 i hil
    obtain ⟨v,hv,hk⟩ := hx.kids
    obtain ⟨c,cc,rfl,-⟩ := hk
    obtain ⟨cl,hcl⟩ : ∃ cl,cl = (L[i]'hil).kids.length := ⟨_,rfl⟩
    rw [← hcl] at hv
    have hkl := HR.out.kids i hil
    have xl := Aaj hv
    have e1 : IntKind.i64.wrap ((s : Int) + (cl : Int)) = ((s + cl : Nat) : Int) := by rw [IntKind.wrap_i64]; omega
    have e2 : IntKind.i64.wrap ((i : Int) + 1) = ((i + 1 : Nat) : Int) := by rw [IntKind.wrap_i64]; omega
    rw [← hcl] at hkl
    clear hx hcl
    go_wp2_with fail
    go_roundw
    case rel => exact ⟨trivial,i + 1,s + cl,by omega,by omega,by go_num,by go_num⟩
    case measure => simp [intOf] <;> omega
   ·have b3 : ¬ (s : Int) ≤ 5000 := by omega
    by_cases h3 : L.length ≤ 300
    ·have b4 : (L.length : Int) ≤ 300 := by omega
     clear h5
     go_wp2_with fail
     go_ret
     exact ⟨⟨false,rfl,fun h => by cases h⟩,HB.out⟩
    ·have b4 : ¬ (L.length : Int) ≤ 300 := by omega
     clear h5
     go_wp2_with fail
     go_ret
     exact ⟨⟨false,rfl,fun h => by cases h⟩,HB.out⟩
  ·have b2 : ¬ (i : Int) < (L.length : Int) := by omega
   by_cases h3 : L.length ≤ 300
   ·have b4 : (L.length : Int) ≤ 300 := by omega
    go_wp2_with fail
    go_ret
    exact ⟨⟨_,rfl,fun _ => h3⟩,HB.out⟩
   ·have b4 : ¬ (L.length : Int) ≤ 300 := by omega
    go_wp2_with fail
    go_ret
    exact ⟨⟨false,rfl,fun h => by cases h⟩,HB.out⟩
theorem cutL_none (old : List UInt8) : cutL old 0 = [] := List.length_eq_zero_iff.1 (Ah8 old 0)
section
variable {L : List Ino} {m b : Int}
end
theorem kid_memK {L : List Ino} {d : Nat} (hd : d < L.length) {s : List UInt8} (h : 0 ≤ kidL L (d : Int) s) : (s,kidL L (d : Int) s) ∈ L[d].kids := by
 have hf : ∀ M : List (List UInt8 × Int),0 ≤ Afv M s → (s,Afv M s) ∈ M := fun M => by
  induction M with
  | nil => intro h; exact absurd h (show ¬ (0 : Int) ≤ -1 by decide)
  | cons e r ih =>
   intro h
   unfold Afv at h ⊢
   split
   ·rename_i h1
    rw [if_pos h1] at h
    have : e.1 = s := by first | exact h1 | simpa using h1
    rw [← this]
    exact List.mem_cons_self
   ·rename_i h1
    rw [if_neg h1] at h
    exact List.mem_cons_of_mem _ (ih h)
 unfold kidL at h ⊢
 split at h
 ·rename_i h1
  rw [Aad L d hd] at h
  rw [if_pos h1,Aad L d hd]
  exact hf _ h
 ·exact absurd h (by decide)
theorem may_parts {L : List Ino} {c what : Int} : mayL L c what = true ↔ 0 ≤ what ∧ what ≤ 7 ∧ Adc L c = true ∧ Aqg (Aaf L c).mode what = true := by
 unfold mayL
 simp only [Bool.and_eq_true,decide_eq_true_eq,and_assoc]
theorem may_less {L : List Ino} {c : Int} (h : mayL L c 3 = true) : mayL L c 1 = true := by
 obtain ⟨-,-,h1,h2⟩ := may_parts.1 h
 refine may_parts.2 ⟨by decide,by decide,h1,?_⟩
 unfold Aqg at h2 ⊢
 simp only [Bool.and_eq_true,Bool.or_eq_true,beq_iff_eq] at h2 ⊢
 refine ⟨⟨.inl (by decide),.inl (by decide)⟩,?_⟩
 rcases h2.2 with h3 | h3
 ·exact absurd h3 (by decide)
 ·exact .inr h3
section
variable {L : List Ino} {m b : Int} {d k : Nat} {s : List UInt8} {x : Ino}
theorem Adds.dirK (h : Adds L m b d k s x) (h0 : (L[k]'h.klt).kind = 0) {a : Int} (ha : dirB L a = true) : ∃ j : Nat,∃ hj : j < L.length,a = (j : Int) ∧ j ≠ k ∧ Aaf (addL L d k s x) a = (if d = j then Aee (L[d]'h.dlt) (Abs (L[d]'h.dlt).kids s k) else L[j]) ∧ dirB (addL L d k s x) a = true := by
 obtain ⟨j,rfl,hj⟩ := Ae7 ha
 have hk := (Acr hj).1 ha
 have hjk : j ≠ k := fun e => by subst e; omega
 have hn := Aoq (k := k) h.dlt s x j hj
 rw [if_neg (fun e : k = j => hjk e.symm)] at hn
 refine ⟨j,hj,rfl,hjk,hn,?_⟩
 have hj' : j < (addL L d k s x).length := by rw [Acy]; exact hj
 refine (Acr hj').2 ?_
 rw [← Aad _ j hj',hn]
 split
 ·rename_i e
  subst e
  exact h.dir
 ·exact hk
theorem Adds.kidK (h : Adds L m b d k s x) (h0 : (L[k]'h.klt).kind = 0) {a : Int} {y : List UInt8} (hy : 0 ≤ kidL L a y) : kidL (addL L d k s x) a y = kidL L a y := by
 have ha : dirB L a = true := by
  unfold kidL at hy
  by_cases e : dirB L a = true
  ·exact e
  ·rw [if_neg e] at hy
   exact absurd hy (by decide)
 obtain ⟨j,hj,rfl,hjk,hn,hd'⟩ := h.dirK h0 ha
 have hm := kid_memK hj hy
 have hj' : j < (addL L d k s x).length := by rw [Acy]; exact hj
 have hm2 : (y,kidL L (j : Int) y) ∈ (addL L d k s x)[j].kids := by
  rw [← Aad _ j hj',hn]
  split
  ·rename_i e
   subst e
   show _ ∈ Abs _ _ _
   rw [Amg (k : Int) h.new]
   exact .inr hm
  ·exact hm
 obtain ⟨i,hi,he⟩ := List.getElem_of_mem hm2
 have := Bak h.fits j hj' i hi
 rw [he] at this
 exact this
theorem Adds.newK (h : Adds L m b d k s x) : kidL (addL L d k s x) (d : Int) s = (k : Int) := by
 have hd : d < (addL L d k s x).length := by rw [Acy]; exact h.dlt
 have hm : (s,(k : Int)) ∈ (addL L d k s x)[d].kids := by
  have hg := Ahq (k := k) h.dlt s x d h.dlt
  rw [if_pos rfl] at hg
  rw [hg]
  show _ ∈ Abs _ _ _
  rw [Amg (k : Int) h.new]
  exact Or.inl rfl
 obtain ⟨i,hi,he⟩ := List.getElem_of_mem hm
 have := Bak h.fits d hd i hi
 rw [he] at this
 exact this
theorem Adds.mayK (h : Adds L m b d k s x) (h0 : (L[k]'h.klt).kind = 0) {a what : Int} (ha : dirB L a = true) (hm : mayL L a what = true) : mayL (addL L d k s x) a what = true := by
 obtain ⟨j,hj,rfl,hjk,hn,hd'⟩ := h.dirK h0 ha
 obtain ⟨m1,m2,m3,m4⟩ := may_parts.1 hm
 refine may_parts.2 ⟨m1,m2,Ady hd',?_⟩
 rw [hn]
 rw [Aad L j hj] at m4
 split
 ·rename_i e
  subst e
  exact m4
 ·exact m4
theorem Adds.stepK (h : Adds L m b d k s x) (h0 : (L[k]'h.klt).kind = 0) {a : Int} {y : List UInt8} {c : Int} (hs : Ack L a y = (c,0)) : Ack (addL L d k s x) a y = (c,0) ∧ Adc L c = true := by
 have hlive : Adc L c = true := by
  have := Anq h.fit (a := a) (x := y) (by rw [hs])
  rw [hs] at this
  exact this
 refine ⟨?_,hlive⟩
 unfold Ack at hs ⊢
 split at hs
 ·simp at hs
 rename_i h1
 have h1' : dirB L a = true := by simpa using h1
 obtain ⟨j,hj,ha,hjk,hn,hd'⟩ := h.dirK h0 h1'
 split at hs
 ·simp at hs
 rename_i h2
 have h2' : mayL L a 1 = true := by simpa using h2
 have hm' := h.mayK h0 h1' h2'
 rw [if_neg (by rw [hd']; decide),if_neg (by rw [hm']; decide)]
 split at hs
 ·rename_i h3
  rw [if_pos h3]; exact hs
 rename_i h3
 rw [if_neg h3]
 split at hs
 ·rename_i h4
  rw [if_pos h4,← hs]
  have hup : (Aaf (addL L d k s x) a).up = (Aaf L a).up := by
   rw [hn,ha,Aad L j hj]
   split
   ·rename_i e
    subst e
    rfl
   ·rfl
  rw [hup]
 rename_i h4
 rw [if_neg h4]
 split at hs
 ·simp at hs
 rename_i h5
 have h6 := h.kidK h0 (a := a) (y := y) (by omega)
 rw [if_neg (by omega),h6]
 exact hs
theorem Adds.sameK (h : Adds L m b d k s x) (h0 : (L[k]'h.klt).kind = 0) {c : Int} (hc : Adc L c = true) : (Aaf (addL L d k s x) c).kind = (Aaf L c).kind ∧ (Aaf (addL L d k s x) c).data = (Aaf L c).data := by
 obtain ⟨j,hj,rfl,hne⟩ := Apz hc
 have hjk : k ≠ j := fun e => by subst e; exact hne h0
 rw [Aoq (k := k) h.dlt s x j hj,if_neg hjk,Aad L j hj]
 split
 ·rename_i e
  subst e
  exact ⟨rfl,rfl⟩
 ·exact ⟨rfl,rfl⟩
theorem Adds.wayK (h : Adds L m b d k s x) (h0 : (L[k]'h.klt).kind = 0) (last : Bool) : ∀ (n : Nat) (N : List (List UInt8)) (a c : Int),wayW L last n N a = (c,0) → wayW (addL L d k s x) last n N a = (c,0) := by
 intro n
 induction n with
 | zero =>
  intro N
  induction N with
  | nil => intro a c hw; rw [Apw] at hw ⊢; exact hw
  | cons y r ih =>
   intro a c hw
   obtain ⟨⟨z,e⟩,hy⟩ : ∃ q,Ack L a y = q := ⟨_,rfl⟩
   by_cases he : e = 0
   ·subst he
    obtain ⟨s1,s2⟩ := h.stepK h0 hy
    obtain ⟨a1,a2⟩ := h.sameK h0 s2
    by_cases hk : (Aaf L z).kind ≠ 3 ∨ (r = [] ∧ last = false)
    ·rw [Ako _ _ _ _ _ _ _ hy hk] at hw
     rw [Ako _ _ _ _ _ _ _ s1 (by rw [a1]; exact hk)]
     exact ih z c hw
    ·rw [Amp _ _ _ _ _ _ hy hk] at hw
     simp at hw
   ·rw [Aos _ _ _ _ _ _ (by rw [hy]; exact he),hy] at hw
    exact absurd (Prod.mk.inj hw).2 he
 | succ n ihn =>
  intro N
  induction N with
  | nil => intro a c hw; rw [Apw] at hw ⊢; exact hw
  | cons y r ih =>
   intro a c hw
   obtain ⟨⟨z,e⟩,hy⟩ : ∃ q,Ack L a y = q := ⟨_,rfl⟩
   by_cases he : e = 0
   ·subst he
    obtain ⟨s1,s2⟩ := h.stepK h0 hy
    obtain ⟨a1,a2⟩ := h.sameK h0 s2
    by_cases hk : (Aaf L z).kind ≠ 3 ∨ (r = [] ∧ last = false)
    ·rw [Ako _ _ _ _ _ _ _ hy hk] at hw
     rw [Ako _ _ _ _ _ _ _ s1 (by rw [a1]; exact hk)]
     exact ih z c hw
    ·rw [Amx _ _ _ _ _ _ _ hy hk] at hw
     rw [Amx _ _ _ _ _ _ _ s1 (by rw [a1]; exact hk),a2]
     exact ihn _ _ _ hw
   ·rw [Aos _ _ _ _ _ _ (by rw [hy]; exact he),hy] at hw
    exact absurd (Prod.mk.inj hw).2 he
end
theorem way_app (L : List Ino) : ∀ (n : Nat) (N R : List (List UInt8)) (a z : Int),wayW L true n N a = (z,0) → ∃ n',wayW L true n (N ++ R) a = wayW L true n' R z := by
 intro n
 induction n with
 | zero =>
  intro N
  induction N with
  | nil => intro R a z hw; rw [Apw] at hw; obtain ⟨rfl,-⟩ := Prod.mk.inj hw; exact ⟨0,rfl⟩
  | cons y r ih =>
   intro R a z hw
   obtain ⟨⟨u,e⟩,hy⟩ : ∃ q,Ack L a y = q := ⟨_,rfl⟩
   by_cases he : e = 0
   ·subst he
    by_cases hk : (Aaf L u).kind ≠ 3
    ·rw [Ako _ _ _ _ _ _ _ hy (.inl hk)] at hw
     rw [List.cons_append,Ako _ _ _ _ _ _ _ hy (.inl hk)]
     exact ih R u z hw
    ·rw [Amp _ _ _ _ _ _ hy (by simp [hk])] at hw
     simp at hw
   ·rw [Aos _ _ _ _ _ _ (by rw [hy]; exact he),hy] at hw
    exact absurd (Prod.mk.inj hw).2 he
 | succ n ihn =>
  intro N
  induction N with
  | nil => intro R a z hw; rw [Apw] at hw; obtain ⟨rfl,-⟩ := Prod.mk.inj hw; exact ⟨n + 1,rfl⟩
  | cons y r ih =>
   intro R a z hw
   obtain ⟨⟨u,e⟩,hy⟩ : ∃ q,Ack L a y = q := ⟨_,rfl⟩
   by_cases he : e = 0
   ·subst he
    by_cases hk : (Aaf L u).kind ≠ 3
    ·rw [Ako _ _ _ _ _ _ _ hy (.inl hk)] at hw
     rw [List.cons_append,Ako _ _ _ _ _ _ _ hy (.inl hk)]
     exact ih R u z hw
    ·rw [Amx _ _ _ _ _ _ _ hy (by simp [hk])] at hw
     rw [List.cons_append,Amx _ _ _ _ _ _ _ hy (by simp [hk]),← List.append_assoc]
     exact ihn _ R _ z hw
   ·rw [Aos _ _ _ _ _ _ (by rw [hy]; exact he),hy] at hw
    exact absurd (Prod.mk.inj hw).2 he
theorem create_walk {L : List Ino} {m b : Int} (hF : FitP L m b) {cwd : Int} {p : List UInt8} {q : Int} {L' : List Ino} {k : Int} (hz : Ae3 L cwd p q = (L',k,0)) : Acv L' cwd p true = (k,0) := by
 obtain ⟨-,hM⟩ := (Ait hF hz).1 rfl
 obtain ⟨d,s,j,rfl,hpar,hL,⟨hj,hj0⟩,hA,-⟩ := hM.made
 have hfr : (Abp L cwd p false).2.2 = 0 := by
  unfold Ae3 at hz
  split at hz
  ·exact absurd (Prod.mk.inj (Prod.mk.inj hz).2).2 (by decide)
  split at hz
  ·rename_i h1
   exact absurd (Prod.mk.inj (Prod.mk.inj hz).2).2 h1
  ·rename_i h1
   simpa using h1
 have hslash : endL p = false := by
  unfold Abp at hfr
  repeat' split at hfr
  all_goals first
   | (rename_i h; simp only [true_and] at h; simpa using h)
   | (exact absurd hfr (by decide))
   | (rename_i h; exact absurd hfr h)
 obtain ⟨d2,s2,hd2,hpar2,-,hk2,hname,-,hmay⟩ := Ak7 hF hfr
 have hds : d = d2 ∧ s = s2 := by
  rw [hpar] at hpar2
  simp only [Prod.mk.injEq] at hpar2
  exact ⟨by omega,hpar2.2.1⟩
 obtain ⟨rfl,rfl⟩ := hds
 -- the directory's way
 unfold Abk at hpar
 split at hpar
 ·rename_i h; exact absurd (Prod.mk.inj (Prod.mk.inj hpar).2).2 h
 rename_i hbad
 split at hpar
 ·exact absurd (Prod.mk.inj (Prod.mk.inj hpar).2).2 (by decide)
 rename_i hne
 split at hpar
 ·rename_i h; exact absurd (Prod.mk.inj (Prod.mk.inj hpar).2).2 h
 rename_i hway
 split at hpar
 ·exact absurd (Prod.mk.inj (Prod.mk.inj hpar).2).2 (by decide)
 simp only [Prod.mk.injEq,and_true] at hpar
 obtain ⟨hwd,hlast⟩ := hpar
 have hw : wayW L true 8 (Aan p).dropLast (Adn cwd p) = ((d : Int),0) := Prod.ext hwd (by simpa using hway)
 have hw' := hA.wayK hj0 true 8 _ _ _ hw
 rw [← hL] at hw'
 obtain ⟨n',hn'⟩ := way_app L' 8 _ [s] _ _ hw'
 have hparts : (Aan p).dropLast ++ [s] = Aan p := by
  rw [← hlast]
  have := List.dropLast_concat_getLast hne
  rw [List.getLastD_eq_getLast?,List.getLast?_eq_some_getLast hne]
  exact this
 rw [hparts] at hn'
 -- the last name's step
 have hdir : dirB L (d : Int) = true := (Acr hA.dlt).2 hA.dir
 have hdir' : dirB L' (d : Int) = true := by rw [hL]; obtain ⟨_,_,_,_,_,h⟩ := hA.dirK hj0 hdir; exact h
 have hmay' : mayL L' (d : Int) 1 = true := by rw [hL]; exact hA.mayK hj0 hdir (may_less hmay)
 have hkid : kidL L' (d : Int) s = (j : Int) := by rw [hL]; exact hA.newK
 have hdots : s ≠ [46] ∧ s ≠ [46,46] := by
  constructor
  ·intro e; rw [e] at hname; exact absurd hname (by decide)
  ·intro e; rw [e] at hname; exact absurd hname (by decide)
 have hstep : Ack L' (d : Int) s = ((j : Int),0) := by
  unfold Ack
  rw [if_neg (by rw [hdir']; decide),if_neg (by rw [hmay']; decide),if_neg hdots.1,if_neg hdots.2,if_neg (by rw [hkid]; omega),hkid]
 have hjk : (Aaf L' (j : Int)).kind = 1 := by
  rw [hL,Aoq (k := j) hA.dlt s _ j hj,if_neg hA.ne,if_pos rfl]
  rfl
 rw [Ako _ _ _ _ _ _ _ hstep (.inl (by rw [hjk]; decide)),Apw] at hn'
 have hbad' : badW L' cwd p = 0 := by
  have h1 : badW L cwd p = 0 := by simpa using hbad
  unfold badW at h1 ⊢
  split at h1
  ·exact absurd h1 (by decide)
  rename_i h2
  simp only [not_or] at h2
  have hc : dirB L cwd = true := by simpa using h2.2
  obtain ⟨_,_,_,_,_,hc'⟩ := hA.dirK hj0 hc
  rw [← hL] at hc'
  rw [if_neg (by rw [hc']; simpa using h2.1)]
  exact h1
 unfold Acv
 rw [if_neg (by rw [hbad']; decide)]
 simp only [Bool.true_or]
 rw [hn',if_neg (by simp),if_neg (by rw [hslash]; simp)]
section
variable {L : List Ino} {k : Nat} {d : List UInt8}
theorem data_at (hk : k < L.length) (c : Int) : Aaf (Agm L k d) c = if c.toNat = k then { L[k] with data := d } else Aaf L c := by
 unfold Aaf Agm
 rw [Aad L k hk,List.getD_eq_getElem?_getD,List.getElem?_set]
 by_cases e : c.toNat = k
 ·rw [if_pos e.symm,if_pos e,if_pos hk]
  rfl
 ·rw [if_neg (fun e2 => e e2.symm),if_neg e,List.getD_eq_getElem?_getD]
theorem data_of (hk : k < L.length) (c : Int) : (Aaf (Agm L k d) c).kind = (Aaf L c).kind ∧ (Aaf (Agm L k d) c).mode = (Aaf L c).mode ∧ (Aaf (Agm L k d) c).up = (Aaf L c).up ∧ (Aaf (Agm L k d) c).kids = (Aaf L c).kids ∧
  (L[k].kind = 1 → (Aaf L c).kind = 3 → (Aaf (Agm L k d) c).data = (Aaf L c).data) := by
 rw [data_at hk c]
 by_cases e : c.toNat = k
 ·have h1 : Aaf L c = L[k] := by
   unfold Aaf
   rw [e]
   exact Abd L k hk Ag7
  rw [if_pos e,h1]
  exact ⟨rfl,rfl,rfl,rfl,fun h2 h3 => by omega⟩
 ·rw [if_neg e]
  exact ⟨rfl,rfl,rfl,rfl,fun _ _ => rfl⟩
theorem data_dir (hk : k < L.length) (c : Int) : dirB (Agm L k d) c = dirB L c ∧ Adc (Agm L k d) c = Adc L c := by
 have ht : Aa4 (Agm L k d) c = Aa4 L c := by unfold Aa4; rw [Agg]
 obtain ⟨h1,-⟩ := data_of (d := d) hk c
 unfold dirB Adc
 rw [ht,h1]
 exact ⟨rfl,rfl⟩
theorem data_step (hk : k < L.length) (a : Int) (x : List UInt8) : Ack (Agm L k d) a x = Ack L a x := by
 obtain ⟨-,h2,h3,h4,-⟩ := data_of (d := d) hk a
 obtain ⟨hd,hl⟩ := data_dir (d := d) hk a
 have hm : mayL (Agm L k d) a 1 = mayL L a 1 := by unfold mayL; rw [hl,h2]
 have hkid : kidL (Agm L k d) a x = kidL L a x := by unfold kidL; rw [hd,h4]
 unfold Ack
 rw [hd,hm,h3,hkid]
theorem data_way (hk : k < L.length) (h1 : L[k].kind = 1) (last : Bool) : ∀ (n : Nat) (N : List (List UInt8)) (a : Int),wayW (Agm L k d) last n N a = wayW L last n N a := by
 intro n
 induction n with
 | zero =>
  intro N
  induction N with
  | nil => intro a; rw [Apw,Apw]
  | cons x r ih =>
   intro a
   obtain ⟨⟨y,e⟩,hy⟩ : ∃ q,Ack L a x = q := ⟨_,rfl⟩
   have hy' := (data_step (d := d) hk a x).trans hy
   obtain ⟨c1,-,-,-,c5⟩ := data_of (d := d) hk y
   by_cases he : e = 0
   ·subst he
    by_cases hkd : (Aaf L y).kind ≠ 3 ∨ (r = [] ∧ last = false)
    ·rw [Ako _ _ _ _ _ _ _ hy hkd,Ako _ _ _ _ _ _ _ hy' (by rw [c1]; exact hkd)]
     exact ih y
    ·rw [Amp _ _ _ _ _ _ hy hkd,Amp _ _ _ _ _ _ hy' (by rw [c1]; exact hkd)]
   ·rw [Aos _ _ _ _ _ _ (by rw [hy']; exact he),Aos _ _ _ _ _ _ (by rw [hy]; exact he),hy,hy']
 | succ n ihn =>
  intro N
  induction N with
  | nil => intro a; rw [Apw,Apw]
  | cons x r ih =>
   intro a
   obtain ⟨⟨y,e⟩,hy⟩ : ∃ q,Ack L a x = q := ⟨_,rfl⟩
   have hy' := (data_step (d := d) hk a x).trans hy
   obtain ⟨c1,-,-,-,c5⟩ := data_of (d := d) hk y
   by_cases he : e = 0
   ·subst he
    by_cases hkd : (Aaf L y).kind ≠ 3 ∨ (r = [] ∧ last = false)
    ·rw [Ako _ _ _ _ _ _ _ hy hkd,Ako _ _ _ _ _ _ _ hy' (by rw [c1]; exact hkd)]
     exact ih y
    ·have hk3 : (Aaf L y).kind = 3 := by
      by_cases e3 : (Aaf L y).kind = 3
      ·exact e3
      ·exact absurd (.inl e3) hkd
     rw [Amx _ _ _ _ _ _ _ hy hkd,Amx _ _ _ _ _ _ _ hy' (by rw [c1]; exact hkd),c5 h1 hk3]
     exact ihn _ _
   ·rw [Aos _ _ _ _ _ _ (by rw [hy']; exact he),Aos _ _ _ _ _ _ (by rw [hy]; exact he),hy,hy']
theorem data_walk (hk : k < L.length) (h1 : L[k].kind = 1) (cwd : Int) (p : List UInt8) (follow : Bool) : Acv (Agm L k d) cwd p follow = Acv L cwd p follow := by
 have hb : badW (Agm L k d) cwd p = badW L cwd p := by unfold badW; rw [(data_dir (d := d) hk cwd).1]
 unfold Acv
 rw [hb,data_way hk h1,(data_dir (d := d) hk _).1]
end
theorem target_write {L : List Ino} {m b : Int} (hF : FitP L m b) {cwd : Int} {p : List UInt8} {L' : List Ino} {ino : Int} (hz : Aaz L b cwd p 1 = (L',ino,0)) :
  ∃ n : Nat,∃ hn : n < L'.length,ino = (n : Int) ∧ L'[n].kind = 1 ∧ L'[n].data = [] ∧ Acv L' cwd p true = (ino,0) := by
 have hok := Amm hF hz
 unfold Aaz at hz
 split at hz
 ·-- it is made
  obtain ⟨-,hM⟩ := (Ait hF hz).1 rfl
  obtain ⟨d,s,j,rfl,-,hL,⟨hj,hj0⟩,hA,-⟩ := hM.made
  have hw := create_walk hF hz
  have hg := Ahq (k := j) hA.dlt s { Aem 1 6 [] 0 with links := 1 } j hj
  rw [if_neg hA.ne,if_pos rfl] at hg
  subst hL
  exact ⟨j,by rw [Acy]; exact hj,rfl,by rw [hg]; rfl,by rw [hg]; rfl,hw⟩
 split at hz
 ·rename_i h2
  simp only [Prod.mk.injEq] at hz
  exact absurd hz.2.2 h2
 rename_i hw0
 have hw : (Acv L cwd p true).2 = 0 := by simpa using hw0
 obtain ⟨hlive,h3⟩ := (Alt hF cwd p).2 hw
 obtain ⟨n,hn,hwz,hk0⟩ := Apz hlive
 have hwalk : Acv L cwd p true = ((n : Int),0) := Prod.ext hwz hw
 rw [hwz] at hz h3
 rw [Aad L n hn] at hz h3
 split at hz
 ·simp only [Prod.mk.injEq] at hz
  exact absurd hz.2.2 (by decide)
 split at hz
 ·simp only [Prod.mk.injEq] at hz
  exact absurd hz.2.2 (by decide)
 split at hz
 ·simp only [Prod.mk.injEq] at hz
  exact absurd hz.2.2 (by decide)
 split at hz
 ·simp only [Prod.mk.injEq] at hz
  exact absurd hz.2.2 (by decide)
 rename_i h2
 have h1 : L[n].kind = 1 := Ap7 (hF.ins n hn).1 hk0 h2 h3
 rw [if_pos (.inl rfl)] at hz
 simp only [Prod.mk.injEq] at hz
 obtain ⟨hL,rfl,he⟩ := hz
 have hc : cutW L b (n : Int) 0 = (L',0) := Prod.ext hL he
 obtain ⟨n',o,hn',e,ho,-,-,hL2,hF2⟩ := (Bam hF hc).1 rfl
 obtain rfl : n = n' := by omega
 obtain rfl : o = 0 := by omega
 rw [cutL_none] at hL2
 have h5 := Awd hn [] (by rw [Agg]; exact hn)
 have hw2 := data_walk (d := []) hn h1 cwd p true
 rw [← hL2,hwalk] at hw2
 subst hL2
 exact ⟨n,by rw [Agg]; exact hn,rfl,by rw [h5]; exact h1,by rw [h5],hw2⟩
theorem laid_end (old s : List UInt8) : Akx old old.length s = old ++ s := by
 unfold Akx
 rw [Nat.sub_self]
 simp
structure Writing (k : Krn) (f : List Int) (cwd : Int) (p : List UInt8) (n : Nat) (want : List UInt8) : Prop where
 fit : FitK k f
 fd : f.getD 3 0 = 4
 h3 : 3 < k.opens.length
 op : k.opens[3] = ⟨1,(n : Int),(want.length : Int),2,1⟩
 hn : n < k.tree.length
 kind : k.tree[n].kind = 1
 data : k.tree[n].data = want
 walk : Acv k.tree cwd p true = ((n : Int),0)
theorem file_open {t : List Ino} {m b : Int} (hF : FitP t m b) {cwd : Int} {p : List UInt8} {k : Krn} {f : List Int} (hz : Ah7 (newK t m b []).1 (newK t m b []).2 3 cwd p 1 = (k,f,0)) : ∃ n : Nat,Writing k f cwd p n [] ∧ k.m = m ∧ k.b = b := by
 have hfit := (Auc (Aw4 hF (input := []) (Nat.zero_le _)) hz).1
 unfold Ah7 at hz
 rw [if_neg (by decide),if_neg (by decide)] at hz
 split at hz
 ·rename_i h
  exact absurd (Prod.mk.inj (Prod.mk.inj hz).2).2 h
 rename_i ht
 have ht2 : (Aaz (newK t m b []).1.tree (newK t m b []).1.b cwd p 1).2.2 = 0 := by simpa using ht
 obtain ⟨⟨L',ino,et⟩,hr⟩ : ∃ r,Aaz t b cwd p 1 = r := ⟨_,rfl⟩
 have hr2 : Aaz (newK t m b []).1.tree (newK t m b []).1.b cwd p 1 = (L',ino,et) := hr
 rw [hr2] at hz ht2
 simp only at hz ht2
 subst ht2
 obtain ⟨n,hn,rfl,h1,h2,h3⟩ := target_write hF hr
 have hput : putK (newK t m b []).1.opens ⟨1,(n : Int),0,(Aa3 1).2,1⟩ = ([⟨2,0,0,1,1⟩,⟨4,0,0,2,1⟩,⟨4,1,0,2,1⟩,⟨1,(n : Int),0,2,1⟩],4) := rfl
 rw [hput] at hz
 simp only at hz
 rw [if_neg (by decide)] at hz
 have hs : ∀ q : Krn,Aat q (newK t m b []).2 (Int.toNat 3) = (q,(newK t m b []).2) := fun q => rfl
 rw [hs] at hz
 simp only [Prod.mk.injEq,and_true] at hz
 obtain ⟨hk,hf⟩ := hz
 subst hk hf
 exact ⟨n,⟨hfit,rfl,(by show (3 : Nat) < 4; decide),rfl,hn,h1,h2,h3⟩,rfl,rfl⟩
theorem file_step {k : Krn} {f : List Int} {cwd : Int} {p : List UInt8} {n : Nat} {want : List UInt8} (h : Writing k f cwd p n want) (s : List UInt8) {k' : Krn} {c e : Int} (hz : Ab5 k f 3 s = (k',c,e)) :
  (e = 0 → c = (s.length : Int) ∧ Writing k' f cwd p n (want ++ s) ∧ k'.m = k.m ∧ k'.b = k.b) ∧ (e ≠ 0 → e = 27 ∨ e = 28) := by
 have hfit := (Ajb h.fit hz).1
 unfold Ab5 at hz
 rw [show Int.toNat 3 = 3 from rfl,h.fd,if_neg (by decide),show ((4 : Int) - 1).toNat = 3 from rfl] at hz
 simp only at hz
 rw [Abd _ 3 h.h3,h.op] at hz
 simp only at hz
 rw [if_neg (show ¬ ((2 : Int) / 2 % 2 = 0) by decide),if_pos trivial,if_neg (show ¬ ((4 : Int) ≤ 2) by decide)] at hz
 obtain ⟨⟨L',ew⟩,hw⟩ : ∃ r,Aes k.tree k.b (n : Int) (want.length : Int) s = r := ⟨_,rfl⟩
 rw [hw] at hz
 simp only at hz
 have hfile : Adm k.tree (n : Int) = 0 := by
  unfold Adm
  rw [Aef _ n h.hn,Aad _ n h.hn]
  simp [h.kind]
 split at hz
 ·rename_i he
  simp only [Prod.mk.injEq] at hz
  obtain ⟨rfl,rfl,rfl⟩ := hz
  refine ⟨fun h0 => absurd h0 he,fun _ => ?_⟩
  unfold Aes at hw
  rw [if_neg (by simpa using hfile),if_neg (by omega)] at hw
  split at hw
  ·exact absurd (Prod.mk.inj hw).2.symm he
  split at hw
  ·exact .inl (Prod.mk.inj hw).2.symm
  ·unfold Aft at hw
   split at hw
   ·exact .inr (Prod.mk.inj hw).2.symm
   ·exact absurd (Prod.mk.inj hw).2.symm he
 ·rename_i he
  obtain rfl : ew = 0 := by simpa using he
  simp only [Prod.mk.injEq] at hz
  obtain ⟨hk,hc,rfl⟩ := hz
  refine ⟨fun _ => ⟨hc.symm,?_,by rw [← hk]; rfl,by rw [← hk]; rfl⟩,fun h0 => absurd rfl h0⟩
  have hL : ∃ hn' : n < L'.length,L'[n].kind = 1 ∧ L'[n].data = want ++ s ∧ Acv L' cwd p true = ((n : Int),0) := by
   rcases (Av1 h.fit.tree hw).1 rfl with ⟨rfl,rfl⟩ | ⟨n',o,hn',e1,e2,-,-,hL,-⟩
   ·exact ⟨h.hn,h.kind,by rw [List.append_nil]; exact h.data,h.walk⟩
   ·obtain rfl : n = n' := by omega
    obtain rfl : want.length = o := by omega
    have hdd : Akx k.tree[n].data want.length s = want ++ s := by rw [h.data,laid_end]
    rw [hdd] at hL
    have h5 := Awd h.hn (want ++ s) (by rw [Agg]; exact h.hn)
    have h6 := data_walk (d := want ++ s) h.hn h.kind cwd p true
    rw [h.walk] at h6
    subst hL
    exact ⟨by rw [Agg]; exact h.hn,by rw [h5]; exact h.kind,by rw [h5],h6⟩
  obtain ⟨hn',hk1,hd1,hw1⟩ := hL
  have hO : k'.opens = k.opens.set 3 ⟨1,(n : Int),(want.length : Int) + (s.length : Int),2,1⟩ := by
   rw [← hk]
   show k.opens.set 3 { k.opens.getD 3 Aap with off := _ } = _
   rw [Abd _ 3 h.h3,h.op]
  have hT : k'.tree = L' := by rw [← hk]; rfl
  have h3' : 3 < k'.opens.length := by rw [hO,List.length_set]; exact h.h3
  refine ⟨hfit,h.fd,h3',?_,by rw [hT]; exact hn',by simp only [hT]; exact hk1,by simp only [hT]; exact hd1,by rw [hT]; exact hw1⟩
  simp only [hO,List.getElem_set_self]
  rw [List.length_append]
  congr 1
theorem file_close {k : Krn} {f : List Int} {cwd : Int} {p : List UInt8} {n : Nat} {want : List UInt8} (h : Writing k f cwd p n want) (_h4 : k.opens.length = 4) :
  ∃ (k2 : Krn) (f2 : List Int),Ado k f 3 = (k2,f2,0) ∧ FitK k2 f2 ∧ k2.tree = k.tree ∧ k2.m = k.m ∧ k2.b = k.b ∧ k2.opens = k.opens.set 3 Aap := by
 have hc : Ado k f 3 = ((Aat k f 3).1,(Aat k f 3).2,0) := by
  unfold Ado
  rw [show Int.toNat 3 = 3 from rfl,h.fd,if_neg (by decide)]
 have hs : Aat k f 3 = (Aa5 k 3,f.set 3 0) := by
  unfold Aat
  rw [h.fd,if_neg (by decide)]
  rfl
 rw [hs] at hc
 obtain ⟨t1,t2,t3,-,-⟩ := Ais k 3
 have hO : (Aa5 k 3).opens = k.opens.set 3 Aap := by
  unfold Aa5
  rw [Abd _ 3 h.h3,h.op,if_pos (show (1 : Int) - 1 = 0 by decide)]
 exact ⟨Aa5 k 3,f.set 3 0,hc,(Axp h.fit 3 hc).1,t1,t2,t3,hO⟩
theorem file_again {k : Krn} {f : List Int} {cwd : Int} {p : List UInt8} {n : Nat} {want : List UInt8} (h : Writing k f cwd p n want) (h4 : k.opens.length = 4) (hf4 : f.getD 4 0 = 0) (hne : ∀ i (hi : i < k.opens.length),i ≠ 3 → k.opens[i].kind ≠ 0)
  {k2 : Krn} {f2 : List Int} (hc : Ado k f 3 = (k2,f2,0)) {k3 : Krn} {f3 : List Int} {e : Int} (hz : Ah7 k2 f2 4 cwd p 0 = (k3,f3,e)) : (e ≠ 0 → e = 13) ∧ (e = 0 → Reading k3 f3 n want 0) := by
 obtain ⟨k2',f2',hc',hfit,ht,hm,hb,hO⟩ := file_close h h4
 rw [hc] at hc'
 simp only [Prod.mk.injEq,and_true] at hc'
 obtain ⟨rfl,rfl⟩ := hc'
 have hfit3 := (Auc hfit hz).1
 have hf2 : f2 = f.set 3 0 := by
  have hs : Aat k f 3 = (Aa5 k 3,f.set 3 0) := by
   unfold Aat
   rw [h.fd,if_neg (by decide)]
   rfl
  have hc2 : Ado k f 3 = ((Aat k f 3).1,(Aat k f 3).2,0) := by
   unfold Ado
   rw [show Int.toNat 3 = 3 from rfl,h.fd,if_neg (by decide)]
  rw [hc2,hs] at hc
  exact (Prod.mk.inj (Prod.mk.inj hc).2).1.symm
 have hf24 : f2.getD 4 0 = 0 := by
  rw [hf2,List.getD_eq_getElem?_getD,List.getElem?_set_ne (by decide),← List.getD_eq_getElem?_getD]
  exact hf4
 have hl : f2.length = 10 := hfit.len
 unfold Ah7 at hz
 rw [if_neg (by decide),if_neg (by decide)] at hz
 have htar : Aaz k2.tree k2.b cwd p 0 = if mayL k.tree (n : Int) 4 = false then (k.tree,0,13) else (k.tree,(n : Int),0) := by
  unfold Aaz
  rw [ht,h.walk,if_neg (by simp),if_neg (by simp),if_neg (by simp),Aad _ n h.hn,h.kind,if_neg (by decide),show (Aa3 0).1 = 4 from rfl]
  split
  ·rfl
  ·rw [if_neg (by decide),if_neg (by decide)]
 by_cases hmay : mayL k.tree (n : Int) 4 = false
 ·rw [if_pos hmay] at htar
  rw [htar] at hz
  simp only at hz
  rw [if_pos (by decide)] at hz
  have he := (Prod.mk.inj (Prod.mk.inj hz).2).2
  exact ⟨fun _ => he.symm,fun h0 => absurd (he.trans h0) (by decide)⟩
 ·rw [if_neg hmay] at htar
  rw [htar] at hz
  simp only at hz
  rw [if_neg (by decide),show (Aa3 0).2 = 1 from rfl] at hz
  have hput : putK k2.opens ⟨1,(n : Int),0,1,1⟩ = (k2.opens.set 3 ⟨1,(n : Int),0,1,1⟩,4) := by
   unfold putK
   have hfind : k2.opens.findIdx? (fun x => x.kind == 0) = some 3 := by
    rw [List.findIdx?_eq_some_iff_getElem]
    refine ⟨by rw [hO,List.length_set]; exact h.h3,?_,fun j hj => ?_⟩
    ·simp only [hO,List.getElem_set_self]
     rfl
    ·have hjl : j < k.opens.length := by have := h.h3; omega
     have hk := hne j hjl (by omega)
     simp only [hO,List.getElem_set_ne (show 3 ≠ j by omega)]
     simpa using hk
   rw [hfind]
   rfl
  rw [hput] at hz
  simp only at hz
  rw [if_neg (by decide)] at hz
  have hs : ∀ q : Krn,Aat q f2 (Int.toNat 4) = (q,f2) := fun q => by
   unfold Aat
   rw [show Int.toNat 4 = 4 from rfl,if_pos hf24]
  rw [hs] at hz
  simp only [Prod.mk.injEq] at hz
  obtain ⟨hk3,hf3,rfl⟩ := hz
  refine ⟨fun h0 => absurd rfl h0,fun _ => ?_⟩
  subst hk3 hf3
  refine ⟨hfit3,?_,?_,?_,h.hn,h.kind,h.data⟩
  ·rw [show Int.toNat 4 = 4 from rfl,List.getD_eq_getElem?_getD,List.getElem?_set_self (by omega)]
   rfl
  ·show 3 < (k2.opens.set 3 _).length
   rw [List.length_set,hO,List.length_set]
   exact h.h3
  ·have h32 : 3 < k2.opens.length := by rw [hO,List.length_set]; exact h.h3
   exact List.getElem_set_self ..
theorem file_read {k : Krn} {f : List Int} {n : Nat} {want : List UInt8} {off : Nat} (h : Reading k f n want off) (_hoff : off ≤ want.length) {k' : Krn} {s : List UInt8} {e : Int} (hz : Adb k f 4 7 = (k',s,e)) :
  e = 0 ∧ s = (want.drop off).take 7 ∧ Reading k' f n want (off + s.length) := by
 have hfit := (Aoc h.fit hz).1
 have hrd : Afj k.tree (n : Int) (off : Int) 7 = ((want.drop off).take 7,0) := by
  have hfile : Adm k.tree (n : Int) = 0 := by
   unfold Adm
   rw [Aef _ n h.hn,Aad _ n h.hn]
   simp [h.kind]
  unfold Afj
  rw [if_neg (by simpa using hfile),if_neg (by omega),Aad _ n h.hn,h.data]
  rfl
 unfold Adb at hz
 rw [show Int.toNat 4 = 4 from rfl,h.fd,if_neg (by decide),show ((4 : Int) - 1).toNat = 3 from rfl] at hz
 simp only at hz
 rw [Abd _ 3 h.h3,h.op] at hz
 simp only at hz
 rw [if_neg (show ¬ ((1 : Int) % 2 = 0) by decide),if_neg (by decide),if_pos trivial,hrd] at hz
 simp only at hz
 rw [if_neg (by decide)] at hz
 simp only [Prod.mk.injEq] at hz
 obtain ⟨hk,rfl,rfl⟩ := hz
 refine ⟨rfl,rfl,?_⟩
 have hO : k'.opens = k.opens.set 3 ⟨1,(n : Int),(off : Int) + (((want.drop off).take 7).length : Int),1,1⟩ := by
  rw [← hk]
  show k.opens.set 3 { k.opens.getD 3 Aap with off := _ } = _
  rw [Abd _ 3 h.h3,h.op]
 have hT : k'.tree = k.tree := by rw [← hk]; rfl
 refine ⟨hfit,h.fd,by rw [hO,List.length_set]; exact h.h3,?_,by rw [hT]; exact h.hn,by simp only [hT]; exact h.kind,by simp only [hT]; exact h.data⟩
 simp only [hO,List.getElem_set_self]
 congr 1
structure Four (k : Krn) (f : List Int) : Prop where
 len : k.opens.length = 4
 fd : f.getD 4 0 = 0
 used : ∀ i (hi : i < k.opens.length),i ≠ 3 → k.opens[i].kind ≠ 0
theorem Four.of {k k' : Krn} {f : List Int} (h : Four k f) {o : Opn} (e : k'.opens = k.opens.set 3 o) : Four k' f :=
 ⟨by rw [e,List.length_set]; exact h.len,h.fd,fun i hi hn => by
  have hi2 : i < k.opens.length := by rw [e,List.length_set] at hi; exact hi
  have e2 : k'.opens[i] = k.opens[i] := by
   simp only [e]
   exact List.getElem_set_ne (fun e => hn e.symm) _
  rw [e2]
  exact h.used i hi2 hn⟩
theorem open_four {t : List Ino} {m b : Int} (hF : FitP t m b) {cwd : Int} {p : List UInt8} {k : Krn} {f : List Int} (hz : Ah7 (newK t m b []).1 (newK t m b []).2 3 cwd p 1 = (k,f,0)) : Four k f := by
 unfold Ah7 at hz
 rw [if_neg (by decide),if_neg (by decide)] at hz
 split at hz
 ·rename_i h
  exact absurd (Prod.mk.inj (Prod.mk.inj hz).2).2 h
 rename_i ht
 have ht2 : (Aaz (newK t m b []).1.tree (newK t m b []).1.b cwd p 1).2.2 = 0 := by simpa using ht
 obtain ⟨⟨L',ino,et⟩,hr⟩ : ∃ r,Aaz t b cwd p 1 = r := ⟨_,rfl⟩
 have hr2 : Aaz (newK t m b []).1.tree (newK t m b []).1.b cwd p 1 = (L',ino,et) := hr
 rw [hr2] at hz ht2
 simp only at hz ht2
 subst ht2
 obtain ⟨n,hn,rfl,h1,h2,h3⟩ := target_write hF hr
 have hput : putK (newK t m b []).1.opens ⟨1,(n : Int),0,(Aa3 1).2,1⟩ = ([⟨2,0,0,1,1⟩,⟨4,0,0,2,1⟩,⟨4,1,0,2,1⟩,⟨1,(n : Int),0,2,1⟩],4) := rfl
 rw [hput] at hz
 simp only at hz
 rw [if_neg (by decide)] at hz
 have hs : ∀ q : Krn,Aat q (newK t m b []).2 (Int.toNat 3) = (q,(newK t m b []).2) := fun q => rfl
 rw [hs] at hz
 simp only [Prod.mk.injEq,and_true] at hz
 obtain ⟨hk,hf⟩ := hz
 subst hk hf
 refine ⟨rfl,rfl,fun i hi hn => ?_⟩
 match i,hi,hn with
 | 0,_,_ => exact (by decide : (2 : Int) ≠ 0)
 | 1,_,_ => exact (by decide : (4 : Int) ≠ 0)
 | 2,_,_ => exact (by decide : (4 : Int) ≠ 0)
 | 3,_,h => exact absurd rfl h
 | j + 4,hi,_ => exact absurd (show j + 4 < 4 from hi) (by omega)
theorem file_opens {k : Krn} {f : List Int} {cwd : Int} {p : List UInt8} {n : Nat} {want : List UInt8} (h : Writing k f cwd p n want) (s : List UInt8) {k' : Krn} {c : Int} (hz : Ab5 k f 3 s = (k',c,0)) : ∃ o,k'.opens = k.opens.set 3 o := by
 unfold Ab5 at hz
 rw [show Int.toNat 3 = 3 from rfl,h.fd,if_neg (by decide),show ((4 : Int) - 1).toNat = 3 from rfl] at hz
 simp only at hz
 rw [Abd _ 3 h.h3,h.op] at hz
 simp only at hz
 rw [if_neg (show ¬ ((2 : Int) / 2 % 2 = 0) by decide),if_pos trivial,if_neg (show ¬ ((4 : Int) ≤ 2) by decide)] at hz
 obtain ⟨⟨L',ew⟩,hw⟩ : ∃ r,Aes k.tree k.b (n : Int) (want.length : Int) s = r := ⟨_,rfl⟩
 rw [hw] at hz
 simp only at hz
 split at hz
 ·rename_i he
  exact absurd (Prod.mk.inj (Prod.mk.inj hz).2).2 he
 ·simp only [Prod.mk.injEq] at hz
  obtain ⟨hk,-,-⟩ := hz
  rw [← hk]
  exact ⟨_,rfl⟩
theorem want_small {k : Krn} {f : List Int} {cwd : Int} {p : List UInt8} {n : Nat} {want : List UInt8} (h : Writing k f cwd p n want) : want.length ≤ 65536 := by
 have h1 := Aow k.tree n h.hn
 obtain ⟨l1,l2,l3,l4,l5⟩ := h.fit.tree.limits
 rw [h.data] at h1
 omega
theorem got_more (want : List UInt8) (off : Nat) : want.take off ++ (want.drop off).take 7 = want.take (off + ((want.drop off).take 7).length) := by
 rw [List.take_add,List.length_take]
 congr 1
 exact List.take_eq_take_min
theorem bytes_app (a b : List UInt8) : (⟨a.toArray⟩ : ByteArray) ++ ⟨b.toArray⟩ = ⟨(a ++ b).toArray⟩ := by
 apply ByteArray.ext
 simp
theorem bytes_app2 (a : List UInt8) (s : ByteArray) : (⟨a.toArray⟩ : ByteArray) ++ s = ⟨(a ++ s.data.toList).toArray⟩ := by
 apply ByteArray.ext
 simp
end Go.Proofs.YtkdfbliiblojoaaGreatDoor
namespace Go.Proofs.YtkdfbliiblojoaaGreatDoor
open Go.ChangeShapes Go.WideShapes Go.Deep Go.Joins
open Go Go.RowKit
def TextsIn (w : World) (v : Value) (X : List ByteArray) : Prop :=
 ∃ (a : Option Addr) (cap : Nat),v = .slice a X.length cap ∧ X.length ≤ cap ∧ cap ≤ maxLen ∧ ∀ i (hi : i < X.length),∃ b o,a = some ⟨b,o,none⟩ ∧ w.cell? ⟨b,o + i,none⟩ = some (.string X[i])
section
variable {H : Type} {enc : TypeId × Value → H} {w : World} {base : Nat} {held : Bool}
theorem Ate {T : Type} {a : Option Addr} {P : T → Value} {G : T → Prop} : ∀ (len : Nat),(∀ i,i < len → ∃ x : T,G x ∧ ∃ b o,a = some ⟨b,o,none⟩ ∧ w.cell? ⟨b,o + i,none⟩ = some (P x)) →
  ∃ X : List T,X.length = len ∧ (∀ x ∈ X,G x) ∧ ∀ i (hi : i < X.length),∃ b o,a = some ⟨b,o,none⟩ ∧ w.cell? ⟨b,o + i,none⟩ = some (P X[i])
 | 0,_ => ⟨[],rfl,(fun _ h => by cases h),fun i hi => absurd hi (Nat.not_lt_zero _)⟩
 | len + 1,h => by
  obtain ⟨X,h1,h2,h3⟩ := Ate len (fun i hi => h i (by omega))
  obtain ⟨x,hx,hc⟩ := h len (Nat.lt_succ_self _)
  refine ⟨X ++ [x],by simp [h1],fun e he => ?_,fun i hi => ?_⟩
  ·rcases List.mem_append.1 he with he | he
   ·exact h2 e he
   ·simp only [List.mem_singleton] at he
    subst he
    exact hx
  ·by_cases hil : i < X.length
   ·rw [List.getElem_append_left hil]
    exact h3 i hil
   ·have e : i = X.length := by simp at hi; omega
    subst e
    rw [List.getElem_concat_length rfl,h1]
    exact hc
theorem open_texts {v : Value} {d : DataW H} {p : List MemPlace} {r : Go.Reach} {b0 : Nat} (hv : Value.okWide Tryz.prog w r b0 61 v) (h : DataW.Trod enc Tryz.prog w base (fun _ => true) held 61 v d p) (R : Nat) (hR : ∀ z ∈ d.weights Tryz.prog 61,z ≤ R) :
  ∃ X : List ByteArray,TextsIn w v X ∧ ∀ s ∈ X,s.size ≤ R := by
 obtain ⟨fuel,hf⟩ := h
 have hf2 : DataW.trod enc Tryz.prog w base (fun _ => true) held fuel 61 [v] = some (d,p) := by
  have hc : v.cells.toList = [v] := by
   obtain ⟨a,l,c,rfl⟩ := okWide_slice Tryz.underlying61 hv
   rfl
  rw [hc] at hf
  exact hf
 obtain ⟨a,len,cap,rfl,hl,hm,-,hi⟩ := Aif Tryz.underlying61 Agc (by decide) hf2 R hR
 obtain ⟨X,h1,h2,h3⟩ := Ate (w := w) (a := a) (P := fun s : ByteArray => Value.string s) (G := fun s => s.size ≤ R) len (fun i hil => by
  obtain ⟨b,o,ha,n,cs,y,hy,hyR,hcl,hc⟩ := hi i hil
  have c0 := hc 0 (by decide)
  rw [Aa9 (show 0 < cs.length by omega)] at c0
  obtain ⟨c,rfl⟩ : ∃ c,cs = [c] := by
   match cs,hcl with
   | [c],_ => exact ⟨c,rfl⟩
  obtain ⟨s,e0,rfl,hs⟩ := DataW.trod_string Tryz.underlying9 hy
  simp only [List.cons.injEq,and_true] at e0
  subst e0
  refine ⟨s,?_,b,o,ha,by simpa using c0⟩
  have h4 := hyR s.data.toList.length (by simp [DataW.weights])
  rw [Array.length_toList] at h4
  exact h4)
 subst h1
 exact ⟨X,⟨a,cap,rfl,hl,hm,h3⟩,h2⟩
end
end Go.Proofs.YtkdfbliiblojoaaGreatDoor
