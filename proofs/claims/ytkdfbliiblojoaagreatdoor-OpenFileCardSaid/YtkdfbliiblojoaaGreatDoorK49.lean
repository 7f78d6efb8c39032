import Derived.Deep.Slices
import Derived.Deep.Fields
import Derived.Lib.SmallJoins
import Derived.SizedLaws
import Derived.ProofKit
import Derived.OpenShut
import Derived.Lib.LaidTab
import Derived.LaidLaws
import Derived.LaidMore
import Derived.Stop.Joined
import Derived.ChangeMaps5
import Derived.JoinedAt
import Derived.Deep.Strs
import Derived.Test.YtkdfbliiblojoaaGreatDoorRows
import Derived.Test.YtkdfbliiblojoaaGreatDoorTie
import Derived.Test.YtkdfbliiblojoaaGreatDoorK41
set_option linter.all false
set_option maxRecDepth 100000
set_option maxHeartbeats 64000000
namespace Go.Proofs.YtkdfbliiblojoaaGreatDoor
open Go.ChangeShapes Go.WideShapes Go.Deep Go.Joins
open Go Go.RowKit
section
variable {H : Type} {enc : TypeId × Value → H} {w : World} {base : Nat} {spare : Nat → Bool} {held : Bool}
theorem Aou (b o n : Nat) : (⟨b,o,none⟩ : Addr).add n = ⟨b,o + n,none⟩ := by
 unfold Addr.add
 split
 ·rename_i h
  rw [h]
  rfl
 ·rfl
theorem Ace {e : TypeId} {fs : Array Field} {n : Nat} {cs : List Value} {x : DataW H × List MemPlace} (ht : Tryz.prog.underlying e = some (.struct fs)) (h : DataW.trod enc Tryz.prog w base spare held n e cs = some x)
  (j : Nat) (f : Field) (hf : fs[j]? = some f) (ho : f.offset = j) (hc : Tryz.prog.cellsOf f.type = 1) (v : Value) (hv : cs[j]? = some v) :
  ∃ (n' : Nat) (y : DataW H × List MemPlace),DataW.trod enc Tryz.prog w base spare held n' f.type [v] = some y ∧ ∀ z ∈ y.1.weights Tryz.prog f.type,z ∈ x.1.weights Tryz.prog e := by
 obtain ⟨xs,n',_,rfl,hl,hlen,hfs⟩ := DataW.trod_struct ht h
 have h1 := hfs j f hf
 have hj : j < fs.size := (Array.getElem?_eq_some_iff.1 hf).1
 have hjc : j < cs.length := (List.getElem?_eq_some_iff.1 hv).1
 have e1 : (cs.drop j).take 1 = [v] := by
  rw [List.drop_eq_getElem_cons hjc]
  have : cs[j] = v := (List.getElem?_eq_some_iff.1 hv).2
  simp [this]
 rw [ho,hc,e1] at h1
 have hx : xs[j]? = some (xs[j]'(by omega)) := List.getElem?_eq_getElem (by omega)
 refine ⟨n',xs[j]'(by omega),h1.trans hx,fun z hz => ?_⟩
 show z ∈ DataW.weights Tryz.prog e (.agg (xs.map (·.1)))
 unfold DataW.weights
 rw [ht]
 refine DataW.weights_mem_each (j := j) (t := f.type) (d := (xs[j]'(by omega)).1) ?_ ?_ z hz
 ·rw [List.getElem?_map,Array.getElem?_toList,hf]
  rfl
 ·rw [List.getElem?_map,hx]
  rfl
theorem Agp {P : Program} {e : TypeId} : ∀ (l : List (DataW H)) (i : Nat) (hi : i < l.length),∀ z ∈ l[i].weights P e,z ∈ DataW.weightsAll P e l
 | d :: r,0,_,z,hz => by
  simp only [DataW.weightsAll,List.mem_append]
  exact Or.inl hz
 | d :: r,i + 1,hi,z,hz => by
  simp only [DataW.weightsAll,List.mem_append]
  exact Or.inr (Agp r i (Nat.lt_of_succ_lt_succ hi) z hz)
 | [],_,hi,_,_ => absurd hi (Nat.not_lt_zero _)
theorem Aif {t e : TypeId} {k : Nat} {fuel : Nat} {v : Value} {x : DataW H × List MemPlace} (ht : Tryz.prog.underlying t = some (.slice e)) (hk : Tryz.prog.cellsOf e = k) (hk0 : 0 < k) (h : DataW.trod enc Tryz.prog w base (fun _ => true) held fuel t [v] = some x)
  (R : Nat) (hR : ∀ z ∈ x.1.weights Tryz.prog t,z ≤ R) :
  ∃ (a : Option Addr) (len cap : Nat),v = .slice a len cap ∧ len ≤ cap ∧ cap ≤ maxLen ∧ len * Tryz.prog.bytesOf e ≤ R ∧
   ∀ i,i < len → ∃ b o,a = some ⟨b,o,none⟩ ∧ ∃ (n : Nat) (cs : List Value) (y : DataW H × List MemPlace),DataW.trod enc Tryz.prog w base (fun _ => true) held n e cs = some y ∧ (∀ z ∈ y.1.weights Tryz.prog e,z ≤ R) ∧ cs.length = k ∧ ∀ j,j < k → w.cell? ⟨b,o + i * k + j,none⟩ = cs[j]? := by
 rcases open_slice ht h with ⟨hcs,rfl⟩ | ⟨a,len,cap,m,n,D,Pl,hcs,hb,hl,hm,hmm,rfl,hi⟩
 ·have hv : v = .slice none 0 0 := by simpa using hcs
  exact ⟨none,0,0,hv,Nat.le_refl _,Nat.zero_le _,by omega,fun i hi => absurd hi (Nat.not_lt_zero _)⟩
 ·have hv : v = .slice (some a) len cap := by simpa using hcs
  have hcm : m = cap := by simpa using hmm
  subst hcm
  have hw : ∀ z ∈ DataW.weights Tryz.prog t (.slice ((List.range len).map D) ((List.range (m - len)).map fun j => D (len + j))),z ≤ R := hR
  unfold DataW.weights at hw
  rw [ht] at hw
  have hlen : len * Tryz.prog.bytesOf e ≤ R := by
   have h1 := hw ((((List.range len).map D).length + ((List.range (m - len)).map fun j => D (len + j)).length) * Tryz.prog.bytesOf e) (by simp)
   simp only [List.length_map,List.length_range] at h1
   exact Nat.le_trans (Nat.mul_le_mul_right _ (Nat.le_add_right _ _)) h1
  refine ⟨some a,len,m,hv,hl,hm,hlen,fun i hil => ?_⟩
  obtain ⟨cs,hc,hy⟩ := hi i (by omega)
  rw [hk] at hc
  obtain ⟨_,hcl,hat⟩ := World.cells?_some hc
  have hsp : a.spot = none := by
   obtain ⟨cs0,hc0,_⟩ := hi 0 (by omega)
   rw [hk] at hc0
   obtain ⟨_,hcl0,hat0⟩ := World.cells?_some hc0
   have h1 := hat0 0 hk0
   rw [List.getElem?_eq_getElem (by omega)] at h1
   have h2 := World.cell?_spot h1
   rw [Nat.zero_mul] at h2
   simpa [Addr.add] using h2
  obtain ⟨b,o,s⟩ := a
  have hs : s = none := hsp
  subst hs
  refine ⟨b,o,rfl,n,cs,_,hy,fun z hz => ?_,hcl,fun j hj => ?_⟩
  ·refine hw z ?_
   simp only [List.mem_cons,List.mem_append]
   refine Or.inr (Or.inl ?_)
   refine Agp _ i (by simpa using hil) z ?_
   simpa using hz
  ·have h1 := hat j hj
   rw [Aou,Aou] at h1
   exact h1
theorem Ac4 : Tryz.prog.cellsOf 3 = 1 := by kernel_rfl
theorem Agc : Tryz.prog.cellsOf 9 = 1 := by kernel_rfl
theorem Aa9 {l : List Value} {j : Nat} (h : j < l.length) : l[j]? = some l[j] := List.getElem?_eq_getElem h
end
section
variable {H : Type} {enc : TypeId × Value → H} {w : World} {base : Nat} {spare : Nat → Bool} {held : Bool}
theorem Amt : ∃ f0 f1 : Field,Tryz.prog.underlying 139 = some (.struct #[f0,f1]) ∧ f0.offset = 0 ∧ f1.offset = 1 ∧ f0.type = 9 ∧ f1.type = 3 :=
 ⟨_,_,Tryz.underlying139,rfl,rfl,rfl,rfl⟩
theorem Al8 : ∃ f0 f1 f2 f3 f4 f5 : Field,Tryz.prog.underlying 66 = some (.struct #[f0,f1,f2,f3,f4,f5]) ∧ f0.offset = 0 ∧ f1.offset = 1 ∧ f2.offset = 2 ∧ f3.offset = 3 ∧ f4.offset = 4 ∧ f5.offset = 5 ∧
  f0.type = 3 ∧ f1.type = 3 ∧ f2.type = 3 ∧ f3.type = 9 ∧ f4.type = 64 ∧ f5.type = 3 :=
 ⟨_,_,_,_,_,_,Tryz.underlying66,rfl,rfl,rfl,rfl,rfl,rfl,rfl,rfl,rfl,rfl,rfl,rfl⟩
theorem Awr : Tryz.prog.cellsOf 64 = 1 := by kernel_rfl
theorem Atp : Tryz.prog.cellsOf 139 = 2 := by kernel_rfl
theorem Auu : Tryz.prog.cellsOf 66 = 6 := by kernel_rfl
theorem Aob : Tryz.prog.bytesOf 139 = 24 := by kernel_rfl
theorem Anm : Tryz.prog.bytesOf 66 = 72 := by kernel_rfl
theorem Asw {fuel : Nat} {v : Value} {x : DataW H × List MemPlace} (h : DataW.trod enc Tryz.prog w base (fun _ => true) held fuel 64 [v] = some x) (R : Nat) (hR : ∀ z ∈ x.1.weights Tryz.prog 64,z ≤ R) :
  ∃ M : List (List UInt8 × Int),Acc w v M ∧ M.length * 24 ≤ R ∧ ∀ e ∈ M,e.1.length ≤ R := by
 obtain ⟨a,len,cap,rfl,hl,hm,hb,hi⟩ := Aif Tryz.underlying64 Atp (by decide) h R hR
 rw [Aob] at hb
 obtain ⟨f0,f1,hu,o0,o1,t0,t1⟩ := Amt
 have hone : ∀ i,i < len → ∃ (s : List UInt8) (z : Int),s.length ≤ R ∧ ∃ b o,a = some ⟨b,o,none⟩ ∧ w.cell? ⟨b,o + i * 2,none⟩ = some (.string ⟨s.toArray⟩) ∧ w.cell? ⟨b,o + i * 2 + 1,none⟩ = some (.int .i64 z) := fun i hil => by
  obtain ⟨b,o,ha,n,cs,y,hy,hyR,hcl,hc⟩ := hi i hil
  have c0 := hc 0 (by decide)
  have c1 := hc 1 (by decide)
  rw [Aa9 (show 0 < cs.length by omega)] at c0
  rw [Aa9 (show 1 < cs.length by omega)] at c1
  obtain ⟨n0,y0,hy0,hw0⟩ := Ace hu hy 0 f0 rfl o0 (by rw [t0]; exact Agc) _ (Aa9 (show 0 < cs.length by omega))
  obtain ⟨n1,y1,hy1,hw1⟩ := Ace hu hy 1 f1 rfl o1 (by rw [t1]; exact Ac4) _ (Aa9 (show 1 < cs.length by omega))
  rw [t0] at hy0 hw0
  rw [t1] at hy1
  obtain ⟨s,e0,rfl,hs⟩ := DataW.trod_string Tryz.underlying9 hy0
  obtain ⟨z,e1,rfl,-⟩ := DataW.trod_int Tryz.underlying3 hy1
  simp only [List.cons.injEq,and_true] at e0 e1
  rw [e0] at c0
  rw [e1] at c1
  refine ⟨s.data.toList,z,hyR _ (hw0 _ (by simp [DataW.weights])),b,o,ha,c0,c1⟩
 -- the list
 have hex : ∃ M : List (List UInt8 × Int),M.length = len ∧ (∀ e ∈ M,e.1.length ≤ R) ∧ ∀ i (hi : i < M.length),∃ b o,a = some ⟨b,o,none⟩ ∧ w.cell? ⟨b,o + i * 2,none⟩ = some (.string ⟨M[i].1.toArray⟩) ∧ w.cell? ⟨b,o + i * 2 + 1,none⟩ = some (.int .i64 M[i].2) := by
  clear hl hm hb hi h
  induction len with
  | zero => exact ⟨[],rfl,by simp,fun i hi => absurd hi (Nat.not_lt_zero _)⟩
  | succ len ih =>
   obtain ⟨M,h1,h2,h3⟩ := ih (fun i hi => hone i (by omega))
   obtain ⟨s,z,hs,hc⟩ := hone len (Nat.lt_succ_self _)
   refine ⟨M ++ [(s,z)],by simp [h1],fun e he => ?_,fun i hi => ?_⟩
   ·rcases List.mem_append.1 he with he | he
    ·exact h2 e he
    ·simp only [List.mem_singleton] at he
     subst he
     exact hs
   ·by_cases hil : i < M.length
    ·rw [List.getElem_append_left hil]
     exact h3 i hil
    ·have e : i = M.length := by simp at hi; omega
     subst e
     rw [List.getElem_concat_length rfl,h1]
     exact hc
 obtain ⟨M,h1,h2,h3⟩ := hex
 subst h1
 exact ⟨M,⟨a,cap,rfl,hl,hm,h3⟩,hb,h2⟩
theorem Arv {fuel : Nat} {v : Value} {x : DataW H × List MemPlace} (h : DataW.trod enc Tryz.prog w base (fun _ => true) held fuel 22 [v] = some x) (R : Nat) (hR : ∀ z ∈ x.1.weights Tryz.prog 22,z ≤ R) :
  ∃ (L : List Ino) (a : Option Addr) (cap : Nat),v = .slice a L.length cap ∧ Aah w a cap L ∧ L.length * 72 ≤ R ∧ ∀ y ∈ L,y.data.length ≤ R ∧ y.kids.length * 24 ≤ R ∧ ∀ e ∈ y.kids,e.1.length ≤ R := by
 obtain ⟨a,len,cap,rfl,hl,hm,hb,hi⟩ := Aif Tryz.underlying22 Auu (by decide) h R hR
 rw [Anm] at hb
 obtain ⟨f0,f1,f2,f3,f4,f5,hu,o0,o1,o2,o3,o4,o5,t0,t1,t2,t3,t4,t5⟩ := Al8
 have hone : ∀ i,i < len → ∃ y : Ino,(y.data.length ≤ R ∧ y.kids.length * 24 ≤ R ∧ ∀ e ∈ y.kids,e.1.length ≤ R) ∧ ∃ b o,a = some ⟨b,o,none⟩ ∧ NodeIn w b (o + i * 6) y := fun i hil => by
  obtain ⟨b,o,ha,n,cs,y,hy,hyR,hcl,hc⟩ := hi i hil
  have c0 := hc 0 (by decide)
  have c1 := hc 1 (by decide)
  have c2 := hc 2 (by decide)
  have c3 := hc 3 (by decide)
  have c4 := hc 4 (by decide)
  have c5 := hc 5 (by decide)
  rw [Aa9 (show 0 < cs.length by omega)] at c0
  rw [Aa9 (show 1 < cs.length by omega)] at c1
  rw [Aa9 (show 2 < cs.length by omega)] at c2
  rw [Aa9 (show 3 < cs.length by omega)] at c3
  rw [Aa9 (show 4 < cs.length by omega)] at c4
  rw [Aa9 (show 5 < cs.length by omega)] at c5
  obtain ⟨n0,y0,hy0,hw0⟩ := Ace hu hy 0 f0 rfl o0 (by rw [t0]; exact Ac4) _ (Aa9 (show 0 < cs.length by omega))
  obtain ⟨n1,y1,hy1,hw1⟩ := Ace hu hy 1 f1 rfl o1 (by rw [t1]; exact Ac4) _ (Aa9 (show 1 < cs.length by omega))
  obtain ⟨n2,y2,hy2,hw2⟩ := Ace hu hy 2 f2 rfl o2 (by rw [t2]; exact Ac4) _ (Aa9 (show 2 < cs.length by omega))
  obtain ⟨n3,y3,hy3,hw3⟩ := Ace hu hy 3 f3 rfl o3 (by rw [t3]; exact Agc) _ (Aa9 (show 3 < cs.length by omega))
  obtain ⟨n4,y4,hy4,hw4⟩ := Ace hu hy 4 f4 rfl o4 (by rw [t4]; exact Awr) _ (Aa9 (show 4 < cs.length by omega))
  obtain ⟨n5,y5,hy5,hw5⟩ := Ace hu hy 5 f5 rfl o5 (by rw [t5]; exact Ac4) _ (Aa9 (show 5 < cs.length by omega))
  rw [t0] at hy0
  rw [t1] at hy1
  rw [t2] at hy2
  rw [t3] at hy3 hw3
  rw [t4] at hy4 hw4
  rw [t5] at hy5
  obtain ⟨z0,e0,rfl,-⟩ := DataW.trod_int Tryz.underlying3 hy0
  obtain ⟨z1,e1,rfl,-⟩ := DataW.trod_int Tryz.underlying3 hy1
  obtain ⟨z2,e2,rfl,-⟩ := DataW.trod_int Tryz.underlying3 hy2
  obtain ⟨s,e3,rfl,hs⟩ := DataW.trod_string Tryz.underlying9 hy3
  obtain ⟨z5,e5,rfl,-⟩ := DataW.trod_int Tryz.underlying3 hy5
  obtain ⟨M,hM,hM1,hM2⟩ := Asw hy4 R (fun z hz => hyR z (hw4 z hz))
  simp only [List.cons.injEq,and_true] at e0 e1 e2 e3 e5
  rw [e0] at c0
  rw [e1] at c1
  rw [e2] at c2
  rw [e3] at c3
  rw [e5] at c5
  exact ⟨⟨z0,z1,z2,s.data.toList,M,z5⟩,⟨hyR _ (hw3 _ (by simp [DataW.weights])),hM1,hM2⟩,b,o,ha,⟨c0,c1,c2,c3,⟨_,c4,hM⟩,c5⟩⟩
 have hex : ∃ L : List Ino,L.length = len ∧ (∀ y ∈ L,y.data.length ≤ R ∧ y.kids.length * 24 ≤ R ∧ ∀ e ∈ y.kids,e.1.length ≤ R) ∧ ∀ i (hi : i < L.length),∃ b o,a = some ⟨b,o,none⟩ ∧ NodeIn w b (o + i * 6) L[i] := by
  clear hl hm hb hi h
  induction len with
  | zero => exact ⟨[],rfl,by simp,fun i hi => absurd hi (Nat.not_lt_zero _)⟩
  | succ len ih =>
   obtain ⟨L,h1,h2,h3⟩ := ih (fun i hi => hone i (by omega))
   obtain ⟨y,hy,hc⟩ := hone len (Nat.lt_succ_self _)
   refine ⟨L ++ [y],by simp [h1],fun e he => ?_,fun i hi => ?_⟩
   ·rcases List.mem_append.1 he with he | he
    ·exact h2 e he
    ·simp only [List.mem_singleton] at he
     subst he
     exact hy
   ·by_cases hil : i < L.length
    ·rw [List.getElem_append_left hil]
     exact h3 i hil
    ·have e : i = L.length := by simp at hi; omega
     subst e
     rw [List.getElem_concat_length rfl,h1]
     exact hc
 obtain ⟨L,h1,h2,h3⟩ := hex
 subst h1
 exact ⟨L,a,cap,rfl,⟨hl,hm,h3⟩,hb,h2⟩
theorem Aq7 : Tryz.prog.cellsOf 24 = 3 := by kernel_rfl
end
section
variable {H : Type} {enc : TypeId × Value → H} {w : World} {base : Nat} {held : Bool}
theorem Bar {α : Type} {cs : Array α} (h : cs.size = 7) : ∃ c0 c1 c2 c3 c4 c5 c6,cs = #[c0,c1,c2,c3,c4,c5,c6] := by
 obtain ⟨l⟩ := cs
 match l,h with
 | [c0,c1,c2,c3,c4,c5,c6],_ => exact ⟨c0,c1,c2,c3,c4,c5,c6,rfl⟩
theorem Aev {e : TypeId} {fs : Array Field} {xs : List (DataW H × List MemPlace)} (ht : Tryz.prog.underlying e = some (.struct fs)) (j : Nat) (f : Field) (hf : fs[j]? = some f) (y : DataW H × List MemPlace) (hy : xs[j]? = some y) : ∀ z ∈ y.1.weights Tryz.prog f.type,z ∈ DataW.weights Tryz.prog e (.agg (xs.map (·.1))) := fun z hz => by
 unfold DataW.weights
 rw [ht]
 refine DataW.weights_mem_each (j := j) (t := f.type) (d := y.1) ?_ ?_ z hz
 ·rw [List.getElem?_map,Array.getElem?_toList,hf]
  rfl
 ·rw [List.getElem?_map,hy]
  rfl
theorem row_of9 {T : Type} {F : T → List Value} {k : Nat} (hF : ∀ x,(F x).length = k) {a : Option Addr} (Q : T → Prop) : ∀ (len : Nat),(∀ i,i < len → ∃ x : T,Q x ∧ ∃ b o,a = some ⟨b,o,none⟩ ∧ ∀ j,j < k → w.cell? ⟨b,o + i * k + j,none⟩ = (F x)[j]?) →
  ∃ L : List T,L.length = len ∧ (∀ x ∈ L,Q x) ∧ ∀ i (hi : i < L.length),∃ b o,a = some ⟨b,o,none⟩ ∧ ∀ j,j < k → w.cell? ⟨b,o + i * k + j,none⟩ = (F L[i])[j]?
 | 0,_ => ⟨[],rfl,fun x h => absurd h List.not_mem_nil,fun i hi => absurd hi (Nat.not_lt_zero _)⟩
 | len + 1,hone => by
  obtain ⟨L,h1,h2,h3⟩ := row_of9 hF Q len fun i hi => hone i (by omega)
  obtain ⟨y,hy,hc⟩ := hone len (Nat.lt_succ_self _)
  refine ⟨L ++ [y],by simp [h1],fun e he => ?_,fun i hi => ?_⟩
  ·rcases List.mem_append.1 he with he | he
   ·exact h2 e he
   ·simp only [List.mem_singleton] at he
    subst he
    exact hy
  ·by_cases hil : i < L.length
   ·rw [List.getElem_append_left hil]
    exact h3 i hil
   ·have e : i = L.length := by simp at hi; omega
    subst e
    rw [List.getElem_concat_length rfl,h1]
    exact hc
theorem Ati {T : Type} {F : T → List Value} {k : Nat} (hk : 0 < k) (hF : ∀ x,(F x).length = k) {a : Option Addr} {cap : Nat} {L : List T} (hl : L.length ≤ cap) (hm : cap ≤ maxLen) (h : ∀ i (hi : i < L.length),∃ b o,a = some ⟨b,o,none⟩ ∧ ∀ j,j < k → w.cell? ⟨b,o + i * k + j,none⟩ = (F L[i])[j]?) : SlIn w a L.length cap k (rowC F L) := by
 refine ⟨hl,hm,Aia hF L,fun j hj => ?_⟩
 have hi : j / k < L.length := Nat.div_lt_of_lt_mul (by rw [Nat.mul_comm]; exact hj)
 have hr : j % k < k := Nat.mod_lt _ hk
 obtain ⟨b,o,ha,hc⟩ := h (j / k) hi
 have e : j = j / k * k + j % k := by rw [Nat.mul_comm]; exact (Nat.div_add_mod j k).symm
 refine ⟨b,o,ha,?_⟩
 have h1 := hc (j % k) hr
 rw [Nat.add_assoc,← e] at h1
 rw [h1]
 conv => rhs; rw [e]
 exact (Aio hF L _ hi _ hr).symm
theorem Aqv : ∃ f0 f1 f2 f3 : Field,Tryz.prog.underlying 87 = some (.struct #[f0,f1,f2,f3]) ∧ f0.offset = 0 ∧ f1.offset = 1 ∧ f2.offset = 2 ∧ f3.offset = 3 ∧ f0.type = 9 ∧ f1.type = 3 ∧ f2.type = 3 ∧ f3.type = 3 :=
 ⟨_,_,_,_,Tryz.underlying87,rfl,rfl,rfl,rfl,rfl,rfl,rfl,rfl⟩
theorem Aqw : ∃ f0 f1 f2 f3 f4 : Field,Tryz.prog.underlying 70 = some (.struct #[f0,f1,f2,f3,f4]) ∧ f0.offset = 0 ∧ f1.offset = 1 ∧ f2.offset = 2 ∧ f3.offset = 3 ∧ f4.offset = 4 ∧ f0.type = 3 ∧ f1.type = 3 ∧ f2.type = 3 ∧ f3.type = 3 ∧ f4.type = 3 :=
 ⟨_,_,_,_,_,Tryz.underlying70,rfl,rfl,rfl,rfl,rfl,rfl,rfl,rfl,rfl,rfl⟩
theorem Awh : Tryz.prog.cellsOf 87 = 4 := by kernel_rfl
theorem Avl : Tryz.prog.cellsOf 70 = 5 := by kernel_rfl
theorem As0 : Tryz.prog.bytesOf 87 = 40 := by kernel_rfl
theorem Asc : Tryz.prog.bytesOf 70 = 40 := by kernel_rfl
theorem Au4 {fuel : Nat} {v : Value} {x : DataW H × List MemPlace} (h : DataW.trod enc Tryz.prog w base (fun _ => true) held fuel 25 [v] = some x) (R : Nat) (hR : ∀ z ∈ x.1.weights Tryz.prog 25,z ≤ R) :
  ∃ (P : List Pip) (a : Option Addr) (cap : Nat),v = .slice a P.length cap ∧ SlIn w a P.length cap 4 (rowC pipF P) ∧ P.length * 40 ≤ R ∧ ∀ p ∈ P,p.data.length ≤ R := by
 obtain ⟨a,len,cap,rfl,hl,hm,hb,hi⟩ := Aif Tryz.underlying25 Awh (by decide) h R hR
 rw [As0] at hb
 obtain ⟨f0,f1,f2,f3,hu,o0,o1,o2,o3,t0,t1,t2,t3⟩ := Aqv
 obtain ⟨P,h1,h2,h3⟩ := row_of9 (w := w) Aey (a := a) (fun p : Pip => p.data.length ≤ R) len fun i hil => by
  obtain ⟨b,o,ha,n,cs,y,hy,hyR,hcl,hc⟩ := hi i hil
  have c0 := hc 0 (by decide)
  have c1 := hc 1 (by decide)
  have c2 := hc 2 (by decide)
  have c3 := hc 3 (by decide)
  rw [Aa9 (show 0 < cs.length by omega)] at c0
  rw [Aa9 (show 1 < cs.length by omega)] at c1
  rw [Aa9 (show 2 < cs.length by omega)] at c2
  rw [Aa9 (show 3 < cs.length by omega)] at c3
  obtain ⟨n0,y0,hy0,hw0⟩ := Ace hu hy 0 f0 rfl o0 (by rw [t0]; exact Agc) _ (Aa9 (show 0 < cs.length by omega))
  obtain ⟨n1,y1,hy1,hw1⟩ := Ace hu hy 1 f1 rfl o1 (by rw [t1]; exact Ac4) _ (Aa9 (show 1 < cs.length by omega))
  obtain ⟨n2,y2,hy2,hw2⟩ := Ace hu hy 2 f2 rfl o2 (by rw [t2]; exact Ac4) _ (Aa9 (show 2 < cs.length by omega))
  obtain ⟨n3,y3,hy3,hw3⟩ := Ace hu hy 3 f3 rfl o3 (by rw [t3]; exact Ac4) _ (Aa9 (show 3 < cs.length by omega))
  rw [t0] at hy0 hw0
  rw [t1] at hy1
  rw [t2] at hy2
  rw [t3] at hy3
  obtain ⟨s,e0,rfl,hs⟩ := DataW.trod_string Tryz.underlying9 hy0
  obtain ⟨z1,e1,rfl,-⟩ := DataW.trod_int Tryz.underlying3 hy1
  obtain ⟨z2,e2,rfl,-⟩ := DataW.trod_int Tryz.underlying3 hy2
  obtain ⟨z3,e3,rfl,-⟩ := DataW.trod_int Tryz.underlying3 hy3
  simp only [List.cons.injEq,and_true] at e0 e1 e2 e3
  rw [e0] at c0
  rw [e1] at c1
  rw [e2] at c2
  rw [e3] at c3
  refine ⟨⟨s.data.toList,z1,z2,z3⟩,hyR _ (hw0 _ (by simp [DataW.weights])),b,o,ha,fun j hj => ?_⟩
  match j,hj with
  | 0,_ => exact c0
  | 1,_ => exact c1
  | 2,_ => exact c2
  | 3,_ => exact c3
 subst h1
 exact ⟨P,a,cap,rfl,Ati (by decide) Aey hl hm h3,hb,h2⟩
theorem At6 {fuel : Nat} {v : Value} {x : DataW H × List MemPlace} (h : DataW.trod enc Tryz.prog w base (fun _ => true) held fuel 26 [v] = some x) (R : Nat) (hR : ∀ z ∈ x.1.weights Tryz.prog 26,z ≤ R) :
  ∃ (P : List Opn) (a : Option Addr) (cap : Nat),v = .slice a P.length cap ∧ SlIn w a P.length cap 5 (rowC opnF P) ∧ P.length * 40 ≤ R := by
 obtain ⟨a,len,cap,rfl,hl,hm,hb,hi⟩ := Aif Tryz.underlying26 Avl (by decide) h R hR
 rw [Asc] at hb
 obtain ⟨f0,f1,f2,f3,f4,hu,o0,o1,o2,o3,o4,t0,t1,t2,t3,t4⟩ := Aqw
 obtain ⟨P,h1,-,h3⟩ := row_of9 (w := w) Ad2 (a := a) (fun _ : Opn => True) len fun i hil => by
  obtain ⟨b,o,ha,n,cs,y,hy,hyR,hcl,hc⟩ := hi i hil
  have c0 := hc 0 (by decide)
  have c1 := hc 1 (by decide)
  have c2 := hc 2 (by decide)
  have c3 := hc 3 (by decide)
  have c4 := hc 4 (by decide)
  rw [Aa9 (show 0 < cs.length by omega)] at c0
  rw [Aa9 (show 1 < cs.length by omega)] at c1
  rw [Aa9 (show 2 < cs.length by omega)] at c2
  rw [Aa9 (show 3 < cs.length by omega)] at c3
  rw [Aa9 (show 4 < cs.length by omega)] at c4
  obtain ⟨n0,y0,hy0,-⟩ := Ace hu hy 0 f0 rfl o0 (by rw [t0]; exact Ac4) _ (Aa9 (show 0 < cs.length by omega))
  obtain ⟨n1,y1,hy1,-⟩ := Ace hu hy 1 f1 rfl o1 (by rw [t1]; exact Ac4) _ (Aa9 (show 1 < cs.length by omega))
  obtain ⟨n2,y2,hy2,-⟩ := Ace hu hy 2 f2 rfl o2 (by rw [t2]; exact Ac4) _ (Aa9 (show 2 < cs.length by omega))
  obtain ⟨n3,y3,hy3,-⟩ := Ace hu hy 3 f3 rfl o3 (by rw [t3]; exact Ac4) _ (Aa9 (show 3 < cs.length by omega))
  obtain ⟨n4,y4,hy4,-⟩ := Ace hu hy 4 f4 rfl o4 (by rw [t4]; exact Ac4) _ (Aa9 (show 4 < cs.length by omega))
  rw [t0] at hy0
  rw [t1] at hy1
  rw [t2] at hy2
  rw [t3] at hy3
  rw [t4] at hy4
  obtain ⟨z0,e0,rfl,-⟩ := DataW.trod_int Tryz.underlying3 hy0
  obtain ⟨z1,e1,rfl,-⟩ := DataW.trod_int Tryz.underlying3 hy1
  obtain ⟨z2,e2,rfl,-⟩ := DataW.trod_int Tryz.underlying3 hy2
  obtain ⟨z3,e3,rfl,-⟩ := DataW.trod_int Tryz.underlying3 hy3
  obtain ⟨z4,e4,rfl,-⟩ := DataW.trod_int Tryz.underlying3 hy4
  simp only [List.cons.injEq,and_true] at e0 e1 e2 e3 e4
  rw [e0] at c0
  rw [e1] at c1
  rw [e2] at c2
  rw [e3] at c3
  rw [e4] at c4
  refine ⟨⟨z0,z1,z2,z3,z4⟩,trivial,b,o,ha,fun j hj => ?_⟩
  match j,hj with
  | 0,_ => exact c0
  | 1,_ => exact c1
  | 2,_ => exact c2
  | 3,_ => exact c3
  | 4,_ => exact c4
 subst h1
 exact ⟨P,a,cap,rfl,Ati (by decide) Ad2 hl hm h3,hb⟩
structure ReachK (K : Krn) : Prop where
 tree : Proofs.YtkdfbliiblojoaaGreatDoor.Reach K.tree
 pipes : K.pipes.length ≤ 4000000000000
 opens : K.opens.length ≤ 4000000000000
 out0 : K.out0.length ≤ 140737488355328
 out1 : K.out1.length ≤ 140737488355328
theorem An7 : ∃ f0 f1 f2 f3 : Field,Tryz.prog.underlying 29 = some (.struct #[f0,f1,f2,f3]) ∧ f0.offset = 0 ∧ f1.offset = 3 ∧ f2.offset = 4 ∧ f3.offset = 5 ∧ f0.type = 24 ∧ f1.type = 25 ∧ f2.type = 26 ∧ f3.type = 27 :=
 ⟨_,_,_,_,Tryz.underlying29,rfl,rfl,rfl,rfl,rfl,rfl,rfl,rfl⟩
theorem Aq4 : Tryz.prog.cellsOf 29 = 7 := by kernel_rfl
theorem Awu : Tryz.prog.cellsOf 25 = 1 := by kernel_rfl
theorem Axs : Tryz.prog.cellsOf 26 = 1 := by kernel_rfl
theorem Avo : Tryz.prog.cellsOf 27 = 2 := by kernel_rfl
theorem Aye : Tryz.prog.cellsOf 31 = 10 := by kernel_rfl
theorem Ar3 : Tryz.prog.cellsOf 22 = 1 := by kernel_rfl
theorem Aub : ∃ f0 f1 f2 : Field,Tryz.prog.underlying 24 = some (.struct #[f0,f1,f2]) ∧ f0.offset = 0 ∧ f1.offset = 1 ∧ f2.offset = 2 ∧ f0.type = 22 ∧ f1.type = 3 ∧ f2.type = 3 :=
 ⟨_,_,_,Tryz.underlying24,rfl,rfl,rfl,rfl,rfl,rfl⟩
theorem Auw {r : Go.Reach} {b0 : Nat} {v : Value} {d : DataW H} {p : List MemPlace} (hv : Value.okWide Tryz.prog w r b0 29 v) (h : DataW.Trod enc Tryz.prog w base (fun _ => true) held 29 v d p)
  (R : Nat) (hR0 : R ≤ 140737488355328) (hR : ∀ z ∈ d.weights Tryz.prog 29,z ≤ R) :
  ∃ (K : Krn) (A : KAd),v = .agg #[.slice A.ta K.tree.length A.tc,.int .i64 K.m,.int .i64 K.b,.slice A.pa K.pipes.length A.pc,.slice A.oa K.opens.length A.oc,.string ⟨K.out0.toArray⟩,.string ⟨K.out1.toArray⟩] ∧ KernIn w A K ∧ ReachK K := by
 obtain ⟨f0,f1,f2,f3,hu,o0,o1,o2,o3,t0,t1,t2,t3⟩ := An7
 obtain ⟨cs,rfl,hsz⟩ := okWide_struct hu hv
 obtain ⟨c0,c1,c2,c3,c4,c5,c6,rfl⟩ := Bar (hsz.trans Aq4)
 obtain ⟨fuel,hf⟩ := h
 have hf : DataW.trod enc Tryz.prog w base (fun _ => true) held fuel 29 [c0,c1,c2,c3,c4,c5,c6] = some (d,p) := hf
 obtain ⟨xs,n,_,hx,hl,hlen,hfs⟩ := DataW.trod_struct hu hf
 obtain ⟨rfl,rfl⟩ : d = .agg (xs.map (·.1)) ∧ p = xs.flatMap (·.2) := by simpa using hx
 have hlen : xs.length = 4 := hlen
 have g0 := hfs 0 f0 rfl
 have g1 := hfs 1 f1 rfl
 have g2 := hfs 2 f2 rfl
 have g3 := hfs 3 f3 rfl
 have x0 : xs[0]? = some (xs[0]'(by omega)) := List.getElem?_eq_getElem _
 have x1 : xs[1]? = some (xs[1]'(by omega)) := List.getElem?_eq_getElem _
 have x2 : xs[2]? = some (xs[2]'(by omega)) := List.getElem?_eq_getElem _
 have x3 : xs[3]? = some (xs[3]'(by omega)) := List.getElem?_eq_getElem _
 rw [x0] at g0
 rw [x1] at g1
 rw [x2] at g2
 rw [x3] at g3
 have w0 := fun z hz => hR z (Aev hu 0 f0 rfl _ x0 z hz)
 have w1 := fun z hz => hR z (Aev hu 1 f1 rfl _ x1 z hz)
 have w2 := fun z hz => hR z (Aev hu 2 f2 rfl _ x2 z hz)
 have w3 := fun z hz => hR z (Aev hu 3 f3 rfl _ x3 z hz)
 rw [t0] at g0 w0
 rw [t1] at g1 w1
 rw [t2] at g2 w2
 rw [t3] at g3 w3
 rw [o0,Aq7] at g0
 rw [o1,Awu] at g1
 rw [o2,Axs] at g2
 rw [o3,Avo] at g3
 have g0 : DataW.trod enc Tryz.prog w base (fun _ => true) held n 24 [c0,c1,c2] = some _ := g0
 have g1 : DataW.trod enc Tryz.prog w base (fun _ => true) held n 25 [c3] = some _ := g1
 have g2 : DataW.trod enc Tryz.prog w base (fun _ => true) held n 26 [c4] = some _ := g2
 have g3 : DataW.trod enc Tryz.prog w base (fun _ => true) held n 27 [c5,c6] = some _ := g3
 obtain ⟨P,pa,pc,rfl,hP,hPl,-⟩ := Au4 g1 R w1
 obtain ⟨O,oa,oc,rfl,hO,hOl⟩ := At6 g2 R w2
 obtain ⟨e0,e1,e2,hv2,q0,q1,q2,s0,s1,s2⟩ := Aub
 obtain ⟨n0,y0,hy0,hw0⟩ := Ace hv2 g0 0 e0 rfl q0 (by rw [s0]; exact Ar3) c0 rfl
 obtain ⟨n1,y1,hy1,-⟩ := Ace hv2 g0 1 e1 rfl q1 (by rw [s1]; exact Ac4) c1 rfl
 obtain ⟨n2,y2,hy2,-⟩ := Ace hv2 g0 2 e2 rfl q2 (by rw [s2]; exact Ac4) c2 rfl
 rw [s0] at hy0 hw0
 rw [s1] at hy1
 rw [s2] at hy2
 obtain ⟨m,em,-,-⟩ := DataW.trod_int Tryz.underlying3 hy1
 obtain ⟨b,eb,-,-⟩ := DataW.trod_int Tryz.underlying3 hy2
 simp only [List.cons.injEq,and_true] at em eb
 subst em eb
 obtain ⟨L,ta,tc,rfl,hN,hLl,hy⟩ := Arv hy0 R (fun z hz => w0 z (hw0 z hz))
 obtain ⟨ys,k,_,hys,-,hyl,hya⟩ := DataW.trod_array Tryz.underlying27 g3
 have a0 := hya 0 (by decide)
 have a1 := hya 1 (by decide)
 rw [Agc] at a0 a1
 have z0 : ys[0]? = some (ys[0]'(by omega)) := List.getElem?_eq_getElem _
 have z1 : ys[1]? = some (ys[1]'(by omega)) := List.getElem?_eq_getElem _
 rw [z0] at a0
 rw [z1] at a1
 have a0 : DataW.trod enc Tryz.prog w base (fun _ => true) held k 9 [c5] = some _ := a0
 have a1 : DataW.trod enc Tryz.prog w base (fun _ => true) held k 9 [c6] = some _ := a1
 obtain ⟨u0,eu0,hu0,-⟩ := DataW.trod_string Tryz.underlying9 a0
 obtain ⟨u1,eu1,hu1,-⟩ := DataW.trod_string Tryz.underlying9 a1
 simp only [List.cons.injEq,and_true] at eu0 eu1
 subst eu0 eu1
 have hout : ∀ (i : Nat) (y : DataW H × List MemPlace),ys[i]? = some y → ∀ z ∈ y.1.weights Tryz.prog 9,z ≤ R := fun i y hi z hz => w3 z (by
  rw [hys]
  unfold DataW.weights
  rw [Tryz.underlying27]
  have hm : i < (ys.map (·.1)).length := by rw [List.length_map]; exact (List.getElem?_eq_some_iff.1 hi).1
  refine Agp _ i hm z ?_
  rw [List.getElem_map,(List.getElem?_eq_some_iff.1 hi).2]
  exact hz)
 have r0 := hout 0 _ z0 u0.data.toList.length (by rw [hu0]; simp [DataW.weights])
 have r1 := hout 1 _ z1 u1.data.toList.length (by rw [hu1]; simp [DataW.weights])
 refine ⟨⟨L,m,b,P,O,u0.data.toList,u1.data.toList⟩,⟨ta,tc,pa,pc,oa,oc⟩,rfl,⟨hN,hP,hO⟩,⟨⟨by show L.length ≤ _; omega,fun k hk => ?_,fun k hk => ?_,fun k hk => by have := (hy _ (List.getElem_mem hk)).1; omega⟩,by show P.length ≤ _; omega,by show O.length ≤ _; omega,by show u0.data.toList.length ≤ _; omega,by show u1.data.toList.length ≤ _; omega⟩⟩
 ·have := (hy _ (List.getElem_mem hk)).2.1
  omega
 ·have h1 := (hy _ (List.getElem_mem hk)).1
  exact ⟨by omega,fun e he => by have := (hy _ (List.getElem_mem hk)).2.2 e he; omega⟩
theorem Azf {α : Type} {cs : Array α} (h : cs.size = 10) : ∃ c0 c1 c2 c3 c4 c5 c6 c7 c8 c9,cs = #[c0,c1,c2,c3,c4,c5,c6,c7,c8,c9] := by
 obtain ⟨l⟩ := cs
 match l,h with
 | [c0,c1,c2,c3,c4,c5,c6,c7,c8,c9],_ => exact ⟨c0,c1,c2,c3,c4,c5,c6,c7,c8,c9,rfl⟩
theorem Awf {r : Go.Reach} {b0 : Nat} {v : Value} {d : DataW H} {p : List MemPlace} (hv : Value.okWide Tryz.prog w r b0 31 v) (h : DataW.Trod enc Tryz.prog w base (fun _ => true) held 31 v d p) :
  ∃ f : List Int,f.length = 10 ∧ v = .agg #[.int .i64 (fdA f 0),.int .i64 (fdA f 1),.int .i64 (fdA f 2),.int .i64 (fdA f 3),.int .i64 (fdA f 4),.int .i64 (fdA f 5),.int .i64 (fdA f 6),.int .i64 (fdA f 7),.int .i64 (fdA f 8),.int .i64 (fdA f 9)] := by
 have hv2 := hv
 simp only [Value.okWide,Tryz.underlying31] at hv2
 obtain ⟨cs,rfl,hsz,-⟩ := hv2
 obtain ⟨c0,c1,c2,c3,c4,c5,c6,c7,c8,c9,rfl⟩ := Azf (hsz.trans Aye)
 obtain ⟨fuel,hf⟩ := h
 have hf : DataW.trod enc Tryz.prog w base (fun _ => true) held fuel 31 [c0,c1,c2,c3,c4,c5,c6,c7,c8,c9] = some (d,p) := hf
 obtain ⟨ys,k,_,-,-,hyl,hya⟩ := DataW.trod_array Tryz.underlying31 hf
 have hone : ∀ (i : Nat) (hi : i < 10) (c : Value),[c0,c1,c2,c3,c4,c5,c6,c7,c8,c9][i]? = some c → ∃ z : Int,c = .int .i64 z := fun i hi c hc => by
  have a := hya i hi
  rw [Ac4,Nat.mul_one,List.getElem?_eq_getElem (by omega)] at a
  have e : ([c0,c1,c2,c3,c4,c5,c6,c7,c8,c9].drop i).take 1 = [c] := by
   obtain ⟨hl,e1⟩ := List.getElem?_eq_some_iff.1 hc
   rw [List.drop_eq_getElem_cons hl,e1]
   rfl
  rw [e] at a
  obtain ⟨z,ez,-,-⟩ := DataW.trod_int Tryz.underlying3 a
  simp only [List.cons.injEq,and_true] at ez
  exact ⟨z,ez⟩
 obtain ⟨z0,rfl⟩ := hone 0 (by decide) _ rfl
 obtain ⟨z1,rfl⟩ := hone 1 (by decide) _ rfl
 obtain ⟨z2,rfl⟩ := hone 2 (by decide) _ rfl
 obtain ⟨z3,rfl⟩ := hone 3 (by decide) _ rfl
 obtain ⟨z4,rfl⟩ := hone 4 (by decide) _ rfl
 obtain ⟨z5,rfl⟩ := hone 5 (by decide) _ rfl
 obtain ⟨z6,rfl⟩ := hone 6 (by decide) _ rfl
 obtain ⟨z7,rfl⟩ := hone 7 (by decide) _ rfl
 obtain ⟨z8,rfl⟩ := hone 8 (by decide) _ rfl
 obtain ⟨z9,rfl⟩ := hone 9 (by decide) _ rfl
 exact ⟨[z0,z1,z2,z3,z4,z5,z6,z7,z8,z9],rfl,rfl⟩
end
end Go.Proofs.YtkdfbliiblojoaaGreatDoor
namespace Go.Proofs.YtkdfbliiblojoaaGreatDoor
open Go.ChangeShapes Go.WideShapes Go.ChangeAt
open Go Go.RowKit
theorem own9 : ownKnob Tryz.prog.godebug = none := by kernel_rfl
theorem Az6 : Tryz.prog.globalNamed "windlass/open.ways" = some 0 := by kernel_rfl
theorem Ba2 : (Tryz.prog.globals[0]?).map (·.type) = some 133 := by kernel_rfl
theorem Arg : ∃ f0 f1 f2 : Field,Tryz.prog.underlying 132 = some (.struct #[f0,f1,f2]) ∧ f0.offset = 0 ∧ f1.offset = 1 ∧ f2.offset = 2 ∧ f0.type = 3 ∧ f1.type = 3 ∧ f2.type = 4 :=
 ⟨_,_,_,Tryz.underlying132,rfl,rfl,rfl,rfl,rfl,rfl⟩
theorem Azs : Tryz.prog.cellsOf 132 = 3 := by kernel_rfl
theorem Ax8 : Tryz.prog.cellsOf 133 = 15 := by kernel_rfl
theorem Ar6 : Tryz.prog.cellsOf 3 = 1 := by kernel_rfl
theorem Ayk : Tryz.prog.cellsOf 4 = 1 := by kernel_rfl
abbrev Al9 : List (String × DataW Unit) := [("windlass/open.ways",Rows.laid_windlass_open_ways)]
section
variable {H : Type} {enc : TypeId × Value → H} {w : World} {base : Nat} {spare : Nat → Bool} {held : Bool}
theorem Afe {n : Nat} {c0 c1 c2 : Value} {x : DataW H × List MemPlace} (h : DataW.trod enc Tryz.prog w base spare held n 132 [c0,c1,c2] = some x) {a b : Int} {c : Bool} (hx : x.1 = .agg [.lit (.int .i64 a),.lit (.int .i64 b),.lit (.bool c)]) : c0 = .int .i64 a ∧ c1 = .int .i64 b ∧ c2 = .bool c := by
 obtain ⟨f0,f1,f2,hu,o0,o1,o2,t0,t1,t2⟩ := Arg
 obtain ⟨xs,m,_,rfl,hl,hlen,hfs⟩ := DataW.trod_struct hu h
 have g0 := hfs 0 f0 rfl
 have g1 := hfs 1 f1 rfl
 have g2 := hfs 2 f2 rfl
 have hlen' : xs.length = 3 := hlen
 match xs,hlen' with
 | [y0,y1,y2],_ =>
  rw [t0,o0,Ar6] at g0
  rw [t1,o1,Ar6] at g1
  rw [t2,o2,Ayk] at g2
  have g0 : DataW.trod enc Tryz.prog w base spare held m 3 [c0] = some y0 := g0
  have g1 : DataW.trod enc Tryz.prog w base spare held m 3 [c1] = some y1 := g1
  have g2 : DataW.trod enc Tryz.prog w base spare held m 4 [c2] = some y2 := g2
  obtain ⟨z0,e0,h0,-⟩ := DataW.trod_int Tryz.underlying3 g0
  obtain ⟨z1,e1,h1,-⟩ := DataW.trod_int Tryz.underlying3 g1
  obtain ⟨z2,e2,h2⟩ := DataW.trod_bool Tryz.underlying4 g2
  subst h0 h1 h2
  simp at hx e0 e1 e2
  obtain ⟨rfl,rfl,rfl⟩ := hx
  exact ⟨e0,e1,e2⟩
theorem Auy {n : Nat} : ∀ {ys : List (DataW H × List MemPlace)} {l : List Value},ys.length = 5 → ys.map (·.1) = [.agg [.lit (.int .i64 4),.lit (.int .i64 1),.lit (.bool false)],.agg [.lit (.int .i64 2),.lit (.int .i64 2),.lit (.bool true)],.agg [.lit (.int .i64 2),.lit (.int .i64 6),.lit (.bool false)],.agg [.lit (.int .i64 6),.lit (.int .i64 3),.lit (.bool false)],.agg [.lit (.int .i64 2),.lit (.int .i64 2),.lit (.bool true)]] → l.length = 15 →
  (∀ i,i < 5 → DataW.trod enc Tryz.prog w base spare held n 132 ((l.drop (i * 3)).take 3) = ys[i]?) → ∀ (i : Nat) (v : Value),Azw[i]? = some v → l[i]? = some v
 | [y0,y1,y2,y3,y4],[a0,a1,a2,a3,a4,a5,a6,a7,a8,a9,a10,a11,a12,a13,a14],_,hys,_,hya,i,v,hv => by
  simp only [List.map_cons,List.map_nil,List.cons.injEq,and_true] at hys
  obtain ⟨e0,e1,e2,e3,e4⟩ := hys
  obtain ⟨rfl,rfl,rfl⟩ := Afe (hya 0 (by decide)) e0
  obtain ⟨rfl,rfl,rfl⟩ := Afe (hya 1 (by decide)) e1
  obtain ⟨rfl,rfl,rfl⟩ := Afe (hya 2 (by decide)) e2
  obtain ⟨rfl,rfl,rfl⟩ := Afe (hya 3 (by decide)) e3
  obtain ⟨rfl,rfl,rfl⟩ := Afe (hya 4 (by decide)) e4
  exact hv
end
theorem Av6 {W : World} (h : laidMetH Tryz.prog Al9 W) : Ways W := by
 rw [MakeChecks.laidMetH_plain _ _ _ (by kernel_rfl)] at h
 obtain ⟨ps,⟨g',t',cs,fuel,p,q,hg',ht',hvar,hd,_,_⟩,_⟩ := h
 obtain rfl := Option.some.inj (Az6.symm.trans hg')
 obtain rfl := Option.some.inj (Ba2.symm.trans ht')
 have hcell := World.var?_cell Az6 hvar
 refine ⟨fun i v hv => ?_⟩
 rw [hcell i]
 obtain ⟨ys,k,_,hyx,hcl,hyl,hya⟩ := DataW.trod_array Tryz.underlying133 hd
 have hys : ys.map (·.1) = [.agg [.lit (.int .i64 4),.lit (.int .i64 1),.lit (.bool false)],.agg [.lit (.int .i64 2),.lit (.int .i64 2),.lit (.bool true)],.agg [.lit (.int .i64 2),.lit (.int .i64 6),.lit (.bool false)],.agg [.lit (.int .i64 6),.lit (.int .i64 3),.lit (.bool false)],.agg [.lit (.int .i64 2),.lit (.int .i64 2),.lit (.bool true)]] := by
  have h := congrArg Prod.fst hyx
  exact (DataW.agg.inj h).symm
 clear hyx hd
 have hcl : cs.toList.length = 15 := hcl.trans Ax8
 rw [← Array.getElem?_toList]
 obtain ⟨l,hl⟩ : ∃ l,l = cs.toList := ⟨_,rfl⟩
 rw [← hl] at hcl hya ⊢
 clear hl hvar hcell
 exact Auy hyl hys hcl (by rw [Azs] at hya; exact hya) i v hv
theorem Ar0 (os : Os) (args : Array Value) : laidMetH Tryz.prog Al9 ((World.doorLaid Tryz.prog 400 os).forCall (fun _ _ => 0) ⟨#[],args,[]⟩).memory :=
 laidMetH_of_parts3 (fuel := 8) (laidMet_of_run' 8 (by kernel_rfl) (by kernel_rfl)) (by kernel_rfl) (by kernel_rfl)
end Go.Proofs.YtkdfbliiblojoaaGreatDoor
