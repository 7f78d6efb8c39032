import Derived.Test.YtkdfbliiblojoaaGreatDoorK17
import Derived.OneCell
import Derived.Laws.IdiomCopy
import Derived.Lib.BufferWrite
set_option linter.all false
set_option maxRecDepth 100000
set_option maxHeartbeats 64000000
namespace Go.Proofs.YtkdfbliiblojoaaGreatDoor
open Go Go.RowKit
theorem Apt (p : Opn → Bool) : ∀ (O : List Opn) (j : Nat) (hj : j < O.length) (x : Opn),p x = p O[j] → (O.set j x).findIdx? p = O.findIdx? p
 | [],j,hj,_,_ => absurd hj (Nat.not_lt_zero _)
 | y :: r,0,_,x,h => by
  have h' : p x = p y := h
  rw [List.set_cons_zero,List.findIdx?_cons,List.findIdx?_cons,h']
 | y :: r,j + 1,hj,x,h => by
  rw [List.set_cons_succ,List.findIdx?_cons,List.findIdx?_cons,Apt p r j (Nat.lt_of_succ_lt_succ hj) x h]
theorem Ax7 {O : List Opn} {o x : Opn} {j : Nat} (hj : j < O.length) (h0 : O[j].kind ≠ 0) (hx : x.kind ≠ 0) : putK (O.set j x) o = ((putK O o).1.set j x,(putK O o).2) := by
 have hf := Apt (fun x => x.kind == 0) O j hj x (by show (x.kind == 0) = (O[j].kind == 0); rw [beq_eq_false_iff_ne.2 h0,beq_eq_false_iff_ne.2 hx])
 unfold putK
 rw [hf,List.length_set]
 cases hi : O.findIdx? (fun x => x.kind == 0) with
 | some i =>
  obtain ⟨h1,h2,-⟩ := List.findIdx?_eq_some_iff_getElem.1 hi
  have e : i ≠ j := fun e => by subst e; exact h0 (by simpa using h2)
  show ((O.set j x).set i o,(i : Int) + 1) = ((O.set i o).set j x,(i : Int) + 1)
  rw [List.set_comm _ _ e]
 | none =>
  by_cases h64 : 64 ≤ O.length
  ·simp only [if_pos h64]
  ·simp only [if_neg h64]
   rw [List.set_append_left _ _ hj]
theorem As1 {k : Krn} {i j : Nat} (hi : i < k.opens.length) (hj : j < k.opens.length) (h : i ≠ j) : Abe (Abe k i) j = Abe (Abe k j) i := by
 refine Ac6 rfl rfl rfl rfl ?_ rfl rfl
 show (k.opens.set i _).set j _ = (k.opens.set j _).set i _
 rw [List.set_comm _ _ h]
 congr 1
 ·congr 1
  rw [Abd _ j (by rw [Ac1]; exact hj),Abd _ j hj,Afr hi j hj,if_neg h]
 ·rw [Abd _ i hi,Abd _ i (by rw [Ac1]; exact hi),Afr hj i hi,if_neg (fun e => h e.symm)]
theorem Axf (k k' : Krn) (f : List Int) (fd : Nat) : (Aat k f fd).2 = (Aat k' f fd).2 := by
 unfold Aat
 split <;> rfl
theorem Apo (k : Krn) (f : List Int) (fd : Nat) (x : Int) : (Aat k f fd).2.set fd x = f.set fd x := by
 unfold Aat
 split
 ·rfl
 ·exact List.set_set ..
theorem Aks (k : Krn) (f : List Int) {fd i : Nat} (h : fd ≠ i) : (Aat k f fd).2.getD i 0 = f.getD i 0 := by
 unfold Aat
 split
 ·rfl
 ·rw [List.getD_eq_getElem?_getD,List.getD_eq_getElem?_getD]
  show ((f.set fd 0)[i]?).getD 0 = _
  rw [List.getElem?_set_ne h]
  rfl
theorem Awk (k : Krn) (f g : List Int) (fd : Nat) (h : f.getD fd 0 = g.getD fd 0) : (Aat k f fd).1 = (Aat k g fd).1 := by
 unfold Aat
 rw [h]
 split <;> rfl
theorem Atz {k : Krn} {f : List Int} {fd j : Nat} (hj : j < k.opens.length) (hf : f.getD fd 0 = 0 ∨ ∃ i : Nat,∃ hi : i < k.opens.length,f.getD fd 0 = (i : Int) + 1 ∧ (i = j → k.opens[j].refs ≠ 1 ∧ k.opens[j].refs ≠ 0)) : Abe (Aat k f fd).1 j = (Aat (Abe k j) f fd).1 := congrArg Prod.fst (Af1 hj hf)
theorem Ayb (S T : List Int) {q u : Nat} (h : q ≠ u) (a b : Int) (hT : T.set u b = S.set u b) : (S.set q a).set u b = (T.set q a).set u b := by
 rw [List.set_comm _ _ h,← hT,List.set_comm _ _ (fun e => h e.symm)]
def Ah5 (k : Krn) (f : List Int) (fd cwd : Int) (p : List UInt8) (how : Int) : Krn × List Int × Int :=
 if isFd fd = false then (k,f,9) else if how < 0 ∨ 5 ≤ how then (k,f,22) else
 if (Aaz k.tree k.b cwd p how).2.2 ≠ 0 then (k,f,(Aaz k.tree k.b cwd p how).2.2) else
 if (putK k.opens ⟨1,(Aaz k.tree k.b cwd p how).2.1,0,(Aa3 how).2,0⟩).2 = 0 then (k,f,24) else
 ((Adg { k with tree := (Aaz k.tree k.b cwd p how).1,opens := (putK k.opens ⟨1,(Aaz k.tree k.b cwd p how).2.1,0,(Aa3 how).2,0⟩).1 } f fd.toNat ((putK k.opens ⟨1,(Aaz k.tree k.b cwd p how).2.1,0,(Aa3 how).2,0⟩).2 - 1).toNat).1,
  (Adg { k with tree := (Aaz k.tree k.b cwd p how).1,opens := (putK k.opens ⟨1,(Aaz k.tree k.b cwd p how).2.1,0,(Aa3 how).2,0⟩).1 } f fd.toNat ((putK k.opens ⟨1,(Aaz k.tree k.b cwd p how).2.1,0,(Aa3 how).2,0⟩).2 - 1).toNat).2,0)
theorem Ar1 {k : Krn} {f : List Int} (h : FitK k f) {O' : List Opn} {j : Nat} (hO : ∀ i (hi : i < k.opens.length),k.opens[i].kind ≠ 0 → i ≠ j ∧ ∃ hi' : i < O'.length,O'[i] = k.opens[i]) {fd : Nat} (hfd : fd < 10) : f.getD fd 0 = 0 ∨ ∃ i : Nat,i ≠ j ∧ ∃ hi : i < k.opens.length,∃ hi' : i < O'.length,f.getD fd 0 = (i : Int) + 1 ∧ k.opens[i].kind ≠ 0 ∧ O'[i] = k.opens[i] := by
 have hl : fd < f.length := by rw [h.len]; exact hfd
 rw [h.at_zero hl]
 by_cases h0 : f[fd] = 0
 ·exact .inl h0
 ·obtain ⟨i,hi,h1,h2,-⟩ := h.desc hl h0
  obtain ⟨h3,h4,h5⟩ := hO i hi h2
  exact .inr ⟨i,h3,hi,h4,h1,h2,h5⟩
theorem Auh {k : Krn} {f : List Int} (h : FitK k f) (fd cwd : Int) (p : List UInt8) (how : Int) : Ah5 k f fd cwd p how = Ah7 k f fd cwd p how := by
 unfold Ah5 Ah7
 by_cases h1 : isFd fd = false
 ·rw [if_pos h1,if_pos h1]
 rw [if_neg h1,if_neg h1]
 by_cases h2 : how < 0 ∨ 5 ≤ how
 ·rw [if_pos h2,if_pos h2]
 rw [if_neg h2,if_neg h2]
 obtain ⟨⟨T,ino,e⟩,ht⟩ : ∃ r,Aaz k.tree k.b cwd p how = r := ⟨_,rfl⟩
 rw [ht]
 simp only
 by_cases h3 : e ≠ 0
 ·rw [if_pos h3,if_pos h3]
 rw [if_neg h3,if_neg h3]
 obtain ⟨p1,p2⟩ := Aii (O := k.opens) (o := ⟨1,ino,0,(Aa3 how).2,1⟩) (show (1 : Int) ≠ 0 by decide)
 have p1' : (putK k.opens ⟨1,ino,0,(Aa3 how).2,0⟩).2 = (putK k.opens ⟨1,ino,0,(Aa3 how).2,1⟩).2 := p1
 rw [p1']
 obtain ⟨⟨O1,a⟩,hp⟩ : ∃ r,putK k.opens ⟨1,ino,0,(Aa3 how).2,1⟩ = r := ⟨_,rfl⟩
 rw [hp]
 simp only
 by_cases h4 : a = 0
 ·rw [if_pos h4,if_pos h4]
 rw [if_neg h4,if_neg h4]
 obtain ⟨j,rfl,⟨-,-⟩,-⟩ := Ag1 hp h4
 obtain ⟨hj,-,-⟩ := p2 j (by rw [hp])
 obtain ⟨n,rfl,hn⟩ := Ach (show isFd fd = true by simpa using h1)
 rw [Int.toNat_natCast,show ((j : Int) + 1 - 1).toNat = j by omega]
 obtain ⟨⟨O0,a0⟩,hp0⟩ : ∃ r,putK k.opens ⟨1,ino,0,(Aa3 how).2,0⟩ = r := ⟨_,rfl⟩
 have ha0 : a0 = (j : Int) + 1 := by
  have := p1'
  rw [hp0,hp] at this
  exact this
 subst ha0
 obtain ⟨j0,ej,-,hkeep⟩ := Ag1 hp0 h4
 obtain rfl : j = j0 := by omega
 have hj' : j < O0.length := by
  have hjx : j < (putK k.opens ⟨1,ino,0,(Aa3 how).2,0⟩).1.length := hj
  rw [hp0] at hjx
  exact hjx
 rw [hp0]
 simp only
 have hm := Apd (k := { k with tree := T }) (o := ⟨1,ino,0,(Aa3 how).2,1⟩) (show (1 : Int) ≠ 0 by decide) rfl (j := j) (by show (putK k.opens _).2 = _; rw [hp])
 have hm' : Abe { k with tree := T,opens := O0 } j = { k with tree := T,opens := O1 } := by
  have hmm : Abe { k with tree := T,opens := (putK k.opens ⟨1,ino,0,(Aa3 how).2,0⟩).1 } j = { k with tree := T,opens := (putK k.opens ⟨1,ino,0,(Aa3 how).2,1⟩).1 } := hm
  rw [hp0,hp] at hmm
  exact hmm
 have hl := Af1 (k := { k with tree := T,opens := O0 }) (f := f) (fd := n) (j := j) hj' (by
  rcases Ar1 h hkeep hn with h5 | ⟨i,h5,-,hi',h6,-,-⟩
  ·exact .inl h5
  ·exact .inr ⟨i,hi',h6,fun e => absurd e h5⟩)
 rw [hm'] at hl
 rw [hl]
def Afl (k : Krn) (f : List Int) (r w size : Int) : Krn × List Int × Int :=
 if isFd r = false ∨ isFd w = false then (k,f,9) else if r = w then (k,f,22) else if (Aao size).2 ≠ 0 then (k,f,(Aao size).2) else
 if 32 ≤ Ac7 k.pipes then (k,f,24) else
 if (putK k.opens ⟨2,(Ac7 k.pipes : Int),0,1,0⟩).2 = 0 then (k,f,24) else
 if (putK (putK k.opens ⟨2,(Ac7 k.pipes : Int),0,1,0⟩).1 ⟨3,(Ac7 k.pipes : Int),0,2,0⟩).2 = 0 then (k,f,24) else
 let x : Krn := { k with pipes := Adf k.pipes (Ac7 k.pipes) (Aao size).1,opens := (putK (putK k.opens ⟨2,(Ac7 k.pipes : Int),0,1,0⟩).1 ⟨3,(Ac7 k.pipes : Int),0,2,0⟩).1 }
 let y := Adg x f r.toNat ((putK k.opens ⟨2,(Ac7 k.pipes : Int),0,1,0⟩).2 - 1).toNat
 let z := Adg y.1 y.2 w.toNat ((putK (putK k.opens ⟨2,(Ac7 k.pipes : Int),0,1,0⟩).1 ⟨3,(Ac7 k.pipes : Int),0,2,0⟩).2 - 1).toNat
 (z.1,z.2,0)
theorem At3 {k : Krn} {f : List Int} (h : FitK k f) (r w size : Int) : Afl k f r w size = Ai8 k f r w size := by
 unfold Afl Ai8
 by_cases h1 : isFd r = false ∨ isFd w = false
 ·rw [if_pos h1,if_pos h1]
 rw [if_neg h1,if_neg h1]
 by_cases h2 : r = w
 ·rw [if_pos h2,if_pos h2]
 rw [if_neg h2,if_neg h2]
 by_cases h3 : (Aao size).2 ≠ 0
 ·rw [if_pos h3,if_pos h3]
 rw [if_neg h3,if_neg h3]
 obtain ⟨at_,hat⟩ : ∃ a,Ac7 k.pipes = a := ⟨_,rfl⟩
 rw [hat]
 by_cases h4 : 32 ≤ at_
 ·rw [if_pos h4,if_pos h4]
 rw [if_neg h4,if_neg h4]
 obtain ⟨p1,p2⟩ := Aii (O := k.opens) (o := ⟨2,(at_ : Int),0,1,1⟩) (show (2 : Int) ≠ 0 by decide)
 have p1' : (putK k.opens ⟨2,(at_ : Int),0,1,0⟩).2 = (putK k.opens ⟨2,(at_ : Int),0,1,1⟩).2 := p1
 have p2' : ∀ j : Nat,(putK k.opens ⟨2,(at_ : Int),0,1,1⟩).2 = (j : Int) + 1 → ∃ hj : j < (putK k.opens ⟨2,(at_ : Int),0,1,0⟩).1.length,(putK k.opens ⟨2,(at_ : Int),0,1,0⟩).1[j] = ⟨2,(at_ : Int),0,1,0⟩ ∧ (putK k.opens ⟨2,(at_ : Int),0,1,0⟩).1.set j ⟨2,(at_ : Int),0,1,1⟩ = (putK k.opens ⟨2,(at_ : Int),0,1,1⟩).1 := p2
 clear p1 p2
 rw [← p1']
 by_cases h5 : (putK k.opens ⟨2,(at_ : Int),0,1,0⟩).2 = 0
 ·rw [if_pos h5,if_pos h5]
 rw [if_neg h5,if_neg h5]
 obtain ⟨⟨O1,a⟩,hp1⟩ : ∃ x,putK k.opens ⟨2,(at_ : Int),0,1,0⟩ = x := ⟨_,rfl⟩
 rw [hp1] at p1' p2' h5 ⊢
 simp only at p1' p2' h5 ⊢
 obtain ⟨j,rfl,-,hkeep1⟩ := Ag1 hp1 h5
 obtain ⟨hj1,hOj,hset⟩ := p2' j p1'.symm
 rw [← hset,Ax7 hj1 (by rw [hOj]; exact (show (2 : Int) ≠ 0 by decide)) (show (2 : Int) ≠ 0 by decide)]
 simp only
 obtain ⟨q1,q2⟩ := Aii (O := O1) (o := ⟨3,(at_ : Int),0,2,1⟩) (show (3 : Int) ≠ 0 by decide)
 have q1' : (putK O1 ⟨3,(at_ : Int),0,2,0⟩).2 = (putK O1 ⟨3,(at_ : Int),0,2,1⟩).2 := q1
 rw [← q1']
 by_cases h6 : (putK O1 ⟨3,(at_ : Int),0,2,0⟩).2 = 0
 ·rw [if_pos h6,if_pos h6]
 rw [if_neg h6,if_neg h6]
 obtain ⟨⟨O2,c⟩,hp2⟩ : ∃ x,putK O1 ⟨3,(at_ : Int),0,2,0⟩ = x := ⟨_,rfl⟩
 have hq : (putK O1 ⟨3,(at_ : Int),0,2,1⟩).2 = c := by rw [← q1',hp2]
 rw [hp2] at h6
 simp only at h6
 obtain ⟨j2,rfl,⟨hj2,hOj2⟩,hkeep2⟩ := Ag1 hp2 h6
 obtain ⟨hjj,hj',hOj'⟩ := hkeep2 j hj1 (by rw [hOj]; exact (show (2 : Int) ≠ 0 by decide))
 have hm2 := Apd (k := { k with pipes := Adf k.pipes at_ (Aao size).1,opens := O1 }) (o := ⟨3,(at_ : Int),0,2,1⟩) (show (3 : Int) ≠ 0 by decide) rfl (j := j2) hq
 have hm2' : Abe { k with pipes := Adf k.pipes at_ (Aao size).1,opens := O2 } j2 = { k with pipes := Adf k.pipes at_ (Aao size).1,opens := (putK O1 ⟨3,(at_ : Int),0,2,1⟩).1 } := by
  have hmm : Abe { k with pipes := Adf k.pipes at_ (Aao size).1,opens := (putK O1 ⟨3,(at_ : Int),0,2,0⟩).1 } j2 = { k with pipes := Adf k.pipes at_ (Aao size).1,opens := (putK O1 ⟨3,(at_ : Int),0,2,1⟩).1 } := hm2
  rw [hp2] at hmm
  exact hmm
 obtain ⟨O3,hO3⟩ : ∃ x,(putK O1 ⟨3,(at_ : Int),0,2,1⟩).1 = x := ⟨_,rfl⟩
 rw [hO3] at hm2' ⊢
 rw [hp2]
 simp only
 obtain ⟨P,hP⟩ : ∃ P,P = Adf k.pipes at_ (Aao size).1 := ⟨_,rfl⟩
 rw [← hP] at hm2' ⊢
 obtain ⟨q,rfl,hq10⟩ := Ach (show isFd r = true by simp only [not_or] at h1; simpa using h1.1)
 obtain ⟨u,rfl,hu10⟩ := Ach (show isFd w = true by simp only [not_or] at h1; simpa using h1.2)
 have hqu : q ≠ u := fun e => h2 (by rw [e])
 rw [Int.toNat_natCast,Int.toNat_natCast,show ((j : Int) + 1 - 1).toNat = j by omega,show ((j2 : Int) + 1 - 1).toNat = j2 by omega]
 -- the state with both descriptions led
 obtain ⟨K3,hK3⟩ : ∃ x : Krn,x = { k with pipes := P,opens := O2 } := ⟨_,rfl⟩
 have hK3o : K3.opens = O2 := by rw [hK3]
 rw [← hK3] at hm2' ⊢
 have hj3 : j < K3.opens.length := by rw [hK3o]; exact hj'
 have hj23 : j2 < K3.opens.length := by rw [hK3o]; exact hj2
 have hO3j : O3 = O2.set j2 ⟨3,(at_ : Int),0,2,1⟩ := by
  have h7 := congrArg Krn.opens hm2'
  have h8 : (Abe K3 j2).opens = O3 := h7
  rw [← h8]
  show K3.opens.set j2 { K3.opens.getD j2 Aap with refs := (K3.opens.getD j2 Aap).refs + 1 } = _
  rw [Abd _ j2 hj23]
  simp only [hK3o]
  rw [hOj2]
  rfl
 have hx : ({ k with pipes := P,opens := O3.set j ⟨2,(at_ : Int),0,1,1⟩ } : Krn) = Abe (Abe K3 j) j2 := by
  rw [As1 hj3 hj23 hjj,hm2']
  refine Ac6 rfl rfl rfl rfl ?_ rfl rfl
  show O3.set j _ = O3.set j { O3.getD j Aap with refs := (O3.getD j Aap).refs + 1 }
  have hl3 : j < O3.length := by rw [hO3j,List.length_set]; exact hj'
  have he : O3[j] = ⟨2,(at_ : Int),0,1,0⟩ := by
   simp only [hO3j]
   rw [List.getElem_set_ne (fun e => hjj e.symm),hOj',hOj]
  rw [Abd _ j hl3,he]
  rfl
 rw [hx]
 have hold : ∀ n : Nat,n < 10 → f.getD n 0 = 0 ∨ ∃ i : Nat,∃ hi : i < K3.opens.length,f.getD n 0 = (i : Int) + 1 ∧ i ≠ j ∧ i ≠ j2 := fun n hn => by
  rcases Ar1 h hkeep1 hn with h7 | ⟨i,h7,hi,hi1,h8,h9,h10⟩
  ·exact .inl h7
  ·obtain ⟨h11,h12,-⟩ := hkeep2 i hi1 (by rw [h10]; exact h9)
   exact .inr ⟨i,by rw [hK3o]; exact h12,h8,h7,h11⟩
 have hml : (Abe K3 j).opens.length = K3.opens.length := Ac1 _ _
 have hl1 := Af1 (k := K3) (f := f) (fd := q) (j := j) hj3 (by
  rcases hold q hq10 with h7 | ⟨i,hi,h7,h8,-⟩
  ·exact .inl h7
  ·exact .inr ⟨i,hi,h7,fun e => absurd e h8⟩)
 rw [hl1]
 have hs2 : Abe (Aat (Abe K3 j) f q).1 j2 = (Aat (Abe (Abe K3 j) j2) f q).1 := Atz (by rw [hml]; exact hj23) (by
  rcases hold q hq10 with h7 | ⟨i,hi,h7,-,h8⟩
  ·exact .inl h7
  ·exact .inr ⟨i,by rw [hml]; exact hi,h7,fun e => absurd e h8⟩)
 have hlen : (Aat (Abe K3 j) f q).1.opens.length = K3.opens.length := by rw [(Ae1 _ _ _).1,hml]
 have hf4 : ((Aat (Abe K3 j) f q).2.set q ((j : Int) + 1)).getD u 0 = f.getD u 0 := by
  rw [List.getD_eq_getElem?_getD,List.getElem?_set_ne hqu,← List.getD_eq_getElem?_getD,Aks _ _ hqu]
 have hl2 := Af1 (k := (Aat (Abe K3 j) f q).1) (f := (Aat (Abe K3 j) f q).2.set q ((j : Int) + 1)) (fd := u) (j := j2) (by rw [hlen]; exact hj23) (by
  rw [hf4]
  rcases hold u hu10 with h7 | ⟨i,hi,h7,-,h8⟩
  ·exact .inl h7
  ·exact .inr ⟨i,by rw [hlen]; exact hi,h7,fun e => absurd e h8⟩)
 rw [hl2,hs2]
 have hsnd : (Aat (Abe K3 j) f q).2 = (Aat (Abe (Abe K3 j) j2) f q).2 := Axf _ _ _ _
 refine Prod.ext ?_ (Prod.ext ?_ rfl)
 ·refine Awk _ _ _ _ ?_
  rw [hf4,Aks _ _ hqu]
 ·show (Aat _ _ u).2.set u ((j2 : Int) + 1) = ((Aat _ _ u).2.set q ((j : Int) + 1)).set u ((j2 : Int) + 1)
  rw [Apo]
  exact Ayb _ _ hqu _ _ (by rw [Apo,hsnd])
theorem Ak0 (K : Krn) (o : Opn) : putK K.opens o = ((Abv K o).1,if (Abv K o).2.2 = 0 then ((Abv K o).2.1 : Int) + 1 else 0) := by
 unfold putK Abv
 cases hf : K.opens.findIdx? (fun x => x.kind == 0) with
 | some i =>
  obtain ⟨h1,h2,h3⟩ := List.findIdx?_eq_some_iff_getElem.1 hf
  rw [Ap8 (free := fun i => (K.opens.getD i Aap).kind == 0) h1 (fun j hj => by
   show ((K.opens.getD j Aap).kind == 0) = false
   rw [Abd _ j (by omega)]
   simpa using h3 j hj) (by show ((K.opens.getD i Aap).kind == 0) = true; rw [Abd _ i h1]; exact h2)]
  rfl
 | none =>
  have h1 : ∀ i,i < K.opens.length → ((K.opens.getD i Aap).kind == 0) = false := fun i hi => by
   rw [Abd _ i hi]
   have := List.findIdx?_eq_none_iff.1 hf K.opens[i] (List.getElem_mem hi)
   simpa using this
  by_cases h64 : 64 ≤ K.opens.length
  ·rw [Ain (free := fun i => (K.opens.getD i Aap).kind == 0) h1 h64]
   simp only [if_pos h64]
   rfl
  ·rw [Ak1 (free := fun i => (K.opens.getD i Aap).kind == 0) h1 h64]
   simp only [if_neg h64]
   rfl
theorem Av3 (K : Krn) (p : Pip) (h32 : K.pipes.length ≤ 32) : Ac5 K p = if 32 ≤ Ac7 K.pipes then (K.pipes,0,24) else (Adf K.pipes (Ac7 K.pipes) p,Ac7 K.pipes,0) := by
 unfold Ac5 Ac7
 cases hf : (K.pipes.drop 1).findIdx? (fun p => p.rd == 0 && p.wr == 0) with
 | some i =>
  obtain ⟨h1,h2,h3⟩ := List.findIdx?_eq_some_iff_getElem.1 hf
  rw [List.length_drop] at h1
  have hi : i + 1 < K.pipes.length := by omega
  have hd : ∀ j (hj : j + 1 < K.pipes.length),(K.pipes.drop 1)[j]'(by rw [List.length_drop]; omega) = K.pipes[j + 1] := fun j hj => by
   rw [List.getElem_drop]
   simp only [Nat.add_comm 1 j]
  rw [hd i hi] at h2
  rw [Ap8 (free := fun i => decide (0 < i) && ((K.pipes.getD i Ab9).rd == 0 && (K.pipes.getD i Ab9).wr == 0)) hi (fun j hj => by
   show (decide (0 < j) && ((K.pipes.getD j Ab9).rd == 0 && (K.pipes.getD j Ab9).wr == 0)) = false
   cases j with
   | zero => rfl
   | succ j =>
    rw [Abd _ (j + 1) (by omega)]
    have h4 := h3 j (by omega)
    rw [hd j (by omega)] at h4
    simpa using h4) (by
   show (decide (0 < i + 1) && ((K.pipes.getD (i + 1) Ab9).rd == 0 && (K.pipes.getD (i + 1) Ab9).wr == 0)) = true
   rw [Abd _ (i + 1) hi,h2]
   simp)]
  show _ = if 32 ≤ i + 1 then _ else (Adf K.pipes (i + 1) p,i + 1,0)
  rw [if_neg (by omega)]
  unfold Adf
  rw [if_neg (by omega)]
 | none =>
  have h1 : ∀ i,i < K.pipes.length → (decide (0 < i) && ((K.pipes.getD i Ab9).rd == 0 && (K.pipes.getD i Ab9).wr == 0)) = false := fun i hi => by
   cases i with
   | zero => rfl
   | succ i =>
    rw [Abd _ (i + 1) hi]
    have h := List.findIdx?_eq_none_iff.1 hf K.pipes[i + 1] (by
     rw [List.mem_iff_getElem]
     refine ⟨i,by rw [List.length_drop]; omega,?_⟩
     rw [List.getElem_drop]
     simp only [Nat.add_comm 1 i])
    simpa using h
  show _ = if 32 ≤ K.pipes.length then _ else (Adf K.pipes K.pipes.length p,K.pipes.length,0)
  by_cases hm : 32 ≤ K.pipes.length
  ·rw [Ain (free := fun i => decide (0 < i) && ((K.pipes.getD i Ab9).rd == 0 && (K.pipes.getD i Ab9).wr == 0)) h1 hm,if_pos hm]
  ·rw [Ak1 (free := fun i => decide (0 < i) && ((K.pipes.getD i Ab9).rd == 0 && (K.pipes.getD i Ab9).wr == 0)) h1 hm,if_neg hm]
   unfold Adf
   rw [if_pos rfl]
structure NodeAt (W : World) (g o : Nat) (x : Ino) (v : Value) : Prop where
 kind : W.cell? ⟨g,o,none⟩ = some (.int .i64 x.kind)
 mode : W.cell? ⟨g,o + 1,none⟩ = some (.int .i64 x.mode)
 links : W.cell? ⟨g,o + 2,none⟩ = some (.int .i64 x.links)
 data : W.cell? ⟨g,o + 3,none⟩ = some (.string ⟨x.data.toArray⟩)
 kids : W.cell? ⟨g,o + 4,none⟩ = some v
 up : W.cell? ⟨g,o + 5,none⟩ = some (.int .i64 x.up)
structure NodesOwn (W : World) (g cap : Nat) (L : List Ino) (vs : List Value) : Prop where
 len : vs.length = L.length
 le : L.length ≤ cap
 max : cap ≤ maxLen
 lt : g < W.heap.size
 free : ∀ j,W.frozen? ⟨g,j,none⟩ = false
 node : ∀ i (hi : i < L.length) (hv : i < vs.length),NodeAt W g (i * 6) L[i] vs[i]
section
variable {W W' : World} {g cap : Nat} {L : List Ino} {vs : List Value}
theorem NodeAt.same {o : Nat} {x : Ino} {v : Value} (h : NodeAt W g o x v) (he : W'.heap[g]? = W.heap[g]?) : NodeAt W' g o x v := by
 have hc : ∀ j,W'.cell? ⟨g,j,none⟩ = W.cell? ⟨g,j,none⟩ := fun j => World.cell?_of_block (a := ⟨g,j,none⟩) he
 exact ⟨(hc _).trans h.kind,(hc _).trans h.mode,(hc _).trans h.links,(hc _).trans h.data,(hc _).trans h.kids,(hc _).trans h.up⟩
theorem Aqo (hl : g < W.heap.size) (he : W'.heap[g]? = W.heap[g]?) : g < W'.heap.size := by
 rw [Array.getElem?_eq_getElem hl] at he
 exact (Array.getElem?_eq_some_iff.1 he).1
theorem NodesOwn.same (h : NodesOwn W g cap L vs) (he : W'.heap[g]? = W.heap[g]?) : NodesOwn W' g cap L vs :=
 ⟨h.len,h.le,h.max,Aqo h.lt he,fun j => (World.frozen?_of_block (a := ⟨g,j,none⟩) he).trans (h.free j),fun i hi hv => (h.node i hi hv).same he⟩
theorem NodesOwn.below (h : NodesOwn W g cap L vs) (hb : Below W.heap.size W W') : NodesOwn W' g cap L vs := h.same (hb.block g h.lt)
theorem NodesOwn.nodesIn (h : NodesOwn W g cap L vs) (hk : ∀ i (hi : i < L.length) (hv : i < vs.length),Acc W vs[i] L[i].kids) : Aah W (some ⟨g,0,none⟩) cap L :=
 ⟨h.le,h.max,fun i hi => ⟨g,0,rfl,by
  rw [Nat.zero_add]
  have hv : i < vs.length := by rw [h.len]; exact hi
  have hn := h.node i hi hv
  exact ⟨hn.kind,hn.mode,hn.links,hn.data,⟨_,hn.kids,hk i hi hv⟩,hn.up⟩⟩⟩
theorem Aku {a : Nat} {u old : Value} (h : W.cell? ⟨g,a,none⟩ = some old) (j : Nat) : (W.setCell ⟨g,a,none⟩ u).cell? ⟨g,j,none⟩ = if j = a then some u else W.cell? ⟨g,j,none⟩ := by
 by_cases e : j = a
 ·subst e
  rw [if_pos rfl]
  exact World.cell?_setCell_same W ⟨g,j,none⟩ u h
 ·rw [if_neg e]
  exact World.cell?_setCell_other W ⟨g,a,none⟩ ⟨g,j,none⟩ u (fun e2 => e (Addr.mk.inj e2).2.1.symm)
theorem Age (a : Addr) (u : Value) : (W.setCell a u).heap.size = W.heap.size := by simp [World.setCell]
theorem NodesOwn.put (h : NodesOwn W g cap L vs) {i : Nat} (_hi : i < L.length) {x : Ino} {v : Value} (hs : W'.heap.size = W.heap.size) (hf : ∀ j,W'.frozen? ⟨g,j,none⟩ = W.frozen? ⟨g,j,none⟩)
  (hout : ∀ j,j < i * 6 ∨ i * 6 + 6 ≤ j → W'.cell? ⟨g,j,none⟩ = W.cell? ⟨g,j,none⟩) (hin : NodeAt W' g (i * 6) x v) : NodesOwn W' g cap (L.set i x) (vs.set i v) := by
 refine ⟨by rw [List.length_set,List.length_set,h.len],by rw [List.length_set]; exact h.le,h.max,by rw [hs]; exact h.lt,fun j => (hf j).trans (h.free j),fun j hj hv => ?_⟩
 rw [List.length_set] at hj hv
 by_cases e : i = j
 ·subst e
  rw [List.getElem_set_self,List.getElem_set_self]
  exact hin
 ·rw [List.getElem_set_ne e,List.getElem_set_ne e]
  have hn := h.node j hj hv
  have ho : ∀ t,t < 6 → W'.cell? ⟨g,j * 6 + t,none⟩ = W.cell? ⟨g,j * 6 + t,none⟩ := fun t ht => hout _ (by omega)
  exact ⟨(ho 0 (by decide)).trans hn.kind,(ho 1 (by decide)).trans hn.mode,(ho 2 (by decide)).trans hn.links,(ho 3 (by decide)).trans hn.data,(ho 4 (by decide)).trans hn.kids,(ho 5 (by decide)).trans hn.up⟩
theorem NodesOwn.setKids (h : NodesOwn W g cap L vs) {i : Nat} (hi : i < L.length) (hv : i < vs.length) (v : Value) (M : List (List UInt8 × Int)) : NodesOwn (W.setCell ⟨g,i * 6 + 4,none⟩ v) g cap (L.set i { L[i] with kids := M }) (vs.set i v) := by
 have hn := h.node i hi hv
 have hc := Aku (u := v) hn.kids
 refine h.put hi (Age _ _) (fun j => World.frozen?_setCell ..) (fun j hj => by rw [hc,if_neg (by omega)]) ⟨?_,?_,?_,?_,?_,?_⟩
 ·rw [hc,if_neg (by omega)]; exact hn.kind
 ·rw [hc,if_neg (by omega)]; exact hn.mode
 ·rw [hc,if_neg (by omega)]; exact hn.links
 ·rw [hc,if_neg (by omega)]; exact hn.data
 ·rw [hc,if_pos rfl]
 ·rw [hc,if_neg (by omega)]; exact hn.up
theorem NodesOwn.setLinks (h : NodesOwn W g cap L vs) {i : Nat} (hi : i < L.length) (hv : i < vs.length) (z : Int) : NodesOwn (W.setCell ⟨g,i * 6 + 2,none⟩ (.int .i64 z)) g cap (L.set i { L[i] with links := z }) (vs.set i vs[i]) := by
 have hn := h.node i hi hv
 have hc := Aku (u := .int .i64 z) hn.links
 refine h.put hi (Age _ _) (fun j => World.frozen?_setCell ..) (fun j hj => by rw [hc,if_neg (by omega)]) ⟨?_,?_,?_,?_,?_,?_⟩
 ·rw [hc,if_neg (by omega)]; exact hn.kind
 ·rw [hc,if_neg (by omega)]; exact hn.mode
 ·rw [hc,if_pos rfl]
 ·rw [hc,if_neg (by omega)]; exact hn.data
 ·rw [hc,if_neg (by omega)]; exact hn.kids
 ·rw [hc,if_neg (by omega)]; exact hn.up
def inoC (x : Ino) (v : Value) : List Value := [.int .i64 x.kind,.int .i64 x.mode,.int .i64 x.links,.string ⟨x.data.toArray⟩,v,.int .i64 x.up]
theorem Afd (b : Nat) : ∀ (l : List Value) (o : Nat) (w : World),(w.setCells b o l).heap.size = w.heap.size
 | [],_,_ => rfl
 | v :: r,o,w => by
  show ((w.setCell ⟨b,o,none⟩ v).setCells b (o + 1) r).heap.size = _
  rw [Afd b r,Age]
theorem NodesOwn.setNode (h : NodesOwn W g cap L vs) {i : Nat} (hi : i < L.length) (hv : i < vs.length) (x : Ino) (v : Value) : NodesOwn (W.setCells g (i * 6) (inoC x v)) g cap (L.set i x) (vs.set i v) := by
 have hn := h.node i hi hv
 have hin := World.cell?_setCells_in g (inoC x v) (i * 6) W (fun j hj => by
  have hj' : j < 6 := hj
  match j,hj' with
  | 0,_ => exact Option.isSome_of_eq_some hn.kind
  | 1,_ => exact Option.isSome_of_eq_some hn.mode
  | 2,_ => exact Option.isSome_of_eq_some hn.links
  | 3,_ => exact Option.isSome_of_eq_some hn.data
  | 4,_ => exact Option.isSome_of_eq_some hn.kids
  | 5,_ => exact Option.isSome_of_eq_some hn.up)
 refine h.put hi (Afd _ _ _ _) (fun j => World.frozen?_setCells ..) (fun j hj => World.cell?_setCells_out _ _ _ _ _ (fun _ _ => hj)) ⟨?_,?_,?_,?_,?_,?_⟩
 ·exact hin 0 (show 0 < 6 by decide)
 ·exact hin 1 (show 1 < 6 by decide)
 ·exact hin 2 (show 2 < 6 by decide)
 ·exact hin 3 (show 3 < 6 by decide)
 ·exact hin 4 (show 4 < 6 by decide)
 ·exact hin 5 (show 5 < 6 by decide)
end
def kidC : List (List UInt8 × Int) → List Value
 | [] => []
 | e :: r => .string ⟨e.1.toArray⟩ :: .int .i64 e.2 :: kidC r
theorem Abc : ∀ K,(kidC K).length = K.length * 2
 | [] => rfl
 | e :: r => by simp only [kidC,List.length_cons,Abc r]; omega
theorem Ao5 : ∀ A B,kidC (A ++ B) = kidC A ++ kidC B
 | [],B => rfl
 | e :: r,B => by simp only [List.cons_append,kidC,Ao5 r B]
theorem Aiv : ∀ (K : List (List UInt8 × Int)) (i : Nat) (h : i < K.length),(kidC K)[i * 2]? = some (.string ⟨K[i].1.toArray⟩)
 | e :: r,0,_ => rfl
 | e :: r,i + 1,h => by
  have := Aiv r i (Nat.lt_of_succ_lt_succ h)
  rw [show (i + 1) * 2 = i * 2 + 1 + 1 by omega,kidC,List.getElem?_cons_succ,List.getElem?_cons_succ,this]
  rfl
theorem Aje : ∀ (K : List (List UInt8 × Int)) (i : Nat) (h : i < K.length),(kidC K)[i * 2 + 1]? = some (.int .i64 K[i].2)
 | e :: r,0,_ => rfl
 | e :: r,i + 1,h => by
  have := Aje r i (Nat.lt_of_succ_lt_succ h)
  rw [show (i + 1) * 2 + 1 = i * 2 + 1 + 1 + 1 by omega,kidC,List.getElem?_cons_succ,List.getElem?_cons_succ,this]
  rfl
theorem Aie : ∀ (K : List (List UInt8 × Int)),∀ u ∈ kidC K,u.oneCell' = true
 | [],_,h => by cases h
 | e :: r,u,h => by
  rcases List.mem_cons.1 h with rfl | h
  ·rfl
  ·rcases List.mem_cons.1 h with rfl | h
   ·rfl
   ·exact Aie r u h
theorem Aru {W : World} {K : List (List UInt8 × Int)} {b o : Nat} (h : ∀ i (hi : i < K.length),W.cell? ⟨b,o + i * 2,none⟩ = some (.string ⟨K[i].1.toArray⟩) ∧ W.cell? ⟨b,o + i * 2 + 1,none⟩ = some (.int .i64 K[i].2)) (j : Nat) (u : Value) (hu : (kidC K)[j]? = some u) : W.cell? ⟨b,o + j,none⟩ = some u := by
 have hj : j < K.length * 2 := by rw [← Abc]; exact (List.getElem?_eq_some_iff.1 hu).1
 have hi : j / 2 < K.length := by omega
 rcases Nat.mod_two_eq_zero_or_one j with e | e
 ·obtain ⟨i,rfl⟩ : ∃ i,j = i * 2 := ⟨j / 2,by omega⟩
  have hi' : i < K.length := by omega
  rw [Aiv K i hi'] at hu
  cases hu
  exact (h i hi').1
 ·obtain ⟨i,rfl⟩ : ∃ i,j = i * 2 + 1 := ⟨j / 2,by omega⟩
  have hi' : i < K.length := by omega
  rw [Aje K i hi'] at hu
  cases hu
  rw [← Nat.add_assoc]
  exact (h i hi').2
def Aba (W : World) (base : Nat) (v : Value) (K : List (List UInt8 × Int)) : Prop := W.ownsRow base 139 2 v K.length (kidC K)
theorem Abn (g j : Nat) : (⟨g,0,none⟩ : Addr).add j = ⟨g,j,none⟩ := by
 unfold Addr.add
 split
 ·rename_i h; rw [h]
 ·show (⟨g,0 + j,none⟩ : Addr) = _; rw [Nat.zero_add]
theorem Aba.kidsIn {W : World} {base : Nat} {v : Value} {K : List (List UInt8 × Int)} (h : Aba W base v K) : Acc W v K := by
 rcases h.2 with ⟨rfl,h0⟩ | ⟨g,cap,cur,rfl,hb,hg,hn,hc,hs,ht⟩
 ·have e : K = [] := List.length_eq_zero_iff.1 h0
  subst e
  exact ⟨none,0,rfl,Nat.le_refl _,Nat.zero_le _,fun i hi => absurd hi (Nat.not_lt_zero _)⟩
 ·refine ⟨some ⟨g,0,none⟩,cap,rfl,hn,hc,fun i hi => ⟨g,0,rfl,?_,?_⟩⟩
  ·have := h.cells rfl _ _ (Aiv K i hi)
   rw [Abn] at this
   rw [Nat.zero_add]
   exact this
  ·have := h.cells rfl _ _ (Aje K i hi)
   rw [Abn] at this
   rw [Nat.zero_add]
   exact this
theorem Aba.form {W : World} {B : Nat} {v : Value} {K : List (List UInt8 × Int)} (h : Aba W B v K) : ∃ a c,v = .slice a K.length c := by
 rcases h.2 with ⟨rfl,h0⟩ | ⟨g,cap,cur,e,-⟩
 ·exact ⟨none,0,by rw [h0]⟩
 ·exact ⟨_,_,e⟩
theorem Aba.lower {W : World} {B B' : Nat} {v : Value} {K : List (List UInt8 × Int)} (h : Aba W B v K) (hb : B' ≤ B) : Aba W B' v K := by
 refine ⟨h.1,?_⟩
 rcases h.2 with hn | ⟨g,cap,cur,e,hg,rest⟩
 ·exact .inl hn
 ·exact .inr ⟨g,cap,cur,e,Nat.le_trans hb hg,rest⟩
theorem Aba.nil (W : World) (base : Nat) : Aba W base (.slice none 0 0) [] := World.ownsRow_nil W base _ 2
theorem Aba.same {W W' : World} {base : Nat} {v : Value} {K : List (List UInt8 × Int)} (h : Aba W base v K) (he : ∀ k,v.ownBlock = some k → W'.heap[k]? = W.heap[k]?) : Aba W' base v K := by
 refine ⟨h.1,?_⟩
 rcases h.2 with hn | ⟨g,cap,cur,rfl,hb,hg,rest⟩
 ·exact .inl hn
 ·exact .inr ⟨g,cap,cur,rfl,hb,(he g rfl).trans hg,rest⟩
structure OwnT (W : World) (base g cap : Nat) (L : List Ino) (vs : List Value) : Prop where
 nodes : NodesOwn W g cap L vs
 hbase : base ≤ g
 kids : ∀ i (hi : i < L.length) (hv : i < vs.length),Aba W base vs[i] L[i].kids
 apart : ∀ i j (hi : i < vs.length) (hj : j < vs.length),i ≠ j → vs[i].ownBlock = none ∨ vs[i].ownBlock ≠ vs[j].ownBlock
 off : ∀ i (hi : i < vs.length),vs[i].ownBlock ≠ some g
section
variable {W W' : World} {base g cap : Nat} {L : List Ino} {vs : List Value}
theorem OwnT.nodesIn (h : OwnT W base g cap L vs) : Aah W (some ⟨g,0,none⟩) cap L := h.nodes.nodesIn fun i hi hv => (h.kids i hi hv).kidsIn
theorem OwnT.below (h : OwnT W base g cap L vs) (hb : Below W.heap.size W W') : OwnT W' base g cap L vs :=
 ⟨h.nodes.below hb,h.hbase,fun i hi hv => (h.kids i hi hv).same fun k hk => hb.block k ((h.kids i hi hv).lt k hk).2,h.apart,h.off⟩
theorem OwnT.low (h : OwnT W base g cap L vs) (hb : ∀ k,base ≤ k → W'.heap[k]? = W.heap[k]?) : OwnT W' base g cap L vs :=
 ⟨h.nodes.same (hb g h.hbase),h.hbase,fun i hi hv => (h.kids i hi hv).same fun k hk => hb k ((h.kids i hi hv).lt k hk).1,h.apart,h.off⟩
theorem OwnT.lower {base' : Nat} (h : OwnT W base g cap L vs) (hb : base' ≤ base) : OwnT W base' g cap L vs :=
 ⟨h.nodes,Nat.le_trans hb h.hbase,fun i hi hv => (h.kids i hi hv).lower hb,h.apart,h.off⟩
theorem OwnT.setKids (h : OwnT W base g cap L vs) {d : Nat} (hd : d < L.length) (hv : d < vs.length) {v : Value} {M : List (List UInt8 × Int)} (hg : W.grownBy W' vs[d].ownBlock) (ho : Aba W' base v M) (hb : ∀ k,v.ownBlock = some k → vs[d].ownBlock = some k ∨ W.heap.size ≤ k) :
  OwnT (W'.setCell ⟨g,d * 6 + 4,none⟩ v) base g cap (L.set d { L[d] with kids := M }) (vs.set d v) := by
 have hsame : W'.heap[g]? = W.heap[g]? := hg.block g h.nodes.lt (fun e => h.off d hv e.symm)
 have hN := (h.nodes.same hsame).setKids hd hv v M
 have hoff : ∀ k,v.ownBlock = some k → k ≠ g := fun k hk e => by
  subst e
  rcases hb k hk with h1 | h1
  ·exact h.off d hv h1
  ·have := h.nodes.lt; omega
 have hap : ∀ j (hj : j < vs.length),j ≠ d → ∀ k,vs[j].ownBlock = some k → v.ownBlock ≠ some k := fun j hj hjd k hk e => by
  rcases hb k e with h1 | h1
  ·rcases h.apart j d hj hv hjd with h2 | h2
   ·rw [h2] at hk; cases hk
   ·exact h2 (hk.trans h1.symm)
  ·have := ((h.kids j (by rw [← h.nodes.len]; exact hj) hj).lt k hk).2
   omega
 have hst : ∀ k,k ≠ g → (W'.setCell ⟨g,d * 6 + 4,none⟩ v).heap[k]? = W'.heap[k]? := fun k hk => Below.heap_setCell _ _ _ _ hk
 refine ⟨hN,h.hbase,fun i hi hvi => ?_,fun i j hi hj hij => ?_,fun i hi => ?_⟩
 ·rw [List.length_set] at hi hvi
  by_cases e : d = i
  ·subst e
   rw [List.getElem_set_self]
   have e2 : (L.set d { L[d] with kids := M })[d]'(by rw [List.length_set]; exact hi) = { L[d] with kids := M } := List.getElem_set_self ..
   rw [e2]
   exact ho.same fun k hk => hst k (hoff k hk)
  ·rw [List.getElem_set_ne e,List.getElem_set_ne e]
   have hki := h.kids i hi hvi
   refine hki.same fun k hk => ?_
   rw [hst k (fun e3 => h.off i hvi (e3 ▸ hk))]
   refine hg.block k (hki.lt k hk).2 (fun e3 => ?_)
   rcases h.apart i d hvi hv (fun e4 => e e4.symm) with h2 | h2
   ·rw [h2] at hk; cases hk
   ·exact h2 (hk.trans e3)
 ·rw [List.length_set] at hi hj
  rw [List.getElem_set,List.getElem_set]
  by_cases e1 : d = i
  ·rw [if_pos e1]
   rw [if_neg (fun e2 => hij (e1.symm.trans e2))]
   cases hq : v.ownBlock with
   | none => exact Or.inl rfl
   | some k => exact Or.inr fun e3 => hap j hj (fun e2 => hij (e1.symm.trans e2.symm)) k e3.symm hq
  ·rw [if_neg e1]
   by_cases e2 : d = j
   ·rw [if_pos e2]
    cases hq : vs[i].ownBlock with
    | none => exact Or.inl rfl
    | some k => exact Or.inr fun e3 => hap i hi (fun e4 => e1 e4.symm) k hq e3.symm
   ·rw [if_neg e2]
    exact h.apart i j hi hj hij
 ·rw [List.length_set] at hi
  rw [List.getElem_set]
  by_cases e : d = i
  ·rw [if_pos e]
   exact fun e3 => hoff g e3 rfl
  ·rw [if_neg e]
   exact h.off i hi
theorem Aoy {vs : List Value} {i : Nat} (hi : i < vs.length) : vs.set i vs[i] = vs := List.set_getElem_self ..
theorem OwnT.setLinks (h : OwnT W base g cap L vs) {i : Nat} (hi : i < L.length) (z : Int) : OwnT (W.setCell ⟨g,i * 6 + 2,none⟩ (.int .i64 z)) base g cap (L.set i { L[i] with links := z }) vs := by
 have hv : i < vs.length := by rw [h.nodes.len]; exact hi
 have hN := h.nodes.setLinks hi hv z
 rw [Aoy] at hN
 refine ⟨hN,h.hbase,fun j hj hvj => ?_,h.apart,h.off⟩
 rw [List.length_set] at hj
 have hk := (h.kids j hj hvj).same (W' := W.setCell ⟨g,i * 6 + 2,none⟩ (.int .i64 z)) fun k hk => Below.heap_setCell _ _ _ _ (fun e => h.off j hvj (hk.trans (congrArg some (show k = g from e))))
 rw [List.getElem_set]
 split
 ·rename_i e; subst e; exact hk
 ·exact hk
theorem Aeq (b : Nat) : ∀ (l : List Value) (o : Nat) (w : World) (k : Nat),k ≠ b → (w.setCells b o l).heap[k]? = w.heap[k]?
 | [],_,_,_,_ => rfl
 | v :: r,o,w,k,h => by
  show ((w.setCell ⟨b,o,none⟩ v).setCells b (o + 1) r).heap[k]? = _
  rw [Aeq b r _ _ k h]
  exact Below.heap_setCell _ _ _ _ h
theorem OwnT.setNode (h : OwnT W base g cap L vs) {i : Nat} (hi : i < L.length) (x : Ino) (hx : x.kids = []) : OwnT (W.setCells g (i * 6) (inoC x (.slice none 0 0))) base g cap (L.set i x) (vs.set i (.slice none 0 0)) := by
 have hv : i < vs.length := by rw [h.nodes.len]; exact hi
 refine ⟨h.nodes.setNode hi hv x _,h.hbase,fun j hj hvj => ?_,fun j k hj hk hjk => ?_,fun j hj => ?_⟩
 ·rw [List.length_set] at hj hvj
  by_cases e : i = j
  ·subst e
   rw [List.getElem_set_self,List.getElem_set_self,hx]
   exact Aba.nil _ _
  ·rw [List.getElem_set_ne e,List.getElem_set_ne e]
   exact (h.kids j hj hvj).same fun k hk => Aeq _ _ _ _ _ (fun e => h.off j hvj (e ▸ hk))
 ·rw [List.length_set] at hj hk
  rw [List.getElem_set,List.getElem_set]
  by_cases e1 : i = j
  ·rw [if_pos e1]
   exact Or.inl rfl
  ·rw [if_neg e1]
   by_cases e2 : i = k
   ·rw [if_pos e2]
    cases hq : vs[j].ownBlock with
    | none => exact Or.inl rfl
    | some k => exact Or.inr fun e3 => by cases e3
   ·rw [if_neg e2]
    exact h.apart j k hj hk hjk
 ·rw [List.length_set] at hj
  rw [List.getElem_set]
  split
  ·exact fun e => by cases e
  ·exact h.off j hj
end
def rowB (l : List UInt8) : Array Value := (Lib.byteCells l).toArray
theorem Axg (l : List UInt8) (j : Nat) (hj : j < l.length) : (rowB l)[j]? = some (.int .u8 (l[j].toNat : Int)) := by simp [rowB,Lib.byteCells,hj]
theorem Atw (l : List UInt8) : (rowB l).size = l.length := by simp [rowB,Lib.byteCells]
theorem Aza : (Tryz.prog.info? 5).map (fun i => (i.zero,i.size,i.bytes)) = some (some (.int .u8 0),1,1) := by kernel_rfl
theorem Arw (n : Nat) : madeCells #[.int .u8 0] n = rowB (List.replicate n 0) := by
 apply Array.ext'
 rw [toList_madeCells_one]
 simp [rowB,Lib.byteCells]
theorem Ajv (W : World) (c : Int) (n : Nat) (hc : c = (n : Int)) (hn : n ≤ 1000000) : (Instr.makeSlice 175 (.int .i64 c) (.int .i64 c)).run Tryz.prog W = .ok (.slice (some ⟨W.heap.size,0,none⟩) n n) (W.alloc (.cells (rowB (List.replicate n 0)) 5)) := by
 subst hc
 obtain ⟨i0,hi,hz0,hz1,hz2⟩ := info_parts Aza
 have h := run_makeSlice (P := Tryz.prog) W 175 5 i0 (.int .u8 0) Tryz.underlying175 hi hz0 .i64 .i64 (n : Int) (n : Int) (by omega) (Int.le_refl _) (by rw [hz1]; simp; omega) (by rw [hz2]; omega) (by omega)
 rw [hz1,Int.toNat_natCast,Nat.mul_one] at h
 rw [← Arw]
 exact h
theorem Aue (W : World) (g cap : Nat) (l : List UInt8) (t : TypeId) (hg : W.heap[g]? = some (.cells (rowB l) t (0,0))) : (convert 175 9 (.slice (some ⟨g,0,none⟩) l.length cap)).run Tryz.prog W = .ok (.string ⟨l.toArray⟩) W :=
 run_convert_bytes_back W 175 9 5 ⟨g,0,none⟩ cap l Tryz.underlying175 Tryz.underlying5 Tryz.underlying9 (fun j hj => by
  rw [Abn,bC hg j]
  exact Axg l j hj)
theorem Ago (W : World) (g o dLen dCap : Nat) (s : ByteArray) (l : List UInt8) (t : TypeId) (hg : W.heap[g]? = some (.cells (rowB l) t (0,0))) (hfit : o + min s.size dLen ≤ l.length) (ty : TypeId) :
  (Builtin.copy_ #[175,9] ty #[.slice (some ⟨g,o,none⟩) dLen dCap,.string s]).run Tryz.prog W = .ok (goInt ((min s.size dLen : Nat) : Int)) (W.setRow g (rowB (l.take o ++ s.data.toList.take dLen ++ l.drop (o + min s.size dLen)))) := by
 obtain ⟨i0,hi,hz0,hz1,hz2⟩ := info_parts Aza
 have hl : s.data.toList.length = s.size := Array.length_toList
 have hlen : (Lib.byteCells (s.data.toList.take dLen)).length = min s.size dLen := by rw [Lib.byteCells_length,List.length_take,hl]; omega
 have hst := run_storeCells_at Tryz.prog g o t (Lib.byteCells (s.data.toList.take dLen)) 0 (rowB l) W hg (by rw [hlen,Atw]; omega) (Lib.byteCells_one _)
 rw [hlen] at hst
 have htk : List.take (Nat.min s.size dLen) (List.map (fun b : UInt8 => Value.int IntKind.u8 (b.toNat : Int)) s.data.toList) = Lib.byteCells (s.data.toList.take dLen) := by
  unfold Lib.byteCells
  rw [← List.map_take]
  congr 1
  have h2 : s.data.toList.take (Nat.min s.size dLen) = s.data.toList.take dLen := by
   rw [List.take_eq_take_iff,hl]
   show min (min s.size dLen) s.size = min dLen s.size
   omega
  exact h2
 have hrow : ((rowB l).toList.take o ++ Lib.byteCells (s.data.toList.take dLen) ++ (rowB l).toList.drop (o + min s.size dLen)).toArray = rowB (l.take o ++ s.data.toList.take dLen ++ l.drop (o + min s.size dLen)) := by
  unfold rowB
  rw [Lib.byteCells_append,Lib.byteCells_append]
  simp [Lib.byteCells]
 simp only [Nat.add_zero] at hst
 rw [hrow] at hst
 simp [Builtin.copy_,run_underlying Tryz.underlying175,Builtin.lenOf,Builtin.firstCells,sizeOf,typeInfo,hi]
 rw [htk,hst,List.append_assoc]
 rfl
def Aw3 (kd : Int) : Int := if kd = 0 then 2 else if kd = 2 then 21 else if kd ≠ 1 then 22 else 0
theorem Aj8 (L : List Ino) (k : Int) : (k < 0 ∧ Adm L k = 2) ∨ ((L.length : Int) ≤ k ∧ 0 ≤ k ∧ Adm L k = 2) ∨ ∃ n : Nat,∃ hn : n < L.length,k = (n : Int) ∧ Adm L k = Aw3 L[n].kind := by
 by_cases h : Aa4 L k = true
 ·obtain ⟨n,rfl,hn⟩ := Aa7 h
  refine .inr (.inr ⟨n,hn,rfl,?_⟩)
  unfold Adm Aw3
  rw [h,Aad L n hn]
  by_cases h0 : L[n].kind = 0
  ·rw [if_pos h0,if_pos (.inr h0)]
  ·rw [if_neg h0,if_neg (by simpa using h0)]
 ·have hf : Aa4 L k = false := by simpa using h
  have e : Adm L k = 2 := by unfold Adm; rw [if_pos (.inl hf)]
  unfold Aa4 at h
  by_cases h0 : k < 0
  ·exact .inl ⟨h0,e⟩
  ·refine .inr (.inl ⟨?_,by omega,e⟩)
   rw [decide_eq_true (by omega : 0 ≤ k),Bool.true_and,decide_eq_true_eq] at h
   omega
def refW (L : List Ino) (k least : Int) : Int := if Adm L k ≠ 0 then Adm L k else if least < 0 then 22 else 0
theorem Ba4 (a : Option Addr) (cap : Nat) (m b k : Int) (L : List Ino) (v : Int) (hv : Adm L k = v) (w : World) (hN : Aah w a cap L) :
  Calls Tryz.prog 112 #[.agg #[.slice a L.length cap,.int .i64 m,.int .i64 b],.int .i64 k] w fun e w' => e = .returned (.int .i64 v) ∧ Below w.heap.size w w' := by
 have hb1 := Aab w (.cells #[.slice a L.length cap,.int .i64 m,.int .i64 b] 24)
 have HB1 := Hd hb1
 rcases Aj8 L k with ⟨h1,h2⟩ | ⟨h1,h0,h2⟩ | ⟨n,hn,rfl,h2⟩
 ·rw [h2] at hv
  subst hv
  have h1d : decide (k < 0) = true := decide_eq_true h1
  clear hN hb1 h2
  go_enter Tryz.func112,Tryz.ntmps112
  go_wp2_with fail
  go_ret
  exact ⟨rfl,HB1.out⟩
 ·rw [h2] at hv
  subst hv
  have h1d : decide ((L.length : Int) ≤ k) = true := decide_eq_true h1
  have h0d : decide (k < 0) = false := decide_eq_false (by omega)
  clear hN hb1 h2
  go_enter Tryz.func112,Tryz.ntmps112
  go_wp2_with fail
  go_ret
  exact ⟨rfl,HB1.out⟩
 ·obtain ⟨bb,o,rfl,hx⟩ := (hN.below hb1).2.2 n hn
  have c0 := hx.kind
  have hbl := Aaj c0
  obtain ⟨kd,hkd⟩ : ∃ kd,kd = L[n].kind := ⟨_,rfl⟩
  rw [← hkd] at c0 h2
  rw [h2] at hv
  have hd0 : (0 : Int) ≤ (n : Int) := by omega
  have hd1 : (n : Int) < (L.length : Int) := by omega
  have hd0f : decide ((n : Int) < 0) = false := decide_eq_false (by omega)
  have hd1f : decide ((L.length : Int) ≤ (n : Int)) = false := decide_eq_false (by omega)
  unfold Aw3 at hv
  clear hN hb1 hx h2 hkd
  by_cases k0 : kd = 0
  ·rw [if_pos k0] at hv
   subst hv
   subst k0
   go_enter Tryz.func112,Tryz.ntmps112
   go_wp2_with fail
   go_ret
   exact ⟨rfl,HB1.out⟩
  ·have k0b : (kd == 0) = false := by simpa using k0
   rw [if_neg k0] at hv
   by_cases k2 : kd = 2
   ·rw [if_pos k2] at hv
    subst hv
    subst k2
    go_enter Tryz.func112,Tryz.ntmps112
    go_wp2_with fail
    go_ret
    exact ⟨rfl,HB1.out⟩
   ·have k2b : (kd == 2) = false := by simpa using k2
    rw [if_neg k2] at hv
    by_cases k1 : kd = 1
    ·rw [if_neg (by simpa using k1)] at hv
     subst hv
     subst k1
     go_enter Tryz.func112,Tryz.ntmps112
     go_wp2_with fail
     go_ret
     exact ⟨rfl,HB1.out⟩
    ·rw [if_pos k1] at hv
     subst hv
     have k1b : (kd != 1) = true := by simpa using k1
     go_enter Tryz.func112,Tryz.ntmps112
     go_wp2_with fail
     go_ret
     exact ⟨rfl,HB1.out⟩
theorem Alg (a : Option Addr) (cap : Nat) (m b k least : Int) (L : List Ino) (v : Int) (hv : refW L k least = v) (w : World) (hN : Aah w a cap L) :
  Calls Tryz.prog 160 #[.agg #[.slice a L.length cap,.int .i64 m,.int .i64 b],.int .i64 k,.int .i64 least] w fun e w' => e = .returned (.int .i64 v) ∧ Below w.heap.size w w' := by
 have hb1 := Aab w (.cells #[.slice a L.length cap,.int .i64 m,.int .i64 b] 24)
 have HB1 := Hd hb1
 unfold refW at hv
 rcases Aj8 L k with ⟨h1,h2⟩ | ⟨h1,h0,h2⟩ | ⟨n,hn,rfl,h2⟩
 ·rw [h2,if_pos (by decide)] at hv
  subst hv
  have h1d : decide (k < 0) = true := decide_eq_true h1
  clear hN hb1 h2
  go_enter Tryz.func160,Tryz.ntmps160
  go_wp2_with fail
  go_ret
  exact ⟨rfl,HB1.out⟩
 ·rw [h2,if_pos (by decide)] at hv
  subst hv
  have h1d : decide ((L.length : Int) ≤ k) = true := decide_eq_true h1
  have h0d : decide (k < 0) = false := decide_eq_false (by omega)
  clear hN hb1 h2
  go_enter Tryz.func160,Tryz.ntmps160
  go_wp2_with fail
  go_ret
  exact ⟨rfl,HB1.out⟩
 ·obtain ⟨bb,o,rfl,hx⟩ := (hN.below hb1).2.2 n hn
  have c0 := hx.kind
  have hbl := Aaj c0
  obtain ⟨kd,hkd⟩ : ∃ kd,kd = L[n].kind := ⟨_,rfl⟩
  rw [← hkd] at c0 h2
  rw [h2] at hv
  have hd0 : (0 : Int) ≤ (n : Int) := by omega
  have hd1 : (n : Int) < (L.length : Int) := by omega
  have hd0f : decide ((n : Int) < 0) = false := decide_eq_false (by omega)
  have hd1f : decide ((L.length : Int) ≤ (n : Int)) = false := decide_eq_false (by omega)
  unfold Aw3 at hv
  clear hN hb1 hx h2 hkd
  by_cases k0 : kd = 0
  ·subst k0
   simp at hv
   subst hv
   go_enter Tryz.func160,Tryz.ntmps160
   go_wp2_with fail
   go_ret
   exact ⟨rfl,HB1.out⟩
  ·have k0b : (kd == 0) = false := by simpa using k0
   rw [if_neg k0] at hv
   by_cases k2 : kd = 2
   ·subst k2
    simp at hv
    subst hv
    go_enter Tryz.func160,Tryz.ntmps160
    go_wp2_with fail
    go_ret
    exact ⟨rfl,HB1.out⟩
   ·have k2b : (kd == 2) = false := by simpa using k2
    rw [if_neg k2] at hv
    by_cases k1 : kd = 1
    ·subst k1
     simp at hv
     by_cases hl : least < 0
     ·rw [if_pos hl] at hv
      subst hv
      have hld : decide (least < 0) = true := decide_eq_true hl
      go_enter Tryz.func160,Tryz.ntmps160
      go_wp2_with fail
      go_ret
      exact ⟨rfl,HB1.out⟩
     ·rw [if_neg hl] at hv
      subst hv
      have hld : decide (least < 0) = false := decide_eq_false hl
      go_enter Tryz.func160,Tryz.ntmps160
      go_wp2_with fail
      go_ret
      exact ⟨rfl,HB1.out⟩
    ·have k1b : (kd != 1) = true := by simpa using k1
     simp [k1] at hv
     subst hv
     go_enter Tryz.func160,Tryz.ntmps160
     go_wp2_with fail
     go_ret
     exact ⟨rfl,HB1.out⟩
end Go.Proofs.YtkdfbliiblojoaaGreatDoor
