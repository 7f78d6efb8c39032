import Derived.Laws.MakeOwn
import Derived.Test.YtkdfbliiblojoaaGreatDoorK3
import Derived.Lib.Bytealg
set_option linter.all false
set_option maxRecDepth 100000
set_option maxHeartbeats 64000000
namespace Go.Proofs.YtkdfbliiblojoaaGreatDoor
open Go Go.RowKit
def Acu (p : Prop) (e : Ending) : Prop := ∃ v,e = .returned (.bool v) ∧ (v = true ↔ p)
theorem Acu.no {p : Prop} {e : Ending} (he : e = .returned (.bool false)) (h : ¬ p) : Acu p e := ⟨false,he,by simpa using h⟩
theorem Acu.of {p : Prop} {e : Ending} {b : Bool} (he : e = .returned (.bool b)) (h : b = true ↔ p) : Acu p e := ⟨b,he,h⟩
def Ad9 (kind ino n : Int) : Prop := if ino = 0 ∨ kind = 0 then n = 0 else if kind = 2 then n = 1 else 1 ≤ n
def Aex (L : List Ino) : Nat → Int → Bool
 | 0,_ => false
 | n + 1,k => if k = 0 then true else Aex L n (Aaf L k).up
theorem Adw (L : List Ino) (n : Nat) (k : Int) : Aex L (n + 1) k = if k = 0 then true else Aex L n (Aaf L k).up := rfl
def Azy (L : List Ino) : Prop := ∀ k (h : k < L.length),L[k].kind = 2 → dirB L L[k].up = true
theorem Acr {L : List Ino} {n : Nat} (hn : n < L.length) : dirB L (n : Int) = true ↔ L[n].kind = 2 := by
 unfold dirB
 rw [Aef L n hn,Aad L n hn]
 simp
def Aya (L : List Ino) : Prop := ∀ k (_ : k < L.length),dirB L (k : Int) = true → Aex L L.length (k : Int) = true
theorem Ay7 : (Tryz.prog.info? 3).map (fun i => (i.zero,i.size,i.bytes)) = some (some (.int .i64 0),1,8) := by kernel_rfl
theorem Awy (n : Nat) : madeCells (Value.int .i64 0).cells (n * 1) = ((List.replicate n (0 : Int)).map intv).toArray := by
 unfold madeCells
 apply Array.ext
 ·simp
 ·intro i h1 h2
  simp only [Array.getElem_map,List.getElem_toArray,List.getElem_map,List.getElem_replicate,Array.getElem_range]
  show (#[Value.int .i64 0] : Array Value)[i % 1]! = intv 0
  rw [Nat.mod_one]
  rfl
theorem Awl (A B : List (List UInt8 × Int)) (c : List Int) : bump c (A ++ B) = bump (bump c A) B := by
 unfold bump
 rw [List.foldl_append]
theorem Awn (M : List (List UInt8 × Int)) : ∀ (c : List Int) (x : Int),0 ≤ x → Low c x → Low (bump c M) (x + M.length) := by
 induction M with
 | nil => intro c x _ h; simpa [bump] using h
 | cons e r ih =>
  intro c x hx h
  have h1 := ih (bump1 c e.2) (x + 1) (by omega) (h.bump1 e.2 hx)
  rw [show x + ((e :: r).length : Int) = x + 1 + (r.length : Int) by simp only [List.length_cons]; omega]
  exact h1
def Agk (n : Nat) : List Int := List.replicate n 0
theorem Asf (n : Nat) : Low (Agk n) 0 := by
 intro z hz
 have := List.eq_of_mem_replicate hz
 omega
def Abh (L : List Ino) : List (List UInt8 × Int) := L.flatMap (·.kids)
theorem Ai2 (L : List Ino) (d : Nat) (hd : d < L.length) : Abh (L.take (d + 1)) = Abh (L.take d) ++ L[d].kids := by
 unfold Abh
 rw [List.take_succ_eq_append_getElem hd,List.flatMap_append]
 simp
theorem Aj0 (c : Nat) : ∀ (L : List Ino),(∀ k (h : k < L.length),L[k].kids.length ≤ c) → (Abh L).length ≤ L.length * c
 | [],_ => Nat.zero_le _
 | x :: r,h => by
  have h0 : x.kids.length ≤ c := h 0 (Nat.succ_pos _)
  have h1 := Aj0 c r (fun k hk => h (k + 1) (Nat.succ_lt_succ hk))
  unfold Abh at h1 ⊢
  simp only [List.flatMap_cons,List.length_append,List.length_cons]
  rw [Nat.succ_mul]
  omega
def Aec (L : List Ino) : List Int := bump (Agk L.length) (Abh L)
theorem Ab2 (L : List Ino) : (Aec L).length = L.length := by unfold Aec; rw [Ahg]; simp [Agk]
def Ax4 (L : List Ino) : Prop := ∀ d (h : d < L.length),∀ e ∈ L[d].kids,dirB L e.2 = true → (Aaf L e.2).up = d
def Aov (L : List Ino) : Prop := ∀ k (h : k < L.length),L[k].links = (Aec L)[k]'(by rw [Ab2]; exact h) ∧ Ad9 L[k].kind k ((Aec L)[k]'(by rw [Ab2]; exact h))
def Ap1 (L : List Ino) : Prop := Ax4 L ∧ Aov L
def Amf (L : List Ino) : Prop := ∀ k (h : k < L.length),L[k].kids.length ≤ 1024 ∧ ∀ e ∈ L[k].kids,Aa4 L e.2 = true
structure NameFit (L : List Ino) (M : List (List UInt8 × Int)) (k : Nat) (h : k < M.length) : Prop where
 name : Abg M[k].1 = true
 order : ∀ t (ht : k = t + 1),Op.bytesLess (M[t]'(by omega)).1 M[k].1 = true
 there : Aa4 L M[k].2 = true
def Ay6 (L : List Ino) (M : List (List UInt8 × Int)) : Prop := M.length ≤ 1024 ∧ ∀ k (h : k < M.length),NameFit L M k h
def Alm (L : List Ino) : Prop := ∀ k (h : k < L.length),L[k].data.length ≤ 4611686018427387904 ∧ ∀ e ∈ L[k].kids,e.1.length ≤ 4611686018427387904
def Aea (L : List Ino) : Prop := ∀ k (h : k < L.length),Abo L[k] = true ∧ Ay6 L L[k].kids
def Bao (L : List Ino) (m b : Int) : Prop := 1 ≤ L.length ∧ (L.length : Int) ≤ m ∧ m ≤ 256 ∧ (Aax L : Int) ≤ b ∧ b ≤ 65536
theorem Alf (c : Nat) : ∀ (L : List Ino),(∀ k (h : k < L.length),L[k].data.length ≤ c) → Aax L ≤ L.length * c
 | [],_ => Nat.zero_le _
 | x :: r,h => by
  have h0 := h 0 (Nat.succ_pos _)
  have h1 := Alf c r (fun k hk => h (k + 1) (Nat.succ_lt_succ hk))
  simp only [Aax,List.length_cons]
  have h0' : x.data.length ≤ c := h0
  rw [Nat.succ_mul]
  omega
structure Grown (wb : World) where
 W : World
 below : Below wb.heap.size wb W
instance (wb : World) : Nonempty (Grown wb) := ⟨⟨wb,Below.refl _ _⟩⟩
theorem Aag {P : Program} {id : Nat} {Q : Exit → Act → World → Prop} {a : Act} {w : World} {l : List Oper} (hm : P.follows .mixedOrders = true) (hB : Region.lexB .any l.toArray = true)
  (h : wpQuiet P l.toArray (fun w' => ∃ x : Grown w,w' = x.W) (fun a' => ∀ w',(∃ x : Grown w,w' = x.W) → Q .normal a' w') l a) : (Code.region id l.toArray true).wp P Q a w :=
 wp_region_quiet (C := fun w' => ∃ x : Grown w,w' = x.W) hm hB ⟨⟨{ w with drawn := w.drawn + 1 },⟨rfl,rfl,rfl,Nat.le_refl _,fun _ _ => rfl⟩⟩,rfl⟩ (by simpa using h)
theorem Aa2 {wb : World} {P : Program} {f : FuncId} {args : Array Value} {v : Value} (h : ∀ W,Below wb.heap.size wb W → Calls P f args W fun e w' => e = .returned v ∧ Below W.heap.size W w') :
  ∀ x : Grown wb,Calls P f args x.W fun e w'' => e = .returned v ∧ ∃ y : Grown wb,w'' = y.W :=
 fun x => (h x.W x.below).mono fun _e w'' h' => ⟨h'.1,⟨w'',x.below.trans (h'.2.mono x.below.size)⟩,rfl⟩
theorem Aai {wb : World} {a : Addr} {v : Value} (h : wb.cell? a = some v) : ∀ x : Grown wb,x.W.cell? a = some v := fun x => Aaa x.below h
def Aav (M : List (List UInt8 × Int)) (k : Int) : Nat := (M.filter fun e => e.2 == k).length
theorem Au0 (c : List Int) (j : Int) (hj : 0 ≤ j) (k : Nat) (hk : k < c.length) : (bump1 c j)[k]'(by simpa [bump1] using hk) = c[k] + (if j = (k : Int) then 1 else 0) := by
 unfold bump1
 rw [List.getElem_set]
 by_cases h : j.toNat = k
 ·rw [if_pos h,if_pos (by omega),List.getD_eq_getElem?_getD]
  subst h
  rw [List.getElem?_eq_getElem hk]
  rfl
 ·rw [if_neg h,if_neg (by omega)]
  omega
theorem Axi (M : List (List UInt8 × Int)) : ∀ (c : List Int) (k : Nat) (hk : k < c.length),(∀ e ∈ M,0 ≤ e.2) → (bump c M)[k]'(by rw [Ahg]; exact hk) = c[k] + (Aav M k : Int) := by
 induction M with
 | nil => intro c k hk _; simp [bump,Aav]
 | cons e r ih =>
  intro c k hk hM
  have h1 := Au0 c e.2 (hM e (by simp)) k hk
  have h2 := ih (bump1 c e.2) k (by simpa [bump1] using hk) (fun x hx => hM x (by simp [hx]))
  refine (show _ = _ from h2).trans ?_
  rw [h1]
  unfold Aav
  by_cases h : e.2 = (k : Int)
  ·rw [if_pos h,List.filter_cons_of_pos (by simpa using h),List.length_cons]
   omega
  ·rw [if_neg h,List.filter_cons_of_neg (by simpa using h)]
   omega
theorem Acq (L : List Ino) (h0 : ∀ e ∈ Abh L,0 ≤ e.2) (k : Nat) (hk : k < L.length) : (Aec L)[k]'(by rw [Ab2]; exact hk) = (Aav (Abh L) k : Int) := by
 unfold Aec
 rw [Axi (Abh L) (Agk L.length) k (by simpa [Agk] using hk) h0]
 simp [Agk]
theorem Aek {L : List Ino} {e : List UInt8 × Int} : e ∈ Abh L ↔ ∃ d,∃ h : d < L.length,e ∈ L[d].kids := by
 unfold Abh
 rw [List.mem_flatMap]
 constructor
 ·rintro ⟨x,hx,he⟩
  obtain ⟨d,hd,rfl⟩ := List.getElem_of_mem hx
  exact ⟨d,hd,he⟩
 ·rintro ⟨d,hd,he⟩
  exact ⟨L[d],List.getElem_mem _,he⟩
structure FitP (L : List Ino) (m b : Int) : Prop where
 limits : Bao L m b
 root : dirB L 0 = true
 rootUp : (Aaf L 0).up = 0
 ins : Aea L
 names : Ap1 L
 leads : Aya L
theorem Acn {L : List Ino} (h : Aea L) : Amf L := fun k hk => ⟨(h k hk).2.1,fun e he => by
 obtain ⟨i,hi,rfl⟩ := List.getElem_of_mem he
 exact ((h k hk).2.2 i hi).there⟩
theorem Amw {L : List Ino} {k : Int} (h : Aa4 L k = true) : 0 ≤ k := by
 obtain ⟨n,rfl,_⟩ := Aa7 h
 omega
theorem Ad3 {L : List Ino} (h : Amf L) : ∀ e ∈ Abh L,0 ≤ e.2 := fun e he => by
 obtain ⟨d,hd,he⟩ := Aek.1 he
 exact Amw ((h d hd).2 e he)
theorem Adq {x : Ino} (h : Abo x = true) (hk : x.kids ≠ []) : x.kind = 2 := by
 have hl : x.kids.length ≠ 0 := fun e => hk (List.length_eq_zero_iff.1 e)
 unfold Abo at h
 split at h
 ·simp [hl] at h
 ·split at h
  ·cases h
  ·split at h
   ·simp [hl] at h
   ·split at h
    ·simp [hl] at h
    ·split at h
     ·assumption
     ·cases h
theorem Am2 {L : List Ino} (hr : dirB L 0 = true) (hu : (Aaf L 0).up = 0) (hI : Aea L) (hN : Ap1 L) : Azy L := by
 intro k hk h2
 by_cases hk0 : k = 0
 ·subst hk0
  have e : Aaf L 0 = L[0] := Aad L 0 hk
  rw [e] at hu
  rw [hu]
  exact hr
 ·obtain ⟨_,hm⟩ := hN.2 k hk
  rw [Acq L (Ad3 (Acn hI)) k hk] at hm
  unfold Ad9 at hm
  rw [if_neg (by omega),if_pos h2] at hm
  have hpos : 0 < Aav (Abh L) k := by omega
  obtain ⟨e,he⟩ := List.exists_mem_of_length_pos hpos
  obtain ⟨he1,he2⟩ := List.mem_filter.1 he
  obtain ⟨d,hd,hed⟩ := Aek.1 he1
  have hek : e.2 = (k : Int) := by simpa using he2
  have hup := hN.1 d hd e hed (by rw [hek]; exact (Acr hk).2 h2)
  rw [hek,Aad L k hk] at hup
  rw [hup]
  exact (Acr hd).2 (Adq (hI d hd).1 (List.ne_nil_of_mem hed))
theorem Acw : ∀ a : List UInt8,Op.bytesLess a a = false
 | [] => rfl
 | c :: r => by
  simp only [Op.bytesLess,Acw r,Bool.and_false,Bool.or_false,decide_eq_false_iff_not]
  exact UInt8.lt_irrefl c
theorem Ac2 : ∀ a b c : List UInt8,Op.bytesLess a b = true → Op.bytesLess b c = true → Op.bytesLess a c = true
 | _,[],_,h,_ => by simp [Op.bytesLess] at h
 | _,_ :: _,[],_,h => by simp [Op.bytesLess] at h
 | [],_ :: _,_ :: _,_,_ => rfl
 | x :: a,y :: b,z :: c,h1,h2 => by
  simp only [Op.bytesLess,Bool.or_eq_true,decide_eq_true_eq,Bool.and_eq_true,beq_iff_eq] at h1 h2 ⊢
  rcases h1 with h1 | ⟨rfl,h1⟩
  ·rcases h2 with h2 | ⟨rfl,h2⟩
   ·exact Or.inl (UInt8.lt_trans h1 h2)
   ·exact Or.inl h1
  ·rcases h2 with h2 | ⟨rfl,h2⟩
   ·exact Or.inl h2
   ·exact Or.inr ⟨rfl,Ac2 a b c h1 h2⟩
theorem Af4 : ∀ a b : List UInt8,(Lib.compareBytes a b = -1 ∧ Op.bytesLess a b = true) ∨ (Lib.compareBytes a b = 0 ∧ a = b) ∨ (Lib.compareBytes a b = 1 ∧ Op.bytesLess b a = true)
 | [],[] => Or.inr (Or.inl ⟨rfl,rfl⟩)
 | [],_ :: _ => Or.inl ⟨rfl,rfl⟩
 | _ :: _,[] => Or.inr (Or.inr ⟨rfl,rfl⟩)
 | x :: a,y :: b => by
  simp only [Lib.compareBytes,Op.bytesLess,Bool.or_eq_true,decide_eq_true_eq,Bool.and_eq_true,beq_iff_eq]
  by_cases h1 : x < y
  ·rw [if_pos h1]
   exact Or.inl ⟨rfl,Or.inl h1⟩
  ·rw [if_neg h1]
   by_cases h2 : y < x
   ·rw [if_pos h2]
    exact Or.inr (Or.inr ⟨rfl,Or.inl h2⟩)
   ·rw [if_neg h2]
    have e : x = y := by
     apply UInt8.toNat_inj.1
     have a1 : ¬ x.toNat < y.toNat := h1
     have a2 : ¬ y.toNat < x.toNat := h2
     omega
    subst e
    rcases Af4 a b with ⟨h,h'⟩ | ⟨h,rfl⟩ | ⟨h,h'⟩
    ·exact Or.inl ⟨h,Or.inr ⟨rfl,h'⟩⟩
    ·exact Or.inr (Or.inl ⟨h,rfl⟩)
    ·exact Or.inr (Or.inr ⟨h,Or.inr ⟨rfl,h'⟩⟩)
theorem Aip {a b : List UInt8} : Lib.compareBytes a b < 0 ↔ Op.bytesLess a b = true := by
 rcases Af4 a b with ⟨h,h'⟩ | ⟨h,rfl⟩ | ⟨h,h'⟩
 ·simp [h,h']
 ·simp [h,Acw]
 ·constructor
  ·intro h2; omega
  ·intro h2
   have := Ac2 a b a h2 h'
   rw [Acw] at this
   cases this
theorem Apc {a b : List UInt8} : Lib.compareBytes a b = 0 ↔ a = b := by
 rcases Af4 a b with ⟨h,h'⟩ | ⟨h,rfl⟩ | ⟨h,h'⟩
 ·constructor
  ·intro h2; omega
  ·rintro rfl; rw [Acw] at h'; cases h'
 ·simp [h]
 ·constructor
  ·intro h2; omega
  ·rintro rfl; rw [Acw] at h'; cases h'
theorem Ave (a b : List UInt8) : -1 ≤ Lib.compareBytes a b ∧ Lib.compareBytes a b ≤ 1 := by
 rcases Af4 a b with ⟨h,_⟩ | ⟨h,_⟩ | ⟨h,_⟩ <;> omega
def Afy (M : List (List UInt8 × Int)) : Prop := ∀ k (h : k < M.length),∀ t (ht : k = t + 1),Op.bytesLess (M[t]'(by omega)).1 M[k].1 = true
theorem Afy.lt {M : List (List UInt8 × Int)} (h : Afy M) (i : Nat) : ∀ (j : Nat) (hj : j < M.length) (hij : i < j),Op.bytesLess (M[i]'(by omega)).1 M[j].1 = true := by
 intro j
 induction j with
 | zero => intro _ h; omega
 | succ j ih =>
  intro hj hij
  have h1 := h (j + 1) hj j rfl
  by_cases e : i = j
  ·subst e
   exact h1
  ·exact Ac2 _ _ _ (ih (by omega) (by omega)) h1
theorem Are (M : List (List UInt8 × Int)) (s : List UInt8) (h : ∀ k (hk : k < M.length),M[k].1 ≠ s) : Afv M s = -1 := by
 induction M with
 | nil => rfl
 | cons e r ih =>
  unfold Afv
  rw [if_neg (show e.1 ≠ s from h 0 (Nat.succ_pos _))]
  exact ih (fun k hk => h (k + 1) (Nat.succ_lt_succ hk))
theorem Aj1 (M : List (List UInt8 × Int)) (s : List UInt8) (i : Nat) (hi : i < M.length) (hs : M[i].1 = s) (h : ∀ k (hk : k < i),(M[k]'(by omega)).1 ≠ s) : Afv M s = M[i].2 := by
 induction M generalizing i with
 | nil => exact absurd hi (Nat.not_lt_zero _)
 | cons e r ih =>
  unfold Afv
  cases i with
  | zero =>
   rw [if_pos (show e.1 = s from hs)]
   rfl
  | succ i =>
   rw [if_neg (show e.1 ≠ s from h 0 (Nat.succ_pos _))]
   exact ih i (Nat.lt_of_succ_lt_succ hi) hs (fun k hk => h (k + 1) (Nat.succ_lt_succ hk))
theorem Awb {M : List (List UInt8 × Int)} (h : Afy M) (s : List UInt8) (i : Nat) (h1 : ∀ k (hk : k < M.length),k < i → Op.bytesLess M[k].1 s = true) (h2 : ∀ k (hk : k < M.length),i ≤ k → Op.bytesLess M[k].1 s = false) :
  (∀ hi : i < M.length,M[i].1 = s → Afv M s = M[i].2) ∧ ((∀ hi : i < M.length,M[i].1 ≠ s) → Afv M s = -1) := by
 have ha : ∀ k (hk : k < M.length),k < i → M[k].1 ≠ s := fun k hk hki e => by
  have := h1 k hk hki
  rw [e,Acw] at this
  cases this
 refine ⟨fun hi e => Aj1 M s i hi e (fun k hk => ha k (by omega) hk),fun hn => Are M s (fun k hk => ?_)⟩
 by_cases hki : k < i
 ·exact ha k hk hki
 ·by_cases e : k = i
  ·subst e
   exact hn hk
  ·intro es
   have h3 := h.lt i k hk (by omega)
   rw [es] at h3
   rw [h2 i (by omega) (Nat.le_refl _)] at h3
   cases h3
end Go.Proofs.YtkdfbliiblojoaaGreatDoor
