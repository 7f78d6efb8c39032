import Derived.Test.YtkdfbliiblojoaaGreatDoorK5
import Derived.Lib.IndexLaws
import Derived.Lib.Strings
import Derived.Laws.Strings3
set_option linter.all false
set_option maxRecDepth 100000
set_option maxHeartbeats 64000000
namespace Go.Proofs.YtkdfbliiblojoaaGreatDoor
open Go Go.RowKit
theorem Axy : ∀ (n : Nat) (f : Nat → Nat),(∀ i,i ≤ n → f i < n) → ∃ i j,i < j ∧ j ≤ n ∧ f i = f j
 | 0,f,h => absurd (h 0 (Nat.le_refl _)) (Nat.not_lt_zero _)
 | n + 1,f,h => by
  by_cases hx : ∃ i,i ≤ n ∧ f i = f (n + 1)
  ·obtain ⟨i,hi,he⟩ := hx
   exact ⟨i,n + 1,by omega,Nat.le_refl _,he⟩
  ·have hne : ∀ i,i ≤ n → f i ≠ f (n + 1) := fun i hi e => hx ⟨i,hi,e⟩
   obtain ⟨i,j,hij,hj,he⟩ := Axy n (fun i => if f i = n then f (n + 1) else f i) (fun i hi => by
    have h1 := h i (by omega)
    have h2 := h (n + 1) (Nat.le_refl _)
    have h3 := hne i hi
    by_cases e : f i = n
    ·simp only [e,if_true]; omega
    ·simp only [e,if_false]; omega)
   refine ⟨i,j,hij,by omega,?_⟩
   have h3 := hne i (by omega)
   have h4 := hne j hj
   by_cases e1 : f i = n
   ·by_cases e2 : f j = n
    ·omega
    ·simp only [e1,e2,if_true,if_false] at he
     exact absurd he.symm h4
   ·by_cases e2 : f j = n
    ·simp only [e1,e2,if_true,if_false] at he
     exact absurd he h3
    ·simp only [e1,e2,if_false] at he
     exact he
def upN (L : List Ino) : Nat → Int → Int
 | 0,k => k
 | i + 1,k => upN L i (Aaf L k).up
theorem Am9 (L : List Ino) : ∀ (i j : Nat) (k : Int),upN L (i + j) k = upN L j (upN L i k)
 | 0,j,k => by rw [Nat.zero_add]; rfl
 | i + 1,j,k => by
  rw [show i + 1 + j = (i + j) + 1 by omega]
  exact Am9 L i j (Aaf L k).up
theorem Am3 (L : List Ino) : ∀ (n : Nat) (k : Int),Aex L n k = true ↔ ∃ i,i < n ∧ upN L i k = 0
 | 0,k => by simp [Aex]
 | n + 1,k => by
  rw [Adw]
  by_cases h : k = 0
  ·rw [if_pos h]
   exact ⟨fun _ => ⟨0,by omega,h⟩,fun _ => rfl⟩
  ·rw [if_neg h,Am3 L n]
   constructor
   ·rintro ⟨i,hi,he⟩
    exact ⟨i + 1,by omega,he⟩
   ·rintro ⟨i,hi,he⟩
    cases i with
    | zero => exact absurd he h
    | succ i => exact ⟨i,by omega,he⟩
theorem Aua (L : List Ino) : ∀ (n : Nat) (k : Int),Adp L n k = true → ∃ i,i < n ∧ upN L i k = 0 ∧ ∀ j,j < i → dirB L (upN L (j + 1) k) = true
 | 0,k,h => by simp [Adp] at h
 | n + 1,k,h => by
  rw [Aoi] at h
  by_cases h0 : k = 0
  ·exact ⟨0,by omega,h0,fun j hj => absurd hj (Nat.not_lt_zero _)⟩
  ·rw [if_neg h0] at h
   by_cases hd : dirB L (Aaf L k).up = true
   ·rw [if_pos hd] at h
    obtain ⟨i,hi,he,hj⟩ := Aua L n _ h
    refine ⟨i + 1,by omega,he,fun j hji => ?_⟩
    cases j with
    | zero => exact hd
    | succ j => exact hj j (by omega)
   ·rw [if_neg hd] at h
    cases h
theorem Ae7 {L : List Ino} {k : Int} (h : dirB L k = true) : ∃ n : Nat,k = (n : Int) ∧ n < L.length := Aa7 (by unfold dirB at h; rw [Bool.and_eq_true] at h; exact h.1)
theorem Aqb {L : List Ino} {k : Int} (hk : dirB L k = true) (h : Adp L (L.length + 1) k = true) : Aex L L.length k = true := by
 rw [Am3]
 obtain ⟨i,hi,he,hd⟩ := Aua L _ _ h
 -- the least such
 have hmin : ∃ t,t ≤ i ∧ upN L t k = 0 ∧ ∀ s,s < t → upN L s k ≠ 0 := by
  clear hd hi
  induction i using Nat.strongRecOn with
  | _ i ih =>
   by_cases hx : ∃ s,s < i ∧ upN L s k = 0
   ·obtain ⟨s,hs,hs0⟩ := hx
    obtain ⟨t,ht,h1,h2⟩ := ih s hs hs0
    exact ⟨t,by omega,h1,h2⟩
   ·exact ⟨i,Nat.le_refl _,he,fun s hs e => hx ⟨s,hs,e⟩⟩
 obtain ⟨t,ht,ht0,htm⟩ := hmin
 refine ⟨t,?_,ht0⟩
 have hin : ∀ j,j ≤ t → dirB L (upN L j k) = true := fun j hj => by
  cases j with
  | zero => exact hk
  | succ j => exact hd j (by omega)
 by_cases hlt : t < L.length
 ·exact hlt
 ·obtain ⟨p,q,hpq,hq,e⟩ := Axy L.length (fun j => (upN L j k).toNat) (fun j hj => by
   obtain ⟨n,hn,hn2⟩ := Ae7 (hin j (by omega))
   show (upN L j k).toNat < _
   rw [hn]
   omega)
  have e' : upN L p k = upN L q k := by
   obtain ⟨n1,hn1,_⟩ := Ae7 (hin p (by omega))
   obtain ⟨n2,hn2,_⟩ := Ae7 (hin q (by omega))
   have e2 : (upN L p k).toNat = (upN L q k).toNat := e
   rw [hn1,hn2] at e2 ⊢
   omega
  exfalso
  refine htm (p + (t - q)) (by omega) ?_
  rw [Am9,e',← Am9,show q + (t - q) = t by omega]
  exact ht0
theorem Ak4 {L : List Ino} (hU : Azy L) : ∀ (n n' : Nat) (k : Int),n ≤ n' → dirB L k = true → Aex L n k = true → Adp L n' k = true
 | 0,_,k,_,_,h => by simp [Aex] at h
 | n + 1,0,k,hn,_,_ => by omega
 | n + 1,n' + 1,k,hn,hk,h => by
  rw [Adw] at h
  rw [Aoi]
  by_cases h0 : k = 0
  ·rw [if_pos h0]
  ·rw [if_neg h0] at h ⊢
   obtain ⟨i,rfl,hi⟩ := Ae7 hk
   have hd : dirB L (Aaf L (i : Int)).up = true := by
    rw [Aad L i hi]
    exact hU i hi ((Acr hi).1 hk)
   rw [if_pos hd]
   exact Ak4 hU n n' _ (by omega) hd h
theorem Ahp (L : List Ino) : ∀ (k : Nat) (h : k < L.length),L[k].data.length ≤ Aax L := by
 induction L with
 | nil => intro k h; exact absurd h (Nat.not_lt_zero _)
 | cons x r ih =>
  intro k h
  cases k with
  | zero => simp only [Aax]; exact Nat.le_add_right _ _
  | succ k => simp only [Aax]; have := ih k (Nat.lt_of_succ_lt_succ h); exact Nat.le_trans this (Nat.le_add_left _ _)
theorem Ajd {M : List (List UInt8 × Int)} {e : List UInt8 × Int} (he : e ∈ M) : 1 ≤ Aav M e.2 :=
 List.length_pos_of_mem (List.mem_filter.2 ⟨he,by simp⟩)
theorem Aq3 {M : List (List UInt8 × Int)} {k : Int} (h : ∀ e ∈ M,e.2 ≠ k) : Aav M k = 0 := by
 unfold Aav
 rw [List.length_eq_zero_iff,List.filter_eq_nil_iff]
 intro e he
 simpa using h e he
theorem Ab3 {L : List Ino} {k : Int} (h : dirB L k = true) : (Aaf L k).kind = 2 := by
 unfold dirB at h
 rw [Bool.and_eq_true] at h
 simpa using h.2
theorem Aqx {L : List Ino} {m b : Int} (h : RFitP L m b) : FitP L m b := by
 obtain ⟨hh,hA,hB,hbytes⟩ := h
 have hlen := hh.one
 have hroot : dirB L 0 = true := by
  unfold dirB
  rw [show (0 : Int) = ((0 : Nat) : Int) from rfl,Aef L 0 (by omega)]
  simpa using hh.root
 have hI : Aea L := fun k hk => ⟨(hA k hk).alone,by
  by_cases h2 : L[k].kind = 2
  ·obtain ⟨h3,h4,h5⟩ := (hA k hk).dir h2
   exact ⟨h4,fun i hi => ⟨(h5 i hi).name,(h5 i hi).order,(h5 i hi).there⟩⟩
  ·rw [Aog (hA k hk).alone h2]
   exact ⟨Nat.zero_le _,fun i hi => absurd hi (Nat.not_lt_zero _)⟩⟩
 have hKid : ∀ e ∈ Abh L,∃ d,∃ hd : d < L.length,∃ i,∃ hi : i < L[d].kids.length,e = L[d].kids[i] ∧ KidOk L d L[d].kids i hi := fun e he => by
  obtain ⟨d,hd,he'⟩ := Aek.1 he
  obtain ⟨i,hi,rfl⟩ := List.getElem_of_mem he'
  have h2 := Adq (hA d hd).alone (List.ne_nil_of_mem he')
  exact ⟨d,hd,i,hi,rfl,((hA d hd).dir h2).2.2 i hi⟩
 have hcnt := fun k hk => Acq L (Ad3 (Acn hI)) k hk
 refine ⟨⟨hlen,hh.lim,hh.cap,hbytes,hh.b1⟩,hroot,hh.up,hI,⟨fun d hd e he hde => ?_,fun k hk => ⟨(hB k hk).1,?_⟩⟩,fun k hk hd => ?_⟩
 ·obtain ⟨i,hi,rfl⟩ := List.getElem_of_mem he
  have h2 := Adq (hA d hd).alone (List.ne_nil_of_mem he)
  have h3 := (((hA d hd).dir h2).2.2 i hi).dir
  by_cases hu : (Aaf L L[d].kids[i].2).up = (d : Int)
  ·exact hu
  ·exact absurd ⟨Ab3 hde,Or.inr hu⟩ h3
 ·obtain ⟨-,h2,h3⟩ := hB k hk
  unfold Ad9
  by_cases h0 : (k : Int) = 0 ∨ L[k].kind = 0
  ·rw [if_pos h0,hcnt k hk,Aq3]
   ·rfl
   ·intro e he hek
    obtain ⟨d,hd,i,hi,rfl,ok⟩ := hKid e he
    rcases h0 with h0 | h0
    ·refine ok.dir ⟨?_,Or.inl (by rw [hek]; exact h0)⟩
     rw [hek,h0]
     exact hh.root
    ·refine ok.kind ?_
     rw [hek,Aad L k hk]
     exact h0
  ·rw [if_neg h0]
   have hk0 : 0 < k := by
    by_cases e : k = 0
    ·exact absurd (Or.inl (by omega)) h0
    ·omega
   by_cases hk2 : L[k].kind = 2
   ·rw [if_pos hk2]
    by_cases hc : (Aec L)[k]'(by rw [Ab2]; exact hk) = 1
    ·exact hc
    ·exact absurd ⟨hk2,Or.inr ⟨hk0,hc⟩⟩ h3
   ·rw [if_neg hk2]
    by_cases hc : (Aec L)[k]'(by rw [Ab2]; exact hk) = 0
    ·exact absurd ⟨fun e => h0 (Or.inr e),hk0,hc⟩ h2
    ·rw [hcnt k hk] at hc ⊢
     omega
 ·refine Aqb hd ?_
  cases hr : Agw L (k : Int) with
  | true => exact hr
  | false => exact absurd ⟨(Acr hk).1 hd,Or.inl hr⟩ (hB k hk).2.2
theorem Aql {L : List Ino} {m b : Int} (h : FitP L m b) : RFitP L m b := by
 obtain ⟨hl,hroot,hup,hI,hN,hLead⟩ := h
 have hU := Am2 hroot hup hI hN
 obtain ⟨l1,l2,l3,l4,l5⟩ := hl
 have hcnt := fun k hk => Acq L (Ad3 (Acn hI)) k hk
 have hmay : ∀ k (hk : k < L.length),Ad9 L[k].kind k (Aav (Abh L) k : Int) := fun k hk => by rw [← hcnt k hk]; exact (hN.2 k hk).2
 refine ⟨⟨l1,l2,l3,by omega,l5,Ab3 hroot,hup⟩,fun k hk => ⟨(hI k hk).1,by have := Ahp L k hk; omega,fun h2 => ?_⟩,fun k hk => ⟨(hN.2 k hk).1,?_,?_⟩,l4⟩
 ·have h3 := hU k hk h2
  refine ⟨by unfold dirB at h3; rw [Bool.and_eq_true] at h3; exact h3.1,(hI k hk).2.1,fun i hi => ?_⟩
  have h4 := (hI k hk).2.2 i hi
  have hmem : L[k].kids[i] ∈ Abh L := Aek.2 ⟨k,hk,List.getElem_mem _⟩
  obtain ⟨u,hu,hul⟩ := Aa7 h4.there
  have hpos := Ajd hmem
  rw [hu] at hpos
  have hm := hmay u hul
  unfold Ad9 at hm
  refine ⟨h4.name,h4.order,h4.there,?_,?_⟩
  ·intro e
   rw [hu,Aad L u hul] at e
   rw [if_pos (Or.inr e)] at hm
   omega
  ·rintro ⟨e1,e2 | e2⟩
   ·rw [hu] at e2
    rw [if_pos (Or.inl e2)] at hm
    omega
   ·refine e2 (hN.1 k hk _ (List.getElem_mem _) ?_)
    unfold dirB
    rw [h4.there]
    simpa using e1
 ·rintro ⟨e1,e2,e3⟩
  have hm := hmay k hk
  rw [hcnt k hk] at e3
  unfold Ad9 at hm
  rw [if_neg (by omega)] at hm
  split at hm <;> omega
 ·rintro ⟨e1,e2 | ⟨e2,e3⟩⟩
  ·have h2 := Ak4 hU L.length (L.length + 1) (k : Int) (by omega) ((Acr hk).2 e1) (hLead k hk ((Acr hk).2 e1))
   unfold Agw at e2
   rw [h2] at e2
   cases e2
  ·have hm := hmay k hk
   rw [hcnt k hk] at e3
   unfold Ad9 at hm
   rw [if_neg (by omega),if_pos e1] at hm
   exact e3 hm
theorem Azi {L : List Ino} {m b : Int} : RFitP L m b ↔ FitP L m b := ⟨Aqx,Aql⟩

def Ad6 : List UInt8 → List UInt8
 | [] => []
 | c :: r => if c = 47 then [] else c :: Ad6 r
def Aeg : List UInt8 → List UInt8
 | [] => []
 | c :: r => if c = 47 then r else Aeg r
theorem Aij : ∀ r : List UInt8,(Aeg r).length ≤ r.length
 | [] => Nat.le_refl _
 | c :: r => by
  unfold Aeg
  split
  ·simp
  ·have := Aij r; simp only [List.length_cons]; omega
theorem Asm (r : List UInt8) (h : r ≠ []) : (Aeg r).length < r.length := by
 cases r with
 | nil => exact absurd rfl h
 | cons c r =>
  unfold Aeg
  split
  ·simp
  ·have := Aij r; simp only [List.length_cons]; omega
theorem Aur : ∀ (r cur : List UInt8),Abz cur r = (if cur ++ Ad6 r = [] then [] else [cur ++ Ad6 r]) ++ Aan (Aeg r)
 | [],cur => by simp [Abz,Ad6,Aeg,Aan]
 | c :: r,cur => by
  by_cases hc : c = 47
  ·subst hc
   by_cases h : cur = []
   ·simp [Abz,Ad6,Aeg,Aan,h]
   ·simp [Abz,Ad6,Aeg,Aan,h]
  ·have ih := Aur r (cur ++ [c])
   simp only [Abz,Ad6,Aeg,if_neg hc]
   rw [ih]
   simp
theorem Akc (r : List UInt8) : Aan r = (if Ad6 r = [] then [] else [Ad6 r]) ++ Aan (Aeg r) := Aur r []
theorem Ao9 : ∀ (r : List UInt8),Lib.indexByte r 47 = -1 → Ad6 r = r ∧ Aeg r = []
 | [],_ => ⟨rfl,rfl⟩
 | c :: r,h => by
  have hn := Lib.indexByte_none h
  have hc : c ≠ 47 := fun e => hn 0 (by rw [e]; rfl)
  have hr : Lib.indexByte r 47 = -1 := by
   unfold Lib.indexByte at h
   rw [if_neg (by simpa using hc)] at h
   split at h
   ·rename_i h1; simpa using h1
   ·have := Lib.indexByte_ge r 47; omega
  have ih := Ao9 r hr
  simp only [Ad6,Aeg,if_neg hc]
  exact ⟨by rw [ih.1],ih.2⟩
theorem Asp : ∀ (r : List UInt8) (i : Nat),Lib.indexByte r 47 = (i : Int) → i < r.length ∧ Ad6 r = r.take i ∧ Aeg r = r.drop (i + 1)
 | [],i,h => by
  simp only [Lib.indexByte] at h
  omega
 | c :: r,i,h => by
  unfold Lib.indexByte at h
  by_cases hc : c = 47
  ·rw [if_pos (by simpa using hc)] at h
   obtain rfl : i = 0 := by omega
   simp [Ad6,Aeg,hc]
  ·rw [if_neg (by simpa using hc)] at h
   split at h
   ·omega
   ·rename_i hne
    have hge := Lib.indexByte_ge r 47
    have hne' : Lib.indexByte r 47 ≠ -1 := fun e => hne (by simpa using e)
    obtain ⟨j,rfl⟩ : ∃ j,i = j + 1 := ⟨i - 1,by omega⟩
    have ih := Asp r j (by push_cast at h; omega)
    simp only [Ad6,Aeg,if_neg hc]
    refine ⟨by simp only [List.length_cons]; omega,by rw [ih.2.1]; rfl,by rw [ih.2.2]; rfl⟩
theorem Aod (r : List UInt8) : Lib.indexByte r 47 = -1 ∨ ∃ i : Nat,Lib.indexByte r 47 = (i : Int) := by
 have := Lib.indexByte_ge r 47
 by_cases h : Lib.indexByte r 47 = -1
 ·exact Or.inl h
 ·exact Or.inr ⟨(Lib.indexByte r 47).toNat,by omega⟩
theorem Ao0 (s : ByteArray) (c : Int) (w : World) :
  Calls Tryz.prog 198 #[.string s,.int .u8 c] w fun e w' => e = .returned (.int .i64 (Lib.indexByte s.data.toList c.toNat.toUInt8)) ∧ w = w' := by
 go_enter Tryz.func198,Tryz.ntmps198
 go_wp2_with fail
 rw [run_callFunc_extern Tryz.func209 (by kernel_rfl) (by kernel_rfl) (by kernel_rfl) (e := Extern.BytealgIndexByte.indexByte) (by kernel_rfl),Lib.run_indexByteString]
 simp only [Result.andThen]
 rw [Oper.upon_value]
 go_wp2_with fail
 go_ret
 exact ⟨rfl,rfl⟩
theorem At1 (s : ByteArray) (c : Int) (w : World) :
  Calls Tryz.prog 186 #[.string s,.int .u8 c] w fun e w' => e = .returned (.int .i64 (Lib.indexByte s.data.toList c.toNat.toUInt8)) ∧ w = w' := by
 go_enter Tryz.func186,Tryz.ntmps186
 go_wp2_with fail
 refine (Ao0 _ _ _).mono ?_
 rintro e w' ⟨rfl,rfl⟩
 go_wp2_with fail
 go_ret
 exact ⟨rfl,rfl⟩
theorem Ai1 (s : ByteArray) (w : World) :
  Calls Tryz.prog 214 #[.string s,.string ⟨#[47]⟩] w fun e w' => e = .returned (.int .i64 (Lib.indexByte s.data.toList 47)) ∧ w = w' := by
 go_enter Tryz.func214,Tryz.ntmps214
 go_wp2_with (go_at_call 198; refine (Ao0 _ _ _).mono ?_; rintro e w' ⟨rfl,rfl⟩)
 ·rename_i h
  go_ret
  refine ⟨?_,rfl⟩
  have e : s.data.toList = [47] := by
   have h' := beq_iff_eq.1 h
   rw [ByteArray.toList_eq] at h'
   exact h'.symm
  rw [e]
  rfl
 ·go_ret
  exact ⟨rfl,rfl⟩
structure Reach (L : List Ino) : Prop where
 nodes : L.length ≤ 281474976710656
 kids : ∀ k (h : k < L.length),L[k].kids.length ≤ 281474976710656
 texts : Alm L
 data : ∀ k (h : k < L.length),L[k].data.length ≤ 140737488355328
theorem Aud {L : List Ino} {m b : Int} (h : FitP L m b) : L.length ≤ 256 ∧ Aax L ≤ 65536 ∧ b ≤ 65536 := by
 obtain ⟨h1,h2,h3,h4,h5⟩ := h.limits
 exact ⟨by omega,by omega,h5⟩
theorem Adk {L : List Ino} (h : Aea L) : ∀ k (h : k < L.length),L[k].kids.length ≤ 1024 ∧ Afy L[k].kids := fun k hk => ⟨(h k hk).2.1,fun i hi t ht => ((h k hk).2.2 i hi).order t ht⟩
theorem Al0 {M : List (List UInt8 × Int)} (hR : Afy M) (i : Nat) (hi : i < M.length) : Afv M M[i].1 = M[i].2 := by
 refine Aj1 M M[i].1 i hi rfl (fun k hk e => ?_)
 have h := hR.lt k i hi hk
 rw [e,Acw] at h
 cases h
theorem Amr : ∀ (M : List (List UInt8 × Int)) (s : List UInt8),0 ≤ Afv M s → ∃ e ∈ M,e.1 = s
 | [],_,h => absurd (show (0 : Int) ≤ -1 from h) (by decide)
 | e :: r,s,h => by
  unfold Afv at h
  by_cases hs : e.1 = s
  ·exact ⟨e,List.mem_cons_self,hs⟩
  ·rw [if_neg hs] at h
   obtain ⟨e',he,hs'⟩ := Amr r s h
   exact ⟨e',List.mem_cons_of_mem _ he,hs'⟩
theorem Bak {L : List Ino} {m b : Int} (hF : FitP L m b) (d : Nat) (hd : d < L.length) (i : Nat) (hi : i < L[d].kids.length) : kidL L (d : Int) L[d].kids[i].1 = L[d].kids[i].2 := by
 have h2 := Adq (hF.ins d hd).1 (List.ne_nil_of_mem (List.getElem_mem hi))
 unfold kidL
 rw [(Acr hd).2 h2,if_pos rfl,Aad L d hd]
 exact Al0 (Adk hF.ins d hd).2 i hi
theorem Arj {x : List UInt8} (h : Abg x = true) : x ≠ [] ∧ Ac3 x = false ∧ x.getLast? ≠ some 47 ∧ x.length ≤ 64 ∧ ∀ c ∈ x,c ≠ 47 := by
 unfold Abg at h
 simp only [Bool.and_eq_true,List.all_eq_true,decide_eq_true_eq] at h
 obtain ⟨⟨⟨⟨h1,h2⟩,h3⟩,-⟩,-⟩ := h
 have hc : ∀ c ∈ x,c ≠ 47 := fun c hc => by
  have := (h1 c hc).1
  simpa using this
 refine ⟨fun e => by subst e; simp at h2,?_,fun e => hc 47 (List.mem_of_getLast? e) rfl,h3,hc⟩
 cases x with
 | nil => rfl
 | cons c r =>
  have := hc c List.mem_cons_self
  simpa [Ac3] using this
theorem Ak9 {L : List Ino} (h : Aea L) {d : Nat} (hd : d < L.length) {e : List UInt8 × Int} (he : e ∈ L[d].kids) : Abg e.1 = true ∧ Aa4 L e.2 = true := by
 obtain ⟨i,hi,rfl⟩ := List.getElem_of_mem he
 exact ⟨((h d hd).2.2 i hi).name,((h d hd).2.2 i hi).there⟩
theorem Axv {L : List Ino} {m b : Int} (hF : FitP L m b) : ∀ (i : Nat) (k : Int),dirB L k = true → dirB L (upN L i k) = true
 | 0,_,h => h
 | i + 1,k,h => by
  obtain ⟨z,rfl,hz⟩ := Ae7 h
  refine Axv hF i _ ?_
  rw [Aad L z hz]
  exact Am2 hF.root hF.rootUp hF.ins hF.names z hz ((Acr hz).1 h)
theorem Afc (A B : List (List UInt8 × Int)) (c : Int) : Aav (A ++ B) c = Aav A c + Aav B c := by
 unfold Aav
 rw [List.filter_append,List.length_append]
def sumL {α : Type} : List α → (α → Nat) → Nat
 | [],_ => 0
 | e :: r,g => g e + sumL r g
theorem Aix (c : Int) : ∀ M : List (List UInt8 × Int),Aav M c = sumL M (fun e => if e.2 = c then 1 else 0)
 | [] => rfl
 | e :: r => by
  show Aav (e :: r) c = (if e.2 = c then 1 else 0) + sumL r (fun e => if e.2 = c then 1 else 0)
  rw [← Aix c r]
  unfold Aav
  by_cases h : e.2 = c
  ·rw [if_pos h,List.filter_cons_of_pos (by simpa using h),List.length_cons]
   omega
  ·rw [if_neg h,List.filter_cons_of_neg (by simpa using h)]
   omega
theorem Aqs (e : List UInt8 × Int) (r : List (List UInt8 × Int)) (c : Int) : Aav (e :: r) c = (if e.2 = c then 1 else 0) + Aav r c := by
 rw [Aix,Aix]
 rfl
def Azk (w w' : World) : Prop := ∃ n,w' = w.drewN n
theorem Axj (s : ByteArray) (i : Nat) (h : Lib.indexByte s.data.toList 47 = (i : Int)) :
  Value.string (s.extract 0 i) = .string ⟨(Ad6 s.data.toList).toArray⟩ ∧ Value.string (s.extract (i + 1) s.size) = .string ⟨(Aeg s.data.toList).toArray⟩ := by
 obtain ⟨_,h1,h2⟩ := Asp _ _ h
 rw [Afi,Afi,h1,h2]
 refine ⟨rfl,?_⟩
 unfold strv
 rw [List.take_of_length_le (by rw [Aas]; exact Nat.le_refl _)]
theorem Anb (s : ByteArray) (hs : s.size ≤ 1073741824) (w : World) :
  Calls Tryz.prog 210 #[.string s,.string ⟨#[47]⟩] w fun e w' => (∃ b,e = .returned (.tuple #[.string ⟨(Ad6 s.data.toList).toArray⟩,.string ⟨(Aeg s.data.toList).toArray⟩,.bool b])) ∧ Azk w w' := by
 rcases Aod s.data.toList with hix | ⟨i,hix⟩
 ·obtain ⟨h1,h2⟩ := Ao9 _ hix
  rw [h1,h2]
  have HI := Hd hix
  clear hix h1 h2
  go_enter Tryz.func210,Tryz.ntmps210
  go_wp2_with (go_at_call 214; refine (Ai1 _ _).mono ?_; rintro e w' ⟨rfl,rfl⟩; rw [HI.out])
  go_ret3
  exact ⟨⟨false,rfl⟩,0,rfl⟩
 ·obtain ⟨hi,-,-⟩ := Asp _ _ hix
  rw [Aas] at hi
  obtain ⟨h1,h2⟩ := Axj s i hix
  rw [← h1,← h2]
  have c1 : (0 : Int) ≤ ↑i := by omega
  have c2 : (↑i : Int) ≤ ↑s.size := by omega
  have c3 : (0 : Int) ≤ ↑i + 1 := by omega
  have c4 : (↑i + 1 : Int) ≤ ↑s.size := by omega
  have HI := Hd hix
  clear hix h1 h2
  go_enter Tryz.func210,Tryz.ntmps210
  go_wp2_with (go_at_call 214; refine (Ai1 _ _).mono ?_; rintro e w' ⟨rfl,rfl⟩; rw [HI.out])
  go_region
  go_wp2_with fail
  go_ret3
  exact ⟨⟨true,rfl⟩,1,rfl⟩
theorem Ayr (s : ByteArray) (hs : s.size ≤ 1073741824) (w : World) :
  Calls Tryz.prog 200 #[.string s,.string ⟨#[47]⟩] w fun e w' => (∃ b,e = .returned (.tuple #[.string ⟨(Ad6 s.data.toList).toArray⟩,.string ⟨(Aeg s.data.toList).toArray⟩,.bool b])) ∧ Azk w w' := by
 go_enter Tryz.func200,Tryz.ntmps200
 go_wp2_with (go_at_call 210; refine (Anb _ hs _).mono ?_; rintro e w' ⟨⟨b,rfl⟩,hd⟩)
 go_ret3
 exact ⟨⟨b,rfl⟩,hd⟩
def Abs : List (List UInt8 × Int) → List UInt8 → Int → List (List UInt8 × Int)
 | [],s,k => [(s,k)]
 | e :: r,s,k => if Op.bytesLess e.1 s = true then e :: Abs r s k else (s,k) :: (e :: r).filter fun e => e.1 != s
theorem Ayv {a b : List UInt8} (h1 : ¬ Op.bytesLess a b = true) (h2 : a ≠ b) : Op.bytesLess b a = true := by
 rcases Af4 a b with ⟨-,h⟩ | ⟨-,h⟩ | ⟨-,h⟩
 ·exact absurd h h1
 ·exact absurd h h2
 ·exact h
theorem Arm {M : List (List UInt8 × Int)} {s : List UInt8} (h : ∀ e ∈ M,e.1 ≠ s) : M.filter (fun e => e.1 != s) = M := List.filter_eq_self.2 fun e he => by simpa using h e he
theorem Af7 : ∀ (M : List (List UInt8 × Int)) (s : List UInt8) (k : Int),(∀ e ∈ M,e.1 ≠ s) → ∃ A B,M = A ++ B ∧ Abs M s k = A ++ (s,k) :: B ∧ (∀ e ∈ A,Op.bytesLess e.1 s = true) ∧ ∀ e r,B = e :: r → Op.bytesLess s e.1 = true
 | [],s,k,_ => ⟨[],[],rfl,rfl,(fun _ h => by cases h),(fun _ _ h => by cases h)⟩
 | e :: r,s,k,h => by
  rw [Abs]
  by_cases hl : Op.bytesLess e.1 s = true
  ·obtain ⟨A,B,h1,h2,h3,h4⟩ := Af7 r s k (fun x hx => h x (List.mem_cons_of_mem _ hx))
   rw [if_pos hl,h2]
   refine ⟨e :: A,B,by rw [h1]; rfl,rfl,fun x hx => ?_,h4⟩
   rcases List.mem_cons.1 hx with rfl | hx
   ·exact hl
   ·exact h3 x hx
  ·rw [if_neg hl,Arm h]
   refine ⟨[],e :: r,rfl,rfl,(fun _ h => by cases h),fun x y hxy => ?_⟩
   cases hxy
   exact Ayv hl (h e List.mem_cons_self)
theorem Ash {M : List (List UInt8 × Int)} {s : List UInt8} (k : Int) (h : ∀ e ∈ M,e.1 ≠ s) : (Abs M s k).length = M.length + 1 := by
 obtain ⟨A,B,h1,h2,-,-⟩ := Af7 M s k h
 rw [h2,h1,List.length_append,List.length_append,List.length_cons]
 omega
theorem Amg {M : List (List UInt8 × Int)} {s : List UInt8} (k : Int) (h : ∀ e ∈ M,e.1 ≠ s) {e : List UInt8 × Int} : e ∈ Abs M s k ↔ e = (s,k) ∨ e ∈ M := by
 obtain ⟨A,B,h1,h2,-,-⟩ := Af7 M s k h
 rw [h2,h1,List.mem_append,List.mem_append,List.mem_cons]
 constructor
 ·rintro (h | h | h)
  ·exact Or.inr (Or.inl h)
  ·exact Or.inl h
  ·exact Or.inr (Or.inr h)
 ·rintro (h | h | h)
  ·exact Or.inr (Or.inl h)
  ·exact Or.inl h
  ·exact Or.inr (Or.inr h)
theorem Anl {M : List (List UInt8 × Int)} {s : List UInt8} (k : Int) (h : ∀ e ∈ M,e.1 ≠ s) (c : Int) : Aav (Abs M s k) c = Aav M c + (if k = c then 1 else 0) := by
 obtain ⟨A,B,h1,h2,-,-⟩ := Af7 M s k h
 rw [h2,h1,Afc,Afc,Aqs]
 show _ + ((if k = c then 1 else 0) + _) = _
 omega
theorem Aqh (M : List (List UInt8 × Int)) : Afy M ↔ M.Pairwise fun a b => Op.bytesLess a.1 b.1 = true := by
 constructor
 ·intro h
  rw [List.pairwise_iff_getElem]
  intro i j hi hj hij
  exact h.lt i j hj hij
 ·intro h k hk t ht
  subst ht
  exact (List.pairwise_iff_getElem.1 h) t (t + 1) (by omega) hk (by omega)
theorem Aok {M : List (List UInt8 × Int)} {s : List UInt8} (k : Int) (h : ∀ e ∈ M,e.1 ≠ s) (hR : Afy M) : Afy (Abs M s k) := by
 obtain ⟨A,B,h1,h2,h3,h4⟩ := Af7 M s k h
 rw [Aqh] at hR ⊢
 rw [h1,List.pairwise_append] at hR
 obtain ⟨hA,hB,hAB⟩ := hR
 rw [h2,List.pairwise_append,List.pairwise_cons]
 refine ⟨hA,⟨fun x hx => ?_,hB⟩,fun a ha x hx => ?_⟩
 ·cases B with
  | nil => cases hx
  | cons e r =>
   have he := h4 e r rfl
   rcases List.mem_cons.1 hx with rfl | hx
   ·exact he
   ·exact Ac2 _ _ _ he ((List.pairwise_cons.1 hB).1 x hx)
 ·rcases List.mem_cons.1 hx with rfl | hx
  ·exact h3 a ha
  ·exact hAB a ha x hx
theorem Aha : ∀ (L : List Ino) (k : Nat) (h : k < L.length) (x : Ino) (c : Int),Aav (Abh (L.set k x)) c + Aav L[k].kids c = Aav (Abh L) c + Aav x.kids c
 | y :: r,0,_,x,c => by
  show Aav (x.kids ++ Abh r) c + Aav y.kids c = Aav (y.kids ++ Abh r) c + _
  rw [Afc,Afc]
  omega
 | y :: r,k + 1,h,x,c => by
  have ih := Aha r k (Nat.lt_of_succ_lt_succ h) x c
  show Aav (y.kids ++ Abh (r.set k x)) c + Aav (r[k]'(Nat.lt_of_succ_lt_succ h)).kids c = Aav (y.kids ++ Abh r) c + _
  rw [Afc,Afc]
  omega
theorem Ag0 : ∀ (L : List Ino) (k : Nat) (h : k < L.length) (x : Ino),Aax (L.set k x) + L[k].data.length = Aax L + x.data.length
 | y :: r,0,_,x => by
  show x.data.length + Aax r + y.data.length = y.data.length + Aax r + _
  omega
 | y :: r,k + 1,h,x => by
  have ih := Ag0 r k (Nat.lt_of_succ_lt_succ h) x
  show y.data.length + Aax (r.set k x) + (r[k]'(Nat.lt_of_succ_lt_succ h)).data.length = y.data.length + Aax r + _
  omega
theorem Al5 (L : List Ino) (k : Nat) (x : Ino) (c : Int) : Aa4 (L.set k x) c = Aa4 L c := by
 unfold Aa4
 rw [List.length_set]
def Aee (y : Ino) (M : List (List UInt8 × Int)) : Ino := { y with kids := M }
def addL (L : List Ino) (d k : Nat) (s : List UInt8) (x : Ino) : List Ino := (L.set k x).set d (Aee (Aaf L d) (Abs (Aaf L d).kids s k))
theorem Acy (L : List Ino) (d k : Nat) (s : List UInt8) (x : Ino) : (addL L d k s x).length = L.length := by unfold addL; rw [List.length_set,List.length_set]
theorem Ahq {L : List Ino} {d k : Nat} (hd : d < L.length) (s : List UInt8) (x : Ino) (j : Nat) (hj : j < L.length) :
  (addL L d k s x)[j]'(by rw [Acy]; exact hj) = if d = j then Aee L[d] (Abs L[d].kids s k) else if k = j then x else L[j] := by
 simp only [addL,List.getElem_set,Aad L d hd]
theorem Aoq {L : List Ino} {d k : Nat} (hd : d < L.length) (s : List UInt8) (x : Ino) (j : Nat) (hj : j < L.length) :
  Aaf (addL L d k s x) (j : Int) = if d = j then Aee L[d] (Abs L[d].kids s k) else if k = j then x else L[j] := by
 rw [Aad _ j (by rw [Acy]; exact hj)]
 exact Ahq hd s x j hj
theorem Aiy (L : List Ino) (d k : Nat) (s : List UInt8) (x : Ino) (c : Int) : Aa4 (addL L d k s x) c = Aa4 L c := by
 unfold Aa4
 rw [Acy]
structure Adds (L : List Ino) (m b : Int) (d k : Nat) (s : List UInt8) (x : Ino) : Prop where
 fit : FitP L m b
 dlt : d < L.length
 dir : L[d].kind = 2
 klt : k < L.length
 nodir : L[k].kind ≠ 2
 name : Abg s = true
 new : ∀ e ∈ L[d].kids,e.1 ≠ s
 room : L[d].kids.length < 1024
 alone : Abo x = true
 used : x.kind ≠ 0
 kids : x.kids = []
 links : x.links = L[k].links + 1
 up : x.kind = 2 → x.up = d ∧ L[k].kind = 0
 bytes : (Aax L : Int) + x.data.length ≤ b + L[k].data.length
section
variable {L : List Ino} {m b : Int} {d k : Nat} {s : List UInt8} {x : Ino}
theorem Adds.ne (h : Adds L m b d k s x) : d ≠ k := fun e => by
 have h1 := h.dir
 subst e
 exact h.nodir h1
theorem Aso (hF : FitP L m b) (hk : k < L.length) (h : L[k].kind ≠ 2) : L[k].kids = [] := by
 cases hq : L[k].kids with
 | nil => rfl
 | cons e r => exact absurd (Adq (hF.ins k hk).1 (by rw [hq]; simp)) h
theorem Adds.names (h : Adds L m b d k s x) (c : Int) : Aav (Abh (addL L d k s x)) c = Aav (Abh L) c + (if (k : Int) = c then 1 else 0) := by
 have h1 := Aha L k h.klt x c
 have hd : d < (L.set k x).length := by rw [List.length_set]; exact h.dlt
 have h2 := Aha (L.set k x) d hd (Aee (Aaf L d) (Abs (Aaf L d).kids s k)) c
 have e1 : (L.set k x)[d] = L[d]'h.dlt := by rw [List.getElem_set,if_neg (fun e => h.ne e.symm)]
 rw [e1] at h2
 have h3 : Aav (Abs (Aaf L d).kids s k) c = Aav (Aaf L d).kids c + (if (k : Int) = c then 1 else 0) := Anl (k : Int) (by rw [Aad L d h.dlt]; exact h.new) c
 have h4 : Aav (Abh (addL L d k s x)) c + Aav (L[d]'h.dlt).kids c = Aav (Abh (L.set k x)) c + Aav (Abs (Aaf L d).kids s k) c := h2
 rw [h3,Aad L d h.dlt] at h4
 rw [Aso h.fit h.klt h.nodir,h.kids] at h1
 omega
theorem Adds.bytesUsed (h : Adds L m b d k s x) : Aax (addL L d k s x) + (L[k]'h.klt).data.length = Aax L + x.data.length := by
 have h1 := Ag0 L k h.klt x
 have hd : d < (L.set k x).length := by rw [List.length_set]; exact h.dlt
 have h2 := Ag0 (L.set k x) d hd (Aee (Aaf L d) (Abs (Aaf L d).kids s k))
 have e1 : (L.set k x)[d] = L[d]'h.dlt := by rw [List.getElem_set,if_neg (fun e => h.ne e.symm)]
 rw [e1] at h2
 have h4 : Aax (addL L d k s x) + (L[d]'h.dlt).data.length = Aax (L.set k x) + (Aaf L d).data.length := h2
 rw [Aad L d h.dlt] at h4
 omega
theorem Adds.node (h : Adds L m b d k s x) (j : Nat) (hj : j < L.length) (hjk : j ≠ k) : (Aaf (addL L d k s x) (j : Int)).kind = L[j].kind ∧ (Aaf (addL L d k s x) (j : Int)).up = L[j].up ∧ (Aaf (addL L d k s x) (j : Int)).links = L[j].links := by
 rw [Aoq h.dlt s x j hj]
 by_cases e : d = j
 ·subst e
  rw [if_pos rfl]
  exact ⟨rfl,rfl,rfl⟩
 ·rw [if_neg e,if_neg (fun e => hjk e.symm)]
  exact ⟨rfl,rfl,rfl⟩
theorem Adds.nodeK (h : Adds L m b d k s x) : Aaf (addL L d k s x) (k : Int) = x := by rw [Aoq h.dlt s x k h.klt,if_neg h.ne,if_pos rfl]
theorem Adds.dirs (h : Adds L m b d k s x) {c : Int} (hc : c ≠ (k : Int)) : dirB (addL L d k s x) c = dirB L c := by
 unfold dirB
 rw [Aiy]
 cases ht : Aa4 L c with
 | false => rfl
 | true =>
  obtain ⟨j,rfl,hj⟩ := Aa7 ht
  rw [(h.node j hj (fun e => hc (by rw [e]))).1,Aad L j hj]
theorem Adds.ins (h : Adds L m b d k s x) : Aea (addL L d k s x) := fun j hj => by
 rw [Acy] at hj
 rw [Ahq h.dlt s x j hj]
 by_cases e : d = j
 ·subst e
  rw [if_pos rfl]
  have hI := h.fit.ins d h.dlt
  refine ⟨?_,?_,fun i hi => ?_⟩
  ·have h1 := hI.1
   unfold Abo at h1 ⊢
   simpa [Aee,h.dir] using h1
  ·show (Abs L[d].kids s k).length ≤ 1024
   rw [Ash _ h.new]
   have := h.room
   omega
  ·have hR := Aok (k : Int) h.new (Adk h.fit.ins d h.dlt).2
   have hi' : i < (Abs L[d].kids s k).length := hi
   have hm : (Abs L[d].kids s k)[i] ∈ Abs L[d].kids s k := List.getElem_mem _
   rw [Amg (k : Int) h.new] at hm
   refine ⟨?_,fun t ht => hR i hi' t ht,?_⟩
   ·show Abg (Abs L[d].kids s k)[i].1 = true
    rcases hm with hm | hm
    ·rw [hm]; exact h.name
    ·exact (Ak9 h.fit.ins h.dlt hm).1
   ·show Aa4 (addL L d k s x) (Abs L[d].kids s k)[i].2 = true
    rw [Aiy]
    rcases hm with hm | hm
    ·rw [hm]; exact Aef L k h.klt
    ·exact (Ak9 h.fit.ins h.dlt hm).2
 ·rw [if_neg e]
  by_cases e2 : k = j
  ·rw [if_pos e2]
   refine ⟨h.alone,by rw [h.kids]; exact Nat.zero_le _,fun i hi => ?_⟩
   rw [h.kids] at hi
   exact absurd hi (Nat.not_lt_zero _)
  ·rw [if_neg e2]
   have hI := h.fit.ins j hj
   exact ⟨hI.1,hI.2.1,fun i hi => ⟨(hI.2.2 i hi).name,(hI.2.2 i hi).order,by rw [Aiy]; exact (hI.2.2 i hi).there⟩⟩
theorem Adds.count (h : Adds L m b d k s x) (j : Nat) (hj : j < L.length) : (Aec (addL L d k s x))[j]'(by rw [Ab2,Acy]; exact hj) = (Aav (Abh L) j : Int) + (if k = j then 1 else 0) := by
 rw [Acq _ (Ad3 (Acn h.ins)) j (by rw [Acy]; exact hj),h.names]
 by_cases e : k = j
 ·rw [if_pos e,if_pos (by rw [e])]; rfl
 ·rw [if_neg e,if_neg (fun e2 => e (by omega))]; rfl
theorem Adds.noname (h : Adds L m b d k s x) (hx : x.kind = 2) : ∀ e ∈ Abh L,e.2 ≠ (k : Int) := fun e he ek => by
 have h0 := (h.up hx).2
 have hm := (h.fit.names.2 k h.klt).2
 rw [Acq L (Ad3 (Acn h.fit.ins)) k h.klt] at hm
 unfold Ad9 at hm
 rw [if_pos (Or.inr h0)] at hm
 have := Ajd he
 rw [ek] at this
 omega
theorem Adds.upfits (h : Adds L m b d k s x) : Ax4 (addL L d k s x) := fun d' hd' e he hdir => by
 rw [Acy] at hd'
 have old : ∀ (c : Nat) (hc : c < L.length),e ∈ L[c].kids → (Aaf (addL L d k s x) e.2).up = (c : Int) := fun c hc he2 => by
  have hk : e ∈ Abh L := Aek.2 ⟨c,hc,he2⟩
  by_cases ek : e.2 = (k : Int)
  ·rw [ek] at hdir
   have hx : x.kind = 2 := by
    have := Ab3 hdir
    rw [h.nodeK] at this
    exact this
   exact absurd ek (h.noname hx e hk)
  ·rw [h.dirs ek] at hdir
   obtain ⟨j,hj1,hj⟩ := Ae7 hdir
   have h2 := h.fit.names.1 c hc e he2 hdir
   rw [hj1] at h2 ek ⊢
   rw [(h.node j hj (fun e3 => ek (by rw [e3]))).2.1,← Aad L j hj]
   exact h2
 rw [Ahq h.dlt s x d' hd'] at he
 by_cases e1 : d = d'
 ·subst e1
  rw [if_pos rfl] at he
  have he' : e ∈ Abs L[d].kids s k := he
  rw [Amg (k : Int) h.new] at he'
  rcases he' with he' | he'
  ·rw [he'] at hdir ⊢
   have hx : x.kind = 2 := by
    have := Ab3 hdir
    rw [h.nodeK] at this
    exact this
   rw [h.nodeK]
   exact (h.up hx).1
  ·exact old d h.dlt he'
 ·rw [if_neg e1] at he
  by_cases e2 : k = d'
  ·rw [if_pos e2,h.kids] at he
   cases he
  ·rw [if_neg e2] at he
   exact old d' hd' he
theorem Adds.linksfit (h : Adds L m b d k s x) : Aov (addL L d k s x) := fun j hj => by
 have hj' := hj
 rw [Acy] at hj'
 rw [h.count j hj']
 obtain ⟨h1,h2⟩ := h.fit.names.2 j hj'
 rw [Acq L (Ad3 (Acn h.fit.ins)) j hj'] at h1 h2
 have hn := Aad (addL L d k s x) j hj
 by_cases e : k = j
 ·subst e
  rw [if_pos rfl,← hn,h.nodeK]
  refine ⟨by rw [h.links,h1],?_⟩
  have hk0 : k ≠ 0 := fun e0 => by
   subst e0
   have hr := h.fit.root
   have hr2 : L[0].kind = 2 := (Acr (n := 0) h.klt).1 hr
   exact h.nodir hr2
  unfold Ad9
  rw [if_neg (by rintro (e0 | e0); exact hk0 (by omega); exact h.used e0)]
  split
  ·rename_i hx
   unfold Ad9 at h2
   rw [if_pos (Or.inr (h.up hx).2)] at h2
   omega
  ·omega
 ·obtain ⟨n1,n2,n3⟩ := h.node j hj' (fun e2 => e e2.symm)
  rw [hn] at n1 n3
  rw [if_neg e,n1,n3,Int.add_zero]
  exact ⟨h1,h2⟩
theorem Adds.root (h : Adds L m b d k s x) : dirB (addL L d k s x) 0 = true ∧ (Aaf (addL L d k s x) 0).up = 0 := by
 have hp : 0 < L.length := Nat.lt_of_le_of_lt (Nat.zero_le _) h.klt
 have hr2 : L[0].kind = 2 := (Acr (n := 0) hp).1 h.fit.root
 have hk0 : 0 ≠ k := fun e0 => by
  subst e0
  exact h.nodir hr2
 refine ⟨(h.dirs (c := 0) (by omega)).trans h.fit.root,?_⟩
 have h1 := (h.node 0 hp hk0).2.1
 have h2 := h.fit.rootUp
 rw [show (0 : Int) = ((0 : Nat) : Int) from rfl,Aad L 0 hp] at h2
 exact h1.trans h2
theorem Adds.same (h : Adds L m b d k s x) : ∀ (n : Nat) (c : Int),dirB L c = true → Aex (addL L d k s x) n c = Aex L n c
 | 0,_,_ => rfl
 | n + 1,c,hc => by
  obtain ⟨j,rfl,hj⟩ := Ae7 hc
  have hjk : j ≠ k := fun e => by
   subst e
   exact h.nodir ((Acr hj).1 hc)
  rw [Adw,Adw,(h.node j hj hjk).2.1,Aad L j hj]
  split
  ·rfl
  ·exact Adds.same h n _ (Am2 h.fit.root h.fit.rootUp h.fit.ins h.fit.names j hj ((Acr hj).1 hc))
theorem Adds.fits (h : Adds L m b d k s x) : FitP (addL L d k s x) m b := by
 have hU := Am2 h.root.1 h.root.2 h.ins ⟨h.upfits,h.linksfit⟩
 refine ⟨?_,h.root.1,h.root.2,h.ins,⟨h.upfits,h.linksfit⟩,fun j hj hdir => ?_⟩
 ·obtain ⟨l1,l2,l3,l4,l5⟩ := h.fit.limits
  have h1 := h.bytesUsed
  have h2 := h.bytes
  refine ⟨by rw [Acy]; exact l1,by rw [Acy]; exact l2,l3,by omega,l5⟩
 ·have hj' := hj
  rw [Acy] at hj'
  by_cases e : j = k
  ·subst e
   have hx : x.kind = 2 := by
    have := Ab3 hdir
    rw [h.nodeK] at this
    exact this
   have hdd := (Acr h.dlt).2 h.dir
   have h1 : Aex (addL L d j s x) (L.length + 1) (j : Int) = true := by
    rw [Adw,h.nodeK,(h.up hx).1]
    split
    ·rfl
    ·rw [h.same _ _ hdd]
     exact h.fit.leads d h.dlt hdd
   refine Aqb hdir ?_
   rw [Acy]
   exact Ak4 hU _ _ _ (Nat.le_refl _) hdir h1
  ·have hdl : dirB L (j : Int) = true := by
    rw [h.dirs (by omega)] at hdir
    exact hdir
   rw [Acy,h.same _ _ hdl]
   exact h.fit.leads j hj' hdl
end
section
variable {L : List Ino} {m b : Int} {k : Nat} {x : Ino}
structure Puts (L : List Ino) (m b : Int) (k : Nat) (x : Ino) : Prop where
 fit : FitP L m b
 klt : k < L.length
 kind : x.kind = L[k].kind
 links : x.links = L[k].links
 kids : x.kids = L[k].kids
 up : x.up = L[k].up
 alone : Abo x = true
 bytes : (Aax L : Int) + x.data.length ≤ b + L[k].data.length
theorem Puts.at (h : Puts L m b k x) (j : Nat) (hj : j < L.length) : ((L.set k x)[j]'(by rw [List.length_set]; exact hj)).kind = L[j].kind ∧ ((L.set k x)[j]'(by rw [List.length_set]; exact hj)).links = L[j].links ∧ ((L.set k x)[j]'(by rw [List.length_set]; exact hj)).kids = L[j].kids ∧ ((L.set k x)[j]'(by rw [List.length_set]; exact hj)).up = L[j].up := by
 rw [List.getElem_set]
 by_cases e : k = j
 ·subst e
  rw [if_pos rfl]
  exact ⟨h.kind,h.links,h.kids,h.up⟩
 ·rw [if_neg e]
  exact ⟨rfl,rfl,rfl,rfl⟩
theorem Puts.node (h : Puts L m b k x) (j : Nat) (hj : j < L.length) : (Aaf (L.set k x) (j : Int)).kind = L[j].kind ∧ (Aaf (L.set k x) (j : Int)).up = L[j].up := by
 rw [Aad _ j (by rw [List.length_set]; exact hj)]
 exact ⟨(h.at j hj).1,(h.at j hj).2.2.2⟩
theorem Puts.dirs (h : Puts L m b k x) (c : Int) : dirB (L.set k x) c = dirB L c := by
 unfold dirB
 rw [Al5]
 cases ht : Aa4 L c with
 | false => rfl
 | true =>
  obtain ⟨j,rfl,hj⟩ := Aa7 ht
  rw [(h.node j hj).1,Aad L j hj]
theorem Puts.names (h : Puts L m b k x) (c : Int) : Aav (Abh (L.set k x)) c = Aav (Abh L) c := by
 have h1 := Aha L k h.klt x c
 rw [h.kids] at h1
 omega
theorem Puts.ins (h : Puts L m b k x) : Aea (L.set k x) := fun j hj => by
 rw [List.length_set] at hj
 have hI := h.fit.ins j hj
 refine ⟨?_,?_⟩
 ·rw [List.getElem_set]
  split
  ·exact h.alone
  ·exact hI.1
 ·rw [(h.at j hj).2.2.1]
  exact ⟨hI.2.1,fun i hi => ⟨(hI.2.2 i hi).name,(hI.2.2 i hi).order,by rw [Al5]; exact (hI.2.2 i hi).there⟩⟩
theorem Puts.leads (h : Puts L m b k x) : ∀ (n : Nat) (c : Int),dirB L c = true → Aex (L.set k x) n c = Aex L n c
 | 0,_,_ => rfl
 | n + 1,c,hc => by
  obtain ⟨j,rfl,hj⟩ := Ae7 hc
  rw [Adw,Adw,(h.node j hj).2,Aad L j hj]
  split
  ·rfl
  ·exact Puts.leads h n _ (Am2 h.fit.root h.fit.rootUp h.fit.ins h.fit.names j hj ((Acr hj).1 hc))
theorem Puts.fits (h : Puts L m b k x) : FitP (L.set k x) m b := by
 have hp : 0 < L.length := Nat.lt_of_le_of_lt (Nat.zero_le _) h.klt
 refine ⟨?_,(h.dirs 0).trans h.fit.root,?_,h.ins,⟨fun d hd e he hdir => ?_,fun j hj => ?_⟩,fun j hj hdir => ?_⟩
 ·obtain ⟨l1,l2,l3,l4,l5⟩ := h.fit.limits
  have h1 := Ag0 L k h.klt x
  have h2 := h.bytes
  refine ⟨by rw [List.length_set]; exact l1,by rw [List.length_set]; exact l2,l3,by omega,l5⟩
 ·have h2 := h.fit.rootUp
  rw [show (0 : Int) = ((0 : Nat) : Int) from rfl,Aad L 0 hp] at h2
  exact (h.node 0 hp).2.trans h2
 ·rw [List.length_set] at hd
  rw [(h.at d hd).2.2.1] at he
  rw [h.dirs] at hdir
  have h2 := h.fit.names.1 d hd e he hdir
  obtain ⟨j,hj1,hj⟩ := Ae7 hdir
  rw [hj1] at h2 ⊢
  rw [(h.node j hj).2,← Aad L j hj]
  exact h2
 ·have hj' := hj
  rw [List.length_set] at hj'
  obtain ⟨h1,h2⟩ := h.fit.names.2 j hj'
  rw [Acq L (Ad3 (Acn h.fit.ins)) j hj'] at h1 h2
  rw [Acq _ (Ad3 (Acn h.ins)) j hj,h.names,(h.at j hj').1,(h.at j hj').2.1]
  exact ⟨h1,h2⟩
 ·rw [List.length_set] at hj
  rw [h.dirs] at hdir
  rw [List.length_set,h.leads _ _ hdir]
  exact h.fit.leads j hj hdir
end
def Adm (L : List Ino) (k : Int) : Int :=
 if Aa4 L k = false ∨ (Aaf L k).kind = 0 then 2 else if (Aaf L k).kind = 2 then 21 else if (Aaf L k).kind ≠ 1 then 22 else 0
def Akx (old : List UInt8) (off : Nat) (s : List UInt8) : List UInt8 := (old ++ List.replicate (off - old.length) 0).take off ++ s ++ old.drop (off + s.length)
def cutL (old : List UInt8) (n : Nat) : List UInt8 := old.take n ++ List.replicate (n - old.length) 0
def Afj (L : List Ino) (k off n : Int) : List UInt8 × Int :=
 if Adm L k ≠ 0 then ([],Adm L k) else if off < 0 ∨ n < 0 then ([],22) else (((Aaf L k).data.drop off.toNat).take n.toNat,0)
def Agm (L : List Ino) (k : Nat) (d : List UInt8) : List Ino := L.set k { Aaf L k with data := d }
def Aft (L : List Ino) (b : Int) (k : Nat) (d : List UInt8) : List Ino × Int :=
 if b < (Aax L : Int) - ((Aaf L k).data.length : Int) + (d.length : Int) then (L,28) else (Agm L k d,0)
def Aes (L : List Ino) (b : Int) (k off : Int) (s : List UInt8) : List Ino × Int :=
 if Adm L k ≠ 0 then (L,Adm L k) else if off < 0 then (L,22) else if s = [] then (L,0) else if 65536 < off ∨ 65536 - off < (s.length : Int) then (L,27) else
 Aft L b k.toNat (Akx (Aaf L k).data off.toNat s)
def cutW (L : List Ino) (b : Int) (k n : Int) : List Ino × Int :=
 if Adm L k ≠ 0 then (L,Adm L k) else if n < 0 then (L,22) else if 65536 < n then (L,27) else Aft L b k.toNat (cutL (Aaf L k).data n.toNat)
theorem Ag8 (old : List UInt8) (off : Nat) : ((old ++ List.replicate (off - old.length) 0).take off).length = off := by
 rw [List.length_take,List.length_append,List.length_replicate]
 omega
theorem Aqd (old : List UInt8) (off : Nat) (s : List UInt8) : (Akx old off s).length = off + s.length + (old.length - (off + s.length)) := by
 unfold Akx
 rw [List.length_append,List.length_append,Ag8,List.length_drop]
theorem Ah8 (old : List UInt8) (n : Nat) : (cutL old n).length = n := by
 unfold cutL
 rw [List.length_append,List.length_take,List.length_replicate]
 omega
theorem Ays (old : List UInt8) (z i : Nat) : (old ++ List.replicate z 0)[i]? = if i < old.length then old[i]? else if i < old.length + z then some 0 else none := by
 rw [List.getElem?_append]
 by_cases h : i < old.length
 ·rw [if_pos h,if_pos h]
 ·rw [if_neg h,if_neg h,List.getElem?_replicate]
  by_cases h2 : i < old.length + z
  ·rw [if_pos h2,if_pos (by omega)]
  ·rw [if_neg h2,if_neg (by omega)]
theorem Awj (old : List UInt8) (off : Nat) (s : List UInt8) (i : Nat) : (Akx old off s)[i]? = if i < off then (if i < old.length then old[i]? else some 0) else if i < off + s.length then s[i - off]? else old[i]? := by
 unfold Akx
 rw [List.getElem?_append,List.length_append,Ag8]
 by_cases h1 : i < off
 ·rw [if_pos h1,if_pos (by omega),List.getElem?_append,Ag8,if_pos h1,List.getElem?_take,if_pos h1,Ays]
  by_cases h2 : i < old.length
  ·rw [if_pos h2,if_pos h2]
  ·rw [if_neg h2,if_neg h2,if_pos (by omega)]
 ·rw [if_neg h1]
  by_cases h2 : i < off + s.length
  ·rw [if_pos h2,if_pos h2,List.getElem?_append,Ag8,if_neg h1]
  ·rw [if_neg h2,if_neg h2,List.getElem?_drop]
   congr 1
   omega
theorem Ao3 (old : List UInt8) (n i : Nat) : (cutL old n)[i]? = if i < n then (if i < old.length then old[i]? else some 0) else none := by
 unfold cutL
 rw [List.getElem?_append,List.length_take]
 by_cases h1 : i < n
 ·rw [if_pos h1]
  by_cases h2 : i < old.length
  ·rw [if_pos (by omega),if_pos h2,List.getElem?_take,if_pos h1]
  ·rw [if_neg (by omega),if_neg h2,List.getElem?_replicate,if_pos (by omega)]
 ·rw [if_neg h1,if_neg (by omega),List.getElem?_replicate,if_neg (by omega)]
theorem Agg (L : List Ino) (k : Nat) (d : List UInt8) : (Agm L k d).length = L.length := List.length_set ..
section
variable {L : List Ino} {m b : Int}
theorem Ajl {k : Int} (h : Adm L k = 0) : ∃ n : Nat,∃ hn : n < L.length,k = (n : Int) ∧ L[n].kind = 1 := by
 unfold Adm at h
 split at h
 ·exact absurd h (by decide)
 rename_i h1
 split at h
 ·exact absurd h (by decide)
 split at h
 ·exact absurd h (by decide)
 rename_i h3
 have ht : Aa4 L k = true := by simpa using fun e => h1 (.inl e)
 obtain ⟨n,rfl,hn⟩ := Aa7 ht
 exact ⟨n,hn,rfl,by rw [Aad L n hn] at h3; omega⟩
theorem Atk (hF : FitP L m b) {k : Nat} (hk : k < L.length) (h1 : L[k].kind = 1) {d : List UInt8} (hd : ¬ b < (Aax L : Int) - (L[k].data.length : Int) + (d.length : Int)) : Puts L m b k { L[k] with data := d } := by
 refine ⟨hF,hk,rfl,rfl,rfl,rfl,?_,by show (Aax L : Int) + d.length ≤ b + L[k].data.length; omega⟩
 have ha := (hF.ins k hk).1
 unfold Abo at ha ⊢
 rw [h1] at ha
 show (if L[k].kind = 0 then _ else if L[k].mode < 0 ∨ 7 < L[k].mode then false else if L[k].kind = 1 then decide (L[k].kids.length = 0) && (L[k].up == 0) else _) = true
 rw [h1]
 simpa using ha
theorem Amq (hF : FitP L m b) {k : Nat} (hk : k < L.length) (h1 : L[k].kind = 1) {d : List UInt8} {L' : List Ino} {e : Int} (hz : Aft L b k d = (L',e)) :
  (e = 0 → L' = Agm L k d ∧ FitP L' m b) ∧ (e ≠ 0 → L' = L ∧ e = 28) := by
 unfold Aft at hz
 rw [Aad L k hk] at hz
 split at hz
 ·obtain ⟨rfl,rfl⟩ := Prod.mk.inj hz
  exact ⟨fun h => absurd h (by decide),fun _ => ⟨rfl,rfl⟩⟩
 ·rename_i h
  obtain ⟨rfl,rfl⟩ := Prod.mk.inj hz
  refine ⟨fun _ => ⟨rfl,?_⟩,fun h => absurd rfl h⟩
  unfold Agm
  rw [Aad L k hk]
  exact (Atk hF hk h1 h).fits
theorem Av1 (hF : FitP L m b) {k off : Int} {s : List UInt8} {L' : List Ino} {e : Int} (hz : Aes L b k off s = (L',e)) :
  (e = 0 → (s = [] ∧ L' = L) ∨ ∃ n o : Nat,∃ hn : n < L.length,k = (n : Int) ∧ off = (o : Int) ∧ L[n].kind = 1 ∧ o + s.length ≤ 65536 ∧ L' = Agm L n (Akx L[n].data o s) ∧ FitP L' m b) ∧ (e ≠ 0 → L' = L) := by
 unfold Aes at hz
 by_cases h0 : Adm L k = 0
 ·rw [if_neg (by simpa using h0)] at hz
  obtain ⟨n,hn,rfl,h1⟩ := Ajl h0
  split at hz
  ·obtain ⟨rfl,rfl⟩ := Prod.mk.inj hz
   exact ⟨fun h => absurd h (by decide),fun _ => rfl⟩
  rename_i h2
  split at hz
  ·rename_i h3
   obtain ⟨rfl,rfl⟩ := Prod.mk.inj hz
   exact ⟨fun _ => .inl ⟨h3,rfl⟩,fun h => absurd rfl h⟩
  split at hz
  ·obtain ⟨rfl,rfl⟩ := Prod.mk.inj hz
   exact ⟨fun h => absurd h (by decide),fun _ => rfl⟩
  rename_i h4
  rw [Int.toNat_natCast,Aad L n hn] at hz
  obtain ⟨p1,p2⟩ := Amq hF hn h1 hz
  refine ⟨fun h => .inr ⟨n,off.toNat,hn,rfl,by omega,h1,by omega,(p1 h).1,(p1 h).2⟩,fun h => (p2 h).1⟩
 ·rw [if_pos h0] at hz
  obtain ⟨rfl,rfl⟩ := Prod.mk.inj hz
  exact ⟨fun h => absurd h h0,fun _ => rfl⟩
theorem Bam (hF : FitP L m b) {k z : Int} {L' : List Ino} {e : Int} (hz : cutW L b k z = (L',e)) :
  (e = 0 → ∃ n o : Nat,∃ hn : n < L.length,k = (n : Int) ∧ z = (o : Int) ∧ L[n].kind = 1 ∧ o ≤ 65536 ∧ L' = Agm L n (cutL L[n].data o) ∧ FitP L' m b) ∧ (e ≠ 0 → L' = L) := by
 unfold cutW at hz
 by_cases h0 : Adm L k = 0
 ·rw [if_neg (by simpa using h0)] at hz
  obtain ⟨n,hn,rfl,h1⟩ := Ajl h0
  split at hz
  ·obtain ⟨rfl,rfl⟩ := Prod.mk.inj hz
   exact ⟨fun h => absurd h (by decide),fun _ => rfl⟩
  rename_i h2
  split at hz
  ·obtain ⟨rfl,rfl⟩ := Prod.mk.inj hz
   exact ⟨fun h => absurd h (by decide),fun _ => rfl⟩
  rename_i h3
  rw [Int.toNat_natCast,Aad L n hn] at hz
  obtain ⟨p1,p2⟩ := Amq hF hn h1 hz
  exact ⟨fun h => ⟨n,z.toNat,hn,rfl,by omega,h1,by omega,(p1 h).1,(p1 h).2⟩,fun h => (p2 h).1⟩
 ·rw [if_pos h0] at hz
  obtain ⟨rfl,rfl⟩ := Prod.mk.inj hz
  exact ⟨fun h => absurd h h0,fun _ => rfl⟩
theorem Au3 {k : Nat} (hk : k < L.length) (d : List UInt8) : Aaf (Agm L k d) (k : Int) = { L[k] with data := d } := by
 rw [Aad _ k (by rw [Agg]; exact hk)]
 simp only [Agm,List.getElem_set_self,Aad L k hk]
end
end Go.Proofs.YtkdfbliiblojoaaGreatDoor
