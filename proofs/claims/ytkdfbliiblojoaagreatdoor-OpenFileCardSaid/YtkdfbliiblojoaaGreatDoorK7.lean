import Derived.Test.YtkdfbliiblojoaaGreatDoorK6
import Derived.Lib.MinMax
import Derived.Laws.IdiomStrings
set_option linter.all false
set_option maxRecDepth 100000
set_option maxHeartbeats 64000000
namespace Go.Proofs.YtkdfbliiblojoaaGreatDoor
open Go Go.RowKit
theorem Aug (s : ByteArray) (h : 0 < s.size) : s.data.toList.getLast? = some (s[s.size - 1]'(by omega)) := by
 rw [List.getLast?_eq_getElem?,Aas,List.getElem?_eq_getElem (by rw [Aas]; omega)]
 rfl
theorem Bab (s : ByteArray) : ((s.extract 0 1).toList == [47]) = Ac3 s.data.toList := by
 rw [ByteArray.toList_eq,Aez]
 cases h : s.data.toList with
 | nil => rfl
 | cons c r =>
  simp only [Ac3,List.take_succ_cons,List.take_zero,List.drop_zero]
  by_cases hc : c = 47 <;> simp [hc]
def endL (l : List UInt8) : Bool := l.getLast? == some 47
theorem Azo (s : ByteArray) : ((s.extract (s.size - 1) s.size).toList == [47]) = endL s.data.toList := by
 rw [ByteArray.toList_eq,Aez,← Aas,List.take_length]
 unfold endL
 by_cases h : s.data.toList = []
 ·rw [h]
  rfl
 ·obtain ⟨L,x,hx⟩ : ∃ L x,s.data.toList = L ++ [x] := ⟨s.data.toList.dropLast,s.data.toList.getLast h,(List.dropLast_concat_getLast h).symm⟩
  rw [hx]
  simp only [List.length_append,List.length_cons,List.length_nil,Nat.zero_add,Nat.add_sub_cancel,List.drop_left,List.getLast?_concat]
  by_cases hc : x = 47 <;> simp [hc]
theorem Av7 (s : ByteArray) (h : ¬ 1 ≤ s.size) : Ac3 s.data.toList = false := by
 have h0 : s.data.toList.length = 0 := by rw [Aas]; omega
 rw [List.length_eq_zero_iff.1 h0]
 rfl
theorem Awq (s : ByteArray) (h : ¬ 1 ≤ s.size) : endL s.data.toList = false := by
 have h0 : s.data.toList.length = 0 := by rw [Aas]; omega
 rw [List.length_eq_zero_iff.1 h0]
 rfl
theorem An2 (s : ByteArray) (w : World) : Calls Tryz.prog 190 #[.string s,.string ⟨#[47]⟩] w fun e w' => e = .returned (.bool (Ac3 s.data.toList)) ∧ w = w' := by
 by_cases h : 1 ≤ s.size
 ·rw [← Bab]
  go_enter Tryz.func190,Tryz.ntmps190
  go_wp2_with fail
  go_ret
  exact ⟨rfl,rfl⟩
 ·rw [Av7 s h]
  obtain h0 : s.size = 0 := by omega
  go_enter Tryz.func190,Tryz.ntmps190
  go_wp2_with fail
  go_ret
  exact ⟨rfl,rfl⟩
theorem Anz (s : ByteArray) (hs : s.size ≤ 1073741824) (w : World) : Calls Tryz.prog 174 #[.string s,.string ⟨#[47]⟩] w fun e w' => e = .returned (.bool (endL s.data.toList)) ∧ w = w' := by
 by_cases h : 1 ≤ s.size
 ·rw [← Azo]
  go_enter Tryz.func174,Tryz.ntmps174
  go_wp2_with fail
  go_ret
  exact ⟨rfl,rfl⟩
 ·rw [Awq s h]
  obtain h0 : s.size = 0 := by omega
  go_enter Tryz.func174,Tryz.ntmps174
  go_wp2_with fail
  go_ret
  exact ⟨rfl,rfl⟩
theorem Ab4 (s : ByteArray) (hs : s.size ≤ 1073741824) (b : Bool) (h : endL s.data.toList = b) (w : World) : Calls Tryz.prog 152 #[.string s,.string ⟨#[47]⟩] w fun e w' => e = .returned (.bool b) ∧ w = w' := by
 subst h
 go_enter Tryz.func152,Tryz.ntmps152
 go_wp2_with (go_at_call 174; refine (Anz _ hs _).mono ?_; rintro e w' ⟨rfl,rfl⟩)
 go_ret
 exact ⟨rfl,rfl⟩

theorem Awd {L : List Ino} {k : Nat} (hk : k < L.length) (d : List UInt8) (h : k < (Agm L k d).length) : (Agm L k d)[k] = { L[k] with data := d } := by
 have h1 := Au3 hk d
 rw [Aad _ k h] at h1
 exact h1
theorem bC {W : World} {k : Nat} {cs : Array Value} {t : TypeId} (h : W.heap[k]? = some (.cells cs t (0,0))) (j : Nat) : W.cell? ⟨k,j,none⟩ = cs[j]? := cell_of_row W k j cs t (0,0) h
theorem bF {W : World} {k : Nat} {cs : Array Value} {t : TypeId} (h : W.heap[k]? = some (.cells cs t (0,0))) (j : Nat) : W.frozen? ⟨k,j,none⟩ = false := by simp [World.frozen?,h]
theorem Aa0 {W : World} {k : Nat} {cs : Array Value} {t : TypeId} (h : W.heap[k]? = some (.cells cs t (0,0))) (j : Nat) (u : Value) : (W.setCell ⟨k,j,none⟩ u).heap[k]? = some (.cells (cs.setIfInBounds j u) t (0,0)) := by
 have hlt := lt_of_block h
 have h' : W.heap[k] = .cells cs t (0,0) := by simpa [Array.getElem?_eq_getElem hlt] using h
 show (W.heap.modify k _)[k]? = _
 rw [Array.getElem?_eq_getElem (by simpa using hlt),Array.getElem_modify_self,h']
 rfl
def put3 (W : World) (k : Nat) (x y z : Value) : World := ((W.setCell ⟨k,0,none⟩ x).setCell ⟨k,1,none⟩ y).setCell ⟨k,2,none⟩ z
theorem Ae4 {W : World} {k : Nat} {a b c : Value} {t : TypeId} (h : W.heap[k]? = some (.cells #[a,b,c] t (0,0))) (x y z : Value) : (put3 W k x y z).heap[k]? = some (.cells #[x,y,z] t (0,0)) := Aa0 (Aa0 (Aa0 h 0 x) 1 y) 2 z
theorem Aau {W : World} {k : Nat} {a b c : Value} {t : TypeId} (h : W.heap[k]? = some (.cells #[a,b,c] t (0,0))) (x y z : Value) : (put3 W k x y z).cell? ⟨k,0,none⟩ = some x ∧ (put3 W k x y z).cell? ⟨k,1,none⟩ = some y ∧ (put3 W k x y z).cell? ⟨k,2,none⟩ = some z :=
 ⟨bC (Ae4 h x y z) 0,bC (Ae4 h x y z) 1,bC (Ae4 h x y z) 2⟩
theorem Abq {W : World} {k j : Nat} (h : j ≠ k) (x y z : Value) : (put3 W k x y z).heap[j]? = W.heap[j]? :=
 (Below.heap_setCell _ _ _ _ h).trans ((Below.heap_setCell _ _ _ _ h).trans (Below.heap_setCell _ _ _ _ h))
theorem Aa8 {B : Nat} {w W : World} {k : Nat} (h : Below B w W) (hk : B ≤ k) (x y z : Value) : Below B w (put3 W k x y z) := ((h.setCell hk _).setCell hk _).setCell hk _
theorem Aam (w : World) (A B : Array Value) (s t : TypeId) : ∃ w2,w2 = (w.alloc (.cells A s)).alloc (.cells B t) ∧ Below w.heap.size w w2 ∧ w2.heap.size = w.heap.size + 2 ∧ w2.heap[w.heap.size]? = some (.cells A s (0,0)) ∧ w2.heap[w.heap.size + 1]? = some (.cells B t (0,0)) := by
 refine ⟨_,rfl,(Aab w _).alloc (by simp) _,by simp,?_,?_⟩
 ·rw [Below.heap_alloc _ _ _ (by simp)]; exact Aae _ _
 ·have := Aae (w.alloc (.cells A s)) (.cells B t)
  rw [World.size_alloc] at this
  exact this
structure Pip where
 data : List UInt8
 rd : Int
 wr : Int
 cap : Int
def Abw (p : Pip) : Bool := decide (0 ≤ p.rd) && decide (p.rd ≤ 1000) && decide (0 ≤ p.wr) && decide (p.wr ≤ 1000) && decide (1 ≤ p.cap) && decide (p.cap ≤ 65536) && decide ((p.data.length : Int) ≤ p.cap)
def Aao (size : Int) : Pip × Int := if size < 1 ∨ 65536 < size then (⟨[],0,0,0⟩,22) else (⟨[],1,1,size⟩,0)
def Aca (p : Pip) (n : Int) : Pip × List UInt8 × Int :=
 if n < 1 then (p,[],22) else if p.data = [] then (if p.wr = 0 then (p,[],0) else (p,[],11)) else ({ p with data := p.data.drop n.toNat },p.data.take n.toNat,0)
def Abu (p : Pip) (s : List UInt8) : Pip × Int × Int :=
 if p.rd = 0 then (p,0,32) else if s = [] then (p,0,0) else if p.cap - (p.data.length : Int) = 0 then (p,0,11) else
 ({ p with data := p.data ++ s.take (p.cap - (p.data.length : Int)).toNat },min (p.cap - (p.data.length : Int)) (s.length : Int),0)
def Aa1 (p : Pip) (reads : Bool) : Pip := if reads = true then (if 0 < p.rd then { p with rd := p.rd - 1 } else p) else (if 0 < p.wr then { p with wr := p.wr - 1 } else p)
theorem Adu {p : Pip} : Abw p = true ↔ 0 ≤ p.rd ∧ p.rd ≤ 1000 ∧ 0 ≤ p.wr ∧ p.wr ≤ 1000 ∧ 1 ≤ p.cap ∧ p.cap ≤ 65536 ∧ (p.data.length : Int) ≤ p.cap := by
 simp [Abw,and_assoc]
theorem Ap2 {size : Int} (h : (Aao size).2 = 0) : Abw (Aao size).1 = true ∧ (Aao size).1.cap = size ∧ (Aao size).1.data = [] := by
 unfold Aao at h ⊢
 split at h
 ·exact absurd h (by decide)
 ·rename_i hs
  rw [if_neg hs]
  refine ⟨Adu.2 ?_,rfl,rfl⟩
  show (0 : Int) ≤ 1 ∧ (1 : Int) ≤ 1000 ∧ (0 : Int) ≤ 1 ∧ (1 : Int) ≤ 1000 ∧ 1 ≤ size ∧ size ≤ 65536 ∧ ((0 : Nat) : Int) ≤ size
  omega
theorem At0 {p : Pip} (hF : Abw p = true) (s : List UInt8) {q : Pip} {k e : Int} (hz : Abu p s = (q,k,e)) :
  Abw q = true ∧ q.cap = p.cap ∧ (e = 0 → 0 ≤ k ∧ k ≤ (s.length : Int) ∧ q.data = p.data ++ s.take k.toNat) ∧ (e ≠ 0 → q = p) ∧ (e = 0 ∨ e = 11 ∨ e = 32) := by
 have hf := Adu.1 hF
 unfold Abu at hz
 split at hz
 ·simp only [Prod.mk.injEq] at hz
  obtain ⟨rfl,rfl,rfl⟩ := hz
  exact ⟨hF,rfl,fun h => absurd h (by decide),fun _ => rfl,.inr (.inr rfl)⟩
 split at hz
 ·simp only [Prod.mk.injEq] at hz
  obtain ⟨rfl,rfl,rfl⟩ := hz
  exact ⟨hF,rfl,fun _ => ⟨Int.le_refl _,by omega,by simp⟩,fun h => absurd rfl h,.inl rfl⟩
 split at hz
 ·simp only [Prod.mk.injEq] at hz
  obtain ⟨rfl,rfl,rfl⟩ := hz
  exact ⟨hF,rfl,fun h => absurd h (by decide),fun _ => rfl,.inr (.inl rfl)⟩
 ·simp only [Prod.mk.injEq] at hz
  obtain ⟨rfl,rfl,rfl⟩ := hz
  refine ⟨Adu.2 ⟨hf.1,hf.2.1,hf.2.2.1,hf.2.2.2.1,hf.2.2.2.2.1,hf.2.2.2.2.2.1,?_⟩,rfl,fun _ => ⟨by omega,by omega,?_⟩,fun h => absurd rfl h,.inl rfl⟩
  ·show ((p.data ++ s.take (p.cap - (p.data.length : Int)).toNat).length : Int) ≤ p.cap
   rw [List.length_append,List.length_take]
   omega
  ·show p.data ++ s.take (p.cap - (p.data.length : Int)).toNat = p.data ++ s.take (min (p.cap - (p.data.length : Int)) (s.length : Int)).toNat
   congr 1
   rw [List.take_eq_take_iff]
   omega
theorem Av8 {p : Pip} (hF : Abw p = true) {n : Int} {q : Pip} {t : List UInt8} {e : Int} (hz : Aca p n = (q,t,e)) :
  Abw q = true ∧ q.cap = p.cap ∧ t ++ q.data = p.data ∧ (e ≠ 0 → q = p ∧ t = []) ∧ (1 ≤ n → e = 0 ∨ e = 11) := by
 have hf := Adu.1 hF
 unfold Aca at hz
 split at hz
 ·rename_i h
  simp only [Prod.mk.injEq] at hz
  obtain ⟨rfl,rfl,rfl⟩ := hz
  exact ⟨hF,rfl,rfl,fun _ => ⟨rfl,rfl⟩,fun h2 => by omega⟩
 split at hz
 ·split at hz
  ·simp only [Prod.mk.injEq] at hz
   obtain ⟨rfl,rfl,rfl⟩ := hz
   exact ⟨hF,rfl,rfl,fun _ => ⟨rfl,rfl⟩,fun _ => .inl rfl⟩
  ·simp only [Prod.mk.injEq] at hz
   obtain ⟨rfl,rfl,rfl⟩ := hz
   exact ⟨hF,rfl,rfl,fun _ => ⟨rfl,rfl⟩,fun _ => .inr rfl⟩
 ·simp only [Prod.mk.injEq] at hz
  obtain ⟨rfl,rfl,rfl⟩ := hz
  refine ⟨Adu.2 ⟨hf.1,hf.2.1,hf.2.2.1,hf.2.2.2.1,hf.2.2.2.2.1,hf.2.2.2.2.2.1,?_⟩,rfl,List.take_append_drop ..,fun h => absurd rfl h,fun _ => .inl rfl⟩
  show ((p.data.drop n.toNat).length : Int) ≤ p.cap
  rw [List.length_drop]
  omega
theorem Ao8 (l : List UInt8) (n : Nat) : l.take (min n l.length) = l.take n := by
 rw [List.take_eq_take_iff]
 omega
theorem Aor (l : List UInt8) (n : Nat) : l.drop (min n l.length) = l.drop n := by
 by_cases h : n ≤ l.length
 ·rw [Nat.min_eq_left h]
 ·rw [Nat.min_eq_right (by omega),List.drop_of_length_le (Nat.le_refl _),List.drop_of_length_le (by omega)]
theorem Apv (s : ByteArray) (f k : Nat) (d : List UInt8) (h : (s.data.toList.take k).drop f = d) : s.extract f k = ⟨d.toArray⟩ := by
 apply ByteArray.ext
 apply Array.ext'
 rw [Aez,h]
theorem Ap5 (s : ByteArray) (z : Int) (n : Nat) (hz : z = (n : Int)) (hn : n ≤ s.size) (W : World) : (Instr.slice 9 (.string s) (some (.int .i64 z)) none none).run Tryz.prog W = .ok (.string ⟨(s.data.toList.drop n).toArray⟩) W := by
 subst hz
 have h := run_slice_string_l (P := Tryz.prog) W 9 s Tryz.underlying9 .i64 (n : Int) (by omega) (by omega)
 rw [Int.toNat_natCast,Apv s n s.size (s.data.toList.drop n) (by rw [List.take_of_length_le (by rw [Array.length_toList]; exact Nat.le_refl _)])] at h
 exact h
theorem Akq (s : ByteArray) (z : Int) (n : Nat) (hz : z = (n : Int)) (hn : n ≤ s.size) (W : World) : (Instr.slice 9 (.string s) none (some (.int .i64 z)) none).run Tryz.prog W = .ok (.string ⟨(s.data.toList.take n).toArray⟩) W := by
 subst hz
 have h := run_slice_string_h (P := Tryz.prog) W 9 s Tryz.underlying9 .i64 (n : Int) (by omega) (by omega)
 rw [Int.toNat_natCast,Apv s 0 n (s.data.toList.take n) (by rw [List.drop_zero])] at h
 exact h
theorem Ap0 {s : ByteArray} (h : s.data.toList = []) : s = ⟨#[]⟩ := by
 cases s with
 | mk d => simp at h; rw [h]
def Adc (L : List Ino) (k : Int) : Bool := Aa4 L k && (Aaf L k).kind != 0
def Aet (L : List Ino) (k : Int) : Int := if Aa4 L k then (Aaf L k).kind else 0
def Aqg (m what : Int) : Bool := (what / 4 == 0 || m / 4 == 1) && (what / 2 % 2 == 0 || m / 2 % 2 == 1) && (what % 2 == 0 || m % 2 == 1)
def mayL (L : List Ino) (k what : Int) : Bool := decide (0 ≤ what) && decide (what ≤ 7) && Adc L k && Aqg (Aaf L k).mode what
def Ack (L : List Ino) (a : Int) (x : List UInt8) : Int × Int :=
 if dirB L a = false then (0,20) else if mayL L a 1 = false then (0,13) else if x = [46] then (a,0) else if x = [46,46] then ((Aaf L a).up,0)
 else if kidL L a x < 0 then (0,2) else (kidL L a x,0)
def Agl (L : List Ino) (last : Bool) (f : List (List UInt8) → Int → Int × Int) : List (List UInt8) → Int → Int × Int
 | [],a => (a,0)
 | x :: r,a => if (Ack L a x).2 ≠ 0 then (0,(Ack L a x).2) else
  if (Aaf L (Ack L a x).1).kind ≠ 3 ∨ (r = [] ∧ last = false) then Agl L last f r (Ack L a x).1
  else f (Aan (Aaf L (Ack L a x).1).data ++ r) (if Ac3 (Aaf L (Ack L a x).1).data then 0 else a)
def wayW (L : List Ino) (last : Bool) : Nat → List (List UInt8) → Int → Int × Int
 | 0 => Agl L last (fun _ _ => (0,40))
 | n + 1 => Agl L last (wayW L last n)
theorem Apw (L : List Ino) (last : Bool) (n : Nat) (a : Int) : wayW L last n [] a = (a,0) := by cases n <;> rfl
theorem Aos (L : List Ino) (last : Bool) (n : Nat) (x : List UInt8) (r : List (List UInt8)) (a : Int) (h : (Ack L a x).2 ≠ 0) : wayW L last n (x :: r) a = (0,(Ack L a x).2) := by
 cases n <;> (unfold wayW Agl; rw [if_pos h])
theorem Ako (L : List Ino) (last : Bool) (n : Nat) (x : List UInt8) (r : List (List UInt8)) (a k : Int) (h : Ack L a x = (k,0)) (h2 : (Aaf L k).kind ≠ 3 ∨ (r = [] ∧ last = false)) : wayW L last n (x :: r) a = wayW L last n r k := by
 cases n with
 | zero => show Agl L last _ (x :: r) a = _; rw [Agl,h]; simp only [ne_eq,not_true,if_false]; rw [if_pos h2]; rfl
 | succ n => show Agl L last _ (x :: r) a = _; rw [Agl,h]; simp only [ne_eq,not_true,if_false]; rw [if_pos h2]; rfl
theorem Amp (L : List Ino) (last : Bool) (x : List UInt8) (r : List (List UInt8)) (a k : Int) (h : Ack L a x = (k,0)) (h2 : ¬ ((Aaf L k).kind ≠ 3 ∨ (r = [] ∧ last = false))) : wayW L last 0 (x :: r) a = (0,40) := by
 show Agl L last _ (x :: r) a = _
 rw [Agl,h]; simp only [ne_eq,not_true,if_false]; rw [if_neg h2]
theorem Amx (L : List Ino) (last : Bool) (n : Nat) (x : List UInt8) (r : List (List UInt8)) (a k : Int) (h : Ack L a x = (k,0)) (h2 : ¬ ((Aaf L k).kind ≠ 3 ∨ (r = [] ∧ last = false))) :
  wayW L last (n + 1) (x :: r) a = wayW L last n (Aan (Aaf L k).data ++ r) (if Ac3 (Aaf L k).data then 0 else a) := by
 show Agl L last _ (x :: r) a = _
 rw [Agl,h]; simp only [ne_eq,not_true,if_false]; rw [if_neg h2]
def Ahl (p : List UInt8) : Bool := decide (1024 < p.length) || (Aan p).any fun x => decide (64 < x.length)
def badW (L : List Ino) (cwd : Int) (p : List UInt8) : Int := if p = [] ∨ dirB L cwd = false then 2 else if Ahl p then 36 else 0
def Adn (cwd : Int) (p : List UInt8) : Int := if Ac3 p then 0 else cwd
def Acv (L : List Ino) (cwd : Int) (p : List UInt8) (follow : Bool) : Int × Int :=
 if badW L cwd p ≠ 0 then (0,badW L cwd p) else
  if (wayW L (follow || endL p) 8 (Aan p) (Adn cwd p)).2 ≠ 0 then (0,(wayW L (follow || endL p) 8 (Aan p) (Adn cwd p)).2) else
   if endL p = true ∧ dirB L (wayW L (follow || endL p) 8 (Aan p) (Adn cwd p)).1 = false then (0,20) else ((wayW L (follow || endL p) 8 (Aan p) (Adn cwd p)).1,0)
def Abk (L : List Ino) (cwd : Int) (p : List UInt8) : Int × List UInt8 × Int :=
 if badW L cwd p ≠ 0 then (0,[],badW L cwd p) else if Aan p = [] then (0,[],17) else
  if (wayW L true 8 (Aan p).dropLast (Adn cwd p)).2 ≠ 0 then (0,[],(wayW L true 8 (Aan p).dropLast (Adn cwd p)).2) else
   if dirB L (wayW L true 8 (Aan p).dropLast (Adn cwd p)).1 = false then (0,[],20) else ((wayW L true 8 (Aan p).dropLast (Adn cwd p)).1,(Aan p).getLastD [],0)
theorem Aci (l : List UInt8) : (Aan l).length ≤ l.length + 1 := by
 have h : ∀ L : List (List UInt8),L.length ≤ Ald L := by
  intro L
  induction L with
  | nil => simp [Ald]
  | cons x r ih => simp only [List.length_cons,Ald]; omega
 exact Nat.le_trans (h _) (Am6 l)
theorem Ady {L : List Ino} {k : Int} (h : dirB L k = true) : Adc L k = true := by
 have h2 := Ab3 h
 unfold dirB at h
 unfold Adc
 rw [Bool.and_eq_true] at h ⊢
 exact ⟨h.1,by rw [h2]; rfl⟩
theorem Adv {L : List Ino} {k : Int} (h : Adc L k = true) : Aa4 L k = true := by
 unfold Adc at h
 rw [Bool.and_eq_true] at h
 exact h.1
theorem Ax3 {L : List Ino} {m b : Int} (hF : FitP L m b) {k : Int} (h : dirB L k = true) : dirB L (Aaf L k).up = true := Axv hF 1 k h
theorem Apk {L : List Ino} {m b : Int} (hF : FitP L m b) {d : Int} {x : List UInt8} (h : 0 ≤ kidL L d x) : Adc L (kidL L d x) = true := by
 unfold kidL at h ⊢
 by_cases hd : dirB L d = true
 ·rw [if_pos hd] at h ⊢
  obtain ⟨z,rfl,hz⟩ := Ae7 hd
  rw [Aad L z hz] at h ⊢
  obtain ⟨e,he,hex⟩ := Amr _ _ h
  obtain ⟨i,hi,rfl⟩ := List.getElem_of_mem he
  have hk := Al0 (Adk hF.ins z hz).2 i hi
  rw [← hex,hk] at h ⊢
  have ht := (Ak9 hF.ins hz he).2
  obtain ⟨u,hu,hul⟩ := Aa7 ht
  unfold Adc
  rw [ht,Bool.true_and]
  rw [hu,Aad L u hul]
  cases hk0 : (L[u].kind != 0) with
  | true => rfl
  | false =>
   exfalso
   have hk0' : L[u].kind = 0 := by simpa [bne] using hk0
   have h1 := (hF.names.2 u hul).2
   rw [Acq L (Ad3 (Acn hF.ins)) u hul] at h1
   unfold Ad9 at h1
   rw [if_pos (Or.inr hk0')] at h1
   have h2 := Ajd (Aek.2 ⟨z,hz,he⟩)
   rw [hu] at h2
   have h3 : Aav (Abh L) (u : Int) = 0 := Int.ofNat.inj h1
   omega
 ·rw [if_neg hd] at h
  exact absurd h (by decide)
theorem Anq {L : List Ino} {m b : Int} (hF : FitP L m b) {a : Int} {x : List UInt8} (h : (Ack L a x).2 = 0) : Adc L (Ack L a x).1 = true := by
 unfold Ack at h ⊢
 cases hd : dirB L a with
 | false => rw [hd,if_pos rfl] at h; cases h
 | true =>
  rw [hd,if_neg (by simp)] at h
  rw [if_neg (by simp)]
  cases hm : mayL L a 1 with
  | false => rw [hm,if_pos rfl] at h; cases h
  | true =>
   rw [hm,if_neg (by simp)] at h
   rw [if_neg (by simp)]
   by_cases h1 : x = [46]
   ·rw [if_pos h1]; exact Ady hd
   ·rw [if_neg h1] at h ⊢
    by_cases h2 : x = [46,46]
    ·rw [if_pos h2]; exact Ady (Ax3 hF hd)
    ·rw [if_neg h2] at h ⊢
     by_cases h3 : kidL L a x < 0
     ·rw [if_pos h3] at h; cases h
     ·rw [if_neg h3]
      exact Apk hF (by omega)
theorem Als {L : List Ino} (hI : Aea L) {k : Int} (ht : Aa4 L k = true) : (Aaf L k).kind = 3 → (Aaf L k).data.length ≤ 1024 ∧ (Aaf L k).data ≠ [] := by
 obtain ⟨u,rfl,hu⟩ := Aa7 ht
 rw [Aad L u hu]
 intro h3
 have h := (hI u hu).1
 unfold Abo at h
 rw [if_neg (show ¬ L[u].kind = 0 by omega)] at h
 split at h
 ·cases h
 ·rename_i hm
  rw [if_neg (show ¬ L[u].kind = 1 by omega)] at h
  try rw [if_pos h3] at h
  simp only [Bool.and_eq_true,decide_eq_true_eq,Bool.not_eq_true'] at h
  exact ⟨h.2,by
   have := h.1.2
   intro e
   rw [e] at this
   cases this⟩
theorem Ajy {L : List Ino} (hI : Aea L) {k : Int} (ht : Aa4 L k = true) : 0 ≤ (Aaf L k).mode ∧ (Aaf L k).mode ≤ 7 := by
 obtain ⟨u,rfl,hu⟩ := Aa7 ht
 rw [Aad L u hu]
 have h := (hI u hu).1
 unfold Abo at h
 by_cases h0 : L[u].kind = 0
 ·rw [if_pos h0] at h
  simp only [Bool.and_eq_true,decide_eq_true_eq] at h
  have := h.1.1.1.1
  omega
 ·rw [if_neg h0] at h
  split at h
  ·cases h
  ·omega
theorem Au5 {L : List Ino} {m b : Int} (hF : FitP L m b) (last : Bool) (f : List (List UInt8) → Int → Int × Int) (hf : ∀ N a,Adc L a = true → (f N a).2 = 0 → Adc L (f N a).1 = true ∧ (last = true → (N = [] → (Aaf L a).kind ≠ 3) → (Aaf L (f N a).1).kind ≠ 3)) :
  ∀ (N : List (List UInt8)) (a : Int),Adc L a = true → (Agl L last f N a).2 = 0 → Adc L (Agl L last f N a).1 = true ∧ (last = true → (N = [] → (Aaf L a).kind ≠ 3) → (Aaf L (Agl L last f N a).1).kind ≠ 3)
 | [],a,ha,_ => ⟨ha,fun _ h => h rfl⟩
 | x :: r,a,ha,h => by
  unfold Agl at h ⊢
  by_cases h1 : (Ack L a x).2 ≠ 0
  ·rw [if_pos h1] at h; exact absurd h h1
  ·rw [if_neg h1] at h ⊢
   have hk := Anq hF (by simpa using h1)
   by_cases h2 : (Aaf L (Ack L a x).1).kind ≠ 3 ∨ (r = [] ∧ last = false)
   ·rw [if_pos h2] at h ⊢
    obtain ⟨i1,i2⟩ := Au5 hF last f hf r _ hk h
    refine ⟨i1,fun hl _ => i2 hl fun hr => ?_⟩
    rcases h2 with h2 | ⟨_,h2⟩
    ·exact h2
    ·rw [hl] at h2; cases h2
   ·rw [if_neg h2] at h ⊢
    have hd : dirB L a = true := by
     cases hd : dirB L a with
     | true => rfl
     | false =>
      exfalso
      apply h1
      unfold Ack
      rw [hd,if_pos rfl]
      decide
    have hb : Adc L (if Ac3 (Aaf L (Ack L a x).1).data then 0 else a) = true := by
     split
     ·exact Ady hF.root
     ·exact ha
    obtain ⟨i1,i2⟩ := hf _ _ hb h
    refine ⟨i1,fun hl _ => i2 hl fun _ => ?_⟩
    split
    ·rw [Ab3 hF.root]; decide
    ·rw [Ab3 hd]; decide
theorem Apq {L : List Ino} {m b : Int} (hF : FitP L m b) (last : Bool) : ∀ (n : Nat) (N : List (List UInt8)) (a : Int),Adc L a = true → (wayW L last n N a).2 = 0 → Adc L (wayW L last n N a).1 = true ∧ (last = true → (N = [] → (Aaf L a).kind ≠ 3) → (Aaf L (wayW L last n N a).1).kind ≠ 3)
 | 0,N,a,ha,h => Au5 hF last _ (fun _ _ _ h => absurd h (by decide)) N a ha h
 | n + 1,N,a,ha,h => Au5 hF last _ (fun N' a' h1 h2 => Apq hF last n N' a' h1 h2) N a ha h
theorem Ark {L : List Ino} {m b : Int} (hF : FitP L m b) {cwd : Int} {p : List UInt8} (h : badW L cwd p = 0) : dirB L (Adn cwd p) = true := by
 unfold badW at h
 split at h
 ·cases h
 ·rename_i h1
  unfold Adn
  split
  ·exact hF.root
  ·cases hd : dirB L cwd with
   | true => rfl
   | false => exact absurd (Or.inr hd) h1
theorem Alt {L : List Ino} {m b : Int} (hF : FitP L m b) (cwd : Int) (p : List UInt8) : ((Acv L cwd p true).2 ≠ 0 → (Acv L cwd p true).1 = 0) ∧ ((Acv L cwd p true).2 = 0 → Adc L (Acv L cwd p true).1 = true ∧ (Aaf L (Acv L cwd p true).1).kind ≠ 3) := by
 unfold Acv
 by_cases h1 : badW L cwd p ≠ 0
 ·rw [if_pos h1]
  exact ⟨fun _ => rfl,fun h => absurd h h1⟩
 ·rw [if_neg h1]
  have hb := Ark hF (by simpa using h1)
  split
  ·rename_i h2
   exact ⟨fun _ => rfl,fun h => absurd h h2⟩
  ·rename_i h2
   obtain ⟨i1,i2⟩ := Apq hF (true || endL p) 8 (Aan p) (Adn cwd p) (Ady hb) (by simpa using h2)
   split
   ·exact ⟨fun _ => rfl,fun h => absurd h (by decide)⟩
   ·exact ⟨fun h => absurd rfl h,fun _ => ⟨i1,i2 (by simp) (fun _ => by rw [Ab3 hb]; decide)⟩⟩
structure Opn where
 kind : Int
 at_ : Int
 off : Int
 flags : Int
 refs : Int
def Aap : Opn := ⟨0,0,0,0,0⟩
def Ab9 : Pip := ⟨[],0,0,0⟩
structure Krn where
 tree : List Ino
 m : Int
 b : Int
 pipes : List Pip
 opens : List Opn
 out0 : List UInt8
 out1 : List UInt8
def Abb (L : List Ino) (np : Nat) (o : Opn) : Prop :=
 o = Aap ∨ (1 ≤ o.refs ∧ o.refs ≤ 1000 ∧ 0 ≤ o.off ∧ o.off ≤ 65536 ∧
  ((o.kind = 1 ∧ (o.flags = 1 ∨ o.flags = 2 ∨ o.flags = 3 ∨ o.flags = 6 ∨ o.flags = 7) ∧ ∃ n : Nat,∃ hn : n < L.length,o.at_ = (n : Int) ∧ L[n].kind = 1) ∨
   (o.kind = 2 ∧ (∃ n : Nat,n < np ∧ o.at_ = (n : Int)) ∧ o.off = 0 ∧ o.flags = 1) ∨
   (o.kind = 3 ∧ (∃ n : Nat,n < np ∧ o.at_ = (n : Int)) ∧ o.off = 0 ∧ o.flags = 2) ∨
   (o.kind = 4 ∧ (o.at_ = 0 ∨ o.at_ = 1) ∧ o.off = 0 ∧ o.flags = 2)))
def Acd (kd : Int) (i : Nat) (o : Opn) : Bool := o.kind == kd && o.at_ == (i : Int)
def Abl (O : List Opn) (kd : Int) (i : Nat) : Nat := O.countP (Acd kd i)
structure FitE (k : Krn) (f : List Int) (er ew : Nat → Int) : Prop where
 tree : FitP k.tree k.m k.b
 np : k.pipes.length ≤ 32
 no : k.opens.length ≤ 64
 o0 : k.out0.length ≤ 65536
 o1 : k.out1.length ≤ 65536
 opens : ∀ i (hi : i < k.opens.length),Abb k.tree k.pipes.length k.opens[i]
 pipes : ∀ i (hi : i < k.pipes.length),Abw k.pipes[i] = true ∧ k.pipes[i].rd = Abl k.opens 2 i + er i ∧ (k.pipes[i].wr = Abl k.opens 3 i + ew i ∨ (i = 0 ∧ k.pipes[i].wr ≤ Abl k.opens 3 i + ew i))
 len : f.length = 10
 fds : ∀ i (hi : i < f.length),f[i] = 0 ∨ ∃ j : Nat,∃ hj : j < k.opens.length,f[i] = (j : Int) + 1 ∧ k.opens[j].kind ≠ 0 ∧ (f.count f[i] : Int) ≤ k.opens[j].refs
def Afz : Nat → Int := fun _ => 0
def FitK (k : Krn) (f : List Int) : Prop := FitE k f Afz Afz
def Alc (k : Krn) (f : List Int) (j : Nat) : Prop := ∃ hj : j < k.opens.length,k.opens[j].kind ≠ 0 ∧ (f.count ((j : Int) + 1) : Int) + 1 ≤ k.opens[j].refs
theorem Agz (O : List Opn) (j : Nat) (hj : j < O.length) (o : Opn) (kd : Int) (i : Nat) : (Abl (O.set j o) kd i : Int) = Abl O kd i - (if Acd kd i O[j] = true then 1 else 0) + (if Acd kd i o = true then 1 else 0) := by
 unfold Abl
 rw [List.countP_set hj]
 by_cases h : Acd kd i O[j] = true
 ·have h1 : 0 < O.countP (Acd kd i) := List.countP_pos_iff.2 ⟨_,List.getElem_mem hj,h⟩
  rw [if_pos h,if_pos h]
  split <;> omega
 ·rw [if_neg h,if_neg h]
  split <;> omega
theorem Aiq (O : List Opn) (o : Opn) (kd : Int) (i : Nat) : (Abl (O ++ [o]) kd i : Int) = Abl O kd i + (if Acd kd i o = true then 1 else 0) := by
 unfold Abl
 rw [List.countP_append,List.countP_singleton]
 split <;> omega
theorem Ai5 (f : List Int) (i : Nat) (hi : i < f.length) (x y : Int) : ((f.set i x).count y : Int) = f.count y - (if f[i] = y then 1 else 0) + (if x = y then 1 else 0) := by
 rw [List.count_set hi]
 by_cases h : f[i] = y
 ·have h1 : 0 < f.count y := List.count_pos_iff.2 (h ▸ List.getElem_mem hi)
  rw [if_pos (by simpa using h),if_pos h]
  by_cases h2 : x = y
  ·rw [if_pos (by simpa using h2),if_pos h2]; omega
  ·rw [if_neg (by simpa using h2),if_neg h2]; omega
 ·rw [if_neg (by simpa using h),if_neg h]
  by_cases h2 : x = y
  ·rw [if_pos (by simpa using h2),if_pos h2]; omega
  ·rw [if_neg (by simpa using h2),if_neg h2]; omega
theorem Ap3 (f : List Int) (i : Nat) (hi : i < f.length) : 1 ≤ f.count f[i] := List.count_pos_iff.2 (List.getElem_mem hi)
theorem Akk (kd : Int) (h : kd ≠ 0) (i : Nat) : Acd kd i Aap = false := by
 unfold Acd Aap
 have : ((0 : Int) == kd) = false := by simpa using fun e : (0 : Int) = kd => h e.symm
 simp [this]
theorem Ahf {L : List Ino} {np : Nat} {o : Opn} (h : Abb L np o) (hk : o.kind ≠ 0) : 1 ≤ o.refs := by
 rcases h with rfl | ⟨h1,-⟩
 ·exact absurd rfl hk
 ·exact h1
theorem Alq {L : List Ino} {np : Nat} {o : Opn} (h : Abb L np o) (hk : o.kind = 0) : o = Aap := by
 rcases h with h | ⟨-,-,-,-,⟨h,-⟩ | ⟨h,-⟩ | ⟨h,-⟩ | ⟨h,-⟩⟩
 ·exact h
 all_goals omega
theorem Aml {L : List Ino} {np : Nat} {o : Opn} (h : Abb L np o) (hk : o.kind ≠ 0) {r : Int} (h1 : 1 ≤ r) (h2 : r ≤ 1000) : Abb L np { o with refs := r } := by
 rcases h with rfl | ⟨-,-,h3,h4,h5⟩
 ·exact absurd rfl hk
 ·exact .inr ⟨h1,h2,h3,h4,h5⟩
theorem Ahb {L L' : List Ino} {np np' : Nat} {o : Opn} (h : Abb L np o) (hnp : np ≤ np') (hL : ∀ n (hn : n < L.length),L[n].kind = 1 → ∃ hn' : n < L'.length,L'[n].kind = 1) : Abb L' np' o := by
 rcases h with rfl | ⟨h1,h2,h3,h4,h5⟩
 ·exact .inl rfl
 ·refine .inr ⟨h1,h2,h3,h4,?_⟩
  rcases h5 with ⟨a,b,n,hn,c,d⟩ | ⟨a,⟨n,hn,c⟩,d⟩ | ⟨a,⟨n,hn,c⟩,d⟩ | h5
  ·obtain ⟨hn',d'⟩ := hL n hn d
   exact .inl ⟨a,b,n,hn',c,d'⟩
  ·exact .inr (.inl ⟨a,⟨n,by omega,c⟩,d⟩)
  ·exact .inr (.inr (.inl ⟨a,⟨n,by omega,c⟩,d⟩))
  ·exact .inr (.inr (.inr h5))
theorem Ajh {p : Pip} (h : Abw p = true) (reads : Bool) : Abw (Aa1 p reads) = true := by
 have hf := Adu.1 h
 unfold Aa1
 cases reads
 ·rw [if_neg (by decide)]
  split
  ·exact Adu.2 ⟨hf.1,hf.2.1,by show 0 ≤ p.wr - 1; omega,by show p.wr - 1 ≤ 1000; omega,hf.2.2.2.2⟩
  ·exact h
 ·rw [if_pos rfl]
  split
  ·exact Adu.2 ⟨by show 0 ≤ p.rd - 1; omega,by show p.rd - 1 ≤ 1000; omega,hf.2.2⟩
  ·exact h
def Aa5 (k : Krn) (j : Nat) : Krn :=
 if (k.opens.getD j Aap).refs - 1 = 0 then
  { k with pipes := if (k.opens.getD j Aap).kind = 2 ∨ (k.opens.getD j Aap).kind = 3 then k.pipes.set (k.opens.getD j Aap).at_.toNat (Aa1 (k.pipes.getD (k.opens.getD j Aap).at_.toNat Ab9) ((k.opens.getD j Aap).kind == 2)) else k.pipes,opens := k.opens.set j Aap }
 else { k with opens := k.opens.set j { k.opens.getD j Aap with refs := (k.opens.getD j Aap).refs - 1 } }
def Aat (k : Krn) (f : List Int) (fd : Nat) : Krn × List Int := if f.getD fd 0 = 0 then (k,f) else (Aa5 k (f.getD fd 0 - 1).toNat,f.set fd 0)
theorem Abd {T : Type} (l : List T) (i : Nat) (h : i < l.length) (x : T) : l.getD i x = l[i] := by
 rw [List.getD_eq_getElem?_getD,List.getElem?_eq_getElem h]
 rfl
section
variable {k : Krn} {f : List Int} {er ew : Nat → Int}
theorem Ab6 (k : Krn) (j : Nat) : (Aa5 k j).opens.length = k.opens.length := by
 unfold Aa5
 split <;> exact List.length_set ..
theorem Ad5 (k : Krn) (j : Nat) : (Aa5 k j).pipes.length = k.pipes.length := by
 unfold Aa5
 split
 ·show (if _ then _ else _ : List Pip).length = _
  split
  ·exact List.length_set ..
  ·rfl
 ·rfl
theorem Ais (k : Krn) (j : Nat) : (Aa5 k j).tree = k.tree ∧ (Aa5 k j).m = k.m ∧ (Aa5 k j).b = k.b ∧ (Aa5 k j).out0 = k.out0 ∧ (Aa5 k j).out1 = k.out1 := by
 unfold Aa5
 split <;> exact ⟨rfl,rfl,rfl,rfl,rfl⟩
theorem Aco (k : Krn) (j i : Nat) (h : j ≠ i) (hi : i < k.opens.length) : (Aa5 k j).opens[i]'(by rw [Ab6]; exact hi) = k.opens[i] := by
 unfold Aa5
 split <;> exact List.getElem_set_ne h ..
theorem Acm (k : Krn) (j : Nat) (hj : j < k.opens.length) (h : k.opens[j].refs ≠ 1) : Aa5 k j = { k with opens := k.opens.set j { k.opens[j] with refs := k.opens[j].refs - 1 } } := by
 unfold Aa5
 rw [Abd _ j hj,if_neg (by omega)]
theorem Apr (h : FitE k f er ew) (her : ∀ i,0 ≤ er i) (hew : ∀ i,0 ≤ ew i) {fd j : Nat} (hfd : fd < f.length) (hj : j < k.opens.length) (hf : f[fd] = (j : Int) + 1) : FitE (Aa5 k j) (f.set fd 0) er ew := by
 have hk : k.opens[j].kind ≠ 0 ∧ (f.count ((j : Int) + 1) : Int) ≤ k.opens[j].refs := by
  rcases h.fds fd hfd with h0 | ⟨j2,hj2,h2,h3,h4⟩
  ·omega
  ·obtain rfl : j = j2 := by omega
   rw [hf] at h4
   exact ⟨h3,h4⟩
 have hg := h.opens j hj
 have hr := Ahf hg hk.1
 obtain ⟨t1,t2,t3,t4,t5⟩ := Ais k j
 -- the other descriptors
 have hfds : ∀ i (hi : i < (f.set fd 0).length),(f.set fd 0)[i] = 0 ∨ ∃ j2 : Nat,∃ hj2 : j2 < (Aa5 k j).opens.length,(f.set fd 0)[i] = (j2 : Int) + 1 ∧ (Aa5 k j).opens[j2].kind ≠ 0 ∧ ((f.set fd 0).count (f.set fd 0)[i] : Int) ≤ (Aa5 k j).opens[j2].refs := fun i hi => by
  by_cases e : fd = i
  ·subst e
   exact .inl (List.getElem_set_self ..)
  have hi' : i < f.length := by rw [List.length_set] at hi; exact hi
  have e2 : (f.set fd 0)[i] = f[i] := List.getElem_set_ne e ..
  rcases h.fds i hi' with h0 | ⟨j2,hj2,h2,h3,h4⟩
  ·exact .inl (e2.trans h0)
  have hc := Ai5 f fd hfd 0 f[i]
  rw [hf,if_neg (show ¬ (0 : Int) = f[i] by omega)] at hc
  refine .inr ⟨j2,by rw [Ab6]; exact hj2,e2.trans h2,?_⟩
  by_cases ej : j = j2
  ·subst ej
   rw [if_pos h2.symm] at hc
   have h5 := Ap3 (f.set fd 0) i hi
   rw [e2] at h5 ⊢
   have hne : k.opens[j].refs ≠ 1 := by omega
   have hE := Acm k j hj hne
   have hO : (Aa5 k j).opens[j]'(by rw [Ab6]; exact hj) = { k.opens[j] with refs := k.opens[j].refs - 1 } := by
    simp only [hE,List.getElem_set_self]
   rw [hO]
   exact ⟨hk.1,by show _ ≤ k.opens[j].refs - 1; omega⟩
  ·rw [Aco k j j2 ej hj2,e2]
   rw [if_neg (show ¬ (j : Int) + 1 = f[i] by omega)] at hc
   exact ⟨h3,by omega⟩
 by_cases hone : k.opens[j].refs = 1
 ·-- the last one
  have hO : (Aa5 k j).opens = k.opens.set j Aap := by
   unfold Aa5
   rw [Abd _ j hj,if_pos (by omega)]
  have hP : (Aa5 k j).pipes = if k.opens[j].kind = 2 ∨ k.opens[j].kind = 3 then k.pipes.set k.opens[j].at_.toNat (Aa1 (k.pipes.getD k.opens[j].at_.toNat Ab9) (k.opens[j].kind == 2)) else k.pipes := by
   unfold Aa5
   rw [Abd _ j hj,if_pos (by omega)]
  have hends : ∀ kd : Int,kd ≠ 0 → ∀ i,(Abl (Aa5 k j).opens kd i : Int) = Abl k.opens kd i - (if Acd kd i k.opens[j] = true then 1 else 0) := fun kd hkd i => by
   rw [hO,Agz _ j hj,if_neg (show ¬ Acd kd i Aap = true by rw [Akk kd hkd]; decide)]
   omega
  refine ⟨by rw [t1,t2,t3]; exact h.tree,by rw [Ad5]; exact h.np,by rw [Ab6]; exact h.no,by rw [t4]; exact h.o0,by rw [t5]; exact h.o1,fun i hi => ?_,fun i hi => ?_,by rw [List.length_set]; exact h.len,hfds⟩
  ·rw [t1,Ad5]
   have hi' : i < k.opens.length := by rw [Ab6] at hi; exact hi
   by_cases e : j = i
   ·subst e
    have : (Aa5 k j).opens[j] = Aap := by simp only [hO,List.getElem_set_self]
    rw [this]
    exact .inl rfl
   ·rw [Aco k j i e hi']
    exact h.opens i hi'
  ·have hi' : i < k.pipes.length := by rw [Ad5] at hi; exact hi
   obtain ⟨p1,p2,p3⟩ := h.pipes i hi'
   rw [hends 2 (by decide) i,hends 3 (by decide) i]
   by_cases hkd : k.opens[j].kind = 2 ∨ k.opens[j].kind = 3
   ·obtain ⟨n,hn,hat⟩ : ∃ n : Nat,n < k.pipes.length ∧ k.opens[j].at_ = (n : Int) := by
     rcases hg with hg | ⟨-,-,-,-,⟨a,-⟩ | ⟨a,b,-⟩ | ⟨a,b,-⟩ | ⟨a,-⟩⟩
     ·rw [hg] at hk; exact absurd rfl hk.1
     ·omega
     ·exact b
     ·exact b
     ·omega
    have hPi : (Aa5 k j).pipes[i] = if n = i then Aa1 k.pipes[i] (k.opens[j].kind == 2) else k.pipes[i] := by
     simp only [hP,if_pos hkd,hat,Int.toNat_natCast,Abd _ n hn,List.getElem_set]
     split
     ·rename_i e; subst e; rfl
     ·rfl
    rw [hPi]
    by_cases e : n = i
    ·subst e
     rw [if_pos rfl]
     have h1 := Ap3
     rcases hkd with h2 | h2
     ·-- a reading end
      have i2 : Acd 2 n k.opens[j] = true := by unfold Acd; rw [h2,hat]; simp
      have i3 : ¬ Acd 3 n k.opens[j] = true := by unfold Acd; rw [h2]; simp
      have hpos : 1 ≤ Abl k.opens 2 n := List.countP_pos_iff.2 ⟨_,List.getElem_mem hj,i2⟩
      have := her n
      rw [if_pos i2,if_neg i3,show (k.opens[j].kind == 2) = true by simpa using h2]
      refine ⟨Ajh p1 _,?_,?_⟩
      ·unfold Aa1
       rw [if_pos rfl,if_pos (by omega)]
       show k.pipes[n].rd - 1 = _
       omega
      ·have e3 : (Aa1 k.pipes[n] true).wr = k.pipes[n].wr := by
        unfold Aa1
        rw [if_pos rfl]
        split <;> rfl
       rw [e3]
       rcases p3 with p3 | ⟨p3,p4⟩
       ·exact .inl (by omega)
       ·exact .inr ⟨p3,by omega⟩
     ·-- a writing end
      have i2 : ¬ Acd 2 n k.opens[j] = true := by unfold Acd; rw [h2]; simp
      have i3 : Acd 3 n k.opens[j] = true := by unfold Acd; rw [h2,hat]; simp
      have hpos : 1 ≤ Abl k.opens 3 n := List.countP_pos_iff.2 ⟨_,List.getElem_mem hj,i3⟩
      have := hew n
      rw [if_neg i2,if_pos i3,show (k.opens[j].kind == 2) = false by rw [h2]; decide]
      refine ⟨Ajh p1 _,?_,?_⟩
      ·have e3 : (Aa1 k.pipes[n] false).rd = k.pipes[n].rd := by
        unfold Aa1
        rw [if_neg (by decide)]
        split <;> rfl
       rw [e3]
       omega
      ·unfold Aa1
       rw [if_neg (by decide)]
       by_cases hw : 0 < k.pipes[n].wr
       ·rw [if_pos hw]
        show k.pipes[n].wr - 1 = _ ∨ (n = 0 ∧ k.pipes[n].wr - 1 ≤ _)
        rcases p3 with p3 | ⟨p3,p4⟩
        ·exact .inl (by omega)
        ·exact .inr ⟨p3,by omega⟩
       ·rw [if_neg hw]
        rcases p3 with p3 | ⟨p3,p4⟩
        ·omega
        ·exact .inr ⟨p3,by omega⟩
    ·rw [if_neg e]
     have hne : ∀ kd,¬ Acd kd i k.opens[j] = true := fun kd => by
      unfold Acd
      rw [hat]
      simp
      intro _
      omega
     rw [if_neg (hne 2),if_neg (hne 3)]
     exact ⟨p1,by omega,by omega⟩
   ·have hPi : (Aa5 k j).pipes[i] = k.pipes[i] := by simp only [hP,if_neg hkd]
    have hne : ∀ kd,kd = 2 ∨ kd = 3 → ¬ Acd kd i k.opens[j] = true := fun kd hk2 hE => by
     unfold Acd at hE
     simp only [Bool.and_eq_true,beq_iff_eq] at hE
     omega
    rw [hPi,if_neg (hne 2 (.inl rfl)),if_neg (hne 3 (.inr rfl))]
    exact ⟨p1,by omega,by omega⟩
 ·-- others are left
  have hE := Acm k j hj hone
  have hends : ∀ kd i,Abl (Aa5 k j).opens kd i = Abl k.opens kd i := fun kd i => by
   have h1 : (Aa5 k j).opens = k.opens.set j { k.opens[j] with refs := k.opens[j].refs - 1 } := by rw [hE]
   have h2 := Agz k.opens j hj { k.opens[j] with refs := k.opens[j].refs - 1 } kd i
   rw [← h1] at h2
   have h3 : Acd kd i { k.opens[j] with refs := k.opens[j].refs - 1 } = Acd kd i k.opens[j] := rfl
   rw [h3] at h2
   omega
  have hP : (Aa5 k j).pipes = k.pipes := by rw [hE]
  have hr2 : k.opens[j].refs ≤ 1000 := by
   rcases hg with hg | ⟨-,h2,-⟩
   ·rw [hg] at hk; exact absurd rfl hk.1
   ·exact h2
  refine ⟨by rw [t1,t2,t3]; exact h.tree,by rw [Ad5]; exact h.np,by rw [Ab6]; exact h.no,by rw [t4]; exact h.o0,by rw [t5]; exact h.o1,fun i hi => ?_,fun i hi => ?_,by rw [List.length_set]; exact h.len,hfds⟩
  ·rw [t1,Ad5]
   have hi' : i < k.opens.length := by rw [Ab6] at hi; exact hi
   by_cases e : j = i
   ·subst e
    have : (Aa5 k j).opens[j] = { k.opens[j] with refs := k.opens[j].refs - 1 } := by simp only [hE,List.getElem_set_self]
    rw [this]
    exact Aml hg hk.1 (by omega) (by omega)
   ·rw [Aco k j i e hi']
    exact h.opens i hi'
  ·have hi' : i < k.pipes.length := by rw [Ad5] at hi; exact hi
   have hPi : (Aa5 k j).pipes[i] = k.pipes[i] := by simp only [hP]
   rw [hends,hends,hPi]
   exact h.pipes i hi'
end
theorem Aow : ∀ (L : List Ino) (k : Nat) (h : k < L.length),L[k].data.length ≤ Aax L
 | x :: r,0,_ => by show x.data.length ≤ x.data.length + Aax r; omega
 | x :: r,k + 1,h => by
  have := Aow r k (Nat.lt_of_succ_lt_succ h)
  show (r[k]'(Nat.lt_of_succ_lt_succ h)).data.length ≤ x.data.length + Aax r
  omega
theorem Alv {L : List Ino} {m b : Int} (hF : FitP L m b) : Alm L := fun k hk => by
 obtain ⟨l1,l2,l3,l4,l5⟩ := hF.limits
 have h1 := Aow L k hk
 refine ⟨by omega,fun e he => ?_⟩
 have := (Arj (Ak9 hF.ins hk he).1).2.2.2.1
 omega
def Abp (L : List Ino) (cwd : Int) (p : List UInt8) (dirs : Bool) : Int × List UInt8 × Int :=
 if (Abk L cwd p).2.2 ≠ 0 then (0,[],(Abk L cwd p).2.2) else
 if (Abk L cwd p).2.1 = [46] ∨ (Abk L cwd p).2.1 = [46,46] ∨ 0 ≤ kidL L (Abk L cwd p).1 (Abk L cwd p).2.1 then (0,[],17) else
 if Abg (Abk L cwd p).2.1 = false then (0,[],22) else
 if mayL L (Abk L cwd p).1 3 = false then (0,[],13) else
 if dirs = false ∧ endL p = true then (0,[],20) else ((Abk L cwd p).1,(Abk L cwd p).2.1,0)
def Ahm (L : List Ino) : Nat → Nat → Option Nat
 | 0,_ => none
 | n + 1,k => if (Aaf L (k : Int)).kind = 0 then some k else Ahm L n (k + 1)
def Ajo (L : List Ino) (d : Int) (s : List UInt8) (x : Ino) : List Ino × Int × Int :=
 if 1024 ≤ (Aaf L d).kids.length then (L,0,28) else
 match Ahm L L.length 0 with
 | none => (L,0,28)
 | some k => (addL L d.toNat k s { x with links := 1 },(k : Int),0)
def Aem (kind mode : Int) (data : List UInt8) (up : Int) : Ino := ⟨kind,mode,0,data,[],up⟩
def Ah4 (q : Int) : Bool := decide (0 ≤ q) && decide (q ≤ 7)
def mkdirW (L : List Ino) (cwd : Int) (p : List UInt8) (q : Int) : List Ino × Int × Int :=
 if Ah4 q = false then (L,0,22) else
 if (Abp L cwd p true).2.2 ≠ 0 then (L,0,(Abp L cwd p true).2.2) else Ajo L (Abp L cwd p true).1 (Abp L cwd p true).2.1 (Aem 2 q [] (Abp L cwd p true).1)
def Ae3 (L : List Ino) (cwd : Int) (p : List UInt8) (q : Int) : List Ino × Int × Int :=
 if Ah4 q = false then (L,0,22) else
 if (Abp L cwd p false).2.2 ≠ 0 then (L,0,(Abp L cwd p false).2.2) else Ajo L (Abp L cwd p false).1 (Abp L cwd p false).2.1 (Aem 1 q [] 0)
theorem Azj {L : List Ino} {m b : Int} (hF : FitP L m b) {d : Nat} (hd : d < L.length) {s : List UInt8} (h : ¬ 0 ≤ kidL L (d : Int) s) : ∀ e ∈ L[d].kids,e.1 ≠ s := fun e he hs => by
 obtain ⟨i,hi,rfl⟩ := List.getElem_of_mem he
 have h1 := Bak hF d hd i hi
 rw [hs] at h1
 have h2 := Amw (((hF.ins d hd).2.2 i hi).there)
 rw [h1] at h
 exact h h2
theorem Ak7 {L : List Ino} {m b : Int} (hF : FitP L m b) {cwd : Int} {p : List UInt8} {dirs : Bool} (h : (Abp L cwd p dirs).2.2 = 0) :
  ∃ (d : Nat) (s : List UInt8) (hd : d < L.length),Abk L cwd p = ((d : Int),s,0) ∧ Abp L cwd p dirs = ((d : Int),s,0) ∧ L[d].kind = 2 ∧ Abg s = true ∧ (∀ e ∈ L[d].kids,e.1 ≠ s) ∧ mayL L (d : Int) 3 = true := by
 unfold Abp at h ⊢
 split at h
 ·rename_i h1
  exact absurd h h1
 rename_i h1
 rw [if_neg h1]
 split at h
 ·exact absurd h (by decide)
 rename_i h2
 rw [if_neg h2]
 split at h
 ·exact absurd h (by decide)
 rename_i h3
 rw [if_neg h3]
 split at h
 ·exact absurd h (by decide)
 rename_i h4
 rw [if_neg h4]
 split at h
 ·exact absurd h (by decide)
 rename_i h5
 rw [if_neg h5]
 have hdir : dirB L (Abk L cwd p).1 = true := by
  have h6 : (Abk L cwd p).2.2 = 0 := by simpa using h1
  unfold Abk at h6 ⊢
  split at h6
  ·rename_i g1; exact absurd h6 g1
  ·rename_i g1
   rw [if_neg g1]
   split at h6
   ·exact absurd h6 (by decide)
   ·rename_i g2
    rw [if_neg g2]
    split at h6
    ·rename_i g3; exact absurd h6 g3
    ·rename_i g3
     rw [if_neg g3]
     split at h6
     ·exact absurd h6 (by decide)
     ·rename_i g4
      rw [if_neg g4]
      simpa using g4
 obtain ⟨d,hde,hd⟩ := Ae7 hdir
 have h3' : Abg (Abk L cwd p).2.1 = true := by simpa using h3
 have h4' : mayL L (Abk L cwd p).1 3 = true := by simpa using h4
 have h2' : ¬ 0 ≤ kidL L (Abk L cwd p).1 (Abk L cwd p).2.1 := fun g => h2 (Or.inr (Or.inr g))
 rw [hde] at h2' h4' hdir
 refine ⟨d,(Abk L cwd p).2.1,hd,?_,?_,(Acr hd).1 hdir,h3',Azj hF hd h2',h4'⟩
 ·exact Prod.ext hde (Prod.ext rfl (by simpa using h1))
 ·rw [hde]
theorem Ajp : ∀ (n k : Nat) {L : List Ino} {t : Nat},Ahm L n k = some t → k ≤ t ∧ t < k + n ∧ (Aaf L (t : Int)).kind = 0
 | 0,_,_,_,h => by cases h
 | n + 1,k,L,t,h => by
  rw [Ahm] at h
  split at h
  ·rename_i h0
   cases h
   exact ⟨Nat.le_refl _,by omega,h0⟩
  ·obtain ⟨h1,h2,h3⟩ := Ajp n (k + 1) h
   exact ⟨by omega,by omega,h3⟩
theorem Aqt {x : Ino} (h : Abo x = true) (h0 : x.kind = 0) : x.links = 0 ∧ x.data = [] := by
 unfold Abo at h
 rw [if_pos h0] at h
 simp only [Bool.and_eq_true,decide_eq_true_eq,List.isEmpty_iff] at h
 exact ⟨h.1.1.1.2,h.1.1.2⟩
theorem Aq9 {L : List Ino} {m b : Int} (hF : FitP L m b) {d : Nat} (hd : d < L.length) (hdir : L[d].kind = 2) {s : List UInt8} (hs : Abg s = true) (hn : ∀ e ∈ L[d].kids,e.1 ≠ s) {k : Nat} (hk : Ahm L L.length 0 = some k) (hroom : L[d].kids.length < 1024)
  {x : Ino} (ha : Abo { x with links := 1 } = true) (h0 : x.kind ≠ 0) (hkids : x.kids = []) (hup : x.kind = 2 → x.up = d) (hub : (Aax L : Int) + x.data.length ≤ b) : ∃ h : k < L.length,L[k].kind = 0 ∧ Adds L m b d k s { x with links := 1 } := by
 obtain ⟨-,h1,h2⟩ := Ajp L.length 0 hk
 have hkl : k < L.length := by omega
 rw [Aad L k hkl] at h2
 obtain ⟨h3,h4⟩ := Aqt (hF.ins k hkl).1 h2
 exact ⟨hkl,h2,⟨hF,hd,hdir,hkl,by rw [h2]; decide,hs,hn,hroom,ha,h0,hkids,by rw [h3]; rfl,fun hx => ⟨hup hx,h2⟩,by rw [h4]; simpa using hub⟩⟩
theorem alone_dir (q : Int) (d : Int) (hq : Ah4 q = true) : Abo { Aem 2 q [] d with links := 1 } = true := by
 unfold Ah4 at hq
 rw [Bool.and_eq_true,decide_eq_true_eq,decide_eq_true_eq] at hq
 show Abo ⟨2,q,1,[],[],d⟩ = true
 unfold Abo
 simp
 omega
theorem Aqu (q : Int) (hq : Ah4 q = true) : Abo { Aem 1 q [] 0 with links := 1 } = true := by
 unfold Ah4 at hq
 rw [Bool.and_eq_true,decide_eq_true_eq,decide_eq_true_eq] at hq
 show Abo ⟨1,q,1,[],[],0⟩ = true
 unfold Abo
 simp
 omega
theorem Apz {L : List Ino} {c : Int} (h : Adc L c = true) : ∃ (k : Nat) (hk : k < L.length),c = (k : Int) ∧ L[k].kind ≠ 0 := by
 obtain ⟨k,rfl,hk⟩ := Aa7 (Adv h)
 unfold Adc at h
 rw [Bool.and_eq_true,Aad L k hk] at h
 exact ⟨k,hk,rfl,by simpa using h.2⟩
def put4 (W : World) (k : Nat) (x y z u : Value) : World := (((W.setCell ⟨k,0,none⟩ x).setCell ⟨k,1,none⟩ y).setCell ⟨k,2,none⟩ z).setCell ⟨k,3,none⟩ u
theorem Aeh {W : World} {k : Nat} {a b c d : Value} {t : TypeId} (h : W.heap[k]? = some (.cells #[a,b,c,d] t (0,0))) (x y z u : Value) : (put4 W k x y z u).heap[k]? = some (.cells #[x,y,z,u] t (0,0)) := Aa0 (Aa0 (Aa0 (Aa0 h 0 x) 1 y) 2 z) 3 u
theorem Ae8 {W : World} {k : Nat} {a b c d : Value} {t : TypeId} (h : W.heap[k]? = some (.cells #[a,b,c,d] t (0,0))) (x y z u : Value) : (put4 W k x y z u).cell? ⟨k,0,none⟩ = some x ∧ (put4 W k x y z u).cell? ⟨k,1,none⟩ = some y ∧ (put4 W k x y z u).cell? ⟨k,2,none⟩ = some z ∧ (put4 W k x y z u).cell? ⟨k,3,none⟩ = some u :=
 ⟨bC (Aeh h x y z u) 0,bC (Aeh h x y z u) 1,bC (Aeh h x y z u) 2,bC (Aeh h x y z u) 3⟩
theorem Acf {B : Nat} {w W : World} {k : Nat} (h : Below B w W) (hk : B ≤ k) (x y z u : Value) : Below B w (put4 W k x y z u) := (((h.setCell hk _).setCell hk _).setCell hk _).setCell hk _
theorem Af2 {p : Pip} {D : ByteArray} (h : D = ⟨p.data.toArray⟩) : D.data.toList = p.data ∧ D.size = p.data.length := by
 have h1 : D.data.toList = p.data := by rw [h]
 exact ⟨h1,by rw [← h1]; exact Array.length_toList.symm⟩
theorem Att {D : ByteArray} (h : D.data.toList ≠ []) : (D.data.toList == []) = false ∧ D.toList.isEmpty = false := by
 rw [ByteArray.toList_eq]
 cases h1 : D.data.toList with
 | nil => exact absurd h1 h
 | cons c r => exact ⟨rfl,rfl⟩
theorem Ai4 (w : World) (A B : Obj) : Below w.heap.size w ((w.alloc A).alloc B) := (Aab w _).alloc (by simp) _
end Go.Proofs.YtkdfbliiblojoaaGreatDoor
