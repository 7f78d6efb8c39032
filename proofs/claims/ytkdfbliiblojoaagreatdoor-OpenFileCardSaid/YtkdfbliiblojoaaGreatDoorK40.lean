import Derived.Laws.EntriesVeiled
import Derived.Laws.Tables
import Derived.Test.YtkdfbliiblojoaaGreatDoorK37
import Derived.Test.YtkdfbliiblojoaaGreatDoorK36
set_option linter.all false
set_option maxRecDepth 100000
set_option maxHeartbeats 64000000
namespace Go.Proofs.YtkdfbliiblojoaaGreatDoor
open Go Go.RowKit
def Afq : Ino := ⟨2,7,0,[],[],0⟩
def newT (n : Nat) (b : Int) : Tre := ⟨Afq :: List.replicate (n - 1) Ag7,n,b⟩
def Ah6 : Array Value := #[.int .i64 0,.int .i64 0,.int .i64 0,.string ⟨#[]⟩,.slice none 0 0,.int .i64 0]
theorem Ba0 : (Tryz.prog.info? 66).map (fun i => (i.zero,i.size,i.bytes)) = some (some (.agg Ah6),6,72) := by kernel_rfl
theorem Ay8 (n i j : Nat) (hi : i < n) (hj : j < 6) : (madeCells Ah6 (n * 6))[i * 6 + j]? = Ah6[j]? := by
 have hlt : i * 6 + j < n * 6 := by omega
 unfold madeCells
 rw [Array.getElem?_map,Array.getElem?_range,if_pos hlt]
 have e : (i * 6 + j) % Ah6.size = j := by show (i * 6 + j) % 6 = j; omega
 simp only [Option.map_some,e]
 match j,hj with
 | 0,_ => rfl
 | 1,_ => rfl
 | 2,_ => rfl
 | 3,_ => rfl
 | 4,_ => rfl
 | 5,_ => rfl
def Ayo : Array Value := #[.int .i64 2,.int .i64 7,.int .i64 0,.string ⟨#[]⟩,.slice none 0 0,.int .i64 0]
theorem Au2 (W : World) (N n : Nat) (h0 : 1 ≤ n) (hm : n ≤ 256) (h : ∀ i j,i < n → j < 6 → W.cell? ⟨N,i * 6 + j,none⟩ = (if i = 0 then Ayo else Ah6)[j]?) : Aah W (some ⟨N,0,none⟩) n (Afq :: List.replicate (n - 1) Ag7) := by
 have hl : (Afq :: List.replicate (n - 1) Ag7).length = n := by simp; omega
 refine ⟨by omega,by unfold maxLen; omega,fun i hi => ⟨N,0,rfl,?_⟩⟩
 rw [hl] at hi
 rw [Nat.zero_add]
 have hnil : ∀ (W : World),Acc W (.slice none 0 0) [] := fun W => ⟨none,0,rfl,Nat.le_refl _,Nat.zero_le _,fun i hi => absurd hi (Nat.not_lt_zero _)⟩
 by_cases hi0 : i = 0
 ·subst hi0
  have g : ∀ j,j < 6 → W.cell? ⟨N,0 * 6 + j,none⟩ = Ayo[j]? := fun j hj => h 0 j hi hj
  exact ⟨g 0 (by decide),g 1 (by decide),g 2 (by decide),g 3 (by decide),⟨_,g 4 (by decide),hnil W⟩,g 5 (by decide)⟩
 ·have g : ∀ j,j < 6 → W.cell? ⟨N,i * 6 + j,none⟩ = Ah6[j]? := fun j hj => by
   have := h i j hi hj
   rw [if_neg hi0] at this
   exact this
  obtain ⟨m,rfl⟩ : ∃ m,i = m + 1 := ⟨i - 1,by omega⟩
  have e : (Afq :: List.replicate (n - 1) Ag7)[m + 1]'(by rw [hl]; exact hi) = Ag7 := by simp
  rw [e]
  exact ⟨g 0 (by decide),g 1 (by decide),g 2 (by decide),g 3 (by decide),⟨_,g 4 (by decide),hnil W⟩,g 5 (by decide)⟩
theorem Azd (A : Array Value) (n : Nat) (h1 : 1 ≤ n) (hs : A.size = n * 6) (hA : ∀ i j,i < n → j < 6 → A[i * 6 + j]? = Ah6[j]?) (i j : Nat) (hi : i < n) (hj : j < 6) :
  ((((((A.setIfInBounds 0 (Value.int .i64 2)).setIfInBounds 1 (Value.int .i64 7)).setIfInBounds 2 (Value.int .i64 0)).setIfInBounds 3 (Value.string ⟨#[]⟩)).setIfInBounds 4 (Value.slice none 0 0)).setIfInBounds 5 (Value.int .i64 0))[i * 6 + j]? = (if i = 0 then Ayo else Ah6)[j]? := by
 by_cases hi0 : i = 0
 ·subst hi0
  rw [if_pos rfl,Nat.zero_mul,Nat.zero_add]
  have hs6 : 6 ≤ A.size := by omega
  match j,hj with
  | 0,_ => rw [Array.getElem?_setIfInBounds_ne (show (5 : Nat) ≠ 0 by decide),Array.getElem?_setIfInBounds_ne (show (4 : Nat) ≠ 0 by decide),Array.getElem?_setIfInBounds_ne (show (3 : Nat) ≠ 0 by decide),Array.getElem?_setIfInBounds_ne (show (2 : Nat) ≠ 0 by decide),Array.getElem?_setIfInBounds_ne (show (1 : Nat) ≠ 0 by decide),Array.getElem?_setIfInBounds,if_pos rfl,if_pos (by (try simp only [Array.size_setIfInBounds]); omega)]; rfl
  | 1,_ => rw [Array.getElem?_setIfInBounds_ne (show (5 : Nat) ≠ 1 by decide),Array.getElem?_setIfInBounds_ne (show (4 : Nat) ≠ 1 by decide),Array.getElem?_setIfInBounds_ne (show (3 : Nat) ≠ 1 by decide),Array.getElem?_setIfInBounds_ne (show (2 : Nat) ≠ 1 by decide),Array.getElem?_setIfInBounds,if_pos rfl,if_pos (by (try simp only [Array.size_setIfInBounds]); omega)]; rfl
  | 2,_ => rw [Array.getElem?_setIfInBounds_ne (show (5 : Nat) ≠ 2 by decide),Array.getElem?_setIfInBounds_ne (show (4 : Nat) ≠ 2 by decide),Array.getElem?_setIfInBounds_ne (show (3 : Nat) ≠ 2 by decide),Array.getElem?_setIfInBounds,if_pos rfl,if_pos (by (try simp only [Array.size_setIfInBounds]); omega)]; rfl
  | 3,_ => rw [Array.getElem?_setIfInBounds_ne (show (5 : Nat) ≠ 3 by decide),Array.getElem?_setIfInBounds_ne (show (4 : Nat) ≠ 3 by decide),Array.getElem?_setIfInBounds,if_pos rfl,if_pos (by (try simp only [Array.size_setIfInBounds]); omega)]; rfl
  | 4,_ => rw [Array.getElem?_setIfInBounds_ne (show (5 : Nat) ≠ 4 by decide),Array.getElem?_setIfInBounds,if_pos rfl,if_pos (by (try simp only [Array.size_setIfInBounds]); omega)]; rfl
  | 5,_ => rw [Array.getElem?_setIfInBounds,if_pos rfl,if_pos (by (try simp only [Array.size_setIfInBounds]); omega)]; rfl
 ·rw [if_neg hi0,← hA i j hi hj]
  rw [Array.getElem?_setIfInBounds_ne (show (5 : Nat) ≠ i * 6 + j by omega),Array.getElem?_setIfInBounds_ne (show (4 : Nat) ≠ i * 6 + j by omega),Array.getElem?_setIfInBounds_ne (show (3 : Nat) ≠ i * 6 + j by omega),Array.getElem?_setIfInBounds_ne (show (2 : Nat) ≠ i * 6 + j by omega),Array.getElem?_setIfInBounds_ne (show (1 : Nat) ≠ i * 6 + j by omega),Array.getElem?_setIfInBounds_ne (show (0 : Nat) ≠ i * 6 + j by omega)]
theorem Awx (n : Nat) (b : Int) (h1 : 1 ≤ n) (h2 : n ≤ 256) (h3 : 0 ≤ b) (h4 : b ≤ 65536) (w : World) :
  Calls Tryz.prog 35 #[.int .i64 n,.int .i64 b] w fun e w' => (∃ v,e = .returned (.tuple #[v,.int .i64 0]) ∧ Az3 w' v (newT n b)) ∧ Below w.heap.size w w' := by
 obtain ⟨i0,hi,hz0,hz1,hz2⟩ := info_parts Ba0
 have hmk : (Instr.makeSlice 22 (.int .i64 (n : Int)) (.int .i64 (n : Int))).run Tryz.prog (w.alloc (.cells #[.slice none 0 0,.int .i64 0,.int .i64 0] 24)) =
   .ok (.slice (some ⟨w.heap.size + 1,0,none⟩) n n) ((w.alloc (.cells #[.slice none 0 0,.int .i64 0,.int .i64 0] 24)).alloc (.cells (madeCells Ah6 (n * 6)) 66)) := by
  have h := run_makeSlice (P := Tryz.prog) (w.alloc (.cells #[.slice none 0 0,.int .i64 0,.int .i64 0] 24)) 22 66 i0 (.agg Ah6) Tryz.underlying22 hi hz0 .i64 .i64 (n : Int) (n : Int) (by omega) (Int.le_refl _) (by rw [hz1]; simp; omega) (by rw [hz2]; omega) (by omega)
  rw [hz1,World.size_alloc,Int.toNat_natCast] at h
  exact h
 have hA := fun i j hi hj => Ay8 n i j hi hj
 have hsz : (madeCells Ah6 (n * 6)).size = n * 6 := size_madeCells _ _
 generalize madeCells Ah6 (n * 6) = A at hmk hA hsz
 have a0 : A[0]? = some (.int .i64 0) := hA 0 0 (by omega) (by omega)
 have a1 : A[1]? = some (.int .i64 0) := hA 0 1 (by omega) (by omega)
 have a2 : A[2]? = some (.int .i64 0) := hA 0 2 (by omega) (by omega)
 have a3 : A[3]? = some (.string ⟨#[]⟩) := hA 0 3 (by omega) (by omega)
 have a4 : A[4]? = some (.slice none 0 0) := hA 0 4 (by omega) (by omega)
 have a5 : A[5]? = some (.int .i64 0) := hA 0 5 (by omega) (by omega)
 have HA := Hd hA
 have HS := Hd hsz
 clear hA hsz hi hz0 hz1 hz2
 go_enter Tryz.func35,Tryz.ntmps35
 go_wp2_with fail
 refine bodyPost_ret (v := .tuple #[.agg #[.slice (some ⟨w.heap.size + 1,0,none⟩) n n,.int .i64 n,.int .i64 b],.int .i64 0]) (by simp [results,Tryz.results35,go_sem]) rfl ⟨⟨_,rfl,some ⟨w.heap.size + 1,0,none⟩,n,?_,?_⟩,?_⟩
 ·have hl : (newT n b).nodes.length = n := by show (Afq :: List.replicate (n - 1) Ag7).length = n; simp; omega
  rw [hl]
  rfl
 ·refine Au2 _ _ n h1 h2 (fun i j hi hj => ?_)
  rw [← Azd A n h1 HS.out HA.out i j hi hj]
  have e : (w.alloc (.cells #[.slice (some ⟨w.heap.size + 1,0,none⟩) n n,.int .i64 n,.int .i64 b] 24)).heap.size = w.heap.size + 1 := by simp
  simp only [World.cell?]
  rw [Below.heap_alloc _ _ _ (by simp)]
  have hb := Aae (w.alloc (.cells #[.slice (some ⟨w.heap.size + 1,0,none⟩) n n,.int .i64 n,.int .i64 b] 24)) (.cells ((((((A.setIfInBounds 0 (Value.int .i64 2)).setIfInBounds 1 (Value.int .i64 7)).setIfInBounds 2 (Value.int .i64 0)).setIfInBounds 3 (Value.string ⟨#[]⟩)).setIfInBounds 4 (Value.slice none 0 0)).setIfInBounds 5 (Value.int .i64 0)) 66)
  rw [e] at hb
  rw [hb]
  rfl
 ·exact ((Aab w _).alloc (by simp) _).alloc (by simp; omega) _
theorem Aiw {P : Program} {ops : Array Oper} {rest : List Oper} {o : Oper} {a : Act} {w : World} {Q : Exit → Act → World → Prop} (hgd : o.guard = none) (ty : TypeId) (x y : Operand) (ho : o.op = .store ty x y)
  (g off : Nat) (v : Value) (hx : a.eval x = .pointer (some ⟨g,off,none⟩)) (hy : a.eval y = v) (L : List Value) (hL : v.cells.toList = L) (hi : (P.info? ty).map (·.size) = some L.length)
  (hc : ∀ j,j < L.length → (w.cell? ⟨g,off + j,none⟩).isSome = true) (hf : ∀ j,j < L.length → w.frozen? ⟨g,off + j,none⟩ = false) (h1 : ∀ u ∈ L,u.oneCell' = true)
  (h : wpList P ops Q rest (a.put o.dst undef) (w.setCells g off L)) : wpList P ops Q (o :: rest) a w := by
 refine wpList_plain hgd fun K hK => ?_
 have hs : (storeVar ty ⟨g,off,none⟩ v).run P w = .ok () (w.setCells g off L) := by
  have := run_storeCells_cells (P := P) g off L 0 w (by simpa using hc) (by simpa using hf) h1
  cases hq : P.info? ty with
  | none => simp [hq] at hi
  | some i =>
   have hs : v.cells.size = i.size := by
    simp [hq] at hi
    rw [hi,← hL]
    simp
   simp [storeVar,sizeOf,typeInfo,hq,hs,hL,this]
 unfold Oper.wp execOp
 simp only [ho,hx,hy,Instr.storeAt,Instr.sureAddr,Sem.run_bind,Sem.run_pure,Result.andThen_ok,hs]
 exact hK _ _ h
def Al6 (g : Nat) : List Value := [.func (.func 92) #[.pointer (some ⟨g,0,none⟩)] #[],.nilFunc,.nilFunc,.nilFunc,.func (.func 93) #[.pointer (some ⟨g,0,none⟩)] #[],.func (.func 94) #[.pointer (some ⟨g,0,none⟩)] #[],.func (.func 95) #[.pointer (some ⟨g,0,none⟩)] #[],.func (.func 96) #[.pointer (some ⟨g,0,none⟩)] #[],.func (.func 97) #[.pointer (some ⟨g,0,none⟩)] #[],.func (.func 98) #[.pointer (some ⟨g,0,none⟩)] #[],.nilFunc,.func (.func 99) #[.pointer (some ⟨g,0,none⟩)] #[],.func (.func 100) #[.pointer (some ⟨g,0,none⟩)] #[],.nilFunc,.func (.func 101) #[.pointer (some ⟨g,0,none⟩)] #[],.func (.func 102) #[.pointer (some ⟨g,0,none⟩)] #[],.func (.func 103) #[.pointer (some ⟨g,0,none⟩)] #[],.nilFunc,.func (.func 104) #[.pointer (some ⟨g,0,none⟩)] #[],.func (.func 96) #[.pointer (some ⟨g,0,none⟩)] #[]]
theorem Aqq (g : Nat) (A : KAd) (K : Krn) (f : List Int) (D0 D1 : ByteArray) (h0 : D0 = ⟨K.out0.toArray⟩) (h1 : D1 = ⟨K.out1.toArray⟩) : Aui #[(.slice A.ta K.tree.length A.tc),(.int .i64 K.m),(.int .i64 K.b),(.slice A.pa K.pipes.length A.pc),(.slice A.oa K.opens.length A.oc),(.string D0),(.string D1),(.int .i64 (fdA f 0)),(.int .i64 (fdA f 1)),(.int .i64 (fdA f 2)),(.int .i64 (fdA f 3)),(.int .i64 (fdA f 4)),(.int .i64 (fdA f 5)),(.int .i64 (fdA f 6)),(.int .i64 (fdA f 7)),(.int .i64 (fdA f 8)),(.int .i64 (fdA f 9)),.nilFunc,.nilFunc,.nilFunc,.nilFunc,.nilFunc,.nilFunc,.nilFunc,.nilFunc,.nilFunc,.nilFunc,.nilFunc,.nilFunc,.nilFunc,.nilFunc,.nilFunc,.nilFunc,.nilFunc,.nilFunc,.nilFunc,.nilFunc] 17 (Al6 g) = wrk g A K f := by
 subst h0 h1
 kernel_rfl
theorem Ai6 (A : KAd) (K : Krn) (f : List Int) (w : World) :
  Calls Tryz.prog 53 #[.agg #[.slice A.ta K.tree.length A.tc,.int .i64 K.m,.int .i64 K.b,.slice A.pa K.pipes.length A.pc,.slice A.oa K.opens.length A.oc,.string ⟨K.out0.toArray⟩,.string ⟨K.out1.toArray⟩],.agg #[(.int .i64 (fdA f 0)),(.int .i64 (fdA f 1)),(.int .i64 (fdA f 2)),(.int .i64 (fdA f 3)),(.int .i64 (fdA f 4)),(.int .i64 (fdA f 5)),(.int .i64 (fdA f 6)),(.int .i64 (fdA f 7)),(.int .i64 (fdA f 8)),(.int .i64 (fdA f 9))]] w fun e w' => e = .returned (.pointer (some ⟨w.heap.size + 2,0,none⟩)) ∧ w'.heap[w.heap.size + 2]? = some (.cells (wrk (w.heap.size + 2) A K f) 124 (0,0)) ∧ Below w.heap.size w w' := by
 obtain ⟨D0,hD0⟩ : ∃ D : ByteArray,D = ⟨K.out0.toArray⟩ := ⟨_,rfl⟩
 obtain ⟨D1,hD1⟩ : ∃ D : ByteArray,D = ⟨K.out1.toArray⟩ := ⟨_,rfl⟩
 have HD0 := Hd hD0
 have HD1 := Hd hD1
 rw [← hD0,← hD1]
 clear hD0 hD1
 obtain ⟨w3,hw3,hb3,hs3,hX,hY,hZ⟩ := Ad4 w #[(.slice A.ta K.tree.length A.tc),(.int .i64 K.m),(.int .i64 K.b),(.slice A.pa K.pipes.length A.pc),(.slice A.oa K.opens.length A.oc),(.string D0),(.string D1)] #[(.int .i64 (fdA f 0)),(.int .i64 (fdA f 1)),(.int .i64 (fdA f 2)),(.int .i64 (fdA f 3)),(.int .i64 (fdA f 4)),(.int .i64 (fdA f 5)),(.int .i64 (fdA f 6)),(.int .i64 (fdA f 7)),(.int .i64 (fdA f 8)),(.int .i64 (fdA f 9))] #[(.slice A.ta K.tree.length A.tc),(.int .i64 K.m),(.int .i64 K.b),(.slice A.pa K.pipes.length A.pc),(.slice A.oa K.opens.length A.oc),(.string D0),(.string D1),(.int .i64 (fdA f 0)),(.int .i64 (fdA f 1)),(.int .i64 (fdA f 2)),(.int .i64 (fdA f 3)),(.int .i64 (fdA f 4)),(.int .i64 (fdA f 5)),(.int .i64 (fdA f 6)),(.int .i64 (fdA f 7)),(.int .i64 (fdA f 8)),(.int .i64 (fdA f 9)),.nilFunc,.nilFunc,.nilFunc,.nilFunc,.nilFunc,.nilFunc,.nilFunc,.nilFunc,.nilFunc,.nilFunc,.nilFunc,.nilFunc,.nilFunc,.nilFunc,.nilFunc,.nilFunc,.nilFunc,.nilFunc,.nilFunc,.nilFunc] 29 31 124
 have HZ := Hd hZ
 have HB3 := Hd hb3
 have HW3 := Hd hw3
 clear hX hY hZ hb3 hw3
 go_enter Tryz.func53,Tryz.ntmps53
 go_upto_region 2 with fail
 have hw3 := HW3.out
 rw [show w.heap.size + 1 + 1 = w.heap.size + 2 from rfl,← hw3]
 clear hw3
 have zl := lt_of_block HZ.out
 have hlen : (Al6 (w.heap.size + 2)).length = 20 := rfl
 go_wp2_with (first | (refine Aiw rfl 122 _ _ rfl (w.heap.size + 2) 17 _ rfl rfl (Al6 (w.heap.size + 2)) rfl (by kernel_rfl) (fun j hj => ?qa) (fun j hj => bF HZ.out (17 + j)) (fun u hu => ?qb) ?_) | fail)
 case qa =>
  rw [bC HZ.out,Array.getElem?_eq_getElem (show 17 + j < 37 by rw [hlen] at hj; omega)]
  rfl
 case qb => exact List.all_eq_true.1 (show (Al6 (w.heap.size + 2)).all (·.oneCell') = true from rfl) u hu
 go_ret
 refine ⟨rfl,?_,But.below HB3.out (Afx _ _ _) (by omega)⟩
 have e := Afp (Al6 (w.heap.size + 2)) 17 w3 _ HZ.out
 rw [Aqq (w.heap.size + 2) A K f D0 D1 HD0.out HD1.out] at e
 exact e
theorem Aoh (w : World) (A B C : Array Value) (s t u : TypeId) : ∃ w2,w2 = ((w.alloc (.cells A s)).alloc (.cells B t)).alloc (.cells C u) ∧ Below w.heap.size w w2 ∧ w2.heap.size = w.heap.size + 3 ∧ w2.heap[w.heap.size]? = some (.cells A s (0,0)) ∧ w2.heap[w.heap.size + 1]? = some (.cells B t (0,0)) ∧ w2.heap[w.heap.size + 2]? = some (.cells C u (0,0)) := by
 obtain ⟨w1,e1,b1,s1,h1,h2⟩ := Aam w A B s t
 refine ⟨w1.alloc (.cells C u),by rw [e1],b1.alloc (by omega) _,by rw [World.size_alloc,s1],?_,?_,?_⟩
 ·rw [Below.heap_alloc _ _ _ (by omega)]; exact h1
 ·rw [Below.heap_alloc _ _ _ (by omega)]; exact h2
 ·have := Aae w1 (.cells C u)
  rw [s1] at this
  exact this
theorem Amu {w W : World} {base g cap c : Nat} {L : List Ino} {vs : List Value} (hO : OwnT W base g cap L vs) (hB : Below w.heap.size w W) (hc : c < base) (hc2 : w.heap.size ≤ c) (x y z : Value) :
  OwnT (put3 W c x y z) w.heap.size g cap L vs ∧ Below w.heap.size w (put3 W c x y z) :=
 ⟨(hO.low fun k hk => Abq (by omega) x y z).lower (by omega),Aa8 hB hc2 x y z⟩
theorem Ajz (L : List Ino) (cwd : Int) (p : List UInt8) : Abp L cwd p false = if (Abp L cwd p true).2.2 ≠ 0 then Abp L cwd p true else if endL p = true then (0,[],20) else Abp L cwd p true := by
 unfold Abp
 split
 ·rename_i h; simp []
 ·split
  ·simp
  ·split
   ·simp
   ·split
    ·simp
    ·cases endL p <;> simp
theorem Akj {L : List Ino} {m b : Int} (hF : FitP L m b) (cwd : Int) (p : List UInt8) (X : Int → Ino) (dirs : Bool) (hd : ∀ d,dirs = true ↔ (X d).kind = 2) :
  addS L b cwd p X = if (Abp L cwd p dirs).2.2 ≠ 0 then (L,0,(Abp L cwd p dirs).2.2) else if b < (Aax L : Int) + (X (Abp L cwd p dirs).1).data.length then (L,0,28) else Ajo L (Abp L cwd p dirs).1 (Abp L cwd p dirs).2.1 (X (Abp L cwd p dirs).1) := by
 unfold addS Afs
 by_cases h0 : (Abp L cwd p true).2.2 = 0
 ·obtain ⟨d,s,hdl,hp,hf,-⟩ := Ak7 hF h0
  have hdd := hd (d : Int)
  have key : ∀ (f : Int × List UInt8 × Int),f = ((d : Int),s,0) → (if 1024 ≤ (Aaf L (d : Int)).kids.length then (L,(0 : Int),(28 : Int)) else if Ag9 L < 0 ∨ b < (Aax L : Int) + (X (d : Int)).data.length then (L,0,28) else (addL L d (Ag9 L).toNat s { X (d : Int) with links := 1 },Ag9 L,0)) =
    (if b < (Aax L : Int) + (X f.1).data.length then (L,0,28) else Ajo L f.1 f.2.1 (X f.1)) := fun f hf => by
   rw [hf]
   show _ = if b < (Aax L : Int) + (X (d : Int)).data.length then (L,0,28) else Ajo L (d : Int) s (X (d : Int))
   unfold Ajo Ag9
   by_cases h1 : 1024 ≤ (Aaf L (d : Int)).kids.length
   ·rw [if_pos h1,if_pos h1]
    split <;> rfl
   ·rw [if_neg h1,if_neg h1]
    cases Ahm L L.length 0 with
    | none =>
     rw [if_pos (Or.inl (by decide))]
     split <;> rfl
    | some k =>
     by_cases h2 : b < (Aax L : Int) + (X (d : Int)).data.length
     ·rw [if_pos (Or.inr h2),if_pos h2]
     ·rw [if_neg h2,if_neg (by rintro (h3 | h3) <;> first | (simp only at h3; omega) | exact h2 h3)]
      rfl
  rw [hf]
  simp only [ne_eq,not_true_eq_false,if_false]
  cases dirs with
  | true =>
   have hk : (X (d : Int)).kind = 2 := hdd.1 rfl
   have hr : Acg L (d : Int) (endL p) (X (d : Int)).kind = if 1024 ≤ (Aaf L (d : Int)).kids.length then 28 else 0 := by
    unfold Acg
    rw [if_neg (by simp [hk])]
   have hq := key ((d : Int),s,0) rfl
   rw [hf,hr]
   by_cases h1 : 1024 ≤ (Aaf L (d : Int)).kids.length
   ·rw [if_pos h1] at hq ⊢
    exact hq
   ·rw [if_neg h1] at hq ⊢
    exact hq
  | false =>
   have hk : (X (d : Int)).kind ≠ 2 := fun e => by have := hdd.2 e; cases this
   have hq := key ((d : Int),s,0) rfl
   rw [Ajz,hf]
   cases he : endL p with
   | true =>
    have hr : Acg L (d : Int) true (X (d : Int)).kind = 20 := by
     unfold Acg
     rw [if_pos ⟨rfl,hk⟩]
    rw [hr]
    rfl
   | false =>
    have hr : Acg L (d : Int) false (X (d : Int)).kind = if 1024 ≤ (Aaf L (d : Int)).kids.length then 28 else 0 := by
     unfold Acg
     rw [if_neg (by simp)]
    rw [hr]
    by_cases h1 : 1024 ≤ (Aaf L (d : Int)).kids.length
    ·rw [if_pos h1] at hq ⊢
     exact hq
    ·rw [if_neg h1] at hq ⊢
     exact hq
 ·rw [if_pos h0]
  simp only [ne_eq,h0,not_false_eq_true,if_true]
  cases dirs with
  | true => simp [h0]
  | false => rw [Ajz]; simp [h0]
theorem Ayx {L : List Ino} {m b : Int} (hF : FitP L m b) (cwd : Int) (p : List UInt8) (q : Int) (h : Ah4 q = true) : mkdirW L cwd p q = addS L b cwd p (fun d => Aem 2 q [] d) := by
 obtain ⟨-,-,-,l4,-⟩ := hF.limits
 rw [Akj hF cwd p _ true (fun d => by simp [Aem])]
 unfold mkdirW
 rw [if_neg (by simp [h])]
 split
 ·rfl
 ·show _ = if b < (Aax L : Int) + (0 : Nat) then _ else _
  rw [if_neg (by omega)]
theorem Alo {L : List Ino} {m b : Int} (hF : FitP L m b) (cwd : Int) (p : List UInt8) (q : Int) (h : Ah4 q = true) : Ae3 L cwd p q = addS L b cwd p (fun _ => Aem 1 q [] 0) := by
 obtain ⟨-,-,-,l4,-⟩ := hF.limits
 rw [Akj hF cwd p _ false (fun d => by simp [Aem])]
 unfold Ae3
 rw [if_neg (by simp [h])]
 split
 ·rfl
 ·show _ = if b < (Aax L : Int) + (0 : Nat) then _ else _
  rw [if_neg (by omega)]
theorem Ayy {n : Nat} (b : Int) (h : 1 ≤ n) : (newT n b).nodes.length = n := by show (Afq :: List.replicate (n - 1) Ag7).length = n; simp; omega
theorem Alp {n : Nat} (b : Int) (k : Nat) (hk : k < (newT n b).nodes.length) : (newT n b).nodes[k] = if k = 0 then Afq else Ag7 := by
 cases k with
 | zero => rfl
 | succ k =>
  rw [if_neg (by omega)]
  have e : ∀ (M : List Ino) (h : k + 1 < M.length),M = Afq :: List.replicate (n - 1) Ag7 → M[k + 1] = Ag7 := by
   intro M h hM
   subst hM
   simp
  exact e _ hk rfl
theorem All {n : Nat} (b : Int) (k : Nat) (hk : k < (newT n b).nodes.length) : (newT n b).nodes[k].kids = [] := by
 rw [Alp]
 split <;> rfl
theorem Aqy (n : Nat) (b : Int) : Abh (newT n b).nodes = [] := by
 unfold Abh
 rw [List.flatMap_eq_nil_iff]
 intro x hx
 obtain ⟨k,hk,rfl⟩ := List.getElem_of_mem hx
 exact All b k hk
theorem Aop : ∀ n : Nat,Ah3 (List.replicate n Ag7) = 0 ∧ Aax (List.replicate n Ag7) = 0
 | 0 => ⟨rfl,rfl⟩
 | n + 1 => by
  have h := Aop n
  rw [List.replicate_succ]
  exact ⟨by simp only [Ah3,h.1]; rfl,by simp only [Aax,h.2]; rfl⟩
theorem Ato (n : Nat) (b : Int) : Aax (newT n b).nodes = 0 := by
 show Aax (Afq :: List.replicate (n - 1) Ag7) = 0
 simp only [Aax,(Aop (n - 1)).2]
 rfl
theorem Auj {n : Nat} {b : Int} (h1 : 1 ≤ n) (h2 : n ≤ 256) (h3 : 0 ≤ b) (h4 : b ≤ 65536) : FitP (newT n b).nodes (n : Int) b := by
 have hl := Ayy b h1
 have hI : Aea (newT n b).nodes := fun k hk => by
  rw [All]
  refine ⟨?_,Nat.zero_le _,fun i hi => absurd hi (Nat.not_lt_zero _)⟩
  rw [Alp]
  split <;> rfl
 have hdir : ∀ k (hk : k < (newT n b).nodes.length),dirB (newT n b).nodes (k : Int) = true → k = 0 := fun k hk hd => by
  have h5 := (Acr hk).1 hd
  rw [Alp] at h5
  by_cases e : k = 0
  ·exact e
  ·rw [if_neg e] at h5
   cases h5
 refine ⟨⟨by omega,by omega,by omega,by rw [Ato]; omega,h4⟩,?_,rfl,hI,⟨fun d hd e he => ?_,fun k hk => ?_⟩,fun k hk hd => ?_⟩
 ·exact (Acr (L := (newT n b).nodes) (n := 0) (by omega)).2 rfl
 ·rw [All] at he
  cases he
 ·have hc : (Aec (newT n b).nodes)[k]'(by rw [Ab2]; exact hk) = 0 := by
   rw [Acq _ (Ad3 (Acn hI)) k hk,Aqy]
   rfl
  rw [hc]
  refine ⟨by rw [Alp]; split <;> rfl,?_⟩
  unfold Ad9
  rw [if_pos]
  rw [Alp]
  by_cases e : k = 0
  ·exact Or.inl (by omega)
  ·rw [if_neg e]
   exact Or.inr rfl
 ·have e := hdir k hk hd
  subst e
  rw [hl]
  obtain ⟨t,rfl⟩ : ∃ t,n = t + 1 := ⟨n - 1,by omega⟩
  rfl
end Go.Proofs.YtkdfbliiblojoaaGreatDoor
