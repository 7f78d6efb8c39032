/-
  The landed code's lengths: which first bytes a row of wants wants.
-/
import Derived.Test.YtfldhggmgepcjaaQTake
import Derived.Laws.Tables
import Derived.Laws.EntriesVeiled
import Derived.Laws.IdiomCopy
namespace Go.Proofs.Ytfldhggmgepcjaa
set_option maxRecDepth 100000
open Go Go.RowKit

def wayCells (a b c : Value) : Array Value := (a :: b :: c :: List.replicate 256 (.slice none 0 0)).toArray
def zeroW : Array Value := (List.replicate 259 (.slice none 0 0)).toArray
theorem alloc_way (W : World) : (Instr.alloc 46 true (.tuple #[])).run Try.prog W = .ok (.pointer (some ⟨W.heap.size, 0, none⟩)) (W.alloc (.cells zeroW 46)) := by kernel_rfl
theorem built_way (a b c : Option Addr) (n m k n' m' k' : Nat) : Try.prog.built 46 [(0, .slice a n m), (1, .slice b k n'), (2, .slice c m' k')] = some (wayCells (.slice a n m) (.slice b k n') (.slice c m' k')) := by kernel_rfl
theorem wpList_alloc_way {ops : Array Oper} {rest : List Oper} {o : Oper} {a : Act} {w : World} {Q : Exit → Act → World → Prop} (hg : o.guard = none) (ho : o.op = .alloc 46)
    (h : wpList Try.prog ops Q rest (a.put o.dst (.pointer (some ⟨w.heap.size, 0, none⟩))) (w.alloc (.cells zeroW 46))) : wpList Try.prog ops Q (o :: rest) a w := by
  refine wpList_plain hg fun K hK => ?_
  unfold Oper.wp execOp
  simp only [ho, alloc_way, Sem.run_bind, Sem.run_pure, Result.andThen_ok]
  exact hK _ _ h
theorem wpList_build_way {ops : Array Oper} {rest : List Oper} {o : Oper} {act : Act} {w : World} {Q : Exit → Act → World → Prop} (hg : o.guard = none) (x y z : Operand) (ho : o.op = .build 46 #[(0, x), (1, y), (2, z)])
    (a b c : Option Addr) (n m k n' m' k' : Nat) (hx : act.eval x = .slice a n m) (hy : act.eval y = .slice b k n') (hz : act.eval z = .slice c m' k')
    (h : wpList Try.prog ops Q rest (act.put o.dst (.agg (wayCells (.slice a n m) (.slice b k n') (.slice c m' k')))) w) : wpList Try.prog ops Q (o :: rest) act w := by
  have e : Try.prog.built 46 ((#[(0, x), (1, y), (2, z)] : Array (Nat × Operand)).map fun (i, x) => (i, act.eval x)).toList = some (wayCells (.slice a n m) (.slice b k n') (.slice c m' k')) := by
    have e2 : ((#[(0, x), (1, y), (2, z)] : Array (Nat × Operand)).map fun (i, x) => (i, act.eval x)).toList = [(0, .slice a n m), (1, .slice b k n'), (2, .slice c m' k')] := by simp [hx, hy, hz]
    rw [e2]; exact built_way a b c n m k n' m' k'
  refine wpList_build hg 46 _ ho (by rw [e]; rfl) ?_
  rw [e]
  exact h

theorem way_size (a b c : Value) : (wayCells a b c).size = 259 := by simp [wayCells]
theorem zero_size : zeroW.size = 259 := by simp [zeroW]
theorem way_one (a b c : Option Addr) (n m k n' m' k' : Nat) : (wayCells (.slice a n m) (.slice b k n') (.slice c m' k')).all (·.oneCell') = true := by
  unfold wayCells
  rw [List.all_toArray]
  simp only [List.all_cons, List.all_replicate]
  rfl
theorem way_info (c : Nat) (hc : c = 259) : (Try.prog.info? 46).map (·.size) = some c := by
  subst hc
  kernel_rfl
theorem store_way (K : Nat) (a b c : Option Addr) (n m k n' m' k' : Nat) (W : World) (h : W.heap[K]? = some (.cells zeroW 46 (0, 0))) : (storeCells ⟨K, 0, none⟩ (wayCells (.slice a n m) (.slice b k n') (.slice c m' k')).toList).run Try.prog W = .ok () (W.setRow K (wayCells (.slice a n m) (.slice b k n') (.slice c m' k'))) := by
  have h1 := run_storeVar_row (P := Try.prog) W K 46 46 zeroW (wayCells (.slice a n m) (.slice b k n') (.slice c m' k')) h (way_info _ (way_size _ _ _)) (by rw [way_size, zero_size]) (way_one _ _ _ _ _ _ _ _ _)
  have h2 := way_info _ (way_size (.slice a n m) (.slice b k n') (.slice c m' k'))
  cases hq : Try.prog.info? 46 with
  | none => simp [hq] at h2
  | some i =>
    simp [hq] at h2
    simp [storeVar, sizeOf, typeInfo, hq, h2, Value.cells] at h1
    exact h1
/-- The box of a way, as it is laid. -/
theorem way_laid (w w1 : World) (oa : Option Addr) (oc nw : Nat) (r : List Wt) (hw : nw = r.length / 64 + 1) (hb1 : Below w.heap.size w w1) :
    ∃ w5, w5 = (((w1.alloc (.cells (Array.replicate nw (.int .u64 0)) 64)).alloc (.cells (Array.replicate nw (.int .u64 0)) 64)).alloc (.cells zeroW 46)).setRow (w1.heap.size + 1 + 1) (wayCells (.slice oa r.length oc) (.slice (some ⟨w1.heap.size, 0, none⟩) nw nw) (.slice (some ⟨w1.heap.size + 1, 0, none⟩) nw nw)) ∧
      Way w w5 (w1.heap.size + 1 + 1) w1.heap.size (w1.heap.size + 1) nw oa oc r (List.replicate nw 0) (List.replicate nw 0) (List.replicate 256 (.slice none 0 0)) (full r) ∧ Below w1.heap.size w1 w5 ∧ (((w1.alloc (.cells (Array.replicate nw (.int .u64 0)) 64)).alloc (.cells (Array.replicate nw (.int .u64 0)) 64)).alloc (.cells zeroW 46)).heap[w1.heap.size + 1 + 1]? = some (.cells zeroW 46 (0, 0)) := by
  obtain ⟨w4, hw4⟩ : ∃ w4, w4 = ((w1.alloc (.cells (Array.replicate nw (.int .u64 0)) 64)).alloc (.cells (Array.replicate nw (.int .u64 0)) 64)).alloc (.cells zeroW 46) := ⟨_, rfl⟩
  refine ⟨_, rfl, ?_⟩
  rw [← hw4]
  have hz : (wv (List.replicate nw 0)).toArray = Array.replicate nw (.int .u64 0) := by
    unfold wv; rw [List.map_replicate, List.toArray_replicate]; rfl
  have h0 : w4.heap[w1.heap.size]? = some (.cells (Array.replicate nw (.int .u64 0)) 64 (0, 0)) := by
    rw [hw4, Below.heap_alloc _ _ _ (by simp; omega), Below.heap_alloc _ _ _ (by simp)]; exact new_block _ _
  have h1 : w4.heap[w1.heap.size + 1]? = some (.cells (Array.replicate nw (.int .u64 0)) 64 (0, 0)) := by
    rw [hw4, Below.heap_alloc _ _ _ (by simp)]
    have := new_block (w1.alloc (.cells (Array.replicate nw (.int .u64 0)) 64)) (.cells (Array.replicate nw (.int .u64 0)) 64)
    rw [World.size_alloc] at this
    exact this
  have h2 : w4.heap[w1.heap.size + 1 + 1]? = some (.cells zeroW 46 (0, 0)) := by
    rw [hw4]
    have := new_block ((w1.alloc (.cells (Array.replicate nw (.int .u64 0)) 64)).alloc (.cells (Array.replicate nw (.int .u64 0)) 64)) (.cells zeroW 46)
    rw [World.size_alloc, World.size_alloc] at this
    exact this
  have hb4 : Below w1.heap.size w1 w4 := by
    rw [hw4]
    exact ((below_box w1 _).alloc (by simp) _).alloc (by simp; omega) _
  have hb5 : Below w1.heap.size w1 (w4.setRow (w1.heap.size + 1 + 1) (wayCells (.slice oa r.length oc) (.slice (some ⟨w1.heap.size, 0, none⟩) nw nw) (.slice (some ⟨w1.heap.size + 1, 0, none⟩) nw nw))) :=
    ⟨hb4.os, hb4.tape, hb4.output, by rw [setRow_size]; exact hb4.size, fun i hi => by rw [setRow_other w4 _ i _ (by omega)]; exact hb4.block i hi⟩
  have hl := hb1.size
  refine ⟨⟨below_two hb1 hb5, by omega, by omega, by omega, ?_, by simp, ?_, ?_, by omega, by omega, by omega, by simp, by simp, hw, small_zero _, small_zero _, fun c v hv => ?_⟩, hb5, h2⟩
  · exact setRow_heap w4 _ zeroW _ 46 (0, 0) h2
  · unfold RowAt
    rw [setRow_other w4 _ _ _ (by omega), h0, hz]
  · unfold RowAt
    rw [setRow_other w4 _ _ _ (by omega), h1, hz]
  · rw [List.getElem?_replicate] at hv
    split at hv
    · exact Or.inl (Option.some.inj hv).symm
    · cases hv

def fitsV (r : List Wt) (s : List UInt8) : List Value := (List.range (s.length + 1)).map fun m => Value.bool (decide (Mat r (s.take m)))
def LenAns (w : World) (r : List Wt) (s : List UInt8) (e : Ending) (w' : World) : Prop :=
  ∃ g, e = .returned (.slice (some ⟨g, 0, none⟩) (s.length + 1) (s.length + 1)) ∧ RowAt w' g (fitsV r s) 4 ∧ w.heap.size ≤ g ∧ Below w.heap.size w w'

/-- A cell of a row that lies below a way's base is set, in the base as well. -/
theorem Way.rebase {w0 w : World} {k ga gs nw g j : Nat} {oa : Option Addr} {oc : Nat} {r : List Wt} {A S : List Nat} {T l : List Value} {lim : UInt8 → Nat} {ty : TypeId} (h : Way w0 w k ga gs nw oa oc r A S T lim) (hg : RowAt w0 g l ty) (v : Value) :
    Way (w0.setCell ⟨g, j, none⟩ v) (w.setCell ⟨g, j, none⟩ v) k ga gs nw oa oc r A S T lim := by
  have hgl := hg.lt
  have hg2 : RowAt w g l ty := by unfold RowAt; rw [h.low.block g hgl]; exact hg
  have hG : w.grownBy (w.setCell ⟨g, j, none⟩ v) (some g) := set_grown0 _ _ _ _
  have b1 := h.bk
  have b2 := h.ba
  have b3 := h.bs
  refine ⟨⟨h.low.os, h.low.tape, h.low.output, by rw [set_size, set_size]; exact h.low.size, fun i hi => ?_⟩, by rw [set_size]; exact b1, by rw [set_size]; exact b2, by rw [set_size]; exact b3, grown_at hG (by omega) h.box, h.tl, grown_at hG (by omega) h.ra, grown_at hG (by omega) h.rs, h.nak, h.nsk, h.nas, h.la, h.ls, h.hw, h.sa, h.ss, fun c u hu => ?_⟩
  · rw [set_size] at hi
    by_cases e : i = g
    · subst e
      have h1 := hg.set j v
      have h2 := hg2.set j v
      unfold RowAt at h1 h2
      rw [h1, h2]
    · rw [Below.heap_setCell _ _ _ _ e, Below.heap_setCell _ _ _ _ e]
      exact h.low.block i hi
  · rcases h.each c u hu with h1 | ⟨g', ws, h1, h2, h3, h4, h5, h6⟩
    · exact Or.inl h1
    · exact Or.inr ⟨g', ws, h1, grown_at hG (by omega) h2, h3, h4, ⟨h5.1, by rw [set_size]; exact h5.2⟩, h6⟩

/-- So many first bytes are told. -/
def FitR (r : List Wt) (s : List UInt8) (m : Nat) (l : List Value) : Prop := l.length = s.length + 1 ∧ (∀ i, i < m → l[i]? = some (.bool (decide (Mat r (s.take i))))) ∧ ∀ i, m ≤ i → i ≤ s.length → l[i]? = some (.bool false)
theorem fit_start (r : List Wt) (s : List UInt8) : FitR r s 0 (List.replicate (s.length + 1) (.bool false)) :=
  ⟨by simp, fun i h => absurd h (Nat.not_lt_zero _), fun i _ h => by rw [List.getElem?_replicate, if_pos (by omega)]⟩
theorem fit_next {r : List Wt} {s : List UInt8} {m : Nat} {l : List Value} (h : FitR r s m l) (hm : m ≤ s.length) {b : Bool} (hb : b = true ↔ Mat r (s.take m)) : FitR r s (m + 1) (l.set m (.bool b)) := by
  have hbd : b = decide (Mat r (s.take m)) := by
    by_cases c : Mat r (s.take m)
    · rw [decide_eq_true c]; exact hb.2 c
    · rw [decide_eq_false c]
      cases b with
      | false => rfl
      | true => exact absurd (hb.1 rfl) c
  refine ⟨by rw [List.length_set]; exact h.1, fun i hi => ?_, fun i h1 h2 => ?_⟩
  · rw [List.getElem?_set]
    by_cases e : m = i
    · subst e; rw [if_pos rfl, if_pos (by rw [h.1]; omega), hbd]
    · rw [if_neg e]; exact h.2.1 i (by omega)
  · rw [List.getElem?_set, if_neg (by omega)]; exact h.2.2 i (by omega) h2
theorem fit_end {r : List Wt} {s : List UInt8} {m : Nat} {l : List Value} (h : FitR r s m l) (hd : ∀ i, m ≤ i → i ≤ s.length → ¬ Mat r (s.take i)) : l = fitsV r s := by
  apply List.ext_getElem?
  intro i
  unfold fitsV
  by_cases hi : i ≤ s.length
  · rw [List.getElem?_map, List.getElem?_range (by omega)]
    by_cases h1 : i < m
    · rw [h.2.1 i h1]; rfl
    · rw [h.2.2 i (by omega) hi]
      show _ = some (Value.bool (decide _))
      rw [decide_eq_false (hd i (by omega) hi)]
  · rw [List.getElem?_eq_none (by rw [h.1]; omega), List.getElem?_eq_none (by simp; omega)]
/-- Places in bits and in words of the row. -/
theorem ap_bits {A S : List Nat} {r : List Wt} {c : UInt8} {t : List UInt8} {nw : Nat} (hA : ∀ j, j < 64 * nw → (bit A j = true ↔ Np r j t)) (hS : ∀ j, bit S j = isRep r j) (j : Nat) (hj : j < 64 * nw) : apC A S r c j = true ↔ Ap r j t c := by
  unfold apC Ap
  rw [Bool.or_eq_true, Bool.and_eq_true, Bool.and_eq_true, Bool.and_eq_true, Bool.and_eq_true, Bool.and_eq_true, hA j hj, hS, hS, decide_eq_true_eq]
  constructor
  · rintro (⟨⟨h1, -⟩, h2⟩ | ⟨h0, ⟨h1, h2⟩, h3⟩)
    · exact Or.inl ⟨h1, h2⟩
    · exact Or.inr ⟨h0, (hA (j - 1) (by omega)).1 h1, h2, by simpa using h3⟩
  · rintro (⟨h1, h2⟩ | ⟨h0, h1, h2, h3⟩)
    · exact Or.inl ⟨⟨h1, rep_tkAt h2 c⟩, h2⟩
    · exact Or.inr ⟨h0, ⟨(hA (j - 1) (by omega)).2 h1, h2⟩, by simp [h3]⟩
theorem np_bits {A A' S : List Nat} {r : List Wt} {c : UInt8} {t : List UInt8} {nw : Nat} (hAl : Alone r) (hA : ∀ j, j < 64 * nw → (bit A j = true ↔ Np r j t)) (hS : ∀ j, bit S j = isRep r j) (hA' : ∀ j, j < 64 * nw → bit A' j = (apC A S r c j || (decide (0 < j) && (apC A S r c (j - 1) && bit S (j - 1))))) (j : Nat) (hj : j < 64 * nw) : bit A' j = true ↔ Np r j (t ++ [c]) := by
  rw [hA' j hj, np_step hAl, Bool.or_eq_true, Bool.and_eq_true, Bool.and_eq_true, ap_bits hA hS j hj, hS, decide_eq_true_eq]
  constructor
  · rintro (h | ⟨h0, h1, h2⟩)
    · exact Or.inl h
    · exact Or.inr ⟨h0, (ap_bits hA hS (j - 1) (by omega)).1 h1, h2⟩
  · rintro (h | ⟨h0, h1, h2⟩)
    · exact Or.inl h
    · exact Or.inr ⟨h0, (ap_bits hA hS (j - 1) (by omega)).2 h1, h2⟩
theorem dead_bits {A S : List Nat} {r : List Wt} {c : UInt8} {t : List UInt8} {nw : Nat} (hAl : Alone r) (hw : nw = r.length / 64 + 1) (hA : ∀ j, j < 64 * nw → (bit A j = true ↔ Np r j t)) (hS : ∀ j, bit S j = isRep r j) (h : ∀ j, j < 64 * nw → apC A S r c j = false) (u : List UInt8) : ¬ Mat r ((t ++ [c]) ++ u) := by
  rw [← np_len]
  refine np_dead hAl (np_dead_step hAl fun j h1 => ?_) u _
  have hj : j < 64 * nw := by have := ap_le h1; omega
  have := (ap_bits hA hS j hj).2 h1
  rw [h j hj] at this
  cases this

set_option maxHeartbeats 16000000 in
theorem llengths (w : World) (oa : Option Addr) (oc : Nat) (r : List Wt) (hA : Alone r) (hrl : r.length ≤ 100000) (hok : ∀ x ∈ r, x.fine) (vs : List Value) (B : Nat) (hR : RowW w B oa oc r vs) (s : ByteArray) (hs : s.size ≤ 100000) :
    Calls Try.prog 12 #[.slice oa r.length oc, .string s] w (LenAns w r s.data.toList) := by
  obtain ⟨n, hn⟩ : ∃ n, n = r.length := ⟨_, rfl⟩
  have HN := Lib.hid hn
  obtain ⟨nw, hnw⟩ : ∃ nw, nw = r.length / 64 + 1 := ⟨_, rfl⟩
  have HNW := Lib.hid hnw
  rw [← hn] at hrl ⊢
  have C0 := fun W => lbitsof oa oc n nw (by rw [hn]; exact hnw) hrl W
  have hmk := run_make_bools w ((s.size : Int) + 1) (s.size + 1) (by omega) (by omega)
  obtain ⟨w1, hw1⟩ : ∃ w1, w1 = w.alloc (.cells (List.replicate (s.size + 1) (.bool false)).toArray 4) := ⟨_, rfl⟩
  rw [← hw1] at hmk
  have hb1 : Below w.heap.size w w1 := by rw [hw1]; exact below_box _ _
  have hRf : RowAt w1 w.heap.size (List.replicate (s.size + 1) (.bool false)) 4 := by rw [hw1]; exact new_block _ _
  obtain ⟨w5, hw5, hW5, hb5, h4⟩ := way_laid w1 w1 oa oc nw r hnw (Below.refl _ _)
  have HW5 := Lib.hid hW5
  have HE5 := Lib.hid hw5
  have HRf := Lib.hid hRf
  have HB1 := Lib.hid hb1
  have HW1 := Lib.hid hw1
  have hwl : w.heap.size < w1.heap.size := hRf.lt
  have hnw1 : nw ≤ 100000 := by omega
  have hst := store_way (w1.heap.size + 1 + 1) oa (some ⟨w1.heap.size, 0, none⟩) (some ⟨w1.heap.size + 1, 0, none⟩) n oc nw nw nw nw _ h4
  rw [← hn] at HE5
  rw [← HE5.out] at hst
  obtain ⟨k, hk⟩ : ∃ k, k = w1.heap.size + 1 + 1 := ⟨_, rfl⟩
  have HR := Lib.hid hR
  have HA := Lib.hid hA
  have HOK := Lib.hid hok
  have hk5 : w.heap.size < k := by omega
  rw [← hk] at HW5
  have HR1 := Lib.hid (hR.below hb1)
  have C2 := lbegin w1 w5 k w1.heap.size (w1.heap.size + 1) nw oa oc r hA (by omega) _ _ _ vs (full r) B HR1.out HW5.out (bit_zero nw) (bit_zero nw)
  rw [hk] at C2
  have HKK := Lib.hid hk
  clear h4 hR hA hok hk
  clear hw1 hn hnw hw5 hW5 hb1 hRf hb5
  go_enter Try.func12, Try.ntmps12
  go_upto_region 2 with fail
  go_wp2_with (first | (refine wpList_build_way rfl _ _ _ rfl _ _ _ _ _ _ _ _ _ rfl rfl rfl ?_) | (refine wpList_alloc_way rfl rfl ?_) | (go_at_call 18; refine (C0 _).mono ?_; rintro e wn ⟨rfl, hwn⟩; subst hwn) | fail)
  refine C2.mono ?_
  rintro e w6 ⟨rfl, A, S, hW6, hSJ, hAJ⟩
  have HW6 := Lib.hid hW6
  have HSJ := Lib.hid hSJ
  have HAJ := Lib.hid hAJ
  have HF0 := Lib.hid (show FitR r s.data.toList 0 (List.replicate (s.size + 1) (.bool false)) by rw [← size_data]; exact fit_start r _)
  have HSL := Lib.hid (size_data s)
  obtain ⟨gf, hgf⟩ : ∃ gf, gf = w.heap.size := ⟨_, rfl⟩
  rw [← hgf] at HRf hwl ⊢
  have HGF := Lib.hid hgf
  obtain ⟨ga, hga⟩ : ∃ ga, ga = w1.heap.size := ⟨_, rfl⟩
  have hgs : w1.heap.size + 1 = ga + 1 := by rw [hga]
  have hkk : w1.heap.size + 1 + 1 = k := HKK.out.symm
  rw [hkk, hgs, ← hga]
  rw [hkk, hgs, ← hga] at HW6
  have HS1 := Lib.hid hga
  have HSM := Lib.hid (show ∀ m, m < s.size → s.data.toList[m]? = some s[m]! ∨ True from fun _ _ => Or.inr trivial)
  have HNP := Lib.hid (show n < 64 * nw by have := HN.out; have := HNW.out; omega)
  clear hW6 hSJ hAJ hgf hga hgs hkk hst hmk C0 hwl HSM
  go_wp2_with fail
  go_loopw [7, 21] (fun _ v21 wr => ∃ m A' T wb l, v21 = .int .i64 ((m : Nat) : Int) ∧ m ≤ s.size ∧ Hid (Way wb wr k ga (ga + 1) nw oa oc r A' S T (full r)) ∧ Hid (∀ j, j < 64 * nw → (bit A' j = true ↔ Np r j (s.data.toList.take m))) ∧ Hid (RowAt wb gf l 4 ∧ wb.heap.size = ga ∧ Below w.heap.size w wb ∧ RowW wb B oa oc r vs) ∧ Hid (FitR r s.data.toList m l)) (fun _ v21 _ => s.size + 1 - (intOf v21).toNat)
  case atStart => exact ⟨0, A, _, w1, _, rfl, Nat.zero_le _, HW6, (show ∀ j, j < 64 * nw → (bit A j = true ↔ Np r j (s.data.toList.take 0)) from HAJ.out), ⟨HRf.out, HS1.out.symm, HB1.out, HR1.out⟩, HF0⟩
  case round =>
    obtain ⟨m, A', T, wb, l, rfl, hm, HWR, HAR, HBR, HFR⟩ := hrel
    have hmi : (m : Int) < (s.size : Int) + 1 := by omega
    have hm0 : (0 : Int) ≤ (m : Int) := by omega
    have hgfl : gf < ga := by rw [← HBR.out.2.1]; exact HBR.out.1.lt
    have hRg : RowAt wr gf l 4 := by unfold RowAt; rw [HWR.out.low.block gf HBR.out.1.lt]; exact HBR.out.1
    obtain ⟨old, hold⟩ : ∃ v, l[m]? = some v := ⟨.bool false, HFR.out.2.2 m (Nat.le_refl _) (by rw [HSL.out]; exact hm)⟩
    have hcf := hRg.cell hold
    have hff := hRg.free m
    obtain ⟨y, hy⟩ := word_at HWR.out.la HNW.out (show n ≤ r.length by have := HN.out; omega)
    have C3 := lhas A' HWR.out.sa ga n y nw hy HWR.out.la.symm hnw1 wr HWR.out.ra
    obtain ⟨b, hb⟩ : ∃ b, b = y.testBit (n % 64) := ⟨_, rfl⟩
    rw [← hb] at C3
    have HBM := Lib.hid (show b = true ↔ Mat r (s.data.toList.take m) by
      rw [hb, ← bit_get hy, HAR.out n HNP.out, HN.out, np_len])
    have hc1 := HWR.out.cells.2.1
    have HFN := Lib.hid (fit_next HFR.out (by rw [HSL.out]; exact hm) HBM.out)
    have HWN := Lib.hid (HWR.out.rebase HBR.out.1 (j := m) (.bool b))
    have HRN := Lib.hid (HBR.out.1.set m (.bool b))
    obtain ⟨wr2, hwr2⟩ : ∃ x, x = wr.setCell ⟨gf, m, none⟩ (.bool b) := ⟨_, rfl⟩
    obtain ⟨wb2, hwb2⟩ : ∃ x, x = wb.setCell ⟨gf, m, none⟩ (.bool b) := ⟨_, rfl⟩
    rw [← hwr2, ← hwb2] at HWN
    rw [← hwb2] at HRN
    have hB2 : Below w.heap.size w wb2 := by rw [hwb2]; exact HBR.out.2.2.1.setCell (show w.heap.size ≤ gf by rw [HGF.out]; exact Nat.le_refl _) _
    have HBN := Lib.hid (show RowAt wb2 gf (l.set m (.bool b)) 4 ∧ wb2.heap.size = ga ∧ Below w.heap.size w wb2 ∧ RowW wb2 B oa oc r vs from
      ⟨HRN.out, by rw [hwb2, set_size]; exact HBR.out.2.1, hB2, HR.out.below hB2⟩)
    have HW2 := Lib.hid hwr2
    have hml : (m : Int) < (s.size : Int) + 1 := hmi
    clear hwr2 hwb2 hRg hy hb hold hB2 hgfl
    have HEND := Lib.hid (show ∀ W' W'' : World, Way wb2 W' k ga (ga + 1) nw oa oc r A' S T (full r) ∨ True → Below wb2.heap.size wb2 W'' → Below w.heap.size w W'' ∧ RowAt W'' gf (l.set m (.bool b)) 4 from fun _ W'' _ h =>
      ⟨HBN.out.2.2.1.trans (h.mono HBN.out.2.2.1.size), by unfold RowAt; rw [h.block gf HBN.out.1.lt]; exact HBN.out.1⟩)
    by_cases hlast : m = s.size
    · have hqs : ((m : Int) == (s.size : Int)) = true := by simp [hlast]
      have hqs2 : (m == s.size) = true := by simp [hlast]
      have HV := Lib.hid (fit_end HFN.out (fun i h1 h2 => by rw [HSL.out] at h2; omega))
      clear hlast
      go_wp2_with fail
      refine C3.mono ?_
      rintro e w8 ⟨rfl, rfl⟩
      go_wp2_with fail
      rw [← HW2.out]
      go_wp2_with fail
      go_ret
      obtain ⟨h1, h2⟩ := HEND.out wr2 wr2 (Or.inr trivial) HWN.out.low
      exact ⟨gf, by rw [HSL.out]; rfl, by rw [← HV.out]; exact h2, by rw [HGF.out]; exact Nat.le_refl _, h1⟩
    · have hms : m < s.size := by omega
      have hqs : ((m : Int) == (s.size : Int)) = false := by simp; omega
      have hqs2 : (m == s.size) = false := by simp; omega
      have hmsi : (m : Int) < (s.size : Int) := by omega
      have C4 := ltake wb2 wr2 k ga (ga + 1) nw oa oc r HA.out (by have := HN.out; omega) HOK.out A' S T vs B HBN.out.2.2.2 HSJ.out s[m] (s[m].toNat : Int) rfl HWN.out
      have HTK := Lib.hid (show s.data.toList.take (m + 1) = s.data.toList.take m ++ [s[m]] by
        have h := get_data s m hms
        rw [List.take_add_one, h]; rfl)
      go_wp2_with fail
      refine C3.mono ?_
      rintro e w8 ⟨rfl, rfl⟩
      go_wp2_with fail
      rw [← HW2.out]
      refine C4.mono ?_
      rintro e w9 ⟨A2, T2, b2, rfl, hW9, hb2, hA2⟩
      have HW9 := Lib.hid hW9
      cases b2 with
      | true =>
        have HA9 := Lib.hid (show ∀ j, j < 64 * nw → (bit A2 j = true ↔ Np r j (s.data.toList.take (m + 1))) from fun j hj => by rw [HTK.out]; exact np_bits HA.out HAR.out HSJ.out hA2 j hj)
        clear hW9 hb2 hA2
        go_wp2_with fail
        go_roundw
        case rel => exact ⟨m + 1, A2, T2, wb2, _, by simp, by omega, HW9, HA9, HBN, HFN⟩
        case measure => simp only [intOf]; omega
      | false =>
        have HV := Lib.hid (fit_end HFN.out (fun i h1 h2 => by
          have h := dead_bits HA.out HNW.out HAR.out HSJ.out (hb2.1 rfl) ((s.data.toList.drop (m + 1)).take (i - (m + 1)))
          rw [← HTK.out] at h
          have e : s.data.toList.take i = s.data.toList.take (m + 1) ++ (s.data.toList.drop (m + 1)).take (i - (m + 1)) := by
            rw [← List.take_add, show m + 1 + (i - (m + 1)) = i by omega]
          rw [e]; exact h))
        clear hW9 hb2 hA2
        go_wp2_with fail
        go_ret
        obtain ⟨h1, h2⟩ := HEND.out w9 w9 (Or.inr trivial) HW9.out.low
        exact ⟨gf, by rw [HSL.out]; rfl, by rw [← HV.out]; exact h2, by rw [HGF.out]; exact Nat.le_refl _, h1⟩
end Go.Proofs.Ytfldhggmgepcjaa
