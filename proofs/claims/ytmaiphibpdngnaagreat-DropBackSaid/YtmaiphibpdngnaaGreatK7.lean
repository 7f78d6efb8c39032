/-
  slices.Insert of one name: in place where there is room, else in a new block.
  slices.Insert of one name: no room, something behind; and all roads in one.
  nodes.With: a directory's names and one more, where the order by bytes has it.
  make's copied: the same tree in memory of the call's own.
  make's give: a name is given to an inode.
  make's closures that tell a new inode, and add.
  make's Mkdir, Create, Symlink of the landed code: they answer what chapter 5 says.
  make's Mkdir, Create, Symlink of the landed code: they answer what chapter 5 says.
  make's Symlink of the landed code: it answers what chapter 5 says.
  make's Chmod of the landed code: it answers what chapter 5 says.
  make's Link of the landed code: it answers what chapter 5 says.
  What is made, in plain words: the trees stay fit.
  awake: chapter 5's example; good: which trees and texts the laws speak of.
  drop's small questions of the landed code: isDir, hasKids, and the first error of a row that holds.
  append of one row of texts onto another that the call itself made; nil or not.
  append of one row of texts onto another, as one step of a region that draws its order.
  Plain words for the reference's list: all paths beneath a directory.
-/
import Derived.Laws.NewBlocks
import Derived.Test.YtmaiphibpdngnaaGreatK6
import Derived.Test.YtmaiphibpdngnaaGreatK3
import Derived.Test.YtmaiphibpdngnaaGreatK1
import Derived.Deep.RegionHeld3
import Derived.Shelf.Abstract
import Derived.Test.YtmaiphibpdngnaaGreatK2
import Derived.Test.YtmaiphibpdngnaaGreatQ1
import Derived.Test.YtmaiphibpdngnaaGreatK4
import Derived.Laws.EntriesVeiled
import Derived.Laws.OwnMore
import Derived.Laws.AppendOwnNone
import Derived.Deep.RegionLaw
import Derived.BigRegion
import Derived.Deep.Draws
namespace Go.Proofs.YtmaiphibpdngnaaGreat
set_option maxRecDepth 100000
open Go Go.RowKit Go.Lib

/-- What an insertion answers. -/
def InsAns (base : Nat) (w : World) (v : Value) (K : List (List UInt8 × Int)) (e : Ending) (w' : World) : Prop :=
  ∃ v', e = .returned v' ∧ KidsOwn w' base v' K ∧ w.grownBy w' v.ownBlock ∧ ∀ k, v'.ownBlock = some k → v.ownBlock = some k ∨ w.heap.size ≤ k

theorem size_entry : (Tryz.prog.info? 59).map (·.size) = some 2 := by kernel_rfl
theorem grown_sets {w W : World} {b o : Nat} {vs : List Value} {r : Option Nat} (h : w.grownBy W r) (hr : r = some b) : w.grownBy (W.setCells b o vs) r := by
  have e : ∀ (vs : List Value) (o : Nat) (W : World), (W.setCells b o vs).os = W.os ∧ (W.setCells b o vs).tape = W.tape ∧ (W.setCells b o vs).output = W.output := fun vs => by
    induction vs with
    | nil => exact fun _ _ => ⟨rfl, rfl, rfl⟩
    | cons v r ih => exact fun o W => ih (o + 1) (W.setCell ⟨b, o, none⟩ v)
  obtain ⟨e1, e2, e3⟩ := e vs o W
  exact ⟨e1.trans h.os, e2.trans h.tape, e3.trans h.output, by rw [size_sets]; exact h.size, fun k hk hkr => (heap_sets b vs o W k (fun e => hkr (by rw [hr, e]))).trans (h.block k hk hkr)⟩

theorem cur_get {cur : Array Value} {K : List (List UInt8 × Int)} {n : Nat} (h : cur.toList.take n = kidC K) (j : Nat) (hj : j < n) : cur[j]? = (kidC K)[j]? := by
  rw [← h, List.getElem?_take, if_pos hj]
  simp
theorem shift_cells {cur : Array Value} {K : List (List UInt8 × Int)} {i : Nat} (hi : i ≤ K.length) (hs : (K.length + 1) * 2 ≤ cur.size) (h : ∀ j, j < i * 2 → cur[j]? = (kidC K)[j]?) (x : List UInt8 × Int) (j : Nat) (hj : j < (K.length + 1) * 2) :
    (layA (layA cur ((i + 1) * 2) ((kidC K).drop (i * 2))) (i * 2) (entC x))[j]? = (kidC (insK K i x))[j]? := by
  have hl := kidC_len K
  have hd : ((kidC K).drop (i * 2)).length = (K.length - i) * 2 := by rw [List.length_drop, kidC_len]; omega
  rw [kidC_ins_get hi, layA_get _ _ _ (by rw [layA_size]; show _ + 2 ≤ _; omega)]
  show (if i * 2 ≤ j ∧ j < i * 2 + 2 then _ else _) = _
  by_cases h1 : j < i * 2
  · rw [if_neg (by omega), if_pos h1, layA_get _ _ _ (by rw [hd]; omega), if_neg (by omega)]
    exact h j h1
  · rw [if_neg h1]
    by_cases h2 : j < i * 2 + 2
    · rw [if_pos ⟨by omega, h2⟩, if_pos h2]
    · rw [if_neg (by omega), if_neg h2, layA_get _ _ _ (by rw [hd]; omega), if_pos (by rw [hd]; omega), List.getElem?_drop, show i * 2 + (j - (i + 1) * 2) = j - 2 by omega]
theorem grow_cells {cur : Array Value} {K : List (List UInt8 × Int)} {i : Nat} (hi : i ≤ K.length) (hs : (K.length + 1) * 2 ≤ cur.size) (h : ∀ j, j < i * 2 → cur[j]? = (kidC K)[j]?) (x : List UInt8 × Int) (j : Nat) (hj : j < (K.length + 1) * 2) :
    (layA (layA cur (i * 2) (entC x)) ((i + 1) * 2) ((kidC K).drop (i * 2)))[j]? = (kidC (insK K i x))[j]? := by
  have hl := kidC_len K
  have hd : ((kidC K).drop (i * 2)).length = (K.length - i) * 2 := by rw [List.length_drop, kidC_len]; omega
  rw [kidC_ins_get hi, layA_get _ _ _ (by rw [layA_size, hd]; omega), hd]
  by_cases h1 : j < i * 2
  · rw [if_neg (by omega), if_pos h1, layA_get _ _ _ (by show _ + 2 ≤ _; omega), if_neg (by omega)]
    exact h j h1
  · rw [if_neg h1]
    by_cases h2 : j < i * 2 + 2
    · rw [if_neg (by omega), if_pos h2, layA_get _ _ _ (by show _ + 2 ≤ _; omega), if_pos ⟨by omega, h2⟩]
    · rw [if_pos (by omega), if_neg h2, List.getElem?_drop, show i * 2 + (j - (i + 1) * 2) = j - 2 by omega]

section
variable {base b c i vb vc : Nat} {K : List (List UInt8 × Int)} {x : List UInt8 × Int} {w : World} {cur : Array Value}

set_option maxHeartbeats 4000000 in
/-- There is room, and something behind. -/
theorem ins_shift (hi : i < K.length) (hc : cur.size = c * 2) (hm : c ≤ maxLen) (hroom : K.length + 1 ≤ c) (hb : base ≤ b) (hcur : w.heap[b]? = some (.cells cur 59 (0, 0))) (hK : cur.toList.take (K.length * 2) = kidC K)
    (hv : w.heap[vb]? = some (.cells (entC x).toArray 59 (0, 0))) (hvb : vb ≠ b) :
    Calls Tryz.prog 118 #[.slice (some ⟨b, 0, none⟩) K.length c, .int .i64 i, .slice (some ⟨vb, 0, none⟩) 1 vc] w fun e w' => InsAns base w (.slice (some ⟨b, 0, none⟩) K.length c) (insK K i x) e w' := by
  have hm2 := hm
  unfold maxLen at hm2
  obtain ⟨n, hn⟩ : ∃ n, n = K.length := ⟨_, rfl⟩
  have hcs : ∀ j v, (kidC K)[j]? = some v → w.cell? ⟨b, j, none⟩ = some v := fun j v h => by
    rw [← hK, List.getElem?_take] at h
    split at h
    · rw [blk_cell hcur]; simpa using h
    · cases h
  have hsp : ∀ j, j < c * 2 → (w.cell? ⟨b, j, none⟩).isSome = true := fun j hj => by rw [blk_cell hcur, Array.getElem?_eq_getElem (by omega)]; rfl
  have hfz : ∀ j, w.frozen? ⟨b, j, none⟩ = false := blk_free hcur
  have hvs : ∀ j v, (entC x)[j]? = some v → w.cell? ⟨vb, j, none⟩ = some v := fun j v h => by rw [blk_cell hv]; simpa using h
  have hkl := kidC_len K
  have hdl : ((kidC K).drop (i * 2)).length = (K.length - i) * 2 := by rw [List.length_drop, kidC_len]; omega
  have hov : ∀ lb cb, (callFunc 126 #[.slice (some ⟨vb, 0, none⟩) 1 vc, .slice (some ⟨b, (i + 1) * 2, none⟩) lb cb]).run Tryz.prog w = .ok (.value (.bool false)) w := fun lb cb => by
    rw [run_callFunc_extern Tryz.func126 (by kernel_rfl) (by kernel_rfl) (by kernel_rfl) (e := Extern.SlicesOverlaps.overlaps #[47, 47] #[4]) (by kernel_rfl),
      Lib.run_overlaps_apart w 47 4 59 Tryz.underlying47 2 Tryz.sizeOf59 ⟨vb, 0, none⟩ ⟨b, (i + 1) * 2, none⟩ 1 vc lb cb hvb 59 59 2 (c * 2) (by simp [World.shape?, hv, entC]) (by simp [World.shape?, hcur, hc]) (by omega) (blk_free hv 0) (blk_free hv 2)]
    rfl
  have hw1 : IntKind.i64.wrap ((i : Int) + 1) = (i : Int) + 1 := by rw [IntKind.wrap_i64]; omega
  have hw2 : IntKind.i64.wrap ((K.length : Int) + 1) = (K.length : Int) + 1 := by rw [IntKind.wrap_i64]; omega
  have hz2 : ¬ ((i : Int) = (K.length : Int)) := by omega
  have hz3 : ¬ ((c : Int) < (K.length : Int) + 1) := by omega
  have hb1 : (0 : Int) ≤ (i : Int) + 1 := by omega
  have hin : i ≤ K.length := by omega
  have htn : ((i : Int) + 1).toNat = i + 1 := by omega
  have htn2 : ((K.length : Int) + 1).toNat = K.length + 1 := by omega
  have hb2 : ¬ (c = i + 1) := by omega
  have hb3 : (i : Int) ≤ (K.length : Int) + 1 := by omega
  have hb4 : ¬ (c = i) := by omega
  have hcp1 : ∀ ty dc sc, (Builtin.copy_ #[47, 47] ty #[.slice (some ⟨b, (i + 1) * 2, none⟩) (K.length - i) dc, .slice (some ⟨b, i * 2, none⟩) (K.length + 1 - i) sc]).run Tryz.prog w.drew = .ok (goInt (K.length - i : Nat)) (w.drew.setCells b ((i + 1) * 2) ((kidC K).drop (i * 2))) := fun ty dc sc =>
    run_copy_k w.drew _ _ ty 59 b ((i + 1) * 2) (K.length - i) dc ⟨b, i * 2, none⟩ (K.length + 1 - i) sc 2 (K.length - i) ((kidC K).drop (i * 2)) Tryz.underlying47 size_entry (by simp only [Nat.min_def]; split <;> omega) hdl
      (fun j v hj => by rw [Addr.add_lit]; exact hcs (i * 2 + j) v (by rwa [List.getElem?_drop] at hj))
      (fun j hj => hsp _ (by omega)) (fun j hj => hfz _) (fun v hv => kidC_one K v (List.mem_of_mem_drop hv))
  obtain ⟨W1, hW1⟩ : ∃ W1, W1 = w.drew.setCells b ((i + 1) * 2) ((kidC K).drop (i * 2)) := ⟨_, rfl⟩
  have hB1 : W1.heap[b]? = some (.cells (layA cur ((i + 1) * 2) ((kidC K).drop (i * 2))) 59 (0, 0)) := by rw [hW1]; exact blk_sets _ _ (W := w.drew) hcur
  have hG1 : w.grownBy W1 (some b) := by rw [hW1]; exact grown_sets (⟨rfl, rfl, rfl, Nat.le_refl _, fun _ _ _ => rfl⟩) rfl
  have hV1 : W1.heap[vb]? = w.heap[vb]? := hG1.block vb (lt_of_block hv) (fun e => hvb (Option.some.inj e))
  have hcp2 : ∀ (W : World), (∀ y, W.cell? y = W1.cell? y) → (∀ y, W.frozen? y = W1.frozen? y) → ∀ ty dc, (Builtin.copy_ #[47, 47] ty #[.slice (some ⟨b, i * 2, none⟩) (K.length + 1 - i) dc, .slice (some ⟨vb, 0, none⟩) 1 vc]).run Tryz.prog W = .ok (goInt (1 : Nat)) (W.setCells b (i * 2) (entC x)) := fun W hWc hWf ty dc =>
    run_copy_k W _ _ ty 59 b (i * 2) (K.length + 1 - i) dc ⟨vb, 0, none⟩ 1 vc 2 1 (entC x) Tryz.underlying47 size_entry (by simp only [Nat.min_def]; split <;> omega) rfl
      (fun j v hj => by
        rw [zero_add_addr, hWc, blk_cell (hV1.trans hv)]
        simpa using hj)
      (fun j hj => by
        have hj' : j < 2 := hj
        rw [hWc, blk_cell hB1, Array.getElem?_eq_getElem (by rw [layA_size]; omega)]; rfl)
      (fun j hj => by rw [hWf]; exact blk_free hB1 _) (fun v hv => by
        simp only [entC, List.mem_cons, List.not_mem_nil, or_false] at hv
        rcases hv with rfl | rfl <;> rfl)
  rw [← hW1] at hcp1
  have HB1 := Lib.hid hB1
  have HG1 := Lib.hid hG1
  clear hB1 hG1 hV1 hW1 hcs hsp hfz hvs hn
  go_enter Tryz.func118, Tryz.ntmps118
  go_wp2_with (simp only [hov])
  go_region_law (refine step_copy_runI rfl _ _ 47 47 rfl _ _ (by simp [Act.eval, Act.put]) (by simp [Act.eval, Act.put]) (hcp1 _ _ _) ?_)
  go_wp2_with (at_builtin; refine wpList_copy_runI _ rfl _ _ 47 47 rfl _ _ rfl rfl (hcp2 _ (fun _ => rfl) (fun _ => rfl) _ _) ?_)
  go_ret
  have hlen := insK_len hin x
  refine ⟨_, rfl, ?_, grown_sets HG1.out rfl, fun k hk => Or.inl hk⟩
  rw [← hlen]
  refine own_of_cells hb (blk_sets _ _ HB1.out) (by omega) hm (by rw [layA_size, layA_size, hc]) fun j hj => ?_
  rw [hlen] at hj
  exact shift_cells hin (by omega) (fun j hj => cur_get hK j (by omega)) x j hj

set_option maxHeartbeats 4000000 in
/-- There is room at the end. -/
theorem ins_end_room (hc : cur.size = c * 2) (hm : c ≤ maxLen) (hroom : K.length + 1 ≤ c) (hb : base ≤ b) (hcur : w.heap[b]? = some (.cells cur 59 (0, 0))) (hK : cur.toList.take (K.length * 2) = kidC K)
    (hv : w.heap[vb]? = some (.cells (entC x).toArray 59 (0, 0))) :
    Calls Tryz.prog 118 #[.slice (some ⟨b, 0, none⟩) K.length c, .int .i64 K.length, .slice (some ⟨vb, 0, none⟩) 1 vc] w fun e w' => InsAns base w (.slice (some ⟨b, 0, none⟩) K.length c) (insK K K.length x) e w' := by
  have hm2 := hm
  unfold maxLen at hm2
  obtain ⟨i0, hi0, hz0, hzs, hzb⟩ := info_parts infoE
  have hvs : ∀ j v, (entC x)[j]? = some v → w.cell? ((⟨vb, 0, none⟩ : Addr).add j) = some v := fun j v h => by rw [zero_add_addr, blk_cell hv]; simpa using h
  have hone : ∀ v ∈ entC x, v.oneCell' = true := fun v hv => by
    simp only [entC, List.mem_cons, List.not_mem_nil, or_false] at hv
    rcases hv with rfl | rfl <;> rfl
  have hrun : ∀ ty, (Builtin.append_ #[47, 47] ty #[.slice (some ⟨b, 0, none⟩) K.length c, .slice (some ⟨vb, 0, none⟩) 1 vc]).run Tryz.prog w = _ := fun ty =>
    run_append_room w 47 ty 59 i0 Tryz.underlying47 hi0 b K.length c cur hcur ⟨vb, 0, none⟩ 1 vc (entC x) (by rw [hzs]; rfl) hvs hone hroom (by rw [hzs, hc]; show _ + 2 ≤ _; omega)
  rw [hzs] at hrun
  go_enter Tryz.func118, Tryz.ntmps118
  go_wp2_with (at_builtin; refine Lib.wpList_append_run _ rfl _ _ _ _ rfl _ _ rfl rfl _ _ (hrun _) ?_)
  go_ret
  have hlen := insK_len (Nat.le_refl K.length) x
  have hins : kidC (insK K K.length x) = kidC K ++ entC x := by rw [kidC_ins, List.take_of_length_le (by rw [kidC_len]; exact Nat.le_refl _), List.drop_of_length_le (by rw [kidC_len]; exact Nat.le_refl _), List.append_nil]
  have hkl := kidC_len K
  have hsz : cur.toList.length = c * 2 := by simpa using hc
  refine ⟨_, rfl, ⟨kidC_len _, .inr ⟨b, c, _, ?_, hb, setRow_heap w b _ _ 59 (0, 0) hcur, by omega, hm, ?_, ?_⟩⟩, ⟨rfl, rfl, rfl, by simp [World.setRow], fun k _ hk => setRow_other w b k _ (fun e => hk (by rw [e]; rfl))⟩, fun k hk => Or.inl hk⟩
  · rw [hlen]
    rfl
  · show (kidC K ++ (entC x ++ List.drop (K.length * 2 + 2) cur.toList)).length = _
    rw [List.length_append, List.length_append, List.length_drop, hkl, hsz]
    show _ + (2 + _) = _
    omega
  · rw [hlen, hins]
    show ((kidC K ++ (entC x ++ List.drop (K.length * 2 + 2) cur.toList))).take _ = _
    rw [← List.append_assoc, List.take_append_of_le_length (by rw [List.length_append, hkl]; show _ ≤ _ + 2; omega), List.take_of_length_le (by rw [List.length_append, hkl]; show _ + 2 ≤ _; omega)]

set_option maxHeartbeats 4000000 in
/-- There is no room, nothing behind: a new block. -/
theorem ins_end_grow {v : Value} (ho : KidsOwn w base v K) (hv0 : ∀ a n c, v = .slice a n c → c < K.length + 1) (hl : K.length ≤ 1048576) (hbs : base ≤ w.heap.size)
    (hv : w.heap[vb]? = some (.cells (entC x).toArray 59 (0, 0))) :
    Calls Tryz.prog 118 #[v, .int .i64 K.length, .slice (some ⟨vb, 0, none⟩) 1 vc] w fun e w' => InsAns base w v (insK K K.length x) e w' := by
  obtain ⟨i0, hi0, hz0, hzs, hzb⟩ := info_parts infoE
  have hvs : ∀ j v, (entC x)[j]? = some v → w.cell? ((⟨vb, 0, none⟩ : Addr).add j) = some v := fun j v h => by rw [zero_add_addr, blk_cell hv]; simpa using h
  have hone : ∀ v ∈ entC x, v.oneCell' = true := fun v hv => by
    simp only [entC, List.mem_cons, List.not_mem_nil, or_false] at hv
    rcases hv with rfl | rfl <;> rfl
  have hsrc : Src Tryz.prog i0.size 47 (.slice (some ⟨vb, 0, none⟩) 1 vc) 1 (entC x) w := by
    rw [hzs]
    exact Src.ofSlice w Tryz.underlying47 ⟨vb, 0, none⟩ 1 vc (entC x) rfl hvs hone
  have hlen := insK_len (Nat.le_refl K.length) x
  have hins : kidC (insK K K.length x) = kidC K ++ entC x := by rw [kidC_ins, List.take_of_length_le (by rw [kidC_len]; exact Nat.le_refl _), List.drop_of_length_le (by rw [kidC_len]; exact Nat.le_refl _), List.append_nil]
  have hkl := kidC_len K
  obtain ⟨a, c, rfl⟩ := ho.form
  have hc := hv0 _ _ _ rfl
  have hold : (Builtin.firstCells i0.size K.length (.slice a K.length c)).run Tryz.prog w.drew = .ok (kidC K).toArray w.drew := by
    rw [hzs]
    rcases ho.2 with ⟨e, h0⟩ | ⟨g, cap, cur, e, -⟩
    · obtain ⟨rfl, -, rfl⟩ := Value.slice.inj e
      have e : K = [] := List.length_eq_zero_iff.1 h0
      subst e
      exact run_firstCells_none w.drew 2 0 0 0
    · obtain ⟨rfl, -, rfl⟩ := Value.slice.inj e
      exact run_firstCells_some w.drew 2 K.length ⟨g, 0, none⟩ K.length _ (kidC K) (kidC_len K) (fun j u hj => ho.cells rfl j u hj)
  have hgc := grownCap_ge w (K.length + 1) c 59
  have hgm := grownCap_le_maxLen w (K.length + 1) c 59 (by unfold maxLen; omega)
  have hrun : ∀ ty, (Builtin.append_ #[47, 47] ty #[.slice a K.length c, .slice (some ⟨vb, 0, none⟩) 1 vc]).run Tryz.prog w = _ := fun ty =>
    run_append_grow_src w 47 47 ty 59 i0 _ Tryz.underlying47 hi0 hz0 a K.length c (kidC K) hold _ 1 (entC x) hsrc hc (by omega) (by rw [hzb]; exact growslice_fits hc (by omega))
  obtain ⟨G, hG⟩ : ∃ G, G = grownCap w (K.length + 1) c 59 := ⟨_, rfl⟩
  rw [← hG] at hrun hgc hgm
  obtain ⟨ROW, hROW⟩ : ∃ ROW : Array Value, ROW = (kidC K ++ entC x).toArray ++ Builtin.zeroCells (Value.agg #[.string ⟨#[]⟩, .int .i64 0]).cells (G - (K.length + 1)) := ⟨_, rfl⟩
  rw [← hROW] at hrun
  have HA := Lib.hid hROW
  have HK := Lib.hid ho
  clear hROW hG hold hsrc hvs ho
  have hfin : InsAns base w (.slice a K.length c) (insK K K.length x) (.returned (.slice (some ⟨w.heap.size, 0, none⟩) (K.length + 1) G)) (w.drew.alloc (.cells ROW 59)) := by
    refine ⟨_, rfl, ⟨kidC_len _, .inr ⟨w.heap.size, G, ROW, ?_, hbs, new_block w.drew _, by omega, hgm, ?_, ?_⟩⟩, ⟨rfl, rfl, rfl, by simp, fun k hk _ => Below.heap_alloc w.drew _ k hk⟩, fun k hk => Or.inr ?_⟩
    · rw [hlen]
    · rw [HA.out]
      have hz : (Builtin.zeroCells (Value.agg #[.string ⟨#[]⟩, .int .i64 0]).cells (G - (K.length + 1))).size = (G - (K.length + 1)) * 2 := size_zeroCells _ _
      rw [Array.size_append, hz]
      show (kidC K ++ entC x).length + _ = _
      rw [List.length_append, hkl]
      show _ + 2 + _ = _
      omega
    · rw [HA.out, hlen, hins, Array.toList_append, List.take_append_of_le_length (by rw [List.toList_toArray, List.length_append, hkl]; show _ ≤ _ + 2; omega), List.toList_toArray, List.take_of_length_le (by rw [List.length_append, hkl]; show _ + 2 ≤ _; omega)]
    · cases hk
      exact Nat.le_refl _
  have HFIN := Lib.hid hfin
  clear hfin
  cases a with
  | none =>
    go_enter Tryz.func118, Tryz.ntmps118
    go_wp2_with (at_builtin; refine Lib.wpList_append_run _ rfl _ _ _ _ rfl _ _ rfl rfl _ _ (hrun _) ?_)
    go_ret
    exact HFIN.out
  | some a =>
    obtain ⟨ab, ao, asp⟩ := a
    go_enter Tryz.func118, Tryz.ntmps118
    go_wp2_with (at_builtin; refine Lib.wpList_append_run _ rfl _ _ _ _ rfl _ _ rfl rfl _ _ (hrun _) ?_)
    all_goals (go_ret; exact HFIN.out)
end
end Go.Proofs.YtmaiphibpdngnaaGreat

namespace Go.Proofs.YtmaiphibpdngnaaGreat
set_option maxRecDepth 100000
open Go Go.RowKit Go.Lib

section
variable {base c i vb vc : Nat} {K : List (List UInt8 × Int)} {x : List UInt8 × Int} {w : World}

set_option maxHeartbeats 4000000 in
/-- There is no room, and something behind: a new block. -/
theorem ins_grow {b : Nat} (ho : KidsOwn w base (.slice (some ⟨b, 0, none⟩) K.length c) K) (hi : i < K.length) (hnc : K.length ≤ c) (hroom : c < K.length + 1) (hl : K.length ≤ 1048576) (hbs : base ≤ w.heap.size)
    (hv : w.heap[vb]? = some (.cells (entC x).toArray 59 (0, 0))) :
    Calls Tryz.prog 118 #[.slice (some ⟨b, 0, none⟩) K.length c, .int .i64 i, .slice (some ⟨vb, 0, none⟩) 1 vc] w fun e w' => InsAns base w (.slice (some ⟨b, 0, none⟩) K.length c) (insK K i x) e w' := by
  obtain ⟨i0, hi0, hz0, hzs, hzb⟩ := info_parts infoE
  have hcs : ∀ j v, (kidC K)[j]? = some v → w.cell? ⟨b, j, none⟩ = some v := fun j v h => by
    have := ho.cells rfl j v h
    rwa [zero_add_addr] at this
  have hbw : b < w.heap.size := (ho.lt b rfl).2
  have hvw : vb < w.heap.size := lt_of_block hv
  have hin : i ≤ K.length := by omega
  have hkl := kidC_len K
  have hdl : ((kidC K).drop (i * 2)).length = (K.length - i) * 2 := by rw [List.length_drop, kidC_len]; omega
  have htl : ((kidC K).take (i * 2)).length = i * 2 := by rw [List.length_take, kidC_len]; omega
  have hkk : (K.length : Int) + 1 - (i : Int) = ((K.length + 1 - i : Nat) : Int) := by omega
  have hik : i + (K.length + 1 - i) = K.length + 1 := by omega
  have hone : ∀ v ∈ entC x, v.oneCell' = true := fun v hv => by
    simp only [entC, List.mem_cons, List.not_mem_nil, or_false] at hv
    rcases hv with rfl | rfl <;> rfl
  have hold : (Builtin.firstCells i0.size i (.slice (some ⟨b, 0, none⟩) i c)).run Tryz.prog w.drew = .ok ((kidC K).take (i * 2)).toArray w.drew := by
    rw [hzs]
    exact run_firstCells_some w.drew 2 i ⟨b, 0, none⟩ i c ((kidC K).take (i * 2)) htl (fun j v hj => by
      rw [zero_add_addr]
      rw [List.getElem?_take] at hj
      split at hj
      · exact hcs j v hj
      · cases hj)
  have hgc := grownCap_ge w (K.length + 1) c 59
  have hgm := grownCap_le_maxLen w (K.length + 1) c 59 (by unfold maxLen; omega)
  have hrz : ∀ ty, (Builtin.append_ #[47, 3] ty #[.slice (some ⟨b, 0, none⟩) i c, .int .i64 ((K.length : Int) + 1 - (i : Int))]).run Tryz.prog w =
      .ok (.slice (some ⟨w.heap.size, 0, none⟩) (K.length + 1) (grownCap w (K.length + 1) c 59)) (w.drew.alloc (.cells (((kidC K).take (i * 2)).toArray ++ Builtin.zeroCells (Value.agg #[.string ⟨#[]⟩, .int .i64 0]).cells (K.length + 1 - i) ++ Builtin.zeroCells (Value.agg #[.string ⟨#[]⟩, .int .i64 0]).cells (grownCap w (K.length + 1) c 59 - (K.length + 1))) 59)) := fun ty => by
    have h := Lib.run_append_grow_zeros w 47 3 ty 59 i0 _ .i64 .i64 Tryz.underlying47 Tryz.underlying3 hi0 hz0 (some ⟨b, 0, none⟩) i c ((kidC K).take (i * 2)) hold (K.length + 1 - i) (by omega) (by omega) (by omega) (by omega) (by rw [hzb]; omega) (by rw [hzb, hik]; exact growslice_fits hroom (by omega))
    rw [hik] at h
    rw [hkk]
    exact h
  obtain ⟨G, hG⟩ : ∃ G, G = grownCap w (K.length + 1) c 59 := ⟨_, rfl⟩
  rw [← hG] at hrz hgc hgm
  obtain ⟨ROW, hROW⟩ : ∃ ROW : Array Value, ROW = ((kidC K).take (i * 2)).toArray ++ Builtin.zeroCells (Value.agg #[.string ⟨#[]⟩, .int .i64 0]).cells (K.length + 1 - i) ++ Builtin.zeroCells (Value.agg #[.string ⟨#[]⟩, .int .i64 0]).cells (G - (K.length + 1)) := ⟨_, rfl⟩
  rw [← hROW] at hrz
  have hRs : ROW.size = G * 2 := by
    have z1 : (Builtin.zeroCells (Value.agg #[.string ⟨#[]⟩, .int .i64 0]).cells (K.length + 1 - i)).size = (K.length + 1 - i) * 2 := size_zeroCells _ _
    have z2 : (Builtin.zeroCells (Value.agg #[.string ⟨#[]⟩, .int .i64 0]).cells (G - (K.length + 1))).size = (G - (K.length + 1)) * 2 := size_zeroCells _ _
    rw [hROW, Array.size_append, Array.size_append, z1, z2]
    show ((kidC K).take (i * 2)).length + _ + _ = _
    rw [htl]
    omega
  have hRg : ∀ j, j < i * 2 → ROW[j]? = (kidC K)[j]? := fun j hj => by
    rw [hROW, Array.append_assoc, Array.getElem?_append_left (by show j < ((kidC K).take (i * 2)).length; omega)]
    show ((kidC K).take (i * 2)).toArray[j]? = _
    rw [List.getElem?_toArray, List.getElem?_take, if_pos hj]
  obtain ⟨W1, hW1⟩ : ∃ W1, W1 = w.drew.alloc (.cells ROW 59) := ⟨_, rfl⟩
  rw [← hW1] at hrz
  have hN : W1.heap[w.heap.size]? = some (.cells ROW 59 (0, 0)) := by rw [hW1]; exact new_block w.drew _
  have hO : ∀ k, k < w.heap.size → W1.heap[k]? = w.heap[k]? := fun k hk => by rw [hW1]; exact Below.heap_alloc w.drew _ k hk
  have hGW : w.grownBy W1 none := by rw [hW1]; exact ⟨rfl, rfl, rfl, by simp, fun k hk _ => Below.heap_alloc w.drew _ k hk⟩
  have hcpA : ∀ (W : World), (∀ y, W.cell? y = W1.cell? y) → (∀ y, W.frozen? y = W1.frozen? y) → ∀ ty dc, (Builtin.copy_ #[47, 47] ty #[.slice (some ⟨w.heap.size, i * 2, none⟩) (K.length + 1 - i) dc, .slice (some ⟨vb, 0, none⟩) 1 vc]).run Tryz.prog W = .ok (goInt (1 : Nat)) (W.setCells w.heap.size (i * 2) (entC x)) := fun W hWc hWf ty dc =>
    run_copy_k W _ _ ty 59 w.heap.size (i * 2) (K.length + 1 - i) dc ⟨vb, 0, none⟩ 1 vc 2 1 (entC x) Tryz.underlying47 size_entry (by simp only [Nat.min_def]; split <;> omega) rfl
      (fun j v hj => by
        rw [zero_add_addr, hWc, blk_cell ((hO vb hvw).trans hv)]
        simpa using hj)
      (fun j hj => by
        have hj' : j < 2 := hj
        rw [hWc, blk_cell hN, Array.getElem?_eq_getElem (by omega)]; rfl)
      (fun j hj => by rw [hWf]; exact blk_free hN _) hone
  have hB1 : (W1.setCells w.heap.size (i * 2) (entC x)).heap[w.heap.size]? = some (.cells (layA ROW (i * 2) (entC x)) 59 (0, 0)) := blk_sets _ _ hN
  have hB2 : (W1.setCells w.heap.size (i * 2) (entC x)).heap[b]? = w.heap[b]? := (heap_sets _ _ _ _ b (by omega)).trans (hO b hbw)
  have hcpB : ∀ (W : World), (∀ y, W.cell? y = (W1.setCells w.heap.size (i * 2) (entC x)).cell? y) → (∀ y, W.frozen? y = (W1.setCells w.heap.size (i * 2) (entC x)).frozen? y) → ∀ ty dc sc, (Builtin.copy_ #[47, 47] ty #[.slice (some ⟨w.heap.size, (i + 1) * 2, none⟩) (K.length - i) dc, .slice (some ⟨b, i * 2, none⟩) (K.length - i) sc]).run Tryz.prog W = .ok (goInt (K.length - i : Nat)) (W.setCells w.heap.size ((i + 1) * 2) ((kidC K).drop (i * 2))) := fun W hWc hWf ty dc sc =>
    run_copy_k W _ _ ty 59 w.heap.size ((i + 1) * 2) (K.length - i) dc ⟨b, i * 2, none⟩ (K.length - i) sc 2 (K.length - i) ((kidC K).drop (i * 2)) Tryz.underlying47 size_entry (by simp only [Nat.min_def]; split <;> omega) hdl
      (fun j v hj => by
        rw [Addr.add_lit, hWc, World.cell?_of_block (a := ⟨b, i * 2 + j, none⟩) hB2]
        exact hcs (i * 2 + j) v (by rwa [List.getElem?_drop] at hj))
      (fun j hj => by rw [hWc, blk_cell hB1, Array.getElem?_eq_getElem (by rw [layA_size]; omega)]; rfl)
      (fun j hj => by rw [hWf]; exact blk_free hB1 _) (fun v hv => kidC_one K v (List.mem_of_mem_drop hv))
  have hfin : ∀ W : World, W.heap = ((W1.setCells w.heap.size (i * 2) (entC x)).setCells w.heap.size ((i + 1) * 2) ((kidC K).drop (i * 2))).heap → W.os = w.os → W.tape = w.tape → W.output = w.output → InsAns base w (.slice (some ⟨b, 0, none⟩) K.length c) (insK K i x) (.returned (.slice (some ⟨w.heap.size, 0, none⟩) (K.length + 1) G)) W := fun W e1 e2 e3 e4 => by
    have hlen := insK_len hin x
    refine ⟨_, rfl, ?_, ⟨e2, e3, e4, ?_, fun k hk _ => ?_⟩, fun k hk => Or.inr ?_⟩
    · rw [← hlen]
      refine own_of_cells hbs (by rw [e1]; exact blk_sets _ _ hB1) (by omega) hgm (by rw [layA_size, layA_size, hRs]) fun j hj => ?_
      rw [hlen] at hj
      exact grow_cells hin (by omega) hRg x j hj
    · rw [e1, size_sets, size_sets]
      exact hGW.size
    · rw [e1, heap_sets _ _ _ _ _ (by omega), heap_sets _ _ _ _ _ (by omega)]
      exact hO k hk
    · cases hk
      exact Nat.le_refl _
  have HFIN := Lib.hid hfin
  have hst1 := hGW.os
  have hst2 := hGW.tape
  have hst3 := hGW.output
  have hsets : ∀ (vs : List Value) (b o : Nat) (W : World), (W.setCells b o vs).os = W.os ∧ (W.setCells b o vs).tape = W.tape ∧ (W.setCells b o vs).output = W.output := fun vs => by
    induction vs with
    | nil => exact fun _ _ _ => ⟨rfl, rfl, rfl⟩
    | cons v r ih => exact fun b o W => ih b (o + 1) (W.setCell ⟨b, o, none⟩ v)
  have HST := Lib.hid (show ∀ (p q : Nat) (vs us : List Value), ((W1.setCells w.heap.size p vs).setCells w.heap.size q us).os = w.os ∧ ((W1.setCells w.heap.size p vs).setCells w.heap.size q us).tape = w.tape ∧ ((W1.setCells w.heap.size p vs).setCells w.heap.size q us).output = w.output from fun p q vs us =>
    ⟨((hsets _ _ _ _).1.trans (hsets _ _ _ _).1).trans hst1, ((hsets _ _ _ _).2.1.trans (hsets _ _ _ _).2.1).trans hst2, ((hsets _ _ _ _).2.2.trans (hsets _ _ _ _).2.2).trans hst3⟩)
  have hw1 : IntKind.i64.wrap ((i : Int) + 1) = (i : Int) + 1 := by rw [IntKind.wrap_i64]; omega
  have hw2 : IntKind.i64.wrap ((K.length : Int) + 1) = (K.length : Int) + 1 := by rw [IntKind.wrap_i64]; omega
  have hw3 : IntKind.i64.wrap ((K.length : Int) + 1 - (i : Int)) = (K.length : Int) + 1 - (i : Int) := by rw [IntKind.wrap_i64]; omega
  have hz2 : ¬ ((i : Int) = (K.length : Int)) := by omega
  have hz3 : (c : Int) < (K.length : Int) + 1 := by omega
  have hb1 : (0 : Int) ≤ (i : Int) + 1 := by omega
  have hb3 : (i : Int) ≤ (K.length : Int) := by omega
  have htn : ((i : Int) + 1).toNat = i + 1 := by omega
  have hGi : ¬ (G = i) := by omega
  have hGim : ¬ (G = i + 1) := by omega
  have hci : ¬ (c = i) := by omega
  have hG63 : G ≤ 9223372036854775807 := by unfold maxLen at hgm; omega
  clear hB1 hB2 hfin hN hO hGW hRg hRs hROW hold hG hst1 hst2 hst3 hsets hkk hik
  have hE1 : ∀ y, ((W1.setCells w.heap.size (i * 2) (entC x)).drew).cell? y = (W1.setCells w.heap.size (i * 2) (entC x)).cell? y := fun y => rfl
  have hE2 : ∀ y, ((W1.setCells w.heap.size (i * 2) (entC x)).drew).frozen? y = (W1.setCells w.heap.size (i * 2) (entC x)).frozen? y := fun y => rfl
  clear hW1
  go_enter Tryz.func118, Tryz.ntmps118
  go_wp2_with (first
    | (at_builtin; refine Lib.wpList_append_run _ rfl _ _ _ _ rfl _ _ rfl rfl _ _ (hrz _) ?_)
    | (at_builtin; refine wpList_copy_runI _ rfl _ _ 47 47 rfl _ _ rfl rfl (hcpA _ (fun _ => rfl) (fun _ => rfl) _ _) ?_))
  go_region_law (refine step_copy_runI rfl _ _ 47 47 rfl (.slice (some ⟨w.heap.size, (i + 1) * 2, none⟩) (K.length - i) (G - (i + 1))) (.slice (some ⟨b, i * 2, none⟩) (K.length - i) (c - i)) (by simp [Act.eval, Act.put]) (by simp [Act.eval, Act.put]) (hcpB _ hE1 hE2 3 (G - (i + 1)) (c - i)) ?_)
  go_wp2_with fail
  rw [← drew_setCells]
  have hst := HST.out (i * 2) ((i + 1) * 2) (entC x) ((kidC K).drop (i * 2))
  go_ret
  exact HFIN.out _ rfl hst.1 hst.2.1 hst.2.2
end

/-- All roads. -/
theorem linsert_any (base : Nat) (v : Value) (K : List (List UInt8 × Int)) (i : Nat) (x : List UInt8 × Int) (vb vc : Nat) (w : World) (ho : KidsOwn w base v K) (hi : i ≤ K.length) (hl : K.length ≤ 1048576) (hbs : base ≤ w.heap.size)
    (hv : w.heap[vb]? = some (.cells (entC x).toArray 59 (0, 0))) (hvb : v.ownBlock ≠ some vb) :
    Calls Tryz.prog 118 #[v, .int .i64 i, .slice (some ⟨vb, 0, none⟩) 1 vc] w fun e w' => InsAns base w v (insK K i x) e w' := by
  rcases ho.2 with ⟨rfl, h0⟩ | ⟨g, cap, cur, rfl, hb, hg, hn, hm, hs, ht⟩
  · have e : i = K.length := by omega
    subst e
    exact ins_end_grow ho (fun a n c e => by obtain ⟨-, -, rfl⟩ := Value.slice.inj e; omega) hl hbs hv
  · by_cases e : i = K.length
    · subst e
      by_cases hr : K.length + 1 ≤ cap
      · exact ins_end_room hs hm hr hb hg ht hv
      · exact ins_end_grow ho (fun a n c e => by obtain ⟨-, -, rfl⟩ := Value.slice.inj e; omega) hl hbs hv
    · by_cases hr : K.length + 1 ≤ cap
      · exact ins_shift (by omega) hs hm hr hb hg ht hv (fun e => hvb (by rw [e]; rfl))
      · exact ins_grow ho (by omega) hn (by omega) hl hbs hv
end Go.Proofs.YtmaiphibpdngnaaGreat

namespace Go.Proofs.YtmaiphibpdngnaaGreat
set_option maxRecDepth 100000
open Go Go.RowKit

/-- Where a new name stands. -/
theorem place_new {K : List (List UInt8 × Int)} {s : List UInt8} (k : Int) (_hR : Rises K) (hn : ∀ e ∈ K, e.1 ≠ s) : ∃ i, i ≤ K.length ∧ namedL K s k = insK K i (s, k) ∧ ∀ e, BAns K s e → e = .returned (.tuple #[.int .i64 i, .bool false]) := by
  obtain ⟨A, B, h1, h2, h3, h4⟩ := named_at K s k hn
  have hA : K.take A.length = A := by rw [h1]; simp
  have hB : K.drop A.length = B := by rw [h1]; simp
  refine ⟨A.length, by rw [h1, List.length_append]; omega, by rw [h2]; unfold insK; rw [hA, hB], ?_⟩
  rintro e ⟨i, v, rfl, hi, hv, hlo, hhi⟩
  have hlen : K.length = A.length + B.length := by rw [h1, List.length_append]
  have hvf : v = false := by
    cases v with
    | false => rfl
    | true =>
      obtain ⟨h, he⟩ := hv.1 rfl
      exact absurd he (hn _ (List.getElem_mem h))
  have hiA : i = A.length := by
    rcases Nat.lt_trichotomy i A.length with h | h | h
    · exfalso
      have hx := hhi i (by omega) (Nat.le_refl _)
      have hm : K[i]'(by omega) = A[i] := by simp only [h1, List.getElem_append_left h]
      rw [hm, h3 _ (List.getElem_mem h)] at hx
      cases hx
    · exact h
    · exfalso
      cases B with
      | nil => simp only [List.length_nil] at hlen; omega
      | cons b r =>
        have hl : A.length < K.length := by rw [hlen, List.length_cons]; omega
        have hx := hlo A.length hl h
        have hm : K[A.length] = b := by simp only [h1]; rw [List.getElem_append_right (Nat.le_refl _)]; simp
        rw [hm] at hx
        have hy := h4 b r rfl
        have h0 := less_trans _ _ _ hx hy
        rw [less_irrefl] at h0
        cases h0
  rw [hiA, hvf]

theorem gsearch_known (M : List (List UInt8 × Int)) (hM : M.length ≤ 1024) (hR : Rises M) (s : List UInt8) (i : Nat) (hans : ∀ e, BAns M s e → e = .returned (.tuple #[.int .i64 i, .bool false])) (ka : Option Addr) (kcap : Nat) (w : World) (hK : KidsIn w (.slice ka M.length kcap) M) :
    Calls Tryz.prog 100 #[.slice ka M.length kcap, .string ⟨s.toArray⟩, .func (.func 117) #[] #[]] w fun e w' => e = .returned (.tuple #[.int .i64 i, .bool false]) ∧ Below w.heap.size w w' :=
  (gsearch_any M hM hR s ka kcap w hK).mono fun e _ h => ⟨hans e h.1, h.2⟩

set_option maxHeartbeats 2000000 in
theorem lwith_any (K : List (List UInt8 × Int)) (s : List UInt8) (k : Int) (hl : K.length ≤ 4096) (hl2 : K.length ≤ 1024) (hR : Rises K) (hn : ∀ e ∈ K, e.1 ≠ s) (v : Value) (w : World) (hK : KidsIn w v K) :
    Calls Tryz.prog 106 #[v, .string ⟨s.toArray⟩, .int .i64 k] w fun e w' => ∃ v', e = .returned v' ∧ KidsOwn w' w.heap.size v' (namedL K s k) ∧ Below w.heap.size w w' := by
  obtain ⟨i, hi, hins, hans⟩ := place_new k hR hn
  obtain ⟨ka, kc, rfl, hk1⟩ := hK
  have HK := Lib.hid (show KidsIn w (.slice ka K.length kc) K from ⟨ka, kc, rfl, hk1⟩)
  have HINS := Lib.hid hins
  have HANS := Lib.hid hans
  have HR := Lib.hid hR
  clear hk1 hins hans hR hn
  go_enter Tryz.func106, Tryz.ntmps106
  go_wp2_with fail
  refine (gsearch_known K hl2 HR.out s i HANS.out ka kc _ HK.out).mono ?_
  rintro e w1 ⟨rfl, hb1⟩
  have HB1 := Lib.hid hb1
  have HK1 := Lib.hid (HK.out.below hb1)
  clear hb1
  go_wp2_with fail
  refine (lclone_kids _ K (by omega) _ HK1.out).mono ?_
  rintro e w2 ⟨v2, rfl, hO2, hb2⟩
  obtain ⟨va, vc, rfl⟩ := hO2.form
  have HO2 := Lib.hid hO2
  have HB2 := Lib.hid hb2
  have hs1 := HB1.out.size
  have hs2 := hb2.size
  clear hO2 hb2
  go_wp2_with fail
  obtain ⟨w3, hw3⟩ : ∃ w3, w3 = w2.alloc (.cells #[.string ⟨s.toArray⟩, .int .i64 k] 59) := ⟨_, rfl⟩
  have hb3 : Below w2.heap.size w2 w3 := by rw [hw3]; exact below_box w2 _
  have hs3 : w3.heap.size = w2.heap.size + 1 := by rw [hw3]; simp
  have hE3 : w3.heap[w2.heap.size]? = some (.cells (entC (s, k)).toArray 59 (0, 0)) := by rw [hw3]; exact new_block w2 _
  have hO3 : KidsOwn w3 w.heap.size (.slice va K.length vc) K := (HO2.out.same fun j hj => hb3.block j ((HO2.out).lt j hj).2).lower (by omega)
  have hoff : (.slice va K.length vc : Value).ownBlock ≠ some w2.heap.size := fun e => by
    have := (HO2.out.lt w2.heap.size e).2
    omega
  have hI := linsert_any w.heap.size (.slice va K.length vc) K i (s, k) w2.heap.size 1 w3 hO3 hi (by omega) (by omega) hE3 hoff
  have HI := Lib.hid hI
  have HO3 := Lib.hid hO3
  have HB3 := Lib.hid hb3
  rw [← hw3]
  clear hI hO3 hb3 hE3 hw3
  refine HI.out.mono ?_
  rintro e w4 ⟨v4, rfl, hk4, hg4, hv4⟩
  obtain ⟨xa, xc, rfl⟩ := hk4.form
  have HK4 := Lib.hid hk4
  have hb4 : Below w.heap.size w w4 := by
    have h3 : Below w.heap.size w w3 := HB1.out.trans ((HB2.out.mono (by omega)).trans (HB3.out.mono (by omega)))
    refine h3.grown hg4 (by have := h3.size; omega) (fun r hr => (HO3.out.lt r hr).1)
  have HB4 := Lib.hid hb4
  clear hk4 hg4 hv4 hb4
  go_wp2_with fail
  go_ret
  exact ⟨_, rfl, by rw [HINS.out]; exact HK4.out, HB4.out⟩
end Go.Proofs.YtmaiphibpdngnaaGreat

namespace Go.Proofs.YtmaiphibpdngnaaGreat
set_option maxRecDepth 100000
open Go Go.RowKit

/-- Up to K the directories' names lie in blocks of the call's own. -/
structure CRel (w3 : World) (B g cap : Nat) (L : List Ino) (vs0 : List Value) (K : Nat) (vs : List Value) (wr : World) : Prop where
  nodes : NodesOwn wr g cap L vs
  own : ∀ i (hi : i < L.length) (hv : i < vs.length), i < K → KidsOwn wr B vs[i] L[i].kids
  apart : ∀ i j (hi : i < vs.length) (hj : j < vs.length), i < K → j < K → i ≠ j → vs[i].ownBlock = none ∨ vs[i].ownBlock ≠ vs[j].ownBlock
  off : ∀ i (hi : i < vs.length), i < K → vs[i].ownBlock ≠ some g
  rest : ∀ i, K ≤ i → vs[i]? = vs0[i]?
  below : Below B w3 wr
  size : B ≤ wr.heap.size
section
variable {w3 wr wn : World} {B g cap K : Nat} {L : List Ino} {vs0 vs : List Value}
theorem CRel.step (h : CRel w3 B g cap L vs0 K vs wr) (hg : B ≤ g) (hK : K < L.length) {v : Value} (ho : KidsOwn wn wr.heap.size v L[K].kids) (hb : Below wr.heap.size wr wn) : CRel w3 B g cap L vs0 (K + 1) (vs.set K v) (wn.setCell ⟨g, K * 6 + 4, none⟩ v) := by
  have hKv : K < vs.length := by rw [h.nodes.len]; exact hK
  have hN := (h.nodes.below hb).setKids hK hKv v L[K].kids
  have e1 : L.set K { L[K] with kids := L[K].kids } = L := List.set_getElem_self ..
  rw [e1] at hN
  have hst : ∀ k, k ≠ g → (wn.setCell ⟨g, K * 6 + 4, none⟩ v).heap[k]? = wn.heap[k]? := fun k hk => Below.heap_setCell _ _ _ _ hk
  have hnew : ∀ k, v.ownBlock = some k → wr.heap.size ≤ k := fun k hk => (ho.lt k hk).1
  have hgl := h.nodes.lt
  refine ⟨hN, fun i hi hv hiK => ?_, fun i j hi hj hiK hjK hij => ?_, fun i hi hiK => ?_, fun i hi => ?_, ?_, ?_⟩
  · rw [List.length_set] at hv
    by_cases e : K = i
    · subst e
      rw [List.getElem_set_self]
      refine KidsOwn.same (W := wn) ?_ fun k hk => hst k (by have := hnew k hk; omega)
      have := h.size
      exact ho.lower this
    · rw [List.getElem_set_ne e]
      have hk := h.own i hi hv (by omega)
      refine hk.same fun k hkb => ?_
      rw [hst k (fun e3 => h.off i hv (by omega) (hkb.trans (congrArg some e3)))]
      exact hb.block k (hk.lt k hkb).2
  · rw [List.length_set] at hi hj
    rw [List.getElem_set, List.getElem_set]
    have hx : ∀ t (ht : t < vs.length), t < K → ∀ k, vs[t].ownBlock = some k → k < wr.heap.size := fun t ht htK k hk => ((h.own t (by rw [← h.nodes.len]; exact ht) ht htK).lt k hk).2
    by_cases e : K = i
    · rw [if_pos e, if_neg (fun e2 => hij (e.symm.trans e2))]
      cases hq : v.ownBlock with
      | none => exact Or.inl rfl
      | some k =>
        refine Or.inr fun e3 => ?_
        have h1 := hx j hj (by omega) k e3.symm
        have h2 := hnew k hq
        omega
    · rw [if_neg e]
      by_cases e2 : K = j
      · rw [if_pos e2]
        cases hq : vs[i].ownBlock with
        | none => exact Or.inl rfl
        | some k =>
          refine Or.inr fun e3 => ?_
          have h1 := hx i hi (by omega) k hq
          have h2 := hnew k e3.symm
          omega
      · rw [if_neg e2]
        exact h.apart i j hi hj (by omega) (by omega) hij
  · rw [List.length_set] at hi
    rw [List.getElem_set]
    by_cases e : K = i
    · rw [if_pos e]
      exact fun e3 => by have := hnew g e3; omega
    · rw [if_neg e]
      exact h.off i hi (by omega)
  · rw [List.getElem?_set_ne (by omega)]
    exact h.rest i (by omega)
  · exact (h.below.trans (hb.mono h.size)).setCell hg v
  · rw [size_set]
    exact Nat.le_trans h.size hb.size
theorem CRel.done (h : CRel w3 B g cap L vs0 L.length vs wr) (hg : B ≤ g) : OwnT wr B g cap L vs :=
  ⟨h.nodes, hg, fun i hi hv => h.own i hi hv hi, fun i j hi hj hij => h.apart i j hi hj (by rw [← h.nodes.len]; exact hi) (by rw [← h.nodes.len]; exact hj) hij, fun i hi => h.off i hi (by rw [← h.nodes.len]; exact hi)⟩
end

set_option maxHeartbeats 4000000 in
theorem lcopied_any (a : Option Addr) (cap : Nat) (m b : Int) (L : List Ino) (hL : 0 < L.length) (hL2 : L.length ≤ 1000) (hk : ∀ x ∈ L, x.kids.length ≤ 4096) (w : World) (hN : NodesIn w a cap L) :
    Calls Tryz.prog 43 #[.agg #[.slice a L.length cap, .int .i64 m, .int .i64 b]] w fun e w' => ∃ g cap' vs, e = .returned (.agg #[.slice (some ⟨g, 0, none⟩) L.length cap', .int .i64 m, .int .i64 b]) ∧ OwnT w' w.heap.size g cap' L vs ∧ Below w.heap.size w w' := by
  have HN := Lib.hid hN
  have HK := Lib.hid hk
  clear hN hk
  go_enter Tryz.func43, Tryz.ntmps43
  go_wp2_with fail
  obtain ⟨w2, hw2⟩ : ∃ w2, w2 = (w.alloc (.cells #[.slice a L.length cap, .int .i64 m, .int .i64 b] 24)).alloc (.cells #[.slice none 0 0, .int .i64 0, .int .i64 0] 24) := ⟨_, rfl⟩
  have hb2 : Below w.heap.size w w2 := by rw [hw2]; exact (below_box w _).alloc (by simp) _
  have hs2 : w2.heap.size = w.heap.size + 2 := by rw [hw2]; simp
  have hA : w2.heap[w.heap.size]? = some (.cells #[.slice a L.length cap, .int .i64 m, .int .i64 b] 24 (0, 0)) := by rw [hw2, Below.heap_alloc _ _ _ (by simp)]; exact new_block _ _
  have hB : w2.heap[w.heap.size + 1]? = some (.cells #[.slice none 0 0, .int .i64 0, .int .i64 0] 24 (0, 0)) := by
    rw [hw2]
    have := new_block (w.alloc (.cells #[.slice a L.length cap, .int .i64 m, .int .i64 b] 24)) (.cells #[.slice none 0 0, .int .i64 0, .int .i64 0] 24)
    rw [World.size_alloc] at this
    exact this
  rw [← hw2]
  have HB2 := Lib.hid hb2
  have HA := Lib.hid hA
  have HBB := Lib.hid hB
  clear hw2 hb2 hA hB
  refine (lclone_nodes a cap L hL (by omega) w _ HB2.out HN.out).mono ?_
  rintro e w3 ⟨g, cap', vs, rfl, hO, hg, hkids, hb3⟩
  rw [hs2] at hg
  have hA3 : w3.heap[w.heap.size]? = _ := (hb3.block _ (by omega)).trans HA.out
  have hB3 : w3.heap[w.heap.size + 1]? = _ := (hb3.block _ (by omega)).trans HBB.out
  have a0 := blk_cell hA3 0
  have f0 := blk_free hA3 0
  obtain ⟨w4, hw4⟩ : ∃ w4, w4 = w3.setCell ⟨w.heap.size, 0, none⟩ (.slice (some ⟨g, 0, none⟩) L.length cap') := ⟨_, rfl⟩
  have hA4 : w4.heap[w.heap.size]? = some (.cells #[.slice (some ⟨g, 0, none⟩) L.length cap', .int .i64 m, .int .i64 b] 24 (0, 0)) := by rw [hw4]; exact blk_set hA3 0 _
  have hB4 : w4.heap[w.heap.size + 1]? = some (.cells #[.slice none 0 0, .int .i64 0, .int .i64 0] 24 (0, 0)) := by rw [hw4, Below.heap_setCell _ _ _ _ (show w.heap.size + 1 ≠ w.heap.size by omega)]; exact hB3
  have hb4 : Below w.heap.size w w4 := by
    rw [hw4]
    exact (HB2.out.trans (hb3.mono (by omega))).setCell (show w.heap.size ≤ w.heap.size from Nat.le_refl _) _
  have hO4 : NodesOwn w4 g cap' L vs := hO.same (by rw [hw4]; exact Below.heap_setCell _ _ _ _ (show g ≠ w.heap.size by omega))
  have hs4 : w.heap.size + 2 ≤ w4.heap.size := by rw [hw4, size_set]; have := hb3.size; omega
  have HA4 := Lib.hid hA4
  have HB4 := Lib.hid hB4
  have HBel := Lib.hid hb4
  have HO4 := Lib.hid hO4
  have HKIDS := Lib.hid hkids
  have HG := Lib.hid hg
  have HS4 := Lib.hid hs4
  clear hO hkids hb3 hA4 hB4 hb4 hO4 hs4 hA3 hB3
  go_wp2_with fail
  rw [← hw4]
  clear hw4
  go_loopw [3, 11] (fun _ iv wr => ∃ K vs', K ≤ L.length ∧ iv = .int .i64 K ∧ Hid (CRel w4 (w.heap.size + 2) g cap' L vs K vs' wr)) (fun _ iv _ => L.length - (intOf iv).toNat)
  case atStart => exact ⟨0, vs, Nat.zero_le _, rfl, HO4.out, fun _ _ _ h => absurd h (Nat.not_lt_zero _), fun _ _ _ _ h => absurd h (Nat.not_lt_zero _), fun _ _ h => absurd h (Nat.not_lt_zero _), fun _ _ => rfl, Below.refl _ _, HS4.out⟩
  case round =>
    obtain ⟨K, vs', hK, rfl, HR⟩ := hrel
    by_cases hlt : K < L.length
    · have hv : K < vs'.length := by rw [HR.out.nodes.len]; exact hlt
      have hn := HR.out.nodes.node K hlt hv
      obtain ⟨kv, hkv⟩ : ∃ kv, kv = vs'[K] := ⟨_, rfl⟩
      have hki : KidsIn wr kv L[K].kids := by
        have e := HR.out.rest K (Nat.le_refl _)
        rw [List.getElem?_eq_getElem hv, List.getElem?_eq_getElem (by rw [HO4.out.len]; exact hlt)] at e
        rw [hkv, Option.some.inj e]
        exact (HKIDS.out K hlt (by rw [HO4.out.len]; exact hlt)).below (HBel.out.trans (HR.out.below.mono (by omega)))
      have HKI := Lib.hid hki
      have hc4 := hn.kids
      rw [← hkv] at hc4
      have hf4 := HR.out.nodes.free (K * 6 + 4)
      have hgl := HR.out.nodes.lt
      have q0 : wr.cell? ⟨w.heap.size, 0, none⟩ = some (.slice (some ⟨g, 0, none⟩) L.length cap') := blk_cell ((HR.out.below.block _ (by omega)).trans HA4.out) 0
      have hq0l : w.heap.size < wr.heap.size := cell_lt q0
      have hne : (⟨g, K * 6 + 4, none⟩ : Addr) ≠ ⟨w.heap.size, 0, none⟩ := fun e => by have := (Addr.mk.inj e).1; omega
      have hlt' : (K : Int) < (L.length : Int) := by omega
      have hk0 : (0 : Int) ≤ (K : Int) := by omega
      clear hn hki hkv
      go_wp2_with fail
      go_region_with
        (first
          | (go_at_call 71; refine (lclone_kids kv L[K].kids (by have := HK.out _ (List.getElem_mem hlt); omega) wr.drew (show KidsIn wr.drew kv L[K].kids from HKI.out)).mono ?_; rintro e wn ⟨v', rfl, hO', hbn⟩; obtain ⟨va, vc, rfl⟩ := KidsOwn.form hO'; have HO' : Hid (KidsOwn wn wr.heap.size (.slice va L[K].kids.length vc) L[K].kids) := Lib.hid hO'; have hb0 : Below wr.heap.size wr wn := ⟨hbn.os, hbn.tape, hbn.output, hbn.size, hbn.block⟩; have q0 := cell_below hb0 q0; have hc4 := cell_below hb0 hc4; have hf4 : wn.frozen? ⟨g, K * 6 + 4, none⟩ = false := (Below.frozen hb0 (p := ⟨g, K * 6 + 4, none⟩) hgl).trans hf4; have HBN := Lib.hid hb0; clear hbn hO' hb0))
      all_goals
        have hst := HR.out.step (B := w.heap.size + 2) (by have := HG.out; omega) hlt HO'.out HBN.out
        have HST := Lib.hid hst
        clear hst q0 hc4 hf4
        go_wp2_with fail
        go_roundw
        case rel => exact ⟨K + 1, _, by omega, by go_num, HST.out⟩
        case measure => simp [intOf] <;> omega
    · have hKL : K = L.length := by omega
      subst hKL
      have hAr := (HR.out.below.block w.heap.size (by omega)).trans HA4.out
      have hBr := (HR.out.below.block (w.heap.size + 1) (by omega)).trans HB4.out
      have p0 := blk_cell hAr 0
      have p1 := blk_cell hAr 1
      have p2 := blk_cell hAr 2
      have r0 := blk_cell hBr 0
      have r1 := blk_cell hBr 1
      have r2 := blk_cell hBr 2
      have s0 := blk_free hBr 0
      have s1 := blk_free hBr 1
      have s2 := blk_free hBr 2
      have hgl := HR.out.nodes.lt
      have HOT := Lib.hid (HR.out.done HG.out)
      have HBE := Lib.hid (HBel.out.trans (HR.out.below.mono (show w.heap.size ≤ w.heap.size + 2 by omega)))
      have HBR := Lib.hid hBr
      clear hAr hBr
      go_wp2_with fail
      change bodyPost _ _ _ _ _ (put3 wr (w.heap.size + 1) (.slice (some ⟨g, 0, none⟩) L.length cap') (.int .i64 m) (.int .i64 b))
      obtain ⟨c0, c1, c2⟩ := put3_cells HBR.out (.slice (some ⟨g, 0, none⟩) L.length cap') (.int .i64 m) (.int .i64 b)
      have HOF := Lib.hid ((HOT.out.low (W' := put3 wr (w.heap.size + 1) (.slice (some ⟨g, 0, none⟩) L.length cap') (.int .i64 m) (.int .i64 b)) fun k hk => put3_other (by omega) _ _ _).lower (show w.heap.size ≤ w.heap.size + 2 by omega))
      have HBF := Lib.hid (put3_below HBE.out (show w.heap.size ≤ w.heap.size + 1 by omega) (.slice (some ⟨g, 0, none⟩) L.length cap') (.int .i64 m) (.int .i64 b))
      generalize put3 wr (w.heap.size + 1) (.slice (some ⟨g, 0, none⟩) L.length cap') (.int .i64 m) (.int .i64 b) = wF at *
      refine bodyPost_ret (v := .agg #[.slice (some ⟨g, 0, none⟩) L.length cap', .int .i64 m, .int .i64 b]) (by simp [results, Tryz.results43, go_sem, c0, c1, c2]) rfl ⟨g, cap', vs', rfl, HOF.out, HBF.out⟩
end Go.Proofs.YtmaiphibpdngnaaGreat

namespace Go.Proofs.YtmaiphibpdngnaaGreat
set_option maxRecDepth 100000
open Go Go.RowKit

/-- All that a tree owns lies below n. -/
structure Under (g : Nat) (vs : List Value) (n : Nat) : Prop where
  g : g < n
  own : ∀ i (hi : i < vs.length) k, vs[i].ownBlock = some k → k < n
theorem OwnT.under {W : World} {base g cap : Nat} {L : List Ino} {vs : List Value} (h : OwnT W base g cap L vs) : Under g vs W.heap.size :=
  ⟨h.nodes.lt, fun i hi k hk => ((h.kids i (by rw [← h.nodes.len]; exact hi) hi).lt k hk).2⟩

/-- A directory's names are others, in memory that was made since. -/
theorem kids_put {W w5 : World} {base g cap : Nat} {L : List Ino} {vs : List Value} (hO : OwnT W base g cap L vs) (hbase : base ≤ W.heap.size) {d : Nat} (hd : d < L.length) (hv : d < vs.length) {v : Value} {M : List (List UInt8 × Int)} (hk : KidsOwn w5 W.heap.size v M) (hb : Below W.heap.size W w5) :
    OwnT (w5.setCell ⟨g, d * 6 + 4, none⟩ v) base g cap (L.set d { L[d] with kids := M }) (vs.set d v) ∧ Below base W (w5.setCell ⟨g, d * 6 + 4, none⟩ v) ∧ ∀ j, j < W.heap.size → j ≠ g → (w5.setCell ⟨g, d * 6 + 4, none⟩ v).heap[j]? = W.heap[j]? :=
  ⟨hO.setKids hd hv (W' := w5) ⟨hb.os, hb.tape, hb.output, hb.size, fun k hk _ => hb.block k hk⟩ (hk.lower hbase) (fun k hk' => Or.inr (hk.lt k hk').1), (hb.mono hbase).setCell (show base ≤ g from hO.hbase) _, fun j hj hjg => (Below.heap_setCell _ _ _ _ hjg).trans (hb.block j hj)⟩

end Go.Proofs.YtmaiphibpdngnaaGreat

namespace Go.Proofs.YtmaiphibpdngnaaGreat
set_option maxRecDepth 100000
open Go Go.RowKit

/-- An inode as a value. -/
def newV (x : Ino) : Value := .agg #[.int .i64 x.kind, .int .i64 x.mode, .int .i64 x.links, .string ⟨x.data.toArray⟩, .slice none 0 0, .int .i64 x.up]


/-- What add tells: the tree, the inode, the error. -/
def addS (L : List Ino) (b : Int) (cwd : Int) (p : List UInt8) (X : Int → Ino) : List Ino × Int × Int :=
  if (spotW L cwd p).2.2.2 ≠ 0 then (L, 0, (spotW L cwd p).2.2.2) else
  if refuseW L (spotW L cwd p).1 (spotW L cwd p).2.2.1 (X (spotW L cwd p).1).kind ≠ 0 then (L, 0, refuseW L (spotW L cwd p).1 (spotW L cwd p).2.2.1 (X (spotW L cwd p).1).kind) else
  if freeN L < 0 ∨ b < (usedB L : Int) + (X (spotW L cwd p).1).data.length then (L, 0, 28) else
  (addL L (spotW L cwd p).1.toNat (freeN L).toNat (spotW L cwd p).2.1 { X (spotW L cwd p).1 with links := 1 }, freeN L, 0)

/-- What a call of make leaves: the tree that it tells is its own. -/
def MadeAns (base : Nat) (w : World) (m b : Int) (L' : List Ino) (rest : List Value) (e : Ending) (w' : World) : Prop :=
  (∃ g cap vs, e = .returned (.tuple (#[.agg #[.slice (some ⟨g, 0, none⟩) L'.length cap, .int .i64 m, .int .i64 b]] ++ rest.toArray)) ∧ OwnT w' base g cap L' vs) ∧ Below w.heap.size w w'

/-- The end: a tree of the call's own is laid into the result's box. -/
theorem end_made {w W : World} {g cap : Nat} {L : List Ino} {vs : List Value} (hO : OwnT W (w.heap.size + 2) g cap L vs) (hB : Below w.heap.size w W) (x y z : Value) :
    OwnT (put3 W (w.heap.size + 1) x y z) w.heap.size g cap L vs ∧ Below w.heap.size w (put3 W (w.heap.size + 1) x y z) :=
  ⟨(hO.low fun k hk => put3_other (by omega) x y z).lower (by omega), put3_below hB (by omega) x y z⟩

theorem set_both {L : List Ino} {d k : Nat} (hd : d < L.length) (hdk : d ≠ k) (x : Ino) (s : List UInt8) (z : Int) :
    (((L.set k x).set d (withKids ((L.set k x)[d]'(by rw [List.length_set]; exact hd)) (namedL ((L.set k x)[d]'(by rw [List.length_set]; exact hd)).kids s k))).set k { x with links := z }) = addL L d k s { x with links := z } := by
  have e : (L.set k x)[d]'(by rw [List.length_set]; exact hd) = L[d] := List.getElem_set_ne (fun e => hdk e.symm) _
  rw [e]
  unfold addL
  rw [node_nat L d hd, List.set_comm _ _ hdk, List.set_set]

end Go.Proofs.YtmaiphibpdngnaaGreat

namespace Go.Proofs.YtmaiphibpdngnaaGreat
set_option maxRecDepth 100000
open Go Go.RowKit

/-- Three boxes that are laid one behind the other. -/
theorem three_boxes (w : World) (A B C : Array Value) (s t u : TypeId) : ∃ w2, w2 = ((w.alloc (.cells A s)).alloc (.cells B t)).alloc (.cells C u) ∧ Below w.heap.size w w2 ∧ w2.heap.size = w.heap.size + 3 ∧ w2.heap[w.heap.size]? = some (.cells A s (0, 0)) ∧ w2.heap[w.heap.size + 1]? = some (.cells B t (0, 0)) ∧ w2.heap[w.heap.size + 2]? = some (.cells C u (0, 0)) := by
  obtain ⟨w1, e1, b1, s1, h1, h2⟩ := two_boxes w A B s t
  refine ⟨w1.alloc (.cells C u), by rw [e1], b1.alloc (by omega) _, by rw [World.size_alloc, s1], ?_, ?_, ?_⟩
  · rw [Below.heap_alloc _ _ _ (by omega)]; exact h1
  · rw [Below.heap_alloc _ _ _ (by omega)]; exact h2
  · have := new_block w1 (.cells C u)
    rw [s1] at this
    exact this
theorem end_made3 {w W : World} {base g cap c : Nat} {L : List Ino} {vs : List Value} (hO : OwnT W base g cap L vs) (hB : Below w.heap.size w W) (hc : c < base) (hc2 : w.heap.size ≤ c) (x y z : Value) :
    OwnT (put3 W c x y z) w.heap.size g cap L vs ∧ Below w.heap.size w (put3 W c x y z) :=
  ⟨(hO.low fun k hk => put3_other (by omega) x y z).lower (by omega), put3_below hB hc2 x y z⟩

/-! ### The words of the landed code and the chapter's -/

theorem spot_fresh (L : List Ino) (cwd : Int) (p : List UInt8) : freshW L cwd p false = if (freshW L cwd p true).2.2 ≠ 0 then freshW L cwd p true else if endL p = true then (0, [], 20) else freshW L cwd p true := by
  unfold freshW
  split
  · rename_i h; simp []
  · split
    · simp
    · split
      · simp
      · split
        · simp
        · cases endL p <;> simp
theorem fresh_zero {L : List Ino} {cwd : Int} {p : List UInt8} {dirs : Bool} (h : (freshW L cwd p dirs).2.2 ≠ 0) : freshW L cwd p dirs = (0, [], (freshW L cwd p dirs).2.2) := by
  unfold freshW at h ⊢
  split
  · rfl
  · rename_i h1
    rw [if_neg h1] at h
    split
    · rfl
    · rename_i h2
      rw [if_neg h2] at h
      split
      · rfl
      · rename_i h3
        rw [if_neg h3] at h
        split
        · rfl
        · rename_i h4
          rw [if_neg h4] at h
          split
          · rfl
          · rename_i h5
            rw [if_neg h5] at h
            exact absurd rfl h
/-- add tells what the chapter says of a new inode of a new name. -/
theorem addS_words {L : List Ino} {m b : Int} (hF : FitP L m b) (cwd : Int) (p : List UInt8) (X : Int → Ino) (dirs : Bool) (hd : ∀ d, dirs = true ↔ (X d).kind = 2) :
    addS L b cwd p X = if (freshW L cwd p dirs).2.2 ≠ 0 then (L, 0, (freshW L cwd p dirs).2.2) else if b < (usedB L : Int) + (X (freshW L cwd p dirs).1).data.length then (L, 0, 28) else addedW L (freshW L cwd p dirs).1 (freshW L cwd p dirs).2.1 (X (freshW L cwd p dirs).1) := by
  unfold addS spotW
  by_cases h0 : (freshW L cwd p true).2.2 = 0
  · obtain ⟨d, s, hdl, hp, hf, -⟩ := fresh_ok hF h0
    have hdd := hd (d : Int)
    have key : ∀ (f : Int × List UInt8 × Int), f = ((d : Int), s, 0) → (if 1024 ≤ (nodeAt L (d : Int)).kids.length then (L, (0 : Int), (28 : Int)) else if freeN L < 0 ∨ b < (usedB L : Int) + (X (d : Int)).data.length then (L, 0, 28) else (addL L d (freeN L).toNat s { X (d : Int) with links := 1 }, freeN L, 0)) =
        (if b < (usedB L : Int) + (X f.1).data.length then (L, 0, 28) else addedW L f.1 f.2.1 (X f.1)) := fun f hf => by
      rw [hf]
      show _ = if b < (usedB L : Int) + (X (d : Int)).data.length then (L, 0, 28) else addedW L (d : Int) s (X (d : Int))
      unfold addedW freeN
      by_cases h1 : 1024 ≤ (nodeAt L (d : Int)).kids.length
      · rw [if_pos h1, if_pos h1]
        split <;> rfl
      · rw [if_neg h1, if_neg h1]
        cases freeW L L.length 0 with
        | none =>
          rw [if_pos (Or.inl (by decide))]
          split <;> rfl
        | some k =>
          by_cases h2 : b < (usedB L : Int) + (X (d : Int)).data.length
          · rw [if_pos (Or.inr h2), if_pos h2]
          · rw [if_neg h2, if_neg (by rintro (h3 | h3); · simp only at h3; omega
                                      · exact h2 h3)]
            rfl
    rw [hf]
    simp only [ne_eq, not_true_eq_false, if_false]
    cases dirs with
    | true =>
      have hk : (X (d : Int)).kind = 2 := hdd.1 rfl
      have hr : refuseW L (d : Int) (endL p) (X (d : Int)).kind = if 1024 ≤ (nodeAt L (d : Int)).kids.length then 28 else 0 := by
        unfold refuseW
        rw [if_neg (by simp [hk])]
      have hq := key ((d : Int), s, 0) rfl
      rw [hf, hr]
      by_cases h1 : 1024 ≤ (nodeAt L (d : Int)).kids.length
      · rw [if_pos h1] at hq ⊢
        exact hq
      · rw [if_neg h1] at hq ⊢
        exact hq
    | false =>
      have hk : (X (d : Int)).kind ≠ 2 := fun e => by have := hdd.2 e; cases this
      have hq := key ((d : Int), s, 0) rfl
      rw [spot_fresh, hf]
      cases he : endL p with
      | true =>
        have hr : refuseW L (d : Int) true (X (d : Int)).kind = 20 := by
          unfold refuseW
          rw [if_pos ⟨rfl, hk⟩]
        rw [hr]
        rfl
      | false =>
        have hr : refuseW L (d : Int) false (X (d : Int)).kind = if 1024 ≤ (nodeAt L (d : Int)).kids.length then 28 else 0 := by
          unfold refuseW
          rw [if_neg (by simp)]
        rw [hr]
        by_cases h1 : 1024 ≤ (nodeAt L (d : Int)).kids.length
        · rw [if_pos h1] at hq ⊢
          exact hq
        · rw [if_neg h1] at hq ⊢
          exact hq
  · rw [if_pos h0]
    simp only [ne_eq, h0, not_false_eq_true, if_true]
    cases dirs with
    | true => simp [h0]
    | false => rw [spot_fresh]; simp [h0]
theorem mkdir_words {L : List Ino} {m b : Int} (hF : FitP L m b) (cwd : Int) (p : List UInt8) (q : Int) (h : modeB q = true) : mkdirW L cwd p q = addS L b cwd p (fun d => newIno 2 q [] d) := by
  obtain ⟨-, -, -, l4, -⟩ := hF.limits
  rw [addS_words hF cwd p _ true (fun d => by simp [newIno])]
  unfold mkdirW
  rw [if_neg (by simp [h])]
  split
  · rfl
  · show _ = if b < (usedB L : Int) + (0 : Nat) then _ else _
    rw [if_neg (by omega)]
theorem create_words {L : List Ino} {m b : Int} (hF : FitP L m b) (cwd : Int) (p : List UInt8) (q : Int) (h : modeB q = true) : createW L cwd p q = addS L b cwd p (fun _ => newIno 1 q [] 0) := by
  obtain ⟨-, -, -, l4, -⟩ := hF.limits
  rw [addS_words hF cwd p _ false (fun d => by simp [newIno])]
  unfold createW
  rw [if_neg (by simp [h])]
  split
  · rfl
  · show _ = if b < (usedB L : Int) + (0 : Nat) then _ else _
    rw [if_neg (by omega)]
theorem symlink_words {L : List Ino} {m b : Int} (hF : FitP L m b) (cwd : Int) (to p : List UInt8) (h1 : to ≠ []) (h2 : to.any (fun c => c == 0) = false) (h3 : to.length ≤ 1024) : symlinkW L b cwd to p = addS L b cwd p (fun _ => newIno 3 7 to 0) := by
  rw [addS_words hF cwd p _ false (fun d => by simp [newIno])]
  unfold symlinkW
  rw [if_neg (by simp [h1, h2]), if_neg (by omega)]
  rfl
end Go.Proofs.YtmaiphibpdngnaaGreat

namespace Go.Proofs.YtmaiphibpdngnaaGreat
set_option maxRecDepth 100000
open Go Go.RowKit



end Go.Proofs.YtmaiphibpdngnaaGreat

namespace Go.Proofs.YtmaiphibpdngnaaGreat
set_option maxRecDepth 100000
open Go Go.RowKit

theorem any_zero (l : List UInt8) : l.any (fun c => c == 0) = decide (0 ≤ Lib.indexByte l 0) := by
  have h := none_of l 0
  have e : l.any (fun c => c == 0) = !(l.all fun x => x != 0) := by
    induction l with
    | nil => rfl
    | cons a r ih =>
      have ih' := ih (none_of r 0)
      simp only [List.any_cons, List.all_cons, ih']
      cases ha : (a == 0) <;> simp [bne, ha]
  rw [e, ← h]
  by_cases h0 : Lib.indexByte l 0 < 0
  · rw [decide_eq_true h0, decide_eq_false (by omega)]; rfl
  · rw [decide_eq_false h0, decide_eq_true (by omega)]; rfl

end Go.Proofs.YtmaiphibpdngnaaGreat

namespace Go.Proofs.YtmaiphibpdngnaaGreat
set_option maxRecDepth 100000
open Go Go.RowKit


end Go.Proofs.YtmaiphibpdngnaaGreat

namespace Go.Proofs.YtmaiphibpdngnaaGreat
set_option maxRecDepth 100000
open Go Go.RowKit

theorem few_names {L : List Ino} {m b : Int} (hF : FitP L m b) (c : Int) : namesOf (kidsOf L) c ≤ 262144 := by
  have h1 : ∀ (M : List (List UInt8 × Int)), namesOf M c ≤ M.length := fun M => by
    induction M with
    | nil => exact Nat.le_refl _
    | cons e r ih => rw [names_cons, List.length_cons]; split <;> omega
  have h2 : ∀ (l : List Ino), (∀ x ∈ l, x.kids.length ≤ 1024) → (kidsOf l).length ≤ 1024 * l.length := fun l => by
    induction l with
    | nil => exact fun _ => Nat.le_refl _
    | cons x r ih =>
      intro h
      have e1 := ih (fun y hy => h y (List.mem_cons_of_mem _ hy))
      have e2 := h x List.mem_cons_self
      show (x.kids ++ kidsOf r).length ≤ 1024 * (r.length + 1)
      rw [List.length_append]
      omega
  have h3 := h1 (kidsOf L)
  have h4 := h2 L (fun x hx => by obtain ⟨j, hj, rfl⟩ := List.getElem_of_mem hx; exact (hF.ins j hj).2.1)
  obtain ⟨l1, l2, l3, l4, l5⟩ := hF.limits
  omega
/-- A tree in which an inode has one more name. -/
theorem link_both {L : List Ino} {d k : Nat} (hd : d < L.length) (hk : k < L.length) (hdk : d ≠ k) (s : List UInt8) :
    ((L.set d (withKids L[d] (namedL L[d].kids s k))).set k { L[k] with links := L[k].links + 1 }) = addL L d k s { nodeAt L (k : Int) with links := (nodeAt L (k : Int)).links + 1 } := by
  unfold addL
  rw [node_nat L d hd, node_nat L k hk, List.set_comm _ _ hdk]
/-- What Link tells, in the order in which the code asks. -/
theorem link_words {L : List Ino} {m b : Int} (hF : FitP L m b) (cwd : Int) (old p : List UInt8) (k : Nat) (hk : k < L.length) (hw : walkW L cwd old false = ((k : Int), 0)) (h2 : L[k].kind ≠ 2) :
    linkW L cwd old p = if (spotW L cwd p).2.2.2 ≠ 0 then (L, (spotW L cwd p).2.2.2) else if refuseW L (spotW L cwd p).1 (spotW L cwd p).2.2.1 L[k].kind ≠ 0 then (L, refuseW L (spotW L cwd p).1 (spotW L cwd p).2.2.1 L[k].kind) else
      (addL L (spotW L cwd p).1.toNat k (spotW L cwd p).2.1 { nodeAt L (k : Int) with links := (nodeAt L (k : Int)).links + 1 }, 0) := by
  unfold linkW
  rw [hw]
  simp only [ne_eq, not_true_eq_false, if_false]
  rw [if_neg (by rw [node_nat L k hk]; exact h2)]
  unfold spotW
  by_cases h0 : (freshW L cwd p true).2.2 = 0
  · obtain ⟨d, s, hdl, hp, hf, -⟩ := fresh_ok hF h0
    rw [spot_fresh, hf]
    simp only [ne_eq, not_true_eq_false, if_false]
    cases he : endL p with
    | true =>
      have hr : refuseW L (d : Int) true L[k].kind = 20 := by
        unfold refuseW
        rw [if_pos ⟨rfl, h2⟩]
      rw [hr]
      rfl
    | false =>
      have hr : refuseW L (d : Int) false L[k].kind = if 1024 ≤ (nodeAt L (d : Int)).kids.length then 28 else 0 := by
        unfold refuseW
        rw [if_neg (by simp)]
      rw [hr]
      by_cases h1 : 1024 ≤ (nodeAt L (d : Int)).kids.length
      · simp [h1]
      · simp [h1]
  · rw [spot_fresh]
    simp [h0]

end Go.Proofs.YtmaiphibpdngnaaGreat

namespace Go.Proofs.YtmaiphibpdngnaaGreat
set_option maxRecDepth 100000
open Go Go.RowKit

/-- What a new name of a new inode is. -/
structure MadeOk (L : List Ino) (m b : Int) (cwd : Int) (p : List UInt8) (x : Ino) (L' : List Ino) (k : Int) : Prop where
  made : ∃ (d : Nat) (s : List UInt8) (j : Nat), k = (j : Int) ∧ parentW L cwd p = ((d : Int), s, 0) ∧ L' = addL L d j s { x with links := 1 } ∧ (∃ h : j < L.length, L[j].kind = 0) ∧ Adds L m b d j s { x with links := 1 } ∧ j ≠ 0
theorem used_one : ∀ (L : List Ino) (k : Nat) (h : k < L.length), L[k].data.length ≤ usedB L
  | x :: r, 0, _ => by show x.data.length ≤ x.data.length + usedB r; omega
  | x :: r, k + 1, h => by
    have := used_one r k (Nat.lt_of_succ_lt_succ h)
    show (r[k]'(Nat.lt_of_succ_lt_succ h)).data.length ≤ x.data.length + usedB r
    omega
/-- A fit tree's texts are short. -/
theorem sized_fit {L : List Ino} {m b : Int} (hF : FitP L m b) : Sized L := fun k hk => by
  obtain ⟨l1, l2, l3, l4, l5⟩ := hF.limits
  have h1 := used_one L k hk
  refine ⟨by omega, fun e he => ?_⟩
  have := (name_parts (name_of hF.ins hk he).1).2.2.2.1
  omega
theorem root_used {L : List Ino} {m b : Int} (hF : FitP L m b) (h : 0 < L.length) : L[0].kind = 2 := (dir_nat (n := 0) h).1 hF.root
theorem added_ok {L : List Ino} {m b : Int} (hF : FitP L m b) {cwd : Int} {p : List UInt8} {dirs : Bool} (h : (freshW L cwd p dirs).2.2 = 0) {x : Ino} (ha : aloneB { x with links := 1 } = true) (h0 : x.kind ≠ 0) (hkids : x.kids = []) (hup : x.kind = 2 → x.up = (freshW L cwd p dirs).1) (hub : (usedB L : Int) + x.data.length ≤ b)
    {L' : List Ino} {k e : Int} (hz : addedW L (freshW L cwd p dirs).1 (freshW L cwd p dirs).2.1 x = (L', k, e)) : (e = 0 → MadeOk L m b cwd p x L' k) ∧ (e ≠ 0 → L' = L ∧ k = 0) := by
  obtain ⟨d, s, hd, hp, hf, hdir, hs, hn, -⟩ := fresh_ok hF h
  rw [hf] at hz hup
  unfold addedW at hz
  split at hz
  · cases hz
    exact ⟨(fun h => by cases h), fun _ => ⟨rfl, rfl⟩⟩
  · rename_i hroom
    have hroom' : L[d].kids.length < 1024 := by
      have h1 : ¬ 1024 ≤ (nodeAt L (d : Int)).kids.length := hroom
      rw [node_nat L d hd] at h1
      omega
    split at hz
    · cases hz
      exact ⟨(fun h => by cases h), fun _ => ⟨rfl, rfl⟩⟩
    · rename_i j hj
      obtain ⟨hjl, hj0, hA⟩ := added_adds hF hd hdir hs hn hj hroom' ha h0 hkids hup hub
      cases hz
      refine ⟨fun _ => ⟨d, s, j, rfl, hp, by rw [Int.toNat_natCast], ⟨hjl, hj0⟩, hA, fun e => ?_⟩, fun h => absurd rfl h⟩
      subst e
      rw [root_used hF hjl] at hj0
      cases hj0
theorem fresh_or {L : List Ino} {cwd : Int} {p : List UInt8} {dirs : Bool} {A B : List Ino × Int × Int} {z : List Ino × Int × Int} (h : (if (freshW L cwd p dirs).2.2 ≠ 0 then A else B) = z) : ((freshW L cwd p dirs).2.2 ≠ 0 ∧ A = z) ∨ ((freshW L cwd p dirs).2.2 = 0 ∧ B = z) := by
  by_cases h0 : (freshW L cwd p dirs).2.2 = 0
  · rw [if_neg (by simp [h0])] at h
    exact Or.inr ⟨h0, h⟩
  · rw [if_pos h0] at h
    exact Or.inl ⟨h0, h⟩
theorem mkdir_made {L : List Ino} {m b : Int} (hF : FitP L m b) {cwd : Int} {p : List UInt8} {q : Int} {L' : List Ino} {k e : Int} (hz : mkdirW L cwd p q = (L', k, e)) : (e = 0 → modeB q = true ∧ ∃ u, MadeOk L m b cwd p (newIno 2 q [] u) L' k) ∧ (e ≠ 0 → L' = L ∧ k = 0) := by
  obtain ⟨-, -, -, l4, -⟩ := hF.limits
  unfold mkdirW at hz
  split at hz
  · cases hz
    exact ⟨(fun h => by cases h), fun _ => ⟨rfl, rfl⟩⟩
  · rename_i hq
    have hq' : modeB q = true := by simpa using hq
    rcases fresh_or hz with ⟨h1, h2⟩ | ⟨h1, h2⟩
    · cases h2
      exact ⟨fun h => absurd h h1, fun _ => ⟨rfl, rfl⟩⟩
    · have := added_ok hF h1 (x := newIno 2 q [] (freshW L cwd p true).1) (alone_dir q _ hq') (by show (2 : Int) ≠ 0; decide) rfl (fun _ => rfl) (by show (usedB L : Int) + (0 : Nat) ≤ b; omega) h2
      exact ⟨fun h => ⟨hq', _, this.1 h⟩, this.2⟩
theorem create_made {L : List Ino} {m b : Int} (hF : FitP L m b) {cwd : Int} {p : List UInt8} {q : Int} {L' : List Ino} {k e : Int} (hz : createW L cwd p q = (L', k, e)) : (e = 0 → modeB q = true ∧ MadeOk L m b cwd p (newIno 1 q [] 0) L' k) ∧ (e ≠ 0 → L' = L ∧ k = 0) := by
  obtain ⟨-, -, -, l4, -⟩ := hF.limits
  unfold createW at hz
  split at hz
  · cases hz
    exact ⟨(fun h => by cases h), fun _ => ⟨rfl, rfl⟩⟩
  · rename_i hq
    have hq' : modeB q = true := by simpa using hq
    rcases fresh_or hz with ⟨h1, h2⟩ | ⟨h1, h2⟩
    · cases h2
      exact ⟨fun h => absurd h h1, fun _ => ⟨rfl, rfl⟩⟩
    · have := added_ok hF h1 (x := newIno 1 q [] 0) (alone_file q hq') (by show (1 : Int) ≠ 0; decide) rfl (fun h => by cases h) (by show (usedB L : Int) + (0 : Nat) ≤ b; omega) h2
      exact ⟨fun h => ⟨hq', this.1 h⟩, this.2⟩
theorem symlink_made {L : List Ino} {m b : Int} (hF : FitP L m b) {cwd : Int} {to p : List UInt8} {L' : List Ino} {k e : Int} (hz : symlinkW L b cwd to p = (L', k, e)) : (e = 0 → MadeOk L m b cwd p (newIno 3 7 to 0) L' k) ∧ (e ≠ 0 → L' = L ∧ k = 0) := by
  unfold symlinkW at hz
  split at hz
  · cases hz
    exact ⟨(fun h => by cases h), fun _ => ⟨rfl, rfl⟩⟩
  · rename_i h1
    split at hz
    · cases hz
      exact ⟨(fun h => by cases h), fun _ => ⟨rfl, rfl⟩⟩
    · rename_i h2
      rcases fresh_or hz with ⟨h3, h4⟩ | ⟨h3, h4⟩
      · cases h4
        exact ⟨fun h => absurd h h3, fun _ => ⟨rfl, rfl⟩⟩
      · split at h4
        · cases h4
          exact ⟨(fun h => by cases h), fun _ => ⟨rfl, rfl⟩⟩
        · rename_i h5
          exact added_ok hF h3 (x := newIno 3 7 to 0) (alone_link to (fun e => h1 (Or.inl e)) (by cases h : to.any (fun c => c == 0) with | false => rfl | true => exact absurd (Or.inr h) h1) (by omega)) (by show (3 : Int) ≠ 0; decide) rfl (fun h => by cases h) (by show (usedB L : Int) + to.length ≤ b; omega) h4
theorem MadeOk.fits {L : List Ino} {m b : Int} {cwd : Int} {p : List UInt8} {x : Ino} {L' : List Ino} {k : Int} (h : MadeOk L m b cwd p x L' k) : FitP L' m b := by
  obtain ⟨d, s, j, -, -, rfl, -, hA, -⟩ := h.made
  exact hA.fits
theorem link_made {L : List Ino} {m b : Int} (hF : FitP L m b) {cwd : Int} {old p : List UInt8} {L' : List Ino} {e : Int} (hz : linkW L cwd old p = (L', e)) :
    (e = 0 → ∃ (d : Nat) (s : List UInt8) (k : Nat) (hk : k < L.length), walkW L cwd old false = ((k : Int), 0) ∧ parentW L cwd p = ((d : Int), s, 0) ∧ L' = addL L d k s { L[k] with links := L[k].links + 1 } ∧ Adds L m b d k s { L[k] with links := L[k].links + 1 }) ∧ (e ≠ 0 → L' = L) := by
  unfold linkW at hz
  split at hz
  · rename_i h1
    cases hz
    exact ⟨fun h => absurd h h1, fun _ => rfl⟩
  · rename_i h1
    have h1' : (walkW L cwd old false).2 = 0 := by simpa using h1
    obtain ⟨k, hk, hwk, hk0⟩ := live_ino (walk_live hF h1')
    split at hz
    · cases hz
      exact ⟨(fun h => by cases h), fun _ => rfl⟩
    · rename_i h2
      rw [hwk, node_nat L k hk] at h2
      split at hz
      · rename_i h3
        cases hz
        exact ⟨fun h => absurd h h3, fun _ => rfl⟩
      · rename_i h3
        have h3' : (freshW L cwd p false).2.2 = 0 := by simpa using h3
        obtain ⟨d, s, hd, hp, hf, hdir, hs, hn, -⟩ := fresh_ok hF h3'
        rw [hf, hwk, node_nat L k hk] at hz
        split at hz
        · cases hz
          exact ⟨(fun h => by cases h), fun _ => rfl⟩
        · rename_i h4
          have hroom : L[d].kids.length < 1024 := by
            have h5 : ¬ 1024 ≤ (nodeAt L (d : Int)).kids.length := h4
            rw [node_nat L d hd] at h5
            omega
          cases hz
          refine ⟨fun _ => ⟨d, s, k, hk, Prod.ext hwk h1', hp, by rw [Int.toNat_natCast, Int.toNat_natCast], link_adds hF hd hdir hs hn hroom hk hk0 h2⟩, fun h => absurd rfl h⟩
theorem chmod_made {L : List Ino} {m b : Int} (hF : FitP L m b) {cwd : Int} {p : List UInt8} {q : Int} {L' : List Ino} {e : Int} (hz : chmodW L cwd p q = (L', e)) :
    (e = 0 → ∃ (k : Nat) (hk : k < L.length), walkW L cwd p true = ((k : Int), 0) ∧ L' = L.set k { L[k] with mode := q } ∧ Puts L m b k { L[k] with mode := q }) ∧ (e ≠ 0 → L' = L) := by
  unfold chmodW at hz
  split at hz
  · cases hz
    exact ⟨(fun h => by cases h), fun _ => rfl⟩
  · rename_i hq
    have hq' : modeB q = true := by simpa using hq
    split at hz
    · rename_i h1
      cases hz
      exact ⟨fun h => absurd h h1, fun _ => rfl⟩
    · rename_i h1
      have h1' : (walkW L cwd p true).2 = 0 := by simpa using h1
      obtain ⟨k, hk, hwk, hk0⟩ := live_ino (walk_live hF h1')
      rw [hwk, node_nat L k hk] at hz
      cases hz
      refine ⟨fun _ => ⟨k, hk, Prod.ext hwk h1', by rw [Int.toNat_natCast], mode_puts hF hk hk0 hq'⟩, fun h => absurd rfl h⟩
end Go.Proofs.YtmaiphibpdngnaaGreat

namespace Go.Proofs.YtmaiphibpdngnaaGreat
set_option maxRecDepth 100000
open Go Go.RowKit

def aw0 : List Ino := (newT 8 100).nodes
def aw1 : List Ino := (mkdirW aw0 0 [97] 7).1
def aw2 : List Ino := (createW aw1 0 [97, 47, 102] 6).1
def aw3 : List Ino := (linkW aw2 0 [97, 47, 102] [103]).1
theorem aw_mk : mkdirW aw0 0 [97] 7 = (aw1, 1, 0) := Prod.ext rfl (by decide +kernel)
theorem aw_cr : createW aw1 0 [97, 47, 102] 6 = (aw2, 2, 0) := Prod.ext rfl (by decide +kernel)
theorem aw_ln : linkW aw2 0 [97, 47, 102] [103] = (aw3, 0) := Prod.ext rfl (by decide +kernel)
theorem aw_fit0 : FitP aw0 8 100 := new_fit (n := 8) (b := 100) (by decide) (by decide) (by decide) (by decide)
theorem aw_fit1 : FitP aw1 8 100 := by
  obtain ⟨-, u, h⟩ := (mkdir_made aw_fit0 aw_mk).1 rfl
  exact h.fits
theorem aw_fit2 : FitP aw2 8 100 := ((create_made aw_fit1 aw_cr).1 rfl).2.fits
theorem aw_fit3 : FitP aw3 8 100 := by
  obtain ⟨d, s, k, hk, -, -, h, hA⟩ := (link_made aw_fit2 aw_ln).1 rfl
  rw [h]
  exact hA.fits
theorem aw_len : aw0.length = 8 ∧ aw1.length = 8 ∧ aw2.length = 8 ∧ aw3.length = 8 := by decide +kernel
theorem aw_used : usedN aw3 = 3 := by decide +kernel
theorem aw_links : (nodeAt aw3 2).links = 2 := by decide +kernel
theorem aw_again : (mkdirW aw3 0 [97] 7).2 = (0, 17) := by decide +kernel

theorem MadeAns.three {base : Nat} {w w' : World} {m b k z : Int} {L' : List Ino} {e : Ending} (h : MadeAns base w m b L' [.int .i64 k, .int .i64 z] e w') :
    ∃ g cap vs, e = .returned (.tuple #[.agg #[.slice (some ⟨g, 0, none⟩) L'.length cap, .int .i64 m, .int .i64 b], .int .i64 k, .int .i64 z]) ∧ OwnT w' base g cap L' vs ∧ Below w.heap.size w w' := by
  obtain ⟨⟨g, cap, vs, he, hO⟩, hb⟩ := h
  exact ⟨g, cap, vs, he, hO, hb⟩
theorem MadeAns.two {base : Nat} {w w' : World} {m b z : Int} {L' : List Ino} {e : Ending} (h : MadeAns base w m b L' [.int .i64 z] e w') :
    ∃ g cap vs, e = .returned (.tuple #[.agg #[.slice (some ⟨g, 0, none⟩) L'.length cap, .int .i64 m, .int .i64 b], .int .i64 z]) ∧ OwnT w' base g cap L' vs ∧ Below w.heap.size w w' := by
  obtain ⟨⟨g, cap, vs, he, hO⟩, hb⟩ := h
  exact ⟨g, cap, vs, he, hO, hb⟩

end Go.Proofs.YtmaiphibpdngnaaGreat

namespace Go.Proofs.YtmaiphibpdngnaaGreat
set_option maxRecDepth 100000
open Go Go.RowKit

set_option maxHeartbeats 1000000 in
theorem ldisdir_known (a : Option Addr) (cap : Nat) (m b k : Int) (L : List Ino) (v : Bool) (hv : dirB L k = v) (w : World) (hN : NodesIn w a cap L) :
    Calls Tryz.prog 32 #[.agg #[.slice a L.length cap, .int .i64 m, .int .i64 b], .int .i64 k] w fun e w' => e = .returned (.bool v) ∧ Below w.heap.size w w' := by
  subst hv
  have hb1 := below_box w (.cells #[.slice a L.length cap, .int .i64 m, .int .i64 b] 24)
  have HB1 := Lib.hid hb1
  have hcap := hN.1
  have hmax := hN.2.1
  unfold maxLen at hmax
  cases ht : thereB L k with
  | true =>
    obtain ⟨n, rfl, hn⟩ := there_nat ht
    obtain ⟨bb, o, rfl, hx⟩ := (hN.below hb1).2.2 n hn
    have h1 := hx.kind
    have hd0 : (0 : Int) ≤ (n : Int) := by omega
    have hd1 : (n : Int) < (L.length : Int) := by omega
    have HV := Lib.hid (show dirB L (n : Int) = (L[n].kind == 2) by unfold dirB; rw [ht, node_nat L n hn, Bool.true_and])
    clear hN hb1 ht hx
    go_enter Tryz.func32, Tryz.ntmps32
    go_wp2_with fail
    go_ret
    exact ⟨by rw [HV.out]; rfl, HB1.out⟩
  | false =>
    have HV := Lib.hid (show dirB L k = false by unfold dirB; rw [ht]; rfl)
    rcases there_not ht with h | h
    · clear hN hb1 ht
      go_enter Tryz.func32, Tryz.ntmps32
      go_wp2_with fail
      go_ret
      exact ⟨by rw [HV.out]; rfl, HB1.out⟩
    · have h0 : (0 : Int) ≤ k := by omega
      clear hN hb1 ht
      go_enter Tryz.func32, Tryz.ntmps32
      go_wp2_with fail
      go_ret
      exact ⟨by rw [HV.out]; rfl, HB1.out⟩

set_option maxHeartbeats 1000000 in
theorem lhaskids_known (a : Option Addr) (cap : Nat) (m b : Int) (d : Nat) (L : List Ino) (hd : d < L.length) (v : Bool) (hv : decide (0 < (nodeAt L (d : Int)).kids.length) = v) (w : World) (hN : NodesIn w a cap L) :
    Calls Tryz.prog 41 #[.agg #[.slice a L.length cap, .int .i64 m, .int .i64 b], .int .i64 d] w fun e w' => e = .returned (.bool v) ∧ Below w.heap.size w w' := by
  subst hv
  have hb1 := below_box w (.cells #[.slice a L.length cap, .int .i64 m, .int .i64 b] 24)
  have HB1 := Lib.hid hb1
  have hcap := hN.1
  have hmax := hN.2.1
  unfold maxLen at hmax
  obtain ⟨bb, o, rfl, hx⟩ := (hN.below hb1).2.2 d hd
  obtain ⟨kv, h4, hks⟩ := hx.kids
  obtain ⟨K, hK⟩ : ∃ K, K = L[d].kids := ⟨_, rfl⟩
  rw [← hK] at hks
  obtain ⟨ka, kcap, rfl, hkc, hkm, -⟩ := hks
  have HKK := Lib.hid (show (nodeAt L (d : Int)).kids = K by rw [node_nat L d hd, hK])
  have hlt' : (d : Int) < (L.length : Int) := by omega
  have hk0 : (0 : Int) ≤ (d : Int) := by omega
  unfold maxLen at hkm
  clear hx hN hb1 hK
  go_enter Tryz.func41, Tryz.ntmps41
  go_wp2_with fail
  go_ret
  refine ⟨?_, HB1.out⟩
  rw [HKK.out]
  congr 2

/-- A kind of error: what is told, the closure that asks, its answer. -/
structure Ask where
  err : Int
  fid : FuncId
  lb : Array Value
  ans : Bool
def firstW : List Ask → Int
  | [] => 0
  | x :: r => if x.ans then x.err else firstW r
theorem first_drop (A : List Ask) (k : Nat) (h : k < A.length) : firstW (A.drop k) = if A[k].ans then A[k].err else firstW (A.drop (k + 1)) := by
  rw [List.drop_eq_getElem_cons h]
  rfl

set_option maxHeartbeats 2000000 in
theorem lfirst_any (A : List Ask) (hA : A.length ≤ 1000) (g cap : Nat) (hcap : A.length ≤ cap) (hcm : cap ≤ 1000000) (w : World)
    (hc : ∀ i (hi : i < A.length), w.cell? ⟨g, i * 2, none⟩ = some (.int .i64 A[i].err) ∧ w.cell? ⟨g, i * 2 + 1, none⟩ = some (.func (.func A[i].fid) #[] A[i].lb))
    (hf : ∀ i (hi : i < A.length), (∀ args w, (callFunc A[i].fid args).run Tryz.prog w = .ok (.enter A[i].fid args) w) ∧ ∀ W, Below w.heap.size w W → Calls Tryz.prog A[i].fid A[i].lb W fun e w' => e = .returned (.bool A[i].ans) ∧ Below W.heap.size W w') :
    Calls Tryz.prog 46 #[.slice (some ⟨g, 0, none⟩) A.length cap] w fun e w' => e = .returned (.int .i64 (firstW A)) ∧ Below w.heap.size w w' := by
  have HC := Lib.hid hc
  have HF := Lib.hid hf
  clear hc hf
  go_enter Tryz.func46, Tryz.ntmps46
  go_wp2_with fail
  go_loopw [2, 4, 7] (fun _ _ iv wr => ∃ k : Nat, k ≤ A.length ∧ iv = .int .i64 k ∧ Hid (firstW A = firstW (A.drop k)) ∧ Below w.heap.size w wr) (fun _ _ iv _ => A.length - (intOf iv).toNat)
  case atStart => exact ⟨0, by omega, rfl, Lib.hid rfl, Below.refl _ _⟩
  case round =>
    obtain ⟨k, hk, rfl, HE, hb⟩ := hrel
    have HB := Lib.hid hb
    have hsz := hb.size
    clear hb
    by_cases hlt : k < A.length
    · have hlz : (k : Int) < (A.length : Int) := by omega
      have hk0 : (0 : Int) ≤ (k : Int) := by omega
      obtain ⟨z0, z1⟩ := HC.out k hlt
      obtain ⟨eg, hcall⟩ := HF.out k hlt
      have hst := first_drop A k hlt
      obtain ⟨⟨er, fid, lb, ans⟩, hx⟩ : ∃ x, A[k] = x := ⟨_, rfl⟩
      rw [hx] at z0 z1 eg hcall hst
      simp only at z0 z1 eg hcall hst
      have HST := Lib.hid hst
      have y0 := cell_below HB.out z0
      have y1 := cell_below HB.out z1
      have hyl := cell_lt y0
      obtain ⟨w2, hw2⟩ : ∃ w2, w2 = wr.alloc (.cells #[.int .i64 er, .func (.func fid) #[] lb] 66) := ⟨_, rfl⟩
      have hb2 : Below wr.heap.size wr w2 := by rw [hw2]; exact below_box wr _
      have hM2 : w2.heap[wr.heap.size]? = some (.cells #[.int .i64 er, .func (.func fid) #[] lb] 66 (0, 0)) := by rw [hw2]; exact new_block wr _
      have HB2 := Lib.hid (HB.out.trans (hb2.mono hsz))
      have HCALL := Lib.hid (hcall w2 HB2.out)
      rw [hw2] at HCALL
      have HM2 := Lib.hid hM2
      have hs2 : w2.heap.size = wr.heap.size + 1 := by rw [hw2]; simp
      clear z0 z1 hcall hst hx hb2 hM2
      cases ans with
      | true =>
        go_wp2_with fail
        refine HCALL.out.mono ?_
        rintro e w3 ⟨rfl, hb3⟩
        rw [← hw2] at hb3
        have hc3 := blk_cell ((hb3.block wr.heap.size (by omega)).trans HM2.out) 0
        have hl3 := cell_lt hc3
        have HB3 := Lib.hid (HB2.out.trans (hb3.mono (by omega)))
        clear hb3 hw2 HCALL
        go_wp2_with fail
        go_ret
        exact ⟨by rw [HE.out, HST.out]; rfl, HB3.out⟩
      | false =>
        go_wp2_with fail
        refine HCALL.out.mono ?_
        rintro e w3 ⟨rfl, hb3⟩
        rw [← hw2] at hb3
        have HB3 := Lib.hid (HB2.out.trans (hb3.mono (by omega)))
        clear hb3 hw2 HCALL
        go_wp2_with fail
        go_roundw
        case rel => exact ⟨k + 1, by omega, by go_num, Lib.hid (by rw [HE.out, HST.out]; rfl), HB3.out⟩
        case measure => simp [intOf] <;> omega
    · obtain rfl : k = A.length := by omega
      have HE2 := Lib.hid (show firstW A = 0 by rw [HE.out, List.drop_length]; rfl)
      go_wp2_with fail
      go_ret
      exact ⟨by rw [HE2.out]; rfl, HB.out⟩
end Go.Proofs.YtmaiphibpdngnaaGreat

namespace Go.Proofs.YtmaiphibpdngnaaGreat
set_option maxRecDepth 100000
open Go Go.RowKit

theorem append_texts {B B2 : Nat} {w : World} {v x : Value} {L L2 : List (List UInt8)} (hT : Texts B w v L) (hS : Texts B2 w x L2) (hn : L.length + L2.length ≤ 1048576) (hB : B ≤ w.heap.size)
    {ops : Array Oper} {rest : List Oper} {o : Oper} {a : Act} {Q : Exit → Act → World → Prop} (hgd : o.guard = none) (s y : Operand)
    (ho : o.op = .call { callee := .builtin .append, args := #[s, y], argTypes := #[41, 41] }) (hs : a.eval s = v) (hx : a.eval y = x)
    (h : ∀ v' w', Texts B w' v' (L ++ L2) → Below B w w' → wpList Tryz.prog ops Q rest (a.put o.dst v') w') : wpList Tryz.prog ops Q (o :: rest) a w := by
  obtain ⟨i0, hi, hz0, hz1, hz2⟩ := info_parts infoS
  rcases hS.forms with ⟨rfl, rfl⟩ | ⟨g, cap, rfl, -, -, -, -, hcell⟩
  · refine wpList_append_own_none hgd s y 41 ho B 9 i0 1 Tryz.underlying41 hi v L.length (L.map strv) hs hT hx ?_
    exact h v w (by rw [List.append_nil]; exact hT) (Below.refl _ _)
  · refine wpList_append_own w hgd s y 41 ho B 9 i0 (.string ByteArray.empty) 1 16 Tryz.underlying41 hi hz0 hz1 hz2 rfl (by decide) v L.length (L.map strv) hs hT ⟨g, 0, none⟩ L2.length cap (L2.map strv) hx (by simp) ?_ ?_ (by unfold maxLen; omega) (by omega) hB ?_
    · intro j u hu
      rw [List.getElem?_map] at hu
      by_cases hj : j < L2.length
      · rw [List.getElem?_eq_getElem hj] at hu
        have e : (⟨g, 0, none⟩ : Addr).add j = ⟨g, j, none⟩ := by unfold Addr.add; split <;> simp_all
        rw [e, hcell j hj]
        exact hu
      · rw [List.getElem?_eq_none (by omega)] at hu
        cases hu
    · intro u hu
      obtain ⟨z, -, rfl⟩ := List.mem_map.1 hu
      rfl
    · intro v' w' hown hgrow _
      refine h v' w' ?_ ((Below.refl B w).grown hgrow hB (fun r hr => (World.ownsRow.lt (show w.ownsRow B 9 1 v L.length (L.map strv) from hT) r hr).1))
      unfold Texts
      rw [List.length_append, List.map_append]
      exact hown

theorem texts_empty (B : Nat) (w : World) (hB : B ≤ w.heap.size) : Texts B (w.alloc (.cells #[] 9)) (.slice (some ⟨w.heap.size, 0, none⟩) 0 0) [] :=
  World.ownsRow_lit w #[] 0 hB (by decide) rfl
end Go.Proofs.YtmaiphibpdngnaaGreat

namespace Go.Proofs.YtmaiphibpdngnaaGreat
set_option maxRecDepth 100000
open Go Go.RowKit

theorem step_append_texts {B B2 : Nat} {w : World} {v x : Value} {L L2 : List (List UInt8)} (hT : Texts B w v L) (hS : Texts B2 w x L2) (hn : L.length + L2.length ≤ 1048576) (hB : B ≤ w.heap.size)
    {ops : Array Oper} {o : Oper} {a : Act} {K : Act → World → Prop} {Q : Exit → Act → World → Prop} {E : Prop} (hgd : o.guard = none) (s y : Operand)
    (ho : o.op = Op.call { callee := Callee.builtin Builtin.append, args := #[s, y], argTypes := #[41, 41] }) (hs : a.eval s = v) (hx : a.eval y = x)
    (hK : ∀ v' w', Texts B w' v' (L ++ L2) → Below B w w' → K (a.put o.dst v') w') :
    if Region.wanted o (yielded ops a.tmps) = true then Oper.wp Tryz.prog o a w K Q else E := by
  have hw : Region.wanted o (yielded ops a.tmps) = true := by simp [Region.wanted, hgd]
  rw [if_pos hw]
  obtain ⟨i0, hi, hz0, hz1, hz2⟩ := info_parts infoS
  have hown : w.ownsRow B 9 1 v L.length (L.map strv) := hT
  rcases hS.forms with ⟨rfl, rfl⟩ | ⟨g, cap, rfl, -, -, -, -, hcell⟩
  · have hrun := run_append_owned_none (P := Tryz.prog) (w := w) B 41 o.type 9 i0 1 Tryz.underlying41 hi v L.length (L.map strv) hown
    unfold Oper.wp
    simp [execOp, ho, resolve, invoke, builtin, hs, hx, hrun, Result.andThen]
    exact hK v w (by rw [List.append_nil]; exact hT) (Below.refl _ _)
  · obtain ⟨v', w', hrun, r1, r2, _⟩ := run_append_own (P := Tryz.prog) w B 41 o.type 9 i0 (.string ByteArray.empty) 1 16 Tryz.underlying41 hi hz0 hz1 hz2 rfl (by decide) v L.length (L.map strv) hown ⟨g, 0, none⟩ L2.length cap (L2.map strv) (by simp) (by
      intro j u hu
      rw [List.getElem?_map] at hu
      by_cases hj : j < L2.length
      · rw [List.getElem?_eq_getElem hj] at hu
        have e : (⟨g, 0, none⟩ : Addr).add j = ⟨g, j, none⟩ := by unfold Addr.add; split <;> simp_all
        rw [e, hcell j hj]
        exact hu
      · rw [List.getElem?_eq_none (by omega)] at hu
        cases hu) (by
      intro u hu
      obtain ⟨z, -, rfl⟩ := List.mem_map.1 hu
      rfl) (by unfold maxLen; omega) (by omega) hB
    unfold Oper.wp
    simp [execOp, ho, resolve, invoke, builtin, hs, hx, hrun, Result.andThen]
    refine hK v' w' ?_ ((Below.refl B w).grown r2 hB (fun r hr => (World.ownsRow.lt hown r hr).1))
    unfold Texts
    rw [List.length_append, List.map_append]
    exact r1
end Go.Proofs.YtmaiphibpdngnaaGreat

namespace Go.Proofs.YtmaiphibpdngnaaGreat
set_option maxRecDepth 100000
open Go Go.RowKit

theorem own_less3 {w : World} {b b' : Nat} {v : Value} {L : List (List UInt8)} (h : Texts b w v L) (hb : b' ≤ b) : Texts b' w v L := by
  obtain ⟨h1, h2 | ⟨g, cap, cur, hv, hg, r⟩⟩ := h
  · exact ⟨h1, Or.inl h2⟩
  · exact ⟨h1, Or.inr ⟨g, cap, cur, hv, by omega, r⟩⟩

def listGo (L : List Ino) : Nat → Int → List UInt8 → List (List UInt8)
  | 0, _, _ => []
  | n + 1, d, p => (nodeAt L d).kids.flatMap fun e => (p ++ 47 :: e.1) :: (if (nodeAt L e.2).kind = 2 then listGo L n e.2 (p ++ 47 :: e.1) else [])
/-- One name's paths. -/
def listOne (L : List Ino) (n : Nat) (p : List UInt8) (e : List UInt8 × Int) : List (List UInt8) := (p ++ 47 :: e.1) :: (if (nodeAt L e.2).kind = 2 then listGo L n e.2 (p ++ 47 :: e.1) else [])
theorem list_succ (L : List Ino) (n : Nat) (d : Int) (p : List UInt8) : listGo L (n + 1) d p = (nodeAt L d).kids.flatMap (listOne L n p) := rfl

/-- What going down asks of a tree: each name's inode is there, and no name is too long. -/
def Falls (L : List Ino) : Prop := ∀ k (h : k < L.length), ∀ e ∈ L[k].kids, thereB L e.2 = true ∧ e.1.length ≤ 64

theorem flat_take {α β : Type} (M : List α) (f : α → List β) (k : Nat) (hk : k < M.length) : (M.take (k + 1)).flatMap f = (M.take k).flatMap f ++ f M[k] := by
  rw [List.take_succ_eq_append_getElem hk, List.flatMap_append]
  simp
theorem flat_len {α β : Type} (M : List α) (f : α → List β) (k : Nat) : ((M.take k).flatMap f).length ≤ (M.flatMap f).length := by
  have h := congrArg (fun l => (l.flatMap f).length) (List.take_append_drop k M)
  simp only [List.flatMap_append, List.length_append] at h
  omega

theorem cat_slash (p x : List UInt8) : ((⟨p.toArray⟩ : ByteArray) ++ (⟨#[47]⟩ : ByteArray)) ++ (⟨x.toArray⟩ : ByteArray) = ⟨(p ++ 47 :: x).toArray⟩ := by
  rw [show (⟨#[47]⟩ : ByteArray) = ⟨[47].toArray⟩ from rfl, ByteArray.mk_append_mk, ByteArray.mk_append_mk, List.append_assoc]
  rfl

end Go.Proofs.YtmaiphibpdngnaaGreat
