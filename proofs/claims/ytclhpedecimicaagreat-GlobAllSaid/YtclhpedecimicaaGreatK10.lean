/-
  Rows that a call makes: ints, bools, words of bits; a cell of a row read and written.
  Plain laws on a path's names.
  strings.HasPrefix and strings.HasSuffix at a slash.
  tree's isDir, of the landed code.
  tree's Kid, of the landed code: a binary search in names that rise.
-/
import Derived.Lib.BufferWrite
import Derived.Laws.OwnMore
import Derived.Test.YtclhpedecimicaaGreatK6
import Derived.Test.YtclhpedecimicaaGreatK7
import Derived.Test.YtclhpedecimicaaGreatK5
import Derived.Test.YtclhpedecimicaaGreatK4
import Derived.IntWalk
import Derived.Test.YtclhpedecimicaaGreatK8
import Derived.Test.YtclhpedecimicaaGreatShelf
namespace Go.Proofs.YtclhpedecimicaaGreat
set_option maxRecDepth 100000
open Go Go.RowKit

theorem infoI : (Tryz.prog.info? 3).map (fun i => (i.zero, i.size, i.bytes)) = some (some (.int .i64 0), 1, 8) := by kernel_rfl
theorem infoB : (Tryz.prog.info? 4).map (fun i => (i.zero, i.size, i.bytes)) = some (some (.bool false), 1, 1) := by kernel_rfl
theorem infoW : (Tryz.prog.info? 128).map (fun i => (i.zero, i.size, i.bytes)) = some (some (.int .u64 0), 1, 8) := by kernel_rfl
theorem made_row (z : Value) (n : Nat) : madeCells #[z] n = (List.replicate n z).toArray := by
  apply Array.ext'
  rw [toList_madeCells_one]
theorem run_make_ints (W : World) (c : Int) (n : Nat) (hc : c = (n : Int)) (hn : n ≤ 1000000) : (Instr.makeSlice 69 (.int .i64 c) (.int .i64 c)).run Tryz.prog W = .ok (.slice (some ⟨W.heap.size, 0, none⟩) n n) (W.alloc (.cells (List.replicate n (.int .i64 0)).toArray 3)) := by
  subst hc
  obtain ⟨i0, hi, hz0, hz1, hz2⟩ := info_parts infoI
  have h := run_makeSlice (P := Tryz.prog) W 69 3 i0 (.int .i64 0) Tryz.underlying69 hi hz0 .i64 .i64 (n : Int) (n : Int) (by omega) (Int.le_refl _) (by rw [hz1]; simp; omega) (by rw [hz2]; omega) (by omega)
  rw [hz1, Int.toNat_natCast, Nat.mul_one] at h
  rw [← made_row]
  exact h
theorem run_make_bools (W : World) (c : Int) (n : Nat) (hc : c = (n : Int)) (hn : n ≤ 1000000) : (Instr.makeSlice 107 (.int .i64 c) (.int .i64 c)).run Tryz.prog W = .ok (.slice (some ⟨W.heap.size, 0, none⟩) n n) (W.alloc (.cells (List.replicate n (.bool false)).toArray 4)) := by
  subst hc
  obtain ⟨i0, hi, hz0, hz1, hz2⟩ := info_parts infoB
  have h := run_makeSlice (P := Tryz.prog) W 107 4 i0 (.bool false) Tryz.underlying107 hi hz0 .i64 .i64 (n : Int) (n : Int) (by omega) (Int.le_refl _) (by rw [hz1]; simp; omega) (by rw [hz2]; omega) (by omega)
  rw [hz1, Int.toNat_natCast, Nat.mul_one] at h
  rw [← made_row]
  exact h
theorem run_make_words (W : World) (c : Int) (n : Nat) (hc : c = (n : Int)) (hn : n ≤ 1000000) : (Instr.makeSlice 170 (.int .i64 c) (.int .i64 c)).run Tryz.prog W = .ok (.slice (some ⟨W.heap.size, 0, none⟩) n n) (W.alloc (.cells (List.replicate n (.int .u64 0)).toArray 128)) := by
  subst hc
  obtain ⟨i0, hi, hz0, hz1, hz2⟩ := info_parts infoW
  have h := run_makeSlice (P := Tryz.prog) W 170 128 i0 (.int .u64 0) Tryz.underlying170 hi hz0 .i64 .i64 (n : Int) (n : Int) (by omega) (Int.le_refl _) (by rw [hz1]; simp; omega) (by rw [hz2]; omega) (by omega)
  rw [hz1, Int.toNat_natCast, Nat.mul_one] at h
  rw [← made_row]
  exact h

/-- A row of values in a block. -/
def RowAt (W : World) (g : Nat) (l : List Value) (t : TypeId) : Prop := W.heap[g]? = some (.cells l.toArray t (0, 0))
theorem RowAt.cell {W : World} {g : Nat} {l : List Value} {t : TypeId} (h : RowAt W g l t) {j : Nat} {v : Value} (hj : l[j]? = some v) : W.cell? ⟨g, j, none⟩ = some v := by
  rw [blk_cell h j, List.getElem?_toArray]; exact hj
theorem RowAt.free {W : World} {g : Nat} {l : List Value} {t : TypeId} (h : RowAt W g l t) (j : Nat) : W.frozen? ⟨g, j, none⟩ = false := blk_free h j
theorem RowAt.set {W : World} {g : Nat} {l : List Value} {t : TypeId} (h : RowAt W g l t) (j : Nat) (u : Value) : RowAt (W.setCell ⟨g, j, none⟩ u) g (l.set j u) t := by
  have := blk_set h j u
  rw [List.setIfInBounds_toArray] at this
  exact this
theorem RowAt.lt {W : World} {g : Nat} {l : List Value} {t : TypeId} (h : RowAt W g l t) : g < W.heap.size := lt_of_block h
theorem RowAt.below {W W' : World} {g : Nat} {l : List Value} {t : TypeId} (h : RowAt W g l t) (hb : Below W.heap.size W W') : RowAt W' g l t := by
  unfold RowAt; rw [hb.block g h.lt]; exact h
theorem RowAt.other {W : World} {g k : Nat} {l : List Value} {t : TypeId} (h : RowAt W g l t) (hk : g ≠ k) (j : Nat) (u : Value) : RowAt (W.setCell ⟨k, j, none⟩ u) g l t := (Below.heap_setCell _ _ _ _ hk).trans h
theorem set_size (W : World) (k j : Nat) (u : Value) : (W.setCell ⟨k, j, none⟩ u).heap.size = W.heap.size := by simp [World.setCell]
end Go.Proofs.YtclhpedecimicaaGreat

namespace Go.Proofs.YtclhpedecimicaaGreat
set_option maxRecDepth 100000
open Go Go.RowKit

/-- A name: not empty, without a slash. -/
def NameL (x : List UInt8) : Prop := x ≠ [] ∧ ∀ c ∈ x, c ≠ 47
theorem go_names : ∀ (l cur : List UInt8), (∀ c ∈ cur, c ≠ 47) → ∀ x ∈ partsGo cur l, NameL x
  | [], cur, hc, x, hx => by
    unfold partsGo at hx
    split at hx
    · cases hx
    · rename_i h
      rw [List.mem_singleton] at hx
      subst hx
      exact ⟨h, hc⟩
  | c :: r, cur, hc, x, hx => by
    unfold partsGo at hx
    split at hx
    · split at hx
      · exact go_names r [] (fun _ h => by cases h) x hx
      · rename_i h
        rw [List.mem_cons] at hx
        rcases hx with rfl | hx
        · exact ⟨h, hc⟩
        · exact go_names r [] (fun _ h => by cases h) x hx
    · rename_i h
      refine go_names r (cur ++ [c]) (fun d hd => ?_) x hx
      rw [List.mem_append, List.mem_singleton] at hd
      rcases hd with hd | rfl
      · exact hc d hd
      · exact h
theorem parts_names (l : List UInt8) : ∀ x ∈ partsL l, NameL x := go_names l [] (fun _ h => by cases h)
theorem go_slash (b : List UInt8) : ∀ (a cur : List UInt8), partsGo cur (a ++ 47 :: b) = partsGo cur a ++ partsL b
  | [], cur => by
    simp only [List.nil_append, partsGo, if_true, partsL]
    split
    · rfl
    · rfl
  | c :: r, cur => by
    simp only [List.cons_append]
    rw [partsGo, partsGo]
    split
    · split
      · exact go_slash b r []
      · rw [go_slash b r []]; rfl
    · exact go_slash b r (cur ++ [c])
theorem parts_slash (a b : List UInt8) : partsL (a ++ 47 :: b) = partsL a ++ partsL b := go_slash b a []
theorem go_name : ∀ (x cur : List UInt8), (∀ c ∈ x, c ≠ 47) → cur ++ x ≠ [] → partsGo cur x = [cur ++ x]
  | [], cur, _, h => by
    rw [partsGo, if_neg (by simpa using h)]
    simp
  | c :: r, cur, hx, h => by
    rw [partsGo, if_neg (hx c (List.mem_cons_self ..)), go_name r (cur ++ [c]) (fun d hd => hx d (List.mem_cons_of_mem _ hd)) (by simp)]
    simp
theorem parts_name (x : List UInt8) (h : NameL x) : partsL x = [x] := by
  have := go_name x [] h.2 (by simpa using h.1)
  simpa [partsL] using this
theorem parts_join : ∀ (L : List (List UInt8)), (∀ x ∈ L, NameL x) → partsL (joinL L) = L
  | [], _ => by simp [joinL, partsL, partsGo]
  | [x], h => by simp only [joinL]; exact parts_name x (h x (List.mem_singleton.2 rfl))
  | x :: y :: r, h => by
    simp only [joinL]
    rw [parts_slash, parts_name x (h x (List.mem_cons_self ..)), parts_join (y :: r) (fun z hz => h z (List.mem_cons_of_mem _ hz))]
    rfl
theorem parts_root (L : List (List UInt8)) (h : ∀ x ∈ L, NameL x) : partsL (47 :: joinL L) = L := by
  have := parts_slash [] (joinL L)
  rw [List.nil_append] at this
  rw [this, parts_join L h]
  simp [partsL, partsGo]
end Go.Proofs.YtclhpedecimicaaGreat

namespace Go.Proofs.YtclhpedecimicaaGreat
set_option maxRecDepth 100000
open Go Go.RowKit

theorem str_eta (s : ByteArray) (l : List UInt8) (h : s.data.toList = l) : Value.string s = .string ⟨l.toArray⟩ := by
  subst h
  rfl
theorem list_ne (s : ByteArray) (h : 0 < s.size) : s.data.toList ≠ [] := by
  intro e
  have := size_list s
  rw [e] at this
  simp at this
  omega
theorem last_byte (s : ByteArray) (h : 0 < s.size) : s.data.toList.getLast? = some (s[s.size - 1]'(by omega)) := by
  rw [List.getLast?_eq_getElem?, size_list, List.getElem?_eq_getElem (by rw [size_list]; omega)]
  rfl
theorem cat_two (a b : ByteArray) : (a ++ b).data.toList = a.data.toList ++ b.data.toList := by
  rcases a with ⟨⟨x⟩⟩
  rcases b with ⟨⟨y⟩⟩
  rw [ByteArray.mk_append_mk]

theorem pre_eq (s : ByteArray) : ((s.extract 0 1).toList == [47]) = wholeL s.data.toList := by
  rw [ByteArray.toList_eq, extract_list]
  cases h : s.data.toList with
  | nil => rfl
  | cons c r =>
    simp only [wholeL, List.take_succ_cons, List.take_zero, List.drop_zero]
    by_cases hc : c = 47 <;> simp [hc]
def endL (l : List UInt8) : Bool := l.getLast? == some 47
theorem suf_eq (s : ByteArray) : ((s.extract (s.size - 1) s.size).toList == [47]) = endL s.data.toList := by
  rw [ByteArray.toList_eq, extract_list, ← size_list, List.take_length]
  unfold endL
  by_cases h : s.data.toList = []
  · rw [h]
    rfl
  · obtain ⟨L, x, hx⟩ : ∃ L x, s.data.toList = L ++ [x] := ⟨s.data.toList.dropLast, s.data.toList.getLast h, (List.dropLast_concat_getLast h).symm⟩
    rw [hx]
    simp only [List.length_append, List.length_cons, List.length_nil, Nat.zero_add, Nat.add_sub_cancel, List.drop_left, List.getLast?_concat]
    by_cases hc : x = 47 <;> simp [hc]

theorem none_pre (s : ByteArray) (h : ¬ 1 ≤ s.size) : wholeL s.data.toList = false := by
  have h0 : s.data.toList.length = 0 := by rw [size_list]; omega
  rw [List.length_eq_zero_iff.1 h0]
  rfl
theorem none_suf (s : ByteArray) (h : ¬ 1 ≤ s.size) : endL s.data.toList = false := by
  have h0 : s.data.toList.length = 0 := by rw [size_list]; omega
  rw [List.length_eq_zero_iff.1 h0]
  rfl

set_option maxHeartbeats 1000000 in
theorem litepre_any (s : ByteArray) (w : World) : Calls Tryz.prog 49 #[.string s, .string ⟨#[47]⟩] w fun e w' => e = .returned (.bool (wholeL s.data.toList)) ∧ w = w' := by
  by_cases h : 1 ≤ s.size
  · rw [← pre_eq]
    go_enter Tryz.func49, Tryz.ntmps49
    go_wp2_with fail
    go_ret
    exact ⟨rfl, rfl⟩
  · rw [none_pre s h]
    obtain h0 : s.size = 0 := by omega
    go_enter Tryz.func49, Tryz.ntmps49
    go_wp2_with fail
    go_ret
    exact ⟨rfl, rfl⟩
set_option maxHeartbeats 1000000 in
theorem litesuf_any (s : ByteArray) (hs : s.size ≤ 1073741824) (w : World) : Calls Tryz.prog 89 #[.string s, .string ⟨#[47]⟩] w fun e w' => e = .returned (.bool (endL s.data.toList)) ∧ w = w' := by
  by_cases h : 1 ≤ s.size
  · rw [← suf_eq]
    go_enter Tryz.func89, Tryz.ntmps89
    go_wp2_with fail
    go_ret
    exact ⟨rfl, rfl⟩
  · rw [none_suf s h]
    obtain h0 : s.size = 0 := by omega
    go_enter Tryz.func89, Tryz.ntmps89
    go_wp2_with fail
    go_ret
    exact ⟨rfl, rfl⟩

set_option maxHeartbeats 1000000 in
theorem hassuf_known (s : ByteArray) (hs : s.size ≤ 1073741824) (b : Bool) (h : endL s.data.toList = b) (w : World) : Calls Tryz.prog 65 #[.string s, .string ⟨#[47]⟩] w fun e w' => e = .returned (.bool b) ∧ w = w' := by
  subst h
  go_enter Tryz.func65, Tryz.ntmps65
  go_wp2_with (go_at_call 89; refine (litesuf_any _ hs _).mono ?_; rintro e w' ⟨rfl, rfl⟩)
  go_ret
  exact ⟨rfl, rfl⟩
end Go.Proofs.YtclhpedecimicaaGreat

namespace Go.Proofs.YtclhpedecimicaaGreat
set_option maxRecDepth 100000
open Go Go.RowKit

set_option maxHeartbeats 1000000 in
theorem lisdir_known (a : Option Addr) (cap : Nat) (m b k : Int) (L : List Ino) (v : Bool) (hv : dirB L k = v) (w : World) (hN : NodesIn w a cap L) :
    Calls Tryz.prog 121 #[.agg #[.slice a L.length cap, .int .i64 m, .int .i64 b], .int .i64 k] w fun e w' => e = .returned (.bool v) ∧ Below w.heap.size w w' := by
  have hb1 := below_box w (.cells #[.slice a L.length cap, .int .i64 m, .int .i64 b] 24)
  have hM := hN.below hb1
  have HM := Lib.hid hM
  have hcap := hN.1
  have hmax := hN.2.1
  unfold maxLen at hmax
  clear hM hN
  by_cases h0 : 0 ≤ k
  · by_cases h1 : k < L.length
    · obtain ⟨n, rfl⟩ : ∃ n : Nat, k = (n : Int) := ⟨k.toNat, by omega⟩
      have hn : n < L.length := by omega
      have hd : dirB L (n : Int) = (L[n].kind == 2) := by unfold dirB; rw [there_of L n hn, node_nat L n hn]; rfl
      rw [hd] at hv
      subst hv
      obtain ⟨bb, o, rfl, hx⟩ := HM.out.2.2 n hn
      have x0 := hx.kind
      clear hx hd
      go_enter Tryz.func121, Tryz.ntmps121
      go_wp2_with fail
      all_goals
        go_ret
        exact ⟨rfl, hb1⟩
    · have hd : dirB L k = false := by unfold dirB thereB; rw [decide_eq_false h1, Bool.and_false, Bool.false_and]
      rw [hd] at hv
      subst hv
      clear hd
      go_enter Tryz.func121, Tryz.ntmps121
      go_wp2_with fail
      all_goals
        go_ret
        exact ⟨rfl, hb1⟩
  · have hd : dirB L k = false := by unfold dirB thereB; rw [decide_eq_false h0, Bool.false_and, Bool.false_and]
    rw [hd] at hv
    subst hv
    clear hd
    go_enter Tryz.func121, Tryz.ntmps121
    go_wp2_with fail
    all_goals
      go_ret
      exact ⟨rfl, hb1⟩
end Go.Proofs.YtclhpedecimicaaGreat

namespace Go.Proofs.YtclhpedecimicaaGreat
set_option maxRecDepth 100000
open Go Go.RowKit

set_option maxHeartbeats 1000000 in
theorem lcmp_any (n s : List UInt8) (i : Int) (w : World) :
    Calls Tryz.prog 123 #[.agg #[.string ⟨n.toArray⟩, .int .i64 i], .string ⟨s.toArray⟩] w fun e w' => e = .returned (.int .i64 (Lib.compareBytes n s)) ∧ Below w.heap.size w w' := by
  have HB := Lib.hid (below_box w (.cells #[.string ⟨n.toArray⟩, .int .i64 i] 38))
  go_enter Tryz.func123, Tryz.ntmps123
  go_wp2_with fail
  refine (Tryz.strings_Compare _ _ _).mono ?_
  rintro e w' ⟨rfl, rfl⟩
  go_wp2_with fail
  go_ret
  exact ⟨rfl, HB.out⟩

def BRel (M : List (List UInt8 × Int)) (s : List UInt8) (w : World) (iv jv : Value) (wr : World) : Prop :=
  ∃ i j : Nat, i ≤ j ∧ j ≤ M.length ∧ iv = .int .i64 i ∧ jv = .int .i64 j ∧ Hid (∀ k (hk : k < M.length), k < i → Op.bytesLess M[k].1 s = true) ∧ Hid (∀ k (hk : k < M.length), j ≤ k → Op.bytesLess M[k].1 s = false) ∧ Below w.heap.size w wr

/-- What the search answers: the first place that is not ahead of s, and whether s stands there. -/
def BAns (M : List (List UInt8 × Int)) (s : List UInt8) (e : Ending) : Prop :=
  ∃ (i : Nat) (v : Bool), e = .returned (.tuple #[.int .i64 i, .bool v]) ∧ i ≤ M.length ∧ (v = true ↔ ∃ h : i < M.length, M[i].1 = s) ∧ (∀ k (hk : k < M.length), k < i → Op.bytesLess M[k].1 s = true) ∧ (∀ k (hk : k < M.length), i ≤ k → Op.bytesLess M[k].1 s = false)

set_option maxRecDepth 100000 in
set_option maxHeartbeats 4000000 in
theorem lsearch_any (M : List (List UInt8 × Int)) (hM : M.length ≤ 1024) (hR : Rises M) (s : List UInt8) (ka : Option Addr) (kcap : Nat) (w : World) (hK : KidsIn w (.slice ka M.length kcap) M) :
    Calls Tryz.prog 122 #[.slice ka M.length kcap, .string ⟨s.toArray⟩, .func (.func 123) #[] #[]] w fun e w' => BAns M s e ∧ Below w.heap.size w w' := by
  obtain ⟨ka', kcap', e1, hkc, hkm, hkk⟩ := hK
  simp only [Value.slice.injEq] at e1
  obtain ⟨rfl, -, rfl⟩ := e1
  unfold maxLen at hkm
  have HK := Lib.hid hkk
  have HR := Lib.hid hR
  clear hkk hR
  go_enter Tryz.func122, Tryz.ntmps122
  go_wp2_with fail
  go_loopw [9, 10, 11] (fun i j _ wr => BRel M s w i j wr) (fun i j _ _ => (intOf j).toNat - (intOf i).toNat)
  case atStart => exact ⟨0, M.length, by omega, by omega, rfl, rfl, fun _ _ h => absurd h (Nat.not_lt_zero _), fun k hk h => absurd hk (by omega), Below.refl _ _⟩
  case round =>
    obtain ⟨i, j, hij, hj, rfl, rfl, hlo, hhi, hbr⟩ := hrel
    have HBR := Lib.hid hbr
    have hszr := hbr.size
    clear hbr
    by_cases hlt : i < j
    · have hih : i ≤ (i + j) / 2 := by omega
      have hhj : (i + j) / 2 < j := by omega
      have hhM : (i + j) / 2 < M.length := by omega
      obtain ⟨c1, p1, rfl, z0, z1⟩ := HK.out ((i + j) / 2) hhM
      have y0 := cell_below HBR.out z0
      have y1 := cell_below HBR.out z1
      obtain ⟨nm, hnm⟩ : ∃ nm, nm = M[(i + j) / 2].1 := ⟨_, rfl⟩
      obtain ⟨ino, hino⟩ : ∃ ino, ino = M[(i + j) / 2].2 := ⟨_, rfl⟩
      rw [← hnm] at y0
      rw [← hino] at y1
      have HNM := Lib.hid hnm
      have hc1 := cmp_le1 nm s
      clear z0 z1 hnm hino
      go_wp2_with fail
      refine (lcmp_any nm s ino _).mono ?_
      rintro e w2 ⟨rfl, hb2⟩
      have HB2 := Lib.hid (HBR.out.trans (hb2.mono hszr))
      clear hb2 y0 y1
      cases hls : Op.bytesLess nm s with
      | true =>
        have hneg := cmp_less.2 hls
        have hlo' := Lib.hid (show ∀ k (hk : k < M.length), k < (i + j) / 2 + 1 → Op.bytesLess M[k].1 s = true from fun k hk hkh => by
          by_cases e : k = (i + j) / 2
          · subst e
            rw [← HNM.out]
            exact hls
          · refine less_trans _ _ _ (HR.out.lt k ((i + j) / 2) hhM (by omega)) ?_
            rw [← HNM.out]
            exact hls)
        clear hls
        go_wp2_with fail
        go_roundw
        case rel => exact ⟨(i + j) / 2 + 1, j, by omega, hj, by go_num, rfl, hlo', hhi, HB2.out⟩
        case measure => simp [intOf] <;> omega
      | false =>
        have hneg : ¬ Lib.compareBytes nm s < 0 := fun h => by rw [cmp_less.1 h] at hls; cases hls
        have hneg' : 0 ≤ Lib.compareBytes nm s := by omega
        have hhi' := Lib.hid (show ∀ k (hk : k < M.length), (i + j) / 2 ≤ k → Op.bytesLess M[k].1 s = false from fun k hk hkh => by
          cases hb : Op.bytesLess M[k].1 s with
          | false => rfl
          | true =>
            by_cases e : k = (i + j) / 2
            · subst e
              rw [← HNM.out, hls] at hb
              cases hb
            · have h1 := less_trans _ _ _ (HR.out.lt ((i + j) / 2) k hk (by omega)) hb
              rw [← HNM.out, hls] at h1
              cases h1)
        clear hls hneg
        go_wp2_with fail
        go_roundw
        case rel => exact ⟨i, (i + j) / 2, hih, by omega, rfl, by go_num, hlo, hhi', HB2.out⟩
        case measure => simp [intOf] <;> omega
    · obtain rfl : i = j := by omega
      have HFIN := Lib.hid (show ∀ (e : Ending) (v : Bool), e = .returned (.tuple #[.int .i64 i, .bool v]) → (v = true ↔ ∃ h : i < M.length, M[i].1 = s) → BAns M s e from fun e v h1 h2 => ⟨i, v, h1, hj, h2, hlo.out, hhi.out⟩)
      by_cases hin : i < M.length
      · obtain ⟨c1, p1, rfl, z0, z1⟩ := HK.out i hin
        have y0 := cell_below HBR.out z0
        have y1 := cell_below HBR.out z1
        obtain ⟨nm, hnm⟩ : ∃ nm, nm = M[i].1 := ⟨_, rfl⟩
        obtain ⟨ino, hino⟩ : ∃ ino, ino = M[i].2 := ⟨_, rfl⟩
        rw [← hnm] at y0
        rw [← hino] at y1
        have HNM := Lib.hid hnm
        clear z0 z1 hnm hino hlt
        go_wp2_with fail
        refine (lcmp_any nm s ino _).mono ?_
        rintro e w2 ⟨rfl, hb2⟩
        have HB2 := Lib.hid (HBR.out.trans (hb2.mono hszr))
        clear hb2 y0 y1
        go_wp2_with fail
        go_ret2
        refine ⟨HFIN.out _ _ rfl ?_, HB2.out⟩
        rw [beq_iff_eq, cmp_zero, HNM.out]
        exact ⟨fun h => ⟨hin, h⟩, fun ⟨_, h⟩ => h⟩
      · have hin' : M.length ≤ i := by omega
        clear hlt
        go_wp2_with fail
        go_ret2
        exact ⟨HFIN.out _ _ rfl (by simp [hin]), HBR.out⟩

set_option maxRecDepth 100000 in
set_option maxHeartbeats 4000000 in
theorem lkid_any (a : Option Addr) (cap : Nat) (m b d : Int) (nm : List UInt8) (L : List Ino) (hR : ∀ k (h : k < L.length), L[k].kids.length ≤ 1024 ∧ Rises L[k].kids) (w : World) (hN : NodesIn w a cap L) :
    Calls Tryz.prog 111 #[.agg #[.slice a L.length cap, .int .i64 m, .int .i64 b], .int .i64 d, .string ⟨nm.toArray⟩] w fun e w' => e = .returned (.int .i64 (kidL L d nm)) ∧ Below w.heap.size w w' := by
  have hb1 := below_box w (.cells #[.slice a L.length cap, .int .i64 m, .int .i64 b] 24)
  have hM := hN.below hb1
  have hcap := hN.1
  have hmax := hN.2.1
  unfold maxLen at hmax
  have HM := Lib.hid hM
  have HB1 := Lib.hid hb1
  have HR := Lib.hid hR
  clear hM hN hb1 hR
  obtain ⟨F, hF⟩ : ∃ F, F = kidL L d nm := ⟨_, rfl⟩
  rw [← hF]
  have HF := Lib.hid hF
  clear hF
  cases hd : dirB L d with
  | false =>
    have HD := Lib.hid hd
    have hfin := Lib.hid (show F = -1 by rw [HF.out]; unfold kidL; rw [hd]; rfl)
    clear hd
    go_enter Tryz.func111, Tryz.ntmps111
    go_wp2_with fail
    refine (lisdir_known _ _ _ _ _ L _ HD.out _ HM.out).mono ?_
    rintro e w2 ⟨rfl, hb2⟩
    have HB2 := Lib.hid (HB1.out.trans (hb2.mono (by simp)))
    clear hb2
    go_wp2_with fail
    go_ret
    exact ⟨by rw [hfin.out]; rfl, HB2.out⟩
  | true =>
    obtain ⟨n, rfl, hn⟩ := there_nat (show thereB L d = true by unfold dirB at hd; rw [Bool.and_eq_true] at hd; exact hd.1)
    have HD := Lib.hid hd
    obtain ⟨bb, o, rfl, hx⟩ := HM.out.2.2 n hn
    obtain ⟨kv, hk1, hks⟩ := hx.kids
    obtain ⟨M, hMe⟩ : ∃ M, M = L[n].kids := ⟨_, rfl⟩
    rw [← hMe] at hks
    obtain ⟨ka, kcap, rfl, hkc, hkm, hkk⟩ := hks
    obtain ⟨hM1, hM2⟩ : M.length ≤ 1024 ∧ Rises M := by rw [hMe]; exact HR.out n hn
    have HM2 := Lib.hid hM2
    have hfin := Lib.hid (show F = findK M nm by rw [HF.out]; unfold kidL; rw [hd, node_nat L n hn, hMe]; rfl)
    have hd0 : (0 : Int) ≤ (n : Int) := by omega
    have HK := Lib.hid (show KidsIn _ (.slice ka M.length kcap) M from ⟨ka, kcap, rfl, hkc, hkm, hkk⟩)
    unfold maxLen at hkm
    clear hd hx hMe hkk hM2
    go_enter Tryz.func111, Tryz.ntmps111
    go_wp2_with fail
    refine (lisdir_known _ _ _ _ _ L _ HD.out _ HM.out).mono ?_
    rintro e w2 ⟨rfl, hb2⟩
    obtain ⟨q0, q1, q2⟩ := box3 hb2
    have h3 := cell_below hb2 hk1
    have HB2 := Lib.hid (HB1.out.trans (hb2.mono (by simp)))
    have HK2 := Lib.hid (HK.out.below hb2)
    have hs2 := HB2.out.size
    clear hb2 hk1
    go_wp2_with fail
    refine (lsearch_any M hM1 HM2.out nm ka kcap _ HK2.out).mono ?_
    rintro e w3 ⟨⟨i, v, rfl, hi, hv, hlo, hhi⟩, hb3⟩
    have HB3 := Lib.hid (HB2.out.trans (hb3.mono hs2))
    have HA := Lib.hid (findK_at HM2.out nm i hlo hhi)
    have HV := Lib.hid hv
    have HK3 := Lib.hid (HK2.out.below hb3)
    clear hb3 hlo hhi hv h3 q0 q1 q2
    cases v with
    | false =>
      have HE := Lib.hid (show F = -1 by
        rw [hfin.out]
        refine HA.out.2 (fun hi e => ?_)
        have h := HV.out.2 ⟨hi, e⟩
        cases h)
      go_wp2_with fail
      go_ret
      exact ⟨by rw [HE.out]; rfl, HB3.out⟩
    | true =>
      obtain ⟨hil, he⟩ := HV.out.1 (by simp)
      have HE := Lib.hid (show F = M[i].2 by rw [hfin.out]; exact HA.out.1 hil he)
      obtain ⟨ka', kcap', e1, -, -, hkk⟩ := HK3.out
      simp only [Value.slice.injEq] at e1
      obtain ⟨rfl, -, rfl⟩ := e1
      obtain ⟨c1, p1, rfl, z0, z1⟩ := hkk i hil
      have hi0 : (0 : Int) ≤ (i : Int) := by omega
      have hil' : (i : Int) < (M.length : Int) := by omega
      clear he hkk z0
      go_wp2_with fail
      go_ret
      exact ⟨by rw [HE.out]; rfl, HB3.out⟩
theorem lkid_known (a : Option Addr) (cap : Nat) (m b d : Int) (nm : List UInt8) (L : List Ino) (hR : ∀ k (h : k < L.length), L[k].kids.length ≤ 1024 ∧ Rises L[k].kids) (z : Int) (hz : kidL L d nm = z) (w : World) (hN : NodesIn w a cap L) :
    Calls Tryz.prog 111 #[.agg #[.slice a L.length cap, .int .i64 m, .int .i64 b], .int .i64 d, .string ⟨nm.toArray⟩] w fun e w' => e = .returned (.int .i64 z) ∧ Below w.heap.size w w' := by
  subst hz
  exact lkid_any a cap m b d nm L hR w hN
end Go.Proofs.YtclhpedecimicaaGreat
