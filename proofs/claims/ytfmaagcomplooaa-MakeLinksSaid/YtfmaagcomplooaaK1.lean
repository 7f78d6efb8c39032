/-
  Trees as they lie in memory: inodes, names of a directory; and what a world that grows leaves of them.
  A region that draws its order, whose calls make memory and turn nothing that was there: every operation is quiet in the class of the worlds that have grown out of the one at its beginning.
  The reference's Kid: what a directory has of a name.
  Plain laws on paths: a path's names, as lists of bytes. No program stands here.
  The reference's Parts: a path's names, in a row of its own.
  Rows of texts: what a walk reads of them; joining names by a slash.
  The reference's Whole, Name, Base, Dir, Join.
  Plain words for the reference's kids, and how the counts lie in memory.
  A quiet walk that comes back to the very world serves where a still one is asked for.
-/
import Derived.WalkKit
import Derived.Lib.Hide
import Derived.Test.YtfmaagcomplooaaProg
import Derived.Deep.QuietTactic
import Derived.BigQuiet
import Derived.Maps.AppendAt
import Derived.BigRegion
import Derived.RangeFuncBox
import Derived.StillTailTactics
import Derived.Deep.Draws
import Derived.Laws.Cover1
namespace Go.Proofs.Ytfmaagcomplooaa
set_option maxRecDepth 100000
open Go Go.RowKit

/-- An inode; a tree. -/
structure Ino where
  kind : Int
  mode : Int
  links : Int
  data : List UInt8
  kids : List (List UInt8 × Int)
  up : Int
structure Tre where
  nodes : List Ino
  maxN : Int
  maxB : Int

/-- The slice v holds the names L. -/
def KidsIn (W : World) (v : Value) (L : List (List UInt8 × Int)) : Prop :=
  ∃ a cap, v = .slice a L.length cap ∧ L.length ≤ cap ∧ cap ≤ maxLen ∧
    ∀ i (hi : i < L.length), ∃ b o, a = some ⟨b, o, none⟩ ∧ W.cell? ⟨b, o + i * 2, none⟩ = some (.string ⟨L[i].1.toArray⟩) ∧ W.cell? ⟨b, o + i * 2 + 1, none⟩ = some (.int .i64 L[i].2)

/-- At block b, place o, lies the inode x. -/
structure NodeIn (W : World) (b o : Nat) (x : Ino) : Prop where
  kind : W.cell? ⟨b, o, none⟩ = some (.int .i64 x.kind)
  mode : W.cell? ⟨b, o + 1, none⟩ = some (.int .i64 x.mode)
  links : W.cell? ⟨b, o + 2, none⟩ = some (.int .i64 x.links)
  data : W.cell? ⟨b, o + 3, none⟩ = some (.string ⟨x.data.toArray⟩)
  kids : ∃ v, W.cell? ⟨b, o + 4, none⟩ = some v ∧ KidsIn W v x.kids
  up : W.cell? ⟨b, o + 5, none⟩ = some (.int .i64 x.up)

/-- The slice with address a holds the inodes L. -/
def NodesIn (W : World) (a : Option Addr) (cap : Nat) (L : List Ino) : Prop :=
  L.length ≤ cap ∧ cap ≤ maxLen ∧ ∀ i (hi : i < L.length), ∃ b o, a = some ⟨b, o, none⟩ ∧ NodeIn W b (o + i * 6) L[i]

def TreeIn (W : World) (v : Value) (T : Tre) : Prop :=
  ∃ a cap, v = .agg #[.slice a T.nodes.length cap, .int .i64 T.maxN, .int .i64 T.maxB] ∧ NodesIn W a cap T.nodes

theorem cell_lt {W : World} {a : Addr} {v : Value} (hc : W.cell? a = some v) : a.block < W.heap.size := by
  unfold World.cell? at hc
  cases hb : W.heap[a.block]? with
  | none => rw [hb] at hc; cases hc
  | some o => exact (Array.getElem?_eq_some_iff.1 hb).1
theorem cell_below {W W' : World} {a : Addr} {v : Value} (h : Below W.heap.size W W') (hc : W.cell? a = some v) : W'.cell? a = some v := by
  have hlt : a.block < W.heap.size := by
    unfold World.cell? at hc
    cases hb : W.heap[a.block]? with
    | none => rw [hb] at hc; cases hc
    | some o => exact (Array.getElem?_eq_some_iff.1 hb).1
  rw [World.cell?_of_block (h.block _ hlt)]
  exact hc

theorem KidsIn.below {W W' : World} {v : Value} {L : List (List UInt8 × Int)} (h : KidsIn W v L) (hb : Below W.heap.size W W') : KidsIn W' v L := by
  obtain ⟨a, cap, h1, h2, h3, h4⟩ := h
  refine ⟨a, cap, h1, h2, h3, fun i hi => ?_⟩
  obtain ⟨b, o, e1, e2, e3⟩ := h4 i hi
  exact ⟨b, o, e1, cell_below hb e2, cell_below hb e3⟩
theorem NodeIn.below {W W' : World} {b o : Nat} {x : Ino} (h : NodeIn W b o x) (hb : Below W.heap.size W W') : NodeIn W' b o x := by
  obtain ⟨v, h1, h2⟩ := h.kids
  exact ⟨cell_below hb h.kind, cell_below hb h.mode, cell_below hb h.links, cell_below hb h.data, ⟨v, cell_below hb h1, h2.below hb⟩, cell_below hb h.up⟩
theorem NodesIn.below {W W' : World} {a : Option Addr} {cap : Nat} {L : List Ino} (h : NodesIn W a cap L) (hb : Below W.heap.size W W') : NodesIn W' a cap L := by
  refine ⟨h.1, h.2.1, fun i hi => ?_⟩
  obtain ⟨b, o, e1, e2⟩ := h.2.2 i hi
  exact ⟨b, o, e1, e2.below hb⟩
theorem TreeIn.below {W W' : World} {v : Value} {T : Tre} (h : TreeIn W v T) (hb : Below W.heap.size W W') : TreeIn W' v T := by
  obtain ⟨a, cap, h1, h2⟩ := h
  exact ⟨a, cap, h1, h2.below hb⟩

/-- A box that is laid. -/
theorem below_box (W : World) (o : Obj) : Below W.heap.size W (W.alloc o) := (Below.refl _ W).alloc (Nat.le_refl _) _

theorem new_block (w : World) (o : Obj) : (w.alloc o).heap[w.heap.size]? = some o := by show (w.heap.push o)[w.heap.size]? = some o; simp

/-- What a box of three holds, wherever the world has grown. -/
theorem box3 {w W' : World} {x y z : Value} {t : TypeId} (h : Below (w.alloc (.cells #[x, y, z] t)).heap.size (w.alloc (.cells #[x, y, z] t)) W') :
    W'.cell? ⟨w.heap.size, 0, none⟩ = some x ∧ W'.cell? ⟨w.heap.size, 1, none⟩ = some y ∧ W'.cell? ⟨w.heap.size, 2, none⟩ = some z :=
  ⟨cell_below h (by simp only [World.cell?, new_block]; rfl), cell_below h (by simp only [World.cell?, new_block]; rfl), cell_below h (by simp only [World.cell?, new_block]; rfl)⟩

/-- How many inodes are used, how many bytes. -/
def usedN : List Ino → Nat
  | [] => 0
  | x :: r => (if x.kind = 0 then 0 else 1) + usedN r
def usedB : List Ino → Nat
  | [] => 0
  | x :: r => x.data.length + usedB r
theorem usedN_snoc : ∀ (L : List Ino) (x : Ino), usedN (L ++ [x]) = usedN L + (if x.kind = 0 then 0 else 1)
  | [], x => by simp [usedN]
  | y :: r, x => by simp only [List.cons_append, usedN, usedN_snoc r x]; omega
theorem usedB_snoc : ∀ (L : List Ino) (x : Ino), usedB (L ++ [x]) = usedB L + x.data.length
  | [], x => by simp [usedB]
  | y :: r, x => by simp only [List.cons_append, usedB, usedB_snoc r x]; omega
theorem usedN_le : ∀ (L : List Ino), usedN L ≤ L.length
  | [] => Nat.le_refl _
  | x :: r => by
    have := usedN_le r
    simp only [usedN, List.length_cons]
    split <;> omega
theorem usedB_take (L : List Ino) (k : Nat) : usedB (L.take k) ≤ usedB L := by
  induction L generalizing k with
  | nil => simp [usedB]
  | cons x r ih =>
    cases k with
    | zero => simp [usedB]
    | succ k => simp only [List.take_succ_cons, usedB]; have := ih k; omega
theorem usedN_take (L : List Ino) (k : Nat) : usedN (L.take k) ≤ k := Nat.le_trans (usedN_le _) (List.length_take_le _ _)

def thereB (L : List Ino) (k : Int) : Bool := decide (0 ≤ k) && decide (k < L.length)

set_option maxHeartbeats 1000000 in
theorem rthere_any (a : Option Addr) (cap n : Nat) (m b k : Int) (w : World) :
    Calls Try.prog 38 #[.agg #[.slice a n cap, .int .i64 m, .int .i64 b], .int .i64 k] w fun e w' => e = .returned (.bool (decide (0 ≤ k) && decide (k < n))) ∧ Below w.heap.size w w' := by
  go_enter Try.func38, Try.ntmps38
  go_wp2_with fail
  · rename_i h
    go_ret
    exact ⟨by rw [decide_eq_true h]; rfl, below_box _ _⟩
  · rename_i h
    go_ret
    exact ⟨by rw [decide_eq_false (by omega)]; rfl, below_box _ _⟩
theorem str_len (l : List UInt8) : (⟨l.toArray⟩ : ByteArray).size = l.length := by show l.toArray.size = _; simp

/-- What a box of six holds, wherever the world has grown. -/
theorem box6 {w W' : World} {x0 x1 x2 x3 x4 x5 : Value} {t : TypeId} (h : Below (w.alloc (.cells #[x0, x1, x2, x3, x4, x5] t)).heap.size (w.alloc (.cells #[x0, x1, x2, x3, x4, x5] t)) W') :
    W'.cell? ⟨w.heap.size, 0, none⟩ = some x0 ∧ W'.cell? ⟨w.heap.size, 1, none⟩ = some x1 ∧ W'.cell? ⟨w.heap.size, 2, none⟩ = some x2 ∧ W'.cell? ⟨w.heap.size, 3, none⟩ = some x3 ∧ W'.cell? ⟨w.heap.size, 4, none⟩ = some x4 ∧ W'.cell? ⟨w.heap.size, 5, none⟩ = some x5 :=
  ⟨cell_below h (by simp only [World.cell?, new_block]; rfl), cell_below h (by simp only [World.cell?, new_block]; rfl), cell_below h (by simp only [World.cell?, new_block]; rfl), cell_below h (by simp only [World.cell?, new_block]; rfl), cell_below h (by simp only [World.cell?, new_block]; rfl), cell_below h (by simp only [World.cell?, new_block]; rfl)⟩

end Go.Proofs.Ytfmaagcomplooaa

namespace Go.Proofs.Ytfmaagcomplooaa
set_option maxRecDepth 100000
open Go Go.RowKit

/-- A world that has grown out of wb. -/
structure Grown (wb : World) where
  W : World
  below : Below wb.heap.size wb W

instance (wb : World) : Nonempty (Grown wb) := ⟨⟨wb, Below.refl _ _⟩⟩

theorem wp_region_grown {P : Program} {id : Nat} {Q : Exit → Act → World → Prop} {a : Act} {w : World} {l : List Oper} (hm : P.follows .mixedOrders = true) (hB : Region.lexB .any l.toArray = true)
    (h : wpQuiet P l.toArray (fun w' => ∃ x : Grown w, w' = x.W) (fun a' => ∀ w', (∃ x : Grown w, w' = x.W) → Q .normal a' w') l a) : (Code.region id l.toArray true).wp P Q a w :=
  wp_region_quiet (C := fun w' => ∃ x : Grown w, w' = x.W) hm hB ⟨⟨{ w with drawn := w.drawn + 1 }, ⟨rfl, rfl, rfl, Nat.le_refl _, fun _ _ => rfl⟩⟩, rfl⟩ (by simpa using h)

theorem grown_call {wb : World} {P : Program} {f : FuncId} {args : Array Value} {v : Value} (h : ∀ W, Below wb.heap.size wb W → Calls P f args W fun e w' => e = .returned v ∧ Below W.heap.size W w') :
    ∀ x : Grown wb, Calls P f args x.W fun e w'' => e = .returned v ∧ ∃ y : Grown wb, w'' = y.W :=
  fun x => (h x.W x.below).mono fun _e w'' h' => ⟨h'.1, ⟨w'', x.below.trans (h'.2.mono x.below.size)⟩, rfl⟩
theorem grown_cell {wb : World} {a : Addr} {v : Value} (h : wb.cell? a = some v) : ∀ x : Grown wb, x.W.cell? a = some v := fun x => cell_below x.below h
end Go.Proofs.Ytfmaagcomplooaa

namespace Go.Proofs.Ytfmaagcomplooaa
set_option maxRecDepth 100000
open Go Go.RowKit

def noIno : Ino := ⟨0, 0, 0, [], [], 0⟩
def nodeAt (L : List Ino) (k : Int) : Ino := L.getD k.toNat noIno
def dirB (L : List Ino) (k : Int) : Bool := thereB L k && (nodeAt L k).kind == 2

def findK : List (List UInt8 × Int) → List UInt8 → Int
  | [], _ => -1
  | e :: r, s => if e.1 = s then e.2 else findK r s
def kidL (L : List Ino) (d : Int) (s : List UInt8) : Int := if dirB L d then findK (nodeAt L d).kids s else -1

theorem there_nat {L : List Ino} {k : Int} (h : thereB L k = true) : ∃ n : Nat, k = (n : Int) ∧ n < L.length := by
  unfold thereB at h
  rw [Bool.and_eq_true, decide_eq_true_eq, decide_eq_true_eq] at h
  exact ⟨k.toNat, by omega, by omega⟩
theorem there_not {L : List Ino} {k : Int} (h : thereB L k = false) : k < 0 ∨ (L.length : Int) ≤ k := by
  unfold thereB at h
  rw [Bool.and_eq_false_iff, decide_eq_false_iff_not, decide_eq_false_iff_not] at h
  omega
theorem node_nat (L : List Ino) (n : Nat) (h : n < L.length) : nodeAt L (n : Int) = L[n] := by
  unfold nodeAt
  rw [Int.toNat_natCast, List.getD_eq_getElem?_getD, List.getElem?_eq_getElem h]
  rfl
theorem there_of (L : List Ino) (n : Nat) (h : n < L.length) : thereB L (n : Int) = true := by
  unfold thereB
  rw [decide_eq_true (by omega), decide_eq_true (by omega)]
  rfl
theorem findK_drop (M : List (List UInt8 × Int)) (k : Nat) (hk : k < M.length) (s : List UInt8) : findK (M.drop k) s = if M[k].1 = s then M[k].2 else findK (M.drop (k + 1)) s := by
  rw [List.drop_eq_getElem_cons hk]
  rfl

/-- The reference's there, of a tree's inodes. -/
theorem rthere_known (a : Option Addr) (cap : Nat) (m b k : Int) (L : List Ino) (v : Bool) (hv : thereB L k = v) (w : World) :
    Calls Try.prog 38 #[.agg #[.slice a L.length cap, .int .i64 m, .int .i64 b], .int .i64 k] w fun e w' => e = .returned (.bool v) ∧ Below w.heap.size w w' := by
  subst hv
  exact rthere_any a cap L.length m b k w

set_option maxHeartbeats 1000000 in
theorem rkid_any (a : Option Addr) (cap : Nat) (m b d : Int) (nm : List UInt8) (L : List Ino) (w : World) (hN : NodesIn w a cap L) :
    Calls Try.prog 14 #[.agg #[.slice a L.length cap, .int .i64 m, .int .i64 b], .int .i64 d, .string ⟨nm.toArray⟩] w fun e w' => e = .returned (.int .i64 (kidL L d nm)) ∧ Below w.heap.size w w' := by
  have hb1 := below_box w (.cells #[.slice a L.length cap, .int .i64 m, .int .i64 b] 24)
  have hM := hN.below hb1
  have hcap := hN.1
  have hmax := hN.2.1
  unfold maxLen at hmax
  have HM := Lib.hid hM
  clear hM hN
  cases ht : thereB L d with
  | false =>
    have HT := Lib.hid ht
    have hfin := Lib.hid (show kidL L d nm = -1 by unfold kidL dirB; rw [ht]; rfl)
    clear ht
    rw [hfin.out]
    go_enter Try.func14, Try.ntmps14
    go_wp2_with (first | (go_at_call 38; refine (rthere_known _ _ _ _ _ _ _ HT.out _).mono ?_; rintro e w2 ⟨rfl, hb2⟩) | fail)
    go_ret
    exact ⟨rfl, hb1.trans (hb2.mono (by simp))⟩
  | true =>
    obtain ⟨n, rfl, hn⟩ := there_nat ht
    have HT := Lib.hid ht
    clear ht
    obtain ⟨bb, o, rfl, hx⟩ := HM.out.2.2 n hn
    have h1 := hx.kind
    have hd0 : (0 : Int) ≤ (n : Int) := by omega
    cases hz : (L[n].kind != 2) with
    | true =>
      have hfin := Lib.hid (show kidL L (n : Int) nm = -1 by
        unfold kidL dirB
        rw [HT.out, node_nat L n hn]
        have : (L[n].kind == 2) = false := by simpa [bne] using hz
        rw [this]
        rfl)
      rw [hfin.out]
      go_enter Try.func14, Try.ntmps14
      go_wp2_with (first | (go_at_call 38; refine (rthere_known _ _ _ _ _ _ _ HT.out _).mono ?_; rintro e w2 ⟨rfl, hb2⟩; obtain ⟨q0, q1, q2⟩ := box3 hb2; have h2 := cell_below hb2 h1) | fail)
      go_ret
      exact ⟨rfl, hb1.trans (hb2.mono (by simp))⟩
    | false =>
      have hz' : (L[n].kind == 2) = true := by simpa [bne] using hz
      obtain ⟨kv, hk1, hks⟩ := hx.kids
      obtain ⟨M, hMe⟩ : ∃ M, M = L[n].kids := ⟨_, rfl⟩
      rw [← hMe] at hks
      obtain ⟨ka, kcap, rfl, hkc, hkm, hkk⟩ := hks
      unfold maxLen at hkm
      have HK := Lib.hid hkk
      have hfin := Lib.hid (show kidL L (n : Int) nm = findK M nm by
        unfold kidL dirB
        rw [HT.out, node_nat L n hn, hz', hMe]
        rfl)
      rw [hfin.out]
      clear hkk hMe
      go_enter Try.func14, Try.ntmps14
      go_wp2_with (first | (go_at_call 38; refine (rthere_known _ _ _ _ _ _ _ HT.out _).mono ?_; rintro e w2 ⟨rfl, hb2⟩; obtain ⟨q0, q1, q2⟩ := box3 hb2; have h2 := cell_below hb2 h1; have h3 := cell_below hb2 hk1) | fail)
      have HB := Lib.hid (hb1.trans (hb2.mono (by simp)))
      have HKB := Lib.hid (show ∀ k (hk : k < M.length), ∃ b o, ka = some ⟨b, o, none⟩ ∧ w2.cell? ⟨b, o + k * 2, none⟩ = some (.string ⟨M[k].1.toArray⟩) ∧ w2.cell? ⟨b, o + k * 2 + 1, none⟩ = some (.int .i64 M[k].2) from
        fun k hk => by obtain ⟨b', o', e1, e2, e3⟩ := HK.out k hk; exact ⟨b', o', e1, cell_below hb2 e2, cell_below hb2 e3⟩)
      clear h2 h3 q0 q1 q2 hb1 hb2 HM HT hx hk1 HK hfin
      go_loop [8] (fun i => ∃ k : Nat, k ≤ M.length ∧ i = .int .i64 k ∧ Hid (findK M nm = findK (M.drop k) nm)) (fun i => M.length - (intOf i).toNat)
      case atStart => exact ⟨0, by omega, rfl, Lib.hid rfl⟩
      case round =>
        obtain ⟨k, hk, rfl, hfk⟩ := hrel
        by_cases hlt : k < M.length
        · obtain ⟨b', o', rfl, e2, e3⟩ := HKB.out k hlt
          have hst := findK_drop M k hlt nm
          cases hc : (M[k].1 == nm) with
          | true =>
            rw [if_pos (by simpa using hc)] at hst
            have HF := Lib.hid (hfk.out.trans hst)
            clear hst
            go_wp2_with fail
            go_ret
            exact ⟨by rw [HF.out]; rfl, HB.out⟩
          | false =>
            rw [if_neg (by simpa using hc)] at hst
            have HF := Lib.hid (hfk.out.trans hst)
            clear hst
            go_wp2_with fail
            go_round
            case rel => exact ⟨k + 1, by omega, by go_num, HF⟩
            case measure => simp [intOf] <;> omega
        · have HF := Lib.hid (show findK M nm = -1 by rw [hfk.out, List.drop_eq_nil_of_le (by omega)]; rfl)
          go_wp2_with fail
          go_ret
          exact ⟨by rw [HF.out]; rfl, HB.out⟩
end Go.Proofs.Ytfmaagcomplooaa

namespace Go.Proofs.Ytfmaagcomplooaa
set_option maxRecDepth 100000
open Go

/-- A path's names, cur being what has been read of the one at hand. -/
def partsGo (cur : List UInt8) : List UInt8 → List (List UInt8)
  | [] => if cur = [] then [] else [cur]
  | c :: r => if c = 47 then (if cur = [] then partsGo [] r else cur :: partsGo [] r) else partsGo (cur ++ [c]) r
def partsL (l : List UInt8) : List (List UInt8) := partsGo [] l

/-- A name as a value. -/
def strv (l : List UInt8) : Value := .string ⟨l.toArray⟩

theorem extract_list (s : ByteArray) (f k : Nat) : (s.extract f k).data.toList = (s.data.toList.take k).drop f := by
  rw [ByteArray.data_extract, Array.toList_extract]
  show List.take (k - f) (List.drop f s.data.toList) = _
  rw [List.drop_take]
theorem extract_val (s : ByteArray) (f k : Nat) : Value.string (s.extract f k) = strv ((s.data.toList.take k).drop f) := by
  unfold strv
  congr 1
  apply ByteArray.ext
  apply Array.ext'
  rw [extract_list]

/-- What holds at the loop's head: the names before are done. -/
def Cut (s : List UInt8) (k f : Nat) (D : List (List UInt8)) : Prop :=
  (k ≤ s.length ∧ f ≤ k ∧ partsL s = D ++ partsGo ((s.take k).drop f) (s.drop k)) ∨ (k = s.length + 1 ∧ partsL s = D)

theorem Cut.start (s : List UInt8) : Cut s 0 0 [] := Or.inl ⟨Nat.zero_le _, Nat.le_refl _, by simp [partsL]⟩

theorem take_more (s : List UInt8) (k f : Nat) (hk : k < s.length) (hf : f ≤ k) : (s.take (k + 1)).drop f = (s.take k).drop f ++ [s[k]] := by
  rw [List.take_succ_eq_append_getElem hk, List.drop_append_of_le_length (by simp; omega)]

theorem seg_empty (s : List UInt8) (k f : Nat) (hk : k ≤ s.length) (hf : f ≤ k) : (s.take k).drop f = [] ↔ f = k := by
  rw [← List.length_eq_zero_iff]
  simp
  omega

theorem Cut.goes (s : List UInt8) (k f : Nat) (D : List (List UInt8)) (h : Cut s k f D) (hk : k < s.length) (hc : s[k] ≠ 47) : Cut s (k + 1) f D := by
  rcases h with ⟨_, hf, h⟩ | ⟨e, _⟩
  · refine Or.inl ⟨by omega, by omega, ?_⟩
    rw [h, List.drop_eq_getElem_cons hk, take_more s k f hk hf]
    simp only [partsGo, if_neg hc]
  · omega
theorem Cut.blank (s : List UInt8) (k : Nat) (D : List (List UInt8)) (h : Cut s k k D) (hk : k < s.length) (hc : s[k] = 47) : Cut s (k + 1) (k + 1) D := by
  rcases h with ⟨hk', hf, h⟩ | ⟨e, _⟩
  · refine Or.inl ⟨by omega, by omega, ?_⟩
    have e0 := (seg_empty s k k hk' hf).2 rfl
    have e1 := (seg_empty s (k + 1) (k + 1) (by omega) (Nat.le_refl _)).2 rfl
    rw [h, List.drop_eq_getElem_cons hk, e0, e1]
    simp only [partsGo, if_pos hc, if_true]
  · omega
theorem Cut.ends (s : List UInt8) (k f : Nat) (D : List (List UInt8)) (h : Cut s k f D) (hk : k < s.length) (hc : s[k] = 47) (hf : f < k) : Cut s (k + 1) (k + 1) (D ++ [(s.take k).drop f]) := by
  rcases h with ⟨hk', hf', h⟩ | ⟨e, _⟩
  · refine Or.inl ⟨by omega, by omega, ?_⟩
    have e0 : ¬ (s.take k).drop f = [] := fun e => by have := (seg_empty s k f hk' hf').1 e; omega
    have e1 := (seg_empty s (k + 1) (k + 1) (by omega) (Nat.le_refl _)).2 rfl
    rw [h, List.drop_eq_getElem_cons hk, e1]
    simp only [partsGo, if_pos hc, if_neg e0, List.append_assoc, List.singleton_append]
  · omega
theorem Cut.last (s : List UInt8) (f : Nat) (D : List (List UInt8)) (h : Cut s s.length f D) (hf : f < s.length) : Cut s (s.length + 1) (s.length + 1) (D ++ [(s.take s.length).drop f]) := by
  rcases h with ⟨hk', hf', h⟩ | ⟨e, _⟩
  · refine Or.inr ⟨rfl, ?_⟩
    have e0 : ¬ (s.take s.length).drop f = [] := fun e => by have := (seg_empty s s.length f hk' hf').1 e; omega
    rw [h, List.drop_length]
    simp only [partsGo, if_neg e0]
  · omega
theorem Cut.over (s : List UInt8) (D : List (List UInt8)) (h : Cut s s.length s.length D) : Cut s (s.length + 1) (s.length + 1) D := by
  rcases h with ⟨hk', hf', h⟩ | ⟨e, _⟩
  · refine Or.inr ⟨rfl, ?_⟩
    have e0 := (seg_empty s s.length s.length hk' hf').2 rfl
    rw [h, List.drop_length, e0]
    simp [partsGo]
  · omega
theorem Cut.done (s : List UInt8) (f : Nat) (D : List (List UInt8)) (h : Cut s (s.length + 1) f D) : D = partsL s := by
  rcases h with ⟨hk, _, _⟩ | ⟨_, h⟩
  · omega
  · exact h.symm
theorem Cut.le (s : List UInt8) (k f : Nat) (D : List (List UInt8)) (h : Cut s k f D) (hk : k ≤ s.length) : f ≤ k := by
  rcases h with ⟨_, hf, _⟩ | ⟨e, _⟩
  · exact hf
  · omega
end Go.Proofs.Ytfmaagcomplooaa

namespace Go.Proofs.Ytfmaagcomplooaa
set_option maxRecDepth 100000
open Go Go.RowKit

theorem infoS : (Try.prog.info? 9).map (fun i => (i.zero, i.size, i.bytes)) = some (some (.string ByteArray.empty), 1, 16) := by kernel_rfl

/-- The slice v holds the texts L, in a row that lies from block B on. -/
def Texts (B : Nat) (w : World) (v : Value) (L : List (List UInt8)) : Prop := w.ownsRow B 9 1 v L.length (L.map strv)

theorem Texts.grow {B : Nat} {w' : World} {v' : Value} {L : List (List UInt8)} {x : List UInt8} (h : w'.ownsRow B 9 1 v' (L.length + 1) (L.map strv ++ [strv x])) : Texts B w' v' (L ++ [x]) := by
  unfold Texts
  rw [List.length_append, List.map_append]
  exact h
theorem slice_run (s : ByteArray) (f k : Nat) (h1 : f ≤ k) (h2 : k ≤ s.size) (W : World) :
    (Instr.slice 9 (.string s) (some (.int .i64 (f : Int))) (some (.int .i64 (k : Int))) none).run Try.prog W = .ok (.string (s.extract f k)) W := by
  have := run_slice_string (P := Try.prog) W 9 s .i64 .i64 (f : Int) (k : Int) Try.underlying9 (by omega) (by omega) (by omega)
  simpa using this

def NCut (s : ByteArray) (B : Nat) (w0 : World) (l f i : Value) (wr : World) : Prop :=
  ∃ k g : Nat, ∃ D : List (List UInt8), k ≤ s.size + 1 ∧ g ≤ s.size + 1 ∧ i = .int .i64 k ∧ f = .int .i64 g ∧ Cut s.data.toList k g D ∧ D.length ≤ k ∧ Texts B wr l D ∧ Below B w0 wr

theorem at_list (s : ByteArray) (k : Nat) (h : k < s.size) : s.data.toList[k]'(by simpa using h) = s[k] := rfl
theorem size_list (s : ByteArray) : s.data.toList.length = s.size := Array.length_toList

theorem cut_last (s : ByteArray) (g : Nat) (D : List (List UInt8)) (h : Cut s.data.toList s.size g D) (hg : g < s.size) : Cut s.data.toList (s.size + 1) (s.size + 1) (D ++ [(s.data.toList.take s.size).drop g]) := by
  rw [← size_list] at h hg ⊢
  exact Cut.last _ g D h hg
theorem cut_over (s : ByteArray) (D : List (List UInt8)) (h : Cut s.data.toList s.size s.size D) : Cut s.data.toList (s.size + 1) (s.size + 1) D := by
  rw [← size_list] at h ⊢
  exact Cut.over _ D h

set_option maxHeartbeats 2000000 in
theorem rparts_any (s : ByteArray) (hs : s.size ≤ 1073741824) (w : World) :
    Calls Try.prog 33 #[.string s] w fun e w' => ∃ v, e = .returned v ∧ Texts w.heap.size w' v (partsL s.data.toList) ∧ Below w.heap.size w w' := by
  obtain ⟨i0, hi, hz0, hz1, hz2⟩ := info_parts infoS
  go_enter Try.func33, Try.ntmps33
  go_wp2_with fail
  go_loopw [3, 4, 5] (fun l f i wr => NCut s w.heap.size w l f i wr) (fun _ _ i _ => s.size + 1 - (intOf i).toNat)
  case atStart => exact ⟨0, 0, [], by omega, by omega, rfl, rfl, Cut.start _, by simp, World.ownsRow_nil _ _ _ _, Below.refl _ _⟩
  case round =>
    obtain ⟨k, g, D, hk, hg, rfl, rfl, hcut, hD, hown, hb⟩ := hrel
    have HC := Lib.hid hcut
    have HO := Lib.hid (show wr.ownsRow w.heap.size 9 1 _ D.length (D.map strv) from hown)
    clear hcut hown
    by_cases hlt : k < s.size
    · cases hc : ((s[k].toNat : Int) != 47) with
      | true =>
        go_wp2_with fail
        go_roundw
        case rel => exact ⟨k + 1, g, D, by omega, hg, by go_num, rfl, Cut.goes _ _ _ _ HC.out (by rw [size_list]; exact hlt) (by rw [at_list s k hlt]; intro e; rw [e] at hc; simp at hc), by omega, HO.out, hb⟩
        case measure => simp [intOf] <;> omega
      | false =>
        have hc' : s[k] = 47 := by
          have h := bne_eq_false_iff_eq.1 hc
          exact UInt8.toNat_inj.1 (by show s[k].toNat = 47; omega)
        have HC' := Lib.hid hc'
        clear hc'
        by_cases hgk : g < k
        · have hr := slice_run s g k (by omega) (by omega)
          go_wp2_with (first | (at_builtin; (refine wpList_append_own _ rfl _ _ 42 rfl w.heap.size 9 i0 (.string ByteArray.empty) 1 16 Try.underlying42 hi hz0 hz1 hz2 rfl (by decide) _ _ _ rfl (HO.out.alloc _) ⟨wr.heap.size, 0, none⟩ 1 1 [.string (s.extract g k)] rfl rfl (cell_one_new _ _ _) (fun x hx => by simp at hx; subst hx; rfl) (by unfold maxLen; omega) (by omega) (by simp; exact Nat.le_succ_of_le hb.size) ?_); intro v' w3 hown' hgrow3 hnil3) | fail)
          have hT : Texts w.heap.size w3 v' (D ++ [(s.data.toList.take k).drop g]) := Texts.grow (by rw [← extract_val]; exact hown')
          have hb3 : Below w.heap.size w w3 := (hb.alloc hb.size _).grown hgrow3 (by simp; exact Nat.le_succ_of_le hb.size) (fun r hr' => (HO.out.lt r hr').1)
          have HT := Lib.hid hT
          have HB := Lib.hid hb3
          clear hT hb3 hown' hgrow3 hnil3
          go_wp2_with fail
          go_roundw
          case rel => exact ⟨k + 1, k + 1, D ++ [(s.data.toList.take k).drop g], by omega, by omega, by go_num, by go_num, Cut.ends _ _ _ _ HC.out (by rw [size_list]; exact hlt) (by rw [at_list s k hlt]; exact HC'.out) hgk, by simp; omega, HT.out, HB.out⟩
          case measure => simp [intOf] <;> omega
        · have hgk2 : g = k := by have := Cut.le _ _ _ _ HC.out (by rw [size_list]; omega); omega
          subst hgk2
          go_wp2_with fail
          go_roundw
          case rel => exact ⟨g + 1, g + 1, D, by omega, by omega, by go_num, by go_num, Cut.blank _ _ _ HC.out (by rw [size_list]; exact hlt) (by rw [at_list s g hlt]; exact HC'.out), by omega, HO.out, hb⟩
          case measure => simp [intOf] <;> omega
    · by_cases heq : k = s.size
      · subst heq
        by_cases hgk : g < s.size
        · have hr := slice_run s g s.size (by omega) (by omega)
          go_wp2_with (first | (at_builtin; (refine wpList_append_own _ rfl _ _ 42 rfl w.heap.size 9 i0 (.string ByteArray.empty) 1 16 Try.underlying42 hi hz0 hz1 hz2 rfl (by decide) _ _ _ rfl (HO.out.alloc _) ⟨wr.heap.size, 0, none⟩ 1 1 [.string (s.extract g s.size)] rfl rfl (cell_one_new _ _ _) (fun x hx => by simp at hx; subst hx; rfl) (by unfold maxLen; omega) (by omega) (by simp; exact Nat.le_succ_of_le hb.size) ?_); intro v' w3 hown' hgrow3 hnil3) | fail)
          have hT : Texts w.heap.size w3 v' (D ++ [(s.data.toList.take s.size).drop g]) := Texts.grow (by rw [← extract_val]; exact hown')
          have hb3 : Below w.heap.size w w3 := (hb.alloc hb.size _).grown hgrow3 (by simp; exact Nat.le_succ_of_le hb.size) (fun r hr' => (HO.out.lt r hr').1)
          have HT := Lib.hid hT
          have HB := Lib.hid hb3
          clear hT hb3 hown' hgrow3 hnil3
          go_wp2_with fail
          go_roundw
          case rel => exact ⟨s.size + 1, s.size + 1, D ++ [(s.data.toList.take s.size).drop g], by omega, by omega, by go_num, by go_num, cut_last s g D HC.out hgk, by simp; omega, HT.out, HB.out⟩
          case measure => simp [intOf] <;> omega
        · have hgk2 : g = s.size := by have := Cut.le _ _ _ _ HC.out (by rw [size_list]; omega); omega
          subst hgk2
          go_wp2_with fail
          go_roundw
          case rel => exact ⟨s.size + 1, s.size + 1, D, by omega, by omega, by go_num, by go_num, cut_over s D HC.out, by omega, HO.out, hb⟩
          case measure => simp [intOf] <;> omega
      · have hk1 : k = s.size + 1 := by omega
        have hfin := Lib.hid (show D = partsL s.data.toList from Cut.done _ g D (by rw [size_list]; exact hk1 ▸ HC.out))
        go_wp2_with fail
        go_ret
        exact ⟨_, rfl, by rw [← hfin.out]; exact HO.out, hb⟩
end Go.Proofs.Ytfmaagcomplooaa

namespace Go.Proofs.Ytfmaagcomplooaa
set_option maxRecDepth 100000
open Go Go.RowKit

/-- A row of texts, laid open. -/
theorem Texts.forms {B : Nat} {w : World} {v : Value} {L : List (List UInt8)} (h : Texts B w v L) :
    (v = .slice none 0 0 ∧ L = []) ∨ ∃ g cap : Nat, v = .slice (some ⟨g, 0, none⟩) L.length cap ∧ B ≤ g ∧ g < w.heap.size ∧ L.length ≤ cap ∧ cap ≤ maxLen ∧
      ∀ i (hi : i < L.length), w.cell? ⟨g, i, none⟩ = some (strv L[i]) := by
  obtain ⟨h1, h2 | ⟨g, cap, cur, rfl, hg, hh, hn, hm, hs, ht⟩⟩ := h
  · obtain ⟨rfl, hn⟩ := h2
    exact Or.inl ⟨rfl, List.length_eq_zero_iff.1 hn⟩
  · refine Or.inr ⟨g, cap, rfl, hg, (Array.getElem?_eq_some_iff.1 hh).1, hn, hm, fun i hi => ?_⟩
    have e : cur.toList[i]? = some (strv L[i]) := by
      have e1 : (cur.toList.take (L.length * 1))[i]? = (L.map strv)[i]? := by rw [ht]
      rw [List.getElem?_take, if_pos (by omega), List.getElem?_map, List.getElem?_eq_getElem hi] at e1
      exact e1
    simp only [World.cell?, hh]
    rw [Array.getElem?_toList] at e
    simpa using e

theorem Texts.below {B : Nat} {w w' : World} {v : Value} {L : List (List UInt8)} (h : Texts B w v L) (hb : Below w.heap.size w w') : Texts B w' v L :=
  h.kept (row := none) ⟨hb.os, hb.tape, hb.output, hb.size, fun k hk _ => hb.block k hk⟩ (by
    cases hv : v.ownBlock with
    | none => exact Or.inl rfl
    | some k => exact Or.inr (by simp))

/-- Names with a slash between. -/
def joinL : List (List UInt8) → List UInt8
  | [] => []
  | [x] => x
  | x :: y :: r => x ++ 47 :: joinL (y :: r)

theorem join_snoc : ∀ (D : List (List UInt8)) (x : List UInt8), D ≠ [] → joinL (D ++ [x]) = joinL D ++ 47 :: x
  | [], x, h => absurd rfl h
  | [d], x, _ => by simp [joinL]
  | d :: e :: r, x, _ => by
    have ih := join_snoc (e :: r) x (by simp)
    simp only [List.cons_append] at ih ⊢
    simp only [joinL, ih, List.append_assoc, List.cons_append]

/-- How many bytes names take, a slash behind each. -/
def total : List (List UInt8) → Nat
  | [] => 0
  | x :: r => x.length + 1 + total r
theorem total_append : ∀ (D E : List (List UInt8)), total (D ++ E) = total D + total E
  | [], E => by simp [total]
  | d :: r, E => by simp only [List.cons_append, total, total_append r E]; omega
theorem join_le : ∀ (D : List (List UInt8)), (joinL D).length ≤ total D
  | [] => by simp [joinL]
  | [x] => by simp [joinL, total]
  | x :: y :: r => by
    have ih := join_le (y :: r)
    simp only [joinL, List.length_append, List.length_cons, total] at ih ⊢
    omega
theorem total_take (L : List (List UInt8)) (k : Nat) : total (L.take k) ≤ total L := by
  have h := total_append (L.take k) (L.drop k)
  rw [List.take_append_drop] at h
  omega
theorem total_go : ∀ (l cur : List UInt8), total (partsGo cur l) ≤ cur.length + l.length + 1
  | [], cur => by
    unfold partsGo
    split
    · simp [total]
    · simp [total]
  | c :: r, cur => by
    unfold partsGo
    split
    · split
      · have := total_go r []
        simp at this ⊢
        omega
      · have := total_go r []
        simp only [total, List.length_cons, List.length_nil] at this ⊢
        omega
    · have := total_go r (cur ++ [c])
      simp at this ⊢
      omega
theorem total_parts (l : List UInt8) : total (partsL l) ≤ l.length + 1 := by
  have := total_go l []
  simpa [partsL] using this

theorem strv_cat (a b : List UInt8) : Value.string ((⟨a.toArray⟩ : ByteArray) ++ (⟨b.toArray⟩ : ByteArray)) = strv (a ++ b) := by
  rw [ByteArray.mk_append_mk]
  unfold strv
  congr 2

end Go.Proofs.Ytfmaagcomplooaa

namespace Go.Proofs.Ytfmaagcomplooaa
set_option maxRecDepth 100000
open Go Go.RowKit

def wholeL : List UInt8 → Bool
  | [] => false
  | c :: _ => c == 47

theorem filled (s : ByteArray) (h0 : 0 < s.size) : s.toList.isEmpty = false := by
  rcases s with ⟨⟨l⟩⟩
  cases l with
  | nil => exact absurd h0 (Nat.lt_irrefl 0)
  | cons c r => rw [ByteArray.toList_eq]; rfl
theorem bare (s : ByteArray) (h0 : ¬ 0 < s.size) : s = ⟨#[]⟩ := by
  rcases s with ⟨⟨l⟩⟩
  cases l with
  | nil => rfl
  | cons c r => exact absurd (Nat.succ_pos r.length) h0
theorem whole_at (s : ByteArray) (h0 : 0 < s.size) : wholeL s.data.toList = ((s[0].toNat : Int) == 47) := by
  rcases s with ⟨⟨l⟩⟩
  cases l with
  | nil => exact absurd h0 (Nat.lt_irrefl 0)
  | cons c r =>
    show (c == 47) = ((c.toNat : Int) == 47)
    rw [Bool.eq_iff_iff, beq_iff_eq, beq_iff_eq, ← UInt8.toNat_inj]
    show c.toNat = 47 ↔ _
    omega

theorem rwhole_any (s : ByteArray) (w : World) : Calls Try.prog 53 #[.string s] w fun e w' => e = .returned (.bool (wholeL s.data.toList)) ∧ w = w' := by
  by_cases h0 : 0 < s.size
  · have hne := filled s h0
    rw [whole_at s h0]
    cases hc : ((s[0].toNat : Int) == 47)
    all_goals
      go_enter Try.func53, Try.ntmps53
      go_wp2_with fail
      go_ret
      exact ⟨rfl, rfl⟩
  · obtain rfl := bare s h0
    go_enter Try.func53, Try.ntmps53
    go_wp2_with fail
    go_ret
    exact ⟨rfl, rfl⟩

/-- Can a name stand in a directory? -/
def nameOkL (l : List UInt8) : Bool := l.all (fun c => c != 47 && c != 0) && !l.isEmpty && decide (l.length ≤ 64) && !(l == [46]) && !(l == [46, 46])

def Clean (s : ByteArray) (k : Nat) : Prop := ∀ j (h : j < s.size), j < k → s[j] ≠ 47 ∧ s[j] ≠ 0

theorem clean_all (s : ByteArray) (h : Clean s s.size) : s.data.toList.all (fun c => c != 47 && c != 0) = true := by
  rw [List.all_eq_true]
  intro c hc
  obtain ⟨j, hj, rfl⟩ := List.getElem_of_mem hc
  have hj' : j < s.size := by simpa using hj
  have := h j hj' hj'
  rw [at_list s j hj']
  simp [this.1, this.2]
theorem clean_not (s : ByteArray) (k : Nat) (hk : k < s.size) (h : s[k] = 47 ∨ s[k] = 0) : nameOkL s.data.toList = false := by
  have : s.data.toList.all (fun c => c != 47 && c != 0) = false := by
    rw [List.all_eq_false]
    refine ⟨s.data.toList[k]'(by simpa using hk), by simp, ?_⟩
    rw [at_list s k hk]
    rcases h with h | h <;> simp [h]
  simp [nameOkL, this]
theorem byte_is (c : UInt8) (n : Nat) (hn : n < 256) (h : ((c.toNat : Int) == (n : Int)) = true) : c = UInt8.ofNat n := by
  have h' : (c.toNat : Int) = n := by simpa using h
  apply UInt8.toNat_inj.1
  rw [UInt8.toNat_ofNat']
  omega
theorem byte_not (c : UInt8) (n : Nat) (hn : n < 256) (h : ((c.toNat : Int) == (n : Int)) = false) : c ≠ UInt8.ofNat n := by
  intro e
  subst e
  rw [UInt8.toNat_ofNat', Nat.mod_eq_of_lt hn] at h
  simp at h

set_option maxHeartbeats 1000000 in
theorem rname_any (s : ByteArray) (hs : s.size ≤ maxLen) (w : World) : Calls Try.prog 55 #[.string s] w fun e w' => e = .returned (.bool (nameOkL s.data.toList)) ∧ w = w' := by
  unfold maxLen at hs
  go_enter Try.func55, Try.ntmps55
  go_wp2_with fail
  go_loop [3] (fun i => ∃ k : Nat, k ≤ s.size ∧ i = .int .i64 k ∧ Hid (Clean s k)) (fun i => s.size - (intOf i).toNat)
  case atStart => exact ⟨0, by omega, rfl, fun _ _ h => absurd h (Nat.not_lt_zero _)⟩
  case round =>
    obtain ⟨k, hk, rfl, hd⟩ := hrel
    by_cases hlt : k < s.size
    · cases h47 : ((s[k].toNat : Int) == 47) with
      | true =>
        have hfin := Lib.hid (clean_not s k hlt (Or.inl (byte_is _ 47 (by decide) h47)))
        go_wp2_with fail
        go_ret
        exact ⟨by rw [hfin.out]; rfl, rfl⟩
      | false =>
        cases hz : ((s[k].toNat : Int) == 0) with
        | true =>
          have hfin := Lib.hid (clean_not s k hlt (Or.inr (byte_is _ 0 (by decide) hz)))
          go_wp2_with fail
          go_ret
          exact ⟨by rw [hfin.out]; rfl, rfl⟩
        | false =>
          have hst : Clean s (k + 1) := fun j hj hjk => by
            by_cases e : j = k
            · subst e; exact ⟨byte_not _ 47 (by decide) h47, byte_not _ 0 (by decide) hz⟩
            · exact hd.out j hj (by omega)
          have HS := Lib.hid hst
          clear hst
          go_wp2_with fail
          go_round
          case rel => exact ⟨k + 1, by omega, by go_num, HS⟩
          case measure => simp [intOf] <;> omega
    · obtain rfl : k = s.size := by omega
      have hall := Lib.hid (clean_all s hd.out)
      have hlen := size_list s
      cases he : s.toList.isEmpty <;> cases h1 : (s.toList == [46]) <;> cases h2 : (s.toList == [46, 46]) <;> by_cases h64 : s.size ≤ 64
      all_goals
        have hfin : nameOkL s.data.toList = (!s.toList.isEmpty && decide (s.size ≤ 64) && !(s.toList == [46]) && !(s.toList == [46, 46])) := by
          unfold nameOkL
          rw [hall.out, hlen, ByteArray.toList_eq]
          simp
        have HF := Lib.hid hfin
        clear hfin hlen
        go_wp2_with fail
        go_ret
        exact ⟨by rw [HF.out, he, h1, h2]; simp [h64], rfl⟩
end Go.Proofs.Ytfmaagcomplooaa

namespace Go.Proofs.Ytfmaagcomplooaa
set_option maxRecDepth 100000
open Go Go.RowKit

def intv (z : Int) : Value := .int .i64 z
/-- Block C holds the numbers c. -/
def CountIn (W : World) (C : Nat) (c : List Int) : Prop := W.heap[C]? = some (.cells (c.map intv).toArray 3 (0, 0))

theorem CountIn.cell {W : World} {C : Nat} {c : List Int} (h : CountIn W C c) (i : Nat) (hi : i < c.length) : W.cell? ⟨C, i, none⟩ = some (.int .i64 c[i]) := by
  simp only [World.cell?, show W.heap[C]? = _ from h]
  simp [hi, intv]
theorem CountIn.frozen {W : World} {C : Nat} {c : List Int} (h : CountIn W C c) (i : Nat) : W.frozen? ⟨C, i, none⟩ = false := by
  simp only [World.frozen?, show W.heap[C]? = _ from h]
  simp
theorem CountIn.below {W W' : World} {C : Nat} {c : List Int} (h : CountIn W C c) (hb : Below W.heap.size W W') : CountIn W' C c :=
  (hb.block C (Array.getElem?_eq_some_iff.1 h).1).trans h
theorem CountIn.set {W : World} {C : Nat} {c : List Int} (h : CountIn W C c) (i : Nat) (z : Int) : CountIn (W.setCell ⟨C, i, none⟩ (.int .i64 z)) C (c.set i z) := by
  show (W.setCell ⟨C, i, none⟩ (.int .i64 z)).heap[C]? = _
  have e : (c.map intv).toArray.setIfInBounds i (.int .i64 z) = ((c.set i z).map intv).toArray := by
    apply Array.ext'
    simp [intv, List.map_set]
  rw [← e]
  simp only [World.setCell, Array.getElem?_modify, show W.heap[C]? = _ from h, Option.map_some]
  simp

/-- What holds of a name of directory d, at its place. -/
structure KidOk (L : List Ino) (d : Nat) (M : List (List UInt8 × Int)) (k : Nat) (h : k < M.length) : Prop where
  name : nameOkL M[k].1 = true
  order : ∀ t (ht : k = t + 1), Op.bytesLess (M[t]'(by omega)).1 M[k].1 = true
  there : thereB L M[k].2 = true
  kind : (nodeAt L M[k].2).kind ≠ 0
  dir : ¬ ((nodeAt L M[k].2).kind = 2 ∧ (M[k].2 = 0 ∨ (nodeAt L M[k].2).up ≠ d))
def KidsOk (L : List Ino) (d : Nat) (M : List (List UInt8 × Int)) : Prop := ∀ k (h : k < M.length), KidOk L d M k h
def bump1 (c : List Int) (j : Int) : List Int := c.set j.toNat (c.getD j.toNat 0 + 1)
def bump (c : List Int) (M : List (List UInt8 × Int)) : List Int := M.foldl (fun c e => bump1 c e.2) c
theorem bump_len (M : List (List UInt8 × Int)) : ∀ c, (bump c M).length = c.length := by
  induction M with
  | nil => intro c; rfl
  | cons e r ih => intro c; show (bump (bump1 c e.2) r).length = _; rw [ih]; simp [bump1]
theorem bump_snoc (M : List (List UInt8 × Int)) (k : Nat) (hk : k < M.length) (c : List Int) : bump c (M.take (k + 1)) = bump1 (bump c (M.take k)) M[k].2 := by
  rw [List.take_succ_eq_append_getElem hk]
  unfold bump
  rw [List.foldl_append]
  rfl
/-- Numbers from 0 to x. -/
def Low (c : List Int) (x : Int) : Prop := ∀ z ∈ c, 0 ≤ z ∧ z ≤ x
theorem Low.bump1 {c : List Int} {x : Int} (h : Low c x) (j : Int) (hx : 0 ≤ x) : Low (bump1 c j) (x + 1) := by
  intro z hz
  unfold Proofs.Ytfmaagcomplooaa.bump1 at hz
  rcases List.mem_or_eq_of_mem_set hz with h1 | rfl
  · have := h z h1; omega
  · rw [List.getD_eq_getElem?_getD]
    cases hc : c[j.toNat]? with
    | none => simp; omega
    | some y => have := h y (List.mem_of_getElem? hc); simp; omega

theorem rname_known (s : ByteArray) (hs : s.size ≤ 9223372036854775807) (v : Bool) (h : nameOkL s.data.toList = v) (w : World) : Calls Try.prog 55 #[.string s] w fun e w' => e = .returned (.bool v) ∧ w' = w := by
  subst h
  exact (rname_any s (by unfold maxLen; exact hs) w).mono fun e w' h => ⟨h.1, h.2.symm⟩

end Go.Proofs.Ytfmaagcomplooaa

namespace Go.Proofs.Ytfmaagcomplooaa
set_option maxRecDepth 100000
open Go Go.RowKit

theorem still_of_quiet {P : Program} {o : Oper} {a : Act} {w : World} {K : Act → Prop} (h : o.quiet P a (fun w' => w' = w) K) : o.still P a w K := by
  obtain ⟨v, h1, h2⟩ := h
  have h3 := h1 w rfl
  unfold Oper.quietAt at h3
  unfold Oper.still
  revert h3
  cases (execOp a.eval o).run P w with
  | ok x w' =>
    cases x with
    | value u => rintro ⟨rfl, rfl⟩; exact ⟨rfl, h2⟩
    | skip => rintro ⟨rfl, rfl⟩; exact ⟨rfl, h2⟩
    | enter f args => rintro ⟨rfl, h⟩; exact ⟨rfl, v, h, h2⟩
    | _ => intro h; exact h.elim
  | _ => intro h; exact h.elim
theorem wpStill_of_quiet {P : Program} {ops : Array Oper} {w : World} {Q : Act → Prop} : ∀ (l : List Oper) (a : Act), wpQuiet P ops (fun w' => w' = w) Q l a → wpStill P ops w Q l a
  | [], _, h => h
  | o :: rest, a, h => by
    unfold wpQuiet at h
    unfold wpStill
    split
    · rename_i hw
      rw [if_pos hw] at h
      exact still_of_quiet (Oper.quiet_mono (fun a' h' => wpStill_of_quiet rest a' h') h)
    · rename_i hw
      rw [if_neg hw] at h
      exact wpStill_of_quiet rest _ h
end Go.Proofs.Ytfmaagcomplooaa
