/-
  Trees as they lie in memory: inodes, names of a directory; and what a world that grows leaves of them.
  A region that draws its order, whose calls make memory and turn nothing that was there: every operation is quiet in the class of the worlds that have grown out of the one at its beginning.
  The reference's Kid: what a directory has of a name.
  Plain laws on paths: a path's names, as lists of bytes. No program stands here.
  The reference's Parts: a path's names, in a row of its own.
  Rows of texts: what a walk reads of them; joining names by a slash.
  The reference's Whole, Name, Base, Dir, Join.
  Plain words for the reference's kids, and how the counts lie in memory.
  A quiet walk that comes back to the very world serves where a still one is asked for.
  The reference's kids: a directory's names, and how many names each inode has.
  The reference's alone: an inode's own fields.
  The reference's rooted: going up from a directory leads to the root.
  Plain words and laws on trees that can be (no landed code in it).
  Plain laws on trees: how many names an inode has; each directory's Up is one.
  The reference's Fit, walked: what it asks.
-/
import Derived.WalkKit
import Derived.Lib.Hide
import Derived.Test.YtmaiphibpdngnaaGreatProg
import Derived.Deep.QuietTactic
import Derived.BigQuiet
import Derived.Maps.AppendAt
import Derived.BigRegion
import Derived.RangeFuncBox
import Derived.StillTailTactics
import Derived.Deep.Draws
import Derived.Laws.Cover1
import Derived.IntWalk
import Derived.Laws.MakeOwn
namespace Go.Proofs.YtmaiphibpdngnaaGreat
set_option maxRecDepth 100000
open Go Go.RowKit

/-- An inode; a tree. -/
structure Ino where
  kind : Int
  mode : Int
  links : Int
  data : List UInt8
  kids : List (List UInt8 × Int)
  up : Int
structure Tre where
  nodes : List Ino
  maxN : Int
  maxB : Int

/-- The slice v holds the names L. -/
def KidsIn (W : World) (v : Value) (L : List (List UInt8 × Int)) : Prop :=
  ∃ a cap, v = .slice a L.length cap ∧ L.length ≤ cap ∧ cap ≤ maxLen ∧
    ∀ i (hi : i < L.length), ∃ b o, a = some ⟨b, o, none⟩ ∧ W.cell? ⟨b, o + i * 2, none⟩ = some (.string ⟨L[i].1.toArray⟩) ∧ W.cell? ⟨b, o + i * 2 + 1, none⟩ = some (.int .i64 L[i].2)

/-- At block b, place o, lies the inode x. -/
structure NodeIn (W : World) (b o : Nat) (x : Ino) : Prop where
  kind : W.cell? ⟨b, o, none⟩ = some (.int .i64 x.kind)
  mode : W.cell? ⟨b, o + 1, none⟩ = some (.int .i64 x.mode)
  links : W.cell? ⟨b, o + 2, none⟩ = some (.int .i64 x.links)
  data : W.cell? ⟨b, o + 3, none⟩ = some (.string ⟨x.data.toArray⟩)
  kids : ∃ v, W.cell? ⟨b, o + 4, none⟩ = some v ∧ KidsIn W v x.kids
  up : W.cell? ⟨b, o + 5, none⟩ = some (.int .i64 x.up)

/-- The slice with address a holds the inodes L. -/
def NodesIn (W : World) (a : Option Addr) (cap : Nat) (L : List Ino) : Prop :=
  L.length ≤ cap ∧ cap ≤ maxLen ∧ ∀ i (hi : i < L.length), ∃ b o, a = some ⟨b, o, none⟩ ∧ NodeIn W b (o + i * 6) L[i]

def TreeIn (W : World) (v : Value) (T : Tre) : Prop :=
  ∃ a cap, v = .agg #[.slice a T.nodes.length cap, .int .i64 T.maxN, .int .i64 T.maxB] ∧ NodesIn W a cap T.nodes

theorem cell_lt {W : World} {a : Addr} {v : Value} (hc : W.cell? a = some v) : a.block < W.heap.size := by
  unfold World.cell? at hc
  cases hb : W.heap[a.block]? with
  | none => rw [hb] at hc; cases hc
  | some o => exact (Array.getElem?_eq_some_iff.1 hb).1
theorem cell_below {W W' : World} {a : Addr} {v : Value} (h : Below W.heap.size W W') (hc : W.cell? a = some v) : W'.cell? a = some v := by
  have hlt : a.block < W.heap.size := by
    unfold World.cell? at hc
    cases hb : W.heap[a.block]? with
    | none => rw [hb] at hc; cases hc
    | some o => exact (Array.getElem?_eq_some_iff.1 hb).1
  rw [World.cell?_of_block (h.block _ hlt)]
  exact hc

theorem KidsIn.below {W W' : World} {v : Value} {L : List (List UInt8 × Int)} (h : KidsIn W v L) (hb : Below W.heap.size W W') : KidsIn W' v L := by
  obtain ⟨a, cap, h1, h2, h3, h4⟩ := h
  refine ⟨a, cap, h1, h2, h3, fun i hi => ?_⟩
  obtain ⟨b, o, e1, e2, e3⟩ := h4 i hi
  exact ⟨b, o, e1, cell_below hb e2, cell_below hb e3⟩
theorem NodeIn.below {W W' : World} {b o : Nat} {x : Ino} (h : NodeIn W b o x) (hb : Below W.heap.size W W') : NodeIn W' b o x := by
  obtain ⟨v, h1, h2⟩ := h.kids
  exact ⟨cell_below hb h.kind, cell_below hb h.mode, cell_below hb h.links, cell_below hb h.data, ⟨v, cell_below hb h1, h2.below hb⟩, cell_below hb h.up⟩
theorem NodesIn.below {W W' : World} {a : Option Addr} {cap : Nat} {L : List Ino} (h : NodesIn W a cap L) (hb : Below W.heap.size W W') : NodesIn W' a cap L := by
  refine ⟨h.1, h.2.1, fun i hi => ?_⟩
  obtain ⟨b, o, e1, e2⟩ := h.2.2 i hi
  exact ⟨b, o, e1, e2.below hb⟩
theorem TreeIn.below {W W' : World} {v : Value} {T : Tre} (h : TreeIn W v T) (hb : Below W.heap.size W W') : TreeIn W' v T := by
  obtain ⟨a, cap, h1, h2⟩ := h
  exact ⟨a, cap, h1, h2.below hb⟩

/-- A box that is laid. -/
theorem below_box (W : World) (o : Obj) : Below W.heap.size W (W.alloc o) := (Below.refl _ W).alloc (Nat.le_refl _) _

theorem new_block (w : World) (o : Obj) : (w.alloc o).heap[w.heap.size]? = some o := by show (w.heap.push o)[w.heap.size]? = some o; simp

/-- What a box of three holds, wherever the world has grown. -/
theorem box3 {w W' : World} {x y z : Value} {t : TypeId} (h : Below (w.alloc (.cells #[x, y, z] t)).heap.size (w.alloc (.cells #[x, y, z] t)) W') :
    W'.cell? ⟨w.heap.size, 0, none⟩ = some x ∧ W'.cell? ⟨w.heap.size, 1, none⟩ = some y ∧ W'.cell? ⟨w.heap.size, 2, none⟩ = some z :=
  ⟨cell_below h (by simp only [World.cell?, new_block]; rfl), cell_below h (by simp only [World.cell?, new_block]; rfl), cell_below h (by simp only [World.cell?, new_block]; rfl)⟩

/-- How many inodes are used, how many bytes. -/
def usedN : List Ino → Nat
  | [] => 0
  | x :: r => (if x.kind = 0 then 0 else 1) + usedN r
def usedB : List Ino → Nat
  | [] => 0
  | x :: r => x.data.length + usedB r
theorem usedN_snoc : ∀ (L : List Ino) (x : Ino), usedN (L ++ [x]) = usedN L + (if x.kind = 0 then 0 else 1)
  | [], x => by simp [usedN]
  | y :: r, x => by simp only [List.cons_append, usedN, usedN_snoc r x]; omega
theorem usedB_snoc : ∀ (L : List Ino) (x : Ino), usedB (L ++ [x]) = usedB L + x.data.length
  | [], x => by simp [usedB]
  | y :: r, x => by simp only [List.cons_append, usedB, usedB_snoc r x]; omega
theorem usedN_le : ∀ (L : List Ino), usedN L ≤ L.length
  | [] => Nat.le_refl _
  | x :: r => by
    have := usedN_le r
    simp only [usedN, List.length_cons]
    split <;> omega
theorem usedB_take (L : List Ino) (k : Nat) : usedB (L.take k) ≤ usedB L := by
  induction L generalizing k with
  | nil => simp [usedB]
  | cons x r ih =>
    cases k with
    | zero => simp [usedB]
    | succ k => simp only [List.take_succ_cons, usedB]; have := ih k; omega
theorem usedN_take (L : List Ino) (k : Nat) : usedN (L.take k) ≤ k := Nat.le_trans (usedN_le _) (List.length_take_le _ _)

def thereB (L : List Ino) (k : Int) : Bool := decide (0 ≤ k) && decide (k < L.length)

set_option maxHeartbeats 1000000 in
theorem rthere_any (a : Option Addr) (cap n : Nat) (m b k : Int) (w : World) :
    Calls Tryz.prog 61 #[.agg #[.slice a n cap, .int .i64 m, .int .i64 b], .int .i64 k] w fun e w' => e = .returned (.bool (decide (0 ≤ k) && decide (k < n))) ∧ Below w.heap.size w w' := by
  go_enter Tryz.func61, Tryz.ntmps61
  go_wp2_with fail
  · rename_i h
    go_ret
    exact ⟨by rw [decide_eq_true h]; rfl, below_box _ _⟩
  · rename_i h
    go_ret
    exact ⟨by rw [decide_eq_false (by omega)]; rfl, below_box _ _⟩
theorem str_len (l : List UInt8) : (⟨l.toArray⟩ : ByteArray).size = l.length := by show l.toArray.size = _; simp

/-- What a box of six holds, wherever the world has grown. -/
theorem box6 {w W' : World} {x0 x1 x2 x3 x4 x5 : Value} {t : TypeId} (h : Below (w.alloc (.cells #[x0, x1, x2, x3, x4, x5] t)).heap.size (w.alloc (.cells #[x0, x1, x2, x3, x4, x5] t)) W') :
    W'.cell? ⟨w.heap.size, 0, none⟩ = some x0 ∧ W'.cell? ⟨w.heap.size, 1, none⟩ = some x1 ∧ W'.cell? ⟨w.heap.size, 2, none⟩ = some x2 ∧ W'.cell? ⟨w.heap.size, 3, none⟩ = some x3 ∧ W'.cell? ⟨w.heap.size, 4, none⟩ = some x4 ∧ W'.cell? ⟨w.heap.size, 5, none⟩ = some x5 :=
  ⟨cell_below h (by simp only [World.cell?, new_block]; rfl), cell_below h (by simp only [World.cell?, new_block]; rfl), cell_below h (by simp only [World.cell?, new_block]; rfl), cell_below h (by simp only [World.cell?, new_block]; rfl), cell_below h (by simp only [World.cell?, new_block]; rfl), cell_below h (by simp only [World.cell?, new_block]; rfl)⟩

end Go.Proofs.YtmaiphibpdngnaaGreat

namespace Go.Proofs.YtmaiphibpdngnaaGreat
set_option maxRecDepth 100000
open Go Go.RowKit

/-- A world that has grown out of wb. -/
structure Grown (wb : World) where
  W : World
  below : Below wb.heap.size wb W

instance (wb : World) : Nonempty (Grown wb) := ⟨⟨wb, Below.refl _ _⟩⟩

theorem wp_region_grown {P : Program} {id : Nat} {Q : Exit → Act → World → Prop} {a : Act} {w : World} {l : List Oper} (hm : P.follows .mixedOrders = true) (hB : Region.lexB .any l.toArray = true)
    (h : wpQuiet P l.toArray (fun w' => ∃ x : Grown w, w' = x.W) (fun a' => ∀ w', (∃ x : Grown w, w' = x.W) → Q .normal a' w') l a) : (Code.region id l.toArray true).wp P Q a w :=
  wp_region_quiet (C := fun w' => ∃ x : Grown w, w' = x.W) hm hB ⟨⟨{ w with drawn := w.drawn + 1 }, ⟨rfl, rfl, rfl, Nat.le_refl _, fun _ _ => rfl⟩⟩, rfl⟩ (by simpa using h)

theorem grown_call {wb : World} {P : Program} {f : FuncId} {args : Array Value} {v : Value} (h : ∀ W, Below wb.heap.size wb W → Calls P f args W fun e w' => e = .returned v ∧ Below W.heap.size W w') :
    ∀ x : Grown wb, Calls P f args x.W fun e w'' => e = .returned v ∧ ∃ y : Grown wb, w'' = y.W :=
  fun x => (h x.W x.below).mono fun _e w'' h' => ⟨h'.1, ⟨w'', x.below.trans (h'.2.mono x.below.size)⟩, rfl⟩
theorem grown_cell {wb : World} {a : Addr} {v : Value} (h : wb.cell? a = some v) : ∀ x : Grown wb, x.W.cell? a = some v := fun x => cell_below x.below h
end Go.Proofs.YtmaiphibpdngnaaGreat

namespace Go.Proofs.YtmaiphibpdngnaaGreat
set_option maxRecDepth 100000
open Go Go.RowKit

def noIno : Ino := ⟨0, 0, 0, [], [], 0⟩
def nodeAt (L : List Ino) (k : Int) : Ino := L.getD k.toNat noIno
def dirB (L : List Ino) (k : Int) : Bool := thereB L k && (nodeAt L k).kind == 2

def findK : List (List UInt8 × Int) → List UInt8 → Int
  | [], _ => -1
  | e :: r, s => if e.1 = s then e.2 else findK r s
def kidL (L : List Ino) (d : Int) (s : List UInt8) : Int := if dirB L d then findK (nodeAt L d).kids s else -1

theorem there_nat {L : List Ino} {k : Int} (h : thereB L k = true) : ∃ n : Nat, k = (n : Int) ∧ n < L.length := by
  unfold thereB at h
  rw [Bool.and_eq_true, decide_eq_true_eq, decide_eq_true_eq] at h
  exact ⟨k.toNat, by omega, by omega⟩
theorem there_not {L : List Ino} {k : Int} (h : thereB L k = false) : k < 0 ∨ (L.length : Int) ≤ k := by
  unfold thereB at h
  rw [Bool.and_eq_false_iff, decide_eq_false_iff_not, decide_eq_false_iff_not] at h
  omega
theorem node_nat (L : List Ino) (n : Nat) (h : n < L.length) : nodeAt L (n : Int) = L[n] := by
  unfold nodeAt
  rw [Int.toNat_natCast, List.getD_eq_getElem?_getD, List.getElem?_eq_getElem h]
  rfl
theorem there_of (L : List Ino) (n : Nat) (h : n < L.length) : thereB L (n : Int) = true := by
  unfold thereB
  rw [decide_eq_true (by omega), decide_eq_true (by omega)]
  rfl
theorem findK_drop (M : List (List UInt8 × Int)) (k : Nat) (hk : k < M.length) (s : List UInt8) : findK (M.drop k) s = if M[k].1 = s then M[k].2 else findK (M.drop (k + 1)) s := by
  rw [List.drop_eq_getElem_cons hk]
  rfl

/-- The reference's there, of a tree's inodes. -/
theorem rthere_known (a : Option Addr) (cap : Nat) (m b k : Int) (L : List Ino) (v : Bool) (hv : thereB L k = v) (w : World) :
    Calls Tryz.prog 61 #[.agg #[.slice a L.length cap, .int .i64 m, .int .i64 b], .int .i64 k] w fun e w' => e = .returned (.bool v) ∧ Below w.heap.size w w' := by
  subst hv
  exact rthere_any a cap L.length m b k w

set_option maxHeartbeats 1000000 in
theorem rkid_any (a : Option Addr) (cap : Nat) (m b d : Int) (nm : List UInt8) (L : List Ino) (w : World) (hN : NodesIn w a cap L) :
    Calls Tryz.prog 19 #[.agg #[.slice a L.length cap, .int .i64 m, .int .i64 b], .int .i64 d, .string ⟨nm.toArray⟩] w fun e w' => e = .returned (.int .i64 (kidL L d nm)) ∧ Below w.heap.size w w' := by
  have hb1 := below_box w (.cells #[.slice a L.length cap, .int .i64 m, .int .i64 b] 24)
  have hM := hN.below hb1
  have hcap := hN.1
  have hmax := hN.2.1
  unfold maxLen at hmax
  have HM := Lib.hid hM
  clear hM hN
  cases ht : thereB L d with
  | false =>
    have HT := Lib.hid ht
    have hfin := Lib.hid (show kidL L d nm = -1 by unfold kidL dirB; rw [ht]; rfl)
    clear ht
    rw [hfin.out]
    go_enter Tryz.func19, Tryz.ntmps19
    go_wp2_with (first | (go_at_call 61; refine (rthere_known _ _ _ _ _ _ _ HT.out _).mono ?_; rintro e w2 ⟨rfl, hb2⟩) | fail)
    go_ret
    exact ⟨rfl, hb1.trans (hb2.mono (by simp))⟩
  | true =>
    obtain ⟨n, rfl, hn⟩ := there_nat ht
    have HT := Lib.hid ht
    clear ht
    obtain ⟨bb, o, rfl, hx⟩ := HM.out.2.2 n hn
    have h1 := hx.kind
    have hd0 : (0 : Int) ≤ (n : Int) := by omega
    cases hz : (L[n].kind != 2) with
    | true =>
      have hfin := Lib.hid (show kidL L (n : Int) nm = -1 by
        unfold kidL dirB
        rw [HT.out, node_nat L n hn]
        have : (L[n].kind == 2) = false := by simpa [bne] using hz
        rw [this]
        rfl)
      rw [hfin.out]
      go_enter Tryz.func19, Tryz.ntmps19
      go_wp2_with (first | (go_at_call 61; refine (rthere_known _ _ _ _ _ _ _ HT.out _).mono ?_; rintro e w2 ⟨rfl, hb2⟩; obtain ⟨q0, q1, q2⟩ := box3 hb2; have h2 := cell_below hb2 h1) | fail)
      go_ret
      exact ⟨rfl, hb1.trans (hb2.mono (by simp))⟩
    | false =>
      have hz' : (L[n].kind == 2) = true := by simpa [bne] using hz
      obtain ⟨kv, hk1, hks⟩ := hx.kids
      obtain ⟨M, hMe⟩ : ∃ M, M = L[n].kids := ⟨_, rfl⟩
      rw [← hMe] at hks
      obtain ⟨ka, kcap, rfl, hkc, hkm, hkk⟩ := hks
      unfold maxLen at hkm
      have HK := Lib.hid hkk
      have hfin := Lib.hid (show kidL L (n : Int) nm = findK M nm by
        unfold kidL dirB
        rw [HT.out, node_nat L n hn, hz', hMe]
        rfl)
      rw [hfin.out]
      clear hkk hMe
      go_enter Tryz.func19, Tryz.ntmps19
      go_wp2_with (first | (go_at_call 61; refine (rthere_known _ _ _ _ _ _ _ HT.out _).mono ?_; rintro e w2 ⟨rfl, hb2⟩; obtain ⟨q0, q1, q2⟩ := box3 hb2; have h2 := cell_below hb2 h1; have h3 := cell_below hb2 hk1) | fail)
      have HB := Lib.hid (hb1.trans (hb2.mono (by simp)))
      have HKB := Lib.hid (show ∀ k (hk : k < M.length), ∃ b o, ka = some ⟨b, o, none⟩ ∧ w2.cell? ⟨b, o + k * 2, none⟩ = some (.string ⟨M[k].1.toArray⟩) ∧ w2.cell? ⟨b, o + k * 2 + 1, none⟩ = some (.int .i64 M[k].2) from
        fun k hk => by obtain ⟨b', o', e1, e2, e3⟩ := HK.out k hk; exact ⟨b', o', e1, cell_below hb2 e2, cell_below hb2 e3⟩)
      clear h2 h3 q0 q1 q2 hb1 hb2 HM HT hx hk1 HK hfin
      go_loop [8] (fun i => ∃ k : Nat, k ≤ M.length ∧ i = .int .i64 k ∧ Hid (findK M nm = findK (M.drop k) nm)) (fun i => M.length - (intOf i).toNat)
      case atStart => exact ⟨0, by omega, rfl, Lib.hid rfl⟩
      case round =>
        obtain ⟨k, hk, rfl, hfk⟩ := hrel
        by_cases hlt : k < M.length
        · obtain ⟨b', o', rfl, e2, e3⟩ := HKB.out k hlt
          have hst := findK_drop M k hlt nm
          cases hc : (M[k].1 == nm) with
          | true =>
            rw [if_pos (by simpa using hc)] at hst
            have HF := Lib.hid (hfk.out.trans hst)
            clear hst
            go_wp2_with fail
            go_ret
            exact ⟨by rw [HF.out]; rfl, HB.out⟩
          | false =>
            rw [if_neg (by simpa using hc)] at hst
            have HF := Lib.hid (hfk.out.trans hst)
            clear hst
            go_wp2_with fail
            go_round
            case rel => exact ⟨k + 1, by omega, by go_num, HF⟩
            case measure => simp [intOf] <;> omega
        · have HF := Lib.hid (show findK M nm = -1 by rw [hfk.out, List.drop_eq_nil_of_le (by omega)]; rfl)
          go_wp2_with fail
          go_ret
          exact ⟨by rw [HF.out]; rfl, HB.out⟩
end Go.Proofs.YtmaiphibpdngnaaGreat

namespace Go.Proofs.YtmaiphibpdngnaaGreat
set_option maxRecDepth 100000
open Go

/-- A path's names, cur being what has been read of the one at hand. -/
def partsGo (cur : List UInt8) : List UInt8 → List (List UInt8)
  | [] => if cur = [] then [] else [cur]
  | c :: r => if c = 47 then (if cur = [] then partsGo [] r else cur :: partsGo [] r) else partsGo (cur ++ [c]) r
def partsL (l : List UInt8) : List (List UInt8) := partsGo [] l

/-- A name as a value. -/
def strv (l : List UInt8) : Value := .string ⟨l.toArray⟩

theorem extract_list (s : ByteArray) (f k : Nat) : (s.extract f k).data.toList = (s.data.toList.take k).drop f := by
  rw [ByteArray.data_extract, Array.toList_extract]
  show List.take (k - f) (List.drop f s.data.toList) = _
  rw [List.drop_take]
theorem extract_val (s : ByteArray) (f k : Nat) : Value.string (s.extract f k) = strv ((s.data.toList.take k).drop f) := by
  unfold strv
  congr 1
  apply ByteArray.ext
  apply Array.ext'
  rw [extract_list]

/-- What holds at the loop's head: the names before are done. -/
def Cut (s : List UInt8) (k f : Nat) (D : List (List UInt8)) : Prop :=
  (k ≤ s.length ∧ f ≤ k ∧ partsL s = D ++ partsGo ((s.take k).drop f) (s.drop k)) ∨ (k = s.length + 1 ∧ partsL s = D)

theorem Cut.start (s : List UInt8) : Cut s 0 0 [] := Or.inl ⟨Nat.zero_le _, Nat.le_refl _, by simp [partsL]⟩

theorem take_more (s : List UInt8) (k f : Nat) (hk : k < s.length) (hf : f ≤ k) : (s.take (k + 1)).drop f = (s.take k).drop f ++ [s[k]] := by
  rw [List.take_succ_eq_append_getElem hk, List.drop_append_of_le_length (by simp; omega)]

theorem seg_empty (s : List UInt8) (k f : Nat) (hk : k ≤ s.length) (hf : f ≤ k) : (s.take k).drop f = [] ↔ f = k := by
  rw [← List.length_eq_zero_iff]
  simp
  omega

theorem Cut.goes (s : List UInt8) (k f : Nat) (D : List (List UInt8)) (h : Cut s k f D) (hk : k < s.length) (hc : s[k] ≠ 47) : Cut s (k + 1) f D := by
  rcases h with ⟨_, hf, h⟩ | ⟨e, _⟩
  · refine Or.inl ⟨by omega, by omega, ?_⟩
    rw [h, List.drop_eq_getElem_cons hk, take_more s k f hk hf]
    simp only [partsGo, if_neg hc]
  · omega
theorem Cut.blank (s : List UInt8) (k : Nat) (D : List (List UInt8)) (h : Cut s k k D) (hk : k < s.length) (hc : s[k] = 47) : Cut s (k + 1) (k + 1) D := by
  rcases h with ⟨hk', hf, h⟩ | ⟨e, _⟩
  · refine Or.inl ⟨by omega, by omega, ?_⟩
    have e0 := (seg_empty s k k hk' hf).2 rfl
    have e1 := (seg_empty s (k + 1) (k + 1) (by omega) (Nat.le_refl _)).2 rfl
    rw [h, List.drop_eq_getElem_cons hk, e0, e1]
    simp only [partsGo, if_pos hc, if_true]
  · omega
theorem Cut.ends (s : List UInt8) (k f : Nat) (D : List (List UInt8)) (h : Cut s k f D) (hk : k < s.length) (hc : s[k] = 47) (hf : f < k) : Cut s (k + 1) (k + 1) (D ++ [(s.take k).drop f]) := by
  rcases h with ⟨hk', hf', h⟩ | ⟨e, _⟩
  · refine Or.inl ⟨by omega, by omega, ?_⟩
    have e0 : ¬ (s.take k).drop f = [] := fun e => by have := (seg_empty s k f hk' hf').1 e; omega
    have e1 := (seg_empty s (k + 1) (k + 1) (by omega) (Nat.le_refl _)).2 rfl
    rw [h, List.drop_eq_getElem_cons hk, e1]
    simp only [partsGo, if_pos hc, if_neg e0, List.append_assoc, List.singleton_append]
  · omega
theorem Cut.last (s : List UInt8) (f : Nat) (D : List (List UInt8)) (h : Cut s s.length f D) (hf : f < s.length) : Cut s (s.length + 1) (s.length + 1) (D ++ [(s.take s.length).drop f]) := by
  rcases h with ⟨hk', hf', h⟩ | ⟨e, _⟩
  · refine Or.inr ⟨rfl, ?_⟩
    have e0 : ¬ (s.take s.length).drop f = [] := fun e => by have := (seg_empty s s.length f hk' hf').1 e; omega
    rw [h, List.drop_length]
    simp only [partsGo, if_neg e0]
  · omega
theorem Cut.over (s : List UInt8) (D : List (List UInt8)) (h : Cut s s.length s.length D) : Cut s (s.length + 1) (s.length + 1) D := by
  rcases h with ⟨hk', hf', h⟩ | ⟨e, _⟩
  · refine Or.inr ⟨rfl, ?_⟩
    have e0 := (seg_empty s s.length s.length hk' hf').2 rfl
    rw [h, List.drop_length, e0]
    simp [partsGo]
  · omega
theorem Cut.done (s : List UInt8) (f : Nat) (D : List (List UInt8)) (h : Cut s (s.length + 1) f D) : D = partsL s := by
  rcases h with ⟨hk, _, _⟩ | ⟨_, h⟩
  · omega
  · exact h.symm
theorem Cut.le (s : List UInt8) (k f : Nat) (D : List (List UInt8)) (h : Cut s k f D) (hk : k ≤ s.length) : f ≤ k := by
  rcases h with ⟨_, hf, _⟩ | ⟨e, _⟩
  · exact hf
  · omega
end Go.Proofs.YtmaiphibpdngnaaGreat

namespace Go.Proofs.YtmaiphibpdngnaaGreat
set_option maxRecDepth 100000
open Go Go.RowKit

theorem infoS : (Tryz.prog.info? 9).map (fun i => (i.zero, i.size, i.bytes)) = some (some (.string ByteArray.empty), 1, 16) := by kernel_rfl

/-- The slice v holds the texts L, in a row that lies from block B on. -/
def Texts (B : Nat) (w : World) (v : Value) (L : List (List UInt8)) : Prop := w.ownsRow B 9 1 v L.length (L.map strv)

theorem Texts.grow {B : Nat} {w' : World} {v' : Value} {L : List (List UInt8)} {x : List UInt8} (h : w'.ownsRow B 9 1 v' (L.length + 1) (L.map strv ++ [strv x])) : Texts B w' v' (L ++ [x]) := by
  unfold Texts
  rw [List.length_append, List.map_append]
  exact h
theorem slice_run (s : ByteArray) (f k : Nat) (h1 : f ≤ k) (h2 : k ≤ s.size) (W : World) :
    (Instr.slice 9 (.string s) (some (.int .i64 (f : Int))) (some (.int .i64 (k : Int))) none).run Tryz.prog W = .ok (.string (s.extract f k)) W := by
  have := run_slice_string (P := Tryz.prog) W 9 s .i64 .i64 (f : Int) (k : Int) Tryz.underlying9 (by omega) (by omega) (by omega)
  simpa using this

def NCut (s : ByteArray) (B : Nat) (w0 : World) (l f i : Value) (wr : World) : Prop :=
  ∃ k g : Nat, ∃ D : List (List UInt8), k ≤ s.size + 1 ∧ g ≤ s.size + 1 ∧ i = .int .i64 k ∧ f = .int .i64 g ∧ Cut s.data.toList k g D ∧ D.length ≤ k ∧ Texts B wr l D ∧ Below B w0 wr

theorem at_list (s : ByteArray) (k : Nat) (h : k < s.size) : s.data.toList[k]'(by simpa using h) = s[k] := rfl
theorem size_list (s : ByteArray) : s.data.toList.length = s.size := Array.length_toList

theorem cut_last (s : ByteArray) (g : Nat) (D : List (List UInt8)) (h : Cut s.data.toList s.size g D) (hg : g < s.size) : Cut s.data.toList (s.size + 1) (s.size + 1) (D ++ [(s.data.toList.take s.size).drop g]) := by
  rw [← size_list] at h hg ⊢
  exact Cut.last _ g D h hg
theorem cut_over (s : ByteArray) (D : List (List UInt8)) (h : Cut s.data.toList s.size s.size D) : Cut s.data.toList (s.size + 1) (s.size + 1) D := by
  rw [← size_list] at h ⊢
  exact Cut.over _ D h

set_option maxHeartbeats 2000000 in
theorem rparts_any (s : ByteArray) (hs : s.size ≤ 1073741824) (w : World) :
    Calls Tryz.prog 56 #[.string s] w fun e w' => ∃ v, e = .returned v ∧ Texts w.heap.size w' v (partsL s.data.toList) ∧ Below w.heap.size w w' := by
  obtain ⟨i0, hi, hz0, hz1, hz2⟩ := info_parts infoS
  go_enter Tryz.func56, Tryz.ntmps56
  go_wp2_with fail
  go_loopw [3, 4, 5] (fun l f i wr => NCut s w.heap.size w l f i wr) (fun _ _ i _ => s.size + 1 - (intOf i).toNat)
  case atStart => exact ⟨0, 0, [], by omega, by omega, rfl, rfl, Cut.start _, by simp, World.ownsRow_nil _ _ _ _, Below.refl _ _⟩
  case round =>
    obtain ⟨k, g, D, hk, hg, rfl, rfl, hcut, hD, hown, hb⟩ := hrel
    have HC := Lib.hid hcut
    have HO := Lib.hid (show wr.ownsRow w.heap.size 9 1 _ D.length (D.map strv) from hown)
    clear hcut hown
    by_cases hlt : k < s.size
    · cases hc : ((s[k].toNat : Int) != 47) with
      | true =>
        go_wp2_with fail
        go_roundw
        case rel => exact ⟨k + 1, g, D, by omega, hg, by go_num, rfl, Cut.goes _ _ _ _ HC.out (by rw [size_list]; exact hlt) (by rw [at_list s k hlt]; intro e; rw [e] at hc; simp at hc), by omega, HO.out, hb⟩
        case measure => simp [intOf] <;> omega
      | false =>
        have hc' : s[k] = 47 := by
          have h := bne_eq_false_iff_eq.1 hc
          exact UInt8.toNat_inj.1 (by show s[k].toNat = 47; omega)
        have HC' := Lib.hid hc'
        clear hc'
        by_cases hgk : g < k
        · have hr := slice_run s g k (by omega) (by omega)
          go_wp2_with (first | (at_builtin; (refine wpList_append_own _ rfl _ _ 41 rfl w.heap.size 9 i0 (.string ByteArray.empty) 1 16 Tryz.underlying41 hi hz0 hz1 hz2 rfl (by decide) _ _ _ rfl (HO.out.alloc _) ⟨wr.heap.size, 0, none⟩ 1 1 [.string (s.extract g k)] rfl rfl (cell_one_new _ _ _) (fun x hx => by simp at hx; subst hx; rfl) (by unfold maxLen; omega) (by omega) (by simp; exact Nat.le_succ_of_le hb.size) ?_); intro v' w3 hown' hgrow3 hnil3) | fail)
          have hT : Texts w.heap.size w3 v' (D ++ [(s.data.toList.take k).drop g]) := Texts.grow (by rw [← extract_val]; exact hown')
          have hb3 : Below w.heap.size w w3 := (hb.alloc hb.size _).grown hgrow3 (by simp; exact Nat.le_succ_of_le hb.size) (fun r hr' => (HO.out.lt r hr').1)
          have HT := Lib.hid hT
          have HB := Lib.hid hb3
          clear hT hb3 hown' hgrow3 hnil3
          go_wp2_with fail
          go_roundw
          case rel => exact ⟨k + 1, k + 1, D ++ [(s.data.toList.take k).drop g], by omega, by omega, by go_num, by go_num, Cut.ends _ _ _ _ HC.out (by rw [size_list]; exact hlt) (by rw [at_list s k hlt]; exact HC'.out) hgk, by simp; omega, HT.out, HB.out⟩
          case measure => simp [intOf] <;> omega
        · have hgk2 : g = k := by have := Cut.le _ _ _ _ HC.out (by rw [size_list]; omega); omega
          subst hgk2
          go_wp2_with fail
          go_roundw
          case rel => exact ⟨g + 1, g + 1, D, by omega, by omega, by go_num, by go_num, Cut.blank _ _ _ HC.out (by rw [size_list]; exact hlt) (by rw [at_list s g hlt]; exact HC'.out), by omega, HO.out, hb⟩
          case measure => simp [intOf] <;> omega
    · by_cases heq : k = s.size
      · subst heq
        by_cases hgk : g < s.size
        · have hr := slice_run s g s.size (by omega) (by omega)
          go_wp2_with (first | (at_builtin; (refine wpList_append_own _ rfl _ _ 41 rfl w.heap.size 9 i0 (.string ByteArray.empty) 1 16 Tryz.underlying41 hi hz0 hz1 hz2 rfl (by decide) _ _ _ rfl (HO.out.alloc _) ⟨wr.heap.size, 0, none⟩ 1 1 [.string (s.extract g s.size)] rfl rfl (cell_one_new _ _ _) (fun x hx => by simp at hx; subst hx; rfl) (by unfold maxLen; omega) (by omega) (by simp; exact Nat.le_succ_of_le hb.size) ?_); intro v' w3 hown' hgrow3 hnil3) | fail)
          have hT : Texts w.heap.size w3 v' (D ++ [(s.data.toList.take s.size).drop g]) := Texts.grow (by rw [← extract_val]; exact hown')
          have hb3 : Below w.heap.size w w3 := (hb.alloc hb.size _).grown hgrow3 (by simp; exact Nat.le_succ_of_le hb.size) (fun r hr' => (HO.out.lt r hr').1)
          have HT := Lib.hid hT
          have HB := Lib.hid hb3
          clear hT hb3 hown' hgrow3 hnil3
          go_wp2_with fail
          go_roundw
          case rel => exact ⟨s.size + 1, s.size + 1, D ++ [(s.data.toList.take s.size).drop g], by omega, by omega, by go_num, by go_num, cut_last s g D HC.out hgk, by simp; omega, HT.out, HB.out⟩
          case measure => simp [intOf] <;> omega
        · have hgk2 : g = s.size := by have := Cut.le _ _ _ _ HC.out (by rw [size_list]; omega); omega
          subst hgk2
          go_wp2_with fail
          go_roundw
          case rel => exact ⟨s.size + 1, s.size + 1, D, by omega, by omega, by go_num, by go_num, cut_over s D HC.out, by omega, HO.out, hb⟩
          case measure => simp [intOf] <;> omega
      · have hk1 : k = s.size + 1 := by omega
        have hfin := Lib.hid (show D = partsL s.data.toList from Cut.done _ g D (by rw [size_list]; exact hk1 ▸ HC.out))
        go_wp2_with fail
        go_ret
        exact ⟨_, rfl, by rw [← hfin.out]; exact HO.out, hb⟩
end Go.Proofs.YtmaiphibpdngnaaGreat

namespace Go.Proofs.YtmaiphibpdngnaaGreat
set_option maxRecDepth 100000
open Go Go.RowKit

/-- A row of texts, laid open. -/
theorem Texts.forms {B : Nat} {w : World} {v : Value} {L : List (List UInt8)} (h : Texts B w v L) :
    (v = .slice none 0 0 ∧ L = []) ∨ ∃ g cap : Nat, v = .slice (some ⟨g, 0, none⟩) L.length cap ∧ B ≤ g ∧ g < w.heap.size ∧ L.length ≤ cap ∧ cap ≤ maxLen ∧
      ∀ i (hi : i < L.length), w.cell? ⟨g, i, none⟩ = some (strv L[i]) := by
  obtain ⟨h1, h2 | ⟨g, cap, cur, rfl, hg, hh, hn, hm, hs, ht⟩⟩ := h
  · obtain ⟨rfl, hn⟩ := h2
    exact Or.inl ⟨rfl, List.length_eq_zero_iff.1 hn⟩
  · refine Or.inr ⟨g, cap, rfl, hg, (Array.getElem?_eq_some_iff.1 hh).1, hn, hm, fun i hi => ?_⟩
    have e : cur.toList[i]? = some (strv L[i]) := by
      have e1 : (cur.toList.take (L.length * 1))[i]? = (L.map strv)[i]? := by rw [ht]
      rw [List.getElem?_take, if_pos (by omega), List.getElem?_map, List.getElem?_eq_getElem hi] at e1
      exact e1
    simp only [World.cell?, hh]
    rw [Array.getElem?_toList] at e
    simpa using e

theorem Texts.below {B : Nat} {w w' : World} {v : Value} {L : List (List UInt8)} (h : Texts B w v L) (hb : Below w.heap.size w w') : Texts B w' v L :=
  h.kept (row := none) ⟨hb.os, hb.tape, hb.output, hb.size, fun k hk _ => hb.block k hk⟩ (by
    cases hv : v.ownBlock with
    | none => exact Or.inl rfl
    | some k => exact Or.inr (by simp))

/-- Names with a slash between. -/
def joinL : List (List UInt8) → List UInt8
  | [] => []
  | [x] => x
  | x :: y :: r => x ++ 47 :: joinL (y :: r)

theorem join_snoc : ∀ (D : List (List UInt8)) (x : List UInt8), D ≠ [] → joinL (D ++ [x]) = joinL D ++ 47 :: x
  | [], x, h => absurd rfl h
  | [d], x, _ => by simp [joinL]
  | d :: e :: r, x, _ => by
    have ih := join_snoc (e :: r) x (by simp)
    simp only [List.cons_append] at ih ⊢
    simp only [joinL, ih, List.append_assoc, List.cons_append]

/-- How many bytes names take, a slash behind each. -/
def total : List (List UInt8) → Nat
  | [] => 0
  | x :: r => x.length + 1 + total r
theorem total_append : ∀ (D E : List (List UInt8)), total (D ++ E) = total D + total E
  | [], E => by simp [total]
  | d :: r, E => by simp only [List.cons_append, total, total_append r E]; omega
theorem join_le : ∀ (D : List (List UInt8)), (joinL D).length ≤ total D
  | [] => by simp [joinL]
  | [x] => by simp [joinL, total]
  | x :: y :: r => by
    have ih := join_le (y :: r)
    simp only [joinL, List.length_append, List.length_cons, total] at ih ⊢
    omega
theorem total_take (L : List (List UInt8)) (k : Nat) : total (L.take k) ≤ total L := by
  have h := total_append (L.take k) (L.drop k)
  rw [List.take_append_drop] at h
  omega
theorem total_go : ∀ (l cur : List UInt8), total (partsGo cur l) ≤ cur.length + l.length + 1
  | [], cur => by
    unfold partsGo
    split
    · simp [total]
    · simp [total]
  | c :: r, cur => by
    unfold partsGo
    split
    · split
      · have := total_go r []
        simp at this ⊢
        omega
      · have := total_go r []
        simp only [total, List.length_cons, List.length_nil] at this ⊢
        omega
    · have := total_go r (cur ++ [c])
      simp at this ⊢
      omega
theorem total_parts (l : List UInt8) : total (partsL l) ≤ l.length + 1 := by
  have := total_go l []
  simpa [partsL] using this

theorem strv_cat (a b : List UInt8) : Value.string ((⟨a.toArray⟩ : ByteArray) ++ (⟨b.toArray⟩ : ByteArray)) = strv (a ++ b) := by
  rw [ByteArray.mk_append_mk]
  unfold strv
  congr 2

end Go.Proofs.YtmaiphibpdngnaaGreat

namespace Go.Proofs.YtmaiphibpdngnaaGreat
set_option maxRecDepth 100000
open Go Go.RowKit

def wholeL : List UInt8 → Bool
  | [] => false
  | c :: _ => c == 47

theorem filled (s : ByteArray) (h0 : 0 < s.size) : s.toList.isEmpty = false := by
  rcases s with ⟨⟨l⟩⟩
  cases l with
  | nil => exact absurd h0 (Nat.lt_irrefl 0)
  | cons c r => rw [ByteArray.toList_eq]; rfl
theorem bare (s : ByteArray) (h0 : ¬ 0 < s.size) : s = ⟨#[]⟩ := by
  rcases s with ⟨⟨l⟩⟩
  cases l with
  | nil => rfl
  | cons c r => exact absurd (Nat.succ_pos r.length) h0
theorem whole_at (s : ByteArray) (h0 : 0 < s.size) : wholeL s.data.toList = ((s[0].toNat : Int) == 47) := by
  rcases s with ⟨⟨l⟩⟩
  cases l with
  | nil => exact absurd h0 (Nat.lt_irrefl 0)
  | cons c r =>
    show (c == 47) = ((c.toNat : Int) == 47)
    rw [Bool.eq_iff_iff, beq_iff_eq, beq_iff_eq, ← UInt8.toNat_inj]
    show c.toNat = 47 ↔ _
    omega

theorem rwhole_any (s : ByteArray) (w : World) : Calls Tryz.prog 65 #[.string s] w fun e w' => e = .returned (.bool (wholeL s.data.toList)) ∧ w = w' := by
  by_cases h0 : 0 < s.size
  · have hne := filled s h0
    rw [whole_at s h0]
    cases hc : ((s[0].toNat : Int) == 47)
    all_goals
      go_enter Tryz.func65, Tryz.ntmps65
      go_wp2_with fail
      go_ret
      exact ⟨rfl, rfl⟩
  · obtain rfl := bare s h0
    go_enter Tryz.func65, Tryz.ntmps65
    go_wp2_with fail
    go_ret
    exact ⟨rfl, rfl⟩

/-- Can a name stand in a directory? -/
def nameOkL (l : List UInt8) : Bool := l.all (fun c => c != 47 && c != 0) && !l.isEmpty && decide (l.length ≤ 64) && !(l == [46]) && !(l == [46, 46])

def Clean (s : ByteArray) (k : Nat) : Prop := ∀ j (h : j < s.size), j < k → s[j] ≠ 47 ∧ s[j] ≠ 0

theorem clean_all (s : ByteArray) (h : Clean s s.size) : s.data.toList.all (fun c => c != 47 && c != 0) = true := by
  rw [List.all_eq_true]
  intro c hc
  obtain ⟨j, hj, rfl⟩ := List.getElem_of_mem hc
  have hj' : j < s.size := by simpa using hj
  have := h j hj' hj'
  rw [at_list s j hj']
  simp [this.1, this.2]
theorem clean_not (s : ByteArray) (k : Nat) (hk : k < s.size) (h : s[k] = 47 ∨ s[k] = 0) : nameOkL s.data.toList = false := by
  have : s.data.toList.all (fun c => c != 47 && c != 0) = false := by
    rw [List.all_eq_false]
    refine ⟨s.data.toList[k]'(by simpa using hk), by simp, ?_⟩
    rw [at_list s k hk]
    rcases h with h | h <;> simp [h]
  simp [nameOkL, this]
theorem byte_is (c : UInt8) (n : Nat) (hn : n < 256) (h : ((c.toNat : Int) == (n : Int)) = true) : c = UInt8.ofNat n := by
  have h' : (c.toNat : Int) = n := by simpa using h
  apply UInt8.toNat_inj.1
  rw [UInt8.toNat_ofNat']
  omega
theorem byte_not (c : UInt8) (n : Nat) (hn : n < 256) (h : ((c.toNat : Int) == (n : Int)) = false) : c ≠ UInt8.ofNat n := by
  intro e
  subst e
  rw [UInt8.toNat_ofNat', Nat.mod_eq_of_lt hn] at h
  simp at h

set_option maxHeartbeats 1000000 in
theorem rname_any (s : ByteArray) (hs : s.size ≤ maxLen) (w : World) : Calls Tryz.prog 24 #[.string s] w fun e w' => e = .returned (.bool (nameOkL s.data.toList)) ∧ w = w' := by
  unfold maxLen at hs
  go_enter Tryz.func24, Tryz.ntmps24
  go_wp2_with fail
  go_loop [3] (fun i => ∃ k : Nat, k ≤ s.size ∧ i = .int .i64 k ∧ Hid (Clean s k)) (fun i => s.size - (intOf i).toNat)
  case atStart => exact ⟨0, by omega, rfl, fun _ _ h => absurd h (Nat.not_lt_zero _)⟩
  case round =>
    obtain ⟨k, hk, rfl, hd⟩ := hrel
    by_cases hlt : k < s.size
    · cases h47 : ((s[k].toNat : Int) == 47) with
      | true =>
        have hfin := Lib.hid (clean_not s k hlt (Or.inl (byte_is _ 47 (by decide) h47)))
        go_wp2_with fail
        go_ret
        exact ⟨by rw [hfin.out]; rfl, rfl⟩
      | false =>
        cases hz : ((s[k].toNat : Int) == 0) with
        | true =>
          have hfin := Lib.hid (clean_not s k hlt (Or.inr (byte_is _ 0 (by decide) hz)))
          go_wp2_with fail
          go_ret
          exact ⟨by rw [hfin.out]; rfl, rfl⟩
        | false =>
          have hst : Clean s (k + 1) := fun j hj hjk => by
            by_cases e : j = k
            · subst e; exact ⟨byte_not _ 47 (by decide) h47, byte_not _ 0 (by decide) hz⟩
            · exact hd.out j hj (by omega)
          have HS := Lib.hid hst
          clear hst
          go_wp2_with fail
          go_round
          case rel => exact ⟨k + 1, by omega, by go_num, HS⟩
          case measure => simp [intOf] <;> omega
    · obtain rfl : k = s.size := by omega
      have hall := Lib.hid (clean_all s hd.out)
      have hlen := size_list s
      cases he : s.toList.isEmpty <;> cases h1 : (s.toList == [46]) <;> cases h2 : (s.toList == [46, 46]) <;> by_cases h64 : s.size ≤ 64
      all_goals
        have hfin : nameOkL s.data.toList = (!s.toList.isEmpty && decide (s.size ≤ 64) && !(s.toList == [46]) && !(s.toList == [46, 46])) := by
          unfold nameOkL
          rw [hall.out, hlen, ByteArray.toList_eq]
          simp
        have HF := Lib.hid hfin
        clear hfin hlen
        go_wp2_with fail
        go_ret
        exact ⟨by rw [HF.out, he, h1, h2]; simp [h64], rfl⟩
end Go.Proofs.YtmaiphibpdngnaaGreat

namespace Go.Proofs.YtmaiphibpdngnaaGreat
set_option maxRecDepth 100000
open Go Go.RowKit

def intv (z : Int) : Value := .int .i64 z
/-- Block C holds the numbers c. -/
def CountIn (W : World) (C : Nat) (c : List Int) : Prop := W.heap[C]? = some (.cells (c.map intv).toArray 3 (0, 0))

theorem CountIn.cell {W : World} {C : Nat} {c : List Int} (h : CountIn W C c) (i : Nat) (hi : i < c.length) : W.cell? ⟨C, i, none⟩ = some (.int .i64 c[i]) := by
  simp only [World.cell?, show W.heap[C]? = _ from h]
  simp [hi, intv]
theorem CountIn.frozen {W : World} {C : Nat} {c : List Int} (h : CountIn W C c) (i : Nat) : W.frozen? ⟨C, i, none⟩ = false := by
  simp only [World.frozen?, show W.heap[C]? = _ from h]
  simp
theorem CountIn.below {W W' : World} {C : Nat} {c : List Int} (h : CountIn W C c) (hb : Below W.heap.size W W') : CountIn W' C c :=
  (hb.block C (Array.getElem?_eq_some_iff.1 h).1).trans h
theorem CountIn.set {W : World} {C : Nat} {c : List Int} (h : CountIn W C c) (i : Nat) (z : Int) : CountIn (W.setCell ⟨C, i, none⟩ (.int .i64 z)) C (c.set i z) := by
  show (W.setCell ⟨C, i, none⟩ (.int .i64 z)).heap[C]? = _
  have e : (c.map intv).toArray.setIfInBounds i (.int .i64 z) = ((c.set i z).map intv).toArray := by
    apply Array.ext'
    simp [intv, List.map_set]
  rw [← e]
  simp only [World.setCell, Array.getElem?_modify, show W.heap[C]? = _ from h, Option.map_some]
  simp

/-- What holds of a name of directory d, at its place. -/
structure KidOk (L : List Ino) (d : Nat) (M : List (List UInt8 × Int)) (k : Nat) (h : k < M.length) : Prop where
  name : nameOkL M[k].1 = true
  order : ∀ t (ht : k = t + 1), Op.bytesLess (M[t]'(by omega)).1 M[k].1 = true
  there : thereB L M[k].2 = true
  kind : (nodeAt L M[k].2).kind ≠ 0
  dir : ¬ ((nodeAt L M[k].2).kind = 2 ∧ (M[k].2 = 0 ∨ (nodeAt L M[k].2).up ≠ d))
def KidsOk (L : List Ino) (d : Nat) (M : List (List UInt8 × Int)) : Prop := ∀ k (h : k < M.length), KidOk L d M k h
def bump1 (c : List Int) (j : Int) : List Int := c.set j.toNat (c.getD j.toNat 0 + 1)
def bump (c : List Int) (M : List (List UInt8 × Int)) : List Int := M.foldl (fun c e => bump1 c e.2) c
theorem bump_len (M : List (List UInt8 × Int)) : ∀ c, (bump c M).length = c.length := by
  induction M with
  | nil => intro c; rfl
  | cons e r ih => intro c; show (bump (bump1 c e.2) r).length = _; rw [ih]; simp [bump1]
theorem bump_snoc (M : List (List UInt8 × Int)) (k : Nat) (hk : k < M.length) (c : List Int) : bump c (M.take (k + 1)) = bump1 (bump c (M.take k)) M[k].2 := by
  rw [List.take_succ_eq_append_getElem hk]
  unfold bump
  rw [List.foldl_append]
  rfl
/-- Numbers from 0 to x. -/
def Low (c : List Int) (x : Int) : Prop := ∀ z ∈ c, 0 ≤ z ∧ z ≤ x
theorem Low.bump1 {c : List Int} {x : Int} (h : Low c x) (j : Int) (hx : 0 ≤ x) : Low (bump1 c j) (x + 1) := by
  intro z hz
  unfold Proofs.YtmaiphibpdngnaaGreat.bump1 at hz
  rcases List.mem_or_eq_of_mem_set hz with h1 | rfl
  · have := h z h1; omega
  · rw [List.getD_eq_getElem?_getD]
    cases hc : c[j.toNat]? with
    | none => simp; omega
    | some y => have := h y (List.mem_of_getElem? hc); simp; omega

theorem rname_known (s : ByteArray) (hs : s.size ≤ 9223372036854775807) (v : Bool) (h : nameOkL s.data.toList = v) (w : World) : Calls Tryz.prog 24 #[.string s] w fun e w' => e = .returned (.bool v) ∧ w' = w := by
  subst h
  exact (rname_any s (by unfold maxLen; exact hs) w).mono fun e w' h => ⟨h.1, h.2.symm⟩

end Go.Proofs.YtmaiphibpdngnaaGreat

namespace Go.Proofs.YtmaiphibpdngnaaGreat
set_option maxRecDepth 100000
open Go Go.RowKit

theorem still_of_quiet {P : Program} {o : Oper} {a : Act} {w : World} {K : Act → Prop} (h : o.quiet P a (fun w' => w' = w) K) : o.still P a w K := by
  obtain ⟨v, h1, h2⟩ := h
  have h3 := h1 w rfl
  unfold Oper.quietAt at h3
  unfold Oper.still
  revert h3
  cases (execOp a.eval o).run P w with
  | ok x w' =>
    cases x with
    | value u => rintro ⟨rfl, rfl⟩; exact ⟨rfl, h2⟩
    | skip => rintro ⟨rfl, rfl⟩; exact ⟨rfl, h2⟩
    | enter f args => rintro ⟨rfl, h⟩; exact ⟨rfl, v, h, h2⟩
    | _ => intro h; exact h.elim
  | _ => intro h; exact h.elim
theorem wpStill_of_quiet {P : Program} {ops : Array Oper} {w : World} {Q : Act → Prop} : ∀ (l : List Oper) (a : Act), wpQuiet P ops (fun w' => w' = w) Q l a → wpStill P ops w Q l a
  | [], _, h => h
  | o :: rest, a, h => by
    unfold wpQuiet at h
    unfold wpStill
    split
    · rename_i hw
      rw [if_pos hw] at h
      exact still_of_quiet (Oper.quiet_mono (fun a' h' => wpStill_of_quiet rest a' h') h)
    · rename_i hw
      rw [if_neg hw] at h
      exact wpStill_of_quiet rest _ h
end Go.Proofs.YtmaiphibpdngnaaGreat

namespace Go.Proofs.YtmaiphibpdngnaaGreat
set_option maxRecDepth 100000
open Go Go.RowKit

/-- What kids answers. -/
def KidsAns (L : List Ino) (d C : Nat) (M : List (List UInt8 × Int)) (c : List Int) (w : World) (e : Ending) (w' : World) : Prop :=
  ∃ v, e = .returned (.bool v) ∧ Below C w w' ∧ (v = true → KidsOk L d M ∧ CountIn w' C (bump c M)) ∧ (v = false → ¬ KidsOk L d M)
theorem KidsAns.no {L : List Ino} {d C : Nat} {M : List (List UInt8 × Int)} {c : List Int} {w w' : World} {e : Ending} (he : e = .returned (.bool false)) (hb : Below C w w') (h : ¬ KidsOk L d M) : KidsAns L d C M c w e w' :=
  ⟨false, he, hb, fun h => (by cases h), fun _ => h⟩
theorem KidsAns.yes {L : List Ino} {d C : Nat} {M : List (List UInt8 × Int)} {c : List Int} {w w' : World} {e : Ending} (he : e = .returned (.bool true)) (hb : Below C w w') (h : KidsOk L d M) (hc : CountIn w' C (bump c M)) : KidsAns L d C M c w e w' :=
  ⟨true, he, hb, fun _ => ⟨h, hc⟩, fun h => (by cases h)⟩

def KRel (L : List Ino) (d C : Nat) (M : List (List UInt8 × Int)) (c : List Int) (x : Int) (w w1 : World) (iv : Value) (wr : World) : Prop :=
  ∃ k : Nat, k ≤ M.length ∧ iv = .int .i64 k ∧ Hid (∀ i (h : i < M.length), i < k → KidOk L d M i h) ∧ CountIn wr C (bump c (M.take k)) ∧ Low (bump c (M.take k)) (x + k) ∧ Below C w wr ∧ wr.heap[w.heap.size]? = w1.heap[w.heap.size]? ∧ w1.heap.size ≤ wr.heap.size

theorem KRel.next {L : List Ino} {d C k u : Nat} {M : List (List UInt8 × Int)} {c : List Int} {x z : Int} {w w1 wr w2 : World} (o : Obj) (hlt : k < M.length) (hok : ∀ i (h : i < M.length), i < k → KidOk L d M i h) (hkk : KidOk L d M k hlt)
    (hcnt : CountIn wr C (bump c (M.take k))) (hlw : Low (bump c (M.take k)) (x + k)) (hx0 : 0 ≤ x) (hbr : Below C w wr) (hbox : wr.heap[w.heap.size]? = w1.heap[w.heap.size]?) (hszr : w1.heap.size ≤ wr.heap.size)
    (hCw : C < w.heap.size) (gw : w.heap.size < wr.heap.size) (hb3 : Below wr.heap.size wr w2) (hbump : bump1 (bump c (M.take k)) M[k].2 = (bump c (M.take k)).set u (z + 1)) :
    KRel L d C M c x w w1 (.int .i64 ((k : Int) + 1)) ((w2.setCell ⟨C, u, none⟩ (.int .i64 (z + 1))).alloc o).drew := by
  have hs2 := hb3.size
  have hg := grownBy_setCell' w2 C (.int .i64 (z + 1))
  have hcnt2 : CountIn (w2.setCell ⟨C, u, none⟩ (.int .i64 (z + 1))) C ((bump c (M.take k)).set u (z + 1)) := (hcnt.below hb3).set u (z + 1)
  have hsz : (w2.setCell ⟨C, u, none⟩ (.int .i64 (z + 1))).heap.size = w2.heap.size := by simp [World.setCell]
  have hb4 : Below C w ((w2.setCell ⟨C, u, none⟩ (.int .i64 (z + 1))).alloc o) := (((hbr.trans (hb3.mono (by omega))).setCell (p := ⟨C, u, none⟩) (Nat.le_refl _) _)).alloc (by rw [hsz]; omega) o
  refine ⟨k + 1, by omega, by go_num, fun i h hi => ?_, ?_, ?_, ⟨hb4.os, hb4.tape, hb4.output, hb4.size, hb4.block⟩, ?_, ?_⟩
  · by_cases e : i = k
    · subst e
      exact hkk
    · exact hok i h (by omega)
  · rw [bump_snoc M k hlt, hbump]
    exact (show CountIn ((w2.setCell ⟨C, u, none⟩ (.int .i64 (z + 1))).alloc o) C _ from hcnt2.below (below_box _ o))
  · rw [bump_snoc M k hlt]
    intro y hy
    have h := hlw.bump1 M[k].2 (by omega) y hy
    omega
  · show ((w2.setCell ⟨C, u, none⟩ (.int .i64 (z + 1))).alloc o).heap[w.heap.size]? = _
    rw [Below.heap_alloc _ _ _ (by rw [hsz]; omega)]
    have h1 : (w2.setCell ⟨C, u, none⟩ (.int .i64 (z + 1))).heap[w.heap.size]? = w2.heap[w.heap.size]? := by
      simp only [World.setCell, Array.getElem?_modify]
      rw [if_neg (by omega)]
    rw [h1, hb3.block _ gw]
    exact hbox
  · show _ ≤ ((w2.setCell ⟨C, u, none⟩ (.int .i64 (z + 1))).alloc o).heap.size
    rw [World.size_alloc, hsz]
    omega

set_option maxRecDepth 100000 in
set_option maxHeartbeats 8000000 in
theorem rkids_any (C bb o d : Nat) (cap ccap : Nat) (m b : Int) (L : List Ino) (_hL : L.length ≤ 300) (hd : d < L.length) (hkl : (L[d]'hd).kids.length ≤ 1024) (hnl : ∀ e ∈ (L[d]'hd).kids, e.1.length ≤ 9223372036854775807) (c : List Int) (hc : c.length = L.length) (x : Int) (hx0 : 0 ≤ x) (hx1 : x ≤ 4294967296) (hlow : Low c x)
    (w0 w : World) (hN : NodesIn w0 (some ⟨bb, o, none⟩) cap L) (hb0 : Below w0.heap.size w0 w) (hC0 : w0.heap.size ≤ C) (hC : CountIn w C c) (_hcc : L.length ≤ ccap) (_hccm : ccap ≤ maxLen) :
    Calls Tryz.prog 62 #[.agg #[.slice (some ⟨bb, o, none⟩) L.length cap, .int .i64 m, .int .i64 b], .int .i64 d, .slice (some ⟨C, 0, none⟩) L.length ccap] w
      (KidsAns L d C (L[d]'hd).kids c w) := by
  have hCw : C < w.heap.size := (Array.getElem?_eq_some_iff.1 hC).1
  obtain ⟨w1, hw1⟩ : ∃ w1, w1 = w.alloc (.cells #[.slice (some ⟨bb, o, none⟩) L.length cap, .int .i64 m, .int .i64 b] 24) := ⟨_, rfl⟩
  have hsz1 : w1.heap.size = w.heap.size + 1 := by rw [hw1]; simp
  have hbx : w1.heap[w.heap.size]? = some (.cells #[.slice (some ⟨bb, o, none⟩) L.length cap, .int .i64 m, .int .i64 b] 24) := by rw [hw1]; exact new_block _ _
  obtain ⟨M, hMe⟩ : ∃ M, M = (L[d]'hd).kids := ⟨_, rfl⟩
  rw [← hMe] at hkl hnl ⊢
  obtain ⟨bb', o', e1, hx⟩ := hN.2.2 d hd
  obtain ⟨rfl, rfl⟩ : bb' = bb ∧ o' = o := by simpa [eq_comm] using e1
  obtain ⟨kv, x4, hks⟩ := hx.kids
  rw [← hMe] at hks
  obtain ⟨ka, kcap, rfl, hkc, hkm, hkk⟩ := hks
  have hx4 : w.cell? ⟨bb', o' + d * 6 + 4, none⟩ = some (.slice ka M.length kcap) := cell_below hb0 x4
  have gb : bb' < w.heap.size := cell_lt hx4
  unfold maxLen at hkm _hccm
  have HK := Lib.hid hkk
  have HNN := Lib.hid hN
  have HB0 := Lib.hid hb0
  have HNL0 := Lib.hid hnl
  have HBX := Lib.hid hbx
  have HC := Lib.hid hC
  have HLOW := Lib.hid hlow
  have HLEN := Lib.hid hc
  have hd0 : (0 : Int) ≤ (d : Int) := by omega
  clear hx hMe hkk e1 hN hb0 hnl hbx hC hlow hc x4
  go_enter Tryz.func62, Tryz.ntmps62
  go_wp2_with fail
  rw [← hw1]
  have hcw1 : CountIn w1 C c := by
    show w1.heap[C]? = _
    rw [hw1, Below.heap_alloc _ _ _ hCw]
    exact HC.out
  have hbw1 : Below C w w1 := by rw [hw1]; exact (Below.refl _ _).alloc (by omega) _
  clear hw1 hx4
  go_loopw [8, 9] (fun iv _ wr => KRel L d C M c x w w1 iv wr) (fun iv _ _ => M.length - (intOf iv).toNat)
  case atStart => exact ⟨0, by omega, rfl, fun _ _ h => absurd h (Nat.not_lt_zero _), hcw1, by simpa [bump] using HLOW.out, hbw1, rfl, Nat.le_refl _⟩
  case round =>
    obtain ⟨k, hk, rfl, hok, hcnt, hlw, hbr, hbox, hszr⟩ := hrel
    have HOK := Lib.hid hok
    have HCNT := Lib.hid hcnt
    have HLW := Lib.hid hlw
    have HBR := Lib.hid hbr
    have HBOX := Lib.hid hbox
    clear hok hcnt hlw hbr hbox hcw1 hbw1
    by_cases hlt : k < M.length
    · have hb00 := HB0.out.trans (HBR.out.mono hC0)
      obtain ⟨c1, p1, rfl, z0, z1⟩ := HK.out k hlt
      have y0 := cell_below hb00 z0
      have y1 := cell_below hb00 z1
      have hk0 : (0 : Int) ≤ (k : Int) := by omega
      have hkl' : (k : Int) < (M.length : Int) := by omega
      have q0 : wr.cell? ⟨w.heap.size, 0, none⟩ = some (.slice (some ⟨bb', o', none⟩) L.length cap) := by simp only [World.cell?, HBOX.out, HBX.out]; rfl
      have q1 : wr.cell? ⟨w.heap.size, 1, none⟩ = some (.int .i64 m) := by simp only [World.cell?, HBOX.out, HBX.out]; rfl
      have q2 : wr.cell? ⟨w.heap.size, 2, none⟩ = some (.int .i64 b) := by simp only [World.cell?, HBOX.out, HBX.out]; rfl
      have gw : w.heap.size < wr.heap.size := by omega
      have gc : c1 < wr.heap.size := cell_lt y0
      have HNL := Lib.hid (HNL0.out M[k] (List.getElem_mem _))
      have HB00 := Lib.hid hb00
      have HZ1 := Lib.hid z1
      clear hb00 z0 z1
      by_cases hkp : 0 < k
      · have hkp' : (0 : Int) < (k : Int) := by omega
        obtain ⟨t, ht⟩ : ∃ t, k = t + 1 := ⟨k - 1, by omega⟩
        have htl : t < M.length := by omega
        have htl' : (t : Int) < (M.length : Int) := by omega
        have ht0 : (0 : Int) ≤ (t : Int) := by omega
        have y2 : wr.cell? ⟨c1, p1 + t * 2, none⟩ = some (.string ⟨M[t].1.toArray⟩) := by
          obtain ⟨c1', p1', e, zz, -⟩ := HK.out t htl
          obtain ⟨rfl, rfl⟩ : c1 = c1' ∧ p1 = p1' := by simpa using e
          exact cell_below HB00.out zz
        have hsub : IntKind.i64.wrap ((k : Int) - 1) = (t : Int) := by rw [IntWalk.i64_in _ (by omega)]; omega
        have HT := Lib.hid ht
        clear ht
        cases hnm : nameOkL M[k].1 with
        | false =>
          have HN1 := Lib.hid (show nameOkL (⟨M[k].1.toArray⟩ : ByteArray).data.toList = false from hnm)
          have HNO := Lib.hid (show ¬ KidsOk L d M from fun h => by have h1 := (h k hlt).name; rw [hnm] at h1; cases h1)
          clear hnm
          go_wp2_with fail
          go_quiet ((go_at_call 24; exact Calls.quiet_of_same (rname_known _ (by rw [str_len]; exact HNL.out) _ HN1.out _)))
          go_wp2_with fail
          go_ret
          exact KidsAns.no rfl ⟨HBR.out.os, HBR.out.tape, HBR.out.output, HBR.out.size, HBR.out.block⟩ HNO.out
        | true =>
          have HN1 := Lib.hid (show nameOkL (⟨M[k].1.toArray⟩ : ByteArray).data.toList = true from hnm)
          cases hls : Op.bytesLess M[t].1 M[k].1 with
          | false =>
            have HNO := Lib.hid (show ¬ KidsOk L d M from fun h => by
              have h1 := (h k hlt).order t HT.out
              rw [hls] at h1
              cases h1)
            clear hnm
            go_wp2_with fail
            go_quiet ((go_at_call 24; exact Calls.quiet_of_same (rname_known _ (by rw [str_len]; exact HNL.out) _ HN1.out _)))
            go_wp2_with fail
            go_ret
            exact KidsAns.no rfl ⟨HBR.out.os, HBR.out.tape, HBR.out.output, HBR.out.size, HBR.out.block⟩ HNO.out
          | true =>
            cases hth : thereB L M[k].2 with
            | false =>
              have HTH := Lib.hid hth
              have HNO := Lib.hid (show ¬ KidsOk L d M from fun h => by have h1 := (h k hlt).there; rw [hth] at h1; cases h1)
              clear hnm hth
              go_wp2_with fail
              refine wp_region_still_tail 32 (by kernel_rfl) (by kernel_rfl) ?_
              simp only [List.take_succ_cons, List.take_zero, List.drop_succ_cons, List.drop_zero]
              refine wpStill_of_quiet _ _ ?_
              repeat (first | go_big_quiet_skip | (go_big_quiet_want; go_big_quiet_op; (first | go_big_quiet_on | (refine ⟨_, rname_known _ (by rw [str_len]; exact HNL.out) _ HN1.out _, ?_⟩; go_big_quiet_on))))
              refine wpQuiet_nil ?_
              change wpList _ _ _ _ _ wr.drew
              go_wp2_with (first | (go_at_call 61; refine (rthere_known _ _ _ _ _ _ _ HTH.out _).mono ?_; rintro e w2 ⟨rfl, hb2⟩) | fail)
              go_ret
              exact KidsAns.no rfl (HBR.out.trans ⟨hb2.os, hb2.tape, hb2.output, hb2.size, fun i hi => hb2.block i (show i < wr.heap.size by omega)⟩) HNO.out
            | true =>
              obtain ⟨u, hu1, hu2⟩ := there_nat hth
              have hth' : thereB L (u : Int) = true := by rw [← hu1]; exact hth
              have HTH := Lib.hid hth'
              have y1u : wr.cell? ⟨c1, p1 + k * 2 + 1, none⟩ = some (.int .i64 (u : Int)) := by rw [← hu1]; exact y1
              have hu0 : (0 : Int) ≤ (u : Int) := by omega
              have hul : (u : Int) < (L.length : Int) := by omega
              have HNR := Lib.hid (HNN.out.below HB00.out)
              have hclen : (bump c (M.take k)).length = L.length := by rw [bump_len]; exact HLEN.out
              have hcu := HCNT.out.cell u (by rw [hclen]; exact hu2)
              obtain ⟨z, hz⟩ : ∃ z, z = (bump c (M.take k))[u]'(by rw [hclen]; exact hu2) := ⟨_, rfl⟩
              rw [← hz] at hcu
              have hzl : 0 ≤ z ∧ z ≤ x + k := HLW.out z (by rw [hz]; exact List.getElem_mem _)
              have hcf := HCNT.out.frozen u
              have gC : C < wr.heap.size := by omega
              have hnode : nodeAt L M[k].2 = L[u] := by rw [hu1, node_nat L u hu2]
              have HNODE := Lib.hid hnode
              have HBUMP := Lib.hid (show bump1 (bump c (M.take k)) M[k].2 = (bump c (M.take k)).set u (z + 1) by
                unfold bump1
                rw [hu1, Int.toNat_natCast, List.getD_eq_getElem?_getD, List.getElem?_eq_getElem (by rw [hclen]; exact hu2), ← hz]
                rfl)
              have HU1 := Lib.hid hu1
              have HNM := Lib.hid hnm
              clear hnode hz hclen hth hth' hu1 y1 hnm
              obtain ⟨X, hX⟩ : ∃ X, X = L[u] := ⟨_, rfl⟩
              have HX2 := Lib.hid hX
              obtain ⟨b2, o2, e2, hy⟩ := HNR.out.2.2 u hu2
              obtain ⟨rfl, rfl⟩ : b2 = bb' ∧ o2 = o' := by simpa [eq_comm] using e2
              rw [← hX] at hy
              obtain ⟨jv, x4, jks⟩ := hy.kids
              obtain ⟨ja, jcap, rfl, jkc, jkm, jkk⟩ := jks
              have x0 := hy.kind
              have x1 := hy.mode
              have x2 := hy.links
              have x3 := hy.data
              have x5 := hy.up
              clear e2 hy jkk hX
              go_wp2_with fail
              refine wp_region_still_tail 32 (by kernel_rfl) (by kernel_rfl) ?_
              simp only [List.take_succ_cons, List.take_zero, List.drop_succ_cons, List.drop_zero]
              refine wpStill_of_quiet _ _ ?_
              repeat (first | go_big_quiet_skip | (go_big_quiet_want; go_big_quiet_op; (first | go_big_quiet_on | (refine ⟨_, rname_known _ (by rw [str_len]; exact HNL.out) _ HN1.out _, ?_⟩; go_big_quiet_on))))
              refine wpQuiet_nil ?_
              change wpList _ _ _ _ _ wr.drew
              go_wp2_with fail
              refine (rthere_known _ _ _ _ _ _ _ HTH.out _).mono ?_
              rintro e w2 ⟨rfl, hb2⟩
              have hb3 : Below wr.heap.size wr w2 := ⟨hb2.os, hb2.tape, hb2.output, hb2.size, hb2.block⟩
              have r0 := cell_below hb3 q0
              have r1 := cell_below hb3 y1u
              have s0 := cell_below hb3 x0
              have s1 := cell_below hb3 x1
              have s2 := cell_below hb3 x2
              have s3 := cell_below hb3 x3
              have s4 := cell_below hb3 x4
              have s5 := cell_below hb3 x5
              have hcu2 := cell_below hb3 hcu
              have hcf2 : w2.frozen? ⟨C, u, none⟩ = false := (HCNT.out.below hb3).frozen u
              have hsz3 := hb3.size
              have gC2 : C < w2.heap.size := by omega
              have gc2 : c1 < w2.heap.size := by omega
              have gw2 : w.heap.size < w2.heap.size := by omega
              have gb2 : b2 < w2.heap.size := cell_lt s0
              have HB3 := Lib.hid hb3
              clear hb2 hb3 q0 q1 q2 x0 x1 x2 x3 x4 x5 hcu hcf y0 y1u y2 hsub
              go_wp2_with fail
              go_region
              have HBA := Lib.hid (show ∀ o, Below C w (w2.alloc o).drew from fun o => (by have h := (HBR.out.trans (HB3.out.mono (show C ≤ wr.heap.size by omega))).alloc (show C ≤ w2.heap.size by omega) o; exact ⟨h.os, h.tape, h.output, h.size, h.block⟩))
              cases k0 : (X.kind == 0) with
              | true =>
                have HNO := Lib.hid (show ¬ KidsOk L d M from fun h => (h k hlt).kind (by rw [HNODE.out, ← HX2.out]; simpa using k0))
                go_wp2_with fail
                go_ret
                exact KidsAns.no rfl (HBA.out _) HNO.out
              | false =>
                cases k2 : (X.kind == 2) with
                | false =>
                  have HKK := Lib.hid (show KidOk L d M k hlt from ⟨HNM.out, fun t' ht' => by
                    obtain rfl : t' = t := by have := HT.out; omega
                    exact hls, by rw [HU1.out]; exact HTH.out, by rw [HNODE.out, ← HX2.out]; simpa using k0, by rw [HNODE.out, ← HX2.out, HU1.out]; simp only [not_and]; intro h; rw [beq_eq_false_iff_ne] at k2; exact absurd h k2⟩)
                  go_wp2_with fail
                  go_roundw
                  case rel => exact KRel.next _ hlt HOK.out HKK.out HCNT.out HLW.out hx0 HBR.out HBOX.out hszr hCw gw HB3.out HBUMP.out
                  case measure => simp [intOf] <;> omega
                | true =>
                  cases ku : ((u : Int) == 0) with
                  | true =>
                    have HNO := Lib.hid (show ¬ KidsOk L d M from fun h => (h k hlt).dir (by rw [HNODE.out, ← HX2.out, HU1.out]; exact ⟨by simpa using k2, Or.inl (by simpa using ku)⟩))
                    go_wp2_with fail
                    go_ret
                    exact KidsAns.no rfl (HBA.out _) HNO.out
                  | false =>
                    cases kd : (X.up != (d : Int)) with
                    | true =>
                      have HNO := Lib.hid (show ¬ KidsOk L d M from fun h => (h k hlt).dir (by rw [HNODE.out, ← HX2.out, HU1.out]; exact ⟨by simpa using k2, Or.inr (by simpa using kd)⟩))
                      go_wp2_with fail
                      go_ret
                      exact KidsAns.no rfl (HBA.out _) HNO.out
                    | false =>
                      have HKK := Lib.hid (show KidOk L d M k hlt from ⟨HNM.out, fun t' ht' => by
                        obtain rfl : t' = t := by have := HT.out; omega
                        exact hls, by rw [HU1.out]; exact HTH.out, by rw [HNODE.out, ← HX2.out]; simpa using k0, by rw [HNODE.out, ← HX2.out, HU1.out]; rintro ⟨-, h | h⟩; exact absurd h (by simpa using ku); exact h (by simpa using kd)⟩)
                      go_wp2_with fail
                      go_roundw
                      case rel => exact KRel.next _ hlt HOK.out HKK.out HCNT.out HLW.out hx0 HBR.out HBOX.out hszr hCw gw HB3.out HBUMP.out
                      case measure => simp [intOf] <;> omega
      · have hg : decide (0 < k) = false := decide_eq_false (by omega)
        have HK0 := Lib.hid (show k = 0 by omega)
        clear hkp
        cases hnm : nameOkL M[k].1 with
        | false =>
          have HN1 := Lib.hid (show nameOkL (⟨M[k].1.toArray⟩ : ByteArray).data.toList = false from hnm)
          have HNO := Lib.hid (show ¬ KidsOk L d M from fun h => by have h1 := (h k hlt).name; rw [hnm] at h1; cases h1)
          clear hnm
          go_wp2_with fail
          go_quiet ((go_at_call 24; exact Calls.quiet_of_same (rname_known _ (by rw [str_len]; exact HNL.out) _ HN1.out _)))
          go_wp2_with fail
          go_ret
          exact KidsAns.no rfl ⟨HBR.out.os, HBR.out.tape, HBR.out.output, HBR.out.size, HBR.out.block⟩ HNO.out
        | true =>
          have HN1 := Lib.hid (show nameOkL (⟨M[k].1.toArray⟩ : ByteArray).data.toList = true from hnm)
          cases hth : thereB L M[k].2 with
          | false =>
            have HTH := Lib.hid hth
            have HNO := Lib.hid (show ¬ KidsOk L d M from fun h => by have h1 := (h k hlt).there; rw [hth] at h1; cases h1)
            clear hnm hth
            go_wp2_with fail
            refine wp_region_still_tail 32 (by kernel_rfl) (by kernel_rfl) ?_
            simp only [List.take_succ_cons, List.take_zero, List.drop_succ_cons, List.drop_zero]
            refine wpStill_of_quiet _ _ ?_
            repeat (first | go_big_quiet_skip | (go_big_quiet_want; go_big_quiet_op; (first | go_big_quiet_on | (refine ⟨_, rname_known _ (by rw [str_len]; exact HNL.out) _ HN1.out _, ?_⟩; go_big_quiet_on))))
            refine wpQuiet_nil ?_
            change wpList _ _ _ _ _ wr.drew
            go_wp2_with (first | (go_at_call 61; refine (rthere_known _ _ _ _ _ _ _ HTH.out _).mono ?_; rintro e w2 ⟨rfl, hb2⟩) | fail)
            go_ret
            exact KidsAns.no rfl (HBR.out.trans ⟨hb2.os, hb2.tape, hb2.output, hb2.size, fun i hi => hb2.block i (show i < wr.heap.size by omega)⟩) HNO.out
          | true =>
            obtain ⟨u, hu1, hu2⟩ := there_nat hth
            have hth' : thereB L (u : Int) = true := by rw [← hu1]; exact hth
            have HTH := Lib.hid hth'
            have y1u : wr.cell? ⟨c1, p1 + k * 2 + 1, none⟩ = some (.int .i64 (u : Int)) := by rw [← hu1]; exact y1
            have hu0 : (0 : Int) ≤ (u : Int) := by omega
            have hul : (u : Int) < (L.length : Int) := by omega
            have HNR := Lib.hid (HNN.out.below HB00.out)
            have hclen : (bump c (M.take k)).length = L.length := by rw [bump_len]; exact HLEN.out
            have hcu := HCNT.out.cell u (by rw [hclen]; exact hu2)
            obtain ⟨z, hz⟩ : ∃ z, z = (bump c (M.take k))[u]'(by rw [hclen]; exact hu2) := ⟨_, rfl⟩
            rw [← hz] at hcu
            have hzl : 0 ≤ z ∧ z ≤ x + k := HLW.out z (by rw [hz]; exact List.getElem_mem _)
            have hcf := HCNT.out.frozen u
            have gC : C < wr.heap.size := by omega
            have hnode : nodeAt L M[k].2 = L[u] := by rw [hu1, node_nat L u hu2]
            have HNODE := Lib.hid hnode
            have HBUMP := Lib.hid (show bump1 (bump c (M.take k)) M[k].2 = (bump c (M.take k)).set u (z + 1) by
              unfold bump1
              rw [hu1, Int.toNat_natCast, List.getD_eq_getElem?_getD, List.getElem?_eq_getElem (by rw [hclen]; exact hu2), ← hz]
              rfl)
            have HU1 := Lib.hid hu1
            have HNM := Lib.hid hnm
            clear hnode hz hclen hth hth' hu1 y1 hnm
            obtain ⟨X, hX⟩ : ∃ X, X = L[u] := ⟨_, rfl⟩
            have HX2 := Lib.hid hX
            obtain ⟨b2, o2, e2, hy⟩ := HNR.out.2.2 u hu2
            obtain ⟨rfl, rfl⟩ : b2 = bb' ∧ o2 = o' := by simpa [eq_comm] using e2
            rw [← hX] at hy
            obtain ⟨jv, x4, jks⟩ := hy.kids
            obtain ⟨ja, jcap, rfl, jkc, jkm, jkk⟩ := jks
            have x0 := hy.kind
            have x1 := hy.mode
            have x2 := hy.links
            have x3 := hy.data
            have x5 := hy.up
            clear e2 hy jkk hX
            go_wp2_with fail
            refine wp_region_still_tail 32 (by kernel_rfl) (by kernel_rfl) ?_
            simp only [List.take_succ_cons, List.take_zero, List.drop_succ_cons, List.drop_zero]
            refine wpStill_of_quiet _ _ ?_
            repeat (first | go_big_quiet_skip | (go_big_quiet_want; go_big_quiet_op; (first | go_big_quiet_on | (refine ⟨_, rname_known _ (by rw [str_len]; exact HNL.out) _ HN1.out _, ?_⟩; go_big_quiet_on))))
            refine wpQuiet_nil ?_
            change wpList _ _ _ _ _ wr.drew
            go_wp2_with fail
            refine (rthere_known _ _ _ _ _ _ _ HTH.out _).mono ?_
            rintro e w2 ⟨rfl, hb2⟩
            have hb3 : Below wr.heap.size wr w2 := ⟨hb2.os, hb2.tape, hb2.output, hb2.size, hb2.block⟩
            have r0 := cell_below hb3 q0
            have r1 := cell_below hb3 y1u
            have s0 := cell_below hb3 x0
            have s1 := cell_below hb3 x1
            have s2 := cell_below hb3 x2
            have s3 := cell_below hb3 x3
            have s4 := cell_below hb3 x4
            have s5 := cell_below hb3 x5
            have hcu2 := cell_below hb3 hcu
            have hcf2 : w2.frozen? ⟨C, u, none⟩ = false := (HCNT.out.below hb3).frozen u
            have hsz3 := hb3.size
            have gC2 : C < w2.heap.size := by omega
            have gc2 : c1 < w2.heap.size := by omega
            have gw2 : w.heap.size < w2.heap.size := by omega
            have gb2 : b2 < w2.heap.size := cell_lt s0
            have HB3 := Lib.hid hb3
            clear hb2 hb3 q0 q1 q2 x0 x1 x2 x3 x4 x5 hcu hcf y0 y1u
            go_wp2_with fail
            go_region
            have HBA := Lib.hid (show ∀ o, Below C w (w2.alloc o).drew from fun o => (by have h := (HBR.out.trans (HB3.out.mono (show C ≤ wr.heap.size by omega))).alloc (show C ≤ w2.heap.size by omega) o; exact ⟨h.os, h.tape, h.output, h.size, h.block⟩))
            cases k0 : (X.kind == 0) with
            | true =>
              have HNO := Lib.hid (show ¬ KidsOk L d M from fun h => (h k hlt).kind (by rw [HNODE.out, ← HX2.out]; simpa using k0))
              go_wp2_with fail
              go_ret
              exact KidsAns.no rfl (HBA.out _) HNO.out
            | false =>
              cases k2 : (X.kind == 2) with
              | false =>
                have HKK := Lib.hid (show KidOk L d M k hlt from ⟨HNM.out, fun t' ht' => by have := HK0.out; omega, by rw [HU1.out]; exact HTH.out, by rw [HNODE.out, ← HX2.out]; simpa using k0, by rw [HNODE.out, ← HX2.out, HU1.out]; simp only [not_and]; intro h; rw [beq_eq_false_iff_ne] at k2; exact absurd h k2⟩)
                go_wp2_with fail
                go_roundw
                case rel => exact KRel.next _ hlt HOK.out HKK.out HCNT.out HLW.out hx0 HBR.out HBOX.out hszr hCw gw HB3.out HBUMP.out
                case measure => simp [intOf] <;> omega
              | true =>
                cases ku : ((u : Int) == 0) with
                | true =>
                  have HNO := Lib.hid (show ¬ KidsOk L d M from fun h => (h k hlt).dir (by rw [HNODE.out, ← HX2.out, HU1.out]; exact ⟨by simpa using k2, Or.inl (by simpa using ku)⟩))
                  go_wp2_with fail
                  go_ret
                  exact KidsAns.no rfl (HBA.out _) HNO.out
                | false =>
                  cases kd : (X.up != (d : Int)) with
                  | true =>
                    have HNO := Lib.hid (show ¬ KidsOk L d M from fun h => (h k hlt).dir (by rw [HNODE.out, ← HX2.out, HU1.out]; exact ⟨by simpa using k2, Or.inr (by simpa using kd)⟩))
                    go_wp2_with fail
                    go_ret
                    exact KidsAns.no rfl (HBA.out _) HNO.out
                  | false =>
                    have HKK := Lib.hid (show KidOk L d M k hlt from ⟨HNM.out, fun t' ht' => by have := HK0.out; omega, by rw [HU1.out]; exact HTH.out, by rw [HNODE.out, ← HX2.out]; simpa using k0, by rw [HNODE.out, ← HX2.out, HU1.out]; rintro ⟨-, h | h⟩; exact absurd h (by simpa using ku); exact h (by simpa using kd)⟩)
                    go_wp2_with fail
                    go_roundw
                    case rel => exact KRel.next _ hlt HOK.out HKK.out HCNT.out HLW.out hx0 HBR.out HBOX.out hszr hCw gw HB3.out HBUMP.out
                    case measure => simp [intOf] <;> omega
    · have hall := Lib.hid (show KidsOk L d M from fun i h => HOK.out i h (by omega))
      go_wp2_with fail
      go_ret
      refine KidsAns.yes rfl HBR.out hall.out ?_
      have h := HCNT.out
      rw [List.take_of_length_le (by omega)] at h
      exact h
end Go.Proofs.YtmaiphibpdngnaaGreat

namespace Go.Proofs.YtmaiphibpdngnaaGreat
set_option maxRecDepth 100000
open Go Go.RowKit

def aloneB (x : Ino) : Bool :=
  if x.kind = 0 then decide (x.mode = 0) && decide (x.links = 0) && x.data.isEmpty && decide (x.kids.length = 0) && (x.up == 0)
  else if x.mode < 0 ∨ 7 < x.mode then false
  else if x.kind = 1 then decide (x.kids.length = 0) && (x.up == 0)
  else if x.kind = 3 then x.data.all (fun c => c != 0) && decide (x.kids.length = 0) && (x.up == 0) && !x.data.isEmpty && decide (x.data.length ≤ 1024)
  else if x.kind = 2 then x.data.isEmpty
  else false

def inoV (x : Ino) (ka : Option Addr) (kcap : Nat) : Value := .agg #[.int .i64 x.kind, .int .i64 x.mode, .int .i64 x.links, .string ⟨x.data.toArray⟩, .slice ka x.kids.length kcap, .int .i64 x.up]

theorem all_at (l : List UInt8) (k : Nat) (hk : k < l.length) (h : l[k] = 0) : l.all (fun c => c != 0) = false := by
  rw [List.all_eq_false]
  exact ⟨l[k], List.getElem_mem _, by simp [h]⟩
theorem all_done (l : List UInt8) (h : ∀ j (hj : j < l.length), l[j] ≠ 0) : l.all (fun c => c != 0) = true := by
  rw [List.all_eq_true]
  intro c hc
  obtain ⟨j, hj, rfl⟩ := List.getElem_of_mem hc
  simpa using h j hj

set_option maxHeartbeats 2000000 in
theorem ralone_any (kind mode links up : Int) (data : List UInt8) (hd : data.length ≤ 9223372036854775807) (kids : List (List UInt8 × Int)) (ka : Option Addr) (kcap : Nat) (w : World) :
    Calls Tryz.prog 60 #[.agg #[.int .i64 kind, .int .i64 mode, .int .i64 links, .string ⟨data.toArray⟩, .slice ka kids.length kcap, .int .i64 up]] w fun e w' => e = .returned (.bool (aloneB ⟨kind, mode, links, data, kids, up⟩)) ∧ Below w.heap.size w w' := by
  have hs := str_len data
  by_cases h0 : kind = 0
  · subst h0
    have hfin := Lib.hid (show aloneB ⟨0, mode, links, data, kids, up⟩ = (decide (mode = 0) && decide (links = 0) && data.isEmpty && decide (kids.length = 0) && (up == 0)) from rfl)
    go_enter Tryz.func60, Tryz.ntmps60
    go_wp2_with fail
    all_goals
      go_ret
      refine ⟨?_, below_box _ _⟩
      rw [hfin.out]
      clear hfin
      simp_all
  · by_cases hm : mode < 0 ∨ 7 < mode
    · have hfin := Lib.hid (show aloneB ⟨kind, mode, links, data, kids, up⟩ = false by unfold aloneB; rw [if_neg h0, if_pos hm])
      rw [hfin.out]
      rcases hm with hm | hm
      all_goals
        go_enter Tryz.func60, Tryz.ntmps60
        go_wp2_with fail
        go_ret
        exact ⟨rfl, below_box _ _⟩
    · have hm1 : 0 ≤ mode := by omega
      have hm2 : mode ≤ 7 := by omega
      by_cases h1 : kind = 1
      · subst h1
        have hfin := Lib.hid (show aloneB ⟨1, mode, links, data, kids, up⟩ = (decide (kids.length = 0) && (up == 0)) by unfold aloneB; rw [if_neg h0, if_neg hm, if_pos rfl])
        clear hm h0
        go_enter Tryz.func60, Tryz.ntmps60
        go_wp2_with fail
        all_goals
          go_ret
          refine ⟨?_, below_box _ _⟩
          rw [hfin.out]
          clear hfin
          simp_all
      · by_cases h3 : kind = 3
        · subst h3
          have hfin := Lib.hid (show aloneB ⟨3, mode, links, data, kids, up⟩ = (data.all (fun c => c != 0) && decide (kids.length = 0) && (up == 0) && !data.isEmpty && decide (data.length ≤ 1024)) by unfold aloneB; rw [if_neg h0, if_neg hm, if_neg h1, if_pos rfl])
          clear hm h0 h1
          rw [hfin.out]
          clear hfin
          obtain ⟨s, hsd⟩ : ∃ s : ByteArray, s = ⟨data.toArray⟩ := ⟨_, rfl⟩
          obtain rfl : data = s.data.toList := by rw [hsd]
          have hv : Value.string ⟨s.data.toList.toArray⟩ = .string s := rfl
          rw [hv]
          have hz : s.data.toList.length = s.size := Array.length_toList
          have hall0 : ∀ k (hk : k < s.size), s[k] = 0 → s.data.toList.all (fun c => c != 0) = false := fun k hk h => all_at _ k (by rw [hz]; exact hk) (by rw [← h]; rfl)
          have hall1 : (∀ j (hj : j < s.size), s[j] ≠ 0) → s.data.toList.all (fun c => c != 0) = true := fun h => all_done _ (fun j hj => h j (by rw [hz] at hj; exact hj))
          have hem : s.data.toList.isEmpty = s.toList.isEmpty := by rw [ByteArray.toList_eq]
          rw [hz, hem]
          clear hsd hv hs
          rw [hz] at hd
          clear hz hem
          obtain ⟨A, hA⟩ : ∃ A, A = s.data.toList.all (fun c => c != 0) := ⟨_, rfl⟩
          rw [← hA] at hall0 hall1 ⊢
          clear hA
          have H0 := Lib.hid hall0
          have H1 := Lib.hid hall1
          clear hall0 hall1
          go_enter Tryz.func60, Tryz.ntmps60
          go_wp2_with fail
          go_loop [3] (fun i => ∃ k : Nat, k ≤ s.size ∧ i = .int .i64 k ∧ Hid (∀ j (hj : j < s.size), j < k → s[j] ≠ 0)) (fun i => s.size - (intOf i).toNat)
          case atStart => exact ⟨0, by omega, rfl, fun _ _ h => absurd h (Nat.not_lt_zero _)⟩
          case round =>
            obtain ⟨k, hk, rfl, hcl⟩ := hrel
            by_cases hlt : k < s.size
            · cases hc : ((s[k].toNat : Int) == 0) with
              | true =>
                have hz : s[k] = 0 := by
                  apply UInt8.toNat_inj.1
                  have : (s[k].toNat : Int) = 0 := by simpa using hc
                  show s[k].toNat = 0
                  omega
                have ha := Lib.hid (H0.out k hlt hz)
                clear hz
                go_wp2_with fail
                go_ret
                exact ⟨by rw [ha.out]; rfl, below_box _ _⟩
              | false =>
                have hn := Lib.hid (show ∀ j (hj : j < s.size), j < k + 1 → s[j] ≠ 0 from fun j hj hjk => by
                  by_cases e : j = k
                  · subst e
                    intro h
                    rw [h] at hc
                    simp at hc
                  · exact hcl.out j hj (by omega))
                go_wp2_with fail
                go_round
                case rel => exact ⟨k + 1, by omega, by go_num, hn⟩
                case measure => simp [intOf] <;> omega
            · have ha := Lib.hid (H1.out (fun j hj => hcl.out j hj (by omega)))
              go_wp2_with fail
              all_goals
                go_ret
                refine ⟨?_, below_box _ _⟩
                have hA := ha.out
                have hcast : decide ((s.size : Int) ≤ 1024) = decide (s.size ≤ 1024) := by rw [decide_eq_decide]; omega
                clear ha hcl H0 H1
                first | rfl | simp_all
        · by_cases h2 : kind = 2
          · subst h2
            have hfin := Lib.hid (show aloneB ⟨2, mode, links, data, kids, up⟩ = data.isEmpty by unfold aloneB; rw [if_neg h0, if_neg hm, if_neg h1, if_neg h3, if_pos rfl])
            clear hm h0 h1 h3
            go_enter Tryz.func60, Tryz.ntmps60
            go_wp2_with fail
            go_ret
            refine ⟨?_, below_box _ _⟩
            rw [hfin.out]
            rfl
          · have hfin := Lib.hid (show aloneB ⟨kind, mode, links, data, kids, up⟩ = false by unfold aloneB; rw [if_neg h0, if_neg hm, if_neg h1, if_neg h3, if_neg h2])
            rw [hfin.out]
            have e0 : (kind == 0) = false := by simpa using h0
            have e1 : (kind == 1) = false := by simpa using h1
            have e2 : (kind == 2) = false := by simpa using h2
            have e3 : (kind == 3) = false := by simpa using h3
            clear hm h0 h1 h2 h3
            go_enter Tryz.func60, Tryz.ntmps60
            go_wp2_with fail
            go_ret
            exact ⟨rfl, below_box _ _⟩
end Go.Proofs.YtmaiphibpdngnaaGreat

namespace Go.Proofs.YtmaiphibpdngnaaGreat
set_option maxRecDepth 100000
open Go Go.RowKit

def upFrom (L : List Ino) : Nat → Int → Bool
  | 0, _ => false
  | n + 1, k => if k = 0 then true else if dirB L (nodeAt L k).up then upFrom L n (nodeAt L k).up else false
theorem up_succ (L : List Ino) (n : Nat) (k : Int) : upFrom L (n + 1) k = if k = 0 then true else if dirB L (nodeAt L k).up then upFrom L n (nodeAt L k).up else false := rfl
def rootedB (L : List Ino) (k : Int) : Bool := upFrom L (L.length + 1) k

def RootRel (L : List Ino) (n0 : Nat) (w1 : World) (kv iv : Value) (wr : World) : Prop :=
  ∃ k i : Nat, k < L.length ∧ i ≤ L.length + 1 ∧ kv = .int .i64 k ∧ iv = .int .i64 i ∧ Hid (upFrom L (L.length + 1) (n0 : Int) = upFrom L (L.length + 1 - i) (k : Int)) ∧ Below w1.heap.size w1 wr

set_option maxHeartbeats 2000000 in
theorem rrooted_any (a : Option Addr) (cap : Nat) (m b : Int) (L : List Ino) (hL : L.length ≤ 1000) (n : Nat) (hn : n < L.length) (w : World) (hN : NodesIn w a cap L) :
    Calls Tryz.prog 63 #[.agg #[.slice a L.length cap, .int .i64 m, .int .i64 b], .int .i64 n] w fun e w' => e = .returned (.bool (rootedB L n)) ∧ Below w.heap.size w w' := by
  have hb1 := below_box w (.cells #[.slice a L.length cap, .int .i64 m, .int .i64 b] 24)
  obtain ⟨w1, hw1⟩ : ∃ w1, w1 = w.alloc (.cells #[.slice a L.length cap, .int .i64 m, .int .i64 b] 24) := ⟨_, rfl⟩
  have hM := hN.below hb1
  have hbox : ∀ W', Below w1.heap.size w1 W' → W'.cell? ⟨w.heap.size, 0, none⟩ = some (.slice a L.length cap) ∧ W'.cell? ⟨w.heap.size, 1, none⟩ = some (.int .i64 m) ∧ W'.cell? ⟨w.heap.size, 2, none⟩ = some (.int .i64 b) := fun W' h => box3 (by rw [← hw1]; exact h)
  rw [← hw1] at hM hb1
  have HM := Lib.hid hM
  have HX := Lib.hid hbox
  have HB := Lib.hid hb1
  clear hM hN hbox hb1
  unfold rootedB
  go_enter Tryz.func63, Tryz.ntmps63
  go_wp2_with fail
  rw [← hw1]
  clear hw1
  go_loopw [1, 5] (fun k i wr => RootRel L n w1 k i wr) (fun _ i _ => L.length + 1 - (intOf i).toNat)
  case atStart => exact ⟨n, 0, hn, by omega, rfl, rfl, Lib.hid rfl, Below.refl _ _⟩
  case round =>
    obtain ⟨k, i, hk, hi, rfl, rfl, hrest, hbr⟩ := hrel
    have HBR := Lib.hid hbr
    obtain ⟨q0, q1, q2⟩ := HX.out _ hbr
    clear hbr
    by_cases hil : i ≤ L.length
    · have hst : L.length + 1 - i = (L.length - i) + 1 := by omega
      have hsz := HBR.out.size
      by_cases hk0 : k = 0
      · subst hk0
        have hfin := Lib.hid (show upFrom L (L.length + 1) (n : Int) = true by rw [hrest.out, hst]; rfl)
        go_wp2_with fail
        go_ret
        exact ⟨by rw [hfin.out]; rfl, HB.out.trans (HBR.out.mono HB.out.size)⟩
      · obtain ⟨bb, o, rfl, hx⟩ := (HM.out.below HBR.out).2.2 k hk
        have h1 := hx.up
        have hu : upFrom L (L.length + 1) (n : Int) = if dirB L L[k].up then upFrom L (L.length - i) L[k].up else false := by
          rw [hrest.out, hst, up_succ, if_neg (by omega), node_nat L k hk]
        cases ht : thereB L L[k].up with
        | false =>
          have HT := Lib.hid ht
          have hfin := Lib.hid (show upFrom L (L.length + 1) (n : Int) = false by rw [hu, if_neg (by unfold dirB; rw [ht]; simp)])
          clear ht hu
          have hk1 : ((k : Int) == 0) = false := by simpa using hk0
          go_wp2_with (first | (go_at_call 61; refine (rthere_known _ _ _ _ _ _ _ HT.out _).mono ?_; rintro e w2 ⟨rfl, hb2⟩) | fail)
          go_ret
          exact ⟨by rw [hfin.out]; rfl, (HB.out.trans (HBR.out.mono HB.out.size)).trans (hb2.mono (Nat.le_trans HB.out.size hsz))⟩
        | true =>
          obtain ⟨u, hu1, hu2⟩ := there_nat ht
          have HT := Lib.hid ht
          obtain ⟨b', o', e1, hy⟩ := (HM.out.below HBR.out).2.2 u hu2
          have h2 := hy.kind
          obtain ⟨rfl, rfl⟩ : b' = bb ∧ o' = o := by simpa [eq_comm] using e1
          have hd : dirB L L[k].up = (L[u].kind == 2) := by unfold dirB; rw [ht, hu1, node_nat L u hu2]; rfl
          rw [hd, hu1] at hu
          rw [hu1] at h1 HT
          have hk1 : ((k : Int) == 0) = false := by simpa using hk0
          have hu0 : (0 : Int) ≤ (u : Int) := by omega
          clear ht hd e1
          cases hz : (L[u].kind != 2) with
          | true =>
            have hfin := Lib.hid (show upFrom L (L.length + 1) (n : Int) = false by rw [hu, if_neg (by simpa [bne] using hz)])
            clear hu
            go_wp2_with (first | (go_at_call 61; refine (rthere_known _ _ _ _ _ _ _ HT.out _).mono ?_; rintro e w2 ⟨rfl, hb2⟩; obtain ⟨r0, r1, r2⟩ := HX.out _ (HBR.out.trans (hb2.mono hsz)); have h3 := cell_below hb2 h2) | fail)
            go_ret
            exact ⟨by rw [hfin.out]; rfl, (HB.out.trans (HBR.out.mono HB.out.size)).trans (hb2.mono (Nat.le_trans HB.out.size hsz))⟩
          | false =>
            have hnext := Lib.hid (show upFrom L (L.length + 1) (n : Int) = upFrom L (L.length + 1 - (i + 1)) (u : Int) by rw [hu, if_pos (by simpa [bne] using hz)]; congr 1; omega)
            clear hu
            go_wp2_with (first | (go_at_call 61; refine (rthere_known _ _ _ _ _ _ _ HT.out _).mono ?_; rintro e w2 ⟨rfl, hb2⟩; obtain ⟨r0, r1, r2⟩ := HX.out _ (HBR.out.trans (hb2.mono hsz)); have h3 := cell_below hb2 h2) | fail)
            go_roundw
            case rel => exact ⟨u, i + 1, hu2, by omega, rfl, by go_num, hnext, HBR.out.trans (hb2.mono hsz)⟩
            case measure => simp [intOf] <;> omega
    · have hfin := Lib.hid (show upFrom L (L.length + 1) (n : Int) = false by rw [hrest.out, show L.length + 1 - i = 0 by omega]; rfl)
      go_wp2_with fail
      go_ret
      exact ⟨by rw [hfin.out]; rfl, HB.out.trans (HBR.out.mono HB.out.size)⟩
end Go.Proofs.YtmaiphibpdngnaaGreat

namespace Go.Proofs.YtmaiphibpdngnaaGreat
set_option maxRecDepth 100000
open Go Go.RowKit

/-- A call that tells whether p. -/
def TellsP (p : Prop) (e : Ending) : Prop := ∃ v, e = .returned (.bool v) ∧ (v = true ↔ p)
theorem TellsP.no {p : Prop} {e : Ending} (he : e = .returned (.bool false)) (h : ¬ p) : TellsP p e := ⟨false, he, by simpa using h⟩
theorem TellsP.yes {p : Prop} {e : Ending} (he : e = .returned (.bool true)) (h : p) : TellsP p e := ⟨true, he, by simpa using h⟩
theorem TellsP.of {p : Prop} {e : Ending} {b : Bool} (he : e = .returned (.bool b)) (h : b = true ↔ p) : TellsP p e := ⟨b, he, h⟩
theorem TellsP.is {p q : Prop} {e : Ending} (h : TellsP p e) (hpq : p ↔ q) : TellsP q e := by
  obtain ⟨v, h1, h2⟩ := h
  exact ⟨v, h1, h2.trans hpq⟩
/-- How many names an inode of a kind may have. -/
def MayHave (kind ino n : Int) : Prop := if ino = 0 ∨ kind = 0 then n = 0 else if kind = 2 then n = 1 else 1 ≤ n
/-- Going Up leads to the root, in fewer steps than n. -/
def leadsL (L : List Ino) : Nat → Int → Bool
  | 0, _ => false
  | n + 1, k => if k = 0 then true else leadsL L n (nodeAt L k).up
theorem leads_succ (L : List Ino) (n : Nat) (k : Int) : leadsL L (n + 1) k = if k = 0 then true else leadsL L n (nodeAt L k).up := rfl
/-- Each directory's Up is there. -/
def UpsIn (L : List Ino) : Prop := ∀ k (h : k < L.length), L[k].kind = 2 → dirB L L[k].up = true
theorem dir_nat {L : List Ino} {n : Nat} (hn : n < L.length) : dirB L (n : Int) = true ↔ L[n].kind = 2 := by
  unfold dirB
  rw [there_of L n hn, node_nat L n hn]
  simp
def AllLead (L : List Ino) : Prop := ∀ k (_ : k < L.length), dirB L (k : Int) = true → leadsL L L.length (k : Int) = true
theorem infoInt : (Tryz.prog.info? 3).map (fun i => (i.zero, i.size, i.bytes)) = some (some (.int .i64 0), 1, 8) := by kernel_rfl
theorem made_int (n : Nat) : madeCells (Value.int .i64 0).cells (n * 1) = ((List.replicate n (0 : Int)).map intv).toArray := by
  unfold madeCells
  apply Array.ext
  · simp
  · intro i h1 h2
    simp only [Array.getElem_map, List.getElem_toArray, List.getElem_map, List.getElem_replicate, Array.getElem_range]
    show (#[Value.int .i64 0] : Array Value)[i % 1]! = intv 0
    rw [Nat.mod_one]
    rfl
theorem bump_app (A B : List (List UInt8 × Int)) (c : List Int) : bump c (A ++ B) = bump (bump c A) B := by
  unfold bump
  rw [List.foldl_append]
theorem low_bump (M : List (List UInt8 × Int)) : ∀ (c : List Int) (x : Int), 0 ≤ x → Low c x → Low (bump c M) (x + M.length) := by
  induction M with
  | nil => intro c x _ h; simpa [bump] using h
  | cons e r ih =>
    intro c x hx h
    have h1 := ih (bump1 c e.2) (x + 1) (by omega) (h.bump1 e.2 hx)
    rw [show x + ((e :: r).length : Int) = x + 1 + (r.length : Int) by simp only [List.length_cons]; omega]
    exact h1
def zeros (n : Nat) : List Int := List.replicate n 0
theorem low_zeros (n : Nat) : Low (zeros n) 0 := by
  intro z hz
  have := List.eq_of_mem_replicate hz
  omega
def kidsOf (L : List Ino) : List (List UInt8 × Int) := L.flatMap (·.kids)
theorem kidsOf_take (L : List Ino) (d : Nat) (hd : d < L.length) : kidsOf (L.take (d + 1)) = kidsOf (L.take d) ++ L[d].kids := by
  unfold kidsOf
  rw [List.take_succ_eq_append_getElem hd, List.flatMap_append]
  simp
theorem kidsOf_len (c : Nat) : ∀ (L : List Ino), (∀ k (h : k < L.length), L[k].kids.length ≤ c) → (kidsOf L).length ≤ L.length * c
  | [], _ => Nat.zero_le _
  | x :: r, h => by
    have h0 : x.kids.length ≤ c := h 0 (Nat.succ_pos _)
    have h1 := kidsOf_len c r (fun k hk => h (k + 1) (Nat.succ_lt_succ hk))
    unfold kidsOf at h1 ⊢
    simp only [List.flatMap_cons, List.length_append, List.length_cons]
    rw [Nat.succ_mul]
    omega
/-- How many names each inode has. -/
def countL (L : List Ino) : List Int := bump (zeros L.length) (kidsOf L)
theorem countL_len (L : List Ino) : (countL L).length = L.length := by unfold countL; rw [bump_len]; simp [zeros]
/-- Each directory's names of directories are of such as have it for their Up. -/
def UpFits (L : List Ino) : Prop := ∀ d (h : d < L.length), ∀ e ∈ L[d].kids, dirB L e.2 = true → (nodeAt L e.2).up = d
def LinksFit (L : List Ino) : Prop := ∀ k (h : k < L.length), L[k].links = (countL L)[k]'(by rw [countL_len]; exact h) ∧ MayHave L[k].kind k ((countL L)[k]'(by rw [countL_len]; exact h))
def NamesFit (L : List Ino) : Prop := UpFits L ∧ LinksFit L
/-- What the names ask of a tree: they are of inodes that are there, and not too many. -/
def KidsThere (L : List Ino) : Prop := ∀ k (h : k < L.length), L[k].kids.length ≤ 1024 ∧ ∀ e ∈ L[k].kids, thereB L e.2 = true
/-- What holds of a name, at its place. -/
structure NameFit (L : List Ino) (M : List (List UInt8 × Int)) (k : Nat) (h : k < M.length) : Prop where
  name : nameOkL M[k].1 = true
  order : ∀ t (ht : k = t + 1), Op.bytesLess (M[t]'(by omega)).1 M[k].1 = true
  there : thereB L M[k].2 = true
def KidsFit (L : List Ino) (M : List (List UInt8 × Int)) : Prop := M.length ≤ 1024 ∧ ∀ k (h : k < M.length), NameFit L M k h
/-- No text is longer than any machine's. -/
def Sized (L : List Ino) : Prop := ∀ k (h : k < L.length), L[k].data.length ≤ 4611686018427387904 ∧ ∀ e ∈ L[k].kids, e.1.length ≤ 4611686018427387904
def AllFit (L : List Ino) : Prop := ∀ k (h : k < L.length), aloneB L[k] = true ∧ KidsFit L L[k].kids
def Limits (L : List Ino) (m b : Int) : Prop := 1 ≤ L.length ∧ (L.length : Int) ≤ m ∧ m ≤ 256 ∧ (usedB L : Int) ≤ b ∧ b ≤ 65536
theorem usedB_le (c : Nat) : ∀ (L : List Ino), (∀ k (h : k < L.length), L[k].data.length ≤ c) → usedB L ≤ L.length * c
  | [], _ => Nat.zero_le _
  | x :: r, h => by
    have h0 := h 0 (Nat.succ_pos _)
    have h1 := usedB_le c r (fun k hk => h (k + 1) (Nat.succ_lt_succ hk))
    simp only [usedB, List.length_cons]
    have h0' : x.data.length ≤ c := h0
    rw [Nat.succ_mul]
    omega
def Short64 (L : List Ino) : Prop := ∀ k (h : k < L.length), L[k].kids.length ≤ 1024 ∧ ∀ e ∈ L[k].kids, e.1.length ≤ 64
end Go.Proofs.YtmaiphibpdngnaaGreat

namespace Go.Proofs.YtmaiphibpdngnaaGreat
set_option maxRecDepth 100000
open Go Go.RowKit

/-- How many of the names M are of inode k. -/
def namesOf (M : List (List UInt8 × Int)) (k : Int) : Nat := (M.filter fun e => e.2 == k).length

theorem bump1_get (c : List Int) (j : Int) (hj : 0 ≤ j) (k : Nat) (hk : k < c.length) : (bump1 c j)[k]'(by simpa [bump1] using hk) = c[k] + (if j = (k : Int) then 1 else 0) := by
  unfold bump1
  rw [List.getElem_set]
  by_cases h : j.toNat = k
  · rw [if_pos h, if_pos (by omega), List.getD_eq_getElem?_getD]
    subst h
    rw [List.getElem?_eq_getElem hk]
    rfl
  · rw [if_neg h, if_neg (by omega)]
    omega
theorem bump_get (M : List (List UInt8 × Int)) : ∀ (c : List Int) (k : Nat) (hk : k < c.length), (∀ e ∈ M, 0 ≤ e.2) → (bump c M)[k]'(by rw [bump_len]; exact hk) = c[k] + (namesOf M k : Int) := by
  induction M with
  | nil => intro c k hk _; simp [bump, namesOf]
  | cons e r ih =>
    intro c k hk hM
    have h1 := bump1_get c e.2 (hM e (by simp)) k hk
    have h2 := ih (bump1 c e.2) k (by simpa [bump1] using hk) (fun x hx => hM x (by simp [hx]))
    refine (show _ = _ from h2).trans ?_
    rw [h1]
    unfold namesOf
    by_cases h : e.2 = (k : Int)
    · rw [if_pos h, List.filter_cons_of_pos (by simpa using h), List.length_cons]
      omega
    · rw [if_neg h, List.filter_cons_of_neg (by simpa using h)]
      omega
theorem countL_get (L : List Ino) (h0 : ∀ e ∈ kidsOf L, 0 ≤ e.2) (k : Nat) (hk : k < L.length) : (countL L)[k]'(by rw [countL_len]; exact hk) = (namesOf (kidsOf L) k : Int) := by
  unfold countL
  rw [bump_get (kidsOf L) (zeros L.length) k (by simpa [zeros] using hk) h0]
  simp [zeros]

theorem mem_kidsOf {L : List Ino} {e : List UInt8 × Int} : e ∈ kidsOf L ↔ ∃ d, ∃ h : d < L.length, e ∈ L[d].kids := by
  unfold kidsOf
  rw [List.mem_flatMap]
  constructor
  · rintro ⟨x, hx, he⟩
    obtain ⟨d, hd, rfl⟩ := List.getElem_of_mem hx
    exact ⟨d, hd, he⟩
  · rintro ⟨d, hd, he⟩
    exact ⟨L[d], List.getElem_mem _, he⟩

/-- A tree that can be. -/
structure FitP (L : List Ino) (m b : Int) : Prop where
  limits : Limits L m b
  root : dirB L 0 = true
  rootUp : (nodeAt L 0).up = 0
  ins : AllFit L
  names : NamesFit L
  leads : AllLead L

theorem kids_there {L : List Ino} (h : AllFit L) : KidsThere L := fun k hk => ⟨(h k hk).2.1, fun e he => by
  obtain ⟨i, hi, rfl⟩ := List.getElem_of_mem he
  exact ((h k hk).2.2 i hi).there⟩
theorem there_pos {L : List Ino} {k : Int} (h : thereB L k = true) : 0 ≤ k := by
  obtain ⟨n, rfl, _⟩ := there_nat h
  omega
theorem kids_pos {L : List Ino} (h : KidsThere L) : ∀ e ∈ kidsOf L, 0 ≤ e.2 := fun e he => by
  obtain ⟨d, hd, he⟩ := mem_kidsOf.1 he
  exact there_pos ((h d hd).2 e he)

/-- What has names is a directory. -/
theorem dir_of_kids {x : Ino} (h : aloneB x = true) (hk : x.kids ≠ []) : x.kind = 2 := by
  have hl : x.kids.length ≠ 0 := fun e => hk (List.length_eq_zero_iff.1 e)
  unfold aloneB at h
  split at h
  · simp [hl] at h
  · split at h
    · cases h
    · split at h
      · simp [hl] at h
      · split at h
        · simp [hl] at h
        · split at h
          · assumption
          · cases h

theorem ups_in {L : List Ino} (hr : dirB L 0 = true) (hu : (nodeAt L 0).up = 0) (hI : AllFit L) (hN : NamesFit L) : UpsIn L := by
  intro k hk h2
  by_cases hk0 : k = 0
  · subst hk0
    have e : nodeAt L 0 = L[0] := node_nat L 0 hk
    rw [e] at hu
    rw [hu]
    exact hr
  · obtain ⟨_, hm⟩ := hN.2 k hk
    rw [countL_get L (kids_pos (kids_there hI)) k hk] at hm
    unfold MayHave at hm
    rw [if_neg (by omega), if_pos h2] at hm
    have hpos : 0 < namesOf (kidsOf L) k := by omega
    obtain ⟨e, he⟩ := List.exists_mem_of_length_pos hpos
    obtain ⟨he1, he2⟩ := List.mem_filter.1 he
    obtain ⟨d, hd, hed⟩ := mem_kidsOf.1 he1
    have hek : e.2 = (k : Int) := by simpa using he2
    have hup := hN.1 d hd e hed (by rw [hek]; exact (dir_nat hk).2 h2)
    rw [hek, node_nat L k hk] at hup
    rw [hup]
    exact (dir_nat hd).2 (dir_of_kids (hI d hd).1 (List.ne_nil_of_mem hed))
end Go.Proofs.YtmaiphibpdngnaaGreat

namespace Go.Proofs.YtmaiphibpdngnaaGreat
set_option maxRecDepth 100000
open Go Go.RowKit

structure RA (L : List Ino) (j : Nat) (h : j < L.length) : Prop where
  alone : aloneB L[j] = true
  data : L[j].data.length ≤ 65536
  dir : L[j].kind = 2 → thereB L L[j].up = true ∧ L[j].kids.length ≤ 1024 ∧ KidsOk L j L[j].kids
def RB (L : List Ino) (j : Nat) (h : j < L.length) : Prop :=
  L[j].links = (countL L)[j]'(by rw [countL_len]; exact h) ∧ ¬ (L[j].kind ≠ 0 ∧ 0 < j ∧ (countL L)[j]'(by rw [countL_len]; exact h) = 0) ∧
    ¬ (L[j].kind = 2 ∧ (rootedB L (j : Int) = false ∨ 0 < j ∧ (countL L)[j]'(by rw [countL_len]; exact h) ≠ 1))
structure RHead (L : List Ino) (m b : Int) : Prop where
  one : 1 ≤ L.length
  lim : (L.length : Int) ≤ m
  cap : m ≤ 256
  b0 : 0 ≤ b
  b1 : b ≤ 65536
  root : (nodeAt L 0).kind = 2
  up : (nodeAt L 0).up = 0
structure RFitP (L : List Ino) (m b : Int) : Prop where
  head : RHead L m b
  ins : ∀ j (h : j < L.length), RA L j h
  nam : ∀ j (h : j < L.length), RB L j h
  bytes : (usedB L : Int) ≤ b

def RF1 (L : List Ino) (C : Nat) (w1 : World) (bv iv : Value) (wr : World) : Prop :=
  ∃ k : Nat, k ≤ L.length ∧ iv = .int .i64 k ∧ bv = .int .i64 (usedB (L.take k)) ∧ Hid (∀ j (h : j < L.length), j < k → RA L j h) ∧ CountIn wr C (bump (zeros L.length) (kidsOf (L.take k))) ∧ Below w1.heap.size w1 wr
def RF2 (L : List Ino) (C : Nat) (w1 : World) (iv : Value) (wr : World) : Prop :=
  ∃ k : Nat, k ≤ L.length ∧ iv = .int .i64 k ∧ Hid (∀ j (h : j < L.length), j < k → RB L j h) ∧ CountIn wr C (countL L) ∧ Below w1.heap.size w1 wr

theorem no_kids {x : Ino} (h : aloneB x = true) (h2 : x.kind ≠ 2) : x.kids = [] := by
  cases hk : x.kids with
  | nil => rfl
  | cons e r => exact absurd (dir_of_kids h (by rw [hk]; simp)) h2

set_option maxRecDepth 100000 in
set_option maxHeartbeats 8000000 in
theorem rfit_head (a : Option Addr) (cap : Nat) (m b : Int) (L : List Ino) (hL : L.length ≤ 1000) (hh : ¬ RHead L m b) (w : World) (hN : NodesIn w a cap L) :
    Calls Tryz.prog 18 #[.agg #[.slice a L.length cap, .int .i64 m, .int .i64 b]] w fun e w' => TellsP (RFitP L m b) e ∧ Below w.heap.size w w' := by
  have hb1 := below_box w (.cells #[.slice a L.length cap, .int .i64 m, .int .i64 b] 24)
  have HM := Lib.hid (hN.below hb1)
  have HB := Lib.hid hb1
  have HNO := Lib.hid (show ¬ RFitP L m b from fun h => hh h.head)
  obtain ⟨R, hR⟩ : ∃ R, R = RFitP L m b := ⟨_, rfl⟩
  rw [← hR] at HNO ⊢
  clear hN hb1 hR
  by_cases h1 : 1 ≤ L.length
  · by_cases h2 : (L.length : Int) ≤ m
    · by_cases h3 : m ≤ 256
      · by_cases h4 : 0 ≤ b
        · by_cases h5 : b ≤ 65536
          · obtain ⟨bb, o, rfl, hx⟩ := HM.out.2.2 0 (by omega)
            have x0 := hx.kind
            have x5 := hx.up
            rw [Nat.zero_mul, Nat.add_zero] at x0 x5
            have HN0 := Lib.hid (show nodeAt L 0 = L[0] from node_nat L 0 (by omega))
            have hlen : (0 : Int) < (L.length : Int) := by omega
            clear hx
            by_cases h6 : L[0].kind = 2
            · have hk : (L[0].kind != 2) = false := by simpa using h6
              have h7 : ¬ L[0].up = 0 := fun e => hh ⟨h1, h2, h3, h4, h5, by rw [HN0.out]; exact h6, by rw [HN0.out]; exact e⟩
              have hu : (L[0].up != 0) = true := by simpa using h7
              clear h6 h7 hh
              go_enter Tryz.func18, Tryz.ntmps18
              go_wp2_with fail
              go_ret
              exact ⟨TellsP.no rfl HNO.out, HB.out⟩
            · have hk : (L[0].kind != 2) = true := by simpa using h6
              clear h6 hh
              go_enter Tryz.func18, Tryz.ntmps18
              go_wp2_with fail
              go_ret
              exact ⟨TellsP.no rfl HNO.out, HB.out⟩
          · clear hh
            go_enter Tryz.func18, Tryz.ntmps18
            go_wp2_with fail
            go_ret
            exact ⟨TellsP.no rfl HNO.out, HB.out⟩
        · clear hh
          go_enter Tryz.func18, Tryz.ntmps18
          go_wp2_with fail
          go_ret
          exact ⟨TellsP.no rfl HNO.out, HB.out⟩
      · clear hh
        go_enter Tryz.func18, Tryz.ntmps18
        go_wp2_with fail
        go_ret
        exact ⟨TellsP.no rfl HNO.out, HB.out⟩
    · clear hh
      go_enter Tryz.func18, Tryz.ntmps18
      go_wp2_with fail
      go_ret
      exact ⟨TellsP.no rfl HNO.out, HB.out⟩
  · clear hh
    go_enter Tryz.func18, Tryz.ntmps18
    go_wp2_with fail
    go_ret
    exact ⟨TellsP.no rfl HNO.out, HB.out⟩
end Go.Proofs.YtmaiphibpdngnaaGreat
