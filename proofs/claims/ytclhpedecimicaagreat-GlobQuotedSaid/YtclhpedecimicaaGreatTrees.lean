/-
  Trees as they lie in memory: inodes, names of a directory; and what a world that grows leaves of them.
-/
import Derived.WalkKit
import Derived.Lib.Hide
import Derived.Test.YtclhpedecimicaaGreatProg
namespace Go.Proofs.YtclhpedecimicaaGreat
set_option maxRecDepth 100000
open Go Go.RowKit

/-- An inode; a tree. -/
structure Ino where
  kind : Int
  mode : Int
  links : Int
  data : List UInt8
  kids : List (List UInt8 × Int)
  up : Int
structure Tre where
  nodes : List Ino
  maxN : Int
  maxB : Int

/-- The slice v holds the names L. -/
def KidsIn (W : World) (v : Value) (L : List (List UInt8 × Int)) : Prop :=
  ∃ a cap, v = .slice a L.length cap ∧ L.length ≤ cap ∧ cap ≤ maxLen ∧
    ∀ i (hi : i < L.length), ∃ b o, a = some ⟨b, o, none⟩ ∧ W.cell? ⟨b, o + i * 2, none⟩ = some (.string ⟨L[i].1.toArray⟩) ∧ W.cell? ⟨b, o + i * 2 + 1, none⟩ = some (.int .i64 L[i].2)

/-- At block b, place o, lies the inode x. -/
structure NodeIn (W : World) (b o : Nat) (x : Ino) : Prop where
  kind : W.cell? ⟨b, o, none⟩ = some (.int .i64 x.kind)
  mode : W.cell? ⟨b, o + 1, none⟩ = some (.int .i64 x.mode)
  links : W.cell? ⟨b, o + 2, none⟩ = some (.int .i64 x.links)
  data : W.cell? ⟨b, o + 3, none⟩ = some (.string ⟨x.data.toArray⟩)
  kids : ∃ v, W.cell? ⟨b, o + 4, none⟩ = some v ∧ KidsIn W v x.kids
  up : W.cell? ⟨b, o + 5, none⟩ = some (.int .i64 x.up)

/-- The slice with address a holds the inodes L. -/
def NodesIn (W : World) (a : Option Addr) (cap : Nat) (L : List Ino) : Prop :=
  L.length ≤ cap ∧ cap ≤ maxLen ∧ ∀ i (hi : i < L.length), ∃ b o, a = some ⟨b, o, none⟩ ∧ NodeIn W b (o + i * 6) L[i]

def TreeIn (W : World) (v : Value) (T : Tre) : Prop :=
  ∃ a cap, v = .agg #[.slice a T.nodes.length cap, .int .i64 T.maxN, .int .i64 T.maxB] ∧ NodesIn W a cap T.nodes

theorem cell_lt {W : World} {a : Addr} {v : Value} (hc : W.cell? a = some v) : a.block < W.heap.size := by
  unfold World.cell? at hc
  cases hb : W.heap[a.block]? with
  | none => rw [hb] at hc; cases hc
  | some o => exact (Array.getElem?_eq_some_iff.1 hb).1
theorem cell_below {W W' : World} {a : Addr} {v : Value} (h : Below W.heap.size W W') (hc : W.cell? a = some v) : W'.cell? a = some v := by
  have hlt : a.block < W.heap.size := by
    unfold World.cell? at hc
    cases hb : W.heap[a.block]? with
    | none => rw [hb] at hc; cases hc
    | some o => exact (Array.getElem?_eq_some_iff.1 hb).1
  rw [World.cell?_of_block (h.block _ hlt)]
  exact hc

theorem KidsIn.below {W W' : World} {v : Value} {L : List (List UInt8 × Int)} (h : KidsIn W v L) (hb : Below W.heap.size W W') : KidsIn W' v L := by
  obtain ⟨a, cap, h1, h2, h3, h4⟩ := h
  refine ⟨a, cap, h1, h2, h3, fun i hi => ?_⟩
  obtain ⟨b, o, e1, e2, e3⟩ := h4 i hi
  exact ⟨b, o, e1, cell_below hb e2, cell_below hb e3⟩
theorem NodeIn.below {W W' : World} {b o : Nat} {x : Ino} (h : NodeIn W b o x) (hb : Below W.heap.size W W') : NodeIn W' b o x := by
  obtain ⟨v, h1, h2⟩ := h.kids
  exact ⟨cell_below hb h.kind, cell_below hb h.mode, cell_below hb h.links, cell_below hb h.data, ⟨v, cell_below hb h1, h2.below hb⟩, cell_below hb h.up⟩
theorem NodesIn.below {W W' : World} {a : Option Addr} {cap : Nat} {L : List Ino} (h : NodesIn W a cap L) (hb : Below W.heap.size W W') : NodesIn W' a cap L := by
  refine ⟨h.1, h.2.1, fun i hi => ?_⟩
  obtain ⟨b, o, e1, e2⟩ := h.2.2 i hi
  exact ⟨b, o, e1, e2.below hb⟩
theorem TreeIn.below {W W' : World} {v : Value} {T : Tre} (h : TreeIn W v T) (hb : Below W.heap.size W W') : TreeIn W' v T := by
  obtain ⟨a, cap, h1, h2⟩ := h
  exact ⟨a, cap, h1, h2.below hb⟩

/-- A box that is laid. -/
theorem below_box (W : World) (o : Obj) : Below W.heap.size W (W.alloc o) := (Below.refl _ W).alloc (Nat.le_refl _) _

theorem new_block (w : World) (o : Obj) : (w.alloc o).heap[w.heap.size]? = some o := by show (w.heap.push o)[w.heap.size]? = some o; simp

/-- What a box of three holds, wherever the world has grown. -/
theorem box3 {w W' : World} {x y z : Value} {t : TypeId} (h : Below (w.alloc (.cells #[x, y, z] t)).heap.size (w.alloc (.cells #[x, y, z] t)) W') :
    W'.cell? ⟨w.heap.size, 0, none⟩ = some x ∧ W'.cell? ⟨w.heap.size, 1, none⟩ = some y ∧ W'.cell? ⟨w.heap.size, 2, none⟩ = some z :=
  ⟨cell_below h (by simp only [World.cell?, new_block]; rfl), cell_below h (by simp only [World.cell?, new_block]; rfl), cell_below h (by simp only [World.cell?, new_block]; rfl)⟩

/-- How many inodes are used, how many bytes. -/
def usedN : List Ino → Nat
  | [] => 0
  | x :: r => (if x.kind = 0 then 0 else 1) + usedN r
def usedB : List Ino → Nat
  | [] => 0
  | x :: r => x.data.length + usedB r
theorem usedN_snoc : ∀ (L : List Ino) (x : Ino), usedN (L ++ [x]) = usedN L + (if x.kind = 0 then 0 else 1)
  | [], x => by simp [usedN]
  | y :: r, x => by simp only [List.cons_append, usedN, usedN_snoc r x]; omega
theorem usedB_snoc : ∀ (L : List Ino) (x : Ino), usedB (L ++ [x]) = usedB L + x.data.length
  | [], x => by simp [usedB]
  | y :: r, x => by simp only [List.cons_append, usedB, usedB_snoc r x]; omega
theorem usedN_le : ∀ (L : List Ino), usedN L ≤ L.length
  | [] => Nat.le_refl _
  | x :: r => by
    have := usedN_le r
    simp only [usedN, List.length_cons]
    split <;> omega
theorem usedB_take (L : List Ino) (k : Nat) : usedB (L.take k) ≤ usedB L := by
  induction L generalizing k with
  | nil => simp [usedB]
  | cons x r ih =>
    cases k with
    | zero => simp [usedB]
    | succ k => simp only [List.take_succ_cons, usedB]; have := ih k; omega
theorem usedN_take (L : List Ino) (k : Nat) : usedN (L.take k) ≤ k := Nat.le_trans (usedN_le _) (List.length_take_le _ _)

def thereB (L : List Ino) (k : Int) : Bool := decide (0 ≤ k) && decide (k < L.length)

set_option maxHeartbeats 1000000 in
theorem rthere_any (a : Option Addr) (cap n : Nat) (m b k : Int) (w : World) :
    Calls Tryz.prog 27 #[.agg #[.slice a n cap, .int .i64 m, .int .i64 b], .int .i64 k] w fun e w' => e = .returned (.bool (decide (0 ≤ k) && decide (k < n))) ∧ Below w.heap.size w w' := by
  go_enter Tryz.func27, Tryz.ntmps27
  go_wp2_with fail
  · rename_i h
    go_ret
    exact ⟨by rw [decide_eq_true h]; rfl, below_box _ _⟩
  · rename_i h
    go_ret
    exact ⟨by rw [decide_eq_false (by omega)]; rfl, below_box _ _⟩
theorem str_len (l : List UInt8) : (⟨l.toArray⟩ : ByteArray).size = l.length := by show l.toArray.size = _; simp

/-- What a box of six holds, wherever the world has grown. -/
theorem box6 {w W' : World} {x0 x1 x2 x3 x4 x5 : Value} {t : TypeId} (h : Below (w.alloc (.cells #[x0, x1, x2, x3, x4, x5] t)).heap.size (w.alloc (.cells #[x0, x1, x2, x3, x4, x5] t)) W') :
    W'.cell? ⟨w.heap.size, 0, none⟩ = some x0 ∧ W'.cell? ⟨w.heap.size, 1, none⟩ = some x1 ∧ W'.cell? ⟨w.heap.size, 2, none⟩ = some x2 ∧ W'.cell? ⟨w.heap.size, 3, none⟩ = some x3 ∧ W'.cell? ⟨w.heap.size, 4, none⟩ = some x4 ∧ W'.cell? ⟨w.heap.size, 5, none⟩ = some x5 :=
  ⟨cell_below h (by simp only [World.cell?, new_block]; rfl), cell_below h (by simp only [World.cell?, new_block]; rfl), cell_below h (by simp only [World.cell?, new_block]; rfl), cell_below h (by simp only [World.cell?, new_block]; rfl), cell_below h (by simp only [World.cell?, new_block]; rfl), cell_below h (by simp only [World.cell?, new_block]; rfl)⟩

end Go.Proofs.YtclhpedecimicaaGreat
