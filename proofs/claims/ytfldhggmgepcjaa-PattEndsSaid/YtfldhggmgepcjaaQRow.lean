/-
  The landed code's wants: the row that a pattern is.
-/
import Derived.Test.YtfldhggmgepcjaaQTakes
namespace Go.Proofs.Ytfldhggmgepcjaa
set_option maxRecDepth 100000
open Go Go.RowKit

theorem wt_iface {w : World} {B : Nat} {v : Value} {x : Wt} (h : WtV w B v x) : ∃ t u, v = .iface t u := by
  cases x with
  | set t l => obtain ⟨oa, oc, h1, -⟩ := h; exact ⟨_, _, h1⟩
  | _ => exact ⟨_, _, h⟩
theorem as_many (W : World) (v : Value) : (Instr.typeAssert (.iface 71 v) 39 71 true).run Try.prog W = .ok (.tuple #[v, .bool true]) W := by kernel_rfl
theorem as_one (W : World) (v : Value) : (Instr.typeAssert (.iface 70 v) 39 71 true).run Try.prog W = .ok (.tuple #[.agg #[], .bool false]) W := by kernel_rfl
theorem as_span (W : World) (v : Value) : (Instr.typeAssert (.iface 85 v) 39 71 true).run Try.prog W = .ok (.tuple #[.agg #[], .bool false]) W := by kernel_rfl
theorem as_set (W : World) (v : Value) : (Instr.typeAssert (.iface 73 v) 39 71 true).run Try.prog W = .ok (.tuple #[.agg #[], .bool false]) W := by kernel_rfl
set_option maxHeartbeats 2000000 in
theorem lrepeats {w : World} {B : Nat} {v : Value} {x : Wt} (h : WtV w B v x) (W : World) : Calls Try.prog 24 #[v] W fun e w' => e = .returned (.bool x.rep) ∧ W = w' := by
  have h0 := as_many
  have h1 := as_one
  have h2 := as_span
  have h3 := as_set
  cases x with
  | set t l =>
    obtain ⟨oa, oc, rfl, -⟩ := h
    go_enter Try.func24, Try.ntmps24
    go_wp2_with fail
    go_ret
    exact ⟨rfl, rfl⟩
  | _ =>
    obtain rfl := h
    go_enter Try.func24, Try.ntmps24
    go_wp2_with fail
    go_ret
    exact ⟨rfl, rfl⟩

/-- A value's members do not lie in a block. -/
def Apart (u : Value) (g : Nat) : Prop := ∀ t b a n c, u = .iface t (.agg #[.bool b, .slice (some a) n c]) → a.block ≠ g
/-- A row of wants in memory. -/
structure RowW (w : World) (B : Nat) (oa : Option Addr) (oc : Nat) (r : List Wt) (vs : List Value) : Prop where
  own : w.ownsRow B 39 1 (.slice oa r.length oc) r.length vs
  len : vs.length = r.length
  each : ∀ (i : Nat) (x : Wt), r[i]? = some x → ∃ u, vs[i]? = some u ∧ WtV w B u x
  apart : ∀ g, oa = some ⟨g, 0, none⟩ → ∀ u ∈ vs, Apart u g
theorem RowW.below {w W : World} {B : Nat} {oa : Option Addr} {oc : Nat} {r : List Wt} {vs : List Value} (h : RowW w B oa oc r vs) (hb : Below w.heap.size w W) : RowW W B oa oc r vs :=
  ⟨own_below h.own hb, h.len, fun i x hx => by obtain ⟨u, h1, h2⟩ := h.each i x hx; exact ⟨u, h1, h2.below hb⟩, h.apart⟩
theorem RowW.weak {w : World} {B B' : Nat} {oa : Option Addr} {oc : Nat} {r : List Wt} {vs : List Value} (h : RowW w B oa oc r vs) (hb : B' ≤ B) : RowW w B' oa oc r vs :=
  ⟨own_weak h.own hb, h.len, fun i x hx => by obtain ⟨u, h1, h2⟩ := h.each i x hx; exact ⟨u, h1, h2.weak hb⟩, h.apart⟩
theorem RowW.nil (w : World) (B : Nat) : RowW w B none 0 [] [] :=
  ⟨World.ownsRow_nil _ _ _ _, rfl, fun i x h => (by cases h), fun g e => (by cases e)⟩
theorem RowW.some_of {w : World} {B : Nat} {oa : Option Addr} {oc : Nat} {r : List Wt} {vs : List Value} (h : RowW w B oa oc r vs) (hr : 0 < r.length) : ∃ g, oa = some ⟨g, 0, none⟩ ∧ B ≤ g ∧ g < w.heap.size := by
  obtain ⟨-, ⟨-, h3⟩ | ⟨g, cap, cur, a, b, c, -⟩⟩ := h.own
  · omega
  · exact ⟨g, by cases a; rfl, b, lt_of_block c⟩
/-- A value that is made later than a row lies apart from it. -/
theorem wt_apart {w : World} {B g : Nat} {u : Value} {x : Wt} (h : WtV w B u x) (hg : g < B ∨ w.heap.size ≤ g) : Apart u g := by
  intro t b a n c e
  cases x with
  | set t l =>
    obtain ⟨oa, oc, h1, h2⟩ := h
    rw [h1] at e
    cases e
    obtain ⟨-, ⟨h3, -⟩ | ⟨g', cap, cur, h3, h4, h5, -⟩⟩ := h2
    · cases h3
    · cases h3
      have := lt_of_block h5
      show g' ≠ g
      omega
  | one => have h1 : u = _ := h; rw [h1] at e; cases e
  | many => have h1 : u = _ := h; rw [h1] at e; cases e
  | span p q => have h1 : u = _ := h; rw [h1] at e; cases e

/-- A want that grows with a row stays. -/
theorem wt_grown {wn w6 : World} {ob : Obj} {B : Nat} {u : Value} {x : Wt} {row : Option Nat} (h : WtV wn B u x) (hg : (wn.alloc ob).grownBy w6 row) (ha : ∀ g, row = some g → Apart u g) : WtV w6 B u x := by
  cases x with
  | set t l =>
    obtain ⟨oa, oc, h1, h2⟩ := h
    refine ⟨oa, oc, h1, (h2.alloc ob).kept hg ?_⟩
    cases oa with
    | none => exact Or.inl rfl
    | some a =>
      refine Or.inr fun e => ?_
      exact ha a.block e.symm _ _ _ _ _ h1 rfl
  | _ => exact h
end Go.Proofs.Ytfldhggmgepcjaa
