/-
  walk's leaveOut and names, of the landed code.
-/
import Derived.Test.YtgmmggdjcgemfaaWLEnter
namespace Go.Proofs.Ytgmmggdjcgemfaa
open Go Go.RowKit Go.Shelf

attribute [local go_sem] Oper.semAt_some

theorem lenter_any (n₀ g : Nat) (T : Value × Value × Value) (p0 links : Int) (st : List (List UInt8)) (p : List UInt8) (hp : p.length ≤ 100000) (hst : st.length ≤ 100000) (w : World) (hn₀ : n₀ ≤ w.heap.size) (hW : WayAt n₀ g T w p0 st links) :
    Calls Try.prog 24 #[.pointer (some ⟨g, 0, none⟩), .string ⟨p.toArray⟩] w fun e w' => (∃ u, e = .returned u) ∧ WayAt n₀ g T w' (if wholeL p then 0 else p0) (st ++ (partsL p).reverse) links ∧ Moved g w w' :=
  callsIn_wide.1 (enter_in Fence.wide rfl 4 (Nat.le_refl _) n₀ g T p0 links st p hp hst w hn₀ hW)

theorem way_set4 {n₀ g : Nat} {T : Value × Value × Value} {W : World} {p : Int} {st st' : List (List UInt8)} {links : Int} {v' : Value} (h : WayAt n₀ g T W p st links) (hv : Held n₀ W v' st') : WayAt n₀ g T (W.setCell ⟨g, 4, none⟩ v') p st' links := by
  obtain ⟨h0, v, h1, h2⟩ := h
  exact ⟨h0, v', set_heap h1 4 _, held_set hv h0 4 _⟩
theorem way_set5 {n₀ g : Nat} {T : Value × Value × Value} {W : World} {p : Int} {st : List (List UInt8)} {links : Int} (h : WayAt n₀ g T W p st links) (q : Int) : WayAt n₀ g T (W.setCell ⟨g, 5, none⟩ (.int .i64 q)) p st q := by
  obtain ⟨h0, v, h1, h2⟩ := h
  exact ⟨h0, v, set_heap h1 5 _, held_set h2 h0 5 _⟩

set_option maxHeartbeats 2000000 in
theorem lout_none (n₀ g : Nat) (T : Value × Value × Value) (p links : Int) (w : World) (hW : WayAt n₀ g T w p [] links) :
    Calls Try.prog 31 #[.pointer (some ⟨g, 0, none⟩)] w fun e w' => e = .returned (.tuple #[.string ⟨#[]⟩, .bool false]) ∧ w' = w := by
  obtain ⟨-, -, -, -, ⟨v, c4, hv⟩, -⟩ := way_cells hW
  obtain ⟨na, nc, rfl, -, -, -⟩ := hv.view
  have hg := hW.lt
  clear hW hv
  go_enter Try.func31, Try.ntmps31
  go_wp2_with fail
  go_ret2
  exact ⟨rfl, rfl⟩

set_option maxHeartbeats 2000000 in
theorem lout_some (n₀ g : Nat) (T : Value × Value × Value) (p links : Int) (x : List UInt8) (r : List (List UInt8)) (w : World) (hW : WayAt n₀ g T w p (x :: r) links) :
    Calls Try.prog 31 #[.pointer (some ⟨g, 0, none⟩)] w fun e w' => e = .returned (.tuple #[.string ⟨x.toArray⟩, .bool true]) ∧ WayAt n₀ g T w' p r links ∧ Moved g w w' := by
  obtain ⟨-, -, -, -, ⟨v, c4, hv⟩, -⟩ := way_cells hW
  have f4 := way_frozen hW 4
  have hg := hW.lt
  have HW := Lib.hid hW
  obtain ⟨nb, no, nc, rfl, hc1, hc2, hx⟩ := wrel_view hv.view
  have HT := Lib.hid hv.tail
  unfold maxLen at hc2
  obtain ⟨ta, hta⟩ : ∃ ta, (if nc = 1 then (some ⟨nb, no, none⟩ : Option Addr) else some ⟨nb, no + 1, none⟩) = ta := ⟨_, rfl⟩
  have ht2 := HT.out
  rw [hta] at ht2
  have HT2 := Lib.hid ht2
  have hi1 : (1 : Int) ≤ ((r.length : Int) + 1) := by omega
  have hi2 : ((r.length : Int) + 1) ≤ (nc : Int) := by omega
  have hi3 : (0 : Int) < ((r.length : Int) + 1) := by omega
  have hi4 : (((r.length : Int) + 1) == 0) = false := by rw [beq_eq_false_iff_ne]; omega
  clear hW hv HT ht2
  go_enter Try.func31, Try.ntmps31
  go_wp2_with fail
  go_ret2
  exact ⟨rfl, way_set4 HW.out HT2.out, Moved.set w 4 _⟩

theorem lnames_in (F : Fence) (hF : Open F) (n : Nat) (g : Nat) (w : World) :
    CallsIn F n Try.prog 43 #[.pointer (some ⟨g, 0, none⟩)] w fun e w' => e = .returned (.func (.func 51) #[] #[.pointer (some ⟨w.heap.size, 0, none⟩)]) ∧ w' = w.alloc (.cells #[.pointer (some ⟨g, 0, none⟩)] 67) := by
  have hro : F.round = none := hF.ro
  refine callsIn_of_wp Try.func43 rfl (hF.fn _) ?_ hro
  simp only [Try.ntmps43, List.size_toArray, List.length_cons, List.length_nil, Nat.reduceAdd, Nat.reduceSub, Array.replicate_succ, Array.replicate_zero, List.push_toArray, List.append_toArray, List.nil_append, List.cons_append]
  gi_wp2
  go_ret
  exact ⟨rfl, rfl⟩
end Go.Proofs.Ytgmmggdjcgemfaa
