/-
  slices.Backward over a row of texts: each with its place, the last one first.
-/
import Derived.Test.YtgmmggdjcgemfaaNames
import Derived.Test.YtgmmggdjcgemfaaWHeld
import Derived.Test.YtgmmggdjcgemfaaRoundKit
namespace Go.Proofs.Ytgmmggdjcgemfaa
open Go Go.RowKit Go.Shelf

attribute [local go_sem] Oper.semAt_some

/-- The box and the row stand as they stood. -/
def KeepR (Bx : Nat) (v : Value) (W W' : World) : Prop := W'.heap[Bx]? = W.heap[Bx]? ∧ ∀ k, v.ownBlock = some k → W'.heap[k]? = W.heap[k]?
theorem keepR_t {Bx : Nat} {v : Value} {A B C : World} (h : KeepR Bx v A B) (k : KeepR Bx v B C) : KeepR Bx v A C := ⟨k.1.trans h.1, fun i hi => (k.2 i hi).trans (h.2 i hi)⟩
theorem keepR_b {Bx : Nat} {v : Value} {w : World} (hb : Bx < w.heap.size) (hv : ∀ k, v.ownBlock = some k → k < w.heap.size) (W : World) (l : Nat) (o o' : Obj) (hl : w.heap.size ≤ l) (_ : W.heap[l]? = some o) (_ : o.isCells = false) (_ : o.isWalk = false) : KeepR Bx v W (W.putObj l o') :=
  ⟨World.putObj_heap_other (by omega), fun k hk => World.putObj_heap_other (by have := hv k hk; omega)⟩

theorem drewN_grown (W : World) (m : Nat) : W.grownBy (W.drewN m) none := ⟨rfl, rfl, rfl, Nat.le_refl _, fun _ _ _ => rfl⟩

/-- The row and its box as they stand in a world. -/
def RowIn (Bx : Nat) (v : Value) (B : Nat) (N : List (List UInt8)) (W : World) : Prop := W.cell? ⟨Bx, 0, none⟩ = some v ∧ Held B W v N
theorem RowIn.kept {Bx B : Nat} {v : Value} {N : List (List UInt8)} {W W' : World} (h : RowIn Bx v B N W) (hk : KeepR Bx v W W') : RowIn Bx v B N W' :=
  ⟨(World.cell?_of_block (w := W) (a := ⟨Bx, 0, none⟩) hk.1).trans h.1, h.2.kept hk.2⟩

set_option maxRecDepth 100000 in
set_option maxHeartbeats 4000000 in
theorem back1_in (F : Fence) (hF : Open F) (n : Nat) (hn : 1 ≤ n) (l Bx B : Nat) (v : Value) (N : List (List UInt8)) (hN : N.length ≤ 1048576) (J Jx : List (Nat × List UInt8) → World → Prop)
    (hdr : ∀ pre W m, J pre W → J pre (W.drewN m))
    (hY : ∀ pre x W, J pre W → pre.length < N.length → YieldAt F (n - 1) Try.prog l #[.int .i64 (x.1 : Nat), .string ⟨x.2.toArray⟩] W fun e W' =>
      (e = .returned (.bool true) ∧ J (pre ++ [x]) W' ∧ KeepR Bx v W W') ∨ (e = .returned (.bool false) ∧ Jx (pre ++ [x]) W'))
    (W : World) (hR : RowIn Bx v B N W) (h0 : J [] W) :
    CallsIn F n Try.prog 50 #[.func (.yield l) #[] #[], .pointer (some ⟨Bx, 0, none⟩)] W fun e W' => (∃ u, e = .returned u) ∧
      ((∃ ys, ys.map Prod.snd = N.reverse ∧ J ys W') ∨ (∃ pre, True ∧ Jx pre W')) := by
  have hro : F.round = none := hF.ro
  obtain ⟨hc, hheld⟩ := hR
  obtain ⟨na, nc, rfl, hc1, hc2, -⟩ := hheld.view
  have HR := Lib.hid (show RowIn Bx (.slice na N.length nc) B N W from ⟨hc, hheld⟩)
  unfold maxLen at hc2
  refine callsIn_of_wp Try.func50 rfl (hF.fn _) ?_ hro
  simp only [Try.ntmps50, List.size_toArray, List.length_cons, List.length_nil, Nat.reduceAdd, Nat.reduceSub, Array.replicate_succ, Array.replicate_zero, List.push_toArray, List.append_toArray, List.nil_append, List.cons_append]
  gi_wp2
  gi_loopw [3] (fun iv wr => ∃ (k : Nat) (D : List (Nat × List UInt8)), k ≤ N.length ∧ iv = .int .i64 ((k : Int) - 1) ∧ Hid (D.map Prod.snd = (N.drop k).reverse) ∧ D.length + k = N.length ∧ Hid (J D wr) ∧ Hid (RowIn Bx (.slice na N.length nc) B N wr)) (fun iv _ => (intOf iv + 1).toNat)
  case atStart => exact ⟨N.length, [], Nat.le_refl _, by go_num, by simp [Hid], by simp, h0, HR.out⟩
  case round =>
    obtain ⟨k, D, hk, rfl, hD, hDl, hJ, hrow⟩ := hrel
    have HROW := Lib.hid hrow.out
    have hcr := hrow.out.1
    cases k with
    | zero =>
      have hfin := Lib.hid (show D.map Prod.snd = N.reverse by have := hD.out; simpa using this)
      clear hcr
      gi_wp2
      go_end0
      exact ⟨⟨_, rfl⟩, .inl ⟨D, hfin.out, hJ.out⟩⟩
    | succ k =>
      obtain ⟨na', nc', e, -, -, hcell⟩ := HROW.out.2.view
      simp only [Value.slice.injEq] at e
      obtain ⟨rfl, -, rfl⟩ := e
      obtain ⟨nb, no, rfl, hx⟩ := hcell k (by omega)
      unfold strv at hx
      have hk0 : (0 : Int) ≤ (k : Int) := by omega
      have hk1 : (k : Int) < (N.length : Int) := by omega
      have hnum : ((k + 1 : Nat) : Int) - 1 = (k : Int) := by omega
      rw [hnum]
      have HY := Lib.hid (hY D (k, N[k]) wr hJ.out (by omega))
      have hdrop := Lib.hid (show (D ++ [(k, N[k])]).map Prod.snd = (N.drop k).reverse by
        rw [List.map_append, hD.out, List.drop_eq_getElem_cons (show k < N.length by omega), List.reverse_cons]
        rfl)
      clear hcell hnum hY hD
      obtain ⟨fn, tmps, assign, body, hy, hR⟩ := HY.out
      have hy' : (Instr.yield l #[.int .i64 (k : Int), .string ⟨N[k].toArray⟩]).run Try.prog wr = .ok (.round l fn tmps assign body) wr := hy
      clear hy
      gi_wp2
      refine hR.mono ?_
      rintro e W3 (⟨rfl, hJ3, hk3⟩ | ⟨rfl, hJx3⟩)
      · have hrow3 := HROW.out.kept hk3
        have hc3 := hrow3.1
        have HR3 := Lib.hid hrow3
        have HJ3 := Lib.hid hJ3
        clear hrow3 hk3 hJ3 hcr hx
        gi_wp2
        go_roundw
        case rel => exact ⟨k, D ++ [(k, N[k])], by omega, by go_num, hdrop, by simp only [List.length_append, List.length_cons, List.length_nil]; omega, HJ3, HR3⟩
        case measure => simp [intOf] <;> omega
      · have HJX := Lib.hid hJx3
        clear hJx3 hcr hx
        gi_wp2
        refine bodyPost_ret (results_none rfl _ _ _) rfl ?_
        exact ⟨⟨_, rfl⟩, .inr ⟨_, trivial, HJX.out⟩⟩

theorem back_in (F : Fence) (hF : Open F) (n : Nat) (a : Option Addr) (len cap : Nat) (w : World) :
    CallsIn F n Try.prog 42 #[.slice a len cap] w fun e w' => e = .returned (.func (.func 50) #[] #[.pointer (some ⟨w.heap.size, 0, none⟩)]) ∧ w' = w.alloc (.cells #[.slice a len cap] 43) := by
  have hro : F.round = none := hF.ro
  refine callsIn_of_wp Try.func42 rfl (hF.fn _) ?_ hro
  simp only [Try.ntmps42, List.size_toArray, List.length_cons, List.length_nil, Nat.reduceAdd, Nat.reduceSub, Array.replicate_succ, Array.replicate_zero, List.push_toArray, List.append_toArray, List.nil_append, List.cons_append]
  gi_wp2
  go_ret
  exact ⟨rfl, rfl⟩

theorem rowIn_below {Bx B : Nat} {v : Value} {N : List (List UInt8)} {w W : World} (hb : Bx < w.heap.size) (hv : ∀ k, v.ownBlock = some k → k < w.heap.size) (hW : Below w.heap.size w W) (h : RowIn Bx v B N w) : RowIn Bx v B N W :=
  h.kept ⟨hW.block _ hb, fun k hk => hW.block _ (hv k hk)⟩

theorem back_stops (F : Fence) (hF : Open F) (n : Nat) (hn : 1 ≤ n) (Bx B : Nat) (v : Value) (N : List (List UInt8)) (hN : N.length ≤ 1048576) (w : World) (hb : Bx < w.heap.size) (hv : ∀ k, v.ownBlock = some k → k < w.heap.size) (hR : RowIn Bx v B N w) :
    SeqStopsK F n Try.prog 50 #[.pointer (some ⟨Bx, 0, none⟩)] (fun x : Nat × List UInt8 => #[Value.int .i64 (x.1 : Nat), Value.string ⟨x.2.toArray⟩]) (KeepR Bx v) (fun ys => ys.map Prod.snd = N.reverse) (fun _ => True) N.length w := fun l J Jx W hW hJ _ hY h0 =>
  back1_in F hF n hn l Bx B v N hN J Jx (fun pre W m h => hJ pre W _ none h (drewN_grown W m) (fun _ e => by cases e)) hY W (rowIn_below hb hv hW hR) h0
end Go.Proofs.Ytgmmggdjcgemfaa
