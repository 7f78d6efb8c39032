/-
  Rows of tokens that are read: Same, of the landed code and of its reference, over two rows of the same tokens.
-/
import Derived.Laws.StructEq
import Derived.BigQuiet
import Derived.Deep.QuietTactic
import Derived.Test.YtclhpedecimicaaDoorZTokens
namespace Go.Proofs.YtclhpedecimicaaDoor
set_option maxRecDepth 100000
open Go Go.RowKit

theorem tok_guard : Tryd.prog.eqGuardType Tryd.prog.depth 34 = false := by kernel_rfl
theorem eq_tok_in (i j : Int) (a : ByteArray) (k : Int) (W : World) : (Op.equalIn 10000 34 (.agg #[.int .i64 i, .int .i64 j, .string a, .int .i64 k]) (.agg #[.int .i64 i, .int .i64 j, .string a, .int .i64 k])).run Tryd.prog W = .ok true W := by
  have hS : Tryd.prog.underlying 34 = some (.struct (Tryd.prog.fieldsOf 34)) := by kernel_rfl
  have hp : Tryd.prog.stoodInHeld 34 = false := by kernel_rfl
  have u3 := Tryd.underlying3
  have u2 := Tryd.underlying2
  have u9 := Tryd.underlying9
  have a3 := Tryd.isAgg3
  have z3 := Tryd.sizeOf3
  have a2 := Tryd.isAgg2
  have z2 := Tryd.sizeOf2
  have a9 := Tryd.isAgg9
  have z9 := Tryd.sizeOf9
  rw [show (10000 : Nat) = 9999 + 1 from rfl, run_equalIn_agg W 9999 34 _ _ hS hp]
  simp only [Program.fieldsOf, Tryd.underlying34]
  go_simp
theorem eq_tok (i j : Int) (a : ByteArray) (k : Int) (W : World) : (binOp .eql 34 (.agg #[.int .i64 i, .int .i64 j, .string a, .int .i64 k]) (.agg #[.int .i64 i, .int .i64 j, .string a, .int .i64 k])).run Tryd.prog W = .ok (.bool true) W := by
  rw [run_eql_struct, eq_tok_in]
  rfl
theorem neq_tok (i j : Int) (a : ByteArray) (k : Int) (W : World) : (binOp .neq 34 (.agg #[.int .i64 i, .int .i64 j, .string a, .int .i64 k]) (.agg #[.int .i64 i, .int .i64 j, .string a, .int .i64 k])).run Tryd.prog W = .ok (.bool false) W := by
  rw [run_neq_struct, eq_tok_in]
  rfl

/-- The slice with address a holds the tokens L. -/
def ToksIn (W : World) (a : Option Addr) (L : List Tk) : Prop :=
  ∀ i x, L[i]? = some x → ∃ b o, a = some ⟨b, o, none⟩ ∧ W.cell? ⟨b, o + i * 4, none⟩ = some (.int .i64 (x.kind : Int)) ∧ W.cell? ⟨b, o + i * 4 + 1, none⟩ = some (.int .i64 (x.num : Int)) ∧ W.cell? ⟨b, o + i * 4 + 2, none⟩ = some (sv x.text) ∧ W.cell? ⟨b, o + i * 4 + 3, none⟩ = some (.int .i64 (x.pos : Int))
theorem ToksIn.below {W W' : World} {a : Option Addr} {L : List Tk} (h : ToksIn W a L) (hb : Below W.heap.size W W') : ToksIn W' a L := fun i x hx => by
  obtain ⟨b, o, e, h0, h1, h2, h3⟩ := h i x hx
  exact ⟨b, o, e, cell_belowZ hb (Nat.le_refl _) h0, cell_belowZ hb (Nat.le_refl _) h1, cell_belowZ hb (Nat.le_refl _) h2, cell_belowZ hb (Nat.le_refl _) h3⟩
theorem rowZ_get : ∀ (L : List Tk) (i : Nat) (x : Tk), L[i]? = some x → ∀ f, f < 4 → (rowZ L)[i * 4 + f]? = (tokF x)[f]?
  | [], i, x, h, _, _ => by simp at h
  | y :: r, 0, x, h, f, hf => by
    obtain rfl : y = x := by simpa using h
    rw [rowZ, Nat.zero_mul, Nat.zero_add, List.getElem?_append_left (by exact hf)]
  | y :: r, i + 1, x, h, f, hf => by
    rw [rowZ, List.getElem?_append_right (by show 4 ≤ _; omega), show (i + 1) * 4 + f - (tokF y).length = i * 4 + f by show (i + 1) * 4 + f - 4 = _; omega]
    exact rowZ_get r i x (by simpa using h) f hf
theorem TokRow.toks {W : World} {B : Nat} {a : Option Addr} {n c : Nat} {L : List Tk} (h : TokRow W B (.slice a n c) L) : ToksIn W a L := by
  intro i x hx
  have hi := (List.getElem?_eq_some_iff.1 hx).1
  have hr := h.2
  rcases h.2.2 with ⟨-, h0⟩ | ⟨g, cap', cur, hv, hg, hc, h1, h2, h3, h4⟩
  · omega
  · simp only [Value.slice.injEq] at hv
    obtain ⟨rfl, rfl, -⟩ := hv
    have hcell : ∀ f, f < 4 → W.cell? ⟨g, 0 + i * 4 + f, none⟩ = (tokF x)[f]? := fun f hf => by
      rw [Nat.zero_add, hr.cellAt (i * 4 + f) (by omega), rowZ_get L i x hx f hf]
    exact ⟨g, 0, rfl, hcell 0 (by decide), hcell 1 (by decide), hcell 2 (by decide), hcell 3 (by decide)⟩
theorem TokRow.cap {W : World} {B : Nat} {a : Option Addr} {n c : Nat} {L : List Tk} (h : TokRow W B (.slice a n c) L) : n = L.length := by
  obtain ⟨⟨a', c', e⟩, -⟩ := h
  simp only [Value.slice.injEq] at e
  exact e.2.1

theorem drew_below (w : World) : Below w.heap.size w w.drew := ⟨rfl, rfl, rfl, Nat.le_refl _, fun _ _ => rfl⟩
set_option maxHeartbeats 4000000 in
theorem rsameZ (a b : Option Addr) (c d : Nat) (L : List Tk) (hl : L.length ≤ 200000) (w : World) (hA : ToksIn w a L) (hB : ToksIn w b L) :
    Calls Tryd.prog 12 #[.slice a L.length c, .slice b L.length d] w fun e w' => e = .returned (.bool true) ∧ Below w.heap.size w w' := by
  have HA := Lib.hid (fun W (h : Below w.heap.size w W) => hA.below h)
  have HB := Lib.hid (fun W (h : Below w.heap.size w W) => hB.below h)
  clear hA hB
  obtain ⟨n, hn⟩ : ∃ n, n = L.length := ⟨_, rfl⟩
  have HN := Lib.hid hn
  rw [← hn] at hl ⊢
  clear hn
  have hn0 : ((n : Int) != (n : Int)) = false := by simp
  go_enter Tryd.func12, Tryd.ntmps12
  go_wp2_with fail
  go_loopw [5] (fun iv wr => ∃ k : Nat, k ≤ n ∧ iv = .int .i64 k ∧ Hid (Below w.heap.size w wr)) (fun iv _ => n - (intOf iv).toNat)
  case atStart => exact ⟨0, by omega, rfl, Lib.hid (Below.refl _ _)⟩
  case round =>
    obtain ⟨k, hk, rfl, HBR⟩ := hrel
    by_cases hlt : k < n
    · obtain ⟨x, hx⟩ : ∃ x, L[k]? = some x := ⟨_, List.getElem?_eq_getElem (by rw [← HN.out]; exact hlt)⟩
      obtain ⟨b1, o1, e1, x0, x1, x2, x3⟩ := HA.out _ HBR.out k x hx
      obtain ⟨b2, o2, e2, y0, y1, y2, y3⟩ := HB.out _ HBR.out k x hx
      have hne := fun W => neq_tok (x.kind : Int) (x.num : Int) ⟨x.text.toArray⟩ (x.pos : Int) W
      have hng := tok_guard
      have c1 : (0 : Int) ≤ (k : Int) := by omega
      have c2 : (k : Int) < (n : Int) := by omega
      clear hx
      subst e1 e2
      go_wp2_with fail
      go_quiet (fail)
      go_wp2_with fail
      go_roundw
      case rel => exact ⟨k + 1, by omega, by go_num, Lib.hid (HBR.out.trans ⟨rfl, rfl, rfl, Nat.le_refl _, fun _ _ => rfl⟩)⟩
      case measure => simp [intOf] <;> omega
    · go_wp2_with fail
      go_ret
      exact ⟨rfl, HBR.out⟩

set_option maxHeartbeats 4000000 in
theorem lequalZ (a b : Option Addr) (c d : Nat) (L : List Tk) (hl : L.length ≤ 200000) (w : World) (hA : ToksIn w a L) (hB : ToksIn w b L) :
    Calls Tryd.prog 22 #[.slice a L.length c, .slice b L.length d] w fun e w' => e = .returned (.bool true) ∧ Below w.heap.size w w' := by
  have HA := Lib.hid (fun W (h : Below w.heap.size w W) => hA.below h)
  have HB := Lib.hid (fun W (h : Below w.heap.size w W) => hB.below h)
  clear hA hB
  obtain ⟨n, hn⟩ : ∃ n, n = L.length := ⟨_, rfl⟩
  have HN := Lib.hid hn
  rw [← hn] at hl ⊢
  clear hn
  have hn0 : ((n : Int) != (n : Int)) = false := by simp
  go_enter Tryd.func22, Tryd.ntmps22
  go_wp2_with fail
  go_loopw [13] (fun iv wr => ∃ k : Nat, k ≤ n ∧ iv = .int .i64 k ∧ Hid (Below w.heap.size w wr)) (fun iv _ => n - (intOf iv).toNat)
  case atStart => exact ⟨0, by omega, rfl, Lib.hid (Below.refl _ _)⟩
  case round =>
    obtain ⟨k, hk, rfl, HBR⟩ := hrel
    by_cases hlt : k < n
    · obtain ⟨x, hx⟩ : ∃ x, L[k]? = some x := ⟨_, List.getElem?_eq_getElem (by rw [← HN.out]; exact hlt)⟩
      obtain ⟨b1, o1, e1, x0, x1, x2, x3⟩ := HA.out _ HBR.out k x hx
      obtain ⟨b2, o2, e2, y0, y1, y2, y3⟩ := HB.out _ HBR.out k x hx
      have hne := fun W => neq_tok (x.kind : Int) (x.num : Int) ⟨x.text.toArray⟩ (x.pos : Int) W
      have hng := tok_guard
      have c1 : (0 : Int) ≤ (k : Int) := by omega
      have c2 : (k : Int) < (n : Int) := by omega
      clear hx
      subst e1 e2
      go_wp2_with fail
      go_quiet (fail)
      go_wp2_with fail
      go_roundw
      case rel => exact ⟨k + 1, by omega, by go_num, Lib.hid (HBR.out.trans ⟨rfl, rfl, rfl, Nat.le_refl _, fun _ _ => rfl⟩)⟩
      case measure => simp [intOf] <;> omega
    · go_wp2_with fail
      go_ret
      exact ⟨rfl, HBR.out⟩
theorem lsameZ (a b : Option Addr) (c d : Nat) (L : List Tk) (hl : L.length ≤ 200000) (w : World) (hA : ToksIn w a L) (hB : ToksIn w b L) :
    Calls Tryd.prog 13 #[.slice a L.length c, .slice b L.length d] w fun e w' => e = .returned (.bool true) ∧ Below w.heap.size w w' := by
  have C := lequalZ a b c d L hl
  go_enter Tryd.func13, Tryd.ntmps13
  go_wp2_with fail
  refine (C _ hA hB).mono ?_
  rintro e w1 ⟨rfl, hb⟩
  go_wp2_with fail
  go_ret
  exact ⟨rfl, hb⟩
end Go.Proofs.YtclhpedecimicaaDoor
