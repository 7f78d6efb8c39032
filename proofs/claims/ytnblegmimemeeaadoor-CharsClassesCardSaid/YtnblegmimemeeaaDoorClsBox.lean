/-
  CharsClasses, walked: true, of any byte.
-/
import Derived.Test.YtnblegmimemeeaaDoorAwake
namespace Go.Proofs.YtnblegmimemeeaaDoor
open Go Go.RowKit

/-- What stands while the law runs: what was there when it began, and the byte in its box. -/
structure Bx (w0 : World) (n : Int) (w : World) : Prop where
  below : Below w0.heap.size w0 w
  box : w.heap[w0.heap.size]? = some (.cells #[.int .u8 n] 5 (0, 0))

theorem Bx.next {w0 w w' : World} {n : Int} (h : Bx w0 n w) (hb : Below w.heap.size w w') : Bx w0 n w' :=
  ⟨h.below.trans (hb.mono h.below.size), by rw [hb.block _ (lt_of_block h.box)]; exact h.box⟩

set_option maxHeartbeats 1000000 in
theorem is_any (i : Nat) (key : ByteArray) (c : Nat) (hr : (i, key, c) ∈ insRows) (v : Bool) (n : Int) (hv : clsF c n = v) (w0 w : World) (hB : Bx w0 n w) :
    Calls Tryd.prog 23 #[.string key, .pointer (some ⟨w0.heap.size, 0, none⟩)] w fun e w' => e = .returned (.bool v) ∧ Bx w0 n w' := by
  have hcell := cell_of_one hB.box
  have HB := Lib.hid hB
  have hs := insSize _ hr
  clear hB
  go_enter Tryd.func23, Tryd.ntmps23
  go_wp2_with fail
  refine (class_any key hs n _).mono ?_
  rintro e w1 ⟨b, rfl, hb, b1⟩
  have e1 := isClass_key hr hb
  simp only at e1
  rw [hv] at e1
  subst e1
  have HB1 := Lib.hid (HB.out.next b1)
  clear hb
  go_wp2_with fail
  go_ret
  exact ⟨rfl, HB1.out⟩
theorem in_alpha : (2, (⟨#[97, 108, 112, 104, 97]⟩ : ByteArray), 0) ∈ insRows := by simp [insRows]
theorem in_digit : (3, (⟨#[100, 105, 103, 105, 116]⟩ : ByteArray), 1) ∈ insRows := by simp [insRows]
theorem in_alnum : (5, (⟨#[97, 108, 110, 117, 109]⟩ : ByteArray), 2) ∈ insRows := by simp [insRows]
theorem in_upper : (7, (⟨#[117, 112, 112, 101, 114]⟩ : ByteArray), 3) ∈ insRows := by simp [insRows]
theorem in_lower : (9, (⟨#[108, 111, 119, 101, 114]⟩ : ByteArray), 4) ∈ insRows := by simp [insRows]
theorem in_space : (13, (⟨#[115, 112, 97, 99, 101]⟩ : ByteArray), 5) ∈ insRows := by simp [insRows]
theorem in_blank : (14, (⟨#[98, 108, 97, 110, 107]⟩ : ByteArray), 6) ∈ insRows := by simp [insRows]
theorem in_punct : (16, (⟨#[112, 117, 110, 99, 116]⟩ : ByteArray), 7) ∈ insRows := by simp [insRows]
theorem in_print : (18, (⟨#[112, 114, 105, 110, 116]⟩ : ByteArray), 8) ∈ insRows := by simp [insRows]
theorem in_graph : (20, (⟨#[103, 114, 97, 112, 104]⟩ : ByteArray), 9) ∈ insRows := by simp [insRows]
theorem in_cntrl : (24, (⟨#[99, 110, 116, 114, 108]⟩ : ByteArray), 10) ∈ insRows := by simp [insRows]
end Go.Proofs.YtnblegmimemeeaaDoor
