/-
  Arguments that are rows of texts, and rows of bytes.
-/
import Derived.Test.YtopgmboilimlhaaAOpen
namespace Go.Proofs.Ytopgmboilimlhaa
set_option maxRecDepth 100000
open Go.ChangeShapes Go.WideShapes Go.Deep Go.Joins
open Go Go.RowKit

/-- A row of texts, as it lies in memory. -/
def TextsIn (w : World) (v : Value) (X : List ByteArray) : Prop :=
  ∃ (a : Option Addr) (cap : Nat), v = .slice a X.length cap ∧ X.length ≤ cap ∧ cap ≤ maxLen ∧ ∀ i (hi : i < X.length), ∃ b o, a = some ⟨b, o, none⟩ ∧ w.cell? ⟨b, o + i, none⟩ = some (.string X[i])
/-- A row of bytes, as it lies in memory. -/
def BytesIn (w : World) (v : Value) (X : List UInt8) : Prop :=
  ∃ (a : Option Addr) (cap : Nat), v = .slice a X.length cap ∧ X.length ≤ cap ∧ cap ≤ maxLen ∧ ∀ i (hi : i < X.length), ∃ b o, a = some ⟨b, o, none⟩ ∧ w.cell? ⟨b, o + i, none⟩ = some (.int .u8 (X[i].toNat : Int))

section
variable {H : Type} {enc : TypeId × Value → H} {w : World} {base : Nat} {held : Bool}

theorem one_u8 : Try.prog.cellsOf 5 = 1 := by kernel_rfl
/-- Elements one by one make a row. -/
theorem row_of {T : Type} {a : Option Addr} {P : T → Value} {G : T → Prop} : ∀ (len : Nat), (∀ i, i < len → ∃ x : T, G x ∧ ∃ b o, a = some ⟨b, o, none⟩ ∧ w.cell? ⟨b, o + i, none⟩ = some (P x)) →
    ∃ X : List T, X.length = len ∧ (∀ x ∈ X, G x) ∧ ∀ i (hi : i < X.length), ∃ b o, a = some ⟨b, o, none⟩ ∧ w.cell? ⟨b, o + i, none⟩ = some (P X[i])
  | 0, _ => ⟨[], rfl, (fun _ h => by cases h), fun i hi => absurd hi (Nat.not_lt_zero _)⟩
  | len + 1, h => by
    obtain ⟨X, h1, h2, h3⟩ := row_of len (fun i hi => h i (by omega))
    obtain ⟨x, hx, hc⟩ := h len (Nat.lt_succ_self _)
    refine ⟨X ++ [x], by simp [h1], fun e he => ?_, fun i hi => ?_⟩
    · rcases List.mem_append.1 he with he | he
      · exact h2 e he
      · simp only [List.mem_singleton] at he
        subst he
        exact hx
    · by_cases hil : i < X.length
      · rw [List.getElem_append_left hil]
        exact h3 i hil
      · have e : i = X.length := by simp at hi; omega
        subst e
        rw [List.getElem_concat_length rfl, h1]
        exact hc
theorem open_texts {v : Value} {d : DataW H} {p : List MemPlace} {r : Go.Reach} {b0 : Nat} (hv : Value.okWide Try.prog w r b0 41 v) (h : DataW.Trod enc Try.prog w base (fun _ => true) held 41 v d p) (R : Nat) (hR : ∀ z ∈ d.weights Try.prog 41, z ≤ R) :
    ∃ X : List ByteArray, TextsIn w v X ∧ ∀ s ∈ X, s.size ≤ R := by
  obtain ⟨fuel, hf⟩ := h
  have hf2 : DataW.trod enc Try.prog w base (fun _ => true) held fuel 41 [v] = some (d, p) := by
    have hc : v.cells.toList = [v] := by
      obtain ⟨a, l, c, rfl⟩ := okWide_slice Try.underlying41 hv
      rfl
    rw [hc] at hf
    exact hf
  obtain ⟨a, len, cap, rfl, hl, hm, -, hi⟩ := slice_at Try.underlying41 one_string (by decide) hf2 R hR
  obtain ⟨X, h1, h2, h3⟩ := row_of (w := w) (a := a) (P := fun s : ByteArray => Value.string s) (G := fun s => s.size ≤ R) len (fun i hil => by
    obtain ⟨b, o, ha, n, cs, y, hy, hyR, hcl, hc⟩ := hi i hil
    have c0 := hc 0 (by decide)
    rw [some_at (show 0 < cs.length by omega)] at c0
    obtain ⟨c, rfl⟩ : ∃ c, cs = [c] := by
      match cs, hcl with
      | [c], _ => exact ⟨c, rfl⟩
    obtain ⟨s, e0, rfl, hs⟩ := DataW.trod_string Try.underlying9 hy
    simp only [List.cons.injEq, and_true] at e0
    subst e0
    refine ⟨s, ?_, b, o, ha, by simpa using c0⟩
    have h4 := hyR s.data.toList.length (by simp [DataW.weights])
    rw [Array.length_toList] at h4
    exact h4)
  subst h1
  exact ⟨X, ⟨a, cap, rfl, hl, hm, h3⟩, h2⟩
theorem open_bytes {v : Value} {d : DataW H} {p : List MemPlace} {r : Go.Reach} {b0 : Nat} (hv : Value.okWide Try.prog w r b0 42 v) (h : DataW.Trod enc Try.prog w base (fun _ => true) held 42 v d p) (R : Nat) (hR : ∀ z ∈ d.weights Try.prog 42, z ≤ R) :
    ∃ X : List UInt8, BytesIn w v X := by
  obtain ⟨fuel, hf⟩ := h
  have hf2 : DataW.trod enc Try.prog w base (fun _ => true) held fuel 42 [v] = some (d, p) := by
    have hc : v.cells.toList = [v] := by
      obtain ⟨a, l, c, rfl⟩ := okWide_slice Try.underlying42 hv
      rfl
    rw [hc] at hf
    exact hf
  obtain ⟨a, len, cap, rfl, hl, hm, -, hi⟩ := slice_at Try.underlying42 one_u8 (by decide) hf2 R hR
  obtain ⟨X, h1, h2, h3⟩ := row_of (w := w) (a := a) (P := fun x : UInt8 => Value.int .u8 (x.toNat : Int)) (G := fun _ => True) len (fun i hil => by
    obtain ⟨b, o, ha, n, cs, y, hy, -, hcl, hc⟩ := hi i hil
    have c0 := hc 0 (by decide)
    rw [some_at (show 0 < cs.length by omega)] at c0
    obtain ⟨c, rfl⟩ : ∃ c, cs = [c] := by
      match cs, hcl with
      | [c], _ => exact ⟨c, rfl⟩
    obtain ⟨z, e0, rfl, hw⟩ := DataW.trod_int Try.underlying5 hy
    simp only [List.cons.injEq, and_true] at e0
    subst e0
    have hz : 0 ≤ z ∧ z ≤ 255 := by
      have h5 := hw
      simp [Lit.wf, IntKind.min, IntKind.max, IntKind.signed, IntKind.bits] at h5
      omega
    refine ⟨z.toNat.toUInt8, trivial, b, o, ha, ?_⟩
    have e : ((z.toNat.toUInt8).toNat : Int) = z := by
      have : z.toNat.toUInt8.toNat = z.toNat % 256 := by simp
      rw [this]
      omega
    rw [e]
    simpa using c0)
  subst h1
  exact ⟨X, ⟨a, cap, rfl, hl, hm, h3⟩⟩
end
end Go.Proofs.Ytopgmboilimlhaa
