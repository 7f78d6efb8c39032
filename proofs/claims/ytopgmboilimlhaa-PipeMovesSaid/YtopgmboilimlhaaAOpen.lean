/-
  An argument that can be read as data: a struct's fields, a slice's elements.
-/
import Derived.Deep.Slices
import Derived.Deep.Fields
import Derived.Lib.SmallJoins
import Derived.SizedLaws
import Derived.ProofKit
import Derived.Test.YtopgmboilimlhaaProg
namespace Go.Proofs.Ytopgmboilimlhaa
set_option maxRecDepth 100000
open Go.ChangeShapes Go.WideShapes Go.Deep Go.Joins
open Go Go.RowKit

section
variable {H : Type} {enc : TypeId × Value → H} {w : World} {base : Nat} {spare : Nat → Bool} {held : Bool}

theorem add_none (b o n : Nat) : (⟨b, o, none⟩ : Addr).add n = ⟨b, o + n, none⟩ := by
  unfold Addr.add
  split
  · rename_i h
    rw [h]
    rfl
  · rfl

/-- One field of a struct that was read. -/
theorem part_at {e : TypeId} {fs : Array Field} {n : Nat} {cs : List Value} {x : DataW H × List MemPlace} (ht : Try.prog.underlying e = some (.struct fs)) (h : DataW.trod enc Try.prog w base spare held n e cs = some x)
    (j : Nat) (f : Field) (hf : fs[j]? = some f) (ho : f.offset = j) (hc : Try.prog.cellsOf f.type = 1) (v : Value) (hv : cs[j]? = some v) :
    ∃ (n' : Nat) (y : DataW H × List MemPlace), DataW.trod enc Try.prog w base spare held n' f.type [v] = some y ∧ ∀ z ∈ y.1.weights Try.prog f.type, z ∈ x.1.weights Try.prog e := by
  obtain ⟨xs, n', _, rfl, hl, hlen, hfs⟩ := DataW.trod_struct ht h
  have h1 := hfs j f hf
  have hj : j < fs.size := (Array.getElem?_eq_some_iff.1 hf).1
  have hjc : j < cs.length := (List.getElem?_eq_some_iff.1 hv).1
  have e1 : (cs.drop j).take 1 = [v] := by
    rw [List.drop_eq_getElem_cons hjc]
    have : cs[j] = v := (List.getElem?_eq_some_iff.1 hv).2
    simp [this]
  rw [ho, hc, e1] at h1
  have hx : xs[j]? = some (xs[j]'(by omega)) := List.getElem?_eq_getElem (by omega)
  refine ⟨n', xs[j]'(by omega), h1.trans hx, fun z hz => ?_⟩
  show z ∈ DataW.weights Try.prog e (.agg (xs.map (·.1)))
  unfold DataW.weights
  rw [ht]
  refine DataW.weights_mem_each (j := j) (t := f.type) (d := (xs[j]'(by omega)).1) ?_ ?_ z hz
  · rw [List.getElem?_map, Array.getElem?_toList, hf]
    rfl
  · rw [List.getElem?_map, hx]
    rfl

theorem weights_all {P : Program} {e : TypeId} : ∀ (l : List (DataW H)) (i : Nat) (hi : i < l.length), ∀ z ∈ l[i].weights P e, z ∈ DataW.weightsAll P e l
  | d :: r, 0, _, z, hz => by
    simp only [DataW.weightsAll, List.mem_append]
    exact Or.inl hz
  | d :: r, i + 1, hi, z, hz => by
    simp only [DataW.weightsAll, List.mem_append]
    exact Or.inr (weights_all r i (Nat.lt_of_succ_lt_succ hi) z hz)
  | [], _, hi, _, _ => absurd hi (Nat.not_lt_zero _)

/-- A slice of structs that was read, of e: each element's cells. -/
theorem slice_at {t e : TypeId} {k : Nat} {fuel : Nat} {v : Value} {x : DataW H × List MemPlace} (ht : Try.prog.underlying t = some (.slice e)) (hk : Try.prog.cellsOf e = k) (hk0 : 0 < k) (h : DataW.trod enc Try.prog w base (fun _ => true) held fuel t [v] = some x)
    (R : Nat) (hR : ∀ z ∈ x.1.weights Try.prog t, z ≤ R) :
    ∃ (a : Option Addr) (len cap : Nat), v = .slice a len cap ∧ len ≤ cap ∧ cap ≤ maxLen ∧ len * Try.prog.bytesOf e ≤ R ∧
      ∀ i, i < len → ∃ b o, a = some ⟨b, o, none⟩ ∧ ∃ (n : Nat) (cs : List Value) (y : DataW H × List MemPlace), DataW.trod enc Try.prog w base (fun _ => true) held n e cs = some y ∧ (∀ z ∈ y.1.weights Try.prog e, z ≤ R) ∧ cs.length = k ∧ ∀ j, j < k → w.cell? ⟨b, o + i * k + j, none⟩ = cs[j]? := by
  rcases open_slice ht h with ⟨hcs, rfl⟩ | ⟨a, len, cap, m, n, D, Pl, hcs, hb, hl, hm, hmm, rfl, hi⟩
  · have hv : v = .slice none 0 0 := by simpa using hcs
    exact ⟨none, 0, 0, hv, Nat.le_refl _, Nat.zero_le _, by omega, fun i hi => absurd hi (Nat.not_lt_zero _)⟩
  · have hv : v = .slice (some a) len cap := by simpa using hcs
    have hcm : m = cap := by simpa using hmm
    subst hcm
    have hw : ∀ z ∈ DataW.weights Try.prog t (.slice ((List.range len).map D) ((List.range (m - len)).map fun j => D (len + j))), z ≤ R := hR
    unfold DataW.weights at hw
    rw [ht] at hw
    have hlen : len * Try.prog.bytesOf e ≤ R := by
      have h1 := hw ((((List.range len).map D).length + ((List.range (m - len)).map fun j => D (len + j)).length) * Try.prog.bytesOf e) (by simp)
      simp only [List.length_map, List.length_range] at h1
      exact Nat.le_trans (Nat.mul_le_mul_right _ (Nat.le_add_right _ _)) h1
    refine ⟨some a, len, m, hv, hl, hm, hlen, fun i hil => ?_⟩
    obtain ⟨cs, hc, hy⟩ := hi i (by omega)
    rw [hk] at hc
    obtain ⟨_, hcl, hat⟩ := World.cells?_some hc
    have hsp : a.spot = none := by
      obtain ⟨cs0, hc0, _⟩ := hi 0 (by omega)
      rw [hk] at hc0
      obtain ⟨_, hcl0, hat0⟩ := World.cells?_some hc0
      have h1 := hat0 0 hk0
      rw [List.getElem?_eq_getElem (by omega)] at h1
      have h2 := World.cell?_spot h1
      rw [Nat.zero_mul] at h2
      simpa [Addr.add] using h2
    obtain ⟨b, o, s⟩ := a
    have hs : s = none := hsp
    subst hs
    refine ⟨b, o, rfl, n, cs, _, hy, fun z hz => ?_, hcl, fun j hj => ?_⟩
    · refine hw z ?_
      simp only [List.mem_cons, List.mem_append]
      refine Or.inr (Or.inl ?_)
      refine weights_all _ i (by simpa using hil) z ?_
      simpa using hz
    · have h1 := hat j hj
      rw [add_none, add_none] at h1
      exact h1
theorem one_int : Try.prog.cellsOf 3 = 1 := by kernel_rfl
theorem one_string : Try.prog.cellsOf 9 = 1 := by kernel_rfl
theorem some_at {l : List Value} {j : Nat} (h : j < l.length) : l[j]? = some l[j] := List.getElem?_eq_getElem h
end
end Go.Proofs.Ytopgmboilimlhaa
