/-
  From the row's condition on the variables to what the walks ask; a start that meets the condition.
-/
import Derived.Lib.LaidTab
import Derived.LaidLaws
import Derived.OpenShut
import Derived.ProofKit
import Derived.LaidMore
import Derived.Stop.Joined
import Derived.Stop.LaidErr
import Derived.SizedLaws
import Derived.ChangeMaps5
import Derived.JoinedAt
import Derived.Lay
import Derived.Test.YtclhpedecimicaaDoorRows
import Derived.Test.YtclhpedecimicaaDoorTie
import Derived.Test.YtclhpedecimicaaDoorZConst
namespace Go.Proofs.YtclhpedecimicaaDoor
set_option maxRecDepth 100000
open Go.ChangeShapes Go.WideShapes Go.ChangeAt
open Go Go.RowKit

theorem ownZ : ownKnob Tryd.prog.godebug = none := by kernel_rfl
theorem gOps : Tryd.prog.globalNamed "windlass/atok.operators" = some 0 := by kernel_rfl
theorem tOps : (Tryd.prog.globals[0]?).map (·.type) = some 75 := by kernel_rfl
theorem gESz : Tryd.prog.globalNamed "strconv.ErrSyntax" = some 1 := by kernel_rfl
theorem gERz : Tryd.prog.globalNamed "strconv.ErrRange" = some 2 := by kernel_rfl
theorem tESz : (Tryd.prog.globals[1]?).map (·.type) = some 47 := by kernel_rfl
theorem tERz : (Tryd.prog.globals[2]?).map (·.type) = some 47 := by kernel_rfl
theorem cellsEz : Tryd.prog.cellsOf 86 = 1 := by kernel_rfl
theorem cellsSz : Tryd.prog.cellsOf 9 = 1 := by kernel_rfl
theorem cellsOz : Tryd.prog.cellsOf 75 = 35 := by kernel_rfl
theorem starZ : "*" ++ "errors.errorString" = "*errors.errorString" := by decide
theorem rowEz (u : TypeId) (h : Tryd.prog.typeName? 3 u = some "*errors.errorString") : u = 84 :=
  typeName_ptr_named (nm := "errors.errorString") (by rw [starZ]; kernel_rfl) (by kernel_rfl) (by decide) u (by rw [starZ]; exact h)

/-- The condition's list. -/
abbrev laidLZ : List (String × DataW Unit) := [("math/bits.deBruijn32tab", Rows.laid_math_bits_deBruijn32tab), ("math/bits.deBruijn64tab", Rows.laid_math_bits_deBruijn64tab), ("internal/strconv.uint64pow10", Rows.laid_internal_strconv_uint64pow10), ("unicode/utf8.acceptRanges", Rows.laid_unicode_utf8_acceptRanges), ("strconv.ErrRange", Rows.laid_strconv_ErrRange), ("strconv.ErrSyntax", Rows.laid_strconv_ErrSyntax), ("windlass/atok.operators", Rows.laid_windlass_atok_operators), ("unicode/utf8.first", Rows.laid_unicode_utf8_first)]
theorem ops_data {H : Type} : (Rows.laid_windlass_atok_operators : DataW H) = .agg (opsZ.map fun o => .lit (.string o)) := by rfl

theorem of_laidZ {W : World} (h : laidMetH Tryd.prog laidLZ W) : LaidZ W := by
  rw [MakeChecks.laidMetH_plain _ _ _ (by kernel_rfl)] at h
  have h4 := h.tail.tail.tail.tail
  have h5 := h4.tail
  have h6 := h5.tail
  obtain ⟨a0, s0, hv0, -, -, -⟩ := laid_sentinel h4 gERz tERz Tryd.underlying47 rowEz Tryd.underlying84 Tryd.underlying86 rfl rfl Tryd.underlying9 cellsEz cellsSz
  obtain ⟨a1, s1, hv1, -, -, -⟩ := laid_sentinel h5 gESz tESz Tryd.underlying47 rowEz Tryd.underlying84 Tryd.underlying86 rfl rfl Tryd.underlying9 cellsEz cellsSz
  refine ⟨⟨fun i v hv => ?_⟩, ⟨_, _, by have h0 := World.var?_cell gESz hv1 0; simpa using h0⟩, ⟨_, _, by have h0 := World.var?_cell gERz hv0 0; simpa using h0⟩⟩
  obtain ⟨ps, ⟨g', t', cs, fuel, p, q, hg', ht', hvar, hd, _, _⟩, _⟩ := h6
  obtain rfl := Option.some.inj (gOps.symm.trans hg')
  obtain rfl := Option.some.inj (tOps.symm.trans ht')
  have hcell := World.var?_cell gOps hvar
  rw [hcell i]
  obtain ⟨ys, k, _, hyx, hcl, hyl, hya⟩ := DataW.trod_array Tryd.underlying75 hd
  have hys : ys.map (·.1) = opsZ.map fun o => DataW.lit (.string o) := by
    have h := congrArg Prod.fst hyx
    have h' : Rows.laid_windlass_atok_operators = .agg (ys.map (·.1)) := h
    rw [ops_data] at h'
    exact (DataW.agg.inj h').symm
  obtain ⟨o, ho, rfl⟩ : ∃ o, opsZ[i]? = some o ∧ v = sv o := by
    unfold opsC at hv
    rw [List.getElem?_map] at hv
    cases ho : opsZ[i]? with
    | none => rw [ho] at hv; cases hv
    | some o => rw [ho] at hv; cases hv; exact ⟨o, rfl, rfl⟩
  have hi : i < 35 := by have := (List.getElem?_eq_some_iff.1 ho).1; rw [ops_len] at this; exact this
  have hy := hya i hi
  rw [cellsSz, Nat.mul_one] at hy
  obtain ⟨y, hyi⟩ : ∃ y, ys[i]? = some y := ⟨_, List.getElem?_eq_getElem (by rw [hyl]; exact hi)⟩
  rw [hyi] at hy
  obtain ⟨b, hb1, hb2, -⟩ := DataW.trod_string Tryd.underlying9 hy
  have h1 : (ys.map (·.1))[i]? = some (DataW.lit (.string o)) := by rw [hys, List.getElem?_map, ho]; rfl
  rw [List.getElem?_map, hyi] at h1
  have h2 : y.1 = DataW.lit (.string o) := Option.some.inj h1
  rw [hb2] at h2
  have h3 : b.data.toList = o := by simpa using h2
  have h4 : cs.toList[i]? = some (.string b) := by
    have h5 : ((cs.toList.drop i).take 1)[0]? = some (.string b) := by rw [hb1]; rfl
    rw [List.getElem?_take_of_lt (by decide), List.getElem?_drop, Nat.add_zero] at h5
    exact h5
  rw [← Array.getElem?_toList, h4, ← h3]
/-- A heap that meets the condition. -/
theorem start_metZ (os : Os) (args : Array Value) : laidMetH Tryd.prog laidLZ ((World.laidAll Tryd.prog os laidLZ).forCall (fun _ _ => 0) ⟨#[], args, []⟩).memory := by
  rw [MakeChecks.laidMetH_plain _ _ _ (by kernel_rfl)]
  exact laidMet_laidAll _ (by kernel_rfl) (by kernel_rfl)
theorem start_shapedZ (os : Os) : (World.laidAll Tryd.prog os laidLZ).os = os := World.laidAll_os _ _ _
theorem i64_boundsZ {n : Int} (h : (Lit.int .i64 n).wf = true) : -9223372036854775808 ≤ n ∧ n ≤ 9223372036854775807 := by
  simp [Lit.wf] at h
  have e1 : IntKind.i64.min = -9223372036854775808 := rfl
  have e2 : IntKind.i64.max = 9223372036854775807 := rfl
  omega
end Go.Proofs.YtclhpedecimicaaDoor
