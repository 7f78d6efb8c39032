/-
  path's Base, over the iterator.
-/
import Derived.Test.YtkpbeljifpokdaaParts
import Derived.Test.YtkpbeljifpokdaaJoinName
namespace Go.Proofs.Ytkpbeljifpokdaa
open Go Go.RowKit Go.Shelf

attribute [local go_sem] Oper.semAt_some

theorem base_eq (l : List UInt8) : (partsL l).getLastD (rootL l) = baseL l := by
  unfold baseL
  split
  · rename_i h
    rw [h]
    rfl
  · rename_i h
    rw [List.getLastD_eq_getLast?, List.getLastD_eq_getLast?]
    cases hl : (partsL l).getLast? with
    | none => exact absurd (List.getLast?_eq_none_iff.1 hl) h
    | some x => rfl
theorem getLastD_snoc {α : Type} (L : List α) (x d : α) : (L ++ [x]).getLastD d = x := by simp [List.getLastD_eq_getLast?]

set_option maxRecDepth 100000 in
set_option maxHeartbeats 2000000 in
theorem base_in (F : Fence) (hF : Open F) (n : Nat) (hn : 3 ≤ n) (s : ByteArray) (hs : s.size ≤ 1073741824) (w : World) :
    CallsIn F n Try.prog 13 #[.string s] w fun e W' => e = .returned (.string ⟨(baseL s.data.toList).toArray⟩) ∧ Below w.heap.size w W' := by
  rw [← base_eq]
  have hro : F.round = none := hF.ro
  have h23 : F.fn 23 := hF.fn _
  have h24 : F.fn 24 := hF.fn _
  have h1 : 1 ≤ n := by omega
  refine callsIn_of_wp_marks Try.func13 rfl (hF.fn _) ?_ hro
  simp only [Try.ntmps13, List.size_toArray, List.length_cons, List.length_nil, Nat.reduceAdd, Nat.reduceSub, Array.replicate_succ, Array.replicate_zero, List.push_toArray, List.append_toArray, List.nil_append, List.cons_append]
  gi_wp2_with (first | (gi_at_call 24; refine (hF.calls (root_any _ _)).mono ?_; rintro e w' ⟨rfl, rfl⟩) | (gi_at_call 23; refine (names_in F hF (n - 1) _ _).mono ?_; rintro e w' ⟨rfl, rfl⟩))
  have bO := Boxed.new w 9 (.string ⟨(rootL s.data.toList).toArray⟩)
  have bN := Boxed.new (w.alloc (.cells #[.string ⟨(rootL s.data.toList).toArray⟩] 9)) 9 (.string s)
  rw [World.size_alloc] at bN
  have hB0 : Below w.heap.size w ((w.alloc (.cells #[.string ⟨(rootL s.data.toList).toArray⟩] 9)).alloc (.cells #[.string s] 9)) := ((Below.refl _ w).alloc (Nat.le_refl _) _).alloc (by simp) _
  refine wpIn_rangeFunc_ownG hro h1 (gf := 33) (lb := #[.pointer (some ⟨w.heap.size + 1, 0, none⟩)]) rfl (hF.fn _) (enters_of Try.func33 (by kernel_rfl) rfl)
    (names_stops F hF (n - 1) (by omega) (w.heap.size + 1) s hs _ (by simp) bN.cell) keepB_t (keepB_b (by simp)) (Below.refl _ _) (fun _ => rfl)
    (fun pre W => Boxed W w.heap.size 9 (.string ⟨(pre.getLastD (rootL s.data.toList)).toArray⟩) ∧ Boxed W (w.heap.size + 1) 9 (.string s) ∧ Below w.heap.size w W)
    (fun _ _ _ => False)
    (OwnFrom.and (Own.from (boxed_own w.heap.size 9 (fun pre : List (List UInt8) => .string ⟨(pre.getLastD (rootL s.data.toList)).toArray⟩)) _) (OwnFrom.and (Own.from (boxed_own _ _ _) _) (ownFrom_below (Nat.le_refl _) (by simp; omega))))
    (fun _ _ _ _ _ hs _ _ => hs)
    ⟨bO.alloc _, bN, hB0⟩
    (fun x => { tmps := #[.string s, undef, .string ⟨#[]⟩, .pointer (some ⟨w.heap.size, 0, none⟩), .string ⟨x.toArray⟩, .string s, .string ⟨(rootL s.data.toList).toArray⟩, .string s, .func (.func 33) #[] #[.pointer (some ⟨w.heap.size + 1, 0, none⟩)], .string ⟨x.toArray⟩, undef, undef], defers := [] }) ?assign ?body ?done ?stop
  case assign =>
    intro l x W K hK
    gi_wp2
    exact hK
  case body =>
    rintro l pre x W ⟨hv, hp, hB⟩ -
    have hc := hv.cell
    have hf := hv.frozen
    gi_wp2
    refine ⟨(KeepsOthers.setCell _ _ _).from _, ?_, ?_, hp.other (by omega) _, hB.setCell (p := ⟨w.heap.size, 0, none⟩) (Nat.le_refl _) _⟩
    · exact (hp.other (B' := w.heap.size) (by omega) _).trans hp.symm
    · rw [getLastD_snoc]
      exact hv.set _
  case done =>
    rintro D ys W hD rfl ⟨hv, -, hB⟩ hK
    have hc := hv.cell
    gi_wp2
    refine ⟨by simp, .inl ⟨_, _, rfl, run_takeDeferred hK, ?_⟩⟩
    exact ⟨_, results_tmp rfl _ _ _, by rw [List.getLastD_eq_getLast?]; rfl, hB.trans (belowK_b (w := w) (Nat.le_refl _) W D _ _ (by simp at hD; omega) hK rfl rfl)⟩
  case stop =>
    rintro D c pre W _ _ h _
    exact h.elim

/-- Base, as the law calls it. -/
theorem base_any (s : ByteArray) (hs : s.size ≤ 1073741824) (w : World) :
    Calls Try.prog 13 #[.string s] w fun e W' => e = .returned (.string ⟨(baseL s.data.toList).toArray⟩) ∧ Below w.heap.size w W' :=
  callsIn_wide.1 (base_in Fence.wide open_wide 3 (Nat.le_refl _) s hs w)
end Go.Proofs.Ytkpbeljifpokdaa
