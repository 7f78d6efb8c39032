/-
  path's Parts, over the iterator.
-/
import Derived.Test.YtgmmggdjcgemfaaNames
import Derived.Test.YtgmmggdjcgemfaaTexts
namespace Go.Proofs.Ytgmmggdjcgemfaa
open Go Go.RowKit Go.Shelf

attribute [local go_sem] Oper.semAt_some

theorem own_less {w : World} {b b' : Nat} {e : TypeId} {z n : Nat} {v : Value} {xs : List Value} (h : w.ownsRow b e z v n xs) (hb : b' ≤ b) : w.ownsRow b' e z v n xs := by
  obtain ⟨h1, h2 | ⟨g, cap, cur, hv, hg, r⟩⟩ := h
  · exact ⟨h1, Or.inl h2⟩
  · exact ⟨h1, Or.inr ⟨g, cap, cur, hv, by omega, r⟩⟩

theorem parts_le (l : List UInt8) : (partsL l).length ≤ l.length + 1 := by
  have h : ∀ (l cur : List UInt8), (partsGo cur l).length ≤ l.length + 1 := by
    intro l
    induction l with
    | nil => intro cur; unfold partsGo; split <;> simp
    | cons c r ih =>
      intro cur
      unfold partsGo
      split
      · split
        · have := ih []; simp; omega
        · have := ih []; simp only [List.length_cons]; omega
      · have := ih (cur ++ [c]); simp only [List.length_cons]; omega
  exact h l []

set_option maxRecDepth 100000 in
set_option maxHeartbeats 2000000 in
theorem parts_in (F : Fence) (hF : Open F) (n : Nat) (hn : 3 ≤ n) (s : ByteArray) (hs : s.size ≤ 1073741824) (w : World) :
    CallsIn F n Try.prog 38 #[.string s] w fun e W' => ∃ v, e = .returned v ∧ Texts w.heap.size W' v (partsL s.data.toList) ∧ Below w.heap.size w W' := by
  have hro : F.round = none := hF.ro
  have h23 : F.fn 48 := hF.fn _
  have h1 : 1 ≤ n := by omega
  have hpl := parts_le s.data.toList
  rw [size_list] at hpl
  obtain ⟨i0, hi, hz0, hz1, hz2⟩ := info_parts infoS
  refine callsIn_of_wp_marks Try.func38 rfl (hF.fn _) ?_ hro
  simp only [Try.ntmps38, List.size_toArray, List.length_cons, List.length_nil, Nat.reduceAdd, Nat.reduceSub, Array.replicate_succ, Array.replicate_zero, List.push_toArray, List.append_toArray, List.nil_append, List.cons_append]
  gi_wp2_with (gi_at_call 48; refine (names_in F hF (n - 1) _ _).mono ?_; rintro e w' ⟨rfl, rfl⟩)
  have bO := Boxed.new w 43 (.slice none 0 0)
  have bN := Boxed.new (w.alloc (.cells #[.slice none 0 0] 43)) 9 (.string s)
  rw [World.size_alloc] at bN
  have hB0 : Below w.heap.size w ((w.alloc (.cells #[.slice none 0 0] 43)).alloc (.cells #[.string s] 9)) := ((Below.refl _ w).alloc (Nat.le_refl _) _).alloc (by simp) _
  refine wpIn_rangeFunc_ownG hro h1 (gf := 53) (lb := #[.pointer (some ⟨w.heap.size + 1, 0, none⟩)]) rfl (hF.fn _) (enters_of Try.func53 (by kernel_rfl) rfl)
    (names_stops F hF (n - 1) (by omega) (w.heap.size + 1) s hs _ (by simp) bN.cell) keepB_t (keepB_b (by simp)) (Below.refl _ _) (fun _ => rfl)
    (fun pre W => (∃ v, Boxed W w.heap.size 43 v ∧ W.ownsRow (w.heap.size + 2) 9 1 v pre.length (pre.map strv) ∧ True) ∧ Boxed W (w.heap.size + 1) 9 (.string s) ∧ Below w.heap.size w W)
    (fun _ _ _ => False)
    (OwnFrom.and (Own.from (holdsRow_own (w.heap.size + 2) w.heap.size 43 9 1 (fun pre : List (List UInt8) => pre.length) (fun pre => pre.map strv) (fun _ _ => True)) _) (OwnFrom.and (Own.from (boxed_own _ _ _) _) (ownFrom_below (Nat.le_refl _) (by simp; omega))))
    (fun _ _ _ _ _ hs _ _ => hs)
    ⟨⟨_, bO.alloc _, World.ownsRow_nil _ _ _ _, trivial⟩, bN, hB0⟩
    (fun x => { tmps := #[.string s, undef, .slice none 0 0, .pointer (some ⟨w.heap.size, 0, none⟩), .string ⟨x.toArray⟩, .string s, .func (.func 53) #[] #[.pointer (some ⟨w.heap.size + 1, 0, none⟩)], .string ⟨x.toArray⟩, undef, undef, undef, undef, undef], defers := [] }) ?assign ?body ?done ?stop
  case assign =>
    intro l x W K hK
    gi_wp2
    exact hK
  case body =>
    rintro l pre x W ⟨⟨v, hv, hrow, -⟩, hp, hB⟩ hlt
    have hc := hv.cell
    have hpz := hp.lt
    have hne : ∀ k, v.ownBlock = some k → k ≠ w.heap.size + 1 := fun k e => by have := (hrow.lt k e).1; omega
    gi_wp2_with (gi_at_builtin; refine wpListIn_append_own _ rfl _ _ 43 rfl (w.heap.size + 2) 9 i0 (.string ByteArray.empty) 1 16 Try.underlying43 hi hz0 hz1 hz2 rfl (by decide) _ _ _ rfl (hrow.alloc _) ⟨W.heap.size, 0, none⟩ 1 1 [.string ⟨x.toArray⟩] rfl rfl (cell_one_new _ _ _) (fun x hx => by simp at hx; subst hx; rfl) (by unfold maxLen; omega) (by omega) (by simp; omega) ?_; intro v' w1 hown' hgrow _; obtain ⟨g', cap', rfl⟩ := ownsRow_succ hown'; obtain ⟨hv1, hv2, hr2, hk2, hb2⟩ := hv.appended (by decide) (own_less hrow (Nat.le_add_right _ 2)) hB.size (Nat.le_refl _) (own_less hown' (Nat.le_add_right _ 2)) hgrow; have hc1 := hv1.cell; have hf1 := hv1.frozen)
    have hp1 := (hp.alloc (.cells #[.string ⟨x.toArray⟩] 9)).kept hgrow (fun e => hne _ e.symm rfl)
    refine ⟨hk2.from _, ?_, ⟨_, hv2, ?_, trivial⟩, hp1.other (by omega) _, hB.trans hb2⟩
    · exact ((hp1.other (B' := w.heap.size) (by omega) _).trans hp.symm)
    · simpa [strv] using hown'.kept (grownBy_setCell' _ w.heap.size _) (.inr (hv1.not_row (by decide) hown').symm)
  case done =>
    rintro D ys W hD rfl ⟨⟨v, hv, hrow, -⟩, -, hB⟩ hK
    have hc := hv.cell
    gi_wp2
    refine ⟨by simp, .inl ⟨_, _, rfl, run_takeDeferred hK, ?_⟩⟩
    exact ⟨_, results_tmp rfl _ _ _, v, rfl, ownsRow_putObj (own_less hrow (Nat.le_add_right _ 2)) _ hK rfl, hB.trans (belowK_b (w := w) (Nat.le_refl _) W D _ _ (by simp at hD; omega) hK rfl rfl)⟩
  case stop =>
    rintro D c pre W _ _ h _
    exact h.elim

/-- Parts, as the law calls it. -/
theorem parts_any (s : ByteArray) (hs : s.size ≤ 1073741824) (w : World) :
    Calls Try.prog 38 #[.string s] w fun e W' => ∃ v, e = .returned v ∧ Texts w.heap.size W' v (partsL s.data.toList) ∧ Below w.heap.size w W' :=
  callsIn_wide.1 (parts_in Fence.wide open_wide 3 (Nat.le_refl _) s hs w)
end Go.Proofs.Ytgmmggdjcgemfaa
