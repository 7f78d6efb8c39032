/-
  path's Fold, over the iterator and the stack.
-/
import Derived.Test.YtkpbeljifpokdaaDirP
namespace Go.Proofs.Ytkpbeljifpokdaa
open Go Go.RowKit Go.Shelf

attribute [local go_sem] Oper.semAt_some

theorem fold_q (a b : List UInt8) : (if wholeL b then b else joinP a b) = joinP a b := by
  split
  · rename_i h
    unfold joinP
    rw [if_pos (Or.inr h)]
  · rfl
theorem foldL_eq (a b q : List UInt8) (h : q = joinP a b) : foldL a b = 47 :: joinL (foldP (partsL q)) := by
  subst h
  unfold foldL
  rw [fold_q]
theorem foldP_snoc (pre : List (List UInt8)) (x : List UInt8) : foldP (pre ++ [x]) = stepF (foldP pre) x := by
  unfold foldP
  rw [List.foldl_append]
  rfl
theorem foldP_len (L : List (List UInt8)) : total (foldP L) ≤ total L ∧ (foldP L).length ≤ L.length := by
  have := fold_total L L.length (Nat.le_refl _)
  rw [List.take_length] at this
  exact this
theorem join_len (a b : List UInt8) : (joinP a b).length ≤ a.length + b.length + 1 := by
  unfold joinP
  split
  · omega
  · split
    · omega
    · split
      · simp
      · simp; omega

theorem join_known (a b : ByteArray) (ha : a.size ≤ 1073741824) (hb : b.size ≤ 1073741824) (q : List UInt8) (hq : q = joinP a.data.toList b.data.toList) (w : World) :
    Calls Try.prog 19 #[.string a, .string b] w fun e w' => e = .returned (.string ⟨q.toArray⟩) ∧ w = w' := by
  subst hq
  exact join_any a b ha hb w

set_option maxRecDepth 100000 in
set_option maxHeartbeats 4000000 in
theorem fold_in (F : Fence) (hF : Open F) (n : Nat) (hn : 4 ≤ n) (a b : ByteArray) (ha : a.size ≤ 67108864) (hb : b.size ≤ 67108864) (w : World) :
    CallsIn F n Try.prog 21 #[.string a, .string b] w fun e W' => e = .returned (.string ⟨(foldL a.data.toList b.data.toList).toArray⟩) ∧ Below w.heap.size w W' := by
  have hro : F.round = none := hF.ro
  have h19 : F.fn 19 := hF.fn _
  have h23 : F.fn 23 := hF.fn _
  have h26 : F.fn 26 := hF.fn _
  have h27 : F.fn 27 := hF.fn _
  have h28 : F.fn 28 := hF.fn _
  have h1 : 1 ≤ n := by omega
  have h3 : 1 ≤ n - 1 - 1 := by omega
  obtain ⟨q, hq⟩ : ∃ q, q = joinP a.data.toList b.data.toList := ⟨_, rfl⟩
  have hql := join_len a.data.toList b.data.toList
  rw [size_list, size_list, ← hq] at hql
  rw [foldL_eq _ _ q hq]
  obtain ⟨s, hsd⟩ : ∃ s : ByteArray, s = ⟨q.toArray⟩ := ⟨_, rfl⟩
  have hsl : s.size = q.length := by rw [hsd]; show q.toArray.size = _; simp
  have hsq : s.data.toList = q := by rw [hsd]
  rw [← hsq]
  have hpl := parts_le s.data.toList
  rw [size_list] at hpl
  obtain ⟨J, hJ⟩ : ∃ J, J = joinL (foldP (partsL s.data.toList)) := ⟨_, rfl⟩
  rw [← hJ]
  have htot := total_parts s.data.toList
  rw [size_list] at htot
  have hft := (foldP_len (partsL s.data.toList)).1
  have hJl : J.length ≤ 1073741825 := by rw [hJ]; have h1 := join_le (foldP (partsL s.data.toList)); omega
  have HJ := Lib.hid hJ
  clear hJ
  have HQ := Lib.hid hq
  have HSD := Lib.hid hsd
  clear hq hsd
  refine callsIn_of_wp_marks Try.func21 rfl (hF.fn _) ?_ hro
  simp only [Try.ntmps21, List.size_toArray, List.length_cons, List.length_nil, Nat.reduceAdd, Nat.reduceSub, Array.replicate_succ, Array.replicate_zero, List.push_toArray, List.append_toArray, List.nil_append, List.cons_append]
  gi_wp2_with (first | (gi_at_call 19; refine (hF.calls (join_known a b (by omega) (by omega) q HQ.out _)).mono ?_; rintro e w' ⟨rfl, rfl⟩; rw [← HSD.out]) | (gi_at_call 23; refine (names_in F hF (n - 1) _ _).mono ?_; rintro e w' ⟨rfl, rfl⟩))
  have bO := Boxed.new w 36 (.slice none 0 0)
  have bN := Boxed.new (w.alloc (.cells #[.slice none 0 0] 36)) 9 (.string s)
  rw [World.size_alloc] at bN
  have hB0 : Below w.heap.size w ((w.alloc (.cells #[.slice none 0 0] 36)).alloc (.cells #[.string s] 9)) := ((Below.refl _ w).alloc (Nat.le_refl _) _).alloc (by simp) _
  refine wpIn_rangeFunc_ownG hro h1 (gf := 33) (lb := #[.pointer (some ⟨w.heap.size + 1, 0, none⟩)]) rfl (hF.fn _) (enters_of Try.func33 (by kernel_rfl) rfl)
    (names_stops F hF (n - 1) (by omega) (w.heap.size + 1) s (by omega) _ (by simp) bN.cell) keepB_t (keepB_b (by simp)) (Below.refl _ _) (fun _ => rfl)
    (fun pre W => Stack (w.heap.size + 2) w.heap.size W (foldP pre) ∧ Boxed W (w.heap.size + 1) 9 (.string s) ∧ Below w.heap.size w W)
    (fun _ _ _ => False)
    (OwnFrom.and (Own.from (stack_ownG (w.heap.size + 2) w.heap.size foldP) _) (OwnFrom.and (Own.from (boxed_own _ _ _) _) (ownFrom_below (Nat.le_refl _) (by simp; omega))))
    (fun _ _ _ _ _ hs _ _ => hs)
    ⟨⟨_, bO.alloc _, World.ownsRow_nil _ _ _ _⟩, bN, hB0⟩
    (fun x => { tmps := #[.string a, .string b, undef, undef, .string ⟨#[]⟩, .pointer (some ⟨w.heap.size, 0, none⟩), .string ⟨x.toArray⟩, .string a, .string b, .string s, .func (.func 33) #[] #[.pointer (some ⟨w.heap.size + 1, 0, none⟩)], .string ⟨x.toArray⟩, undef, undef, undef, undef, undef, undef, undef, undef, undef, undef], defers := [] }) ?assign ?body ?done ?stop
  case assign =>
    intro l x W K hK
    gi_wp2
    exact hK
  case body =>
    rintro l pre x W ⟨hS, hp, hB⟩ hlt
    have hpz := hp.lt
    have hfl := (foldP_len pre).2
    have HS := Lib.hid hS
    clear hS
    cases c1 : (x == [46]) with
    | true =>
      have hx := Lib.hid (show stepF (foldP pre) x = foldP pre by unfold stepF; rw [if_pos (by simpa using c1)])
      gi_wp2
      exact ⟨KeepsFrom.refl _ _, rfl, by rw [foldP_snoc, hx.out]; exact HS.out, hp, hB⟩
    | false =>
      have hx1 : x ≠ [46] := by simpa using c1
      cases c2 : (x == [46, 46]) with
      | true =>
        have hx := Lib.hid (show stepF (foldP pre) x = (foldP pre).dropLast by unfold stepF; rw [if_neg hx1, if_pos (by simpa using c2)])
        clear hx1
        gi_wp2_with (gi_at_call 27; refine (CallsIn.inRound l (hF.calls (pop_any w.heap.size _ W HS.out (by omega) (by omega)))).mono ?_; rintro e w' ⟨⟨u, rfl⟩, hS', hL⟩)
        exact ⟨hL.others.from _, hL.next, by rw [foldP_snoc, hx.out]; exact hS', (show w'.heap[w.heap.size + 1]? = _ from hL.next.trans hp), hB.trans hL.below⟩
      | false =>
        have hx := Lib.hid (show stepF (foldP pre) x = foldP pre ++ [x] by unfold stepF; rw [if_neg hx1, if_neg (by simpa using c2)])
        clear hx1
        gi_wp2_with (gi_at_call 26; refine (CallsIn.inRound l (hF.calls (push_any w.heap.size x _ W HS.out (by omega) (by omega)))).mono ?_; rintro e w' ⟨⟨u, rfl⟩, hS', hL⟩)
        exact ⟨hL.others.from _, hL.next, by rw [foldP_snoc, hx.out]; exact hS', (show w'.heap[w.heap.size + 1]? = _ from hL.next.trans hp), hB.trans hL.below⟩
  case done =>
    rintro D ys W hD rfl ⟨hS, hp, hB⟩ hK
    have hpz := hp.lt
    have HS := Lib.hid hS
    clear hS bO bN hp
    gi_wp2_with (gi_at_call 28; refine (hF.calls (text_known w.heap.size _ _ HJ.out _ HS.out (by omega) (by omega))).mono ?_; rintro e w2 ⟨rfl, hb2⟩)
    have hD1 : D < W.heap.size := (Array.getElem?_eq_some_iff.1 hK).1
    have hK2 : w2.heap[D]? = some (.deferred (some [])) := (hb2.block D (by omega)).trans hK
    have hB1 := hB.size
    refine ⟨by simp, .inl ⟨_, _, rfl, run_takeDeferred hK2, ?_⟩⟩
    exact ⟨_, results_tmp rfl _ _ _, by exact congrArg (fun x => Ending.returned (.string x)) (ByteArray.mk_append_mk [47] J), (hB.trans (hb2.mono (by omega))).trans (belowK_b (w := w) (Nat.le_refl _) w2 D _ _ (by simp at hD; omega) hK2 rfl rfl)⟩
  case stop =>
    rintro D c pre W _ _ h _
    exact h.elim

/-- Fold, as the law calls it. -/
theorem fold_any (a b : ByteArray) (ha : a.size ≤ 67108864) (hb : b.size ≤ 67108864) (w : World) :
    Calls Try.prog 21 #[.string a, .string b] w fun e W' => e = .returned (.string ⟨(foldL a.data.toList b.data.toList).toArray⟩) ∧ Below w.heap.size w W' :=
  callsIn_wide.1 (fold_in Fence.wide open_wide 4 (Nat.le_refl _) a b ha hb w)
end Go.Proofs.Ytkpbeljifpokdaa
