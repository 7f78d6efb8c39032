/-
  path's Dir, over the iterator and the stack.
-/
import Derived.Test.YtkpbeljifpokdaaStack
import Derived.Test.YtkpbeljifpokdaaBaseP
import Derived.Test.YtkpbeljifpokdaaPathPlain
namespace Go.Proofs.Ytkpbeljifpokdaa
open Go Go.RowKit Go.Shelf

attribute [local go_sem] Oper.semAt_some

theorem stack_own (n₀ B : Nat) : Own (fun (pre : List (List UInt8)) W => Stack n₀ B W pre) := fun s X Y row ⟨v, hv, hr⟩ hg hrow => by
  obtain ⟨v', h1, h2, -⟩ := holdsRow_own n₀ B 36 9 1 (fun pre : List (List UInt8) => pre.length) (fun pre => pre.map strv) (fun _ _ => True) s X Y row ⟨v, hv, hr, trivial⟩ hg hrow
  exact ⟨v', h1, h2⟩
theorem stack_ownG (n₀ B : Nat) (f : List (List UInt8) → List (List UInt8)) : Own (fun (pre : List (List UInt8)) W => Stack n₀ B W (f pre)) := fun s X Y row h hg hrow => stack_own n₀ B (f s) X Y row h hg hrow

theorem text_known (B : Nat) (L : List (List UInt8)) (J : List UInt8) (hJ : J = joinL L) (W : World) (hS : Stack (B + 2) B W L) (hB2 : B + 2 ≤ W.heap.size) (hlen : total L ≤ 1099511627776) :
    Calls Try.prog 28 #[.pointer (some ⟨B, 0, none⟩)] W fun e W' => e = .returned (.string ⟨J.toArray⟩) ∧ Below W.heap.size W W' := by
  subst hJ
  exact text_any B L W hS hB2 hlen
theorem root_t (s : ByteArray) (h : wholeL s.data.toList = true) (w : World) : Calls Try.prog 24 #[.string s] w fun e w' => e = .returned (.string ⟨#[47]⟩) ∧ w = w' := by
  have := root_any s w
  unfold rootL at this
  rw [h] at this
  exact this
theorem root_f (s : ByteArray) (h : wholeL s.data.toList = false) (w : World) : Calls Try.prog 24 #[.string s] w fun e w' => e = .returned (.string ⟨#[]⟩) ∧ w = w' := by
  have := root_any s w
  unfold rootL at this
  rw [h] at this
  exact this
theorem none_cat (x : ByteArray) : (⟨#[]⟩ : ByteArray) ++ x = x := by
  rcases x with ⟨⟨l⟩⟩
  rw [ByteArray.mk_append_mk]
  simp

set_option maxRecDepth 100000 in
set_option maxHeartbeats 4000000 in
theorem dir_in (F : Fence) (hF : Open F) (n : Nat) (hn : 4 ≤ n) (s : ByteArray) (hs : s.size ≤ 536870912) (w : World) :
    CallsIn F n Try.prog 15 #[.string s] w fun e W' => e = .returned (.string ⟨(dirL s.data.toList).toArray⟩) ∧ Below w.heap.size w W' := by
  have hro : F.round = none := hF.ro
  have h23 : F.fn 23 := hF.fn _
  have h24 : F.fn 24 := hF.fn _
  have h26 : F.fn 26 := hF.fn _
  have h27 : F.fn 27 := hF.fn _
  have h28 : F.fn 28 := hF.fn _
  have h1 : 1 ≤ n := by omega
  have h3 : 1 ≤ n - 1 - 1 := by omega
  have hpl := parts_le s.data.toList
  rw [size_list] at hpl
  refine callsIn_of_wp_marks Try.func15 rfl (hF.fn _) ?_ hro
  simp only [Try.ntmps15, List.size_toArray, List.length_cons, List.length_nil, Nat.reduceAdd, Nat.reduceSub, Array.replicate_succ, Array.replicate_zero, List.push_toArray, List.append_toArray, List.nil_append, List.cons_append]
  gi_wp2_with (gi_at_call 23; refine (names_in F hF (n - 1) _ _).mono ?_; rintro e w' ⟨rfl, rfl⟩)
  have bO := Boxed.new w 36 (.slice none 0 0)
  have bN := Boxed.new (w.alloc (.cells #[.slice none 0 0] 36)) 9 (.string s)
  rw [World.size_alloc] at bN
  have hB0 : Below w.heap.size w ((w.alloc (.cells #[.slice none 0 0] 36)).alloc (.cells #[.string s] 9)) := ((Below.refl _ w).alloc (Nat.le_refl _) _).alloc (by simp) _
  refine wpIn_rangeFunc_ownG hro h1 (gf := 33) (lb := #[.pointer (some ⟨w.heap.size + 1, 0, none⟩)]) rfl (hF.fn _) (enters_of Try.func33 (by kernel_rfl) rfl)
    (names_stops F hF (n - 1) (by omega) (w.heap.size + 1) s (by omega) _ (by simp) bN.cell) keepB_t (keepB_b (by simp)) (Below.refl _ _) (fun _ => rfl)
    (fun pre W => Stack (w.heap.size + 2) w.heap.size W pre ∧ Boxed W (w.heap.size + 1) 9 (.string s) ∧ Below w.heap.size w W)
    (fun _ _ _ => False)
    (OwnFrom.and (Own.from (stack_own (w.heap.size + 2) w.heap.size) _) (OwnFrom.and (Own.from (boxed_own _ _ _) _) (ownFrom_below (Nat.le_refl _) (by simp; omega))))
    (fun _ _ _ _ _ hs _ _ => hs)
    ⟨⟨_, bO.alloc _, World.ownsRow_nil _ _ _ _⟩, bN, hB0⟩
    (fun x => { tmps := #[.string s, undef, .string ⟨#[]⟩, .pointer (some ⟨w.heap.size, 0, none⟩), .string ⟨x.toArray⟩, undef, .string s, .func (.func 33) #[] #[.pointer (some ⟨w.heap.size + 1, 0, none⟩)], .string ⟨x.toArray⟩, undef, undef, undef, undef, undef, undef, undef, undef, undef, undef], defers := [] }) ?assign ?body ?done ?stop
  case assign =>
    intro l x W K hK
    gi_wp2
    exact hK
  case body =>
    rintro l pre x W ⟨hS, hp, hB⟩ hlt
    have hpz := hp.lt
    have HS := Lib.hid hS
    clear hS
    gi_wp2_with (gi_at_call 26; refine (CallsIn.inRound l (hF.calls (push_any w.heap.size x pre W HS.out (by omega) (by omega)))).mono ?_; rintro e w' ⟨⟨u, rfl⟩, hS', hL⟩)
    exact ⟨hL.others.from _, hL.next, hS', (show w'.heap[w.heap.size + 1]? = _ from hL.next.trans hp), hB.trans hL.below⟩
  case done =>
    rintro D ys W hD rfl ⟨hS, hp, hB⟩ hK
    have hpz := hp.lt
    have HS := Lib.hid hS
    have HB := Lib.hid hB
    have HK := Lib.hid hK
    clear hS hB hK hB0 bO bN hp
    have htot := total_parts s.data.toList
    rw [size_list] at htot
    have hini := total_init (partsL s.data.toList)
    obtain ⟨J, hJ⟩ : ∃ J, J = joinL (partsL s.data.toList).dropLast := ⟨_, rfl⟩
    have hJl : J.length ≤ 1073741825 := by rw [hJ]; have h1 := join_le (partsL s.data.toList).dropLast; omega
    have hd : dirL s.data.toList = if (if wholeL s.data.toList then 47 :: J else J) = [] then [46] else (if wholeL s.data.toList then 47 :: J else J) := by rw [hJ]; rfl
    have HJ := Lib.hid hJ
    have HD := Lib.hid hd
    have HTT := Lib.hid (show total (partsL s.data.toList).dropLast ≤ 1099511627776 by omega)
    have hpo := Lib.hid (show (partsL s.data.toList).length ≤ 1073741824 by omega)
    have hcat := slash_cat
    have hcat0 := none_cat
    clear hJ hd htot hini hpl
    cases hw : wholeL s.data.toList <;> rcases J with _ | ⟨c, r⟩
    all_goals
      have HW := Lib.hid hw
      rw [hw] at HD
      simp only [List.length_cons, List.length_nil] at hJl
      clear hw
      gi_wp2_with (first | (gi_at_call 27; refine (hF.calls (pop_any w.heap.size _ W HS.out (by omega) hpo.out)).mono ?_; rintro e w1 ⟨⟨u, rfl⟩, hS1, hL1⟩; have HS1 := Lib.hid hS1; clear hS1; have hsz := hL1.others.size) | (gi_at_call 24; (first | (refine (hF.calls (root_t _ HW.out _)).mono ?_) | (refine (hF.calls (root_f _ HW.out _)).mono ?_)); rintro e w' ⟨rfl, rfl⟩) | (gi_at_call 28; refine (hF.calls (text_known w.heap.size _ _ HJ.out _ HS1.out (by omega) HTT.out)).mono ?_; rintro e w2 ⟨rfl, hb2⟩))
      have hD1 : D < W.heap.size := (Array.getElem?_eq_some_iff.1 HK.out).1
      have hK1 : w1.heap[D]? = some (.deferred (some [])) := hL1.others.same _ _ HK.out rfl
      have hK2 : w2.heap[D]? = some (.deferred (some [])) := (hb2.block D (by omega)).trans hK1
      have hB1 := HB.out.size
      refine ⟨by simp, .inl ⟨_, _, rfl, run_takeDeferred hK2, ?_⟩⟩
      exact ⟨_, results_tmp rfl _ _ _, by rw [HD.out]; (first | rfl | exact congrArg (fun x => Ending.returned (.string x)) (ByteArray.mk_append_mk ..)), ((HB.out.trans hL1.below).trans (hb2.mono (by omega))).trans (belowK_b (w := w) (Nat.le_refl _) w2 D _ _ (by simp at hD; omega) hK2 rfl rfl)⟩
  case stop =>
    rintro D c pre W _ _ h _
    exact h.elim

/-- Dir, as the law calls it. -/
theorem dir_any (s : ByteArray) (hs : s.size ≤ 536870912) (w : World) :
    Calls Try.prog 15 #[.string s] w fun e W' => e = .returned (.string ⟨(dirL s.data.toList).toArray⟩) ∧ Below w.heap.size w W' :=
  callsIn_wide.1 (dir_in Fence.wide open_wide 4 (Nat.le_refl _) s hs w)
end Go.Proofs.Ytkpbeljifpokdaa
