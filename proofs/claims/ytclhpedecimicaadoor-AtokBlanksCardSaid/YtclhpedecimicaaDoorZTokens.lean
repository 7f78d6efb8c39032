/-
  Tokens of the landed code.
-/
import Derived.Deep.AppendLies
import Derived.BigRegion
import Derived.Deep.RegionHeld
import Derived.Test.YtclhpedecimicaaDoorRoundKit
import Derived.Test.YtclhpedecimicaaDoorZIter
namespace Go.Proofs.YtclhpedecimicaaDoor
set_option maxRecDepth 100000
open Go Go.RowKit Go.Shelf

attribute [local go_sem] Oper.semAt_some

def tokF (x : Tk) : List Value := [.int .i64 (x.kind : Int), .int .i64 (x.num : Int), sv x.text, .int .i64 (x.pos : Int)]
def rowZ : List Tk → List Value
  | [] => []
  | x :: r => tokF x ++ rowZ r
theorem rowZ_len : ∀ L : List Tk, (rowZ L).length = L.length * 4
  | [] => rfl
  | x :: r => by rw [rowZ, List.length_append, rowZ_len r, List.length_cons]; simp [tokF]; omega
theorem rowZ_app : ∀ (L M : List Tk), rowZ (L ++ M) = rowZ L ++ rowZ M
  | [], _ => rfl
  | x :: r, M => by rw [List.cons_append, rowZ, rowZ, rowZ_app r M, List.append_assoc]
theorem rowZ_one (x : Tk) : rowZ [x] = tokF x := by rw [rowZ, rowZ, List.append_nil]
theorem infoTok : (Tryd.prog.info? 34).map (fun i => (i.zero, i.size, i.bytes)) = some (some (.agg #[.int .i64 0, .int .i64 0, .string ByteArray.empty, .int .i64 0]), 4, 40) := by kernel_rfl

/-- What holds behind the events pre, none of them an error. -/
structure TokI (w : World) (n4 : Nat) (pre : List (Tk × Nat)) (W : World) : Prop where
  row : ∃ v, Boxed W w.heap.size 23 v ∧ W.ownsRow (w.heap.size + 4) 34 4 v pre.length (rowZ (pre.map Prod.fst)) ∧ ∃ a c, v = .slice a pre.length c
  plc : Boxed W (w.heap.size + 1) 3 (.int .i64 0)
  wrg : Boxed W (w.heap.size + 1 + 1) 24 (.int .i64 0)
  low : Below w.heap.size w W
  ok : ∀ x ∈ pre, x.2 = 0
  big : n4 ≤ W.heap.size
/-- What holds where the loop was left at an error. -/
structure TokX (w : World) (pre : List (Tk × Nat)) (W : World) : Prop where
  row : Boxed W w.heap.size 23 (.slice none 0 0)
  plc : ∀ D x, pre = D ++ [x] → Boxed W (w.heap.size + 1) 3 (.int .i64 (x.1.pos : Int))
  wrg : ∀ D x, pre = D ++ [x] → Boxed W (w.heap.size + 1 + 1) 24 (.int .i64 (x.2 : Int))
  low : Below w.heap.size w W
  bad : ∃ D x, pre = D ++ [x] ∧ x.2 ≠ 0
theorem boxed_grown {W W' : World} {row : Option Nat} {k : Nat} {t : TypeId} {v : Value} (h : Boxed W k t v) (hg : W.grownBy W' row) (hr : ∀ r, row = some r → ∃ o : Obj, W.heap[r]? = some o ∧ o.isCells = false) : Boxed W' k t v := by
  refine h.kept hg fun e => ?_
  obtain ⟨o, ho, hc⟩ := hr k e.symm
  rw [show W.heap[k]? = _ from h] at ho; cases ho; cases hc
theorem TokI.grown {w : World} {n4 : Nat} {pre : List (Tk × Nat)} {W W' : World} {row : Option Nat} (h : TokI w n4 pre W) (hg : W.grownBy W' row) (hw : ∀ r, row = some r → w.heap.size ≤ r) (hr : ∀ r, row = some r → ∃ o : Obj, W.heap[r]? = some o ∧ o.isCells = false) : TokI w n4 pre W' := by
  obtain ⟨v, h1, h2, h3⟩ := h.row
  refine ⟨⟨v, boxed_grown h1 hg hr, h2.kept hg ?_, h3⟩, boxed_grown h.plc hg hr, boxed_grown h.wrg hg hr, h.low.grown hg h.low.size hw, h.ok, Nat.le_trans h.big hg.size⟩
  rcases h2.2 with ⟨rfl, _⟩ | ⟨g, cap, cur, rfl, _, hgb, _⟩
  · exact .inl rfl
  · refine .inr fun e' => ?_
    obtain ⟨o, ho, hc⟩ := hr g (by simpa [Value.ownBlock] using e'.symm)
    rw [hgb] at ho; cases ho; cases hc
theorem TokX.grown {w : World} {pre : List (Tk × Nat)} {W W' : World} {row : Option Nat} (h : TokX w pre W) (hg : W.grownBy W' row) (hw : ∀ r, row = some r → w.heap.size ≤ r) (hr : ∀ r, row = some r → ∃ o : Obj, W.heap[r]? = some o ∧ o.isCells = false) : TokX w pre W' :=
  ⟨boxed_grown h.row hg hr, fun D x e => boxed_grown (h.plc D x e) hg hr, fun D x e => boxed_grown (h.wrg D x e) hg hr, h.low.grown hg h.low.size hw, h.bad⟩

theorem laid4 (w : World) (s : ByteArray) (w4 : World) (h : w4 = (((w.alloc (.cells #[.slice none 0 0] 23)).alloc (.cells #[.int .i64 0] 3)).alloc (.cells #[.int .i64 0] 24)).alloc (.cells #[.string s] 9)) :
    TokI w w4.heap.size [] w4 ∧ Boxed w4 (w.heap.size + 1 + 1 + 1) 9 (.string s) ∧ w4.heap.size = w.heap.size + 1 + 1 + 1 + 1 := by
  subst h
  have b0 := Boxed.new w 23 (.slice none 0 0)
  have b1 := Boxed.new (w.alloc (.cells #[.slice none 0 0] 23)) 3 (.int .i64 0)
  rw [World.size_alloc] at b1
  have b2 := Boxed.new ((w.alloc (.cells #[.slice none 0 0] 23)).alloc (.cells #[.int .i64 0] 3)) 24 (.int .i64 0)
  rw [World.size_alloc, World.size_alloc] at b2
  have b3 := Boxed.new (((w.alloc (.cells #[.slice none 0 0] 23)).alloc (.cells #[.int .i64 0] 3)).alloc (.cells #[.int .i64 0] 24)) 9 (.string s)
  rw [World.size_alloc, World.size_alloc, World.size_alloc] at b3
  refine ⟨⟨⟨_, ((b0.alloc _).alloc _).alloc _, World.ownsRow_nil _ _ _ _, none, 0, rfl⟩, (b1.alloc _).alloc _, b2.alloc _, ?_, fun x hx => (by cases hx), Nat.le_refl _⟩, b3, ?_⟩
  · exact ((((Below.refl _ w).alloc (Nat.le_refl _) _).alloc (by simp) _).alloc (by simp; omega) _).alloc (by simp; omega) _
  · simp

/-- A row of tokens that a call owns. -/
def TokRow (W : World) (B : Nat) (v : Value) (L : List Tk) : Prop := (∃ a c, v = .slice a L.length c) ∧ W.ownsRow B 34 4 v L.length (rowZ L)
/-- What Tokens answers. -/
def TokensAns (w : World) (r : List Tk ⊕ Nat × Nat) (e : Ending) (W' : World) : Prop :=
  Below w.heap.size w W' ∧ match r with
    | .inl L => ∃ v, e = .returned (.tuple #[v, .int .i64 0, .int .i64 0]) ∧ TokRow W' w.heap.size v L
    | .inr q => e = .returned (.tuple #[.slice none 0 0, .int .i64 (q.1 : Int), .int .i64 (q.2 : Int)])
theorem rows_less {w : World} {b b' : Nat} {e : TypeId} {z n : Nat} {v : Value} {xs : List Value} (h : w.ownsRow b e z v n xs) (hb : b' ≤ b) : w.ownsRow b' e z v n xs := by
  obtain ⟨h1, h2 | ⟨g, cap, cur, hv, hg, r⟩⟩ := h
  · exact ⟨h1, Or.inl h2⟩
  · exact ⟨h1, Or.inr ⟨g, cap, cur, hv, by omega, r⟩⟩

set_option maxHeartbeats 16000000 in
theorem ltokens (s : ByteArray) (hs : s.size ≤ 100000) (w : World) (hL : LaidZ w) :
    Calls Tryd.prog 8 #[.string s] w (TokensAns w (toks s.data.toList 0)) := by
  refine (callsIn_wide (n := 6)).1 ?_
  obtain ⟨F, hFF⟩ : ∃ F, F = Fence.wide := ⟨_, rfl⟩
  have hO : FreeF F := by rw [hFF]; exact free_wide
  have HWIDE := Lib.hid hFF
  rw [← hFF]
  clear hFF
  have hro : F.round = none := hO.ro
  have hf3 : F.fn 15 := hO.fn _
  refine callsIn_of_wp_marks Tryd.func8 rfl (hO.fn _) ?_ hro
  simp only [Tryd.ntmps8, List.size_toArray, List.length_cons, List.length_nil, Nat.reduceAdd, Nat.reduceSub, Array.replicate_succ, Array.replicate_zero, List.push_toArray, List.append_toArray, List.nil_append, List.cons_append]
  gi_wp2
  refine scope_in hro ?_
  gi_wp2
  refine wpIn_label ?_
  gi_wp2_with (gi_at_call 15; refine (ztokens_in F hO _ s _).mono ?_; rintro e w4 ⟨rfl, hw4⟩)
  obtain ⟨hI0, hbs, hsz⟩ := laid4 w s w4 hw4
  rw [← hw4]
  have HS0 := Lib.hid (show Same0 w w4 from (Same0.refl w).below hI0.low)
  have HI0 := Lib.hid hI0
  have hcs := hbs.cell
  have HLEN := Lib.hid (evs_len s.data.toList 0)
  have HSL := Lib.hid (size_data s)
  clear hw4 hI0 hbs
  have hw := HWIDE.out
  refine wpIn_rangeFunc_ownH hro (by decide) (gf := 23) (lb := #[.pointer (some ⟨w.heap.size + 1 + 1 + 1, 0, none⟩)]) rfl (hO.fn _) (enters_of Tryd.func23 (by kernel_rfl) rfl)
    (ztokens_stops F hO (6 - 1) (by decide) (w.heap.size + 1 + 1 + 1) s hs w hL w4 (by omega) hcs HS0.out)
    (fun h k => h.trans k) (fun X lo o o' hlo ho hc hwk => ⟨by simp, fun k hk => World.putObj_heap_other (by omega), World.putObj_heap_other (by omega)⟩) (Below.refl _ _) (fun _ => rfl)
    (fun pre W => TokI w w4.heap.size pre W)
    (fun c pre W => c = Code.exit 0 ∧ TokX w pre W)
    (fun s' X Y row h hg hr => h.grown hg (fun r e => by have := (hr r e).1; omega) (fun r e => (hr r e).2))
    (fun c s' X Y row h hg hr => ⟨h.1, h.2.grown hg (fun r e => by have := (hr r e).1; omega) (fun r e => (hr r e).2)⟩)
    HI0.out
    (fun x a' W => ∃ bx, W.heap[bx]? = some (.cells (tokC x.1) 34 (0, 0)) ∧ w4.heap.size ≤ bx ∧ a' = { tmps := #[.string s, undef, .slice none 0 0, .int .i64 0, .int .i64 0, .pointer (some ⟨w.heap.size, 0, none⟩), .pointer (some ⟨w.heap.size + 1, 0, none⟩), .pointer (some ⟨w.heap.size + 1 + 1, 0, none⟩), .pointer (some ⟨bx, 0, none⟩), .int .i64 (x.2 : Int), .string s, .func (.func 23) #[] #[.pointer (some ⟨w.heap.size + 1 + 1 + 1, 0, none⟩)], tokV x.1, .int .i64 (x.2 : Int), undef, undef, undef, undef, undef, undef, undef, undef, undef, undef, undef, undef, undef], defers := [] })
    (fun x a' s' X Y row h hg hr => by
      obtain ⟨bx, h1, h2, h3⟩ := h
      refine ⟨bx, (hg.block bx (lt_of_block h1) (fun e => ?_)).trans h1, h2, h3⟩
      obtain ⟨o, ho, hc⟩ := (hr bx e.symm).2
      rw [h1] at ho; cases ho; cases hc)
    ?assign ?body ?done ?stop
  case assign =>
    intro l pre x X K hI hK
    have hb := below_box X (.cells (tokC x.1) 34)
    have hn := new_block X (.cells (tokC x.1) 34)
    have hbig := hI.big
    have hKK := hK { tmps := #[.string s, undef, .slice none 0 0, .int .i64 0, .int .i64 0, .pointer (some ⟨w.heap.size, 0, none⟩), .pointer (some ⟨w.heap.size + 1, 0, none⟩), .pointer (some ⟨w.heap.size + 1 + 1, 0, none⟩), .pointer (some ⟨X.heap.size, 0, none⟩), .int .i64 (x.2 : Int), .string s, .func (.func 23) #[] #[.pointer (some ⟨w.heap.size + 1 + 1 + 1, 0, none⟩)], tokV x.1, .int .i64 (x.2 : Int), undef, undef, undef, undef, undef, undef, undef, undef, undef, undef, undef, undef, undef], defers := [] } (X.alloc (.cells (tokC x.1) 34))
      ((KeepsOthers.alloc X _).from _) ⟨hb.size, fun k hk => hb.block _ (by omega), hb.block _ (by omega)⟩ (hI.grown (World.grownBy_alloc X _ none) (fun r e => by cases e) (fun r e => by cases e)) ⟨X.heap.size, hn, hbig, rfl⟩
    clear hb hn hK
    unfold tokV tokC at hKK
    unfold evV tokV tokC
    gi_wp2
    exact hKK
  case body =>
    intro l pre x a' X hl hlr hI hA hlen
    obtain ⟨bx, hxb, hbxW, rfl⟩ := hA
    obtain ⟨⟨xk, xn, xt, xp⟩, xe⟩ := x
    simp only at hxb
    have x0 := blk_cell hxb 0
    have x1 := blk_cell hxb 1
    have x2 := blk_cell hxb 2
    have x3 := blk_cell hxb 3
    unfold tokC at x0 x1 x2 x3
    simp only [tokV, tokC]
    have lbx : bx < X.heap.size := lt_of_block hxb
    have hXs := hI.low.size
    obtain ⟨v, hbv, hrow, va, vc, rfl⟩ := hI.row
    obtain ⟨k9, hk9⟩ : ∃ k9, k9 = pre.length := ⟨_, rfl⟩
    have HK9 := Lib.hid hk9
    rw [← hk9] at hbv hrow
    have r0 := hbv.cell
    have rf := hbv.frozen
    have lr0 := hbv.lt
    have hI' := Lib.hid hI
    by_cases hxe : xe = 0
    · subst hxe
      have hz : ((0 : Int) == 0) = true := rfl
      obtain ⟨i0, hi, hz0, hz1, hz2⟩ := info_parts infoTok
      have hpl : pre.length ≤ 200000 := by have := HLEN.out; have := HSL.out; omega
      have HBV := Lib.hid hbv
      have HRO := Lib.hid hrow
      have hXb : w.heap.size + 1 + 1 + 1 < X.heap.size := by have := hI'.out.big; omega
      rw [← hk9] at hpl
      clear hbv hrow hI hk9
      gi_wp2_with (first | (gi_at_builtin; (refine wpListIn_append_own _ rfl _ _ 23 rfl (w.heap.size + 4) 34 i0 _ 4 40 Tryd.underlying23 hi hz0 hz1 hz2 rfl (by decide) (.slice va k9 vc) k9 (rowZ (pre.map Prod.fst)) rfl (HRO.out.alloc _) ⟨X.heap.size, 0, none⟩ 1 1 [.int .i64 (xk : Int), .int .i64 (xn : Int), .string ⟨xt.toArray⟩, .int .i64 (xp : Int)] rfl rfl (World.news_of_block (cs := #[.int .i64 (xk : Int), .int .i64 (xn : Int), .string ⟨xt.toArray⟩, .int .i64 (xp : Int)]) (t := 34) (fr := (0, 0)) (heap_alloc_new X _)) (by simp [Value.oneCell']) (by unfold maxLen; omega) (by omega) (by simp; omega) ?_); intro v' w1 hown' hgrow _; obtain ⟨g', cap', rfl⟩ := ownsRow_succ hown'; obtain ⟨hv1, hv2, hr2, hk2, hb2⟩ := HBV.out.appended (by decide) (rows_less HRO.out (Nat.le_add_right _ 4)) hXs (Nat.le_refl _) (rows_less hown' (Nat.le_add_right _ 4)) hgrow; have hc1 := hv1.cell; have hf1 := hv1.frozen) | fail)
      have hne : ∀ k, k < w.heap.size + 4 → some k ≠ (Value.slice va k9 vc).ownBlock := fun k hk e => by have := (HRO.out.lt k e.symm).1; omega
      have hoth : ∀ k, k < w.heap.size + 4 → k ≠ w.heap.size → (w1.setCell ⟨w.heap.size, 0, none⟩ (.slice (some ⟨g', 0, none⟩) (k9 + 1) cap')).heap[k]? = X.heap[k]? := fun k hk hk2 => by
        rw [Below.heap_setCell _ _ _ _ hk2, hgrow.block k (by rw [World.size_alloc]; omega) (hne k hk), Below.heap_alloc _ _ _ (by omega)]
      have hfin : KeepsFrom w4.heap.size X (w1.setCell ⟨w.heap.size, 0, none⟩ (.slice (some ⟨g', 0, none⟩) (k9 + 1) cap')) ∧ KeepZ w (w.heap.size + 1 + 1 + 1) X (w1.setCell ⟨w.heap.size, 0, none⟩ (.slice (some ⟨g', 0, none⟩) (k9 + 1) cap')) ∧
          TokI w w4.heap.size (pre ++ [(⟨xk, xn, xt, xp⟩, 0)]) (w1.setCell ⟨w.heap.size, 0, none⟩ (.slice (some ⟨g', 0, none⟩) (k9 + 1) cap')) := by
        refine ⟨hk2.from _, ⟨hb2.size, fun k hk => hb2.block k hk, hoth _ (by omega) (by omega)⟩, ⟨⟨_, hv2, ?_, some ⟨g', 0, none⟩, cap', by rw [List.length_append, ← HK9.out]; rfl⟩, (hoth _ (by omega) (by omega)).trans hI'.out.plc, (hoth _ (by omega) (by omega)).trans hI'.out.wrg, hI'.out.low.trans hb2, ?_, Nat.le_trans hI'.out.big hb2.size⟩⟩
        · have h9 := hown'.kept (grownBy_setCell' w1 w.heap.size (.slice (some ⟨g', 0, none⟩) (k9 + 1) cap')) (.inr (hv1.not_row (by decide) hown').symm)
          rw [List.length_append, ← HK9.out, List.map_append, rowZ_app]
          exact h9
        · intro y hy
          rcases List.mem_append.1 hy with hy | hy
          · exact hI'.out.ok y hy
          · rw [List.mem_singleton.1 hy]
      have HFIN := Lib.hid hfin
      clear hfin hoth hne hown' hgrow hv2 hr2 hk2 hb2 hv1
      gi_wp2
      have h9 := HFIN.out
      rw [hsz] at h9
      exact h9
    · have hz : ((xe : Int) == 0) = false := by rw [beq_eq_false_iff_ne]; omega
      have hne0 : bx ≠ w.heap.size ∧ bx ≠ w.heap.size + 1 ∧ bx ≠ w.heap.size + 1 + 1 := by omega
      have hplc := hI'.out.plc
      have hwrg := hI'.out.wrg
      have p0 := hplc.cell
      have pf := hplc.frozen
      have q0 := hwrg.cell
      have qf := hwrg.frozen
      have lp := hplc.lt
      have lq := hwrg.lt
      have HBV := Lib.hid hbv
      clear hbv hrow hI hk9 hplc hwrg
      subst hw
      gi_wp2
      refine region_in_held (ro := some l) (S := fun W' => W'.cell? ⟨bx, 3, none⟩ = some (.int .i64 (xp : Int))) (by kernel_rfl) (by kernel_rfl) ?_
      have hHeld : X.drew.cell? ⟨bx, 3, none⟩ = some (.int .i64 (xp : Int)) := x3
      refine wpAnyH_take (i := 0) (v := ?_) rfl (by kernel_rfl) (by kernel_rfl) (by kernel_rfl) (fun _ _ _ h => nomatch h.1) (Or.inl ⟨by rfl, ?hyb0⟩) hHeld ?restb0
      case hyb0 => intro W' hSw; go_simp <;> with_reducible rfl
      try simp only [Act.put, List.getElem_toArray, List.getElem_cons_zero, List.setIfInBounds_toArray, List.set_cons_zero, List.set_cons_succ]
      refine wpAnyH_take (i := 1) (v := ?_) rfl (by kernel_rfl) (by kernel_rfl) (by kernel_rfl) (fun _ _ _ h => nomatch h.1) (Or.inl ⟨by rfl, ?hyb1⟩) hHeld ?restb1
      case hyb1 => intro W' hSw; go_simp <;> with_reducible rfl
      try simp only [Act.put, List.getElem_toArray, List.getElem_cons_zero, List.setIfInBounds_toArray, List.set_cons_zero, List.set_cons_succ]
      refine wpAnyH_take (i := 2) (v := ?_) rfl (by kernel_rfl) (by kernel_rfl) (by kernel_rfl) (fun _ _ _ h => nomatch h.1) (Or.inl ⟨by rfl, ?hyb2⟩) hHeld ?restb2
      case hyb2 => intro W' hSw; go_simp <;> with_reducible rfl
      try simp only [Act.put, List.getElem_toArray, List.getElem_cons_zero, List.setIfInBounds_toArray, List.set_cons_zero, List.set_cons_succ]
      refine wpAnyH_ready (rs := [3]) (by kernel_rfl) (by simp) ?_
      refine AllReadyH.cons rfl (fun K' hK => ?_) AllReadyH.nil
      rw [if_pos (by rfl)]
      go_simp
      refine hK.out _ _ (by go_simp) (fun hS2 => ?_)
      try simp only [Act.put, List.getElem_toArray, List.getElem_cons_zero, List.setIfInBounds_toArray, List.set_cons_zero, List.set_cons_succ]
      refine wpAnyH_ready (rs := [4]) (by kernel_rfl) (by simp) ?_
      refine AllReadyH.cons rfl (fun K' hK => ?_) AllReadyH.nil
      rw [if_pos (by rfl)]
      go_simp
      refine hK.out _ _ (by go_simp) (fun hS3 => ?_)
      try simp only [Act.put, List.getElem_toArray, List.getElem_cons_zero, List.setIfInBounds_toArray, List.set_cons_zero, List.set_cons_succ]
      refine wpAnyH_ready (rs := [5]) (by kernel_rfl) (by simp) ?_
      refine AllReadyH.cons rfl (fun K' hK => ?_) AllReadyH.nil
      rw [if_pos (by rfl)]
      go_simp
      refine hK.out _ _ (by go_simp) (fun hS4 => ?_)
      try simp only [Act.put, List.getElem_toArray, List.getElem_cons_zero, List.setIfInBounds_toArray, List.set_cons_zero, List.set_cons_succ]
      refine wpAnyH_done (by kernel_rfl) ⟨rfl, ?_⟩ _
      gi_wp2
      have hX1 : ∀ k, k ≠ w.heap.size → k ≠ w.heap.size + 1 → k ≠ w.heap.size + 1 + 1 → (((X.setCell ⟨w.heap.size, 0, none⟩ (.slice none 0 0)).setCell ⟨w.heap.size + 1, 0, none⟩ (.int .i64 (xp : Int))).setCell ⟨w.heap.size + 1 + 1, 0, none⟩ (.int .i64 (xe : Int))).drew.heap[k]? = X.heap[k]? := fun k n0 n1 n2 =>
        (Below.heap_setCell _ _ _ _ n2).trans ((Below.heap_setCell _ _ _ _ n1).trans (Below.heap_setCell _ _ _ _ n0))
      have hb0 : Boxed (((X.setCell ⟨w.heap.size, 0, none⟩ (.slice none 0 0)).setCell ⟨w.heap.size + 1, 0, none⟩ (.int .i64 (xp : Int))).setCell ⟨w.heap.size + 1 + 1, 0, none⟩ (.int .i64 (xe : Int))) w.heap.size 23 (.slice none 0 0) :=
        ((HBV.out.set (.slice none 0 0)).other (B' := w.heap.size + 1) (by omega) _).other (B' := w.heap.size + 1 + 1) (by omega) _
      have hb1 : Boxed (((X.setCell ⟨w.heap.size, 0, none⟩ (.slice none 0 0)).setCell ⟨w.heap.size + 1, 0, none⟩ (.int .i64 (xp : Int))).setCell ⟨w.heap.size + 1 + 1, 0, none⟩ (.int .i64 (xe : Int))) (w.heap.size + 1) 3 (.int .i64 (xp : Int)) :=
        ((hI'.out.plc.other (B' := w.heap.size) (by omega) (.slice none 0 0)).set (.int .i64 (xp : Int))).other (B' := w.heap.size + 1 + 1) (by omega) _
      have hb2 : Boxed (((X.setCell ⟨w.heap.size, 0, none⟩ (.slice none 0 0)).setCell ⟨w.heap.size + 1, 0, none⟩ (.int .i64 (xp : Int))).setCell ⟨w.heap.size + 1 + 1, 0, none⟩ (.int .i64 (xe : Int))) (w.heap.size + 1 + 1) 24 (.int .i64 (xe : Int)) :=
        ((hI'.out.wrg.other (B' := w.heap.size) (by omega) (.slice none 0 0)).other (B' := w.heap.size + 1) (by omega) (.int .i64 (xp : Int))).set (.int .i64 (xe : Int))
      have hlw : Below w.heap.size w (((X.setCell ⟨w.heap.size, 0, none⟩ (.slice none 0 0)).setCell ⟨w.heap.size + 1, 0, none⟩ (.int .i64 (xp : Int))).setCell ⟨w.heap.size + 1 + 1, 0, none⟩ (.int .i64 (xe : Int))) :=
        ((hI'.out.low.setCell (show w.heap.size ≤ w.heap.size from Nat.le_refl _) _).setCell (show w.heap.size ≤ w.heap.size + 1 by omega) _).setCell (show w.heap.size ≤ w.heap.size + 1 + 1 by omega) _
      have hlast : ∀ (D : List (Tk × Nat)) (y : Tk × Nat), pre ++ [((⟨xk, xn, xt, xp⟩ : Tk), xe)] = D ++ [y] → y = (⟨xk, xn, xt, xp⟩, xe) := fun D y e => by
        have := congrArg List.getLast? e
        simpa using this.symm
      exact ⟨⟨by show X.heap.size ≤ _; simp [World.setCell], fun k o hk ho _ => (hX1 k (by omega) (by omega) (by omega)).trans ho⟩, rfl,
        ⟨hb0, fun D y e => by rw [hlast D y e]; exact hb1, fun D y e => by rw [hlast D y e]; exact hb2, ⟨hlw.os, hlw.tape, hlw.output, hlw.size, hlw.block⟩, ⟨pre, _, rfl, hxe⟩⟩⟩
  case done =>
    intro D ys X hD hys hI hDk
    obtain ⟨v, hbv, hrow, va, vc, rfl⟩ := hI.row
    have HI := Lib.hid hI
    have HROW := Lib.hid hrow
    have HDK := Lib.hid hDk
    have HRES := Lib.hid (show toks s.data.toList 0 = .inl (ys.map Prod.fst) by
      have h := (evs_facts _ s.data.toList 0 (Nat.le_refl _)).2.1
      rw [← hys] at h
      exact h hI.ok)
    have hHeld : X.drew.cell? ⟨w.heap.size, 0, none⟩ = some (.slice va ys.length vc) ∧ X.drew.cell? ⟨w.heap.size + 1, 0, none⟩ = some (.int .i64 0) ∧ X.drew.cell? ⟨w.heap.size + 1 + 1, 0, none⟩ = some (.int .i64 0) := ⟨hbv.cell, hI.plc.cell, hI.wrg.cell⟩
    obtain ⟨k9, hk9⟩ : ∃ k9, k9 = ys.length := ⟨_, rfl⟩
    have HK9 := Lib.hid hk9
    rw [← hk9] at hHeld
    clear hI hbv hrow hk9 hDk
    subst hw
    gi_wp2
    refine region_in_held (ro := none) (S := fun W' => W'.cell? ⟨w.heap.size, 0, none⟩ = some (.slice va k9 vc) ∧ W'.cell? ⟨w.heap.size + 1, 0, none⟩ = some (.int .i64 0) ∧ W'.cell? ⟨w.heap.size + 1 + 1, 0, none⟩ = some (.int .i64 0)) (by kernel_rfl) (by kernel_rfl) ?_
    refine wpAnyH_take (i := 0) (v := ?_) rfl (by kernel_rfl) (by kernel_rfl) (by kernel_rfl) (fun _ _ _ h => nomatch h.1) (Or.inl ⟨by rfl, ?hyd0⟩) hHeld ?restd0
    case hyd0 => intro W' hSw; (obtain ⟨q0, q1, q2⟩ := hSw); go_simp <;> with_reducible rfl
    try simp only [Act.put, List.getElem_toArray, List.getElem_cons_zero, List.getElem_cons_succ, List.setIfInBounds_toArray, List.set_cons_zero, List.set_cons_succ]
    refine wpAnyH_take (i := 1) (v := ?_) rfl (by kernel_rfl) (by kernel_rfl) (by kernel_rfl) (fun _ _ _ h => nomatch h.1) (Or.inl ⟨by rfl, ?hyd1⟩) hHeld ?restd1
    case hyd1 => intro W' hSw; (obtain ⟨q0, q1, q2⟩ := hSw); go_simp <;> with_reducible rfl
    try simp only [Act.put, List.getElem_toArray, List.getElem_cons_zero, List.getElem_cons_succ, List.setIfInBounds_toArray, List.set_cons_zero, List.set_cons_succ]
    refine wpAnyH_take (i := 2) (v := ?_) rfl (by kernel_rfl) (by kernel_rfl) (by kernel_rfl) (fun _ _ _ h => nomatch h.1) (Or.inl ⟨by rfl, ?hyd2⟩) hHeld ?restd2
    case hyd2 => intro W' hSw; (obtain ⟨q0, q1, q2⟩ := hSw); go_simp <;> with_reducible rfl
    try simp only [Act.put, List.getElem_toArray, List.getElem_cons_zero, List.getElem_cons_succ, List.setIfInBounds_toArray, List.set_cons_zero, List.set_cons_succ]
    refine wpAnyH_take (i := 3) (v := ?_) rfl (by kernel_rfl) (by kernel_rfl) (by kernel_rfl) (fun _ _ _ h => nomatch h.1) (Or.inl ⟨by rfl, ?hyd3⟩) hHeld ?restd3
    case hyd3 => intro W' hSw; (obtain ⟨q0, q1, q2⟩ := hSw); go_simp <;> with_reducible rfl
    try simp only [Act.put, List.getElem_toArray, List.getElem_cons_zero, List.getElem_cons_succ, List.setIfInBounds_toArray, List.set_cons_zero, List.set_cons_succ]
    refine wpAnyH_take (i := 4) (v := ?_) rfl (by kernel_rfl) (by kernel_rfl) (by kernel_rfl) (fun _ _ _ h => nomatch h.1) (Or.inl ⟨by rfl, ?hyd4⟩) hHeld ?restd4
    case hyd4 => intro W' hSw; (obtain ⟨q0, q1, q2⟩ := hSw); go_simp <;> with_reducible rfl
    try simp only [Act.put, List.getElem_toArray, List.getElem_cons_zero, List.getElem_cons_succ, List.setIfInBounds_toArray, List.set_cons_zero, List.set_cons_succ]
    refine wpAnyH_take (i := 5) (v := ?_) rfl (by kernel_rfl) (by kernel_rfl) (by kernel_rfl) (fun _ _ _ h => nomatch h.1) (Or.inl ⟨by rfl, ?hyd5⟩) hHeld ?restd5
    case hyd5 => intro W' hSw; (obtain ⟨q0, q1, q2⟩ := hSw); go_simp <;> with_reducible rfl
    try simp only [Act.put, List.getElem_toArray, List.getElem_cons_zero, List.getElem_cons_succ, List.setIfInBounds_toArray, List.set_cons_zero, List.set_cons_succ]
    refine wpAnyH_done (by kernel_rfl) ⟨rfl, ?_⟩ _
    gi_wp2
    have hdr : TokI w w4.heap.size ys X.drew := HI.out.grown (row := none) ⟨rfl, rfl, rfl, Nat.le_refl _, fun _ _ _ => rfl⟩ (fun r e => by cases e) (fun r e => by cases e)
    have hpu : TokI w w4.heap.size ys (X.drew.putObj D (.deferred none)) := hdr.grown (grownBy_putObj' X.drew D _) (fun r e => by cases e; omega) (fun r e => by cases e; exact ⟨_, HDK.out, rfl⟩)
    have hrw : (X.drew.putObj D (.deferred none)).ownsRow w.heap.size 34 4 (.slice va k9 vc) (ys.map Prod.fst).length (rowZ (ys.map Prod.fst)) := by
      obtain ⟨v2, h1, h2, -⟩ := hpu.row
      have e : v2 = .slice va k9 vc := by
        have h3 : Boxed (X.drew.putObj D (.deferred none)) w.heap.size 23 (.slice va k9 vc) := by
          have h4 : Boxed X w.heap.size 23 (.slice va k9 vc) := by
            obtain ⟨v3, h5, -, -⟩ := HI.out.row
            have h6 := h5.cell
            have h7 : X.cell? ⟨w.heap.size, 0, none⟩ = some (.slice va k9 vc) := hHeld.1
            rw [h6] at h7
            rw [← Option.some.inj h7]; exact h5
          exact boxed_grown (W := X.drew) h4 (grownBy_putObj' X.drew D _) (fun r e => by cases e; exact ⟨_, HDK.out, rfl⟩)
        have h8 := h1.cell
        rw [h3.cell] at h8
        exact (Option.some.inj h8).symm
      rw [e] at h2
      rw [List.length_map]
      exact rows_less h2 (by omega)
    refine ⟨by simp, .inl ⟨_, _, rfl, run_takeDeferred HDK.out, ?_⟩⟩
    refine ⟨_, results_tmp3 rfl _ _ _, hpu.low, ?_⟩
    rw [HRES.out]
    exact ⟨_, rfl, ⟨va, vc, by rw [List.length_map, ← HK9.out]; rfl⟩, hrw⟩
  case stop =>
    intro D c pre X hD hpre hX hDk
    obtain ⟨rfl, hX⟩ := hX
    obtain ⟨D0, ⟨⟨xk, xn, xt, xp⟩, xe⟩, rfl, hxe⟩ := hX.bad
    have HRES := Lib.hid (show toks s.data.toList 0 = .inr (xp, xe) from (evs_facts _ s.data.toList 0 (Nat.le_refl _)).2.2.1 (⟨xk, xn, xt, xp⟩, xe) (hpre.subset (by simp)) hxe)
    have HX := Lib.hid hX
    have HDK := Lib.hid hDk
    have hHeld : X.drew.cell? ⟨w.heap.size, 0, none⟩ = some (.slice none 0 0) ∧ X.drew.cell? ⟨w.heap.size + 1, 0, none⟩ = some (.int .i64 (xp : Int)) ∧ X.drew.cell? ⟨w.heap.size + 1 + 1, 0, none⟩ = some (.int .i64 (xe : Int)) := ⟨hX.row.cell, (hX.plc _ _ rfl).cell, (hX.wrg _ _ rfl).cell⟩
    clear hX hDk hpre
    subst hw
    gi_wp2
    refine region_in_held (ro := none) (S := fun W' => W'.cell? ⟨w.heap.size, 0, none⟩ = some (.slice none 0 0) ∧ W'.cell? ⟨w.heap.size + 1, 0, none⟩ = some (.int .i64 (xp : Int)) ∧ W'.cell? ⟨w.heap.size + 1 + 1, 0, none⟩ = some (.int .i64 (xe : Int))) (by kernel_rfl) (by kernel_rfl) ?_
    refine wpAnyH_take (i := 0) (v := ?_) rfl (by kernel_rfl) (by kernel_rfl) (by kernel_rfl) (fun _ _ _ h => nomatch h.1) (Or.inl ⟨by rfl, ?hys0⟩) hHeld ?rests0
    case hys0 => intro W' hSw; (obtain ⟨q0, q1, q2⟩ := hSw); go_simp <;> with_reducible rfl
    try simp only [Act.put, List.getElem_toArray, List.getElem_cons_zero, List.getElem_cons_succ, List.setIfInBounds_toArray, List.set_cons_zero, List.set_cons_succ]
    refine wpAnyH_take (i := 1) (v := ?_) rfl (by kernel_rfl) (by kernel_rfl) (by kernel_rfl) (fun _ _ _ h => nomatch h.1) (Or.inl ⟨by rfl, ?hys1⟩) hHeld ?rests1
    case hys1 => intro W' hSw; (obtain ⟨q0, q1, q2⟩ := hSw); go_simp <;> with_reducible rfl
    try simp only [Act.put, List.getElem_toArray, List.getElem_cons_zero, List.getElem_cons_succ, List.setIfInBounds_toArray, List.set_cons_zero, List.set_cons_succ]
    refine wpAnyH_take (i := 2) (v := ?_) rfl (by kernel_rfl) (by kernel_rfl) (by kernel_rfl) (fun _ _ _ h => nomatch h.1) (Or.inl ⟨by rfl, ?hys2⟩) hHeld ?rests2
    case hys2 => intro W' hSw; (obtain ⟨q0, q1, q2⟩ := hSw); go_simp <;> with_reducible rfl
    try simp only [Act.put, List.getElem_toArray, List.getElem_cons_zero, List.getElem_cons_succ, List.setIfInBounds_toArray, List.set_cons_zero, List.set_cons_succ]
    refine wpAnyH_take (i := 3) (v := ?_) rfl (by kernel_rfl) (by kernel_rfl) (by kernel_rfl) (fun _ _ _ h => nomatch h.1) (Or.inl ⟨by rfl, ?hys3⟩) hHeld ?rests3
    case hys3 => intro W' hSw; (obtain ⟨q0, q1, q2⟩ := hSw); go_simp <;> with_reducible rfl
    try simp only [Act.put, List.getElem_toArray, List.getElem_cons_zero, List.getElem_cons_succ, List.setIfInBounds_toArray, List.set_cons_zero, List.set_cons_succ]
    refine wpAnyH_take (i := 4) (v := ?_) rfl (by kernel_rfl) (by kernel_rfl) (by kernel_rfl) (fun _ _ _ h => nomatch h.1) (Or.inl ⟨by rfl, ?hys4⟩) hHeld ?rests4
    case hys4 => intro W' hSw; (obtain ⟨q0, q1, q2⟩ := hSw); go_simp <;> with_reducible rfl
    try simp only [Act.put, List.getElem_toArray, List.getElem_cons_zero, List.getElem_cons_succ, List.setIfInBounds_toArray, List.set_cons_zero, List.set_cons_succ]
    refine wpAnyH_take (i := 5) (v := ?_) rfl (by kernel_rfl) (by kernel_rfl) (by kernel_rfl) (fun _ _ _ h => nomatch h.1) (Or.inl ⟨by rfl, ?hys5⟩) hHeld ?rests5
    case hys5 => intro W' hSw; (obtain ⟨q0, q1, q2⟩ := hSw); go_simp <;> with_reducible rfl
    try simp only [Act.put, List.getElem_toArray, List.getElem_cons_zero, List.getElem_cons_succ, List.setIfInBounds_toArray, List.set_cons_zero, List.set_cons_succ]
    refine wpAnyH_done (by kernel_rfl) ⟨rfl, ?_⟩ _
    gi_wp2
    have hdr : TokX w (D0 ++ [(⟨xk, xn, xt, xp⟩, xe)]) X.drew := HX.out.grown (row := none) ⟨rfl, rfl, rfl, Nat.le_refl _, fun _ _ _ => rfl⟩ (fun r e => by cases e) (fun r e => by cases e)
    have hpu : TokX w (D0 ++ [(⟨xk, xn, xt, xp⟩, xe)]) (X.drew.putObj D (.deferred none)) := hdr.grown (grownBy_putObj' X.drew D _) (fun r e => by cases e; omega) (fun r e => by cases e; exact ⟨_, HDK.out, rfl⟩)
    refine ⟨by simp, .inl ⟨_, _, rfl, run_takeDeferred HDK.out, ?_⟩⟩
    refine ⟨_, results_tmp3 rfl _ _ _, hpu.low, ?_⟩
    rw [HRES.out]
    rfl
end Go.Proofs.YtclhpedecimicaaDoor
