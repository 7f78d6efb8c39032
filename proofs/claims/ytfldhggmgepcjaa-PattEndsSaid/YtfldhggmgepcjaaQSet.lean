/-
  The landed code's set.
-/
import Derived.Test.YtfldhggmgepcjaaQClose
import Derived.Test.YtfldhggmgepcjaaQSetP
import Derived.Deep.AppendLies
import Derived.Deep.RegionLaw
import Derived.IntWalk
import Derived.Deep.CutRange
namespace Go.Proofs.Ytfldhggmgepcjaa
set_option maxRecDepth 100000
open Go Go.RowKit

theorem mbV_iface (x : Mb) : ∃ t v, mbV x = .iface t v := by cases x <;> exact ⟨_, _, rfl⟩
theorem setR_len {L : Pl} {q E p : Nat} {F ms : List Mb} (h : SetR L q E F p ms) : ms.length ≤ F.length := by
  obtain ⟨-, -, ⟨rfl, -⟩ | ⟨h3, -⟩⟩ := h
  · simp
  · rw [h3]; simp
theorem own_below {B : Nat} {t : TypeId} {w W : World} {v : Value} {n : Nat} {xs : List Value} (h : w.ownsRow B t 1 v n xs) (hb : Below w.heap.size w W) : W.ownsRow B t 1 v n xs :=
  h.kept (row := none) ⟨hb.os, hb.tape, hb.output, hb.size, fun k hk _ => hb.block k hk⟩ (by
    cases hv : v.ownBlock with
    | none => exact Or.inl rfl
    | some k => exact Or.inr (by simp))
theorem mbsF_len : ∀ (f : Nat) (L : Pl), L.length < f → (mbsF f L).length ≤ L.length
  | 0, _, h => by omega
  | f + 1, L, h => by
    unfold mbsF
    split
    · simp
    · rename_i hL
      split
      · simp
      · have h3 := mbN_pos L
        have h4 := List.length_pos_iff.2 hL
        have := mbsF_len f (L.drop (mbN L)) (by rw [List.length_drop]; omega)
        rw [List.length_drop] at this
        simp only [List.length_cons]; omega
theorem mbs_len (L : Pl) : (mbs L).length ≤ L.length := mbsF_len _ _ (by omega)
theorem grown_blk {F k : Nat} {t : TypeId} {wn w6 : World} {ob o : Obj} {v : Value} {n : Nat} {xs : List Value} (h : wn.ownsRow (F + 1) t 1 v n xs) (hg : (wn.alloc ob).grownBy w6 v.ownBlock) (hk : wn.heap[k]? = some o) (hkF : k ≤ F) : w6.heap[k]? = some o := by
  have h1 := kept (below_box wn ob) hk
  rw [hg.block k (lt_of_block h1) (fun e => by have := (h.lt k e.symm).1; omega)]
  exact h1
theorem own_set {F j : Nat} {t : TypeId} {w : World} {v u : Value} {n : Nat} {xs : List Value} (h : w.ownsRow (F + 1) t 1 v n xs) : (w.setCell ⟨F, j, none⟩ u).ownsRow (F + 1) t 1 v n xs :=
  h.kept (row := some F) ⟨rfl, rfl, rfl, by rw [set_size]; exact Nat.le_refl _, fun k _ hne => Below.heap_setCell _ _ _ _ (fun e => hne (by rw [e]))⟩ (by
    cases hv : v.ownBlock with
    | none => exact Or.inl rfl
    | some k => refine Or.inr fun e => ?_; have := (h.lt k hv).1; cases e; omega)
theorem own_set_low {B k j : Nat} {t : TypeId} {w : World} {v u : Value} {n : Nat} {xs : List Value} (hk : k < B) (h : w.ownsRow B t 1 v n xs) : (w.setCell ⟨k, j, none⟩ u).ownsRow B t 1 v n xs :=
  h.kept (row := some k) ⟨rfl, rfl, rfl, by rw [set_size]; exact Nat.le_refl _, fun i _ hne => Below.heap_setCell _ _ _ _ (fun e => hne (by rw [e]))⟩ (by
    cases hv : v.ownBlock with
    | none => exact Or.inl rfl
    | some i => refine Or.inr fun e => ?_; have := (h.lt i hv).1; cases e; omega)
theorem own_weak {B B' : Nat} {t : TypeId} {w : World} {v : Value} {n : Nat} {xs : List Value} (h : w.ownsRow B t 1 v n xs) (hb : B' ≤ B) : w.ownsRow B' t 1 v n xs := by
  obtain ⟨h1, h2 | ⟨g, cap, cur, a, b, r⟩⟩ := h
  · exact ⟨h1, Or.inl h2⟩
  · exact ⟨h1, Or.inr ⟨g, cap, cur, a, Nat.le_trans hb b, r⟩⟩
/-- What set answers. -/
def SetAns (w : World) (i : Nat) : Option (Bool × List Mb × Nat) → Ending → World → Prop
  | none, e, w' => e = .returned (.tuple #[.agg #[.bool false, .slice none 0 0], .int .i64 0, .bool false]) ∧ Below w.heap.size w w'
  | some (t, l, n), e, w' => ∃ v, e = .returned (.tuple #[.agg #[.bool t, v], .int .i64 ((i + n : Nat) : Int), .bool true]) ∧ w'.ownsRow w.heap.size 39 1 v l.length (l.map mbV) ∧ Below w.heap.size w w'
theorem infoWt : (Try.prog.info? 39).map (fun i => (i.zero, i.size, i.bytes)) = some (some .nilIface, 1, 16) := by kernel_rfl

theorem below_nextq {n : Nat} {A B B' C : World} (h : Below n A B) (k : Below B'.heap.size B' C) (hn : n ≤ B.heap.size) (e : B'.os = B.os ∧ B'.tape = B.tape ∧ B'.output = B.output ∧ B'.heap = B.heap) : Below n A C := by
  have h' : Below n A B' := ⟨e.1.trans h.os, e.2.1.trans h.tape, e.2.2.1.trans h.output, by rw [e.2.2.2]; exact h.size, by rw [e.2.2.2]; exact h.block⟩
  exact h'.trans (k.mono (by rw [e.2.2.2]; exact hn))

set_option maxHeartbeats 8000000 in
theorem lset (P Q : ByteArray) (hP : P.size ≤ 100000) (g i : Nat) (hi : i ≤ P.size) (x : Int) (hx : x = (i : Int)) (w : World) (hG : RowAt w g (closesL (plL P.data.toList Q.data.toList)) 3) : Calls Try.prog 32 #[.agg #[.string P, .string Q, .slice (some ⟨g, 0, none⟩) (P.size + 1) (P.size + 1)], .int .i64 x] w (SetAns w i (setP ((plL P.data.toList Q.data.toList).drop i))) := by
  subst hx
  have HG := Lib.hid hG
  have HK := Lib.hid (fun j c x y hx hy W => lplain P Q (some ⟨g, 0, none⟩) (P.size + 1) (P.size + 1) j c x y hx hy W)
  have HM := Lib.hid (fun j hj x hx W => lbehind P Q hP (some ⟨g, 0, none⟩) (P.size + 1) (P.size + 1) j hj x hx W)
  have HE := Lib.hid (fun j hj x hx W => lmember P Q hP (some ⟨g, 0, none⟩) (P.size + 1) (P.size + 1) j hj x hx W)
  obtain ⟨L, hL⟩ : ∃ L, L = plL P.data.toList Q.data.toList := ⟨_, rfl⟩
  have HLP := Lib.hid (show L.length = P.size by rw [hL, pl_len, size_data])
  rw [← hL] at HK HM HE HG ⊢
  clear hL hG
  obtain ⟨w2, hw2, hb2, hs2, hP2, hR2⟩ := two_boxes w #[.string P, .string Q, .slice (some ⟨g, 0, none⟩) (P.size + 1) (P.size + 1)] #[.bool false, .slice none 0 0] 51 73
  have HW2 := Lib.hid hw2
  have HB2 := Lib.hid hb2
  have HP2 := Lib.hid (show PatAt w2 w.heap.size P Q (some ⟨g, 0, none⟩) (P.size + 1) (P.size + 1) from hP2)
  have HR2 := Lib.hid hR2
  have HS2 := Lib.hid hs2
  clear hw2 hb2 hs2 hP2 hR2
  obtain ⟨q, hq⟩ : ∃ q, q = i + bang (L.drop i) := ⟨_, rfl⟩
  have HQ := Lib.hid hq
  rw [bang_at] at hq
  have C1 := HK.out i 33 (i : Int) 33 rfl rfl
  have hq2 : q ≤ P.size := by
    split at hq
    · rename_i h; have := isP_lt h; have := HLP.out; omega
    · omega
  by_cases hA : q = P.size
  · have HANS := Lib.hid (setP_none HQ.out (Or.inl (by have := HLP.out; omega)))
    rw [HANS.out]
    have hqs : ((q : Int) == (P.size : Int)) = true := by simp [hA]
    have hqs2 : (q == P.size) = true := by simp [hA]
    clear hA HQ HANS
    cases hbb : isP L i 33
    all_goals
      rw [hbb] at C1 hq
      first | (have hqe : (i : Int) + 1 = (q : Int) := by simp at hq; omega) | (obtain rfl : q = i := by simp at hq; omega)
      first | clear hq | skip
      go_enter Try.func32, Try.ntmps32
      go_wp2_with fail
      rw [← HW2.out]
      refine (C1 _).mono ?_
      rintro e w3 ⟨rfl, hb⟩
      have HP3 := Lib.hid (HP2.out.below hb)
      have HR3 := Lib.hid (kept hb HR2.out)
      have HB3 := Lib.hid (below_two HB2.out hb)
      have hs3 := hb.size
      obtain ⟨c0, c1, c2⟩ := HP3.out.cells
      have r0 := blk_free HR3.out 0
      have r1 := blk_free HR3.out 1
      have e0 := blk_cell HR3.out 0
      have e1 := blk_cell HR3.out 1
      have hl0 : w.heap.size < w3.heap.size := by have := HS2.out; omega
      have hl1 : w.heap.size + 1 < w3.heap.size := by have := HS2.out; omega
      clear hb hs3
      have HPUT := Lib.hid (show ∃ wf, wf = (w3.setCell ⟨w.heap.size + 1, 0, none⟩ (.bool false)).setCell ⟨w.heap.size + 1, 1, none⟩ (.slice none 0 0) ∧ wf.cell? ⟨w.heap.size + 1, 0, none⟩ = some (.bool false) ∧ wf.cell? ⟨w.heap.size + 1, 1, none⟩ = some (.slice none 0 0) ∧ Below w.heap.size w wf from
        ⟨_, rfl, blk_cell (blk_set (blk_set HR3.out 0 _) 1 _) 0, blk_cell (blk_set (blk_set HR3.out 0 _) 1 _) 1, (HB3.out.setCell (show w.heap.size ≤ w.heap.size + 1 by omega) _).setCell (show w.heap.size ≤ w.heap.size + 1 by omega) _⟩)
      go_wp2_with fail
      obtain ⟨wf, hwf, z0, z1, hbf⟩ := HPUT.out
      rw [← hwf]
      have hl2 : w.heap.size + 1 < wf.heap.size := cell_lt z0
      clear hwf
      exact bodyPost_ret (v := .tuple #[.agg #[.bool false, .slice none 0 0], .int .i64 0, .bool false]) (by simp [results, Try.results32, go_sem, z0, z1, hl2]) rfl ⟨rfl, hbf.alloc (by have := hbf.size; omega) _⟩
  · have hql : q < P.size := by omega
    have hqs : ((q : Int) == (P.size : Int)) = false := by simp; omega
    have hqs2 : (q == P.size) = false := by simp; omega
    have hqi : (q : Int) < (P.size : Int) := by omega
    obtain ⟨m, hm⟩ : ∃ m, m = q + mbN (L.drop q) := ⟨_, rfl⟩
    have C2 := HM.out q (by omega) (q : Int) rfl
    rw [← hm] at C2
    have hml : q < m ∧ m ≤ P.size := by
      have h1 := mbN_pos (L.drop q)
      have hL0 : L.drop q ≠ [] := by
        intro e
        have := congrArg List.length e
        rw [List.length_drop, HLP.out] at this
        simp at this; omega
      have h2 := mbN_le hL0
      rw [List.length_drop, HLP.out] at h2
      omega
    have hm0 : (0 : Int) ≤ (m : Int) := by omega
    have hm1 : (m : Int) < (P.size : Int) + 1 := by omega
    obtain ⟨V, hV⟩ : ∃ V, V = clAt L m := ⟨_, rfl⟩
    have HGL := Lib.hid (show ∀ W, Below w.heap.size w W → W.cell? ⟨g, m, none⟩ = some (.int .i64 V) from fun W hW => by
      rw [hV]
      exact (HG.out.below hW).cell (closes_get L m (by rw [HLP.out]; exact hml.2)))
    have HM2 := Lib.hid hm
    cases hk : clE (L.drop m) with
    | none =>
      have HANS := Lib.hid (setP_none HQ.out (Or.inr (by rw [← hm]; exact hk)))
      rw [HANS.out]
      have hV1 : V = -1 := by rw [hV]; unfold clAt; rw [hk]
      subst hV1
      clear hV hA hm HQ HANS hk HM2 hml
      cases hbb : isP L i 33
      case false =>
        rw [hbb] at C1 hq
        first | (have hqe : (i : Int) + 1 = (q : Int) := by simp at hq; omega) | (obtain rfl : q = i := by simp at hq; omega)
        first | clear hq | skip
        go_enter Try.func32, Try.ntmps32
        go_wp2_with fail
        rw [← HW2.out]
        refine (C1 _).mono ?_
        rintro e w3 ⟨rfl, hb⟩
        have HP3 := Lib.hid (HP2.out.below hb)
        have HR3 := Lib.hid (kept hb HR2.out)
        have HB3 := Lib.hid (below_two HB2.out hb)
        have hs3 := hb.size
        obtain ⟨c0, c1, c2⟩ := HP3.out.cells
        have r0 := blk_free HR3.out 0
        have r1 := blk_free HR3.out 1
        have e0 := blk_cell HR3.out 0
        have e1 := blk_cell HR3.out 1
        have hl0 : w.heap.size < w3.heap.size := by have := HS2.out; omega
        have hl1 : w.heap.size + 1 < w3.heap.size := by have := HS2.out; omega
        clear hb hs3
        go_upto_region 6 with fail
        obtain ⟨w4, hw4⟩ : ∃ w4, w4 = w3.alloc (.cells #[.bool false, .slice none 0 0] 73) := ⟨_, rfl⟩
        rw [← hw4]
        have hb4 : Below w3.heap.size w3 w4 := by rw [hw4]; exact below_box _ _
        have HF4 := Lib.hid (show w4.heap[w3.heap.size]? = some (.cells #[.bool false, .slice none 0 0] 73 (0, 0)) by rw [hw4]; exact new_block _ _)
        have HS4 := Lib.hid (show w4.heap.size = w3.heap.size + 1 by rw [hw4]; simp)
        have HP4 := Lib.hid (HP3.out.below hb4)
        have HR4 := Lib.hid (kept hb4 HR3.out)
        have HB4 := Lib.hid (below_two HB3.out hb4)
        clear c0 c1 c2 r0 r1 e0 e1 hw4 hb4
        obtain ⟨F, hF⟩ : ∃ F, F = w3.heap.size := ⟨_, rfl⟩
        rw [← hF] at HF4 HS4 hl0 hl1 ⊢
        clear hF
        have HFK := Lib.hid (show w.heap.size + 1 < F from hl1)
        have H1 := Lib.hid (grown_call (wb := w4) fun W _ => C2 W)
        obtain ⟨c0, c1, c2⟩ := HP4.out.cells
        have f0 := grown_cell c0
        have f1 := grown_cell c1
        have f2 := grown_cell c2
        have f3 := grown_cell (HGL.out _ HB4.out)
        clear c0 c1 c2
        refine wp_region_grown (by kernel_rfl) (by kernel_rfl) ?_
        repeat (first | go_big_quiet_skip | (go_big_quiet_want; go_big_quiet_op; (first | go_big_quiet_on | (with_reducible refine ⟨_, H1.out, ?_⟩; go_big_quiet_on))))
        refine wpQuiet_nil ?_
        intro w5 hw5
        have hbg : Below w4.heap.size w4 w5 := by obtain ⟨x, rfl⟩ := hw5; exact x.below
        have HP5 := Lib.hid (HP4.out.below hbg)
        have HF5 := Lib.hid (kept hbg HF4.out)
        have HR5 := Lib.hid (kept hbg HR4.out)
        have HB5 := Lib.hid (below_two HB4.out hbg)
        have HS5 := Lib.hid (show F < w5.heap.size by have := hbg.size; have := HS4.out; omega)
        clear hw5 hbg f0 f1 f2 f3 H1
        have HPUT := Lib.hid (show ∃ wf, wf = (w5.setCell ⟨w.heap.size + 1, 0, none⟩ (.bool false)).setCell ⟨w.heap.size + 1, 1, none⟩ (.slice none 0 0) ∧ wf.cell? ⟨w.heap.size + 1, 0, none⟩ = some (.bool false) ∧ wf.cell? ⟨w.heap.size + 1, 1, none⟩ = some (.slice none 0 0) ∧ Below w.heap.size w wf from
          ⟨_, rfl, blk_cell (blk_set (blk_set HR5.out 0 _) 1 _) 0, blk_cell (blk_set (blk_set HR5.out 0 _) 1 _) 1, (HB5.out.setCell (show w.heap.size ≤ w.heap.size + 1 by omega) _).setCell (show w.heap.size ≤ w.heap.size + 1 by omega) _⟩)
        have r0 := blk_free HR5.out 0
        have r1 := blk_free HR5.out 1
        have e0 := blk_cell HR5.out 0
        have e1 := blk_cell HR5.out 1
        go_wp2_with fail
        obtain ⟨wf, hwf, z0, z1, hbf⟩ := HPUT.out
        rw [← hwf]
        clear hwf
        exact bodyPost_ret (v := .tuple #[.agg #[.bool false, .slice none 0 0], .int .i64 0, .bool false]) (by simp [results, Try.results32, go_sem, z0, z1]) rfl ⟨rfl, hbf⟩
      case true =>
        rw [hbb] at C1 hq
        first | (have hqe : (i : Int) + 1 = (q : Int) := by simp at hq; omega) | (obtain rfl : q = i := by simp at hq; omega)
        first | clear hq | skip
        go_enter Try.func32, Try.ntmps32
        go_wp2_with fail
        rw [← HW2.out]
        refine (C1 _).mono ?_
        rintro e w3 ⟨rfl, hb⟩
        have HP3 := Lib.hid (HP2.out.below hb)
        have HR3 := Lib.hid (kept hb HR2.out)
        have HB3 := Lib.hid (below_two HB2.out hb)
        have hs3 := hb.size
        obtain ⟨c0, c1, c2⟩ := HP3.out.cells
        have r0 := blk_free HR3.out 0
        have r1 := blk_free HR3.out 1
        have e0 := blk_cell HR3.out 0
        have e1 := blk_cell HR3.out 1
        have hl0 : w.heap.size < w3.heap.size := by have := HS2.out; omega
        have hl1 : w.heap.size + 1 < w3.heap.size := by have := HS2.out; omega
        clear hb hs3
        go_upto_region 6 with fail
        obtain ⟨w4, hw4⟩ : ∃ w4, w4 = w3.alloc (.cells #[.bool true, .slice none 0 0] 73) := ⟨_, rfl⟩
        rw [← hw4]
        have hb4 : Below w3.heap.size w3 w4 := by rw [hw4]; exact below_box _ _
        have HF4 := Lib.hid (show w4.heap[w3.heap.size]? = some (.cells #[.bool true, .slice none 0 0] 73 (0, 0)) by rw [hw4]; exact new_block _ _)
        have HS4 := Lib.hid (show w4.heap.size = w3.heap.size + 1 by rw [hw4]; simp)
        have HP4 := Lib.hid (HP3.out.below hb4)
        have HR4 := Lib.hid (kept hb4 HR3.out)
        have HB4 := Lib.hid (below_two HB3.out hb4)
        clear c0 c1 c2 r0 r1 e0 e1 hw4 hb4
        obtain ⟨F, hF⟩ : ∃ F, F = w3.heap.size := ⟨_, rfl⟩
        rw [← hF] at HF4 HS4 hl0 hl1 ⊢
        clear hF
        have HFK := Lib.hid (show w.heap.size + 1 < F from hl1)
        have H1 := Lib.hid (grown_call (wb := w4) fun W _ => C2 W)
        obtain ⟨c0, c1, c2⟩ := HP4.out.cells
        have f0 := grown_cell c0
        have f1 := grown_cell c1
        have f2 := grown_cell c2
        have f3 := grown_cell (HGL.out _ HB4.out)
        clear c0 c1 c2
        refine wp_region_grown (by kernel_rfl) (by kernel_rfl) ?_
        repeat (first | go_big_quiet_skip | (go_big_quiet_want; go_big_quiet_op; (first | go_big_quiet_on | (with_reducible refine ⟨_, H1.out, ?_⟩; go_big_quiet_on))))
        refine wpQuiet_nil ?_
        intro w5 hw5
        have hbg : Below w4.heap.size w4 w5 := by obtain ⟨x, rfl⟩ := hw5; exact x.below
        have HP5 := Lib.hid (HP4.out.below hbg)
        have HF5 := Lib.hid (kept hbg HF4.out)
        have HR5 := Lib.hid (kept hbg HR4.out)
        have HB5 := Lib.hid (below_two HB4.out hbg)
        have HS5 := Lib.hid (show F < w5.heap.size by have := hbg.size; have := HS4.out; omega)
        clear hw5 hbg f0 f1 f2 f3 H1
        have HPUT := Lib.hid (show ∃ wf, wf = (w5.setCell ⟨w.heap.size + 1, 0, none⟩ (.bool false)).setCell ⟨w.heap.size + 1, 1, none⟩ (.slice none 0 0) ∧ wf.cell? ⟨w.heap.size + 1, 0, none⟩ = some (.bool false) ∧ wf.cell? ⟨w.heap.size + 1, 1, none⟩ = some (.slice none 0 0) ∧ Below w.heap.size w wf from
          ⟨_, rfl, blk_cell (blk_set (blk_set HR5.out 0 _) 1 _) 0, blk_cell (blk_set (blk_set HR5.out 0 _) 1 _) 1, (HB5.out.setCell (show w.heap.size ≤ w.heap.size + 1 by omega) _).setCell (show w.heap.size ≤ w.heap.size + 1 by omega) _⟩)
        have r0 := blk_free HR5.out 0
        have r1 := blk_free HR5.out 1
        have e0 := blk_cell HR5.out 0
        have e1 := blk_cell HR5.out 1
        go_wp2_with fail
        obtain ⟨wf, hwf, z0, z1, hbf⟩ := HPUT.out
        rw [← hwf]
        clear hwf
        exact bodyPost_ret (v := .tuple #[.agg #[.bool false, .slice none 0 0], .int .i64 0, .bool false]) (by simp [results, Try.results32, go_sem, z0, z1]) rfl ⟨rfl, hbf⟩
    | some k =>
      obtain ⟨E, hE⟩ : ∃ E, E = m + k := ⟨_, rfl⟩
      have HANS := Lib.hid (setP_some HQ.out (by rw [HLP.out]; exact hql) (by rw [← hm]; exact hk))
      rw [HANS.out]
      have hV1 : V = (E : Int) := by rw [hV, hE]; unfold clAt; rw [hk]
      have hEL : E < P.size := by
        have := (clE_lt _ _ (Nat.le_refl _) k hk).1
        rw [List.length_drop, HLP.out] at this
        omega
      have HN := Lib.hid (show i + (q + mbN (L.drop q) + k + 1 - i) = E + 1 by rw [hE, hm]; have := HQ.out; omega)
      obtain ⟨FL, hFL⟩ : ∃ FL, FL = mbF (L.drop q) :: mbs (L.drop (q + mbN (L.drop q))) := ⟨_, rfl⟩
      have HSR := Lib.hid (show SetR L q E FL q [] from ⟨Nat.le_refl _, by omega, Or.inl ⟨rfl, rfl, by omega, by rw [← hm]; omega, hFL, by rw [← hm, hk]; congr 1; omega⟩⟩)
      have HFLN := Lib.hid (show FL.length ≤ P.size + 1 by
        rw [hFL]
        have h2 := mbs_len (L.drop (q + mbN (L.drop q)))
        rw [List.length_drop, HLP.out] at h2
        simp only [List.length_cons]; omega)
      rw [← hFL]
      subst hV1
      have hEv : ((E : Int) == -1) = false := by rw [beq_eq_false_iff_ne]; omega
      have hqE : q < E := by omega
      clear hV hA hm HANS hk HM2 hml hE hFL
      cases hbb : isP L i 33
      case false =>
        rw [hbb] at C1 hq
        first | (have hqe : (i : Int) + 1 = (q : Int) := by simp at hq; omega) | (obtain rfl : q = i := by simp at hq; omega)
        first | clear hq | skip
        go_enter Try.func32, Try.ntmps32
        go_wp2_with fail
        rw [← HW2.out]
        refine (C1 _).mono ?_
        rintro e w3 ⟨rfl, hb⟩
        have HP3 := Lib.hid (HP2.out.below hb)
        have HR3 := Lib.hid (kept hb HR2.out)
        have HB3 := Lib.hid (below_two HB2.out hb)
        have hs3 := hb.size
        obtain ⟨c0, c1, c2⟩ := HP3.out.cells
        have r0 := blk_free HR3.out 0
        have r1 := blk_free HR3.out 1
        have e0 := blk_cell HR3.out 0
        have e1 := blk_cell HR3.out 1
        have hl0 : w.heap.size < w3.heap.size := by have := HS2.out; omega
        have hl1 : w.heap.size + 1 < w3.heap.size := by have := HS2.out; omega
        clear hb hs3
        go_upto_region 6 with fail
        obtain ⟨w4, hw4⟩ : ∃ w4, w4 = w3.alloc (.cells #[.bool false, .slice none 0 0] 73) := ⟨_, rfl⟩
        rw [← hw4]
        have hb4 : Below w3.heap.size w3 w4 := by rw [hw4]; exact below_box _ _
        have HF4 := Lib.hid (show w4.heap[w3.heap.size]? = some (.cells #[.bool false, .slice none 0 0] 73 (0, 0)) by rw [hw4]; exact new_block _ _)
        have HS4 := Lib.hid (show w4.heap.size = w3.heap.size + 1 by rw [hw4]; simp)
        have HP4 := Lib.hid (HP3.out.below hb4)
        have HR4 := Lib.hid (kept hb4 HR3.out)
        have HB4 := Lib.hid (below_two HB3.out hb4)
        clear c0 c1 c2 r0 r1 e0 e1 hw4 hb4
        obtain ⟨F, hF⟩ : ∃ F, F = w3.heap.size := ⟨_, rfl⟩
        rw [← hF] at HF4 HS4 hl0 hl1 ⊢
        clear hF
        have HFK := Lib.hid (show w.heap.size + 1 < F from hl1)
        have H1 := Lib.hid (grown_call (wb := w4) fun W _ => C2 W)
        obtain ⟨c0, c1, c2⟩ := HP4.out.cells
        have f0 := grown_cell c0
        have f1 := grown_cell c1
        have f2 := grown_cell c2
        have f3 := grown_cell (HGL.out _ HB4.out)
        clear c0 c1 c2
        refine wp_region_grown (by kernel_rfl) (by kernel_rfl) ?_
        repeat (first | go_big_quiet_skip | (go_big_quiet_want; go_big_quiet_op; (first | go_big_quiet_on | (with_reducible refine ⟨_, H1.out, ?_⟩; go_big_quiet_on))))
        refine wpQuiet_nil ?_
        intro w5 hw5
        have hbg : Below w4.heap.size w4 w5 := by obtain ⟨x, rfl⟩ := hw5; exact x.below
        have HP5 := Lib.hid (HP4.out.below hbg)
        have HF5 := Lib.hid (kept hbg HF4.out)
        have HR5 := Lib.hid (kept hbg HR4.out)
        have HB5 := Lib.hid (below_two HB4.out hbg)
        have HS5 := Lib.hid (show F < w5.heap.size by have := hbg.size; have := HS4.out; omega)
        clear hw5 hbg f0 f1 f2 f3 H1
        go_wp2_with fail
        go_loopw [1] (fun v wr => ∃ p ms oa oc, v = .int .i64 ((p : Nat) : Int) ∧ p ≤ E ∧ Hid (SetR L q E FL p ms) ∧ Hid (wr.ownsRow (F + 1) 39 1 (.slice oa ms.length oc) ms.length (ms.map mbV)) ∧ Hid (wr.heap[F]? = some (.cells #[.bool false, .slice oa ms.length oc] 73 (0, 0))) ∧
          Hid (PatAt wr w.heap.size P Q (some ⟨g, 0, none⟩) (P.size + 1) (P.size + 1)) ∧ Hid (wr.heap[w.heap.size + 1]? = some (.cells #[.bool false, .slice none 0 0] 73 (0, 0))) ∧ Hid (Below w.heap.size w wr)) (fun v _ => E - (intOf v).toNat)
        case atStart => exact ⟨q, [], none, 0, rfl, by omega, HSR.out, World.ownsRow_nil _ _ _ _, HF5.out, HP5.out, HR5.out, HB5.out⟩
        case round =>
          obtain ⟨p, ms, oa, oc, rfl, hpE, HSP, HO, HFR, HPR, HRR, HBR⟩ := hrel
          by_cases hlt : p < E
          · have hpP : p < P.size := by omega
            have hpi : (p : Int) < (E : Int) := by omega
            have C3 := HE.out p hpP (p : Int) rfl
            have C4 := HM.out p (by omega) (p : Int) rfl
            have HSN := Lib.hid (setR_next HSP.out hlt (by rw [HLP.out]; exact hEL))
            obtain ⟨p', hp'⟩ : ∃ p', p' = p + mbN (L.drop p) := ⟨_, rfl⟩
            rw [← hp'] at C4 HSN
            have hpp : p < p' := by have := mbN_pos (L.drop p); omega
            have hpE' : p' ≤ E := HSN.out.2.1
            obtain ⟨ti, vi, hX⟩ := mbV_iface (mbF (L.drop p))
            rw [hX] at C3
            obtain ⟨n, hn⟩ : ∃ n, n = ms.length := ⟨_, rfl⟩
            rw [← hn] at HO HFR
            have hnP : n ≤ 200000 := by
              have := setR_len HSP.out
              have := HFLN.out
              omega
            have HX := Lib.hid hX
            have HNN := Lib.hid hn
            have HFC := Lib.hid (show ∀ W, Below wr.heap.size wr W → (W.ownsRow (F + 1) 39 1 (.slice oa n oc) n (ms.map mbV) ∧ W.heap[F]? = some (.cells #[.bool false, .slice oa n oc] 73 (0, 0)) ∧ PatAt W w.heap.size P Q (some ⟨g, 0, none⟩) (P.size + 1) (P.size + 1) ∧ W.heap[w.heap.size + 1]? = some (.cells #[.bool false, .slice none 0 0] 73 (0, 0)) ∧ Below w.heap.size w W) from
              fun W hW => ⟨own_below HO.out hW, kept hW HFR.out, HPR.out.below hW, kept hW HRR.out, below_two HBR.out hW⟩)
            have hFr : F < wr.heap.size := lt_of_block HFR.out
            have hF0 : F + 1 ≤ wr.heap.size := hFr
            obtain ⟨c0, c1, c2⟩ := HPR.out.cells
            have d1 := blk_cell HFR.out 1
            have fr1 := blk_free HFR.out 1
            clear hX hn hp'
            go_upto_region 10 with fail
            go_cut [] from 33 to 46 (fun wx => ∃ oa' oc', wx.ownsRow (F + 1) 39 1 (.slice oa' (n + 1) oc') (n + 1) (ms.map mbV ++ [.iface ti vi]) ∧ wx.heap[F]? = some (.cells #[.bool false, .slice oa' (n + 1) oc'] 73 (0, 0)) ∧ PatAt wx w.heap.size P Q (some ⟨g, 0, none⟩) (P.size + 1) (P.size + 1) ∧ wx.heap[w.heap.size + 1]? = some (.cells #[.bool false, .slice none 0 0] 73 (0, 0)) ∧ Below w.heap.size w wx)
            case first =>
              obtain ⟨i0, hi0, hz0, hz1, hz2⟩ := info_parts infoWt
              go_region_law (first
                | (refine step_append_lies _ (by rfl) _ _ _ (by rfl) (F + 1) 39 i0 _ 1 16 Try.underlying31 hi0 hz0 hz1 hz2 rfl (by omega) (.slice oa n oc) n (ms.map mbV) (by rfl) (HO6.out.alloc _)
                    ⟨wn.heap.size, 0, none⟩ 1 1 [.iface ti vi] (by rfl) (by rfl) (World.news_of_block (cs := #[.iface ti vi]) (t := 39) (fr := (0, 0)) (heap_alloc_new wn _)) (by simp [Value.oneCell'])
                    (by omega) (by unfold maxLen; omega) (by omega) (by simp; omega) (wn.heap.size + 1) (by simp) ?_; intro gg cap w6 hown hgrow hat hlt6; have HOW := Lib.hid hown; have HF8 := Lib.hid (grown_blk HO6.out hgrow HFF.out.1 (Nat.le_refl _)); have HP8 := Lib.hid (grown_blk HO6.out hgrow HFF.out.2.1 (by have := HFK.out; omega)); have HR8 := Lib.hid (grown_blk HO6.out hgrow HFF.out.2.2.1 (by have := HFK.out; omega)); have HB8 := Lib.hid ((HFF.out.2.2.2.alloc HFF.out.2.2.2.size _).grown hgrow (by have := HFF.out.2.2.2.size; simp; omega) (fun r hr => by have := (HO6.out.lt r hr).1; have := HFK.out; omega)); have d1 := blk_cell HF8.out 1; have fr1 := blk_free HF8.out 1; clear hown hgrow hat)
                | (go_simp; go_at_call 39; refine (C3 _).mono ?_; rintro e wn ⟨rfl, hbn⟩; obtain ⟨HO6', HF6', HP6', HR6', HB6'⟩ := HFC.out wn ⟨hbn.os, hbn.tape, hbn.output, hbn.size, hbn.block⟩; have HO6 := Lib.hid HO6'; have HFF := Lib.hid (And.intro HF6' (And.intro HP6' (And.intro HR6' HB6'))); have d1 := blk_cell HF6' 1; have fr1 := blk_free HF6' 1; obtain ⟨c0, c1, c2⟩ := HP6'.cells; have hln := lt_of_block HF6'))
              all_goals
                go_wp2_with fail
                go_meet
                exact ⟨_, _, own_set HOW.out, by have h := blk_set HF8.out 1 (.slice (some ⟨gg, 0, none⟩) (n + 1) cap); exact h, (Below.heap_setCell _ _ _ _ (show w.heap.size ≠ F by have := HFK.out; omega)).trans HP8.out, (Below.heap_setCell _ _ _ _ (show w.heap.size + 1 ≠ F by have := HFK.out; omega)).trans HR8.out, HB8.out.setCell (show w.heap.size ≤ F by have := HFK.out; omega) _⟩
            case rest =>
            obtain ⟨oa2, oc2, hO2, hF2, hP2, hR2, hB2⟩ := hcut
            have HO2 := Lib.hid hO2
            have HF2 := Lib.hid hF2
            have HPc := Lib.hid hP2
            have HRc := Lib.hid hR2
            have HBc := Lib.hid hB2
            clear hO2 hF2 hP2 hR2 hB2 c0 c1 c2 d1 fr1
            obtain ⟨c0, c1, c2⟩ := HPc.out.cells
            go_wp2_with fail
            refine (C4 _).mono ?_
            rintro e w9 ⟨rfl, hb⟩
            have e1 : (ms ++ [mbF (L.drop p)]).length = n + 1 := by simp [HNN.out]
            have e2 : (ms ++ [mbF (L.drop p)]).map mbV = ms.map mbV ++ [.iface ti vi] := by simp [HX.out]
            have HREL := Lib.hid (show (w9.ownsRow (F + 1) 39 1 (.slice oa2 (ms ++ [mbF (L.drop p)]).length oc2) (ms ++ [mbF (L.drop p)]).length ((ms ++ [mbF (L.drop p)]).map mbV) ∧ w9.heap[F]? = some (.cells #[.bool false, .slice oa2 (ms ++ [mbF (L.drop p)]).length oc2] 73 (0, 0)) ∧ PatAt w9 w.heap.size P Q (some ⟨g, 0, none⟩) (P.size + 1) (P.size + 1) ∧ w9.heap[w.heap.size + 1]? = some (.cells #[.bool false, .slice none 0 0] 73 (0, 0)) ∧ Below w.heap.size w w9) from
              ⟨by rw [e1, e2]; exact own_below HO2.out hb, by rw [e1]; exact kept hb HF2.out, HPc.out.below hb, kept hb HRc.out, below_two HBc.out hb⟩)
            clear hb e1 e2 c0 c1 c2
            go_wp2_with fail
            go_roundw
            case rel => exact ⟨p', _, oa2, oc2, rfl, hpE', HSN.out, HREL.out.1, HREL.out.2.1, HREL.out.2.2.1, HREL.out.2.2.2.1, HREL.out.2.2.2.2⟩
            case measure => simp only [intOf]; omega
          · have hpE2 : ¬ (p : Int) < (E : Int) := by omega
            have HMS := Lib.hid (setR_end HSP.out hlt)
            have HPUT := Lib.hid (show ∃ wf, wf = (wr.setCell ⟨w.heap.size + 1, 0, none⟩ (.bool false)).setCell ⟨w.heap.size + 1, 1, none⟩ (.slice oa ms.length oc) ∧ wf.cell? ⟨w.heap.size + 1, 0, none⟩ = some (.bool false) ∧ wf.cell? ⟨w.heap.size + 1, 1, none⟩ = some (.slice oa ms.length oc) ∧ Below w.heap.size w wf ∧ wf.ownsRow (F + 1) 39 1 (.slice oa ms.length oc) ms.length (ms.map mbV) from
              ⟨_, rfl, blk_cell (blk_set (blk_set HRR.out 0 _) 1 _) 0, blk_cell (blk_set (blk_set HRR.out 0 _) 1 _) 1, (HBR.out.setCell (show w.heap.size ≤ w.heap.size + 1 by omega) _).setCell (show w.heap.size ≤ w.heap.size + 1 by omega) _, own_set_low (by have := HFK.out; omega) (own_set_low (by have := HFK.out; omega) HO.out)⟩)
            have d0 := blk_cell HFR.out 0
            have d1 := blk_cell HFR.out 1
            have r0 := blk_free HRR.out 0
            have r1 := blk_free HRR.out 1
            have e0 := blk_cell HRR.out 0
            have e1 := blk_cell HRR.out 1
            go_wp2_with fail
            obtain ⟨wf, hwf, z0, z1, hbf, hof⟩ := HPUT.out
            rw [← hwf]
            clear hwf
            refine bodyPost_ret (v := .tuple #[.agg #[.bool false, .slice oa ms.length oc], .int .i64 ((E : Int) + 1), .bool true]) (by simp [results, Try.results32, go_sem, z0, z1]) rfl ?_
            refine ⟨.slice oa ms.length oc, ?_, ?_, hbf⟩
            · rw [HN.out]; rfl
            · rw [← HMS.out]
              exact own_weak hof (by have := HFK.out; omega)
      case true =>
        rw [hbb] at C1 hq
        first | (have hqe : (i : Int) + 1 = (q : Int) := by simp at hq; omega) | (obtain rfl : q = i := by simp at hq; omega)
        first | clear hq | skip
        go_enter Try.func32, Try.ntmps32
        go_wp2_with fail
        rw [← HW2.out]
        refine (C1 _).mono ?_
        rintro e w3 ⟨rfl, hb⟩
        have HP3 := Lib.hid (HP2.out.below hb)
        have HR3 := Lib.hid (kept hb HR2.out)
        have HB3 := Lib.hid (below_two HB2.out hb)
        have hs3 := hb.size
        obtain ⟨c0, c1, c2⟩ := HP3.out.cells
        have r0 := blk_free HR3.out 0
        have r1 := blk_free HR3.out 1
        have e0 := blk_cell HR3.out 0
        have e1 := blk_cell HR3.out 1
        have hl0 : w.heap.size < w3.heap.size := by have := HS2.out; omega
        have hl1 : w.heap.size + 1 < w3.heap.size := by have := HS2.out; omega
        clear hb hs3
        go_upto_region 6 with fail
        obtain ⟨w4, hw4⟩ : ∃ w4, w4 = w3.alloc (.cells #[.bool true, .slice none 0 0] 73) := ⟨_, rfl⟩
        rw [← hw4]
        have hb4 : Below w3.heap.size w3 w4 := by rw [hw4]; exact below_box _ _
        have HF4 := Lib.hid (show w4.heap[w3.heap.size]? = some (.cells #[.bool true, .slice none 0 0] 73 (0, 0)) by rw [hw4]; exact new_block _ _)
        have HS4 := Lib.hid (show w4.heap.size = w3.heap.size + 1 by rw [hw4]; simp)
        have HP4 := Lib.hid (HP3.out.below hb4)
        have HR4 := Lib.hid (kept hb4 HR3.out)
        have HB4 := Lib.hid (below_two HB3.out hb4)
        clear c0 c1 c2 r0 r1 e0 e1 hw4 hb4
        obtain ⟨F, hF⟩ : ∃ F, F = w3.heap.size := ⟨_, rfl⟩
        rw [← hF] at HF4 HS4 hl0 hl1 ⊢
        clear hF
        have HFK := Lib.hid (show w.heap.size + 1 < F from hl1)
        have H1 := Lib.hid (grown_call (wb := w4) fun W _ => C2 W)
        obtain ⟨c0, c1, c2⟩ := HP4.out.cells
        have f0 := grown_cell c0
        have f1 := grown_cell c1
        have f2 := grown_cell c2
        have f3 := grown_cell (HGL.out _ HB4.out)
        clear c0 c1 c2
        refine wp_region_grown (by kernel_rfl) (by kernel_rfl) ?_
        repeat (first | go_big_quiet_skip | (go_big_quiet_want; go_big_quiet_op; (first | go_big_quiet_on | (with_reducible refine ⟨_, H1.out, ?_⟩; go_big_quiet_on))))
        refine wpQuiet_nil ?_
        intro w5 hw5
        have hbg : Below w4.heap.size w4 w5 := by obtain ⟨x, rfl⟩ := hw5; exact x.below
        have HP5 := Lib.hid (HP4.out.below hbg)
        have HF5 := Lib.hid (kept hbg HF4.out)
        have HR5 := Lib.hid (kept hbg HR4.out)
        have HB5 := Lib.hid (below_two HB4.out hbg)
        have HS5 := Lib.hid (show F < w5.heap.size by have := hbg.size; have := HS4.out; omega)
        clear hw5 hbg f0 f1 f2 f3 H1
        go_wp2_with fail
        go_loopw [1] (fun v wr => ∃ p ms oa oc, v = .int .i64 ((p : Nat) : Int) ∧ p ≤ E ∧ Hid (SetR L q E FL p ms) ∧ Hid (wr.ownsRow (F + 1) 39 1 (.slice oa ms.length oc) ms.length (ms.map mbV)) ∧ Hid (wr.heap[F]? = some (.cells #[.bool true, .slice oa ms.length oc] 73 (0, 0))) ∧
          Hid (PatAt wr w.heap.size P Q (some ⟨g, 0, none⟩) (P.size + 1) (P.size + 1)) ∧ Hid (wr.heap[w.heap.size + 1]? = some (.cells #[.bool false, .slice none 0 0] 73 (0, 0))) ∧ Hid (Below w.heap.size w wr)) (fun v _ => E - (intOf v).toNat)
        case atStart => exact ⟨q, [], none, 0, rfl, by omega, HSR.out, World.ownsRow_nil _ _ _ _, HF5.out, HP5.out, HR5.out, HB5.out⟩
        case round =>
          obtain ⟨p, ms, oa, oc, rfl, hpE, HSP, HO, HFR, HPR, HRR, HBR⟩ := hrel
          by_cases hlt : p < E
          · have hpP : p < P.size := by omega
            have hpi : (p : Int) < (E : Int) := by omega
            have C3 := HE.out p hpP (p : Int) rfl
            have C4 := HM.out p (by omega) (p : Int) rfl
            have HSN := Lib.hid (setR_next HSP.out hlt (by rw [HLP.out]; exact hEL))
            obtain ⟨p', hp'⟩ : ∃ p', p' = p + mbN (L.drop p) := ⟨_, rfl⟩
            rw [← hp'] at C4 HSN
            have hpp : p < p' := by have := mbN_pos (L.drop p); omega
            have hpE' : p' ≤ E := HSN.out.2.1
            obtain ⟨ti, vi, hX⟩ := mbV_iface (mbF (L.drop p))
            rw [hX] at C3
            obtain ⟨n, hn⟩ : ∃ n, n = ms.length := ⟨_, rfl⟩
            rw [← hn] at HO HFR
            have hnP : n ≤ 200000 := by
              have := setR_len HSP.out
              have := HFLN.out
              omega
            have HX := Lib.hid hX
            have HNN := Lib.hid hn
            have HFC := Lib.hid (show ∀ W, Below wr.heap.size wr W → (W.ownsRow (F + 1) 39 1 (.slice oa n oc) n (ms.map mbV) ∧ W.heap[F]? = some (.cells #[.bool true, .slice oa n oc] 73 (0, 0)) ∧ PatAt W w.heap.size P Q (some ⟨g, 0, none⟩) (P.size + 1) (P.size + 1) ∧ W.heap[w.heap.size + 1]? = some (.cells #[.bool false, .slice none 0 0] 73 (0, 0)) ∧ Below w.heap.size w W) from
              fun W hW => ⟨own_below HO.out hW, kept hW HFR.out, HPR.out.below hW, kept hW HRR.out, below_two HBR.out hW⟩)
            have hFr : F < wr.heap.size := lt_of_block HFR.out
            have hF0 : F + 1 ≤ wr.heap.size := hFr
            obtain ⟨c0, c1, c2⟩ := HPR.out.cells
            have d1 := blk_cell HFR.out 1
            have fr1 := blk_free HFR.out 1
            clear hX hn hp'
            go_upto_region 10 with fail
            go_cut [] from 33 to 46 (fun wx => ∃ oa' oc', wx.ownsRow (F + 1) 39 1 (.slice oa' (n + 1) oc') (n + 1) (ms.map mbV ++ [.iface ti vi]) ∧ wx.heap[F]? = some (.cells #[.bool true, .slice oa' (n + 1) oc'] 73 (0, 0)) ∧ PatAt wx w.heap.size P Q (some ⟨g, 0, none⟩) (P.size + 1) (P.size + 1) ∧ wx.heap[w.heap.size + 1]? = some (.cells #[.bool false, .slice none 0 0] 73 (0, 0)) ∧ Below w.heap.size w wx)
            case first =>
              obtain ⟨i0, hi0, hz0, hz1, hz2⟩ := info_parts infoWt
              go_region_law (first
                | (refine step_append_lies _ (by rfl) _ _ _ (by rfl) (F + 1) 39 i0 _ 1 16 Try.underlying31 hi0 hz0 hz1 hz2 rfl (by omega) (.slice oa n oc) n (ms.map mbV) (by rfl) (HO6.out.alloc _)
                    ⟨wn.heap.size, 0, none⟩ 1 1 [.iface ti vi] (by rfl) (by rfl) (World.news_of_block (cs := #[.iface ti vi]) (t := 39) (fr := (0, 0)) (heap_alloc_new wn _)) (by simp [Value.oneCell'])
                    (by omega) (by unfold maxLen; omega) (by omega) (by simp; omega) (wn.heap.size + 1) (by simp) ?_; intro gg cap w6 hown hgrow hat hlt6; have HOW := Lib.hid hown; have HF8 := Lib.hid (grown_blk HO6.out hgrow HFF.out.1 (Nat.le_refl _)); have HP8 := Lib.hid (grown_blk HO6.out hgrow HFF.out.2.1 (by have := HFK.out; omega)); have HR8 := Lib.hid (grown_blk HO6.out hgrow HFF.out.2.2.1 (by have := HFK.out; omega)); have HB8 := Lib.hid ((HFF.out.2.2.2.alloc HFF.out.2.2.2.size _).grown hgrow (by have := HFF.out.2.2.2.size; simp; omega) (fun r hr => by have := (HO6.out.lt r hr).1; have := HFK.out; omega)); have d1 := blk_cell HF8.out 1; have fr1 := blk_free HF8.out 1; clear hown hgrow hat)
                | (go_simp; go_at_call 39; refine (C3 _).mono ?_; rintro e wn ⟨rfl, hbn⟩; obtain ⟨HO6', HF6', HP6', HR6', HB6'⟩ := HFC.out wn ⟨hbn.os, hbn.tape, hbn.output, hbn.size, hbn.block⟩; have HO6 := Lib.hid HO6'; have HFF := Lib.hid (And.intro HF6' (And.intro HP6' (And.intro HR6' HB6'))); have d1 := blk_cell HF6' 1; have fr1 := blk_free HF6' 1; obtain ⟨c0, c1, c2⟩ := HP6'.cells; have hln := lt_of_block HF6'))
              all_goals
                go_wp2_with fail
                go_meet
                exact ⟨_, _, own_set HOW.out, by have h := blk_set HF8.out 1 (.slice (some ⟨gg, 0, none⟩) (n + 1) cap); exact h, (Below.heap_setCell _ _ _ _ (show w.heap.size ≠ F by have := HFK.out; omega)).trans HP8.out, (Below.heap_setCell _ _ _ _ (show w.heap.size + 1 ≠ F by have := HFK.out; omega)).trans HR8.out, HB8.out.setCell (show w.heap.size ≤ F by have := HFK.out; omega) _⟩
            case rest =>
            obtain ⟨oa2, oc2, hO2, hF2, hP2, hR2, hB2⟩ := hcut
            have HO2 := Lib.hid hO2
            have HF2 := Lib.hid hF2
            have HPc := Lib.hid hP2
            have HRc := Lib.hid hR2
            have HBc := Lib.hid hB2
            clear hO2 hF2 hP2 hR2 hB2 c0 c1 c2 d1 fr1
            obtain ⟨c0, c1, c2⟩ := HPc.out.cells
            go_wp2_with fail
            refine (C4 _).mono ?_
            rintro e w9 ⟨rfl, hb⟩
            have e1 : (ms ++ [mbF (L.drop p)]).length = n + 1 := by simp [HNN.out]
            have e2 : (ms ++ [mbF (L.drop p)]).map mbV = ms.map mbV ++ [.iface ti vi] := by simp [HX.out]
            have HREL := Lib.hid (show (w9.ownsRow (F + 1) 39 1 (.slice oa2 (ms ++ [mbF (L.drop p)]).length oc2) (ms ++ [mbF (L.drop p)]).length ((ms ++ [mbF (L.drop p)]).map mbV) ∧ w9.heap[F]? = some (.cells #[.bool true, .slice oa2 (ms ++ [mbF (L.drop p)]).length oc2] 73 (0, 0)) ∧ PatAt w9 w.heap.size P Q (some ⟨g, 0, none⟩) (P.size + 1) (P.size + 1) ∧ w9.heap[w.heap.size + 1]? = some (.cells #[.bool false, .slice none 0 0] 73 (0, 0)) ∧ Below w.heap.size w w9) from
              ⟨by rw [e1, e2]; exact own_below HO2.out hb, by rw [e1]; exact kept hb HF2.out, HPc.out.below hb, kept hb HRc.out, below_two HBc.out hb⟩)
            clear hb e1 e2 c0 c1 c2
            go_wp2_with fail
            go_roundw
            case rel => exact ⟨p', _, oa2, oc2, rfl, hpE', HSN.out, HREL.out.1, HREL.out.2.1, HREL.out.2.2.1, HREL.out.2.2.2.1, HREL.out.2.2.2.2⟩
            case measure => simp only [intOf]; omega
          · have hpE2 : ¬ (p : Int) < (E : Int) := by omega
            have HMS := Lib.hid (setR_end HSP.out hlt)
            have HPUT := Lib.hid (show ∃ wf, wf = (wr.setCell ⟨w.heap.size + 1, 0, none⟩ (.bool true)).setCell ⟨w.heap.size + 1, 1, none⟩ (.slice oa ms.length oc) ∧ wf.cell? ⟨w.heap.size + 1, 0, none⟩ = some (.bool true) ∧ wf.cell? ⟨w.heap.size + 1, 1, none⟩ = some (.slice oa ms.length oc) ∧ Below w.heap.size w wf ∧ wf.ownsRow (F + 1) 39 1 (.slice oa ms.length oc) ms.length (ms.map mbV) from
              ⟨_, rfl, blk_cell (blk_set (blk_set HRR.out 0 _) 1 _) 0, blk_cell (blk_set (blk_set HRR.out 0 _) 1 _) 1, (HBR.out.setCell (show w.heap.size ≤ w.heap.size + 1 by omega) _).setCell (show w.heap.size ≤ w.heap.size + 1 by omega) _, own_set_low (by have := HFK.out; omega) (own_set_low (by have := HFK.out; omega) HO.out)⟩)
            have d0 := blk_cell HFR.out 0
            have d1 := blk_cell HFR.out 1
            have r0 := blk_free HRR.out 0
            have r1 := blk_free HRR.out 1
            have e0 := blk_cell HRR.out 0
            have e1 := blk_cell HRR.out 1
            go_wp2_with fail
            obtain ⟨wf, hwf, z0, z1, hbf, hof⟩ := HPUT.out
            rw [← hwf]
            clear hwf
            refine bodyPost_ret (v := .tuple #[.agg #[.bool true, .slice oa ms.length oc], .int .i64 ((E : Int) + 1), .bool true]) (by simp [results, Try.results32, go_sem, z0, z1]) rfl ?_
            refine ⟨.slice oa ms.length oc, ?_, ?_, hbf⟩
            · rw [HN.out]; rfl
            · rw [← HMS.out]
              exact own_weak hof (by have := HFK.out; omega)
end Go.Proofs.Ytfldhggmgepcjaa
