/-
  What a token's bytes stand for, in the landed code.
-/
import Derived.Laws.ResultCell
import Derived.Laws.Rows
import Derived.Test.YtclhpedecimicaaDoorBlk
import Derived.Test.YtclhpedecimicaaDoorZConst
namespace Go.Proofs.YtclhpedecimicaaDoor
set_option maxRecDepth 100000
open Go Go.RowKit

def tokC (x : Tk) : Array Value := #[.int .i64 (x.kind : Int), .int .i64 (x.num : Int), sv x.text, .int .i64 (x.pos : Int)]
def tokV (x : Tk) : Value := .agg (tokC x)
/-- A token and its error, of what the bytes stand for. -/
def evTok (p : Nat) : Tk ⊕ Nat → Tk × Nat
  | .inl x => (x, 0)
  | .inr e => (⟨0, 0, [], p⟩, e)
def tokAns (r : Tk × Nat) : Ending := .returned (.tuple #[tokV r.1, .int .i64 (r.2 : Int)])
theorem filledZ (t : ByteArray) (h : t.size ≠ 0) : t.toList.isEmpty = false := by
  rw [← decide_eq_emptyBytes]
  exact decide_eq_false (fun e => h (by rw [e]; rfl))
theorem head_at (t : ByteArray) (h : 0 < t.size) : ∃ r, t.data.toList = t[0] :: r := by
  have h2 := byte_at t 0 h
  cases hl : t.data.toList with
  | nil => rw [hl] at h2; cases h2
  | cons c r =>
    rw [hl] at h2
    have e : c = t[0] := by simpa using h2
    exact ⟨r, by rw [e]⟩
theorem tok_ret {tmps : Array Value} {W : World} {R : Ending → World → Prop} {g : Nat} {cs : Array Value} {v : Value} (h4 : tmps.getD 4 undef = .pointer (some ⟨g, 0, none⟩)) (h5 : tmps.getD 5 undef = v)
    (hg : W.heap[g]? = some (.cells cs 34 (0, 0))) (hs : cs.size = 4) (h : R (.returned (.tuple #[.agg cs, v])) W) : bodyPost Tryd.prog Tryd.f26 R Exit.ret ⟨tmps, []⟩ W := by
  refine bodyPost_ret (v := .tuple #[.agg cs, v]) ?_ rfl h
  rw [results_cell_tmp (fn := Tryd.f26) (p := 4) (u := 5) (ty := 34) rfl tmps Tryd.prog W]
  have h4' : tmps[4]?.getD undef = .pointer (some ⟨g, 0, none⟩) := by simpa using h4
  have h5' : tmps[5]?.getD undef = v := by simpa using h5
  have hl := run_loadVar_row (P := Tryd.prog) W g 34 34 cs (0, 0) _ hg Tryd.underlying34 rfl (by rw [hs]; kernel_rfl)
  simp [h4', h5', asAddr, hl]
theorem zero_tok (w : World) : ∃ w0, w0 = w.alloc (.cells #[.int .i64 0, .int .i64 0, .string ⟨#[]⟩, .int .i64 0] 34) ∧ Below w.heap.size w w0 ∧ w0.heap[w.heap.size]? = some (.cells #[.int .i64 0, .int .i64 0, .string ⟨#[]⟩, .int .i64 0] 34 (0, 0)) :=
  ⟨_, rfl, below_box w _, new_block w _⟩

def set4 (W : World) (k : Nat) (x y z u : Value) : World := (((W.setCell ⟨k, 0, none⟩ x).setCell ⟨k, 1, none⟩ y).setCell ⟨k, 2, none⟩ z).setCell ⟨k, 3, none⟩ u
theorem set4_block {W : World} {k : Nat} {a b c d : Value} {t : TypeId} (h : W.heap[k]? = some (.cells #[a, b, c, d] t (0, 0))) (x y z u : Value) : (set4 W k x y z u).heap[k]? = some (.cells #[x, y, z, u] t (0, 0)) :=
  blk_set (blk_set (blk_set (blk_set h 0 x) 1 y) 2 z) 3 u
theorem set4_below {B : Nat} {w W : World} {k : Nat} (h : Below B w W) (hk : B ≤ k) (x y z u : Value) : Below B w (set4 W k x y z u) := (((h.setCell hk _).setCell hk _).setCell hk _).setCell hk _
set_option maxHeartbeats 4000000 in
theorem ltoken (t : ByteArray) (ht : t.size ≤ 1000000) (p : Nat) (w : World) (hL : LaidZ w) :
    Calls Tryd.prog 26 #[.string t, .int .i64 (p : Int)] w fun e w' => e = tokAns (evTok p (tokZ t.data.toList p)) ∧ Below w.heap.size w w' := by
  have HL := Lib.hid (fun W (hb : Below w.heap.size w W) => hL.below hb)
  clear hL
  obtain ⟨pi, hpi⟩ : ∃ pi : Int, pi = (p : Int) := ⟨_, rfl⟩
  have HP := Lib.hid hpi
  rw [← hpi]
  clear hpi
  by_cases h0 : t.size = 0
  · have e : t = ⟨#[]⟩ := by
      have := data_nil h0
      rw [← sv_data t, this]
    subst e
    have HA := Lib.hid (show tokAns (evTok p (tokZ (⟨#[]⟩ : ByteArray).data.toList p)) = .returned (.tuple #[.agg #[.int .i64 0, .int .i64 0, .string ⟨#[]⟩, .int .i64 pi], .int .i64 101]) by rw [HP.out]; rfl)
    go_enter Tryd.func26, Tryd.ntmps26
    go_wp2_with fail
    refine tok_ret rfl rfl (new_block w _) rfl ⟨?_, below_box w _⟩
    first | exact HA.out.symm | (rw [HA.out]; rfl)
  · have hpos : 0 < t.size := by omega
    have hne := filledZ t h0
    obtain ⟨r, hr⟩ := head_at t hpos
    have c2 := digit_any (t[0].toNat : Int)
    have c1 := begins_any (t[0].toNat : Int)
    rw [hr]
    cases hd : digB (t[0].toNat : Int) with
    | true =>
      rw [hd] at c2
      have HC := Lib.hid (fun W hW => lconst t ht W hW)
      rw [hr] at HC
      cases hk : constZ (t[0] :: r) with
      | none =>
        have HA := Lib.hid (show tokAns (evTok p (tokZ (t[0] :: r) p)) = .returned (.tuple #[.agg #[.int .i64 0, .int .i64 0, .string ⟨#[]⟩, .int .i64 pi], .int .i64 102]) by rw [HP.out, tok_bad hd hk]; rfl)
        rw [show constV (t[0] :: r) = (.int .i64 0, .bool false) by unfold constV; rw [hk]; rfl] at HC
        clear c1 hd hk hr
        obtain ⟨w0, hw0, hb0, hX⟩ := zero_tok w
        have HB0 := Lib.hid hb0
        have HX := Lib.hid hX
        go_enter Tryd.func26, Tryd.ntmps26
        go_wp2_with (go_at_call 33; refine (c2 _).mono ?_; rintro e w' ⟨rfl, rfl⟩)
        rw [← hw0]
        clear hw0 hb0 hX
        refine (HC.out _ (HL.out _ HB0.out)).mono ?_
        rintro e w1 ⟨rfl, hb⟩
        have hX1 := (hb.block w.heap.size (lt_of_block HX.out)).trans HX.out
        have HX1 := Lib.hid hX1
        have HB1 := Lib.hid (below_two HB0.out hb)
        have z0 := blk_cell hX1 0
        have z1 := blk_cell hX1 1
        have z2 := blk_cell hX1 2
        have z3 := blk_cell hX1 3
        have f0 := blk_free hX1 0
        have f1 := blk_free hX1 1
        have f2 := blk_free hX1 2
        have f3 := blk_free hX1 3
        have zl := lt_of_block hX1
        clear hX1 hb
        go_wp2_with fail
        refine tok_ret (W := set4 w1 w.heap.size (.int .i64 0) (.int .i64 0) (.string ⟨#[]⟩) (.int .i64 pi)) rfl rfl (set4_block HX1.out _ _ _ _) rfl ⟨?_, set4_below HB1.out (Nat.le_refl _) _ _ _ _⟩
        rw [HA.out]; rfl
      | some n =>
        have HA := Lib.hid (show tokAns (evTok p (tokZ (t[0] :: r) p)) = .returned (.tuple #[.agg #[.int .i64 1, .int .i64 (n : Int), .string ⟨#[]⟩, .int .i64 pi], .int .i64 0]) by rw [HP.out, tok_num hd hk]; rfl)
        rw [show constV (t[0] :: r) = (.int .i64 (n : Int), .bool true) by unfold constV; rw [hk]; rfl] at HC
        clear c1 hd hk hr
        obtain ⟨w0, hw0, hb0, hX⟩ := zero_tok w
        have HB0 := Lib.hid hb0
        have HX := Lib.hid hX
        go_enter Tryd.func26, Tryd.ntmps26
        go_wp2_with (go_at_call 33; refine (c2 _).mono ?_; rintro e w' ⟨rfl, rfl⟩)
        rw [← hw0]
        clear hw0 hb0 hX
        refine (HC.out _ (HL.out _ HB0.out)).mono ?_
        rintro e w1 ⟨rfl, hb⟩
        have hX1 := (hb.block w.heap.size (lt_of_block HX.out)).trans HX.out
        have HX1 := Lib.hid hX1
        have HB1 := Lib.hid (below_two HB0.out hb)
        have z0 := blk_cell hX1 0
        have z1 := blk_cell hX1 1
        have z2 := blk_cell hX1 2
        have z3 := blk_cell hX1 3
        have f0 := blk_free hX1 0
        have f1 := blk_free hX1 1
        have f2 := blk_free hX1 2
        have f3 := blk_free hX1 3
        have zl := lt_of_block hX1
        clear hX1 hb
        go_wp2_with fail
        refine tok_ret (W := set4 w1 w.heap.size (.int .i64 1) (.int .i64 (n : Int)) (.string ⟨#[]⟩) (.int .i64 pi)) rfl rfl (set4_block HX1.out _ _ _ _) rfl ⟨?_, set4_below HB1.out (Nat.le_refl _) _ _ _ _⟩
        rw [HA.out]; rfl
    | false =>
      rw [hd] at c2
      have hst : sv (t[0] :: r) = .string t := by show Value.string ⟨(t[0] :: r).toArray⟩ = _; rw [← hr, sv_data]
      cases hb : begB (t[0].toNat : Int) with
      | true =>
        rw [hb] at c1
        have HA := Lib.hid (show tokAns (evTok p (tokZ (t[0] :: r) p)) = .returned (.tuple #[.agg #[.int .i64 2, .int .i64 0, .string t, .int .i64 pi], .int .i64 0]) by rw [HP.out, tok_name hd hb, ← hst]; rfl)
        clear hd hb hr
        go_enter Tryd.func26, Tryd.ntmps26
        go_wp2_with (first | (go_at_call 33; refine (c2 _).mono ?_; rintro e w' ⟨rfl, rfl⟩) | (go_at_call 32; refine (c1 _).mono ?_; rintro e w' ⟨rfl, rfl⟩))
        refine tok_ret rfl rfl (new_block w _) rfl ⟨?_, below_box w _⟩
        rw [HA.out]; rfl
      | false =>
        rw [hb] at c1
        have HA := Lib.hid (show tokAns (evTok p (tokZ (t[0] :: r) p)) = .returned (.tuple #[.agg #[.int .i64 3, .int .i64 0, .string t, .int .i64 pi], .int .i64 0]) by rw [HP.out, tok_op hd hb, ← hst]; rfl)
        clear hd hb hr
        go_enter Tryd.func26, Tryd.ntmps26
        go_wp2_with (first | (go_at_call 33; refine (c2 _).mono ?_; rintro e w' ⟨rfl, rfl⟩) | (go_at_call 32; refine (c1 _).mono ?_; rintro e w' ⟨rfl, rfl⟩))
        refine tok_ret rfl rfl (new_block w _) rfl ⟨?_, below_box w _⟩
        rw [HA.out]; rfl
end Go.Proofs.YtclhpedecimicaaDoor
