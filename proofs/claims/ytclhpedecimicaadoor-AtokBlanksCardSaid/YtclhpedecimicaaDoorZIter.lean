/-
  The landed code's iterator over tokens.
-/
import Derived.RangeFuncBox
import Derived.RangeFuncLeaves
import Derived.RangeFuncNested
import Derived.RangeFuncBound
import Derived.RangeFuncCalls
import Derived.Shelf.Abstract
import Derived.WalkKit
import Derived.OwnWalkIn
import Derived.TacticsInMore
import Derived.LoopNIn
import Derived.LoopIn
import Derived.Maps.AppendAt
import Derived.Test.YtclhpedecimicaaDoorZEvs
namespace Go.Proofs.YtclhpedecimicaaDoor
set_option maxRecDepth 100000
open Go Go.RowKit Go.Shelf

attribute [local go_sem] Oper.semAt_some

/-- A fence that shuts nothing out. -/
structure FreeF (F : Fence) : Prop where
  fn : ∀ f, F.fn f
  ro : F.round = none
  calls : ∀ {n : Nat} {P : Program} {f : FuncId} {args : Array Value} {w : World} {R : Ending → World → Prop}, Calls P f args w R → CallsIn F n P f args w R
theorem free_wide : FreeF Fence.wide := ⟨fun _ => trivial, rfl, fun h => callsIn_wide.2 h⟩

/-- What stood at the start stands. -/
def Same0 (w0 W : World) : Prop := w0.heap.size ≤ W.heap.size ∧ ∀ k, k < w0.heap.size → W.heap[k]? = w0.heap[k]?
theorem Same0.refl (w : World) : Same0 w w := ⟨Nat.le_refl _, fun _ _ => rfl⟩
theorem Same0.laid {w0 W : World} (h : Same0 w0 W) (hL : LaidZ w0) : LaidZ W := by
  have hc : ∀ (a : Addr) (v : Value), w0.cell? a = some v → W.cell? a = some v := by
    intro a v hv
    have hlt : a.block < w0.heap.size := by
      unfold World.cell? at hv
      cases hb : w0.heap[a.block]? with
      | none => rw [hb] at hv; cases hv
      | some o => exact (Array.getElem?_eq_some_iff.1 hb).1
    rw [World.cell?_of_block (h.2 _ hlt)]
    exact hv
  obtain ⟨⟨h1⟩, ⟨a, b, h2⟩, ⟨c, d, h3⟩⟩ := hL
  exact ⟨⟨fun i v hv => hc _ _ (h1 i v hv)⟩, ⟨a, b, hc _ _ h2⟩, ⟨c, d, hc _ _ h3⟩⟩
theorem Same0.below {w0 W W' : World} (h : Same0 w0 W) (hb : Below W.heap.size W W') : Same0 w0 W' :=
  ⟨Nat.le_trans h.1 hb.size, fun k hk => (hb.block k (Nat.lt_of_lt_of_le hk h.1)).trans (h.2 k hk)⟩
/-- What a loop's body must keep. -/
def KeepZ (w0 : World) (Bn : Nat) (W W' : World) : Prop := W.heap.size ≤ W'.heap.size ∧ (∀ k, k < w0.heap.size → W'.heap[k]? = W.heap[k]?) ∧ W'.heap[Bn]? = W.heap[Bn]?
theorem KeepZ.trans {w0 : World} {Bn : Nat} {A B C : World} (h : KeepZ w0 Bn A B) (k : KeepZ w0 Bn B C) : KeepZ w0 Bn A C :=
  ⟨Nat.le_trans h.1 k.1, fun i hi => (k.2.1 i hi).trans (h.2.1 i hi), k.2.2.trans h.2.2⟩
theorem Same0.keep {w0 W W' : World} {Bn : Nat} (h : Same0 w0 W) (k : KeepZ w0 Bn W W') : Same0 w0 W' :=
  ⟨Nat.le_trans h.1 k.1, fun i hi => (k.2.1 i hi).trans (h.2 i hi)⟩
theorem below_grown {W W' : World} (hb : Below W.heap.size W W') : W.grownBy W' none := ⟨hb.os, hb.tape, hb.output, hb.size, fun k hk _ => hb.block k hk⟩

abbrev evV (x : Tk × Nat) : Array Value := #[tokV x.1, .int .i64 (x.2 : Int)]
def atOf : Value → Nat
  | .int _ n => n.toNat
  | _ => 0

set_option maxRecDepth 100000 in
set_option maxHeartbeats 8000000 in
theorem ztoks1_in (F : Fence) (hF : FreeF F) (n : Nat) (hn : 1 ≤ n) (l Bn : Nat) (s : ByteArray) (hs : s.size ≤ 100000) (w0 : World) (hL : LaidZ w0) (B : Nat) (J Jx : List (Tk × Nat) → World → Prop) (hJ : AbidesFrom B J)
    (hY : ∀ pre x W, J pre W → pre.length < (evs s.data.toList 0).length → pre ++ [x] <+: evs s.data.toList 0 → YieldAt F (n - 1) Tryd.prog l (evV x) W fun e W' =>
      (e = .returned (.bool true) ∧ J (pre ++ [x]) W' ∧ KeepZ w0 Bn W W') ∨ (e = .returned (.bool false) ∧ Jx (pre ++ [x]) W'))
    (W : World) (hBn : W.cell? ⟨Bn, 0, none⟩ = some (.string s)) (hW : Same0 w0 W) (h0 : J [] W) :
    CallsIn F n Tryd.prog 23 #[.func (.yield l) #[] #[], .pointer (some ⟨Bn, 0, none⟩)] W fun e W' => (∃ v, e = .returned v) ∧
      ((∃ ys, ys = evs s.data.toList 0 ∧ J ys W') ∨ (∃ pre, pre <+: evs s.data.toList 0 ∧ Jx pre W')) := by
  have hro : F.round = none := hF.ro
  have hf1 : F.fn 24 := hF.fn _
  have hf2 : F.fn 25 := hF.fn _
  have hf3 : F.fn 26 := hF.fn _
  have hSL := size_data s
  refine callsIn_of_wp Tryd.func23 rfl (hF.fn _) ?_ hro
  simp only [Tryd.ntmps23, List.size_toArray, List.length_cons, List.length_nil, Nat.reduceAdd, Nat.reduceSub, Array.replicate_succ, Array.replicate_zero, List.push_toArray, List.append_toArray, List.nil_append, List.cons_append]
  have hb0 := lblanks s (by omega) W
  have HST := Lib.hid (RestZ.start s.data.toList)
  obtain ⟨k0, hk0⟩ : ∃ k0, k0 = (s.data.toList.takeWhile blkZ).length := ⟨_, rfl⟩
  rw [← hk0] at hb0 HST
  have HJ0 := Lib.hid h0
  have HW := Lib.hid hW
  have HBN := Lib.hid hBn
  clear hk0 h0 hW
  gi_wp2_with (gi_at_call 24; refine (hF.calls hb0).mono ?_; rintro e w1 ⟨rfl, hb⟩)
  have HJ1 := Lib.hid (hJ _ _ _ none HJ0.out (below_grown hb) (fun _ e => by cases e))
  have HS1 := Lib.hid (HW.out.below hb)
  have HC1 := Lib.hid (cell_belowZ hb (Nat.le_refl _) HBN.out)
  clear hb hb0 HJ0 hBn
  gi_wp2
  gi_loopw [3] (fun at_ wr => ∃ (p : Nat) (D : List (Tk × Nat)), at_ = .int .i64 (p : Int) ∧ Hid (RestZ s.data.toList D p) ∧ Hid (J D wr) ∧ Hid (Same0 w0 wr) ∧ Hid (wr.cell? ⟨Bn, 0, none⟩ = some (.string s))) (fun at_ _ => s.size - atOf at_)
  case atStart => exact ⟨k0, [], rfl, HST, HJ1, HS1, HC1⟩
  case round =>
    obtain ⟨p, D, rfl, HR, HJ, HS, HC⟩ := hrel
    have hc := HC.out
    by_cases hlt : p < s.size
    · have hpL : p < s.data.toList.length := by rw [hSL]; exact hlt
      have hsz : (s.extract p s.size).size ≤ 1000000 := by rw [ByteArray.size_extract]; omega
      have hdl : (s.extract p s.size).data.toList = s.data.toList.drop p := by rw [drop_str]
      have C1 := fun W hW => lfirst (s.extract p s.size) hsz W hW
      rw [hdl] at C1
      obtain ⟨tx, htx⟩ : ∃ tx, tx = firstZ (s.data.toList.drop p) := ⟨_, rfl⟩
      have htl : tx.length ≤ s.size - p := by
        have := (first_pre (s.data.toList.drop p)).length_le
        rw [← htx, List.length_drop, hSL] at this
        exact this
      have C2 := fun W hW => ltoken ⟨tx.toArray⟩ (by rw [sv_size]; omega) p W hW
      rw [show (⟨tx.toArray⟩ : ByteArray).data.toList = tx from rfl] at C2
      rw [← htx] at C1
      have hlo := (HS.out.laid hL).ops
      have hlt2 : (p : Int) < (s.size : Int) := by omega
      cases htk : tokZ tx p with
      | inr e =>
        have HEV := Lib.hid (HR.out.err hpL (by rw [← htx]; exact htk))
        have he := tok_err htk
        rw [htk] at C2
        simp only [evTok, tokAns, tokV, tokC, sv] at C2
        have hne : ((e : Int) == 0) = false := by rw [beq_eq_false_iff_ne]; omega
        have hne2 : ((e : Int) != 0) = true := by rw [bne_iff_ne]; omega
        clear htk hdl htx he
        have HLEN := Lib.hid (show D.length < (evs s.data.toList 0).length by rw [HEV.out]; simp)
        have HPRE := Lib.hid (show D ++ [((⟨0, 0, [], p⟩ : Tk), e)] <+: evs s.data.toList 0 by rw [HEV.out]; exact List.prefix_refl _)
        gi_wp2_with (first
          | (gi_at_call 25; refine (hF.calls (C1 _ hlo)).mono ?_; rintro e1 w1 ⟨rfl, rfl⟩)
          | (gi_at_call 26; refine (hF.calls (C2 _ (HS.out.laid hL))).mono ?_; rintro e1 w3 ⟨rfl, hb⟩; have hj3 := hJ _ _ _ none (hJ _ _ _ none HJ.out (below_grown hb) (fun _ e => by cases e)) (World.grownBy_alloc w3 (.cells #[.int .i64 0, .int .i64 0, .string ⟨#[]⟩, .int .i64 (p : Int)] 34) none) (fun _ e => by cases e); obtain ⟨fn, tmps, assign, body, hy, hR⟩ := (show YieldAt F (n - 1) Tryd.prog l #[.agg #[.int .i64 0, .int .i64 0, .string ⟨#[]⟩, .int .i64 (p : Int)], .int .i64 (e : Int)] _ _ from hY D (⟨0, 0, [], p⟩, e) _ hj3 HLEN.out HPRE.out)))
        refine hR.mono ?_
        rintro e1 W4 (⟨rfl, hj4, hk4⟩ | ⟨rfl, hj4⟩)
        · gi_wp2
          refine bodyPost_ret (results_none rfl _ _ _) rfl ?_
          exact ⟨⟨_, rfl⟩, .inl ⟨_, HEV.out.symm, hj4⟩⟩
        · gi_wp2
          refine bodyPost_ret (results_none rfl _ _ _) rfl ?_
          exact ⟨⟨_, rfl⟩, .inr ⟨D ++ [((⟨0, 0, [], p⟩ : Tk), e)], HPRE.out, hj4⟩⟩
      | inl x =>
        have HNX := Lib.hid (HR.out.next hpL (by rw [← htx]; exact htk))
        rw [← htx] at HNX
        have hxp := tok_pos htk
        have htp : 0 < tx.length := by have := first_pos (l := s.data.toList.drop p) (p := p) (x := x) (by rw [← htx]; exact htk); rw [← htx] at this; exact this
        obtain ⟨xk, xn, xt, xp⟩ := x
        simp only at hxp
        subst hxp
        have HPRE := Lib.hid (show D ++ [((⟨xk, xn, xt, xp⟩ : Tk), 0)] <+: evs s.data.toList 0 from ⟨_, HNX.out.eq.symm⟩)
        have HLEN := Lib.hid (show D.length < (evs s.data.toList 0).length by have := HPRE.out.length_le; simp at this; omega)
        rw [htk] at C2
        simp only [evTok, tokAns, tokV, tokC, sv] at C2
        have hD2 : (s.data.toList.drop (xp + tx.length)).length ≤ 1000000 := by rw [List.length_drop, hSL]; omega
        have hw1 : (xp : Int) + (tx.length : Int) ≤ (s.size : Int) := by omega
        have hw0 : (0 : Int) ≤ (xp : Int) + (tx.length : Int) := by omega
        have hTD : (s.extract (xp + tx.length) s.size).data.toList = s.data.toList.drop (xp + tx.length) := by rw [drop_str]
        have C3 := fun W => lblanks (s.extract (xp + tx.length) s.size) (by rw [ByteArray.size_extract]; omega) W
        rw [hTD] at C3
        obtain ⟨kb, hkb⟩ : ∃ kb, kb = ((s.data.toList.drop (xp + tx.length)).takeWhile blkZ).length := ⟨_, rfl⟩
        rw [← hkb] at C3 HNX
        have hkl : kb ≤ s.size := by
          have := while_len blkZ (s.data.toList.drop (xp + tx.length))
          rw [List.length_drop, hSL] at this
          omega
        have HMS := Lib.hid (show s.size - (xp + tx.length + kb) < s.size - xp by omega)
        have hTL := sv_size tx
        clear htk hdl htx hkb hTD
        gi_wp2_with (first
          | (gi_at_call 25; refine (hF.calls (C1 _ hlo)).mono ?_; rintro e1 w1 ⟨rfl, rfl⟩)
          | (gi_at_call 26; refine (hF.calls (C2 _ (HS.out.laid hL))).mono ?_; rintro e1 w3 ⟨rfl, hb⟩; have hj3 := hJ _ _ _ none (hJ _ _ _ none HJ.out (below_grown hb) (fun _ e => by cases e)) (World.grownBy_alloc w3 (.cells #[.int .i64 (xk : Int), .int .i64 (xn : Int), .string ⟨xt.toArray⟩, .int .i64 (xp : Int)] 34) none) (fun _ e => by cases e); obtain ⟨fn, tmps, assign, body, hy, hR⟩ := (show YieldAt F (n - 1) Tryd.prog l #[.agg #[.int .i64 (xk : Int), .int .i64 (xn : Int), .string ⟨xt.toArray⟩, .int .i64 (xp : Int)], .int .i64 0] _ _ from hY D (⟨xk, xn, xt, xp⟩, 0) _ hj3 HLEN.out HPRE.out)))
        refine hR.mono ?_
        rintro e1 W4 (⟨rfl, hj4, hk4⟩ | ⟨rfl, hj4⟩)
        · have hc4 := (World.cell?_of_block (a := ⟨Bn, 0, none⟩) hk4.2.2).trans (cell_belowZ (below_box w3 _) (Nat.le_refl _) (cell_belowZ hb (Nat.le_refl _) HC.out))
          have HS4 := Lib.hid (((HS.out.below hb).below (below_box w3 _)).keep hk4)
          have HJ4 := Lib.hid hj4
          clear hj3 hj4 hy hR hk4
          gi_wp2_with (gi_at_call 24; refine (hF.calls (C3 _)).mono ?_; rintro e w5 ⟨rfl, hb5⟩)
          refine ⟨⟨xp + tx.length + kb, D ++ [(⟨xk, xn, xt, xp⟩, 0)], by congr 1, HNX, Lib.hid (hJ _ _ _ none HJ4.out (below_grown hb5) (fun _ e => by cases e)), Lib.hid (HS4.out.below hb5), Lib.hid (cell_belowZ hb5 (Nat.le_refl _) hc4)⟩, ?_⟩
          have h9 := HMS.out
          show s.size - ((xp : Int) + (tx.length : Int) + (kb : Int)).toNat < s.size - (xp : Int).toNat
          omega
        · gi_wp2
          refine bodyPost_ret (results_none rfl _ _ _) rfl ?_
          exact ⟨⟨_, rfl⟩, .inr ⟨D ++ [((⟨xk, xn, xt, xp⟩ : Tk), 0)], HPRE.out, hj4⟩⟩
    · have hpe : p = s.size := by have := HR.out.le; rw [hSL] at this; omega
      subst hpe
      have HEV := Lib.hid (HR.out.last (by rw [hSL]; exact hlt))
      rw [hSL] at HEV
      have HLEN := Lib.hid (show D.length < (evs s.data.toList 0).length by rw [HEV.out]; simp)
      have HPRE := Lib.hid (show D ++ [((⟨0, 0, [], s.size⟩ : Tk), 0)] <+: evs s.data.toList 0 by rw [HEV.out]; exact List.prefix_refl _)
      obtain ⟨fn, tmps, assign, body, hy, hR⟩ := (show YieldAt F (n - 1) Tryd.prog l #[.agg #[.int .i64 0, .int .i64 0, .string ⟨#[]⟩, .int .i64 (s.size : Int)], .int .i64 0] _ _ from hY D (⟨0, 0, [], s.size⟩, 0) _ HJ.out HLEN.out HPRE.out)
      gi_wp2_with fail
      refine hR.mono ?_
      rintro e1 W4 (⟨rfl, hj4, hk4⟩ | ⟨rfl, hj4⟩)
      · gi_wp2
        go_end0
        exact ⟨⟨_, rfl⟩, .inl ⟨_, HEV.out.symm, hj4⟩⟩
      · gi_wp2
        go_end0
        exact ⟨⟨_, rfl⟩, .inr ⟨_, HPRE.out, hj4⟩⟩

theorem ztokens_in (F : Fence) (hF : FreeF F) (n : Nat) (s : ByteArray) (w : World) :
    CallsIn F n Tryd.prog 15 #[.string s] w fun e w' => e = .returned (.func (.func 23) #[] #[.pointer (some ⟨w.heap.size, 0, none⟩)]) ∧ w' = w.alloc (.cells #[.string s] 9) := by
  have hro : F.round = none := hF.ro
  refine callsIn_of_wp Tryd.func15 rfl (hF.fn _) ?_ hro
  simp only [Tryd.ntmps15, List.size_toArray, List.length_cons, List.length_nil, Nat.reduceAdd, Nat.reduceSub, Array.replicate_succ, Array.replicate_zero, List.push_toArray, List.append_toArray, List.nil_append, List.cons_append]
  gi_wp2
  go_ret
  exact ⟨rfl, rfl⟩

theorem ztokens_stops (F : Fence) (hF : FreeF F) (n : Nat) (hn : 1 ≤ n) (Bn : Nat) (s : ByteArray) (hs : s.size ≤ 100000) (w0 : World) (hL : LaidZ w0) (w : World) (hBn : Bn < w.heap.size)
    (hc : w.cell? ⟨Bn, 0, none⟩ = some (.string s)) (h0 : Same0 w0 w) :
    SeqStopsK F n Tryd.prog 23 #[.pointer (some ⟨Bn, 0, none⟩)] (fun x : Tk × Nat => evV x) (KeepZ w0 Bn) (fun ys => ys = evs s.data.toList 0) (fun pre => pre <+: evs s.data.toList 0) (evs s.data.toList 0).length w := fun l J Jx W hW hJ _ hY h0' =>
  ztoks1_in F hF n hn l Bn s hs w0 hL W.heap.size J Jx hJ (fun pre x W1 hj hl _ => hY pre x W1 hj hl) W ((hW.cell (p := ⟨Bn, 0, none⟩) hBn).trans hc) (h0.below hW) h0'
end Go.Proofs.YtclhpedecimicaaDoor
