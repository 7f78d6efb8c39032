/-
  tree's List, of the landed code, at a tree whose root has no names.
-/
import Derived.RangeFuncBox
import Derived.RangeFuncLeaves
import Derived.RangeFuncNested
import Derived.RangeFuncBound
import Derived.RangeFuncCalls
import Derived.Shelf.Abstract
import Derived.WalkKit
import Derived.OwnWalkIn
import Derived.TacticsInMore
import Derived.LoopNIn
import Derived.LoopIn
import Derived.Maps.AppendAt
import Derived.Test.YtdpfnnhlneapbaaTLFit
import Derived.Test.YtdpfnnhlneapbaaTPlain2
import Derived.Test.YtdpfnnhlneapbaaTexts
namespace Go.Proofs.Ytdpfnnhlneapbaa
open Go Go.RowKit Go.Shelf

attribute [local go_sem] Oper.semAt_some

/-- A fence that shuts nothing out. -/
structure Open (F : Fence) : Prop where
  fn : ∀ f, F.fn f
  ro : F.round = none
  calls : ∀ {n : Nat} {P : Program} {f : FuncId} {args : Array Value} {w : World} {R : Ending → World → Prop}, Calls P f args w R → CallsIn F n P f args w R
theorem open_wide : Open Fence.wide := ⟨fun _ => trivial, rfl, fun h => callsIn_wide.2 h⟩

theorem own_less {w : World} {b b' : Nat} {e : TypeId} {z n : Nat} {v : Value} {xs : List Value} (h : w.ownsRow b e z v n xs) (hb : b' ≤ b) : w.ownsRow b' e z v n xs := by
  obtain ⟨h1, h2 | ⟨g, cap, cur, hv, hg, r⟩⟩ := h
  · exact ⟨h1, Or.inl h2⟩
  · exact ⟨h1, Or.inr ⟨g, cap, cur, hv, by omega, r⟩⟩

theorem paths_in (F : Fence) (hF : Open F) (n : Nat) (a : Option Addr) (k cap : Nat) (m b d : Int) (p : ByteArray) (w : World) :
    CallsIn F n Try.prog 43 #[.agg #[.slice a k cap, .int .i64 m, .int .i64 b], .int .i64 d, .string p] w fun e w' =>
      e = .returned (.func (.func 60) #[] #[.pointer (some ⟨w.heap.size, 0, none⟩), .pointer (some ⟨w.heap.size + 1, 0, none⟩), .pointer (some ⟨w.heap.size + 2, 0, none⟩)]) ∧
      w' = ((w.alloc (.cells #[.slice a k cap, .int .i64 m, .int .i64 b] 24)).alloc (.cells #[.int .i64 d] 3)).alloc (.cells #[.string p] 9) := by
  have hro : F.round = none := hF.ro
  refine callsIn_of_wp Try.func43 rfl (hF.fn _) ?_ hro
  simp only [Try.ntmps43, List.size_toArray, List.length_cons, List.length_nil, Nat.reduceAdd, Nat.reduceSub, Array.replicate_succ, Array.replicate_zero, List.push_toArray, List.append_toArray, List.nil_append, List.cons_append]
  gi_wp2
  go_ret
  exact ⟨rfl, rfl⟩

set_option maxRecDepth 100000 in
set_option maxHeartbeats 2000000 in
theorem paths0_in (F : Fence) (hF : Open F) (n : Nat) (hn : 1 ≤ n) (l Bt : Nat) (a : Option Addr) (cap : Nat) (m b : Int) (L : List Ino) (hr : dirB L 0 = true) (hk : (nodeAt L 0).kids = []) (J : List (List UInt8) → World → Prop)
    (hab : ∀ pre W W', J pre W → W.grownBy W' none → J pre W')
    (W : World) (hN : NodesIn W a cap L) (q0 : W.cell? ⟨Bt, 0, none⟩ = some (.slice a L.length cap)) (q1 : W.cell? ⟨Bt, 1, none⟩ = some (.int .i64 m)) (q2 : W.cell? ⟨Bt, 2, none⟩ = some (.int .i64 b)) (q3 : W.cell? ⟨Bt + 1, 0, none⟩ = some (.int .i64 0)) (h0 : J [] W) :
    CallsIn F n Try.prog 60 #[.func (.yield l) #[] #[], .pointer (some ⟨Bt, 0, none⟩), .pointer (some ⟨Bt + 1, 0, none⟩), .pointer (some ⟨Bt + 2, 0, none⟩)] W fun e W' => (∃ v, e = .returned v) ∧ J [] W' := by
  have hro : F.round = none := hF.ro
  have hfd : F.fn 27 := hF.fn _
  obtain ⟨z, hz, hlen⟩ := dir_lt hr
  have hz0 : z = 0 := by omega
  subst hz0
  have HHJ := Lib.hid h0
  have HAB := Lib.hid hab
  have HNN := Lib.hid hN
  obtain ⟨bb, o, rfl, hx⟩ := hN.2.2 0 hlen
  obtain ⟨kv, x4, hks⟩ := hx.kids
  rw [show L[0].kids = [] by rw [← hk]; exact congrArg Ino.kids (node_nat L 0 hlen).symm] at hks
  obtain ⟨ka, kcap, rfl, -, -, -⟩ := hks
  rw [Nat.zero_mul, Nat.add_zero] at x4
  have hlen' : (0 : Int) < (L.length : Int) := by omega
  have gt : Bt < W.heap.size := by have h := cell_lt q0; exact h
  have gt1 : Bt + 1 < W.heap.size := by have h := cell_lt q3; exact h
  have gb : bb < W.heap.size := by have h := cell_lt x4; exact h
  have HR := Lib.hid hr
  have HK := Lib.hid hk
  clear hN hx h0 hab hr hk hz
  refine callsIn_of_wp_marks Try.func60 rfl (hF.fn _) ?_ hro
  simp only [Try.ntmps60, List.size_toArray, List.length_cons, List.length_nil, Nat.reduceAdd, Nat.reduceSub, Array.replicate_succ, Array.replicate_zero, List.push_toArray, List.append_toArray, List.nil_append, List.cons_append]
  gi_wp2_with (gi_at_call 27; refine (hF.calls (lisdir_known _ _ _ _ _ L _ HR.out _ (HNN.out.below (below_box _ _)))).mono ?_; rintro e w2 ⟨rfl, hb2⟩; have hb2' : Below W.heap.size W w2 := (below_box _ _).trans (hb2.mono (by simp)); have r0 := cell_below hb2' q0; have r1 := cell_below hb2' q1; have r2 := cell_below hb2' q2; have r3 := cell_below hb2' q3; have s4 := cell_below hb2' x4)
  have HJ2 := Lib.hid (HAB.out _ _ _ HHJ.out (show W.grownBy w2 none from ⟨hb2'.os, hb2'.tape, hb2'.output, hb2'.size, fun k hk _ => hb2'.block k hk⟩))
  clear hb2 hb2' r0 r1 r2 r3 s4
  gi_loopw [20] (fun i wr => i = .int .i64 0 ∧ J [] wr) (fun _ _ => 0)
  case atStart => exact ⟨rfl, HJ2.out⟩
  case round =>
    obtain ⟨rfl, hJ⟩ := hrel
    have HJ3 := Lib.hid hJ
    clear hJ
    gi_wp2
    exact ⟨_, results_none rfl _ _ _, ⟨_, rfl⟩, HJ3.out⟩

set_option maxRecDepth 100000 in
set_option maxHeartbeats 2000000 in
theorem llist0_any (a : Option Addr) (cap : Nat) (m b : Int) (L : List Ino) (hL : L.length ≤ 1000) (hS : Sized L) (hB : usedB L ≤ 4611686018427387904) (hF : FitP L m b) (hk : (nodeAt L 0).kids = []) (w : World) (hN : NodesIn w a cap L) :
    Calls Try.prog 23 #[.agg #[.slice a L.length cap, .int .i64 m, .int .i64 b]] w fun e W' => e = .returned (.slice none 0 0) ∧ Below w.heap.size w W' := by
  have hb1 := below_box w (.cells #[.slice a L.length cap, .int .i64 m, .int .i64 b] 24)
  obtain ⟨w1, hw1⟩ : ∃ w1, w1 = w.alloc (.cells #[.slice a L.length cap, .int .i64 m, .int .i64 b] 24) := ⟨_, rfl⟩
  have hM := hN.below hb1
  have hsz : w1.heap.size = w.heap.size + 1 := by rw [hw1]; simp
  have hbox : ∀ W', Below w1.heap.size w1 W' → W'.cell? ⟨w.heap.size, 0, none⟩ = some (.slice a L.length cap) ∧ W'.cell? ⟨w.heap.size, 1, none⟩ = some (.int .i64 m) ∧ W'.cell? ⟨w.heap.size, 2, none⟩ = some (.int .i64 b) := fun W' h => box3 (by rw [← hw1]; exact h)
  rw [← hw1] at hM hb1
  have HM := Lib.hid hM
  have HB1 := Lib.hid hb1
  have HX := Lib.hid hbox
  have HS := Lib.hid hS
  have HSZ := Lib.hid hsz
  have HFIT := Lib.hid hF
  have HK := Lib.hid hk
  have HEND := Lib.hid (show ∀ W', Below w1.heap.size w1 W' → Below w.heap.size w W' from fun W' h => HB1.out.trans (h.mono (by rw [hsz]; omega)))
  clear hM hN hb1 hbox hS hsz hF hk
  refine (callsIn_wide (n := 4)).1 ?_
  obtain ⟨F, hF⟩ : ∃ F, F = Fence.wide := ⟨_, rfl⟩
  have hO : Open F := by rw [hF]; exact open_wide
  rw [← hF]
  clear hF
  have hro : F.round = none := hO.ro
  have h13 : F.fn 13 := hO.fn _
  have h43 : F.fn 43 := hO.fn _
  refine callsIn_of_wp_marks Try.func23 rfl (hO.fn _) ?_ hro
  simp only [Try.ntmps23, List.size_toArray, List.length_cons, List.length_nil, Nat.reduceAdd, Nat.reduceSub, Array.replicate_succ, Array.replicate_zero, List.push_toArray, List.append_toArray, List.nil_append, List.cons_append]
  gi_wp2_with (gi_at_call 13; (rw [← hw1]); clear hw1; refine (hO.calls (lfit_any _ _ _ _ L hL HS.out hB _ HM.out)).mono ?_; rintro e w2 ⟨⟨v, rfl, hv⟩, hb2⟩; (obtain rfl : v = true := hv.2 HFIT.out); clear hv; have HB2 := Lib.hid hb2; (obtain ⟨q0, q1, q2⟩ := HX.out _ hb2); (have gw2 : w.heap.size < w2.heap.size := by have := hb2.size; rw [HSZ.out] at this; omega); clear hb2)
  gi_wp2_with (gi_at_call 43; refine (paths_in F hO (4 - 1) _ _ _ _ _ _ _ _).mono ?_; rintro e w' ⟨rfl, rfl⟩)
  have bL := Boxed.new w2 39 (.slice none 0 0)
  obtain ⟨w3, hw3⟩ : ∃ w3, w3 = (((w2.alloc (.cells #[.slice none 0 0] 39)).alloc (.cells #[.slice a L.length cap, .int .i64 m, .int .i64 b] 24)).alloc (.cells #[.int .i64 0] 3)).alloc (.cells #[.string ⟨#[47]⟩] 9) := ⟨_, rfl⟩
  have hs3 : w3.heap.size = w2.heap.size + 4 := by rw [hw3]; simp
  have hb23 : Below w2.heap.size w2 w3 := by rw [hw3]; exact (((below_box w2 _).alloc (by simp) _).alloc (by simp; omega) _).alloc (by simp; omega) _
  have bL3 : Boxed w3 w2.heap.size 39 (.slice none 0 0) := by rw [hw3]; exact ((bL.alloc _).alloc _).alloc _
  have e1 : (w2.alloc (.cells #[.slice none 0 0] 39)).heap.size = w2.heap.size + 1 := by simp
  have e2 : ((w2.alloc (.cells #[.slice none 0 0] 39)).alloc (.cells #[.slice a L.length cap, .int .i64 m, .int .i64 b] 24)).heap.size = w2.heap.size + 1 + 1 := by simp
  have HT3 := Lib.hid (show w3.cell? ⟨w2.heap.size + 1, 0, none⟩ = some (.slice a L.length cap) ∧ w3.cell? ⟨w2.heap.size + 1, 1, none⟩ = some (.int .i64 m) ∧ w3.cell? ⟨w2.heap.size + 1, 2, none⟩ = some (.int .i64 b) ∧ w3.cell? ⟨w2.heap.size + 1 + 1, 0, none⟩ = some (.int .i64 0) by
    have hq : Below (w2.heap.size + 1 + 1) ((w2.alloc (.cells #[.slice none 0 0] 39)).alloc (.cells #[.slice a L.length cap, .int .i64 m, .int .i64 b] 24)) w3 := by
      rw [hw3, ← e2]
      exact (below_box _ _).alloc (by simp) _
    have h3 := box3 (w := w2.alloc (.cells #[.slice none 0 0] 39)) (W' := w3) (x := .slice a L.length cap) (y := .int .i64 m) (z := .int .i64 b) (t := 24) (by rw [e2]; exact hq)
    rw [e1] at h3
    refine ⟨h3.1, h3.2.1, h3.2.2, ?_⟩
    have hq2 : Below (((w2.alloc (.cells #[.slice none 0 0] 39)).alloc (.cells #[.slice a L.length cap, .int .i64 m, .int .i64 b] 24)).alloc (.cells #[.int .i64 0] 3)).heap.size (((w2.alloc (.cells #[.slice none 0 0] 39)).alloc (.cells #[.slice a L.length cap, .int .i64 m, .int .i64 b] 24)).alloc (.cells #[.int .i64 0] 3)) w3 := by
      rw [hw3]
      exact below_box _ _
    refine cell_below hq2 ?_
    rw [← e2]
    simp only [World.cell?, new_block]
    rfl)
  have HB3 := Lib.hid (HB2.out.trans (hb23.mono HB2.out.size))
  have HN3 := Lib.hid (HM.out.below HB3.out)
  rw [← hw3]
  clear hw3 e1 e2 bL q0 q1 q2
  refine wpIn_rangeFunc_ownG hro (by omega) (gf := 60) (lb := #[.pointer (some ⟨w2.heap.size + 1, 0, none⟩), .pointer (some ⟨w2.heap.size + 1 + 1, 0, none⟩), .pointer (some ⟨w2.heap.size + 1 + 2, 0, none⟩)]) rfl (hO.fn _) (enters_of Try.func60 (by kernel_rfl) rfl)
    (encs := fun x : List UInt8 => #[Value.string ⟨x.toArray⟩]) (Kp := fun _ _ => True) (S := fun ys => ys = []) (Sp := fun _ => False) (N := 0) (w0 := w3)
    (fun l J Jx W hW hJ _ _ h0 => (paths0_in F hO (4 - 1) (by omega) l (w2.heap.size + 1) a cap m b L HFIT.out.root HK.out J (fun pre X Y hj hg => hJ pre X Y none hj hg (fun _ e => by cases e)) W (HN3.out.below hW)
      (cell_below hW HT3.out.1) (cell_below hW HT3.out.2.1) (cell_below hW HT3.out.2.2.1) (cell_below hW HT3.out.2.2.2) h0).mono (fun e W' h => ⟨h.1, .inl ⟨[], rfl, h.2⟩⟩))
    (fun _ _ => trivial) (fun _ _ _ _ _ _ _ _ => trivial) (Below.refl _ _) (fun _ => rfl)
    (fun _ W => Boxed W w2.heap.size 39 (.slice none 0 0) ∧ Below w1.heap.size w1 W)
    (fun _ _ _ => False)
    (OwnFrom.and (Own.from (boxed_own _ _ _) _) (ownFrom_below (Nat.le_refl _) (by have := HB2.out.size; omega)))
    (fun _ _ _ _ _ hs _ _ => hs)
    ⟨bL3, HB3.out⟩
    (fun x => { tmps := #[.agg #[.slice a L.length cap, .int .i64 m, .int .i64 b], .pointer (some ⟨w.heap.size, 0, none⟩), .slice none 0 0, .pointer (some ⟨w2.heap.size, 0, none⟩), .string ⟨x.toArray⟩, .agg #[.slice a L.length cap, .int .i64 m, .int .i64 b], .bool true, .bool false, .agg #[.slice a L.length cap, .int .i64 m, .int .i64 b], .func (.func 60) #[] #[.pointer (some ⟨w2.heap.size + 1, 0, none⟩), .pointer (some ⟨w2.heap.size + 1 + 1, 0, none⟩), .pointer (some ⟨w2.heap.size + 1 + 2, 0, none⟩)], .string ⟨x.toArray⟩, undef, undef, undef, undef, undef], defers := [] }) ?assign ?body ?done ?stop
  case assign =>
    intro l x W K hK
    gi_wp2
    exact hK
  case body =>
    intro l pre x W _ hlt
    exact absurd hlt (Nat.not_lt_zero _)
  case done =>
    rintro D ys W hD rfl ⟨hv, hB⟩ hK
    have hc := hv.cell
    gi_wp2
    refine ⟨by simp, .inl ⟨_, _, rfl, run_takeDeferred hK, ?_⟩⟩
    exact ⟨_, results_tmp rfl _ _ _, rfl, HEND.out _ (hB.trans (belowK_b (w := w1) (Nat.le_refl _) W D _ _ (by have := HB2.out.size; omega) hK rfl rfl))⟩
  case stop =>
    rintro D c pre W _ h _ _
    exact h.elim
end Go.Proofs.Ytdpfnnhlneapbaa
