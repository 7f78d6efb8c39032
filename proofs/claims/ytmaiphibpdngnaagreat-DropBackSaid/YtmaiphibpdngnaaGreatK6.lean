/-
  walk's end, of the landed code: all names that are left are gone.
  The reference's Walk and Parent, walked.
  walk's Walk, of the landed code.
  walk's Parent, of the landed code.
  make's newName and refuses.
  tree's Used, of the landed code.
  make's small functions: isMode, isFree, the first free inode, hasRoom, refuses, and the closures that tell a new inode.
  The binary search of a name's place, as make's give calls it.
  slices.Clone of names and of inodes: the same in memory of the call's own.
  Cells laid in a block that is known whole; copy of elements of several cells; an element laid between others.
-/
import Derived.Test.YtmaiphibpdngnaaGreatK5
import Derived.Deep.RegionHeld3
import Derived.Deep.RegionWith
import Derived.Deep.DrawnRows
import Derived.Test.YtmaiphibpdngnaaGreatK4
import Derived.Test.YtmaiphibpdngnaaGreatK2
import Derived.Test.YtmaiphibpdngnaaGreatK3
import Derived.WalkKit
import Derived.Shelf.SlicesE.Clone
import Derived.Shelf.Spec.SlicesInsertGrow
namespace Go.Proofs.YtmaiphibpdngnaaGreat
set_option maxRecDepth 100000
open Go Go.RowKit Go.Shelf

attribute [local go_sem] Oper.semAt_some

/-- What stands beside the way in end. -/
structure EndB (g B : Nat) (last : Bool) (err : Int) (w W : World) : Prop where
  b1 : W.heap[B]? = some (.cells #[.pointer (some ⟨g, 0, none⟩)] 118 (0, 0))
  b2 : W.heap[B + 1]? = some (.cells #[.bool last] 4 (0, 0))
  b3 : W.heap[B + 2]? = some (.cells #[.int .i64 err] 27 (0, 0))
  b4 : W.heap[B + 3]? = some (.cells #[.pointer (some ⟨g, 0, none⟩)] 118 (0, 0))
  moved : Moved g w W
theorem EndB.step {g B : Nat} {last : Bool} {err : Int} {w W W' : World} (h : EndB g B last err w W) (hg : g < B) (hm : Moved g W W') : EndB g B last err w W' :=
  ⟨hm.kept _ _ h.b1 (by omega) rfl, hm.kept _ _ h.b2 (by omega) rfl, hm.kept _ _ h.b3 (by omega) rfl, hm.kept _ _ h.b4 (by omega) rfl, h.moved.trans hm⟩
theorem endB_own {β : Type} {M g B : Nat} {last : Bool} {err : Int} {w : World} (hw : w.heap.size ≤ M) (hg : g ≤ w.heap.size) : OwnFrom M (fun (_ : β) W => EndB g B last err w W) := fun s X Y row h hgr hr => by
  have hc := fun r e => (hr r e).2
  exact ⟨(grownBy_keeps_cells hgr hc h.b1 rfl).trans h.b1, (grownBy_keeps_cells hgr hc h.b2 rfl).trans h.b2, (grownBy_keeps_cells hgr hc h.b3 rfl).trans h.b3, (grownBy_keeps_cells hgr hc h.b4 rfl).trans h.b4, moved_own (β := β) hw hg s X Y row h.moved hgr hr⟩
theorem EndB.setErr {g B : Nat} {last : Bool} {err : Int} {w W : World} (h : EndB g B last err w W) (hg : g < B) (hw : w.heap.size ≤ B) (e : Int) : EndB g B last e w (W.setCell ⟨B + 2, 0, none⟩ (.int .i64 e)) := by
  have ho : ∀ k, k ≠ B + 2 → (W.setCell ⟨B + 2, 0, none⟩ (.int .i64 e)).heap[k]? = W.heap[k]? := fun k hk => Below.heap_setCell W ⟨B + 2, 0, none⟩ _ k hk
  refine ⟨(ho _ (by omega)).trans h.b1, (ho _ (by omega)).trans h.b2, set_heap h.b3 0 _, (ho _ (by omega)).trans h.b4, ⟨h.moved.below.setCell (p := ⟨B + 2, 0, none⟩) (show g ≤ B + 2 by omega) _, fun k o hk hne hno => ?_⟩⟩
  have hlt : k < w.heap.size := (Array.getElem?_eq_some_iff.1 hk).1
  exact (ho k (by omega)).trans (h.moved.kept k o hk hne hno)
theorem way_far {n₀ g : Nat} {T : Value × Value × Value} {W : World} {p : Int} {st : List (List UInt8)} {links : Int} {b i : Nat} {t : TypeId} {c : Array Value} {u : Value} (h : WayAt n₀ g T W p st links) (hb : W.heap[b]? = some (.cells c t (0, 0))) (hne : b ≠ g) (ht : t ≠ 9) : WayAt n₀ g T (W.setCell ⟨b, i, none⟩ u) p st links := by
  obtain ⟨h0, v, h1, h2⟩ := h
  refine ⟨h0, v, (Below.heap_setCell W ⟨b, i, none⟩ u g (fun e => hne e.symm)).trans h1, h2.kept fun k hk => Below.heap_setCell W ⟨b, i, none⟩ u k (fun e => ?_)⟩
  obtain ⟨-, cur, hc⟩ := h2.own hk
  have e' : k = b := e
  subst e'
  rw [hb] at hc
  cases hc
  exact ht rfl

theorem box_frozen {W : World} {b i : Nat} {c : Array Value} {t : TypeId} (h : W.heap[b]? = some (.cells c t (0, 0))) : W.frozen? ⟨b, i, none⟩ = false := by
  simp only [World.frozen?, h]
  simp
theorem ko_below {W W' : World} (h : Below W.heap.size W W') : KeepsOthers W W' := ⟨h.size, fun k _o hk _ => (h.block k (Array.getElem?_eq_some_iff.1 hk).1).trans hk⟩
theorem ko_moved {g : Nat} {W W' : World} {c : Array Value} {t : TypeId} {fr : Nat × Nat} (hg : W.heap[g]? = some (.cells c t fr)) (h : Moved g W W') : KeepsOthers W W' := ⟨h.below.size, fun k o hk ho => by
  refine h.kept k o hk (fun e => ?_) (not_text ho)
  subst e
  rw [hg] at hk
  cases hk
  cases ho⟩
/-- What is known of a way under way. -/
def GhE (L : List Ino) (last : Bool) (R : Int × Int) (k : Nat) (N : List (List UInt8)) (p : Int) : Prop := k ≤ 8 ∧ N.length ≤ 5000 + k * 2000 ∧ R = wayW L last (8 - k) N p

set_option maxRecDepth 100000 in
set_option maxHeartbeats 8000000 in
theorem end_in (F : Fence) (hwide : F = Fence.wide) (n : Nat) (hn : 5 ≤ n) (n₀ g : Nat) (a : Option Addr) (cap : Nat) (m b : Int) (p0 : Int) (N0 : List (List UInt8)) (hN0 : N0.length ≤ 5000) (last : Bool) (L : List Ino) (hF : FitP L m b)
    (w0 : World) (hN : NodesIn w0 a cap L) (hw0 : w0.heap.size ≤ g) (w : World) (hb0 : Below w0.heap.size w0 w) (hn₀ : n₀ ≤ w.heap.size) (hW : WayAt n₀ g (.slice a L.length cap, .int .i64 m, .int .i64 b) w p0 N0.reverse 0) :
    CallsIn F n Tryz.prog 98 #[.pointer (some ⟨g, 0, none⟩), .bool last] w fun e w' => (∃ z : Int, e = .returned (.tuple #[.int .i64 z, .int .i64 (wayW L last 8 N0 p0).2]) ∧ ((wayW L last 8 N0 p0).2 = 0 → z = (wayW L last 8 N0 p0).1)) ∧ Moved g w w' := by
  have hO : Open F := by rw [hwide]; exact open_wide
  have hro : F.round = none := hO.ro
  have h43 : F.fn 112 := hO.fn _
  have h44 : F.fn 113 := hO.fn _
  have h26 : F.fn 94 := hO.fn _
  have h24 : F.fn 96 := hO.fn _
  have h1 : 1 ≤ n := by omega
  have h3 : 1 ≤ n - 1 - 1 := by omega
  have hlt := hW.lt
  have HW := Lib.hid hW
  have HF := Lib.hid hF
  have HN := Lib.hid hN
  have HB0 := Lib.hid hb0
  obtain ⟨R, hR⟩ : ∃ R, R = wayW L last 8 N0 p0 := ⟨_, rfl⟩
  rw [← hR]
  have HR := Lib.hid hR
  have HWIDE := Lib.hid hwide
  clear hW hwide hF hN hb0 hR
  refine callsIn_of_wp_marks Tryz.func98 rfl (hO.fn _) ?_ hro
  simp only [Tryz.ntmps98, List.size_toArray, List.length_cons, List.length_nil, Nat.reduceAdd, Nat.reduceSub, Array.replicate_succ, Array.replicate_zero, List.push_toArray, List.append_toArray, List.nil_append, List.cons_append]
  gi_wp2
  refine scope_in hro ?_
  gi_wp2
  refine wpIn_label ?_
  gi_wp2_with (first | (gi_at_call 112; refine (lnames_in F hO (n - 1) g _).mono ?_; rintro e w4 ⟨rfl, hw4⟩) | fail)
  rw [← hw4]
  obtain ⟨B, hB⟩ : ∃ B, B = w.heap.size := ⟨_, rfl⟩
  have hs4 : w4.heap.size = B + 4 := by rw [hw4, hB]; simp
  have hb4 : Below w.heap.size w w4 := by
    rw [hw4]
    exact (((below_box w _).alloc (by simp) _).alloc (by simp; omega) _).alloc (by simp; omega) _
  have hend : EndB g B last 0 w w4 := by
    have e1 : (w.alloc (.cells #[.pointer (some ⟨g, 0, none⟩)] 118)).heap.size = B + 1 := by simp [hB]
    have e2 : ((w.alloc (.cells #[.pointer (some ⟨g, 0, none⟩)] 118)).alloc (.cells #[.bool last] 4)).heap.size = B + 2 := by simp [hB]
    have e3 : (((w.alloc (.cells #[.pointer (some ⟨g, 0, none⟩)] 118)).alloc (.cells #[.bool last] 4)).alloc (.cells #[.int .i64 0] 27)).heap.size = B + 3 := by simp [hB]
    refine ⟨?_, ?_, ?_, ?_, Moved.of_below hb4 (Nat.le_of_lt hlt)⟩
    · rw [hw4, Below.heap_alloc _ _ _ (by rw [e3]; omega), Below.heap_alloc _ _ _ (by rw [e2]; omega), Below.heap_alloc _ _ _ (by rw [e1]; omega), hB]
      exact new_block w _
    · have h := new_block (w.alloc (.cells #[.pointer (some ⟨g, 0, none⟩)] 118)) (.cells #[.bool last] 4)
      rw [e1] at h
      rw [hw4, Below.heap_alloc _ _ _ (by rw [e3]; omega), Below.heap_alloc _ _ _ (by rw [e2]; omega)]
      exact h
    · have h := new_block ((w.alloc (.cells #[.pointer (some ⟨g, 0, none⟩)] 118)).alloc (.cells #[.bool last] 4)) (.cells #[.int .i64 0] 27)
      rw [e2] at h
      rw [hw4, Below.heap_alloc _ _ _ (by rw [e3]; omega)]
      exact h
    · have h := new_block (((w.alloc (.cells #[.pointer (some ⟨g, 0, none⟩)] 118)).alloc (.cells #[.bool last] 4)).alloc (.cells #[.int .i64 0] 27)) (.cells #[.pointer (some ⟨g, 0, none⟩)] 118)
      rw [e3] at h
      rw [hw4]
      exact h
  have HEB := Lib.hid hend
  have HW4 := Lib.hid (HW.out.below hb4)
  have hgB : g < B := by omega
  have hwB : w.heap.size ≤ B := by omega
  have HBW := Lib.hid hB
  clear hw4 hend hb4
  have hp4 : Value.pointer (some ⟨w.heap.size + 1 + 1 + 1, 0, none⟩) = .pointer (some ⟨B + 3, 0, none⟩) := by rw [hB]
  rw [← hB]
  rw [← hB] at hp4
  clear hB
  refine range_st hro h1 (gf := 123) (lb := #[.pointer (some ⟨B + 3, 0, none⟩)]) (by first | rfl | exact congrArg _ hp4) (hO.fn _) (enters_of Tryz.func123 (by kernel_rfl) rfl)
    (lnames1_seq F HWIDE.out (n - 1) (by omega) n₀ g (B + 3) (.slice a L.length cap, .int .i64 m, .int .i64 b) (fun W => EndB g B last 0 w W ∧ w4.heap.size ≤ W.heap.size) (GhE L last R) (fun k N p h => by have := h.2.1; have := h.1; omega)
      (fun W h => cell_in h.1.b4 rfl) (fun W v h => ⟨(h.1.step hgB (Moved.set W 4 v)).step hgB ⟨⟨rfl, rfl, rfl, Nat.le_refl _, fun _ _ => rfl⟩, fun _ _ h _ _ => h⟩, by show w4.heap.size ≤ (W.setCell ⟨g, 4, none⟩ v).heap.size; rw [set_size]; exact h.2⟩) ⟨[], N0, p0, 0⟩) (fun _ => rfl)
    (fun c W => c = .exit 0 ∧ (∃ (q k : Int) (st : List (List UInt8)), WayAt n₀ g (.slice a L.length cap, .int .i64 m, .int .i64 b) W q st k) ∧ EndB g B last R.2 w W ∧ R.2 ≠ 0)
    (fun s X Y row h hg hr => ⟨h.1.own hg (fun r e => (hr r e).2), ⟨endB_own (β := Unit) (by omega) (by omega) () X Y row h.2.1.1 hg hr, Nat.le_trans h.2.1.2 hg.size⟩, h.2.2⟩)
    (fun s X Y row h hg hr => ⟨h.1.own hg (fun r e => (hr r e).2), ⟨endB_own (β := Unit) (by omega) (by omega) () X Y row h.2.1.1 hg hr, Nat.le_trans h.2.1.2 hg.size⟩, h.2.2⟩)
    (fun c s X Y row h hg hr => ⟨h.1, by obtain ⟨q, k, st, h2⟩ := h.2.1; exact ⟨q, k, st, h2.own hg (fun r e => (hr r e).2)⟩, endB_own (β := Unit) (by omega) (by omega) () X Y row h.2.2.1 hg hr, h.2.2.2⟩)
    (fun s X Y row ⟨s', h0, h⟩ hg hr => ⟨s', h0, h.1.own hg (fun r e => (hr r e).2), ⟨endB_own (β := Unit) (by omega) (by omega) () X Y row h.2.1.1 hg hr, Nat.le_trans h.2.1.2 hg.size⟩, h.2.2⟩)
    ⟨HW4.out, ⟨HEB.out, Nat.le_refl _⟩, ⟨show (0 : Nat) ≤ 8 by omega, show N0.length ≤ 5000 + 0 * 2000 by omega, HR.out⟩⟩
    (fun s => { tmps := #[.pointer (some ⟨g, 0, none⟩), .bool last, .pointer (some ⟨B, 0, none⟩), .pointer (some ⟨B + 1, 0, none⟩), .int .i64 0, .int .i64 0, .pointer (some ⟨B + 1 + 1, 0, none⟩), .string ⟨s.x.toArray⟩, undef, .pointer (some ⟨g, 0, none⟩), .func (.func 123) #[] #[.pointer (some ⟨B + 1 + 1 + 1, 0, none⟩)], .string ⟨s.x.toArray⟩, undef, undef, undef, undef, undef, undef, undef, undef, undef, undef, undef, undef, undef, undef, undef, undef, undef, undef, undef, undef, undef, undef, undef, undef, undef, undef, undef, undef, undef, undef, undef, undef, undef, undef, undef, undef, undef, undef, undef, undef, undef, undef, undef, undef, undef, undef, undef, undef, undef, undef, undef, undef, undef, undef, undef, undef, undef, undef, undef, undef, undef, undef], defers := [] }) ?assign ?body ?done ?stop
  case assign =>
    intro l s W K hK
    gi_wp2
    exact hK
  case body =>
    rintro l ⟨x, N, p, k⟩ W ⟨hway, ⟨heb, hsz⟩, hk, hNl, hRw⟩
    simp only at hway hk hNl hRw
    simp only [List.length_cons] at hNl
    have hw := HWIDE.out
    subst hw
    have hNW : NodesIn W a cap L := HN.out.below (HB0.out.trans (heb.moved.below.mono hw0))
    have b1c : W.cell? ⟨B, 0, none⟩ = some (.pointer (some ⟨g, 0, none⟩)) := cell_in heb.b1 rfl
    have HNW := Lib.hid hNW
    have HWAY := Lib.hid hway
    have HEN := Lib.hid heb
    have HRW := Lib.hid hRw
    obtain ⟨z, hz⟩ : ∃ z, z = (stepW L p x).1 := ⟨_, rfl⟩
    obtain ⟨er, her⟩ : ∃ er, er = (stepW L p x).2 := ⟨_, rfl⟩
    have HST := Lib.hid (show stepW L p x = (z, er) by rw [hz, her])
    have HCALL := Lib.hid (show Calls Tryz.prog 113 #[.pointer (some ⟨g, 0, none⟩), .string ⟨x.toArray⟩] W fun e w' => e = .returned (.tuple #[.int .i64 z, .int .i64 er]) ∧ Below W.heap.size W w' by
      have h := lstep_any n₀ g a cap m b p k N.reverse x L HF.out W HNW.out HWAY.out
      rw [HST.out] at h
      exact h)
    have hgW := hway.lt
    clear hz her hNW hway heb hRw
    have HSZ := Lib.hid hsz
    have hBW : B + 4 ≤ W.heap.size := by omega
    have hkw : ((8 - k) + k = 8) ∧ k ≤ 8 := ⟨by omega, hk⟩
    cases he : (er != 0) with
    | true =>
      have hne : er ≠ 0 := by simpa using he
      have HR2 := Lib.hid (show R.2 = er by rw [HRW.out, wayW_err _ _ _ _ _ _ (by rw [HST.out]; exact hne), HST.out])
      have HNE := Lib.hid hne
      clear hne
      gi_wp2_with (first | (gi_at_call 113; refine (CallsIn.inRound l (hO.calls HCALL.out)).mono ?_; rintro e W2 ⟨rfl, hb2⟩; have HB2 := Lib.hid hb2; have hs2 := hb2.size; clear hb2; have HEB2 := Lib.hid (HEN.out.step hgB (Moved.of_below HB2.out (Nat.le_of_lt hgW))); have HWAY2 := Lib.hid (HWAY.out.below HB2.out); have b3c : W2.cell? ⟨B + 1 + 1, 0, none⟩ = some (.int .i64 0) := cell_in HEB2.out.b3 rfl; have b3f : W2.frozen? ⟨B + 1 + 1, 0, none⟩ = false := box_frozen HEB2.out.b3) | fail)
      exact ⟨((ko_below HB2.out).trans (KeepsOthers.setCell W2 _ _)).from _, rfl, ⟨p, k, N.reverse, way_far HWAY2.out HEB2.out.b3 (by omega) (by decide)⟩, by rw [HR2.out]; exact HEB2.out.setErr hgB hwB er, by rw [HR2.out]; exact HNE.out⟩
    | false =>
      have hz0 : er = 0 := by simpa using he
      subst hz0
      have hlive := step_ok HF.out (show (stepW L p x).2 = 0 by rw [HST.out])
      rw [HST.out] at hlive
      obtain ⟨u, hu, hul⟩ := there_nat (live_there hlive)
      have hzu : z = (u : Int) := hu
      subst hzu
      have hkl : kindL L (u : Int) = L[u].kind := by
        unfold kindL
        rw [live_there hlive, if_pos rfl, node_nat L u hul]
      have HKL := Lib.hid hkl
      have HND := Lib.hid (node_nat L u hul)
      clear hkl hlive hu he
      cases hk3 : (L[u].kind != 3) with
      | true =>
        have HGO := Lib.hid (show R = wayW L last (8 - k) N (u : Int) by rw [HRW.out, wayW_on _ _ _ _ _ _ _ HST.out (Or.inl (by rw [HND.out]; simpa using hk3))])
        gi_wp2_with (first | (gi_at_call 113; refine (CallsIn.inRound l (hO.calls HCALL.out)).mono ?_; rintro e W2 ⟨rfl, hb2⟩; have HB2 := Lib.hid hb2; have hs2 := hb2.size; clear hb2; have HEB2 := Lib.hid (HEN.out.step hgB (Moved.of_below HB2.out (Nat.le_of_lt hgW))); have HWAY2 := Lib.hid (HWAY.out.below HB2.out); have b3c : W2.cell? ⟨B + 1 + 1, 0, none⟩ = some (.int .i64 0) := cell_in HEB2.out.b3 rfl; have b3f : W2.frozen? ⟨B + 1 + 1, 0, none⟩ = false := box_frozen HEB2.out.b3; have HEB3 := Lib.hid (show EndB g B last 0 w (W2.setCell ⟨B + 1 + 1, 0, none⟩ (.int .i64 0)) from HEB2.out.setErr hgB hwB 0); have HWAY3 := Lib.hid (show WayAt n₀ g (.slice a L.length cap, .int .i64 m, .int .i64 b) (W2.setCell ⟨B + 1 + 1, 0, none⟩ (.int .i64 0)) p N.reverse k from way_far HWAY2.out HEB2.out.b3 (by omega) (by decide)); have d1 : (W2.setCell ⟨B + 1 + 1, 0, none⟩ (.int .i64 0)).cell? ⟨B, 0, none⟩ = some (.pointer (some ⟨g, 0, none⟩)) := cell_in HEB3.out.b1 rfl; (obtain ⟨d2, d3, d4, -, -, -⟩ := way_cells HWAY3.out); have d5 : (W2.setCell ⟨B + 1 + 1, 0, none⟩ (.int .i64 0)).cell? ⟨B + 1 + 1, 0, none⟩ = some (.int .i64 0) := cell_in HEB3.out.b3 rfl; have HNW3 := Lib.hid (show NodesIn (W2.setCell ⟨B + 1 + 1, 0, none⟩ (.int .i64 0)) a cap L from HN.out.below (HB0.out.trans (HEB3.out.moved.below.mono hw0))); have hs3 : (W2.setCell ⟨B + 1 + 1, 0, none⟩ (.int .i64 0)).heap.size = W2.heap.size := set_size W2 _ _) | (gi_at_call 94; refine (CallsIn.inRound l (hO.calls (kind_known a cap m b (u : Int) L L[u].kind HKL.out _ HNW3.out))).mono ?_; rintro e W4 ⟨rfl, hb4⟩; have HB4 := Lib.hid hb4; have hs5 := hb4.size; clear hb4 d1 d2 d3 d4 d5 b3c b3f; have hg3 : g < (W2.setCell ⟨B + 1 + 1, 0, none⟩ (.int .i64 0)).heap.size := HWAY3.out.lt; have HEB4 := Lib.hid (HEB3.out.step hgB (Moved.of_below HB4.out (Nat.le_of_lt hg3))); have HWAY4 := Lib.hid (HWAY3.out.below HB4.out); have e1 : W4.cell? ⟨B, 0, none⟩ = some (.pointer (some ⟨g, 0, none⟩)) := cell_in HEB4.out.b1 rfl; have e2 : W4.cell? ⟨B + 1, 0, none⟩ = some (.bool last) := cell_in HEB4.out.b2 rfl; have e3 : W4.cell? ⟨B + 1 + 1, 0, none⟩ = some (.int .i64 0) := cell_in HEB4.out.b3 rfl; have e4 : W4.frozen? ⟨B + 1 + 1, 0, none⟩ = false := box_frozen HEB4.out.b3; have f3 := way_frozen HWAY4.out 3; have f5 := way_frozen HWAY4.out 5; (obtain ⟨c0, c1, c2, c3, ⟨v4, c4, hv4⟩, c5⟩ := way_cells HWAY4.out); (obtain ⟨va, vc, rfl, -, -, -⟩ := hv4.view); have HKO := Lib.hid ((ko_below HB2.out).trans ((KeepsOthers.setCell W2 ⟨B + 1 + 1, 0, none⟩ (.int .i64 0)).trans (ko_below HB4.out))); have HNW4 := Lib.hid (HNW3.out.below HB4.out); clear hv4) | fail)
        exact ⟨(HKO.out.trans (KeepsOthers.setCell W4 _ _)).from _, ⟨x, N, (u : Int), k⟩, Nat.le_refl _, way_set3 HWAY4.out u, ⟨HEB4.out.step hgB (Moved.set W4 3 _), by rw [set_size]; exact Nat.le_trans HSZ.out HKO.out.size⟩, hk, by show N.length ≤ 5000 + k * 2000; omega, HGO.out⟩
      | false =>
        have hk3' : L[u].kind = 3 := by simpa using hk3
        by_cases hlast : N = [] ∧ last = false
        · have HLN := Lib.hid hlast.1
          have HLL := Lib.hid hlast.2
          clear hlast
          have HGO := Lib.hid (show R = wayW L last (8 - k) N (u : Int) by rw [HRW.out, wayW_on _ _ _ _ _ _ _ HST.out (Or.inr ⟨HLN.out, HLL.out⟩)])
          gi_wp2_with (first | (gi_at_call 113; refine (CallsIn.inRound l (hO.calls HCALL.out)).mono ?_; rintro e W2 ⟨rfl, hb2⟩; have HB2 := Lib.hid hb2; have hs2 := hb2.size; clear hb2; have HEB2 := Lib.hid (HEN.out.step hgB (Moved.of_below HB2.out (Nat.le_of_lt hgW))); have HWAY2 := Lib.hid (HWAY.out.below HB2.out); have b3c : W2.cell? ⟨B + 1 + 1, 0, none⟩ = some (.int .i64 0) := cell_in HEB2.out.b3 rfl; have b3f : W2.frozen? ⟨B + 1 + 1, 0, none⟩ = false := box_frozen HEB2.out.b3; have HEB3 := Lib.hid (show EndB g B last 0 w (W2.setCell ⟨B + 1 + 1, 0, none⟩ (.int .i64 0)) from HEB2.out.setErr hgB hwB 0); have HWAY3 := Lib.hid (show WayAt n₀ g (.slice a L.length cap, .int .i64 m, .int .i64 b) (W2.setCell ⟨B + 1 + 1, 0, none⟩ (.int .i64 0)) p N.reverse k from way_far HWAY2.out HEB2.out.b3 (by omega) (by decide)); have d1 : (W2.setCell ⟨B + 1 + 1, 0, none⟩ (.int .i64 0)).cell? ⟨B, 0, none⟩ = some (.pointer (some ⟨g, 0, none⟩)) := cell_in HEB3.out.b1 rfl; (obtain ⟨d2, d3, d4, -, -, -⟩ := way_cells HWAY3.out); have d5 : (W2.setCell ⟨B + 1 + 1, 0, none⟩ (.int .i64 0)).cell? ⟨B + 1 + 1, 0, none⟩ = some (.int .i64 0) := cell_in HEB3.out.b3 rfl; have HNW3 := Lib.hid (show NodesIn (W2.setCell ⟨B + 1 + 1, 0, none⟩ (.int .i64 0)) a cap L from HN.out.below (HB0.out.trans (HEB3.out.moved.below.mono hw0))); have hs3 : (W2.setCell ⟨B + 1 + 1, 0, none⟩ (.int .i64 0)).heap.size = W2.heap.size := set_size W2 _ _) | (gi_at_call 94; refine (CallsIn.inRound l (hO.calls (kind_known a cap m b (u : Int) L L[u].kind HKL.out _ HNW3.out))).mono ?_; rintro e W4 ⟨rfl, hb4⟩; have HB4 := Lib.hid hb4; have hs5 := hb4.size; clear hb4 d1 d2 d3 d4 d5 b3c b3f; have hg3 : g < (W2.setCell ⟨B + 1 + 1, 0, none⟩ (.int .i64 0)).heap.size := HWAY3.out.lt; have HEB4 := Lib.hid (HEB3.out.step hgB (Moved.of_below HB4.out (Nat.le_of_lt hg3))); have HWAY4 := Lib.hid (HWAY3.out.below HB4.out); have e1 : W4.cell? ⟨B, 0, none⟩ = some (.pointer (some ⟨g, 0, none⟩)) := cell_in HEB4.out.b1 rfl; have e2 : W4.cell? ⟨B + 1, 0, none⟩ = some (.bool last) := cell_in HEB4.out.b2 rfl; have e3 : W4.cell? ⟨B + 1 + 1, 0, none⟩ = some (.int .i64 0) := cell_in HEB4.out.b3 rfl; have e4 : W4.frozen? ⟨B + 1 + 1, 0, none⟩ = false := box_frozen HEB4.out.b3; have f3 := way_frozen HWAY4.out 3; have f5 := way_frozen HWAY4.out 5; (obtain ⟨c0, c1, c2, c3, ⟨v4, c4, hv4⟩, c5⟩ := way_cells HWAY4.out); (obtain ⟨va, vc, rfl, -, -, -⟩ := hv4.view); have HKO := Lib.hid ((ko_below HB2.out).trans ((KeepsOthers.setCell W2 ⟨B + 1 + 1, 0, none⟩ (.int .i64 0)).trans (ko_below HB4.out))); have HNW4 := Lib.hid (HNW3.out.below HB4.out); clear hv4; simp only [List.length_reverse] at c4; (have e5 := e2); rw [HLL.out] at e5; rw [HLN.out, List.length_nil] at c4; clear e2) | fail)
          exact ⟨(HKO.out.trans (KeepsOthers.setCell W4 _ _)).from _, ⟨x, N, (u : Int), k⟩, Nat.le_refl _, way_set3 HWAY4.out u, ⟨HEB4.out.step hgB (Moved.set W4 3 _), by rw [set_size]; exact Nat.le_trans HSZ.out HKO.out.size⟩, hk, by show N.length ≤ 5000 + k * 2000; omega, HGO.out⟩
        · have HNL := Lib.hid (show ¬ ((nodeAt L (u : Int)).kind ≠ 3 ∨ (N = [] ∧ last = false)) from fun h => by
            rcases h with h | h
            · exact h (by rw [HND.out]; exact hk3')
            · exact hlast h)
          have hcase : (N = [] ∧ last = true) ∨ ((N.length : Int) == 0) = false := by
            by_cases hr0 : N = []
            · subst hr0
              cases last with
              | true => exact Or.inl ⟨rfl, rfl⟩
              | false => exact absurd ⟨rfl, rfl⟩ hlast
            · refine Or.inr ?_
              rw [beq_eq_false_iff_ne]
              exact fun e => hr0 (List.length_eq_zero_iff.1 (by omega))
          clear hlast
          by_cases hk8 : k = 8
          · have HK8 := Lib.hid (show (k : Int) = 8 by omega)
            have HW := Lib.hid (show R = (0, 40) by rw [HRW.out, show 8 - k = 0 by omega]; exact wayW_loop _ _ _ _ _ _ HST.out HNL.out)
            rcases hcase with ⟨hln, hll⟩ | hrl
            rotate_left
            · gi_wp2_with (first | (gi_at_call 113; refine (CallsIn.inRound l (hO.calls HCALL.out)).mono ?_; rintro e W2 ⟨rfl, hb2⟩; have HB2 := Lib.hid hb2; have hs2 := hb2.size; clear hb2; have HEB2 := Lib.hid (HEN.out.step hgB (Moved.of_below HB2.out (Nat.le_of_lt hgW))); have HWAY2 := Lib.hid (HWAY.out.below HB2.out); have b3c : W2.cell? ⟨B + 1 + 1, 0, none⟩ = some (.int .i64 0) := cell_in HEB2.out.b3 rfl; have b3f : W2.frozen? ⟨B + 1 + 1, 0, none⟩ = false := box_frozen HEB2.out.b3; have HEB3 := Lib.hid (show EndB g B last 0 w (W2.setCell ⟨B + 1 + 1, 0, none⟩ (.int .i64 0)) from HEB2.out.setErr hgB hwB 0); have HWAY3 := Lib.hid (show WayAt n₀ g (.slice a L.length cap, .int .i64 m, .int .i64 b) (W2.setCell ⟨B + 1 + 1, 0, none⟩ (.int .i64 0)) p N.reverse k from way_far HWAY2.out HEB2.out.b3 (by omega) (by decide)); have d1 : (W2.setCell ⟨B + 1 + 1, 0, none⟩ (.int .i64 0)).cell? ⟨B, 0, none⟩ = some (.pointer (some ⟨g, 0, none⟩)) := cell_in HEB3.out.b1 rfl; (obtain ⟨d2, d3, d4, -, -, -⟩ := way_cells HWAY3.out); have d5 : (W2.setCell ⟨B + 1 + 1, 0, none⟩ (.int .i64 0)).cell? ⟨B + 1 + 1, 0, none⟩ = some (.int .i64 0) := cell_in HEB3.out.b3 rfl; have HNW3 := Lib.hid (show NodesIn (W2.setCell ⟨B + 1 + 1, 0, none⟩ (.int .i64 0)) a cap L from HN.out.below (HB0.out.trans (HEB3.out.moved.below.mono hw0))); have hs3 : (W2.setCell ⟨B + 1 + 1, 0, none⟩ (.int .i64 0)).heap.size = W2.heap.size := set_size W2 _ _) | (gi_at_call 94; refine (CallsIn.inRound l (hO.calls (kind_known a cap m b (u : Int) L L[u].kind HKL.out _ HNW3.out))).mono ?_; rintro e W4 ⟨rfl, hb4⟩; have HB4 := Lib.hid hb4; have hs5 := hb4.size; clear hb4 d1 d2 d3 d4 d5 b3c b3f; have hg3 : g < (W2.setCell ⟨B + 1 + 1, 0, none⟩ (.int .i64 0)).heap.size := HWAY3.out.lt; have HEB4 := Lib.hid (HEB3.out.step hgB (Moved.of_below HB4.out (Nat.le_of_lt hg3))); have HWAY4 := Lib.hid (HWAY3.out.below HB4.out); have e1 : W4.cell? ⟨B, 0, none⟩ = some (.pointer (some ⟨g, 0, none⟩)) := cell_in HEB4.out.b1 rfl; have e2 : W4.cell? ⟨B + 1, 0, none⟩ = some (.bool last) := cell_in HEB4.out.b2 rfl; have e3 : W4.cell? ⟨B + 1 + 1, 0, none⟩ = some (.int .i64 0) := cell_in HEB4.out.b3 rfl; have e4 : W4.frozen? ⟨B + 1 + 1, 0, none⟩ = false := box_frozen HEB4.out.b3; have f3 := way_frozen HWAY4.out 3; have f5 := way_frozen HWAY4.out 5; (obtain ⟨c0, c1, c2, c3, ⟨v4, c4, hv4⟩, c5⟩ := way_cells HWAY4.out); (obtain ⟨va, vc, rfl, -, -, -⟩ := hv4.view); have HKO := Lib.hid ((ko_below HB2.out).trans ((KeepsOthers.setCell W2 ⟨B + 1 + 1, 0, none⟩ (.int .i64 0)).trans (ko_below HB4.out))); have HNW4 := Lib.hid (HNW3.out.below HB4.out); clear hv4; simp only [List.length_reverse] at c4; rw [HK8.out] at c5) | fail)
              exact ⟨(HKO.out.trans (KeepsOthers.setCell W4 _ _)).from _, rfl, ⟨p, k, _, way_far HWAY4.out HEB4.out.b3 (by omega) (by decide)⟩, by rw [HW.out]; exact HEB4.out.setErr hgB hwB 40, by rw [HW.out]; decide⟩
            · have HLN := Lib.hid hln
              have HLL := Lib.hid hll
              clear hln hll
              gi_wp2_with (first | (gi_at_call 113; refine (CallsIn.inRound l (hO.calls HCALL.out)).mono ?_; rintro e W2 ⟨rfl, hb2⟩; have HB2 := Lib.hid hb2; have hs2 := hb2.size; clear hb2; have HEB2 := Lib.hid (HEN.out.step hgB (Moved.of_below HB2.out (Nat.le_of_lt hgW))); have HWAY2 := Lib.hid (HWAY.out.below HB2.out); have b3c : W2.cell? ⟨B + 1 + 1, 0, none⟩ = some (.int .i64 0) := cell_in HEB2.out.b3 rfl; have b3f : W2.frozen? ⟨B + 1 + 1, 0, none⟩ = false := box_frozen HEB2.out.b3; have HEB3 := Lib.hid (show EndB g B last 0 w (W2.setCell ⟨B + 1 + 1, 0, none⟩ (.int .i64 0)) from HEB2.out.setErr hgB hwB 0); have HWAY3 := Lib.hid (show WayAt n₀ g (.slice a L.length cap, .int .i64 m, .int .i64 b) (W2.setCell ⟨B + 1 + 1, 0, none⟩ (.int .i64 0)) p N.reverse k from way_far HWAY2.out HEB2.out.b3 (by omega) (by decide)); have d1 : (W2.setCell ⟨B + 1 + 1, 0, none⟩ (.int .i64 0)).cell? ⟨B, 0, none⟩ = some (.pointer (some ⟨g, 0, none⟩)) := cell_in HEB3.out.b1 rfl; (obtain ⟨d2, d3, d4, -, -, -⟩ := way_cells HWAY3.out); have d5 : (W2.setCell ⟨B + 1 + 1, 0, none⟩ (.int .i64 0)).cell? ⟨B + 1 + 1, 0, none⟩ = some (.int .i64 0) := cell_in HEB3.out.b3 rfl; have HNW3 := Lib.hid (show NodesIn (W2.setCell ⟨B + 1 + 1, 0, none⟩ (.int .i64 0)) a cap L from HN.out.below (HB0.out.trans (HEB3.out.moved.below.mono hw0))); have hs3 : (W2.setCell ⟨B + 1 + 1, 0, none⟩ (.int .i64 0)).heap.size = W2.heap.size := set_size W2 _ _) | (gi_at_call 94; refine (CallsIn.inRound l (hO.calls (kind_known a cap m b (u : Int) L L[u].kind HKL.out _ HNW3.out))).mono ?_; rintro e W4 ⟨rfl, hb4⟩; have HB4 := Lib.hid hb4; have hs5 := hb4.size; clear hb4 d1 d2 d3 d4 d5 b3c b3f; have hg3 : g < (W2.setCell ⟨B + 1 + 1, 0, none⟩ (.int .i64 0)).heap.size := HWAY3.out.lt; have HEB4 := Lib.hid (HEB3.out.step hgB (Moved.of_below HB4.out (Nat.le_of_lt hg3))); have HWAY4 := Lib.hid (HWAY3.out.below HB4.out); have e1 : W4.cell? ⟨B, 0, none⟩ = some (.pointer (some ⟨g, 0, none⟩)) := cell_in HEB4.out.b1 rfl; have e2 : W4.cell? ⟨B + 1, 0, none⟩ = some (.bool last) := cell_in HEB4.out.b2 rfl; have e3 : W4.cell? ⟨B + 1 + 1, 0, none⟩ = some (.int .i64 0) := cell_in HEB4.out.b3 rfl; have e4 : W4.frozen? ⟨B + 1 + 1, 0, none⟩ = false := box_frozen HEB4.out.b3; have f3 := way_frozen HWAY4.out 3; have f5 := way_frozen HWAY4.out 5; (obtain ⟨c0, c1, c2, c3, ⟨v4, c4, hv4⟩, c5⟩ := way_cells HWAY4.out); (obtain ⟨va, vc, rfl, -, -, -⟩ := hv4.view); have HKO := Lib.hid ((ko_below HB2.out).trans ((KeepsOthers.setCell W2 ⟨B + 1 + 1, 0, none⟩ (.int .i64 0)).trans (ko_below HB4.out))); have HNW4 := Lib.hid (HNW3.out.below HB4.out); clear hv4; simp only [List.length_reverse] at c4; (have e5 := e2); rw [HLL.out] at e5; rw [HLN.out, List.length_nil] at c4; clear e2; rw [HK8.out] at c5) | fail)
              exact ⟨(HKO.out.trans (KeepsOthers.setCell W4 _ _)).from _, rfl, ⟨p, k, _, way_far HWAY4.out HEB4.out.b3 (by omega) (by decide)⟩, by rw [HW.out]; exact HEB4.out.setErr hgB hwB 40, by rw [HW.out]; decide⟩
          · obtain ⟨hd1024, -⟩ := link_data HF.out.ins (there_of L u hul) (by rw [HND.out]; exact hk3')
            rw [HND.out] at hd1024
            obtain ⟨d, hde⟩ : ∃ d, d = L[u].data := ⟨_, rfl⟩
            rw [← hde] at hd1024
            have HDE := Lib.hid (show (nodeAt L (u : Int)).data = d by rw [HND.out, hde])
            have HDD := Lib.hid hde
            have hk7 : ((k : Int) == 8) = false := by rw [beq_eq_false_iff_ne]; omega
            have HP := Lib.hid (show (partsL d).length ≤ 1025 by have := count_parts d; omega)
            have HGO := Lib.hid (show R = wayW L last (8 - (k + 1)) (partsL d ++ N) (if wholeL d then 0 else p) by
              rw [HRW.out, show 8 - k = (8 - (k + 1)) + 1 by omega, wayW_link _ _ _ _ _ _ _ HST.out HNL.out, HDE.out])
            clear hde
            rcases hcase with ⟨hln, hll⟩ | hrl
            · have HLN := Lib.hid hln
              have HLL := Lib.hid hll
              clear hln hll
              gi_wp2_with (first | (gi_at_call 113; refine (CallsIn.inRound l (hO.calls HCALL.out)).mono ?_; rintro e W2 ⟨rfl, hb2⟩; have HB2 := Lib.hid hb2; have hs2 := hb2.size; clear hb2; have HEB2 := Lib.hid (HEN.out.step hgB (Moved.of_below HB2.out (Nat.le_of_lt hgW))); have HWAY2 := Lib.hid (HWAY.out.below HB2.out); have b3c : W2.cell? ⟨B + 1 + 1, 0, none⟩ = some (.int .i64 0) := cell_in HEB2.out.b3 rfl; have b3f : W2.frozen? ⟨B + 1 + 1, 0, none⟩ = false := box_frozen HEB2.out.b3; have HEB3 := Lib.hid (show EndB g B last 0 w (W2.setCell ⟨B + 1 + 1, 0, none⟩ (.int .i64 0)) from HEB2.out.setErr hgB hwB 0); have HWAY3 := Lib.hid (show WayAt n₀ g (.slice a L.length cap, .int .i64 m, .int .i64 b) (W2.setCell ⟨B + 1 + 1, 0, none⟩ (.int .i64 0)) p N.reverse k from way_far HWAY2.out HEB2.out.b3 (by omega) (by decide)); have d1 : (W2.setCell ⟨B + 1 + 1, 0, none⟩ (.int .i64 0)).cell? ⟨B, 0, none⟩ = some (.pointer (some ⟨g, 0, none⟩)) := cell_in HEB3.out.b1 rfl; (obtain ⟨d2, d3, d4, -, -, -⟩ := way_cells HWAY3.out); have d5 : (W2.setCell ⟨B + 1 + 1, 0, none⟩ (.int .i64 0)).cell? ⟨B + 1 + 1, 0, none⟩ = some (.int .i64 0) := cell_in HEB3.out.b3 rfl; have HNW3 := Lib.hid (show NodesIn (W2.setCell ⟨B + 1 + 1, 0, none⟩ (.int .i64 0)) a cap L from HN.out.below (HB0.out.trans (HEB3.out.moved.below.mono hw0))); have hs3 : (W2.setCell ⟨B + 1 + 1, 0, none⟩ (.int .i64 0)).heap.size = W2.heap.size := set_size W2 _ _) | (gi_at_call 94; refine (CallsIn.inRound l (hO.calls (kind_known a cap m b (u : Int) L L[u].kind HKL.out _ HNW3.out))).mono ?_; rintro e W4 ⟨rfl, hb4⟩; have HB4 := Lib.hid hb4; have hs5 := hb4.size; clear hb4 d1 d2 d3 d4 d5 b3c b3f; have hg3 : g < (W2.setCell ⟨B + 1 + 1, 0, none⟩ (.int .i64 0)).heap.size := HWAY3.out.lt; have HEB4 := Lib.hid (HEB3.out.step hgB (Moved.of_below HB4.out (Nat.le_of_lt hg3))); have HWAY4 := Lib.hid (HWAY3.out.below HB4.out); have e1 : W4.cell? ⟨B, 0, none⟩ = some (.pointer (some ⟨g, 0, none⟩)) := cell_in HEB4.out.b1 rfl; have e2 : W4.cell? ⟨B + 1, 0, none⟩ = some (.bool last) := cell_in HEB4.out.b2 rfl; have e3 : W4.cell? ⟨B + 1 + 1, 0, none⟩ = some (.int .i64 0) := cell_in HEB4.out.b3 rfl; have e4 : W4.frozen? ⟨B + 1 + 1, 0, none⟩ = false := box_frozen HEB4.out.b3; have f3 := way_frozen HWAY4.out 3; have f5 := way_frozen HWAY4.out 5; (obtain ⟨c0, c1, c2, c3, ⟨v4, c4, hv4⟩, c5⟩ := way_cells HWAY4.out); (obtain ⟨va, vc, rfl, -, -, -⟩ := hv4.view); have HKO := Lib.hid ((ko_below HB2.out).trans ((KeepsOthers.setCell W2 ⟨B + 1 + 1, 0, none⟩ (.int .i64 0)).trans (ko_below HB4.out))); have HNW4 := Lib.hid (HNW3.out.below HB4.out); clear hv4; simp only [List.length_reverse] at c4; (have e5 := e2); rw [HLL.out] at e5; rw [HLN.out, List.length_nil] at c4; clear e2) | fail)
              obtain ⟨X, hX⟩ : ∃ X, X = W4.setCell ⟨g, 5, none⟩ (.int .i64 ((k : Int) + 1)) := ⟨_, rfl⟩
              have HWX := Lib.hid (show WayAt n₀ g (.slice a L.length cap, .int .i64 m, .int .i64 b) X p N.reverse ((k : Int) + 1) by rw [hX]; exact way_set5 HWAY4.out _)
              have HEX := Lib.hid (show EndB g B last 0 w X by rw [hX]; exact HEB4.out.step hgB (Moved.set W4 5 _))
              have HKX := Lib.hid (show KeepsOthers W X by rw [hX]; exact HKO.out.trans (KeepsOthers.setCell W4 _ _))
              have HNX := Lib.hid (show NodesIn X a cap L from HN.out.below (HB0.out.trans (HEX.out.moved.below.mono hw0)))
              rw [← hX]
              clear hX e1 e3 e4 f3 f5 c0 c1 c2 c3 c4 c5
              have hgX := HWX.out.lt
              have hnX : n₀ ≤ X.heap.size := Nat.le_trans hn₀ HEX.out.moved.below.size
              obtain ⟨bb, o, hae, -⟩ := HNX.out.2.2 u hul
              subst hae
              have d0 : (0 : Int) ≤ (u : Int) := by omega
              have d1 : (u : Int) < (L.length : Int) := by omega
              have hHeld : X.drew.cell? ⟨B, 0, none⟩ = some (.pointer (some ⟨g, 0, none⟩)) ∧ X.drew.cell? ⟨g, 0, none⟩ = some (.slice (some ⟨bb, o, none⟩) L.length cap) ∧ NodesIn X.drew (some ⟨bb, o, none⟩) cap L := ⟨cell_in HEX.out.b1 rfl, (way_cells HWX.out).1, HNX.out.below ⟨rfl, rfl, rfl, Nat.le_refl _, fun _ _ => rfl⟩⟩
              refine region_in_held (S := fun W' => W'.cell? ⟨B, 0, none⟩ = some (.pointer (some ⟨g, 0, none⟩)) ∧ W'.cell? ⟨g, 0, none⟩ = some (.slice (some ⟨bb, o, none⟩) L.length cap) ∧ NodesIn W' (some ⟨bb, o, none⟩) cap L) (by kernel_rfl) (by kernel_rfl) ?_
              refine wpAnyH_take (i := 0) (v := ?_) rfl (by kernel_rfl) (by kernel_rfl) (by kernel_rfl) (fun _ _ _ h => nomatch h.1) (Or.inl ⟨by rfl, ?hyp0⟩) hHeld ?restp0
              case hyp0 => intro W' hSw; (obtain ⟨q0, q1, q2⟩ := hSw); (obtain ⟨b', o', eb, hq⟩ := q2.2.2 u hul); cases eb; (have q3 := hq.data); rw [← HDD.out] at q3; clear q2 hq; go_simp <;> with_reducible rfl
              try simp only [Act.put, List.setIfInBounds_toArray]
              refine wpAnyH_take (i := 1) (v := ?_) rfl (by kernel_rfl) (by kernel_rfl) (by kernel_rfl) (fun _ _ _ h => nomatch h.1) (Or.inl ⟨by rfl, ?hyp1⟩) hHeld ?restp1
              case hyp1 => intro W' hSw; (obtain ⟨q0, q1, q2⟩ := hSw); (obtain ⟨b', o', eb, hq⟩ := q2.2.2 u hul); cases eb; (have q3 := hq.data); rw [← HDD.out] at q3; clear q2 hq; go_simp <;> with_reducible rfl
              try simp only [Act.put]
              refine wpAnyH_take (i := 2) (v := ?_) rfl (by kernel_rfl) (by kernel_rfl) (by kernel_rfl) (fun _ _ _ h => nomatch h.1) (Or.inl ⟨by rfl, ?hyp2⟩) hHeld ?restp2
              case hyp2 => intro W' hSw; (obtain ⟨q0, q1, q2⟩ := hSw); (obtain ⟨b', o', eb, hq⟩ := q2.2.2 u hul); cases eb; (have q3 := hq.data); rw [← HDD.out] at q3; clear q2 hq; go_simp <;> with_reducible rfl
              try simp only [Act.put]
              refine wpAnyH_take (i := 3) (v := ?_) rfl (by kernel_rfl) (by kernel_rfl) (by kernel_rfl) (fun _ _ _ h => nomatch h.1) (Or.inl ⟨by rfl, ?hyp3⟩) hHeld ?restp3
              case hyp3 => intro W' hSw; (obtain ⟨q0, q1, q2⟩ := hSw); (obtain ⟨b', o', eb, hq⟩ := q2.2.2 u hul); cases eb; (have q3 := hq.data); rw [← HDD.out] at q3; clear q2 hq; go_simp <;> with_reducible rfl
              try simp only [Act.put]
              refine wpAnyH_take (i := 4) (v := ?_) rfl (by kernel_rfl) (by kernel_rfl) (by kernel_rfl) (fun _ _ _ h => nomatch h.1) (Or.inl ⟨by rfl, ?hyp4⟩) hHeld ?restp4
              case hyp4 => intro W' hSw; (obtain ⟨q0, q1, q2⟩ := hSw); (obtain ⟨b', o', eb, hq⟩ := q2.2.2 u hul); cases eb; (have q3 := hq.data); rw [← HDD.out] at q3; clear q2 hq; go_simp <;> with_reducible rfl
              try simp only [Act.put]
              refine wpAnyH_take (i := 5) (v := ?_) rfl (by kernel_rfl) (by kernel_rfl) (by kernel_rfl) (fun _ _ _ h => nomatch h.1) (Or.inl ⟨by rfl, ?hyp5⟩) hHeld ?restp5
              case hyp5 => intro W' hSw; (obtain ⟨q0, q1, q2⟩ := hSw); (obtain ⟨b', o', eb, hq⟩ := q2.2.2 u hul); cases eb; (have q3 := hq.data); rw [← HDD.out] at q3; clear q2 hq; go_simp <;> with_reducible rfl
              try simp only [Act.put]
              refine wpAnyH_take (i := 6) (v := ?_) rfl (by kernel_rfl) (by kernel_rfl) (by kernel_rfl) (fun _ _ _ h => nomatch h.1) (Or.inl ⟨by rfl, ?hyp6⟩) hHeld ?restp6
              case hyp6 => intro W' hSw; (obtain ⟨q0, q1, q2⟩ := hSw); (obtain ⟨b', o', eb, hq⟩ := q2.2.2 u hul); cases eb; (have q3 := hq.data); rw [← HDD.out] at q3; clear q2 hq; go_simp <;> with_reducible rfl
              try simp only [Act.put]
              refine wpAnyH_take (i := 7) (v := ?_) rfl (by kernel_rfl) (by kernel_rfl) (by kernel_rfl) (fun _ _ _ h => nomatch h.1) (Or.inl ⟨by rfl, ?hyp7⟩) hHeld ?restp7
              case hyp7 => intro W' hSw; (obtain ⟨q0, q1, q2⟩ := hSw); (obtain ⟨b', o', eb, hq⟩ := q2.2.2 u hul); cases eb; (have q3 := hq.data); rw [← HDD.out] at q3; clear q2 hq; go_simp <;> with_reducible rfl
              try simp only [Act.put]
              refine wpAnyH_take (i := 8) (v := ?_) rfl (by kernel_rfl) (by kernel_rfl) (by kernel_rfl) (fun _ _ _ h => nomatch h.1) (Or.inl ⟨by rfl, ?hyp8⟩) hHeld ?restp8
              case hyp8 => intro W' hSw; (obtain ⟨q0, q1, q2⟩ := hSw); (obtain ⟨b', o', eb, hq⟩ := q2.2.2 u hul); cases eb; (have q3 := hq.data); rw [← HDD.out] at q3; clear q2 hq; go_simp <;> with_reducible rfl
              try simp only [Act.put]
              refine wpAnyH_take (i := 9) (v := ?_) rfl (by kernel_rfl) (by kernel_rfl) (by kernel_rfl) (fun _ _ _ h => nomatch h.1) (Or.inl ⟨by rfl, ?hyp9⟩) hHeld ?restp9
              case hyp9 => intro W' hSw; (obtain ⟨q0, q1, q2⟩ := hSw); (obtain ⟨b', o', eb, hq⟩ := q2.2.2 u hul); cases eb; (have q3 := hq.data); rw [← HDD.out] at q3; clear q2 hq; go_simp <;> with_reducible rfl
              try simp only [Act.put]
              refine wpAnyH_ready (rs := [10]) (by kernel_rfl) (by simp) ?_
              refine AllReadyH.cons rfl (fun K hK => ?_) AllReadyH.nil
              go_simp
              refine (lenter_any n₀ g (.slice (some ⟨bb, o, none⟩) L.length cap, .int .i64 m, .int .i64 b) p ((k : Int) + 1) N.reverse d (by omega) (by rw [List.length_reverse]; omega) X.drew hnX HWX.out.drew).mono ?_
              rintro e W5 ⟨⟨ue, rfl⟩, hwy, hmv⟩
              have hmX : Moved g X W5 := ⟨⟨hmv.below.1, hmv.below.2, hmv.below.3, hmv.below.4, hmv.below.5⟩, hmv.kept⟩
              have HEY := HEX.out.step hgB hmX
              refine hK.out _ _ ⟨cell_in HEY.b1 rfl, (way_cells hwy).1, HN.out.below (HB0.out.trans (HEY.moved.below.mono hw0))⟩ (fun _ => ?_)
              clear hK K
              refine wpAnyH_done (by kernel_rfl) ⟨rfl, ?_⟩ _
              obtain ⟨c, tt, fr, hgc⟩ : ∃ c tt fr, X.heap[g]? = some (.cells c tt fr) := (by obtain ⟨_, v, h1, -⟩ := HWX.out; exact ⟨_, _, _, h1⟩)
              refine ⟨(HKX.out.trans (ko_moved hgc hmX)).from _, ⟨x, partsL d ++ N, if wholeL d then 0 else p, k + 1⟩, ?_, ?_, ⟨HEY, Nat.le_trans HSZ.out (Nat.le_trans HKX.out.size hmX.below.size)⟩, ?_, ?_, HGO.out⟩
              · show (8 - (k + 1)) * 30000 + (partsL d ++ N).length ≤ (8 - k) * 30000 + N.length
                rw [List.length_append]
                have := HP.out
                omega
              · show WayAt _ _ _ _ _ (partsL d ++ N).reverse ((k + 1 : Nat) : Int)
                rw [List.reverse_append]
                exact hwy
              · show k + 1 ≤ 8
                omega
              · show (partsL d ++ N).length ≤ 5000 + (k + 1) * 2000
                rw [List.length_append]
                have := HP.out
                omega
            · gi_wp2_with (first | (gi_at_call 113; refine (CallsIn.inRound l (hO.calls HCALL.out)).mono ?_; rintro e W2 ⟨rfl, hb2⟩; have HB2 := Lib.hid hb2; have hs2 := hb2.size; clear hb2; have HEB2 := Lib.hid (HEN.out.step hgB (Moved.of_below HB2.out (Nat.le_of_lt hgW))); have HWAY2 := Lib.hid (HWAY.out.below HB2.out); have b3c : W2.cell? ⟨B + 1 + 1, 0, none⟩ = some (.int .i64 0) := cell_in HEB2.out.b3 rfl; have b3f : W2.frozen? ⟨B + 1 + 1, 0, none⟩ = false := box_frozen HEB2.out.b3; have HEB3 := Lib.hid (show EndB g B last 0 w (W2.setCell ⟨B + 1 + 1, 0, none⟩ (.int .i64 0)) from HEB2.out.setErr hgB hwB 0); have HWAY3 := Lib.hid (show WayAt n₀ g (.slice a L.length cap, .int .i64 m, .int .i64 b) (W2.setCell ⟨B + 1 + 1, 0, none⟩ (.int .i64 0)) p N.reverse k from way_far HWAY2.out HEB2.out.b3 (by omega) (by decide)); have d1 : (W2.setCell ⟨B + 1 + 1, 0, none⟩ (.int .i64 0)).cell? ⟨B, 0, none⟩ = some (.pointer (some ⟨g, 0, none⟩)) := cell_in HEB3.out.b1 rfl; (obtain ⟨d2, d3, d4, -, -, -⟩ := way_cells HWAY3.out); have d5 : (W2.setCell ⟨B + 1 + 1, 0, none⟩ (.int .i64 0)).cell? ⟨B + 1 + 1, 0, none⟩ = some (.int .i64 0) := cell_in HEB3.out.b3 rfl; have HNW3 := Lib.hid (show NodesIn (W2.setCell ⟨B + 1 + 1, 0, none⟩ (.int .i64 0)) a cap L from HN.out.below (HB0.out.trans (HEB3.out.moved.below.mono hw0))); have hs3 : (W2.setCell ⟨B + 1 + 1, 0, none⟩ (.int .i64 0)).heap.size = W2.heap.size := set_size W2 _ _) | (gi_at_call 94; refine (CallsIn.inRound l (hO.calls (kind_known a cap m b (u : Int) L L[u].kind HKL.out _ HNW3.out))).mono ?_; rintro e W4 ⟨rfl, hb4⟩; have HB4 := Lib.hid hb4; have hs5 := hb4.size; clear hb4 d1 d2 d3 d4 d5 b3c b3f; have hg3 : g < (W2.setCell ⟨B + 1 + 1, 0, none⟩ (.int .i64 0)).heap.size := HWAY3.out.lt; have HEB4 := Lib.hid (HEB3.out.step hgB (Moved.of_below HB4.out (Nat.le_of_lt hg3))); have HWAY4 := Lib.hid (HWAY3.out.below HB4.out); have e1 : W4.cell? ⟨B, 0, none⟩ = some (.pointer (some ⟨g, 0, none⟩)) := cell_in HEB4.out.b1 rfl; have e2 : W4.cell? ⟨B + 1, 0, none⟩ = some (.bool last) := cell_in HEB4.out.b2 rfl; have e3 : W4.cell? ⟨B + 1 + 1, 0, none⟩ = some (.int .i64 0) := cell_in HEB4.out.b3 rfl; have e4 : W4.frozen? ⟨B + 1 + 1, 0, none⟩ = false := box_frozen HEB4.out.b3; have f3 := way_frozen HWAY4.out 3; have f5 := way_frozen HWAY4.out 5; (obtain ⟨c0, c1, c2, c3, ⟨v4, c4, hv4⟩, c5⟩ := way_cells HWAY4.out); (obtain ⟨va, vc, rfl, -, -, -⟩ := hv4.view); have HKO := Lib.hid ((ko_below HB2.out).trans ((KeepsOthers.setCell W2 ⟨B + 1 + 1, 0, none⟩ (.int .i64 0)).trans (ko_below HB4.out))); have HNW4 := Lib.hid (HNW3.out.below HB4.out); clear hv4; simp only [List.length_reverse] at c4) | fail)
              obtain ⟨X, hX⟩ : ∃ X, X = W4.setCell ⟨g, 5, none⟩ (.int .i64 ((k : Int) + 1)) := ⟨_, rfl⟩
              have HWX := Lib.hid (show WayAt n₀ g (.slice a L.length cap, .int .i64 m, .int .i64 b) X p N.reverse ((k : Int) + 1) by rw [hX]; exact way_set5 HWAY4.out _)
              have HEX := Lib.hid (show EndB g B last 0 w X by rw [hX]; exact HEB4.out.step hgB (Moved.set W4 5 _))
              have HKX := Lib.hid (show KeepsOthers W X by rw [hX]; exact HKO.out.trans (KeepsOthers.setCell W4 _ _))
              have HNX := Lib.hid (show NodesIn X a cap L from HN.out.below (HB0.out.trans (HEX.out.moved.below.mono hw0)))
              rw [← hX]
              clear hX e1 e3 e4 f3 f5 c0 c1 c2 c3 c4 c5
              have hgX := HWX.out.lt
              have hnX : n₀ ≤ X.heap.size := Nat.le_trans hn₀ HEX.out.moved.below.size
              obtain ⟨bb, o, hae, -⟩ := HNX.out.2.2 u hul
              subst hae
              have d0 : (0 : Int) ≤ (u : Int) := by omega
              have d1 : (u : Int) < (L.length : Int) := by omega
              have hHeld : X.drew.cell? ⟨B, 0, none⟩ = some (.pointer (some ⟨g, 0, none⟩)) ∧ X.drew.cell? ⟨g, 0, none⟩ = some (.slice (some ⟨bb, o, none⟩) L.length cap) ∧ NodesIn X.drew (some ⟨bb, o, none⟩) cap L := ⟨cell_in HEX.out.b1 rfl, (way_cells HWX.out).1, HNX.out.below ⟨rfl, rfl, rfl, Nat.le_refl _, fun _ _ => rfl⟩⟩
              refine region_in_held (S := fun W' => W'.cell? ⟨B, 0, none⟩ = some (.pointer (some ⟨g, 0, none⟩)) ∧ W'.cell? ⟨g, 0, none⟩ = some (.slice (some ⟨bb, o, none⟩) L.length cap) ∧ NodesIn W' (some ⟨bb, o, none⟩) cap L) (by kernel_rfl) (by kernel_rfl) ?_
              refine wpAnyH_take (i := 0) (v := ?_) rfl (by kernel_rfl) (by kernel_rfl) (by kernel_rfl) (fun _ _ _ h => nomatch h.1) (Or.inl ⟨by rfl, ?hyq0⟩) hHeld ?restq0
              case hyq0 => intro W' hSw; (obtain ⟨q0, q1, q2⟩ := hSw); (obtain ⟨b', o', eb, hq⟩ := q2.2.2 u hul); cases eb; (have q3 := hq.data); rw [← HDD.out] at q3; clear q2 hq; go_simp <;> with_reducible rfl
              try simp only [Act.put, List.setIfInBounds_toArray]
              refine wpAnyH_take (i := 1) (v := ?_) rfl (by kernel_rfl) (by kernel_rfl) (by kernel_rfl) (fun _ _ _ h => nomatch h.1) (Or.inl ⟨by rfl, ?hyq1⟩) hHeld ?restq1
              case hyq1 => intro W' hSw; (obtain ⟨q0, q1, q2⟩ := hSw); (obtain ⟨b', o', eb, hq⟩ := q2.2.2 u hul); cases eb; (have q3 := hq.data); rw [← HDD.out] at q3; clear q2 hq; go_simp <;> with_reducible rfl
              try simp only [Act.put]
              refine wpAnyH_take (i := 2) (v := ?_) rfl (by kernel_rfl) (by kernel_rfl) (by kernel_rfl) (fun _ _ _ h => nomatch h.1) (Or.inl ⟨by rfl, ?hyq2⟩) hHeld ?restq2
              case hyq2 => intro W' hSw; (obtain ⟨q0, q1, q2⟩ := hSw); (obtain ⟨b', o', eb, hq⟩ := q2.2.2 u hul); cases eb; (have q3 := hq.data); rw [← HDD.out] at q3; clear q2 hq; go_simp <;> with_reducible rfl
              try simp only [Act.put]
              refine wpAnyH_take (i := 3) (v := ?_) rfl (by kernel_rfl) (by kernel_rfl) (by kernel_rfl) (fun _ _ _ h => nomatch h.1) (Or.inl ⟨by rfl, ?hyq3⟩) hHeld ?restq3
              case hyq3 => intro W' hSw; (obtain ⟨q0, q1, q2⟩ := hSw); (obtain ⟨b', o', eb, hq⟩ := q2.2.2 u hul); cases eb; (have q3 := hq.data); rw [← HDD.out] at q3; clear q2 hq; go_simp <;> with_reducible rfl
              try simp only [Act.put]
              refine wpAnyH_take (i := 4) (v := ?_) rfl (by kernel_rfl) (by kernel_rfl) (by kernel_rfl) (fun _ _ _ h => nomatch h.1) (Or.inl ⟨by rfl, ?hyq4⟩) hHeld ?restq4
              case hyq4 => intro W' hSw; (obtain ⟨q0, q1, q2⟩ := hSw); (obtain ⟨b', o', eb, hq⟩ := q2.2.2 u hul); cases eb; (have q3 := hq.data); rw [← HDD.out] at q3; clear q2 hq; go_simp <;> with_reducible rfl
              try simp only [Act.put]
              refine wpAnyH_take (i := 5) (v := ?_) rfl (by kernel_rfl) (by kernel_rfl) (by kernel_rfl) (fun _ _ _ h => nomatch h.1) (Or.inl ⟨by rfl, ?hyq5⟩) hHeld ?restq5
              case hyq5 => intro W' hSw; (obtain ⟨q0, q1, q2⟩ := hSw); (obtain ⟨b', o', eb, hq⟩ := q2.2.2 u hul); cases eb; (have q3 := hq.data); rw [← HDD.out] at q3; clear q2 hq; go_simp <;> with_reducible rfl
              try simp only [Act.put]
              refine wpAnyH_take (i := 6) (v := ?_) rfl (by kernel_rfl) (by kernel_rfl) (by kernel_rfl) (fun _ _ _ h => nomatch h.1) (Or.inl ⟨by rfl, ?hyq6⟩) hHeld ?restq6
              case hyq6 => intro W' hSw; (obtain ⟨q0, q1, q2⟩ := hSw); (obtain ⟨b', o', eb, hq⟩ := q2.2.2 u hul); cases eb; (have q3 := hq.data); rw [← HDD.out] at q3; clear q2 hq; go_simp <;> with_reducible rfl
              try simp only [Act.put]
              refine wpAnyH_take (i := 7) (v := ?_) rfl (by kernel_rfl) (by kernel_rfl) (by kernel_rfl) (fun _ _ _ h => nomatch h.1) (Or.inl ⟨by rfl, ?hyq7⟩) hHeld ?restq7
              case hyq7 => intro W' hSw; (obtain ⟨q0, q1, q2⟩ := hSw); (obtain ⟨b', o', eb, hq⟩ := q2.2.2 u hul); cases eb; (have q3 := hq.data); rw [← HDD.out] at q3; clear q2 hq; go_simp <;> with_reducible rfl
              try simp only [Act.put]
              refine wpAnyH_take (i := 8) (v := ?_) rfl (by kernel_rfl) (by kernel_rfl) (by kernel_rfl) (fun _ _ _ h => nomatch h.1) (Or.inl ⟨by rfl, ?hyq8⟩) hHeld ?restq8
              case hyq8 => intro W' hSw; (obtain ⟨q0, q1, q2⟩ := hSw); (obtain ⟨b', o', eb, hq⟩ := q2.2.2 u hul); cases eb; (have q3 := hq.data); rw [← HDD.out] at q3; clear q2 hq; go_simp <;> with_reducible rfl
              try simp only [Act.put]
              refine wpAnyH_take (i := 9) (v := ?_) rfl (by kernel_rfl) (by kernel_rfl) (by kernel_rfl) (fun _ _ _ h => nomatch h.1) (Or.inl ⟨by rfl, ?hyq9⟩) hHeld ?restq9
              case hyq9 => intro W' hSw; (obtain ⟨q0, q1, q2⟩ := hSw); (obtain ⟨b', o', eb, hq⟩ := q2.2.2 u hul); cases eb; (have q3 := hq.data); rw [← HDD.out] at q3; clear q2 hq; go_simp <;> with_reducible rfl
              try simp only [Act.put]
              refine wpAnyH_ready (rs := [10]) (by kernel_rfl) (by simp) ?_
              refine AllReadyH.cons rfl (fun K hK => ?_) AllReadyH.nil
              go_simp
              refine (lenter_any n₀ g (.slice (some ⟨bb, o, none⟩) L.length cap, .int .i64 m, .int .i64 b) p ((k : Int) + 1) N.reverse d (by omega) (by rw [List.length_reverse]; omega) X.drew hnX HWX.out.drew).mono ?_
              rintro e W5 ⟨⟨ue, rfl⟩, hwy, hmv⟩
              have hmX : Moved g X W5 := ⟨⟨hmv.below.1, hmv.below.2, hmv.below.3, hmv.below.4, hmv.below.5⟩, hmv.kept⟩
              have HEY := HEX.out.step hgB hmX
              refine hK.out _ _ ⟨cell_in HEY.b1 rfl, (way_cells hwy).1, HN.out.below (HB0.out.trans (HEY.moved.below.mono hw0))⟩ (fun _ => ?_)
              clear hK K
              refine wpAnyH_done (by kernel_rfl) ⟨rfl, ?_⟩ _
              obtain ⟨c, tt, fr, hgc⟩ : ∃ c tt fr, X.heap[g]? = some (.cells c tt fr) := (by obtain ⟨_, v, h1, -⟩ := HWX.out; exact ⟨_, _, _, h1⟩)
              refine ⟨(HKX.out.trans (ko_moved hgc hmX)).from _, ⟨x, partsL d ++ N, if wholeL d then 0 else p, k + 1⟩, ?_, ?_, ⟨HEY, Nat.le_trans HSZ.out (Nat.le_trans HKX.out.size hmX.below.size)⟩, ?_, ?_, HGO.out⟩
              · show (8 - (k + 1)) * 30000 + (partsL d ++ N).length ≤ (8 - k) * 30000 + N.length
                rw [List.length_append]
                have := HP.out
                omega
              · show WayAt _ _ _ _ _ (partsL d ++ N).reverse ((k + 1 : Nat) : Int)
                rw [List.reverse_append]
                exact hwy
              · show k + 1 ≤ 8
                omega
              · show (partsL d ++ N).length ≤ 5000 + (k + 1) * 2000
                rw [List.length_append]
                have := HP.out
                omega
  case done =>
    rintro D W hD ⟨⟨x', N', p', k'⟩, hN', hway, ⟨heb, hsz⟩, hgh⟩ hK
    simp only at hN' hway
    subst hN'
    obtain ⟨-, -, hRw⟩ := hgh
    have HR2 := Lib.hid (show R = (p', 0) by rw [hRw]; exact wayW_nil _ _ _ _)
    have HMD := Lib.hid (show Moved g w W.drew from ⟨⟨heb.moved.below.1, heb.moved.below.2, heb.moved.below.3, heb.moved.below.4, heb.moved.below.5⟩, heb.moved.kept⟩)
    have hw := HWIDE.out
    subst hw
    clear hRw
    gi_wp2
    refine region_in_held (ro := none) (S := fun W' => W'.cell? ⟨B, 0, none⟩ = some (.pointer (some ⟨g, 0, none⟩)) ∧ W'.cell? ⟨g, 3, none⟩ = some (.int .i64 p') ∧ W'.cell? ⟨B + 1 + 1, 0, none⟩ = some (.int .i64 0)) (by kernel_rfl) (by kernel_rfl) ?_
    have hHeld : W.drew.cell? ⟨B, 0, none⟩ = some (.pointer (some ⟨g, 0, none⟩)) ∧ W.drew.cell? ⟨g, 3, none⟩ = some (.int .i64 p') ∧ W.drew.cell? ⟨B + 1 + 1, 0, none⟩ = some (.int .i64 0) := ⟨cell_in heb.b1 rfl, (way_cells hway).2.2.2.1, cell_in heb.b3 rfl⟩
    refine wpAnyH_take (i := 0) (v := ?_) rfl (by kernel_rfl) (by kernel_rfl) (by kernel_rfl) (fun _ _ _ h => nomatch h.1) (Or.inl ⟨by rfl, ?hyd0⟩) hHeld ?restd0
    case hyd0 => intro W' hSw; (obtain ⟨q0, q1, q2⟩ := hSw); go_simp <;> with_reducible rfl
    try simp only [Act.put, List.getElem_toArray, List.getElem_cons_zero, List.setIfInBounds_toArray, List.set_cons_zero, List.set_cons_succ]
    refine wpAnyH_take (i := 1) (v := ?_) rfl (by kernel_rfl) (by kernel_rfl) (by kernel_rfl) (fun _ _ _ h => nomatch h.1) (Or.inl ⟨by rfl, ?hyd1⟩) hHeld ?restd1
    case hyd1 => intro W' hSw; (obtain ⟨q0, q1, q2⟩ := hSw); go_simp <;> with_reducible rfl
    try simp only [Act.put, List.getElem_toArray, List.getElem_cons_zero, List.getElem_cons_succ, List.setIfInBounds_toArray, List.set_cons_zero, List.set_cons_succ]
    refine wpAnyH_take (i := 2) (v := ?_) rfl (by kernel_rfl) (by kernel_rfl) (by kernel_rfl) (fun _ _ _ h => nomatch h.1) (Or.inl ⟨by rfl, ?hyd2⟩) hHeld ?restd2
    case hyd2 => intro W' hSw; (obtain ⟨q0, q1, q2⟩ := hSw); go_simp <;> with_reducible rfl
    try simp only [Act.put, List.getElem_toArray, List.getElem_cons_zero, List.getElem_cons_succ, List.setIfInBounds_toArray, List.set_cons_zero, List.set_cons_succ]
    refine wpAnyH_take (i := 3) (v := ?_) rfl (by kernel_rfl) (by kernel_rfl) (by kernel_rfl) (fun _ _ _ h => nomatch h.1) (Or.inl ⟨by rfl, ?hyd3⟩) hHeld ?restd3
    case hyd3 => intro W' hSw; (obtain ⟨q0, q1, q2⟩ := hSw); go_simp <;> with_reducible rfl
    try simp only [Act.put, List.getElem_toArray, List.getElem_cons_zero, List.getElem_cons_succ, List.setIfInBounds_toArray, List.set_cons_zero, List.set_cons_succ]
    refine wpAnyH_take (i := 4) (v := ?_) rfl (by kernel_rfl) (by kernel_rfl) (by kernel_rfl) (fun _ _ _ h => nomatch h.1) (Or.inl ⟨by rfl, ?hyd4⟩) hHeld ?restd4
    case hyd4 => intro W' hSw; (obtain ⟨q0, q1, q2⟩ := hSw); go_simp <;> with_reducible rfl
    try simp only [Act.put, List.getElem_toArray, List.getElem_cons_zero, List.getElem_cons_succ, List.setIfInBounds_toArray, List.set_cons_zero, List.set_cons_succ]
    refine wpAnyH_take (i := 5) (v := ?_) rfl (by kernel_rfl) (by kernel_rfl) (by kernel_rfl) (fun _ _ _ h => nomatch h.1) (Or.inl ⟨by rfl, ?hyd5⟩) hHeld ?restd5
    case hyd5 => intro W' hSw; (obtain ⟨q0, q1, q2⟩ := hSw); go_simp <;> with_reducible rfl
    try simp only [Act.put, List.getElem_toArray, List.getElem_cons_zero, List.getElem_cons_succ, List.setIfInBounds_toArray, List.set_cons_zero, List.set_cons_succ]
    refine wpAnyH_take (i := 6) (v := ?_) rfl (by kernel_rfl) (by kernel_rfl) (by kernel_rfl) (fun _ _ _ h => nomatch h.1) (Or.inl ⟨by rfl, ?hyd6⟩) hHeld ?restd6
    case hyd6 => intro W' hSw; (obtain ⟨q0, q1, q2⟩ := hSw); go_simp <;> with_reducible rfl
    try simp only [Act.put, List.getElem_toArray, List.getElem_cons_zero, List.getElem_cons_succ, List.setIfInBounds_toArray, List.set_cons_zero, List.set_cons_succ]
    refine wpAnyH_done (by kernel_rfl) ⟨rfl, ?_⟩ _
    gi_wp2
    refine ⟨by simp, .inl ⟨_, _, rfl, run_takeDeferred hK, ?_⟩⟩
    exact ⟨_, results_tmp2 rfl _ _ _, ⟨p', by rw [HR2.out]; rfl, fun _ => by rw [HR2.out]⟩, moved_own (β := Unit) (B := w4.heap.size) (by omega) (by omega) () W.drew _ (some D) HMD.out (grownBy_putObj' W.drew D _) (fun r e => by cases e; exact ⟨hD, _, hK, rfl⟩)⟩
  case stop =>
    rintro D c W hD ⟨rfl, ⟨q, k', st', hway⟩, heb, hne⟩ hK
    have HR2 := Lib.hid hne
    have HMD := Lib.hid (show Moved g w W.drew from ⟨⟨heb.moved.below.1, heb.moved.below.2, heb.moved.below.3, heb.moved.below.4, heb.moved.below.5⟩, heb.moved.kept⟩)
    have hw := HWIDE.out
    subst hw
    clear hne
    gi_wp2
    refine region_in_held (ro := none) (S := fun W' => W'.cell? ⟨B, 0, none⟩ = some (.pointer (some ⟨g, 0, none⟩)) ∧ W'.cell? ⟨g, 3, none⟩ = some (.int .i64 q) ∧ W'.cell? ⟨B + 1 + 1, 0, none⟩ = some (.int .i64 R.2)) (by kernel_rfl) (by kernel_rfl) ?_
    have hHeld : W.drew.cell? ⟨B, 0, none⟩ = some (.pointer (some ⟨g, 0, none⟩)) ∧ W.drew.cell? ⟨g, 3, none⟩ = some (.int .i64 q) ∧ W.drew.cell? ⟨B + 1 + 1, 0, none⟩ = some (.int .i64 R.2) := ⟨cell_in heb.b1 rfl, (way_cells hway).2.2.2.1, cell_in heb.b3 rfl⟩
    refine wpAnyH_take (i := 0) (v := ?_) rfl (by kernel_rfl) (by kernel_rfl) (by kernel_rfl) (fun _ _ _ h => nomatch h.1) (Or.inl ⟨by rfl, ?hys0⟩) hHeld ?rests0
    case hys0 => intro W' hSw; (obtain ⟨q0, q1, q2⟩ := hSw); go_simp <;> with_reducible rfl
    try simp only [Act.put, List.getElem_toArray, List.getElem_cons_zero, List.setIfInBounds_toArray, List.set_cons_zero, List.set_cons_succ]
    refine wpAnyH_take (i := 1) (v := ?_) rfl (by kernel_rfl) (by kernel_rfl) (by kernel_rfl) (fun _ _ _ h => nomatch h.1) (Or.inl ⟨by rfl, ?hys1⟩) hHeld ?rests1
    case hys1 => intro W' hSw; (obtain ⟨q0, q1, q2⟩ := hSw); go_simp <;> with_reducible rfl
    try simp only [Act.put, List.getElem_toArray, List.getElem_cons_zero, List.getElem_cons_succ, List.setIfInBounds_toArray, List.set_cons_zero, List.set_cons_succ]
    refine wpAnyH_take (i := 2) (v := ?_) rfl (by kernel_rfl) (by kernel_rfl) (by kernel_rfl) (fun _ _ _ h => nomatch h.1) (Or.inl ⟨by rfl, ?hys2⟩) hHeld ?rests2
    case hys2 => intro W' hSw; (obtain ⟨q0, q1, q2⟩ := hSw); go_simp <;> with_reducible rfl
    try simp only [Act.put, List.getElem_toArray, List.getElem_cons_zero, List.getElem_cons_succ, List.setIfInBounds_toArray, List.set_cons_zero, List.set_cons_succ]
    refine wpAnyH_take (i := 3) (v := ?_) rfl (by kernel_rfl) (by kernel_rfl) (by kernel_rfl) (fun _ _ _ h => nomatch h.1) (Or.inl ⟨by rfl, ?hys3⟩) hHeld ?rests3
    case hys3 => intro W' hSw; (obtain ⟨q0, q1, q2⟩ := hSw); go_simp <;> with_reducible rfl
    try simp only [Act.put, List.getElem_toArray, List.getElem_cons_zero, List.getElem_cons_succ, List.setIfInBounds_toArray, List.set_cons_zero, List.set_cons_succ]
    refine wpAnyH_take (i := 4) (v := ?_) rfl (by kernel_rfl) (by kernel_rfl) (by kernel_rfl) (fun _ _ _ h => nomatch h.1) (Or.inl ⟨by rfl, ?hys4⟩) hHeld ?rests4
    case hys4 => intro W' hSw; (obtain ⟨q0, q1, q2⟩ := hSw); go_simp <;> with_reducible rfl
    try simp only [Act.put, List.getElem_toArray, List.getElem_cons_zero, List.getElem_cons_succ, List.setIfInBounds_toArray, List.set_cons_zero, List.set_cons_succ]
    refine wpAnyH_take (i := 5) (v := ?_) rfl (by kernel_rfl) (by kernel_rfl) (by kernel_rfl) (fun _ _ _ h => nomatch h.1) (Or.inl ⟨by rfl, ?hys5⟩) hHeld ?rests5
    case hys5 => intro W' hSw; (obtain ⟨q0, q1, q2⟩ := hSw); go_simp <;> with_reducible rfl
    try simp only [Act.put, List.getElem_toArray, List.getElem_cons_zero, List.getElem_cons_succ, List.setIfInBounds_toArray, List.set_cons_zero, List.set_cons_succ]
    refine wpAnyH_take (i := 6) (v := ?_) rfl (by kernel_rfl) (by kernel_rfl) (by kernel_rfl) (fun _ _ _ h => nomatch h.1) (Or.inl ⟨by rfl, ?hys6⟩) hHeld ?rests6
    case hys6 => intro W' hSw; (obtain ⟨q0, q1, q2⟩ := hSw); go_simp <;> with_reducible rfl
    try simp only [Act.put, List.getElem_toArray, List.getElem_cons_zero, List.getElem_cons_succ, List.setIfInBounds_toArray, List.set_cons_zero, List.set_cons_succ]
    refine wpAnyH_done (by kernel_rfl) ⟨rfl, ?_⟩ _
    gi_wp2
    refine ⟨by simp, .inl ⟨_, _, rfl, run_takeDeferred hK, ?_⟩⟩
    exact ⟨_, results_tmp2 rfl _ _ _, ⟨q, rfl, fun h => absurd h HR2.out⟩, moved_own (β := Unit) (B := w4.heap.size) (by omega) (by omega) () W.drew _ (some D) HMD.out (grownBy_putObj' W.drew D _) (fun r e => by cases e; exact ⟨hD, _, hK, rfl⟩)⟩
end Go.Proofs.YtmaiphibpdngnaaGreat

namespace Go.Proofs.YtmaiphibpdngnaaGreat
set_option maxRecDepth 100000
open Go Go.RowKit

theorem below_nx {n : Nat} {A B B' C : World} (h : Below n A B) (k : Below B'.heap.size B' C) (hn : n ≤ B.heap.size) (e : B'.os = B.os ∧ B'.tape = B.tape ∧ B'.output = B.output ∧ B'.heap = B.heap) : Below n A C := by
  have h' : Below n A B' := ⟨e.1.trans h.os, e.2.1.trans h.tape, e.2.2.1.trans h.output, by rw [e.2.2.2]; exact h.size, by rw [e.2.2.2]; exact h.block⟩
  exact h'.trans (k.mono (by rw [e.2.2.2]; exact hn))

theorem bad4_known (a : Option Addr) (cap : Nat) (m b cwd : Int) (pb : ByteArray) (hp : pb.size ≤ 1073741824) (L : List Ino) (z : Int) (hz : badW L cwd pb.data.toList = z) (w : World) (hN : NodesIn w a cap L) :
    Calls Tryz.prog 55 #[.agg #[.slice a L.length cap, .int .i64 m, .int .i64 b], .int .i64 cwd, .string pb] w fun e w' => e = .returned (.int .i64 z) ∧ Below w.heap.size w w' := by
  subst hz
  exact bad4_any a cap m b cwd pb.data.toList (by rw [size_list]; exact hp) L w hN
theorem begin4_known (cwd : Int) (pb : ByteArray) (z : Int) (hz : beginW cwd pb.data.toList = z) (w : World) :
    Calls Tryz.prog 58 #[.int .i64 cwd, .string pb] w fun e w' => e = .returned (.int .i64 z) ∧ w = w' := by
  subst hz
  exact begin4_any cwd pb.data.toList w
theorem end_byte (pb : ByteArray) (h : 0 < pb.size) : endL pb.data.toList = (((pb[pb.size - 1]'(by omega)).toNat : Int) == 47) := by
  unfold endL
  rw [last_byte pb h, Bool.eq_iff_iff, beq_iff_eq, beq_iff_eq, Option.some.injEq, ← UInt8.toNat_inj]
  show _ = 47 ↔ _
  omega

end Go.Proofs.YtmaiphibpdngnaaGreat

namespace Go.Proofs.YtmaiphibpdngnaaGreat
set_option maxRecDepth 100000
open Go Go.RowKit

theorem lend_any (n₀ g : Nat) (a : Option Addr) (cap : Nat) (m b : Int) (p0 : Int) (N0 : List (List UInt8)) (hN0 : N0.length ≤ 5000) (last : Bool) (L : List Ino) (hF : FitP L m b)
    (w0 : World) (hN : NodesIn w0 a cap L) (hw0 : w0.heap.size ≤ g) (w : World) (hb0 : Below w0.heap.size w0 w) (hn₀ : n₀ ≤ w.heap.size) (hW : WayAt n₀ g (.slice a L.length cap, .int .i64 m, .int .i64 b) w p0 N0.reverse 0) (kz ez : Int) (hk : kz = (wayW L last 8 N0 p0).1) (he : ez = (wayW L last 8 N0 p0).2) :
    Calls Tryz.prog 98 #[.pointer (some ⟨g, 0, none⟩), .bool last] w fun e w' => (∃ z : Int, e = .returned (.tuple #[.int .i64 z, .int .i64 ez]) ∧ (ez = 0 → z = kz)) ∧ Moved g w w' := by
  subst hk he
  exact callsIn_wide.1 (end_in Fence.wide rfl 5 (Nat.le_refl _) n₀ g a cap m b p0 N0 hN0 last L hF w0 hN hw0 w hb0 hn₀ hW)
theorem refused_known (a : Option Addr) (cap : Nat) (m b cwd : Int) (pb : ByteArray) (hp : pb.size ≤ 1073741824) (L : List Ino) (z : Int) (hz : badW L cwd pb.data.toList = z) (w : World) (hN : NodesIn w a cap L) :
    Calls Tryz.prog 95 #[.agg #[.slice a L.length cap, .int .i64 m, .int .i64 b], .int .i64 cwd, .string pb] w fun e w' => e = .returned (.int .i64 z) ∧ Below w.heap.size w w' := by
  subst hz
  exact refused_any a cap m b cwd pb.data.toList (by rw [size_list]; exact hp) L w hN
theorem kind_dz {L : List Ino} {k : Int} {dz : Bool} (h : dirB L k = dz) : (kindL L k != 2) = !dz := by rw [kind_dir, h]

theorem lbegin_any (tv mv bv : Value) (cwd : Int) (pb : ByteArray) (hp : pb.size ≤ 1024) (st : Int) (N : List (List UInt8)) (hst : beginW cwd pb.data.toList = st) (hN : N = partsL pb.data.toList) (w2 : World) :
    Calls Tryz.prog 96 #[.pointer (some ⟨w2.heap.size, 0, none⟩), .string pb] (w2.alloc (.cells #[tv, mv, bv, .int .i64 cwd, .slice none 0 0, .int .i64 0] 103)) fun e w' =>
      (∃ u, e = .returned u) ∧ WayAt (w2.heap.size + 1) w2.heap.size (tv, mv, bv) w' st N.reverse 0 ∧ Below w2.heap.size w2 w' ∧ w2.heap.size + 1 ≤ w'.heap.size := by
  subst hst hN
  have h := lenter_any (w2.heap.size + 1) w2.heap.size (tv, mv, bv) cwd 0 [] pb.data.toList (by rw [size_list]; omega) (by simp) (w2.alloc (.cells #[tv, mv, bv, .int .i64 cwd, .slice none 0 0, .int .i64 0] 103)) (by simp) ⟨by omega, _, new_block w2 _, Or.inl ⟨rfl, rfl⟩⟩
  rw [List.nil_append] at h
  exact h.mono fun e w' hh => ⟨hh.1, hh.2.1, (below_box w2 _).trans hh.2.2.below, by have := hh.2.2.below.size; rw [World.size_alloc] at this; exact this⟩

end Go.Proofs.YtmaiphibpdngnaaGreat

namespace Go.Proofs.YtmaiphibpdngnaaGreat
set_option maxRecDepth 100000
open Go Go.RowKit

set_option maxRecDepth 100000 in
set_option maxHeartbeats 8000000 in
theorem lparent_any (a : Option Addr) (cap : Nat) (m b cwd : Int) (pb : ByteArray) (hp : pb.size ≤ 1073741824) (L : List Ino) (hF : FitP L m b) (w : World) (hN : NodesIn w a cap L) :
    Calls Tryz.prog 76 #[.agg #[.slice a L.length cap, .int .i64 m, .int .i64 b], .int .i64 cwd, .string pb] w fun e w' => e = .returned (.tuple #[.int .i64 (parentW L cwd pb.data.toList).1, .string ⟨(parentW L cwd pb.data.toList).2.1.toArray⟩, .int .i64 (parentW L cwd pb.data.toList).2.2]) ∧ Below w.heap.size w w' := by
  obtain ⟨w1, hw1⟩ : ∃ w1, w1 = w.alloc (.cells #[.slice a L.length cap, .int .i64 m, .int .i64 b] 24) := ⟨_, rfl⟩
  have hb1 := below_box w (.cells #[.slice a L.length cap, .int .i64 m, .int .i64 b] 24)
  have hM := hN.below hb1
  have hsz : w1.heap.size = w.heap.size + 1 := by rw [hw1]; simp
  have hbox : ∀ W', Below w1.heap.size w1 W' → W'.cell? ⟨w.heap.size, 0, none⟩ = some (.slice a L.length cap) ∧ W'.cell? ⟨w.heap.size, 1, none⟩ = some (.int .i64 m) ∧ W'.cell? ⟨w.heap.size, 2, none⟩ = some (.int .i64 b) := fun W' h => box3 (by rw [← hw1]; exact h)
  rw [← hw1] at hM hb1
  have HM := Lib.hid hM
  have HB := Lib.hid hb1
  have HX := Lib.hid hbox
  have HEND := Lib.hid (show ∀ W', Below w1.heap.size w1 W' → Below w.heap.size w W' from fun W' h => HB.out.trans (h.mono (by rw [hsz]; omega)))
  have HF := Lib.hid hF
  obtain ⟨R, hR⟩ : ∃ R, R = parentW L cwd pb.data.toList := ⟨_, rfl⟩
  rw [← hR]
  have HR := Lib.hid hR
  obtain ⟨z, hz⟩ : ∃ z, badW L cwd pb.data.toList = z := ⟨_, rfl⟩
  have HZ := Lib.hid hz
  clear hM hN hb1 hbox hsz hF hR
  by_cases hbad : z ≠ 0
  · have hzb : (z != 0) = true := by simpa using hbad
    have HW := Lib.hid (show R = (0, [], z) by rw [HR.out]; unfold parentW; rw [hz, if_pos hbad])
    clear hbad hz
    go_enter Tryz.func76, Tryz.ntmps76
    go_wp2_with fail
    rw [← hw1]
    refine (refused_known _ _ _ _ _ _ hp L z HZ.out _ HM.out).mono ?_
    rintro e w2 ⟨rfl, hb2⟩
    go_wp2_with fail
    go_ret3
    exact ⟨by rw [HW.out]; rfl, HEND.out _ hb2⟩
  · obtain rfl : z = 0 := by simpa using hbad
    obtain ⟨st, hst⟩ : ∃ st, beginW cwd pb.data.toList = st := ⟨_, rfl⟩
    have HST := Lib.hid hst
    obtain ⟨N, hNe⟩ : ∃ N, N = partsL pb.data.toList := ⟨_, rfl⟩
    have HNE := Lib.hid hNe
    have hlong : pb.size ≤ 1024 := by
      unfold badW at hz
      by_cases h2 : pb.data.toList = [] ∨ dirB L cwd = false
      · rw [if_pos h2] at hz; cases hz
      · rw [if_neg h2] at hz
        by_cases hl : longB pb.data.toList = true
        · rw [if_pos hl] at hz; cases hz
        · unfold longB at hl
          rw [Bool.or_eq_true, decide_eq_true_eq, size_list] at hl
          omega
    have hNL : N.length ≤ 1025 := by rw [hNe]; have := count_parts pb.data.toList; rw [size_list] at this; omega
    have HW := Lib.hid (show R = if N = [] then (0, [], 17) else if (wayW L true 8 N.dropLast st).2 ≠ 0 then (0, [], (wayW L true 8 N.dropLast st).2) else if dirB L (wayW L true 8 N.dropLast st).1 = false then (0, [], 20) else ((wayW L true 8 N.dropLast st).1, N.getLastD [], 0) by
      rw [HR.out]
      unfold parentW
      rw [hz, if_neg (by simp), hst, ← hNe])
    clear hz hst hNe hbad HR
    rcases List.eq_nil_or_concat N with hn | ⟨M, y, hn⟩
    · have HNN := Lib.hid hn
      have HW2 := Lib.hid (show R = (0, [], 17) by rw [HW.out, if_pos hn])
      clear hn
      go_enter Tryz.func76, Tryz.ntmps76
      go_wp2_with fail
      rw [← hw1]
      refine (refused_known _ _ _ _ _ _ hp L 0 HZ.out _ HM.out).mono ?_
      rintro e w2 ⟨rfl, hb2⟩
      have HB2 := Lib.hid hb2
      obtain ⟨q0, q1, q2⟩ := HX.out _ hb2
      clear hb2
      go_wp2_with (first | (go_at_call 96; refine (lbegin_any _ _ _ cwd pb hlong st N HST.out HNE.out w2).mono ?_; rintro e w3 ⟨⟨ue, rfl⟩, hv3, hb3, hs3⟩; rw [HNN.out] at hv3; have HV3 := Lib.hid hv3; have HB3 := Lib.hid (HB2.out.trans (hb3.mono HB2.out.size)); clear hv3 hb3 q0 q1 q2) | (go_at_call 97; refine (lout_none _ _ _ _ _ _ HV3.out).mono ?_; rintro e w4 ⟨rfl, rfl⟩) | fail)
      go_ret3
      exact ⟨by rw [HW2.out]; rfl, HEND.out _ HB3.out⟩
    · rw [List.concat_eq_append] at hn
      have hlen : N.length = M.length + 1 := by rw [hn]; simp
      have HNN := Lib.hid (show N.reverse = y :: M.reverse by rw [hn]; simp)
      obtain ⟨kz, hkz⟩ : ∃ kz, kz = (wayW L true 8 M st).1 := ⟨_, rfl⟩
      obtain ⟨ez, hez⟩ : ∃ ez, ez = (wayW L true 8 M st).2 := ⟨_, rfl⟩
      have HWAY := Lib.hid (show ∀ W n₀ g, w1.heap.size ≤ g → Below w1.heap.size w1 W → n₀ ≤ W.heap.size → WayAt n₀ g (.slice a L.length cap, .int .i64 m, .int .i64 b) W st M.reverse 0 → Calls Tryz.prog 98 #[.pointer (some ⟨g, 0, none⟩), .bool true] W fun e w' => (∃ z : Int, e = .returned (.tuple #[.int .i64 z, .int .i64 ez]) ∧ (ez = 0 → z = kz)) ∧ Moved g W w' from fun W n₀ g hg hW hn hV =>
        lend_any n₀ g a cap m b st M (by omega) true L HF.out w1 HM.out hg W hW hn hV kz ez hkz hez)
      obtain ⟨dz, hdz⟩ : ∃ dz, dirB L kz = dz := ⟨_, rfl⟩
      have HW2 := Lib.hid (show R = if ez ≠ 0 then (0, [], ez) else if dz = false then (0, [], 20) else (kz, y, 0) by
        rw [HW.out, if_neg (by rw [hn]; simp), hn, List.dropLast_concat, ← hkz, ← hez, hdz]
        congr 3
        simp)
      obtain ⟨kk, hkk⟩ : ∃ kk, kindL L kz = kk := ⟨_, rfl⟩
      have HKK := Lib.hid hkk
      have hkd := kind_dz hdz
      rw [hkk] at hkd
      clear hkz hez hdz hn HW hkk
      go_enter Tryz.func76, Tryz.ntmps76
      go_wp2_with fail
      rw [← hw1]
      refine (refused_known _ _ _ _ _ _ hp L 0 HZ.out _ HM.out).mono ?_
      rintro e w2 ⟨rfl, hb2⟩
      have HB2 := Lib.hid hb2
      obtain ⟨q0, q1, q2⟩ := HX.out _ hb2
      clear hb2
      have hs2 := HB2.out.size
      cases he : (ez != 0) with
      | true =>
        have HW3 := Lib.hid (show R = (0, [], ez) by rw [HW2.out, if_pos (by simpa using he)])
        go_wp2_with (first | (go_at_call 96; refine (lbegin_any _ _ _ cwd pb hlong st N HST.out HNE.out w2).mono ?_; rintro e w3 ⟨⟨ue, rfl⟩, hv3, hb3, hs3⟩; rw [HNN.out] at hv3; have HV3 := Lib.hid hv3; have HB3 := Lib.hid (HB2.out.trans (hb3.mono HB2.out.size)); clear hv3 hb3 q0 q1 q2) | (go_at_call 97; refine (lout_some _ _ _ _ _ _ _ _ HV3.out).mono ?_; rintro e w4 ⟨rfl, hv4, hm4⟩; have HV4 := Lib.hid hv4; have hs4 := Nat.le_trans hs3 hm4.below.size; have HB4 := Lib.hid (HB3.out.trans (hm4.below.mono hs2)); clear hv4 hm4) | (go_at_call 98; refine (HWAY.out w4 (w2.heap.size + 1) w2.heap.size hs2 HB4.out hs4 HV4.out).mono ?_; rintro e w5 ⟨⟨zz, rfl, hzz⟩, hm5⟩; have HB5 := Lib.hid (HB4.out.trans (hm5.below.mono hs2)); have HZZ := Lib.hid hzz; (obtain ⟨q0, q1, q2⟩ := HX.out _ HB5.out); clear hzz hm5) | (go_at_call 94; refine (kind_known a cap m b _ L kk (by rw [HZZ.out (by trivial)]; exact HKK.out) _ (HM.out.below HB5.out)).mono ?_; rintro e w6 ⟨rfl, hb6⟩; have HB6 := Lib.hid (HB5.out.trans (hb6.mono HB5.out.size))) | fail)
        go_ret3
        exact ⟨by rw [HW3.out]; rfl, HEND.out _ HB5.out⟩
      | false =>
        have hz0 : ez = 0 := by simpa using he
        subst hz0
        cases dz with
        | false =>
          have HW3 := Lib.hid (show R = (0, [], 20) by rw [HW2.out, if_neg (by simp), if_pos rfl])
          simp only [Bool.not_false] at hkd
          go_wp2_with (first | (go_at_call 96; refine (lbegin_any _ _ _ cwd pb hlong st N HST.out HNE.out w2).mono ?_; rintro e w3 ⟨⟨ue, rfl⟩, hv3, hb3, hs3⟩; rw [HNN.out] at hv3; have HV3 := Lib.hid hv3; have HB3 := Lib.hid (HB2.out.trans (hb3.mono HB2.out.size)); clear hv3 hb3 q0 q1 q2) | (go_at_call 97; refine (lout_some _ _ _ _ _ _ _ _ HV3.out).mono ?_; rintro e w4 ⟨rfl, hv4, hm4⟩; have HV4 := Lib.hid hv4; have hs4 := Nat.le_trans hs3 hm4.below.size; have HB4 := Lib.hid (HB3.out.trans (hm4.below.mono hs2)); clear hv4 hm4) | (go_at_call 98; refine (HWAY.out w4 (w2.heap.size + 1) w2.heap.size hs2 HB4.out hs4 HV4.out).mono ?_; rintro e w5 ⟨⟨zz, rfl, hzz⟩, hm5⟩; have HB5 := Lib.hid (HB4.out.trans (hm5.below.mono hs2)); have HZZ := Lib.hid hzz; (obtain ⟨q0, q1, q2⟩ := HX.out _ HB5.out); clear hzz hm5) | (go_at_call 94; refine (kind_known a cap m b _ L kk (by rw [HZZ.out (by trivial)]; exact HKK.out) _ (HM.out.below HB5.out)).mono ?_; rintro e w6 ⟨rfl, hb6⟩; have HB6 := Lib.hid (HB5.out.trans (hb6.mono HB5.out.size))) | fail)
          go_ret3
          exact ⟨by rw [HW3.out]; rfl, HEND.out _ HB6.out⟩
        | true =>
          have HW3 := Lib.hid (show R = (kz, y, 0) by rw [HW2.out, if_neg (by simp), if_neg (by simp)])
          simp only [Bool.not_true] at hkd
          go_wp2_with (first | (go_at_call 96; refine (lbegin_any _ _ _ cwd pb hlong st N HST.out HNE.out w2).mono ?_; rintro e w3 ⟨⟨ue, rfl⟩, hv3, hb3, hs3⟩; rw [HNN.out] at hv3; have HV3 := Lib.hid hv3; have HB3 := Lib.hid (HB2.out.trans (hb3.mono HB2.out.size)); clear hv3 hb3 q0 q1 q2) | (go_at_call 97; refine (lout_some _ _ _ _ _ _ _ _ HV3.out).mono ?_; rintro e w4 ⟨rfl, hv4, hm4⟩; have HV4 := Lib.hid hv4; have hs4 := Nat.le_trans hs3 hm4.below.size; have HB4 := Lib.hid (HB3.out.trans (hm4.below.mono hs2)); clear hv4 hm4) | (go_at_call 98; refine (HWAY.out w4 (w2.heap.size + 1) w2.heap.size hs2 HB4.out hs4 HV4.out).mono ?_; rintro e w5 ⟨⟨zz, rfl, hzz⟩, hm5⟩; have HB5 := Lib.hid (HB4.out.trans (hm5.below.mono hs2)); have HZZ := Lib.hid hzz; (obtain ⟨q0, q1, q2⟩ := HX.out _ HB5.out); clear hzz hm5) | (go_at_call 94; refine (kind_known a cap m b _ L kk (by rw [HZZ.out (by trivial)]; exact HKK.out) _ (HM.out.below HB5.out)).mono ?_; rintro e w6 ⟨rfl, hb6⟩; have HB6 := Lib.hid (HB5.out.trans (hb6.mono HB5.out.size))) | fail)
          go_ret3
          exact ⟨by rw [HW3.out, HZZ.out (by trivial)]; rfl, HEND.out _ HB6.out⟩
end Go.Proofs.YtmaiphibpdngnaaGreat

namespace Go.Proofs.YtmaiphibpdngnaaGreat
set_option maxRecDepth 100000
open Go Go.RowKit

/-- What newName tells, and the errors of the inode that is to have the name. -/
def spotW (L : List Ino) (cwd : Int) (p : List UInt8) : Int × List UInt8 × Bool × Int :=
  if (freshW L cwd p true).2.2 ≠ 0 then (0, [], false, (freshW L cwd p true).2.2) else ((freshW L cwd p true).1, (freshW L cwd p true).2.1, endL p, 0)

theorem lpar_known (a : Option Addr) (cap : Nat) (m b cwd : Int) (pb : ByteArray) (hp : pb.size ≤ 1073741824) (L : List Ino) (hF : FitP L m b) (z : Int) (s : List UInt8) (e : Int) (h : parentW L cwd pb.data.toList = (z, s, e)) (w : World) (hN : NodesIn w a cap L) :
    Calls Tryz.prog 76 #[.agg #[.slice a L.length cap, .int .i64 m, .int .i64 b], .int .i64 cwd, .string pb] w fun r w' => r = .returned (.tuple #[.int .i64 z, .string ⟨s.toArray⟩, .int .i64 e]) ∧ Below w.heap.size w w' := by
  have := lparent_any a cap m b cwd pb hp L hF w hN
  rw [h] at this
  exact this

end Go.Proofs.YtmaiphibpdngnaaGreat

namespace Go.Proofs.YtmaiphibpdngnaaGreat
set_option maxRecDepth 100000
open Go Go.RowKit

def LUsedRel (L : List Ino) (w1 : World) (n b i : Value) (wr : World) : Prop :=
  ∃ k : Nat, k ≤ L.length ∧ i = .int .i64 k ∧ n = .int .i64 (usedN (L.take k)) ∧ b = .int .i64 (usedB (L.take k)) ∧ Below w1.heap.size w1 wr

end Go.Proofs.YtmaiphibpdngnaaGreat

namespace Go.Proofs.YtmaiphibpdngnaaGreat
set_option maxRecDepth 100000
open Go Go.RowKit



/-- The first free inode's number, or -1. -/
def freeN (L : List Ino) : Int := match freeW L L.length 0 with | none => -1 | some k => k
theorem freeW_from : ∀ (n k : Nat) (L : List Ino) (j : Nat), k ≤ j → j ≤ k + n → (∀ t, k ≤ t → t < j → (nodeAt L (t : Int)).kind ≠ 0) → freeW L n k = freeW L (k + n - j) j
  | 0, k, L, j, h1, h2, _ => by
    have : j = k := by omega
    subst this
    rw [Nat.add_zero, Nat.sub_self]
  | n + 1, k, L, j, h1, h2, h3 => by
    by_cases e : j = k
    · subst e
      rw [show j + (n + 1) - j = n + 1 by omega]
    · rw [freeW, if_neg (h3 k (Nat.le_refl _) (by omega)), freeW_from n (k + 1) L j (by omega) (by omega) (fun t h4 h5 => h3 t (by omega) h5), show k + 1 + n - j = k + (n + 1) - j by omega]



/-- The error of an inode that is to have a name. -/
def refuseW (L : List Ino) (d : Int) (sl : Bool) (kind : Int) : Int := if sl = true ∧ kind ≠ 2 then 20 else if 1024 ≤ (nodeAt L d).kids.length then 28 else 0

end Go.Proofs.YtmaiphibpdngnaaGreat

namespace Go.Proofs.YtmaiphibpdngnaaGreat
set_option maxRecDepth 100000
open Go Go.RowKit

set_option maxHeartbeats 1000000 in
theorem gcmp_any (n s : List UInt8) (i : Int) (w : World) :
    Calls Tryz.prog 117 #[.agg #[.string ⟨n.toArray⟩, .int .i64 i], .string ⟨s.toArray⟩] w fun e w' => e = .returned (.int .i64 (Lib.compareBytes n s)) ∧ Below w.heap.size w w' := by
  have HB := Lib.hid (below_box w (.cells #[.string ⟨n.toArray⟩, .int .i64 i] 59))
  go_enter Tryz.func117, Tryz.ntmps117
  go_wp2_with fail
  refine (Tryz.strings_Compare _ _ _).mono ?_
  rintro e w' ⟨rfl, rfl⟩
  go_wp2_with fail
  go_ret
  exact ⟨rfl, HB.out⟩

set_option maxRecDepth 100000 in
set_option maxHeartbeats 4000000 in
theorem gsearch_any (M : List (List UInt8 × Int)) (hM : M.length ≤ 1024) (hR : Rises M) (s : List UInt8) (ka : Option Addr) (kcap : Nat) (w : World) (hK : KidsIn w (.slice ka M.length kcap) M) :
    Calls Tryz.prog 100 #[.slice ka M.length kcap, .string ⟨s.toArray⟩, .func (.func 117) #[] #[]] w fun e w' => BAns M s e ∧ Below w.heap.size w w' := by
  obtain ⟨ka', kcap', e1, hkc, hkm, hkk⟩ := hK
  simp only [Value.slice.injEq] at e1
  obtain ⟨rfl, -, rfl⟩ := e1
  unfold maxLen at hkm
  have HK := Lib.hid hkk
  have HR := Lib.hid hR
  clear hkk hR
  go_enter Tryz.func100, Tryz.ntmps100
  go_wp2_with fail
  go_loopw [9, 10, 11] (fun i j _ wr => BRel M s w i j wr) (fun i j _ _ => (intOf j).toNat - (intOf i).toNat)
  case atStart => exact ⟨0, M.length, by omega, by omega, rfl, rfl, fun _ _ h => absurd h (Nat.not_lt_zero _), fun k hk h => absurd hk (by omega), Below.refl _ _⟩
  case round =>
    obtain ⟨i, j, hij, hj, rfl, rfl, hlo, hhi, hbr⟩ := hrel
    have HBR := Lib.hid hbr
    have hszr := hbr.size
    clear hbr
    by_cases hlt : i < j
    · have hih : i ≤ (i + j) / 2 := by omega
      have hhj : (i + j) / 2 < j := by omega
      have hhM : (i + j) / 2 < M.length := by omega
      obtain ⟨c1, p1, rfl, z0, z1⟩ := HK.out ((i + j) / 2) hhM
      have y0 := cell_below HBR.out z0
      have y1 := cell_below HBR.out z1
      obtain ⟨nm, hnm⟩ : ∃ nm, nm = M[(i + j) / 2].1 := ⟨_, rfl⟩
      obtain ⟨ino, hino⟩ : ∃ ino, ino = M[(i + j) / 2].2 := ⟨_, rfl⟩
      rw [← hnm] at y0
      rw [← hino] at y1
      have HNM := Lib.hid hnm
      have hc1 := cmp_le1 nm s
      clear z0 z1 hnm hino
      go_wp2_with fail
      refine (gcmp_any nm s ino _).mono ?_
      rintro e w2 ⟨rfl, hb2⟩
      have HB2 := Lib.hid (HBR.out.trans (hb2.mono hszr))
      clear hb2 y0 y1
      cases hls : Op.bytesLess nm s with
      | true =>
        have hneg := cmp_less.2 hls
        have hlo' := Lib.hid (show ∀ k (hk : k < M.length), k < (i + j) / 2 + 1 → Op.bytesLess M[k].1 s = true from fun k hk hkh => by
          by_cases e : k = (i + j) / 2
          · subst e
            rw [← HNM.out]
            exact hls
          · refine less_trans _ _ _ (HR.out.lt k ((i + j) / 2) hhM (by omega)) ?_
            rw [← HNM.out]
            exact hls)
        clear hls
        go_wp2_with fail
        go_roundw
        case rel => exact ⟨(i + j) / 2 + 1, j, by omega, hj, by go_num, rfl, hlo', hhi, HB2.out⟩
        case measure => simp [intOf] <;> omega
      | false =>
        have hneg : ¬ Lib.compareBytes nm s < 0 := fun h => by rw [cmp_less.1 h] at hls; cases hls
        have hneg' : 0 ≤ Lib.compareBytes nm s := by omega
        have hhi' := Lib.hid (show ∀ k (hk : k < M.length), (i + j) / 2 ≤ k → Op.bytesLess M[k].1 s = false from fun k hk hkh => by
          cases hb : Op.bytesLess M[k].1 s with
          | false => rfl
          | true =>
            by_cases e : k = (i + j) / 2
            · subst e
              rw [← HNM.out, hls] at hb
              cases hb
            · have h1 := less_trans _ _ _ (HR.out.lt ((i + j) / 2) k hk (by omega)) hb
              rw [← HNM.out, hls] at h1
              cases h1)
        clear hls hneg
        go_wp2_with fail
        go_roundw
        case rel => exact ⟨i, (i + j) / 2, hih, by omega, rfl, by go_num, hlo, hhi', HB2.out⟩
        case measure => simp [intOf] <;> omega
    · obtain rfl : i = j := by omega
      have HFIN := Lib.hid (show ∀ (e : Ending) (v : Bool), e = .returned (.tuple #[.int .i64 i, .bool v]) → (v = true ↔ ∃ h : i < M.length, M[i].1 = s) → BAns M s e from fun e v h1 h2 => ⟨i, v, h1, hj, h2, hlo.out, hhi.out⟩)
      by_cases hin : i < M.length
      · obtain ⟨c1, p1, rfl, z0, z1⟩ := HK.out i hin
        have y0 := cell_below HBR.out z0
        have y1 := cell_below HBR.out z1
        obtain ⟨nm, hnm⟩ : ∃ nm, nm = M[i].1 := ⟨_, rfl⟩
        obtain ⟨ino, hino⟩ : ∃ ino, ino = M[i].2 := ⟨_, rfl⟩
        rw [← hnm] at y0
        rw [← hino] at y1
        have HNM := Lib.hid hnm
        clear z0 z1 hnm hino hlt
        go_wp2_with fail
        refine (gcmp_any nm s ino _).mono ?_
        rintro e w2 ⟨rfl, hb2⟩
        have HB2 := Lib.hid (HBR.out.trans (hb2.mono hszr))
        clear hb2 y0 y1
        go_wp2_with fail
        go_ret2
        refine ⟨HFIN.out _ _ rfl ?_, HB2.out⟩
        rw [beq_iff_eq, cmp_zero, HNM.out]
        exact ⟨fun h => ⟨hin, h⟩, fun ⟨_, h⟩ => h⟩
      · have hin' : M.length ≤ i := by omega
        clear hlt
        go_wp2_with fail
        go_ret2
        exact ⟨HFIN.out _ _ rfl (by simp [hin]), HBR.out⟩

end Go.Proofs.YtmaiphibpdngnaaGreat

namespace Go.Proofs.YtmaiphibpdngnaaGreat
set_option maxRecDepth 100000
open Go Go.RowKit

theorem infoE : (Tryz.prog.info? 59).map (fun i => (i.zero, i.size, i.bytes)) = some (some (.agg #[.string ⟨#[]⟩, .int .i64 0]), 2, 24) := by kernel_rfl
theorem infoIn : (Tryz.prog.info? 49).map (fun i => (i.zero, i.size, i.bytes)) = some (some (.agg #[.int .i64 0, .int .i64 0, .int .i64 0, .string ⟨#[]⟩, .slice none 0 0, .int .i64 0]), 6, 72) := by kernel_rfl

set_option maxHeartbeats 1000000 in
theorem lclone_kids (v : Value) (K : List (List UInt8 × Int)) (hb : K.length * 24 ≤ 140737488355328) (w : World) (hK : KidsIn w v K) :
    Calls Tryz.prog 71 #[v] w fun e w' => ∃ v', e = .returned v' ∧ KidsOwn w' w.heap.size v' K ∧ Below w.heap.size w w' := by
  obtain ⟨i0, hi, hz0, hz1, hz2⟩ := info_parts infoE
  obtain ⟨a, cap, rfl, h1, h2, h3⟩ := hK
  have hm : K.length ≤ maxLen := by unfold maxLen; omega
  have q22 : ∀ (w : World) (a : Option Addr) (n c n' c' : Nat), (binOp .eql 47 (.slice a n c) (.slice none n' c')).run Tryz.prog w = .ok (.bool a.isNone) w := fun w a n c n' c' => Lib.run_eql_slice_nil w _ _ a n c n' c' Tryz.underlying47
  cases a with
  | none =>
    have hnil : K = [] := by
      cases K with
      | nil => rfl
      | cons e r => obtain ⟨b, o, e, -⟩ := h3 0 (Nat.zero_lt_succ _); cases e
    subst hnil
    go_enter Tryz.func71, Tryz.ntmps71
    go_wp2_with fail
    go_ret
    exact ⟨_, rfl, KidsOwn.nil _ _, Below.refl _ _⟩
  | some a =>
    have A : Aside (∀ j u, (kidC K)[j]? = some u → w.cell? (a.add j) = some u) := fun j u hj => by
      have hj' : j < K.length * 2 := by rw [← kidC_len]; exact (List.getElem?_eq_some_iff.1 hj).1
      obtain ⟨b, o, e, -⟩ := h3 0 (by omega)
      cases e
      have : (⟨b, o, none⟩ : Addr).add j = ⟨b, o + j, none⟩ := Addr.add_lit ..
      rw [this]
      refine kidC_cells (fun i hi => ?_) j u hj
      obtain ⟨b', o', e, c1, c2⟩ := h3 i hi
      cases e
      exact ⟨c1, c2⟩
    clear h3
    obtain ⟨ab, ao, asp⟩ := a
    go_enter Tryz.func71, Tryz.ntmps71
    go_wp2_with (at_builtin; refine wpList_append_own _ rfl _ _ 47 rfl w.heap.size 59 i0 _ 2 24 Tryz.underlying47 hi hz0 hz1 hz2 rfl (by decide) _ _ _ rfl (World.ownsRow_made w #[] 0 (Nat.le_refl _) (Nat.zero_le _) (by simp)) ⟨ab, ao, asp⟩ K.length cap (kidC K) rfl ?qc1 ?qc2 ?qc3 ?qc4 ?qc5 ?qc6 ?_)
    case qc1 => exact kidC_len K
    case qc2 =>
      intro j u hj
      exact Lib.cell?_alloc_some _ (A.out j u hj)
    case qc3 => exact kidC_one K
    case qc4 => rw [Nat.zero_add]; exact hm
    case qc5 => rw [Nat.zero_add]; exact hb
    case qc6 => simp
    intro v' w1 hown hgrow hnil
    go_wp2_with fail
    go_ret
    refine ⟨v', rfl, by simpa [KidsOwn] using hown, ?_⟩
    exact ((Below.refl _ w).alloc (Nat.le_refl _) _).grown hgrow (by simp) (by intro k hk; simp [Value.ownBlock] at hk; omega)

/-- Inodes, cell by cell. -/
def nodeC : List Ino → List Value → List Value
  | x :: L, v :: vs => inoC x v ++ nodeC L vs
  | _, _ => []
theorem nodeC_len : ∀ (L : List Ino) (vs : List Value), vs.length = L.length → (nodeC L vs).length = L.length * 6
  | [], [], _ => rfl
  | x :: L, v :: vs, h => by
    have := nodeC_len L vs (Nat.succ.inj h)
    simp only [nodeC, List.length_append, List.length_cons, this]
    show 6 + L.length * 6 = _
    omega
theorem nodeC_get : ∀ (L : List Ino) (vs : List Value) (i : Nat) (hi : i < L.length) (hv : i < vs.length) (j : Nat), j < 6 → (nodeC L vs)[i * 6 + j]? = (inoC L[i] vs[i])[j]?
  | x :: L, v :: vs, 0, _, _, j, hj => by
    rw [Nat.zero_mul, Nat.zero_add, nodeC, List.getElem?_append_left (by show j < 6; exact hj)]
    rfl
  | x :: L, v :: vs, i + 1, hi, hv, j, hj => by
    have h := nodeC_get L vs i (Nat.lt_of_succ_lt_succ hi) (Nat.lt_of_succ_lt_succ hv) j hj
    rw [nodeC, List.getElem?_append_right (by show 6 ≤ _; omega)]
    rw [show (i + 1) * 6 + j - (inoC x v).length = i * 6 + j by show (i + 1) * 6 + j - 6 = _; omega, h]
    rfl
theorem nodeC_one {L : List Ino} {vs : List Value} (hone : ∀ v ∈ vs, v.oneCell' = true) : ∀ u ∈ nodeC L vs, u.oneCell' = true := by
  induction L generalizing vs with
  | nil => intro u h; cases h
  | cons x L ih =>
    cases vs with
    | nil => intro u h; cases h
    | cons v vs =>
      intro u h
      rw [nodeC, List.mem_append] at h
      rcases h with h | h
      · simp only [inoC, List.mem_cons, List.not_mem_nil, or_false] at h
        rcases h with rfl | rfl | rfl | rfl | rfl | rfl
        · rfl
        · rfl
        · rfl
        · rfl
        · exact hone _ List.mem_cons_self
        · rfl
      · exact ih (fun v hv => hone v (List.mem_cons_of_mem _ hv)) u h
/-- What lies in memory of inodes, with their names' slices. -/
theorem nodes_open {w : World} {a : Option Addr} {cap : Nat} {L : List Ino} (hN : NodesIn w a cap L) : ∃ vs : List Value, vs.length = L.length ∧ (∀ v ∈ vs, v.oneCell' = true) ∧ (∀ i (hi : i < L.length) (hv : i < vs.length), KidsIn w vs[i] L[i].kids) ∧
    ∀ j u, (nodeC L vs)[j]? = some u → ∃ b o, a = some ⟨b, o, none⟩ ∧ w.cell? ⟨b, o + j, none⟩ = some u := by
  have hone : ∀ i, i < L.length → ∃ v, v.oneCell' = true ∧ ∀ hi : i < L.length, KidsIn w v L[i].kids ∧ ∃ b o, a = some ⟨b, o, none⟩ ∧ NodeAt w b (o + i * 6) L[i] v := fun i hi => by
    obtain ⟨b, o, e, hn⟩ := hN.2.2 i hi
    obtain ⟨v, hv, hk⟩ := hn.kids
    refine ⟨v, ?_, fun hi => ⟨hk, b, o, e, ⟨hn.kind, hn.mode, hn.links, hn.data, hv, hn.up⟩⟩⟩
    obtain ⟨ka, kc, rfl, -⟩ := hk
    rfl
  obtain ⟨vs, hl, hvs⟩ : ∃ vs : List Value, vs.length = L.length ∧ ∀ i (_ : i < L.length) (hv : i < vs.length), vs[i].oneCell' = true ∧ ∀ hi : i < L.length, KidsIn w vs[i] L[i].kids ∧ ∃ b o, a = some ⟨b, o, none⟩ ∧ NodeAt w b (o + i * 6) L[i] vs[i] := by
    have : ∀ n, n ≤ L.length → ∃ vs : List Value, vs.length = n ∧ ∀ i (_ : i < n) (hv : i < vs.length), vs[i].oneCell' = true ∧ ∀ hi : i < L.length, KidsIn w vs[i] L[i].kids ∧ ∃ b o, a = some ⟨b, o, none⟩ ∧ NodeAt w b (o + i * 6) L[i] vs[i] := by
      intro n
      induction n with
      | zero => exact fun _ => ⟨[], rfl, fun i hi => absurd hi (Nat.not_lt_zero _)⟩
      | succ n ih =>
        intro hn
        obtain ⟨vs, h1, h2⟩ := ih (by omega)
        obtain ⟨v, h3, h4⟩ := hone n (by omega)
        refine ⟨vs ++ [v], by simp [h1], fun i hi hv => ?_⟩
        by_cases e : i < vs.length
        · rw [List.getElem_append_left e]
          exact h2 i (by omega) e
        · have e2 : i = vs.length := by omega
          subst e2
          rw [List.getElem_concat_length rfl]
          refine ⟨h3, fun hi2 => ?_⟩
          subst h1
          exact h4 hi2
    exact this L.length (Nat.le_refl _)
  refine ⟨vs, hl, fun v hv => ?_, fun i hi hv => ((hvs i hi hv).2 hi).1, fun j u hu => ?_⟩
  · obtain ⟨i, hi, rfl⟩ := List.getElem_of_mem hv
    exact (hvs i (by omega) hi).1
  · have hj : j < L.length * 6 := by rw [← nodeC_len L vs hl]; exact (List.getElem?_eq_some_iff.1 hu).1
    obtain ⟨i, t, rfl, ht⟩ : ∃ i t, j = i * 6 + t ∧ t < 6 := ⟨j / 6, j % 6, by omega, by omega⟩
    have hi : i < L.length := by omega
    rw [nodeC_get L vs i hi (by omega) t ht] at hu
    obtain ⟨b, o, e, hn⟩ := ((hvs i hi (by omega)).2 hi).2
    refine ⟨b, o, e, ?_⟩
    rw [← Nat.add_assoc]
    match t, ht, hu with
    | 0, _, hu => cases hu; exact hn.kind
    | 1, _, hu => cases hu; exact hn.mode
    | 2, _, hu => cases hu; exact hn.links
    | 3, _, hu => cases hu; exact hn.data
    | 4, _, hu => cases hu; exact hn.kids
    | 5, _, hu => cases hu; exact hn.up
/-- What a row of the call's own holds of inodes. -/
theorem nodes_of_row {w : World} {base cap g : Nat} {L : List Ino} {vs : List Value} (hl : vs.length = L.length) (h : w.ownsRow base 49 6 (.slice (some ⟨g, 0, none⟩) L.length cap) L.length (nodeC L vs)) : NodesOwn w g cap L vs ∧ base ≤ g := by
  have hc : ∀ j u, (nodeC L vs)[j]? = some u → w.cell? ⟨g, j, none⟩ = some u := fun j u hu => by
    have := h.cells rfl j u hu
    rw [zero_add_addr] at this
    exact this
  have hlt := h.lt g rfl
  rcases h.2 with ⟨e, -⟩ | ⟨g', cap', cur, e, hb, hg, hn, hm, hs, ht⟩
  · cases e
  · cases e
    refine ⟨⟨hl, hn, hm, hlt.2, fun j => by simp [World.frozen?, hg], fun i hi hv => ?_⟩, hb⟩
    have hh : ∀ t, t < 6 → ∀ u, (inoC L[i] vs[i])[t]? = some u → w.cell? ⟨g, i * 6 + t, none⟩ = some u := fun t ht u hu => hc _ _ ((nodeC_get L vs i hi hv t ht).trans hu)
    exact ⟨hh 0 (by decide) _ rfl, hh 1 (by decide) _ rfl, hh 2 (by decide) _ rfl, hh 3 (by decide) _ rfl, hh 4 (by decide) _ rfl, hh 5 (by decide) _ rfl⟩

set_option maxHeartbeats 1000000 in
theorem lclone_nodes (a : Option Addr) (cap : Nat) (L : List Ino) (hL : 0 < L.length) (hb : L.length * 72 ≤ 140737488355328) (w0 w : World) (hw : Below w0.heap.size w0 w) (hN : NodesIn w0 a cap L) :
    Calls Tryz.prog 70 #[.slice a L.length cap] w fun e w' => ∃ g cap' vs, e = .returned (.slice (some ⟨g, 0, none⟩) L.length cap') ∧ NodesOwn w' g cap' L vs ∧ w.heap.size ≤ g ∧ (∀ i (hi : i < L.length) (hv : i < vs.length), KidsIn w0 vs[i] L[i].kids) ∧ Below w.heap.size w w' := by
  obtain ⟨i0, hi, hz0, hz1, hz2⟩ := info_parts infoIn
  obtain ⟨vs, hl, hone, hk, hcell⟩ := nodes_open hN
  have hm : L.length ≤ maxLen := by unfold maxLen; omega
  have q22 : ∀ (w : World) (a : Option Addr) (n c n' c' : Nat), (binOp .eql 22 (.slice a n c) (.slice none n' c')).run Tryz.prog w = .ok (.bool a.isNone) w := fun w a n c n' c' => Lib.run_eql_slice_nil w _ _ a n c n' c' Tryz.underlying22
  obtain ⟨b, o, rfl, -⟩ := hN.2.2 0 hL
  have A : Aside (∀ j u, (nodeC L vs)[j]? = some u → w.cell? ⟨b, o + j, none⟩ = some u) := fun j u hj => by
    obtain ⟨b', o', e, hc⟩ := hcell j u hj
    cases e
    exact cell_below hw hc
  have HK := Lib.hid hk
  have HL := Lib.hid hl
  clear hcell hk hN hl
  go_enter Tryz.func70, Tryz.ntmps70
  go_wp2_with (at_builtin; refine wpList_append_own _ rfl _ _ 22 rfl w.heap.size 49 i0 _ 6 72 Tryz.underlying22 hi hz0 hz1 hz2 rfl (by decide) _ _ _ rfl (World.ownsRow_made w #[] 0 (Nat.le_refl _) (Nat.zero_le _) (by simp)) ⟨b, o, none⟩ L.length cap (nodeC L vs) rfl ?qc1 ?qc2 ?qc3 ?qc4 ?qc5 ?qc6 ?_)
  case qc1 => exact nodeC_len L vs HL.out
  case qc2 =>
    intro j u hj
    rw [Addr.add_lit]
    exact Lib.cell?_alloc_some _ (A.out j u hj)
  case qc3 => exact nodeC_one hone
  case qc4 => rw [Nat.zero_add]; exact hm
  case qc5 => rw [Nat.zero_add]; exact hb
  case qc6 => simp
  intro v' w1 hown hgrow hnil
  have hbel := ((Below.refl _ w).alloc (Nat.le_refl _) (.cells #[] 49)).grown hgrow (by simp) (by intro k hk; simp [Value.ownBlock] at hk; omega)
  rcases hown.2 with ⟨rfl, h0⟩ | ⟨g, cap', cur, rfl, -⟩
  · omega
  obtain ⟨hown', hgb⟩ := nodes_of_row HL.out hown
  have HO := Lib.hid hown'
  have HB := Lib.hid hbel
  clear hown hown' hgrow hnil hbel
  go_wp2_with fail
  go_ret
  exact ⟨g, cap', vs, rfl, HO.out, hgb, HK.out, HB.out⟩
end Go.Proofs.YtmaiphibpdngnaaGreat

namespace Go.Proofs.YtmaiphibpdngnaaGreat
set_option maxRecDepth 100000
open Go Go.RowKit

section
variable {P : Program}
theorem run_copy_k (w : World) (dT sT ty elem : TypeId) (b o dLen dCap : Nat) (a : Addr) (sLen sCap k n : Nat) (cs : List Value)
    (hu : P.underlying dT = some (.slice elem)) (hs : (P.info? elem).map (·.size) = some k) (hn : n = Nat.min sLen dLen) (hl : cs.length = n * k)
    (hsrc : ∀ j v, cs[j]? = some v → w.cell? (a.add j) = some v) (hc : ∀ j, j < cs.length → (w.cell? ⟨b, o + j, none⟩).isSome = true) (hf : ∀ j, j < cs.length → w.frozen? ⟨b, o + j, none⟩ = false) (h1 : ∀ v ∈ cs, v.oneCell' = true) :
    (Builtin.copy_ #[dT, sT] ty #[.slice (some ⟨b, o, none⟩) dLen dCap, .slice (some a) sLen sCap]).run P w = .ok (goInt n) (w.setCells b o cs) := by
  have hld := run_loadCells_list (P := P) w a cs hsrc
  have hst := run_storeCells_cells (P := P) b o cs 0 w (by simpa using hc) (by simpa using hf) h1
  rw [hl] at hld
  cases hq : P.info? elem with
  | none => simp [hq] at hs
  | some i =>
    have hi : i.size = k := by simpa [hq] using hs
    simp [Builtin.copy_, run_underlying hu, Builtin.lenOf, Builtin.firstCells, sizeOf, typeInfo, hq, hi, ← hn, hld, hst]
end

/-- Cells of a block with others laid from o on. -/
def layA (cur : Array Value) : Nat → List Value → Array Value
  | _, [] => cur
  | o, v :: r => layA (cur.setIfInBounds o v) (o + 1) r
theorem layA_size : ∀ (vs : List Value) (cur : Array Value) (o : Nat), (layA cur o vs).size = cur.size
  | [], _, _ => rfl
  | v :: r, cur, o => by rw [layA, layA_size r]; simp
theorem layA_get : ∀ (vs : List Value) (cur : Array Value) (o : Nat), o + vs.length ≤ cur.size → ∀ j, (layA cur o vs)[j]? = if o ≤ j ∧ j < o + vs.length then vs[j - o]? else cur[j]?
  | [], cur, o, _, j => by rw [if_neg (by simp)]; rfl
  | v :: r, cur, o, h, j => by
    have hl : (v :: r).length = r.length + 1 := rfl
    rw [layA, layA_get r _ (o + 1) (by simp; omega) j]
    by_cases e : j = o
    · subst e
      rw [if_neg (by omega), if_pos (by omega), Nat.sub_self, Array.getElem?_setIfInBounds, if_pos rfl, if_pos (by omega)]
      rfl
    · by_cases h2 : o + 1 ≤ j ∧ j < o + 1 + r.length
      · rw [if_pos h2, if_pos (by omega), show j - o = j - (o + 1) + 1 by omega, List.getElem?_cons_succ]
      · rw [if_neg h2, if_neg (by omega), Array.getElem?_setIfInBounds_ne (by omega)]
theorem blk_sets {k : Nat} {t : TypeId} : ∀ (vs : List Value) (o : Nat) {W : World} {cs : Array Value}, W.heap[k]? = some (.cells cs t (0, 0)) → (W.setCells k o vs).heap[k]? = some (.cells (layA cs o vs) t (0, 0))
  | [], _, _, _, h => h
  | v :: r, o, _W, _cs, h => blk_sets r (o + 1) (blk_set h o v)

/-- Names with one more at place i. -/
def insK (K : List (List UInt8 × Int)) (i : Nat) (x : List UInt8 × Int) : List (List UInt8 × Int) := K.take i ++ x :: K.drop i
theorem insK_len {K : List (List UInt8 × Int)} {i : Nat} (h : i ≤ K.length) (x : List UInt8 × Int) : (insK K i x).length = K.length + 1 := by
  unfold insK
  rw [List.length_append, List.length_cons, List.length_take, List.length_drop]
  omega
theorem kidC_take : ∀ (K : List (List UInt8 × Int)) (i : Nat), kidC (K.take i) = (kidC K).take (i * 2)
  | [], i => by simp [kidC]
  | e :: r, 0 => by simp [kidC]
  | e :: r, i + 1 => by rw [List.take_succ_cons, kidC, kidC, kidC_take r i, show (i + 1) * 2 = i * 2 + 1 + 1 by omega, List.take_succ_cons, List.take_succ_cons]
theorem kidC_drop : ∀ (K : List (List UInt8 × Int)) (i : Nat), kidC (K.drop i) = (kidC K).drop (i * 2)
  | [], i => by simp [kidC]
  | e :: r, 0 => by simp
  | e :: r, i + 1 => by rw [List.drop_succ_cons, kidC_drop r i, kidC, show (i + 1) * 2 = i * 2 + 1 + 1 by omega, List.drop_succ_cons, List.drop_succ_cons]
def entC (x : List UInt8 × Int) : List Value := [.string ⟨x.1.toArray⟩, .int .i64 x.2]
theorem kidC_ins (K : List (List UInt8 × Int)) (i : Nat) (x : List UInt8 × Int) : kidC (insK K i x) = (kidC K).take (i * 2) ++ (entC x ++ (kidC K).drop (i * 2)) := by
  unfold insK
  rw [kidC_app, kidC_take]
  show _ ++ (.string ⟨x.1.toArray⟩ :: .int .i64 x.2 :: kidC (K.drop i)) = _
  rw [kidC_drop]
  rfl
theorem kidC_ins_get {K : List (List UInt8 × Int)} {i : Nat} (h : i ≤ K.length) (x : List UInt8 × Int) (j : Nat) : (kidC (insK K i x))[j]? = if j < i * 2 then (kidC K)[j]? else if j < i * 2 + 2 then (entC x)[j - i * 2]? else (kidC K)[j - 2]? := by
  have hl := kidC_len K
  have ht : ((kidC K).take (i * 2)).length = i * 2 := by rw [List.length_take]; omega
  rw [kidC_ins]
  by_cases h1 : j < i * 2
  · rw [if_pos h1, List.getElem?_append_left (by omega), List.getElem?_take, if_pos h1]
  · rw [if_neg h1, List.getElem?_append_right (by omega), ht]
    by_cases h2 : j < i * 2 + 2
    · rw [if_pos h2, List.getElem?_append_left (by show _ < 2; omega)]
    · rw [if_neg h2, List.getElem?_append_right (by show 2 ≤ _; omega), List.getElem?_drop]
      show (kidC K)[i * 2 + (j - i * 2 - 2)]? = _
      rw [show i * 2 + (j - i * 2 - 2) = j - 2 by omega]
/-- The cells of a row behind an insertion, told place by place. -/
theorem own_of_cells {W : World} {base g cap : Nat} {cur : Array Value} {K : List (List UInt8 × Int)} (hb : base ≤ g) (hg : W.heap[g]? = some (.cells cur 59 (0, 0))) (hn : K.length ≤ cap) (hm : cap ≤ maxLen) (hs : cur.size = cap * 2)
    (hc : ∀ j, j < K.length * 2 → cur[j]? = (kidC K)[j]?) : KidsOwn W base (.slice (some ⟨g, 0, none⟩) K.length cap) K := by
  refine ⟨kidC_len K, .inr ⟨g, cap, cur, rfl, hb, hg, hn, hm, hs, ?_⟩⟩
  refine List.ext_getElem? fun j => ?_
  rw [List.getElem?_take]
  by_cases h : j < K.length * 2
  · rw [if_pos h, ← hc j h]
    simp
  · rw [if_neg h, List.getElem?_eq_none (by rw [kidC_len]; omega)]
end Go.Proofs.YtmaiphibpdngnaaGreat
