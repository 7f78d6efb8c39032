/-
  walk's end, of the landed code: all names that are left are gone.
  walk's Walk, of the landed code.
  walk's Parent, of the landed code.
  awake: chapter 4's example; good: which trees the laws speak of.
-/
import Derived.Test.YtclhpedecimicaaGreatK19
import Derived.Test.YtclhpedecimicaaGreatWRefTop
import Derived.Test.YtclhpedecimicaaGreatK17
import Derived.Test.YtclhpedecimicaaGreatTRFit2
import Derived.Test.YtclhpedecimicaaGreatK11
import Derived.Test.YtclhpedecimicaaGreatK18
namespace Go.Proofs.YtclhpedecimicaaGreat
set_option maxRecDepth 100000
open Go Go.RowKit Go.Shelf

attribute [local go_sem] Oper.semAt_some

/-- What stands beside the way in end. -/
structure EndB (g B : Nat) (last : Bool) (err : Int) (w W : World) : Prop where
  b1 : W.heap[B]? = some (.cells #[.pointer (some ⟨g, 0, none⟩)] 136 (0, 0))
  b2 : W.heap[B + 1]? = some (.cells #[.bool last] 4 (0, 0))
  b3 : W.heap[B + 2]? = some (.cells #[.int .i64 err] 92 (0, 0))
  b4 : W.heap[B + 3]? = some (.cells #[.pointer (some ⟨g, 0, none⟩)] 136 (0, 0))
  moved : Moved g w W
theorem EndB.step {g B : Nat} {last : Bool} {err : Int} {w W W' : World} (h : EndB g B last err w W) (hg : g < B) (hm : Moved g W W') : EndB g B last err w W' :=
  ⟨hm.kept _ _ h.b1 (by omega) rfl, hm.kept _ _ h.b2 (by omega) rfl, hm.kept _ _ h.b3 (by omega) rfl, hm.kept _ _ h.b4 (by omega) rfl, h.moved.trans hm⟩
theorem endB_own {β : Type} {M g B : Nat} {last : Bool} {err : Int} {w : World} (hw : w.heap.size ≤ M) (hg : g ≤ w.heap.size) : OwnFrom M (fun (_ : β) W => EndB g B last err w W) := fun s X Y row h hgr hr => by
  have hc := fun r e => (hr r e).2
  exact ⟨(grownBy_keeps_cells hgr hc h.b1 rfl).trans h.b1, (grownBy_keeps_cells hgr hc h.b2 rfl).trans h.b2, (grownBy_keeps_cells hgr hc h.b3 rfl).trans h.b3, (grownBy_keeps_cells hgr hc h.b4 rfl).trans h.b4, moved_own (β := β) hw hg s X Y row h.moved hgr hr⟩
theorem EndB.setErr {g B : Nat} {last : Bool} {err : Int} {w W : World} (h : EndB g B last err w W) (hg : g < B) (hw : w.heap.size ≤ B) (e : Int) : EndB g B last e w (W.setCell ⟨B + 2, 0, none⟩ (.int .i64 e)) := by
  have ho : ∀ k, k ≠ B + 2 → (W.setCell ⟨B + 2, 0, none⟩ (.int .i64 e)).heap[k]? = W.heap[k]? := fun k hk => Below.heap_setCell W ⟨B + 2, 0, none⟩ _ k hk
  refine ⟨(ho _ (by omega)).trans h.b1, (ho _ (by omega)).trans h.b2, set_heap h.b3 0 _, (ho _ (by omega)).trans h.b4, ⟨h.moved.below.setCell (p := ⟨B + 2, 0, none⟩) (show g ≤ B + 2 by omega) _, fun k o hk hne hno => ?_⟩⟩
  have hlt : k < w.heap.size := (Array.getElem?_eq_some_iff.1 hk).1
  exact (ho k (by omega)).trans (h.moved.kept k o hk hne hno)
theorem way_far {n₀ g : Nat} {T : Value × Value × Value} {W : World} {p : Int} {st : List (List UInt8)} {links : Int} {b i : Nat} {t : TypeId} {c : Array Value} {u : Value} (h : WayAt n₀ g T W p st links) (hb : W.heap[b]? = some (.cells c t (0, 0))) (hne : b ≠ g) (ht : t ≠ 9) : WayAt n₀ g T (W.setCell ⟨b, i, none⟩ u) p st links := by
  obtain ⟨h0, v, h1, h2⟩ := h
  refine ⟨h0, v, (Below.heap_setCell W ⟨b, i, none⟩ u g (fun e => hne e.symm)).trans h1, h2.kept fun k hk => Below.heap_setCell W ⟨b, i, none⟩ u k (fun e => ?_)⟩
  obtain ⟨-, cur, hc⟩ := h2.own hk
  have e' : k = b := e
  subst e'
  rw [hb] at hc
  cases hc
  exact ht rfl

theorem box_frozen {W : World} {b i : Nat} {c : Array Value} {t : TypeId} (h : W.heap[b]? = some (.cells c t (0, 0))) : W.frozen? ⟨b, i, none⟩ = false := by
  simp only [World.frozen?, h]
  simp
theorem ko_below {W W' : World} (h : Below W.heap.size W W') : KeepsOthers W W' := ⟨h.size, fun k _o hk _ => (h.block k (Array.getElem?_eq_some_iff.1 hk).1).trans hk⟩
theorem ko_moved {g : Nat} {W W' : World} {c : Array Value} {t : TypeId} {fr : Nat × Nat} (hg : W.heap[g]? = some (.cells c t fr)) (h : Moved g W W') : KeepsOthers W W' := ⟨h.below.size, fun k o hk ho => by
  refine h.kept k o hk (fun e => ?_) (not_text ho)
  subst e
  rw [hg] at hk
  cases hk
  cases ho⟩
/-- What is known of a way under way. -/
def GhE (L : List Ino) (last : Bool) (R : Int × Int) (k : Nat) (N : List (List UInt8)) (p : Int) : Prop := k ≤ 8 ∧ N.length ≤ 5000 + k * 2000 ∧ R = wayW L last (8 - k) N p

set_option maxRecDepth 100000 in
set_option maxHeartbeats 8000000 in
theorem end_in (F : Fence) (hwide : F = Fence.wide) (n : Nat) (hn : 5 ≤ n) (n₀ g : Nat) (a : Option Addr) (cap : Nat) (m b : Int) (p0 : Int) (N0 : List (List UInt8)) (hN0 : N0.length ≤ 5000) (last : Bool) (L : List Ino) (hF : FitP L m b)
    (w0 : World) (hN : NodesIn w0 a cap L) (hw0 : w0.heap.size ≤ g) (w : World) (hb0 : Below w0.heap.size w0 w) (hn₀ : n₀ ≤ w.heap.size) (hW : WayAt n₀ g (.slice a L.length cap, .int .i64 m, .int .i64 b) w p0 N0.reverse 0) :
    CallsIn F n Tryz.prog 67 #[.pointer (some ⟨g, 0, none⟩), .bool last] w fun e w' => (∃ z : Int, e = .returned (.tuple #[.int .i64 z, .int .i64 (wayW L last 8 N0 p0).2]) ∧ ((wayW L last 8 N0 p0).2 = 0 → z = (wayW L last 8 N0 p0).1)) ∧ Moved g w w' := by
  have hO : Open F := by rw [hwide]; exact open_wide
  have hro : F.round = none := hO.ro
  have h43 : F.fn 91 := hO.fn _
  have h44 : F.fn 92 := hO.fn _
  have h26 : F.fn 68 := hO.fn _
  have h24 : F.fn 66 := hO.fn _
  have h1 : 1 ≤ n := by omega
  have h3 : 1 ≤ n - 1 - 1 := by omega
  have hlt := hW.lt
  have HW := Lib.hid hW
  have HF := Lib.hid hF
  have HN := Lib.hid hN
  have HB0 := Lib.hid hb0
  obtain ⟨R, hR⟩ : ∃ R, R = wayW L last 8 N0 p0 := ⟨_, rfl⟩
  rw [← hR]
  have HR := Lib.hid hR
  have HWIDE := Lib.hid hwide
  clear hW hwide hF hN hb0 hR
  refine callsIn_of_wp_marks Tryz.func67 rfl (hO.fn _) ?_ hro
  simp only [Tryz.ntmps67, List.size_toArray, List.length_cons, List.length_nil, Nat.reduceAdd, Nat.reduceSub, Array.replicate_succ, Array.replicate_zero, List.push_toArray, List.append_toArray, List.nil_append, List.cons_append]
  gi_wp2
  refine scope_in hro ?_
  gi_wp2
  refine wpIn_label ?_
  gi_wp2_with (first | (gi_at_call 91; refine (lnames_in F hO (n - 1) g _).mono ?_; rintro e w4 ⟨rfl, hw4⟩) | fail)
  rw [← hw4]
  obtain ⟨B, hB⟩ : ∃ B, B = w.heap.size := ⟨_, rfl⟩
  have hs4 : w4.heap.size = B + 4 := by rw [hw4, hB]; simp
  have hb4 : Below w.heap.size w w4 := by
    rw [hw4]
    exact (((below_box w _).alloc (by simp) _).alloc (by simp; omega) _).alloc (by simp; omega) _
  have hend : EndB g B last 0 w w4 := by
    have e1 : (w.alloc (.cells #[.pointer (some ⟨g, 0, none⟩)] 136)).heap.size = B + 1 := by simp [hB]
    have e2 : ((w.alloc (.cells #[.pointer (some ⟨g, 0, none⟩)] 136)).alloc (.cells #[.bool last] 4)).heap.size = B + 2 := by simp [hB]
    have e3 : (((w.alloc (.cells #[.pointer (some ⟨g, 0, none⟩)] 136)).alloc (.cells #[.bool last] 4)).alloc (.cells #[.int .i64 0] 92)).heap.size = B + 3 := by simp [hB]
    refine ⟨?_, ?_, ?_, ?_, Moved.of_below hb4 (Nat.le_of_lt hlt)⟩
    · rw [hw4, Below.heap_alloc _ _ _ (by rw [e3]; omega), Below.heap_alloc _ _ _ (by rw [e2]; omega), Below.heap_alloc _ _ _ (by rw [e1]; omega), hB]
      exact new_block w _
    · have h := new_block (w.alloc (.cells #[.pointer (some ⟨g, 0, none⟩)] 136)) (.cells #[.bool last] 4)
      rw [e1] at h
      rw [hw4, Below.heap_alloc _ _ _ (by rw [e3]; omega), Below.heap_alloc _ _ _ (by rw [e2]; omega)]
      exact h
    · have h := new_block ((w.alloc (.cells #[.pointer (some ⟨g, 0, none⟩)] 136)).alloc (.cells #[.bool last] 4)) (.cells #[.int .i64 0] 92)
      rw [e2] at h
      rw [hw4, Below.heap_alloc _ _ _ (by rw [e3]; omega)]
      exact h
    · have h := new_block (((w.alloc (.cells #[.pointer (some ⟨g, 0, none⟩)] 136)).alloc (.cells #[.bool last] 4)).alloc (.cells #[.int .i64 0] 92)) (.cells #[.pointer (some ⟨g, 0, none⟩)] 136)
      rw [e3] at h
      rw [hw4]
      exact h
  have HEB := Lib.hid hend
  have HW4 := Lib.hid (HW.out.below hb4)
  have hgB : g < B := by omega
  have hwB : w.heap.size ≤ B := by omega
  have HBW := Lib.hid hB
  clear hw4 hend hb4
  have hp4 : Value.pointer (some ⟨w.heap.size + 1 + 1 + 1, 0, none⟩) = .pointer (some ⟨B + 3, 0, none⟩) := by rw [hB]
  rw [← hB]
  rw [← hB] at hp4
  clear hB
  refine range_st hro h1 (gf := 110) (lb := #[.pointer (some ⟨B + 3, 0, none⟩)]) (by first | rfl | exact congrArg _ hp4) (hO.fn _) (enters_of Tryz.func110 (by kernel_rfl) rfl)
    (lnames1_seq F HWIDE.out (n - 1) (by omega) n₀ g (B + 3) (.slice a L.length cap, .int .i64 m, .int .i64 b) (fun W => EndB g B last 0 w W ∧ w4.heap.size ≤ W.heap.size) (GhE L last R) (fun k N p h => by have := h.2.1; have := h.1; omega)
      (fun W h => cell_in h.1.b4 rfl) (fun W v h => ⟨(h.1.step hgB (Moved.set W 4 v)).step hgB ⟨⟨rfl, rfl, rfl, Nat.le_refl _, fun _ _ => rfl⟩, fun _ _ h _ _ => h⟩, by show w4.heap.size ≤ (W.setCell ⟨g, 4, none⟩ v).heap.size; rw [set_sizeW]; exact h.2⟩) ⟨[], N0, p0, 0⟩) (fun _ => rfl)
    (fun c W => c = .exit 0 ∧ (∃ (q k : Int) (st : List (List UInt8)), WayAt n₀ g (.slice a L.length cap, .int .i64 m, .int .i64 b) W q st k) ∧ EndB g B last R.2 w W ∧ R.2 ≠ 0)
    (fun s X Y row h hg hr => ⟨h.1.own hg (fun r e => (hr r e).2), ⟨endB_own (β := Unit) (by omega) (by omega) () X Y row h.2.1.1 hg hr, Nat.le_trans h.2.1.2 hg.size⟩, h.2.2⟩)
    (fun s X Y row h hg hr => ⟨h.1.own hg (fun r e => (hr r e).2), ⟨endB_own (β := Unit) (by omega) (by omega) () X Y row h.2.1.1 hg hr, Nat.le_trans h.2.1.2 hg.size⟩, h.2.2⟩)
    (fun c s X Y row h hg hr => ⟨h.1, by obtain ⟨q, k, st, h2⟩ := h.2.1; exact ⟨q, k, st, h2.own hg (fun r e => (hr r e).2)⟩, endB_own (β := Unit) (by omega) (by omega) () X Y row h.2.2.1 hg hr, h.2.2.2⟩)
    (fun s X Y row ⟨s', h0, h⟩ hg hr => ⟨s', h0, h.1.own hg (fun r e => (hr r e).2), ⟨endB_own (β := Unit) (by omega) (by omega) () X Y row h.2.1.1 hg hr, Nat.le_trans h.2.1.2 hg.size⟩, h.2.2⟩)
    ⟨HW4.out, ⟨HEB.out, Nat.le_refl _⟩, ⟨show (0 : Nat) ≤ 8 by omega, show N0.length ≤ 5000 + 0 * 2000 by omega, HR.out⟩⟩
    (fun s => { tmps := #[.pointer (some ⟨g, 0, none⟩), .bool last, .pointer (some ⟨B, 0, none⟩), .pointer (some ⟨B + 1, 0, none⟩), .int .i64 0, .int .i64 0, .pointer (some ⟨B + 1 + 1, 0, none⟩), .string ⟨s.x.toArray⟩, undef, .pointer (some ⟨g, 0, none⟩), .func (.func 110) #[] #[.pointer (some ⟨B + 1 + 1 + 1, 0, none⟩)], .string ⟨s.x.toArray⟩, undef, undef, undef, undef, undef, undef, undef, undef, undef, undef, undef, undef, undef, undef, undef, undef, undef, undef, undef, undef, undef, undef, undef, undef, undef, undef, undef, undef, undef, undef, undef, undef, undef, undef, undef, undef, undef, undef, undef, undef, undef, undef, undef, undef, undef, undef, undef, undef, undef, undef, undef, undef, undef, undef, undef, undef, undef, undef, undef, undef, undef, undef], defers := [] }) ?assign ?body ?done ?stop
  case assign =>
    intro l s W K hK
    gi_wp2
    exact hK
  case body =>
    rintro l ⟨x, N, p, k⟩ W ⟨hway, ⟨heb, hsz⟩, hk, hNl, hRw⟩
    simp only at hway hk hNl hRw
    simp only [List.length_cons] at hNl
    have hw := HWIDE.out
    subst hw
    have hNW : NodesIn W a cap L := HN.out.below (HB0.out.trans (heb.moved.below.mono hw0))
    have b1c : W.cell? ⟨B, 0, none⟩ = some (.pointer (some ⟨g, 0, none⟩)) := cell_in heb.b1 rfl
    have HNW := Lib.hid hNW
    have HWAY := Lib.hid hway
    have HEN := Lib.hid heb
    have HRW := Lib.hid hRw
    obtain ⟨z, hz⟩ : ∃ z, z = (stepW L p x).1 := ⟨_, rfl⟩
    obtain ⟨er, her⟩ : ∃ er, er = (stepW L p x).2 := ⟨_, rfl⟩
    have HST := Lib.hid (show stepW L p x = (z, er) by rw [hz, her])
    have HCALL := Lib.hid (show Calls Tryz.prog 92 #[.pointer (some ⟨g, 0, none⟩), .string ⟨x.toArray⟩] W fun e w' => e = .returned (.tuple #[.int .i64 z, .int .i64 er]) ∧ Below W.heap.size W w' by
      have h := lstep_any n₀ g a cap m b p k N.reverse x L HF.out W HNW.out HWAY.out
      rw [HST.out] at h
      exact h)
    have hgW := hway.lt
    clear hz her hNW hway heb hRw
    have HSZ := Lib.hid hsz
    have hBW : B + 4 ≤ W.heap.size := by omega
    have hkw : ((8 - k) + k = 8) ∧ k ≤ 8 := ⟨by omega, hk⟩
    cases he : (er != 0) with
    | true =>
      have hne : er ≠ 0 := by simpa using he
      have HR2 := Lib.hid (show R.2 = er by rw [HRW.out, wayW_err _ _ _ _ _ _ (by rw [HST.out]; exact hne), HST.out])
      have HNE := Lib.hid hne
      clear hne
      gi_wp2_with (first | (gi_at_call 92; refine (CallsIn.inRound l (hO.calls HCALL.out)).mono ?_; rintro e W2 ⟨rfl, hb2⟩; have HB2 := Lib.hid hb2; have hs2 := hb2.size; clear hb2; have HEB2 := Lib.hid (HEN.out.step hgB (Moved.of_below HB2.out (Nat.le_of_lt hgW))); have HWAY2 := Lib.hid (HWAY.out.below HB2.out); have b3c : W2.cell? ⟨B + 1 + 1, 0, none⟩ = some (.int .i64 0) := cell_in HEB2.out.b3 rfl; have b3f : W2.frozen? ⟨B + 1 + 1, 0, none⟩ = false := box_frozen HEB2.out.b3) | fail)
      exact ⟨((ko_below HB2.out).trans (KeepsOthers.setCell W2 _ _)).from _, rfl, ⟨p, k, N.reverse, way_far HWAY2.out HEB2.out.b3 (by omega) (by decide)⟩, by rw [HR2.out]; exact HEB2.out.setErr hgB hwB er, by rw [HR2.out]; exact HNE.out⟩
    | false =>
      have hz0 : er = 0 := by simpa using he
      subst hz0
      have hlive := step_ok HF.out (show (stepW L p x).2 = 0 by rw [HST.out])
      rw [HST.out] at hlive
      obtain ⟨u, hu, hul⟩ := there_nat (live_there hlive)
      have hzu : z = (u : Int) := hu
      subst hzu
      have hkl : kindL L (u : Int) = L[u].kind := by
        unfold kindL
        rw [live_there hlive, if_pos rfl, node_nat L u hul]
      have HKL := Lib.hid hkl
      have HND := Lib.hid (node_nat L u hul)
      clear hkl hlive hu he
      cases hk3 : (L[u].kind != 3) with
      | true =>
        have HGO := Lib.hid (show R = wayW L last (8 - k) N (u : Int) by rw [HRW.out, wayW_on _ _ _ _ _ _ _ HST.out (Or.inl (by rw [HND.out]; simpa using hk3))])
        gi_wp2_with (first | (gi_at_call 92; refine (CallsIn.inRound l (hO.calls HCALL.out)).mono ?_; rintro e W2 ⟨rfl, hb2⟩; have HB2 := Lib.hid hb2; have hs2 := hb2.size; clear hb2; have HEB2 := Lib.hid (HEN.out.step hgB (Moved.of_below HB2.out (Nat.le_of_lt hgW))); have HWAY2 := Lib.hid (HWAY.out.below HB2.out); have b3c : W2.cell? ⟨B + 1 + 1, 0, none⟩ = some (.int .i64 0) := cell_in HEB2.out.b3 rfl; have b3f : W2.frozen? ⟨B + 1 + 1, 0, none⟩ = false := box_frozen HEB2.out.b3; have HEB3 := Lib.hid (show EndB g B last 0 w (W2.setCell ⟨B + 1 + 1, 0, none⟩ (.int .i64 0)) from HEB2.out.setErr hgB hwB 0); have HWAY3 := Lib.hid (show WayAt n₀ g (.slice a L.length cap, .int .i64 m, .int .i64 b) (W2.setCell ⟨B + 1 + 1, 0, none⟩ (.int .i64 0)) p N.reverse k from way_far HWAY2.out HEB2.out.b3 (by omega) (by decide)); have d1 : (W2.setCell ⟨B + 1 + 1, 0, none⟩ (.int .i64 0)).cell? ⟨B, 0, none⟩ = some (.pointer (some ⟨g, 0, none⟩)) := cell_in HEB3.out.b1 rfl; (obtain ⟨d2, d3, d4, -, -, -⟩ := way_cells HWAY3.out); have d5 : (W2.setCell ⟨B + 1 + 1, 0, none⟩ (.int .i64 0)).cell? ⟨B + 1 + 1, 0, none⟩ = some (.int .i64 0) := cell_in HEB3.out.b3 rfl; have HNW3 := Lib.hid (show NodesIn (W2.setCell ⟨B + 1 + 1, 0, none⟩ (.int .i64 0)) a cap L from HN.out.below (HB0.out.trans (HEB3.out.moved.below.mono hw0))); have hs3 : (W2.setCell ⟨B + 1 + 1, 0, none⟩ (.int .i64 0)).heap.size = W2.heap.size := set_sizeW W2 _ _) | (gi_at_call 68; refine (CallsIn.inRound l (hO.calls (kind_known a cap m b (u : Int) L L[u].kind HKL.out _ HNW3.out))).mono ?_; rintro e W4 ⟨rfl, hb4⟩; have HB4 := Lib.hid hb4; have hs5 := hb4.size; clear hb4 d1 d2 d3 d4 d5 b3c b3f; have hg3 : g < (W2.setCell ⟨B + 1 + 1, 0, none⟩ (.int .i64 0)).heap.size := HWAY3.out.lt; have HEB4 := Lib.hid (HEB3.out.step hgB (Moved.of_below HB4.out (Nat.le_of_lt hg3))); have HWAY4 := Lib.hid (HWAY3.out.below HB4.out); have e1 : W4.cell? ⟨B, 0, none⟩ = some (.pointer (some ⟨g, 0, none⟩)) := cell_in HEB4.out.b1 rfl; have e2 : W4.cell? ⟨B + 1, 0, none⟩ = some (.bool last) := cell_in HEB4.out.b2 rfl; have e3 : W4.cell? ⟨B + 1 + 1, 0, none⟩ = some (.int .i64 0) := cell_in HEB4.out.b3 rfl; have e4 : W4.frozen? ⟨B + 1 + 1, 0, none⟩ = false := box_frozen HEB4.out.b3; have f3 := way_frozen HWAY4.out 3; have f5 := way_frozen HWAY4.out 5; (obtain ⟨c0, c1, c2, c3, ⟨v4, c4, hv4⟩, c5⟩ := way_cells HWAY4.out); (obtain ⟨va, vc, rfl, -, -, -⟩ := hv4.view); have HKO := Lib.hid ((ko_below HB2.out).trans ((KeepsOthers.setCell W2 ⟨B + 1 + 1, 0, none⟩ (.int .i64 0)).trans (ko_below HB4.out))); have HNW4 := Lib.hid (HNW3.out.below HB4.out); clear hv4) | fail)
        exact ⟨(HKO.out.trans (KeepsOthers.setCell W4 _ _)).from _, ⟨x, N, (u : Int), k⟩, Nat.le_refl _, way_set3 HWAY4.out u, ⟨HEB4.out.step hgB (Moved.set W4 3 _), by rw [set_sizeW]; exact Nat.le_trans HSZ.out HKO.out.size⟩, hk, by show N.length ≤ 5000 + k * 2000; omega, HGO.out⟩
      | false =>
        have hk3' : L[u].kind = 3 := by simpa using hk3
        by_cases hlast : N = [] ∧ last = false
        · have HLN := Lib.hid hlast.1
          have HLL := Lib.hid hlast.2
          clear hlast
          have HGO := Lib.hid (show R = wayW L last (8 - k) N (u : Int) by rw [HRW.out, wayW_on _ _ _ _ _ _ _ HST.out (Or.inr ⟨HLN.out, HLL.out⟩)])
          gi_wp2_with (first | (gi_at_call 92; refine (CallsIn.inRound l (hO.calls HCALL.out)).mono ?_; rintro e W2 ⟨rfl, hb2⟩; have HB2 := Lib.hid hb2; have hs2 := hb2.size; clear hb2; have HEB2 := Lib.hid (HEN.out.step hgB (Moved.of_below HB2.out (Nat.le_of_lt hgW))); have HWAY2 := Lib.hid (HWAY.out.below HB2.out); have b3c : W2.cell? ⟨B + 1 + 1, 0, none⟩ = some (.int .i64 0) := cell_in HEB2.out.b3 rfl; have b3f : W2.frozen? ⟨B + 1 + 1, 0, none⟩ = false := box_frozen HEB2.out.b3; have HEB3 := Lib.hid (show EndB g B last 0 w (W2.setCell ⟨B + 1 + 1, 0, none⟩ (.int .i64 0)) from HEB2.out.setErr hgB hwB 0); have HWAY3 := Lib.hid (show WayAt n₀ g (.slice a L.length cap, .int .i64 m, .int .i64 b) (W2.setCell ⟨B + 1 + 1, 0, none⟩ (.int .i64 0)) p N.reverse k from way_far HWAY2.out HEB2.out.b3 (by omega) (by decide)); have d1 : (W2.setCell ⟨B + 1 + 1, 0, none⟩ (.int .i64 0)).cell? ⟨B, 0, none⟩ = some (.pointer (some ⟨g, 0, none⟩)) := cell_in HEB3.out.b1 rfl; (obtain ⟨d2, d3, d4, -, -, -⟩ := way_cells HWAY3.out); have d5 : (W2.setCell ⟨B + 1 + 1, 0, none⟩ (.int .i64 0)).cell? ⟨B + 1 + 1, 0, none⟩ = some (.int .i64 0) := cell_in HEB3.out.b3 rfl; have HNW3 := Lib.hid (show NodesIn (W2.setCell ⟨B + 1 + 1, 0, none⟩ (.int .i64 0)) a cap L from HN.out.below (HB0.out.trans (HEB3.out.moved.below.mono hw0))); have hs3 : (W2.setCell ⟨B + 1 + 1, 0, none⟩ (.int .i64 0)).heap.size = W2.heap.size := set_sizeW W2 _ _) | (gi_at_call 68; refine (CallsIn.inRound l (hO.calls (kind_known a cap m b (u : Int) L L[u].kind HKL.out _ HNW3.out))).mono ?_; rintro e W4 ⟨rfl, hb4⟩; have HB4 := Lib.hid hb4; have hs5 := hb4.size; clear hb4 d1 d2 d3 d4 d5 b3c b3f; have hg3 : g < (W2.setCell ⟨B + 1 + 1, 0, none⟩ (.int .i64 0)).heap.size := HWAY3.out.lt; have HEB4 := Lib.hid (HEB3.out.step hgB (Moved.of_below HB4.out (Nat.le_of_lt hg3))); have HWAY4 := Lib.hid (HWAY3.out.below HB4.out); have e1 : W4.cell? ⟨B, 0, none⟩ = some (.pointer (some ⟨g, 0, none⟩)) := cell_in HEB4.out.b1 rfl; have e2 : W4.cell? ⟨B + 1, 0, none⟩ = some (.bool last) := cell_in HEB4.out.b2 rfl; have e3 : W4.cell? ⟨B + 1 + 1, 0, none⟩ = some (.int .i64 0) := cell_in HEB4.out.b3 rfl; have e4 : W4.frozen? ⟨B + 1 + 1, 0, none⟩ = false := box_frozen HEB4.out.b3; have f3 := way_frozen HWAY4.out 3; have f5 := way_frozen HWAY4.out 5; (obtain ⟨c0, c1, c2, c3, ⟨v4, c4, hv4⟩, c5⟩ := way_cells HWAY4.out); (obtain ⟨va, vc, rfl, -, -, -⟩ := hv4.view); have HKO := Lib.hid ((ko_below HB2.out).trans ((KeepsOthers.setCell W2 ⟨B + 1 + 1, 0, none⟩ (.int .i64 0)).trans (ko_below HB4.out))); have HNW4 := Lib.hid (HNW3.out.below HB4.out); clear hv4; simp only [List.length_reverse] at c4; (have e5 := e2); rw [HLL.out] at e5; rw [HLN.out, List.length_nil] at c4; clear e2) | fail)
          exact ⟨(HKO.out.trans (KeepsOthers.setCell W4 _ _)).from _, ⟨x, N, (u : Int), k⟩, Nat.le_refl _, way_set3 HWAY4.out u, ⟨HEB4.out.step hgB (Moved.set W4 3 _), by rw [set_sizeW]; exact Nat.le_trans HSZ.out HKO.out.size⟩, hk, by show N.length ≤ 5000 + k * 2000; omega, HGO.out⟩
        · have HNL := Lib.hid (show ¬ ((nodeAt L (u : Int)).kind ≠ 3 ∨ (N = [] ∧ last = false)) from fun h => by
            rcases h with h | h
            · exact h (by rw [HND.out]; exact hk3')
            · exact hlast h)
          have hcase : (N = [] ∧ last = true) ∨ ((N.length : Int) == 0) = false := by
            by_cases hr0 : N = []
            · subst hr0
              cases last with
              | true => exact Or.inl ⟨rfl, rfl⟩
              | false => exact absurd ⟨rfl, rfl⟩ hlast
            · refine Or.inr ?_
              rw [beq_eq_false_iff_ne]
              exact fun e => hr0 (List.length_eq_zero_iff.1 (by omega))
          clear hlast
          by_cases hk8 : k = 8
          · have HK8 := Lib.hid (show (k : Int) = 8 by omega)
            have HW := Lib.hid (show R = (0, 40) by rw [HRW.out, show 8 - k = 0 by omega]; exact wayW_loop _ _ _ _ _ _ HST.out HNL.out)
            rcases hcase with ⟨hln, hll⟩ | hrl
            rotate_left
            · gi_wp2_with (first | (gi_at_call 92; refine (CallsIn.inRound l (hO.calls HCALL.out)).mono ?_; rintro e W2 ⟨rfl, hb2⟩; have HB2 := Lib.hid hb2; have hs2 := hb2.size; clear hb2; have HEB2 := Lib.hid (HEN.out.step hgB (Moved.of_below HB2.out (Nat.le_of_lt hgW))); have HWAY2 := Lib.hid (HWAY.out.below HB2.out); have b3c : W2.cell? ⟨B + 1 + 1, 0, none⟩ = some (.int .i64 0) := cell_in HEB2.out.b3 rfl; have b3f : W2.frozen? ⟨B + 1 + 1, 0, none⟩ = false := box_frozen HEB2.out.b3; have HEB3 := Lib.hid (show EndB g B last 0 w (W2.setCell ⟨B + 1 + 1, 0, none⟩ (.int .i64 0)) from HEB2.out.setErr hgB hwB 0); have HWAY3 := Lib.hid (show WayAt n₀ g (.slice a L.length cap, .int .i64 m, .int .i64 b) (W2.setCell ⟨B + 1 + 1, 0, none⟩ (.int .i64 0)) p N.reverse k from way_far HWAY2.out HEB2.out.b3 (by omega) (by decide)); have d1 : (W2.setCell ⟨B + 1 + 1, 0, none⟩ (.int .i64 0)).cell? ⟨B, 0, none⟩ = some (.pointer (some ⟨g, 0, none⟩)) := cell_in HEB3.out.b1 rfl; (obtain ⟨d2, d3, d4, -, -, -⟩ := way_cells HWAY3.out); have d5 : (W2.setCell ⟨B + 1 + 1, 0, none⟩ (.int .i64 0)).cell? ⟨B + 1 + 1, 0, none⟩ = some (.int .i64 0) := cell_in HEB3.out.b3 rfl; have HNW3 := Lib.hid (show NodesIn (W2.setCell ⟨B + 1 + 1, 0, none⟩ (.int .i64 0)) a cap L from HN.out.below (HB0.out.trans (HEB3.out.moved.below.mono hw0))); have hs3 : (W2.setCell ⟨B + 1 + 1, 0, none⟩ (.int .i64 0)).heap.size = W2.heap.size := set_sizeW W2 _ _) | (gi_at_call 68; refine (CallsIn.inRound l (hO.calls (kind_known a cap m b (u : Int) L L[u].kind HKL.out _ HNW3.out))).mono ?_; rintro e W4 ⟨rfl, hb4⟩; have HB4 := Lib.hid hb4; have hs5 := hb4.size; clear hb4 d1 d2 d3 d4 d5 b3c b3f; have hg3 : g < (W2.setCell ⟨B + 1 + 1, 0, none⟩ (.int .i64 0)).heap.size := HWAY3.out.lt; have HEB4 := Lib.hid (HEB3.out.step hgB (Moved.of_below HB4.out (Nat.le_of_lt hg3))); have HWAY4 := Lib.hid (HWAY3.out.below HB4.out); have e1 : W4.cell? ⟨B, 0, none⟩ = some (.pointer (some ⟨g, 0, none⟩)) := cell_in HEB4.out.b1 rfl; have e2 : W4.cell? ⟨B + 1, 0, none⟩ = some (.bool last) := cell_in HEB4.out.b2 rfl; have e3 : W4.cell? ⟨B + 1 + 1, 0, none⟩ = some (.int .i64 0) := cell_in HEB4.out.b3 rfl; have e4 : W4.frozen? ⟨B + 1 + 1, 0, none⟩ = false := box_frozen HEB4.out.b3; have f3 := way_frozen HWAY4.out 3; have f5 := way_frozen HWAY4.out 5; (obtain ⟨c0, c1, c2, c3, ⟨v4, c4, hv4⟩, c5⟩ := way_cells HWAY4.out); (obtain ⟨va, vc, rfl, -, -, -⟩ := hv4.view); have HKO := Lib.hid ((ko_below HB2.out).trans ((KeepsOthers.setCell W2 ⟨B + 1 + 1, 0, none⟩ (.int .i64 0)).trans (ko_below HB4.out))); have HNW4 := Lib.hid (HNW3.out.below HB4.out); clear hv4; simp only [List.length_reverse] at c4; rw [HK8.out] at c5) | fail)
              exact ⟨(HKO.out.trans (KeepsOthers.setCell W4 _ _)).from _, rfl, ⟨p, k, _, way_far HWAY4.out HEB4.out.b3 (by omega) (by decide)⟩, by rw [HW.out]; exact HEB4.out.setErr hgB hwB 40, by rw [HW.out]; decide⟩
            · have HLN := Lib.hid hln
              have HLL := Lib.hid hll
              clear hln hll
              gi_wp2_with (first | (gi_at_call 92; refine (CallsIn.inRound l (hO.calls HCALL.out)).mono ?_; rintro e W2 ⟨rfl, hb2⟩; have HB2 := Lib.hid hb2; have hs2 := hb2.size; clear hb2; have HEB2 := Lib.hid (HEN.out.step hgB (Moved.of_below HB2.out (Nat.le_of_lt hgW))); have HWAY2 := Lib.hid (HWAY.out.below HB2.out); have b3c : W2.cell? ⟨B + 1 + 1, 0, none⟩ = some (.int .i64 0) := cell_in HEB2.out.b3 rfl; have b3f : W2.frozen? ⟨B + 1 + 1, 0, none⟩ = false := box_frozen HEB2.out.b3; have HEB3 := Lib.hid (show EndB g B last 0 w (W2.setCell ⟨B + 1 + 1, 0, none⟩ (.int .i64 0)) from HEB2.out.setErr hgB hwB 0); have HWAY3 := Lib.hid (show WayAt n₀ g (.slice a L.length cap, .int .i64 m, .int .i64 b) (W2.setCell ⟨B + 1 + 1, 0, none⟩ (.int .i64 0)) p N.reverse k from way_far HWAY2.out HEB2.out.b3 (by omega) (by decide)); have d1 : (W2.setCell ⟨B + 1 + 1, 0, none⟩ (.int .i64 0)).cell? ⟨B, 0, none⟩ = some (.pointer (some ⟨g, 0, none⟩)) := cell_in HEB3.out.b1 rfl; (obtain ⟨d2, d3, d4, -, -, -⟩ := way_cells HWAY3.out); have d5 : (W2.setCell ⟨B + 1 + 1, 0, none⟩ (.int .i64 0)).cell? ⟨B + 1 + 1, 0, none⟩ = some (.int .i64 0) := cell_in HEB3.out.b3 rfl; have HNW3 := Lib.hid (show NodesIn (W2.setCell ⟨B + 1 + 1, 0, none⟩ (.int .i64 0)) a cap L from HN.out.below (HB0.out.trans (HEB3.out.moved.below.mono hw0))); have hs3 : (W2.setCell ⟨B + 1 + 1, 0, none⟩ (.int .i64 0)).heap.size = W2.heap.size := set_sizeW W2 _ _) | (gi_at_call 68; refine (CallsIn.inRound l (hO.calls (kind_known a cap m b (u : Int) L L[u].kind HKL.out _ HNW3.out))).mono ?_; rintro e W4 ⟨rfl, hb4⟩; have HB4 := Lib.hid hb4; have hs5 := hb4.size; clear hb4 d1 d2 d3 d4 d5 b3c b3f; have hg3 : g < (W2.setCell ⟨B + 1 + 1, 0, none⟩ (.int .i64 0)).heap.size := HWAY3.out.lt; have HEB4 := Lib.hid (HEB3.out.step hgB (Moved.of_below HB4.out (Nat.le_of_lt hg3))); have HWAY4 := Lib.hid (HWAY3.out.below HB4.out); have e1 : W4.cell? ⟨B, 0, none⟩ = some (.pointer (some ⟨g, 0, none⟩)) := cell_in HEB4.out.b1 rfl; have e2 : W4.cell? ⟨B + 1, 0, none⟩ = some (.bool last) := cell_in HEB4.out.b2 rfl; have e3 : W4.cell? ⟨B + 1 + 1, 0, none⟩ = some (.int .i64 0) := cell_in HEB4.out.b3 rfl; have e4 : W4.frozen? ⟨B + 1 + 1, 0, none⟩ = false := box_frozen HEB4.out.b3; have f3 := way_frozen HWAY4.out 3; have f5 := way_frozen HWAY4.out 5; (obtain ⟨c0, c1, c2, c3, ⟨v4, c4, hv4⟩, c5⟩ := way_cells HWAY4.out); (obtain ⟨va, vc, rfl, -, -, -⟩ := hv4.view); have HKO := Lib.hid ((ko_below HB2.out).trans ((KeepsOthers.setCell W2 ⟨B + 1 + 1, 0, none⟩ (.int .i64 0)).trans (ko_below HB4.out))); have HNW4 := Lib.hid (HNW3.out.below HB4.out); clear hv4; simp only [List.length_reverse] at c4; (have e5 := e2); rw [HLL.out] at e5; rw [HLN.out, List.length_nil] at c4; clear e2; rw [HK8.out] at c5) | fail)
              exact ⟨(HKO.out.trans (KeepsOthers.setCell W4 _ _)).from _, rfl, ⟨p, k, _, way_far HWAY4.out HEB4.out.b3 (by omega) (by decide)⟩, by rw [HW.out]; exact HEB4.out.setErr hgB hwB 40, by rw [HW.out]; decide⟩
          · obtain ⟨hd1024, -⟩ := link_data HF.out.ins (there_of L u hul) (by rw [HND.out]; exact hk3')
            rw [HND.out] at hd1024
            obtain ⟨d, hde⟩ : ∃ d, d = L[u].data := ⟨_, rfl⟩
            rw [← hde] at hd1024
            have HDE := Lib.hid (show (nodeAt L (u : Int)).data = d by rw [HND.out, hde])
            have HDD := Lib.hid hde
            have hk7 : ((k : Int) == 8) = false := by rw [beq_eq_false_iff_ne]; omega
            have HP := Lib.hid (show (partsL d).length ≤ 1025 by have := count_parts d; omega)
            have HGO := Lib.hid (show R = wayW L last (8 - (k + 1)) (partsL d ++ N) (if wholeL d then 0 else p) by
              rw [HRW.out, show 8 - k = (8 - (k + 1)) + 1 by omega, wayW_link _ _ _ _ _ _ _ HST.out HNL.out, HDE.out])
            clear hde
            rcases hcase with ⟨hln, hll⟩ | hrl
            · have HLN := Lib.hid hln
              have HLL := Lib.hid hll
              clear hln hll
              gi_wp2_with (first | (gi_at_call 92; refine (CallsIn.inRound l (hO.calls HCALL.out)).mono ?_; rintro e W2 ⟨rfl, hb2⟩; have HB2 := Lib.hid hb2; have hs2 := hb2.size; clear hb2; have HEB2 := Lib.hid (HEN.out.step hgB (Moved.of_below HB2.out (Nat.le_of_lt hgW))); have HWAY2 := Lib.hid (HWAY.out.below HB2.out); have b3c : W2.cell? ⟨B + 1 + 1, 0, none⟩ = some (.int .i64 0) := cell_in HEB2.out.b3 rfl; have b3f : W2.frozen? ⟨B + 1 + 1, 0, none⟩ = false := box_frozen HEB2.out.b3; have HEB3 := Lib.hid (show EndB g B last 0 w (W2.setCell ⟨B + 1 + 1, 0, none⟩ (.int .i64 0)) from HEB2.out.setErr hgB hwB 0); have HWAY3 := Lib.hid (show WayAt n₀ g (.slice a L.length cap, .int .i64 m, .int .i64 b) (W2.setCell ⟨B + 1 + 1, 0, none⟩ (.int .i64 0)) p N.reverse k from way_far HWAY2.out HEB2.out.b3 (by omega) (by decide)); have d1 : (W2.setCell ⟨B + 1 + 1, 0, none⟩ (.int .i64 0)).cell? ⟨B, 0, none⟩ = some (.pointer (some ⟨g, 0, none⟩)) := cell_in HEB3.out.b1 rfl; (obtain ⟨d2, d3, d4, -, -, -⟩ := way_cells HWAY3.out); have d5 : (W2.setCell ⟨B + 1 + 1, 0, none⟩ (.int .i64 0)).cell? ⟨B + 1 + 1, 0, none⟩ = some (.int .i64 0) := cell_in HEB3.out.b3 rfl; have HNW3 := Lib.hid (show NodesIn (W2.setCell ⟨B + 1 + 1, 0, none⟩ (.int .i64 0)) a cap L from HN.out.below (HB0.out.trans (HEB3.out.moved.below.mono hw0))); have hs3 : (W2.setCell ⟨B + 1 + 1, 0, none⟩ (.int .i64 0)).heap.size = W2.heap.size := set_sizeW W2 _ _) | (gi_at_call 68; refine (CallsIn.inRound l (hO.calls (kind_known a cap m b (u : Int) L L[u].kind HKL.out _ HNW3.out))).mono ?_; rintro e W4 ⟨rfl, hb4⟩; have HB4 := Lib.hid hb4; have hs5 := hb4.size; clear hb4 d1 d2 d3 d4 d5 b3c b3f; have hg3 : g < (W2.setCell ⟨B + 1 + 1, 0, none⟩ (.int .i64 0)).heap.size := HWAY3.out.lt; have HEB4 := Lib.hid (HEB3.out.step hgB (Moved.of_below HB4.out (Nat.le_of_lt hg3))); have HWAY4 := Lib.hid (HWAY3.out.below HB4.out); have e1 : W4.cell? ⟨B, 0, none⟩ = some (.pointer (some ⟨g, 0, none⟩)) := cell_in HEB4.out.b1 rfl; have e2 : W4.cell? ⟨B + 1, 0, none⟩ = some (.bool last) := cell_in HEB4.out.b2 rfl; have e3 : W4.cell? ⟨B + 1 + 1, 0, none⟩ = some (.int .i64 0) := cell_in HEB4.out.b3 rfl; have e4 : W4.frozen? ⟨B + 1 + 1, 0, none⟩ = false := box_frozen HEB4.out.b3; have f3 := way_frozen HWAY4.out 3; have f5 := way_frozen HWAY4.out 5; (obtain ⟨c0, c1, c2, c3, ⟨v4, c4, hv4⟩, c5⟩ := way_cells HWAY4.out); (obtain ⟨va, vc, rfl, -, -, -⟩ := hv4.view); have HKO := Lib.hid ((ko_below HB2.out).trans ((KeepsOthers.setCell W2 ⟨B + 1 + 1, 0, none⟩ (.int .i64 0)).trans (ko_below HB4.out))); have HNW4 := Lib.hid (HNW3.out.below HB4.out); clear hv4; simp only [List.length_reverse] at c4; (have e5 := e2); rw [HLL.out] at e5; rw [HLN.out, List.length_nil] at c4; clear e2) | fail)
              obtain ⟨X, hX⟩ : ∃ X, X = W4.setCell ⟨g, 5, none⟩ (.int .i64 ((k : Int) + 1)) := ⟨_, rfl⟩
              have HWX := Lib.hid (show WayAt n₀ g (.slice a L.length cap, .int .i64 m, .int .i64 b) X p N.reverse ((k : Int) + 1) by rw [hX]; exact way_set5 HWAY4.out _)
              have HEX := Lib.hid (show EndB g B last 0 w X by rw [hX]; exact HEB4.out.step hgB (Moved.set W4 5 _))
              have HKX := Lib.hid (show KeepsOthers W X by rw [hX]; exact HKO.out.trans (KeepsOthers.setCell W4 _ _))
              have HNX := Lib.hid (show NodesIn X a cap L from HN.out.below (HB0.out.trans (HEX.out.moved.below.mono hw0)))
              rw [← hX]
              clear hX e1 e3 e4 f3 f5 c0 c1 c2 c3 c4 c5
              have hgX := HWX.out.lt
              have hnX : n₀ ≤ X.heap.size := Nat.le_trans hn₀ HEX.out.moved.below.size
              obtain ⟨bb, o, hae, -⟩ := HNX.out.2.2 u hul
              subst hae
              have d0 : (0 : Int) ≤ (u : Int) := by omega
              have d1 : (u : Int) < (L.length : Int) := by omega
              have hHeld : X.drew.cell? ⟨B, 0, none⟩ = some (.pointer (some ⟨g, 0, none⟩)) ∧ X.drew.cell? ⟨g, 0, none⟩ = some (.slice (some ⟨bb, o, none⟩) L.length cap) ∧ NodesIn X.drew (some ⟨bb, o, none⟩) cap L := ⟨cell_in HEX.out.b1 rfl, (way_cells HWX.out).1, HNX.out.below ⟨rfl, rfl, rfl, Nat.le_refl _, fun _ _ => rfl⟩⟩
              refine region_in_held (S := fun W' => W'.cell? ⟨B, 0, none⟩ = some (.pointer (some ⟨g, 0, none⟩)) ∧ W'.cell? ⟨g, 0, none⟩ = some (.slice (some ⟨bb, o, none⟩) L.length cap) ∧ NodesIn W' (some ⟨bb, o, none⟩) cap L) (by kernel_rfl) (by kernel_rfl) ?_
              refine wpAnyH_take (i := 0) (v := ?_) rfl (by kernel_rfl) (by kernel_rfl) (by kernel_rfl) (fun _ _ _ h => nomatch h.1) (Or.inl ⟨by rfl, ?hyp0⟩) hHeld ?restp0
              case hyp0 => intro W' hSw; (obtain ⟨q0, q1, q2⟩ := hSw); (obtain ⟨b', o', eb, hq⟩ := q2.2.2 u hul); cases eb; (have q3 := hq.data); rw [← HDD.out] at q3; clear q2 hq; go_simp <;> with_reducible rfl
              try simp only [Act.put, List.setIfInBounds_toArray]
              refine wpAnyH_take (i := 1) (v := ?_) rfl (by kernel_rfl) (by kernel_rfl) (by kernel_rfl) (fun _ _ _ h => nomatch h.1) (Or.inl ⟨by rfl, ?hyp1⟩) hHeld ?restp1
              case hyp1 => intro W' hSw; (obtain ⟨q0, q1, q2⟩ := hSw); (obtain ⟨b', o', eb, hq⟩ := q2.2.2 u hul); cases eb; (have q3 := hq.data); rw [← HDD.out] at q3; clear q2 hq; go_simp <;> with_reducible rfl
              try simp only [Act.put]
              refine wpAnyH_take (i := 2) (v := ?_) rfl (by kernel_rfl) (by kernel_rfl) (by kernel_rfl) (fun _ _ _ h => nomatch h.1) (Or.inl ⟨by rfl, ?hyp2⟩) hHeld ?restp2
              case hyp2 => intro W' hSw; (obtain ⟨q0, q1, q2⟩ := hSw); (obtain ⟨b', o', eb, hq⟩ := q2.2.2 u hul); cases eb; (have q3 := hq.data); rw [← HDD.out] at q3; clear q2 hq; go_simp <;> with_reducible rfl
              try simp only [Act.put]
              refine wpAnyH_take (i := 3) (v := ?_) rfl (by kernel_rfl) (by kernel_rfl) (by kernel_rfl) (fun _ _ _ h => nomatch h.1) (Or.inl ⟨by rfl, ?hyp3⟩) hHeld ?restp3
              case hyp3 => intro W' hSw; (obtain ⟨q0, q1, q2⟩ := hSw); (obtain ⟨b', o', eb, hq⟩ := q2.2.2 u hul); cases eb; (have q3 := hq.data); rw [← HDD.out] at q3; clear q2 hq; go_simp <;> with_reducible rfl
              try simp only [Act.put]
              refine wpAnyH_take (i := 4) (v := ?_) rfl (by kernel_rfl) (by kernel_rfl) (by kernel_rfl) (fun _ _ _ h => nomatch h.1) (Or.inl ⟨by rfl, ?hyp4⟩) hHeld ?restp4
              case hyp4 => intro W' hSw; (obtain ⟨q0, q1, q2⟩ := hSw); (obtain ⟨b', o', eb, hq⟩ := q2.2.2 u hul); cases eb; (have q3 := hq.data); rw [← HDD.out] at q3; clear q2 hq; go_simp <;> with_reducible rfl
              try simp only [Act.put]
              refine wpAnyH_take (i := 5) (v := ?_) rfl (by kernel_rfl) (by kernel_rfl) (by kernel_rfl) (fun _ _ _ h => nomatch h.1) (Or.inl ⟨by rfl, ?hyp5⟩) hHeld ?restp5
              case hyp5 => intro W' hSw; (obtain ⟨q0, q1, q2⟩ := hSw); (obtain ⟨b', o', eb, hq⟩ := q2.2.2 u hul); cases eb; (have q3 := hq.data); rw [← HDD.out] at q3; clear q2 hq; go_simp <;> with_reducible rfl
              try simp only [Act.put]
              refine wpAnyH_take (i := 6) (v := ?_) rfl (by kernel_rfl) (by kernel_rfl) (by kernel_rfl) (fun _ _ _ h => nomatch h.1) (Or.inl ⟨by rfl, ?hyp6⟩) hHeld ?restp6
              case hyp6 => intro W' hSw; (obtain ⟨q0, q1, q2⟩ := hSw); (obtain ⟨b', o', eb, hq⟩ := q2.2.2 u hul); cases eb; (have q3 := hq.data); rw [← HDD.out] at q3; clear q2 hq; go_simp <;> with_reducible rfl
              try simp only [Act.put]
              refine wpAnyH_take (i := 7) (v := ?_) rfl (by kernel_rfl) (by kernel_rfl) (by kernel_rfl) (fun _ _ _ h => nomatch h.1) (Or.inl ⟨by rfl, ?hyp7⟩) hHeld ?restp7
              case hyp7 => intro W' hSw; (obtain ⟨q0, q1, q2⟩ := hSw); (obtain ⟨b', o', eb, hq⟩ := q2.2.2 u hul); cases eb; (have q3 := hq.data); rw [← HDD.out] at q3; clear q2 hq; go_simp <;> with_reducible rfl
              try simp only [Act.put]
              refine wpAnyH_take (i := 8) (v := ?_) rfl (by kernel_rfl) (by kernel_rfl) (by kernel_rfl) (fun _ _ _ h => nomatch h.1) (Or.inl ⟨by rfl, ?hyp8⟩) hHeld ?restp8
              case hyp8 => intro W' hSw; (obtain ⟨q0, q1, q2⟩ := hSw); (obtain ⟨b', o', eb, hq⟩ := q2.2.2 u hul); cases eb; (have q3 := hq.data); rw [← HDD.out] at q3; clear q2 hq; go_simp <;> with_reducible rfl
              try simp only [Act.put]
              refine wpAnyH_take (i := 9) (v := ?_) rfl (by kernel_rfl) (by kernel_rfl) (by kernel_rfl) (fun _ _ _ h => nomatch h.1) (Or.inl ⟨by rfl, ?hyp9⟩) hHeld ?restp9
              case hyp9 => intro W' hSw; (obtain ⟨q0, q1, q2⟩ := hSw); (obtain ⟨b', o', eb, hq⟩ := q2.2.2 u hul); cases eb; (have q3 := hq.data); rw [← HDD.out] at q3; clear q2 hq; go_simp <;> with_reducible rfl
              try simp only [Act.put]
              refine wpAnyH_ready (rs := [10]) (by kernel_rfl) (by simp) ?_
              refine AllReadyH.cons rfl (fun K hK => ?_) AllReadyH.nil
              go_simp
              refine (lenter_any n₀ g (.slice (some ⟨bb, o, none⟩) L.length cap, .int .i64 m, .int .i64 b) p ((k : Int) + 1) N.reverse d (by omega) (by rw [List.length_reverse]; omega) X.drew hnX HWX.out.drew).mono ?_
              rintro e W5 ⟨⟨ue, rfl⟩, hwy, hmv⟩
              have hmX : Moved g X W5 := ⟨⟨hmv.below.1, hmv.below.2, hmv.below.3, hmv.below.4, hmv.below.5⟩, hmv.kept⟩
              have HEY := HEX.out.step hgB hmX
              refine hK.out _ _ ⟨cell_in HEY.b1 rfl, (way_cells hwy).1, HN.out.below (HB0.out.trans (HEY.moved.below.mono hw0))⟩ (fun _ => ?_)
              clear hK K
              refine wpAnyH_done (by kernel_rfl) ⟨rfl, ?_⟩ _
              obtain ⟨c, tt, fr, hgc⟩ : ∃ c tt fr, X.heap[g]? = some (.cells c tt fr) := (by obtain ⟨_, v, h1, -⟩ := HWX.out; exact ⟨_, _, _, h1⟩)
              refine ⟨(HKX.out.trans (ko_moved hgc hmX)).from _, ⟨x, partsL d ++ N, if wholeL d then 0 else p, k + 1⟩, ?_, ?_, ⟨HEY, Nat.le_trans HSZ.out (Nat.le_trans HKX.out.size hmX.below.size)⟩, ?_, ?_, HGO.out⟩
              · show (8 - (k + 1)) * 30000 + (partsL d ++ N).length ≤ (8 - k) * 30000 + N.length
                rw [List.length_append]
                have := HP.out
                omega
              · show WayAt _ _ _ _ _ (partsL d ++ N).reverse ((k + 1 : Nat) : Int)
                rw [List.reverse_append]
                exact hwy
              · show k + 1 ≤ 8
                omega
              · show (partsL d ++ N).length ≤ 5000 + (k + 1) * 2000
                rw [List.length_append]
                have := HP.out
                omega
            · gi_wp2_with (first | (gi_at_call 92; refine (CallsIn.inRound l (hO.calls HCALL.out)).mono ?_; rintro e W2 ⟨rfl, hb2⟩; have HB2 := Lib.hid hb2; have hs2 := hb2.size; clear hb2; have HEB2 := Lib.hid (HEN.out.step hgB (Moved.of_below HB2.out (Nat.le_of_lt hgW))); have HWAY2 := Lib.hid (HWAY.out.below HB2.out); have b3c : W2.cell? ⟨B + 1 + 1, 0, none⟩ = some (.int .i64 0) := cell_in HEB2.out.b3 rfl; have b3f : W2.frozen? ⟨B + 1 + 1, 0, none⟩ = false := box_frozen HEB2.out.b3; have HEB3 := Lib.hid (show EndB g B last 0 w (W2.setCell ⟨B + 1 + 1, 0, none⟩ (.int .i64 0)) from HEB2.out.setErr hgB hwB 0); have HWAY3 := Lib.hid (show WayAt n₀ g (.slice a L.length cap, .int .i64 m, .int .i64 b) (W2.setCell ⟨B + 1 + 1, 0, none⟩ (.int .i64 0)) p N.reverse k from way_far HWAY2.out HEB2.out.b3 (by omega) (by decide)); have d1 : (W2.setCell ⟨B + 1 + 1, 0, none⟩ (.int .i64 0)).cell? ⟨B, 0, none⟩ = some (.pointer (some ⟨g, 0, none⟩)) := cell_in HEB3.out.b1 rfl; (obtain ⟨d2, d3, d4, -, -, -⟩ := way_cells HWAY3.out); have d5 : (W2.setCell ⟨B + 1 + 1, 0, none⟩ (.int .i64 0)).cell? ⟨B + 1 + 1, 0, none⟩ = some (.int .i64 0) := cell_in HEB3.out.b3 rfl; have HNW3 := Lib.hid (show NodesIn (W2.setCell ⟨B + 1 + 1, 0, none⟩ (.int .i64 0)) a cap L from HN.out.below (HB0.out.trans (HEB3.out.moved.below.mono hw0))); have hs3 : (W2.setCell ⟨B + 1 + 1, 0, none⟩ (.int .i64 0)).heap.size = W2.heap.size := set_sizeW W2 _ _) | (gi_at_call 68; refine (CallsIn.inRound l (hO.calls (kind_known a cap m b (u : Int) L L[u].kind HKL.out _ HNW3.out))).mono ?_; rintro e W4 ⟨rfl, hb4⟩; have HB4 := Lib.hid hb4; have hs5 := hb4.size; clear hb4 d1 d2 d3 d4 d5 b3c b3f; have hg3 : g < (W2.setCell ⟨B + 1 + 1, 0, none⟩ (.int .i64 0)).heap.size := HWAY3.out.lt; have HEB4 := Lib.hid (HEB3.out.step hgB (Moved.of_below HB4.out (Nat.le_of_lt hg3))); have HWAY4 := Lib.hid (HWAY3.out.below HB4.out); have e1 : W4.cell? ⟨B, 0, none⟩ = some (.pointer (some ⟨g, 0, none⟩)) := cell_in HEB4.out.b1 rfl; have e2 : W4.cell? ⟨B + 1, 0, none⟩ = some (.bool last) := cell_in HEB4.out.b2 rfl; have e3 : W4.cell? ⟨B + 1 + 1, 0, none⟩ = some (.int .i64 0) := cell_in HEB4.out.b3 rfl; have e4 : W4.frozen? ⟨B + 1 + 1, 0, none⟩ = false := box_frozen HEB4.out.b3; have f3 := way_frozen HWAY4.out 3; have f5 := way_frozen HWAY4.out 5; (obtain ⟨c0, c1, c2, c3, ⟨v4, c4, hv4⟩, c5⟩ := way_cells HWAY4.out); (obtain ⟨va, vc, rfl, -, -, -⟩ := hv4.view); have HKO := Lib.hid ((ko_below HB2.out).trans ((KeepsOthers.setCell W2 ⟨B + 1 + 1, 0, none⟩ (.int .i64 0)).trans (ko_below HB4.out))); have HNW4 := Lib.hid (HNW3.out.below HB4.out); clear hv4; simp only [List.length_reverse] at c4) | fail)
              obtain ⟨X, hX⟩ : ∃ X, X = W4.setCell ⟨g, 5, none⟩ (.int .i64 ((k : Int) + 1)) := ⟨_, rfl⟩
              have HWX := Lib.hid (show WayAt n₀ g (.slice a L.length cap, .int .i64 m, .int .i64 b) X p N.reverse ((k : Int) + 1) by rw [hX]; exact way_set5 HWAY4.out _)
              have HEX := Lib.hid (show EndB g B last 0 w X by rw [hX]; exact HEB4.out.step hgB (Moved.set W4 5 _))
              have HKX := Lib.hid (show KeepsOthers W X by rw [hX]; exact HKO.out.trans (KeepsOthers.setCell W4 _ _))
              have HNX := Lib.hid (show NodesIn X a cap L from HN.out.below (HB0.out.trans (HEX.out.moved.below.mono hw0)))
              rw [← hX]
              clear hX e1 e3 e4 f3 f5 c0 c1 c2 c3 c4 c5
              have hgX := HWX.out.lt
              have hnX : n₀ ≤ X.heap.size := Nat.le_trans hn₀ HEX.out.moved.below.size
              obtain ⟨bb, o, hae, -⟩ := HNX.out.2.2 u hul
              subst hae
              have d0 : (0 : Int) ≤ (u : Int) := by omega
              have d1 : (u : Int) < (L.length : Int) := by omega
              have hHeld : X.drew.cell? ⟨B, 0, none⟩ = some (.pointer (some ⟨g, 0, none⟩)) ∧ X.drew.cell? ⟨g, 0, none⟩ = some (.slice (some ⟨bb, o, none⟩) L.length cap) ∧ NodesIn X.drew (some ⟨bb, o, none⟩) cap L := ⟨cell_in HEX.out.b1 rfl, (way_cells HWX.out).1, HNX.out.below ⟨rfl, rfl, rfl, Nat.le_refl _, fun _ _ => rfl⟩⟩
              refine region_in_held (S := fun W' => W'.cell? ⟨B, 0, none⟩ = some (.pointer (some ⟨g, 0, none⟩)) ∧ W'.cell? ⟨g, 0, none⟩ = some (.slice (some ⟨bb, o, none⟩) L.length cap) ∧ NodesIn W' (some ⟨bb, o, none⟩) cap L) (by kernel_rfl) (by kernel_rfl) ?_
              refine wpAnyH_take (i := 0) (v := ?_) rfl (by kernel_rfl) (by kernel_rfl) (by kernel_rfl) (fun _ _ _ h => nomatch h.1) (Or.inl ⟨by rfl, ?hyq0⟩) hHeld ?restq0
              case hyq0 => intro W' hSw; (obtain ⟨q0, q1, q2⟩ := hSw); (obtain ⟨b', o', eb, hq⟩ := q2.2.2 u hul); cases eb; (have q3 := hq.data); rw [← HDD.out] at q3; clear q2 hq; go_simp <;> with_reducible rfl
              try simp only [Act.put, List.setIfInBounds_toArray]
              refine wpAnyH_take (i := 1) (v := ?_) rfl (by kernel_rfl) (by kernel_rfl) (by kernel_rfl) (fun _ _ _ h => nomatch h.1) (Or.inl ⟨by rfl, ?hyq1⟩) hHeld ?restq1
              case hyq1 => intro W' hSw; (obtain ⟨q0, q1, q2⟩ := hSw); (obtain ⟨b', o', eb, hq⟩ := q2.2.2 u hul); cases eb; (have q3 := hq.data); rw [← HDD.out] at q3; clear q2 hq; go_simp <;> with_reducible rfl
              try simp only [Act.put]
              refine wpAnyH_take (i := 2) (v := ?_) rfl (by kernel_rfl) (by kernel_rfl) (by kernel_rfl) (fun _ _ _ h => nomatch h.1) (Or.inl ⟨by rfl, ?hyq2⟩) hHeld ?restq2
              case hyq2 => intro W' hSw; (obtain ⟨q0, q1, q2⟩ := hSw); (obtain ⟨b', o', eb, hq⟩ := q2.2.2 u hul); cases eb; (have q3 := hq.data); rw [← HDD.out] at q3; clear q2 hq; go_simp <;> with_reducible rfl
              try simp only [Act.put]
              refine wpAnyH_take (i := 3) (v := ?_) rfl (by kernel_rfl) (by kernel_rfl) (by kernel_rfl) (fun _ _ _ h => nomatch h.1) (Or.inl ⟨by rfl, ?hyq3⟩) hHeld ?restq3
              case hyq3 => intro W' hSw; (obtain ⟨q0, q1, q2⟩ := hSw); (obtain ⟨b', o', eb, hq⟩ := q2.2.2 u hul); cases eb; (have q3 := hq.data); rw [← HDD.out] at q3; clear q2 hq; go_simp <;> with_reducible rfl
              try simp only [Act.put]
              refine wpAnyH_take (i := 4) (v := ?_) rfl (by kernel_rfl) (by kernel_rfl) (by kernel_rfl) (fun _ _ _ h => nomatch h.1) (Or.inl ⟨by rfl, ?hyq4⟩) hHeld ?restq4
              case hyq4 => intro W' hSw; (obtain ⟨q0, q1, q2⟩ := hSw); (obtain ⟨b', o', eb, hq⟩ := q2.2.2 u hul); cases eb; (have q3 := hq.data); rw [← HDD.out] at q3; clear q2 hq; go_simp <;> with_reducible rfl
              try simp only [Act.put]
              refine wpAnyH_take (i := 5) (v := ?_) rfl (by kernel_rfl) (by kernel_rfl) (by kernel_rfl) (fun _ _ _ h => nomatch h.1) (Or.inl ⟨by rfl, ?hyq5⟩) hHeld ?restq5
              case hyq5 => intro W' hSw; (obtain ⟨q0, q1, q2⟩ := hSw); (obtain ⟨b', o', eb, hq⟩ := q2.2.2 u hul); cases eb; (have q3 := hq.data); rw [← HDD.out] at q3; clear q2 hq; go_simp <;> with_reducible rfl
              try simp only [Act.put]
              refine wpAnyH_take (i := 6) (v := ?_) rfl (by kernel_rfl) (by kernel_rfl) (by kernel_rfl) (fun _ _ _ h => nomatch h.1) (Or.inl ⟨by rfl, ?hyq6⟩) hHeld ?restq6
              case hyq6 => intro W' hSw; (obtain ⟨q0, q1, q2⟩ := hSw); (obtain ⟨b', o', eb, hq⟩ := q2.2.2 u hul); cases eb; (have q3 := hq.data); rw [← HDD.out] at q3; clear q2 hq; go_simp <;> with_reducible rfl
              try simp only [Act.put]
              refine wpAnyH_take (i := 7) (v := ?_) rfl (by kernel_rfl) (by kernel_rfl) (by kernel_rfl) (fun _ _ _ h => nomatch h.1) (Or.inl ⟨by rfl, ?hyq7⟩) hHeld ?restq7
              case hyq7 => intro W' hSw; (obtain ⟨q0, q1, q2⟩ := hSw); (obtain ⟨b', o', eb, hq⟩ := q2.2.2 u hul); cases eb; (have q3 := hq.data); rw [← HDD.out] at q3; clear q2 hq; go_simp <;> with_reducible rfl
              try simp only [Act.put]
              refine wpAnyH_take (i := 8) (v := ?_) rfl (by kernel_rfl) (by kernel_rfl) (by kernel_rfl) (fun _ _ _ h => nomatch h.1) (Or.inl ⟨by rfl, ?hyq8⟩) hHeld ?restq8
              case hyq8 => intro W' hSw; (obtain ⟨q0, q1, q2⟩ := hSw); (obtain ⟨b', o', eb, hq⟩ := q2.2.2 u hul); cases eb; (have q3 := hq.data); rw [← HDD.out] at q3; clear q2 hq; go_simp <;> with_reducible rfl
              try simp only [Act.put]
              refine wpAnyH_take (i := 9) (v := ?_) rfl (by kernel_rfl) (by kernel_rfl) (by kernel_rfl) (fun _ _ _ h => nomatch h.1) (Or.inl ⟨by rfl, ?hyq9⟩) hHeld ?restq9
              case hyq9 => intro W' hSw; (obtain ⟨q0, q1, q2⟩ := hSw); (obtain ⟨b', o', eb, hq⟩ := q2.2.2 u hul); cases eb; (have q3 := hq.data); rw [← HDD.out] at q3; clear q2 hq; go_simp <;> with_reducible rfl
              try simp only [Act.put]
              refine wpAnyH_ready (rs := [10]) (by kernel_rfl) (by simp) ?_
              refine AllReadyH.cons rfl (fun K hK => ?_) AllReadyH.nil
              go_simp
              refine (lenter_any n₀ g (.slice (some ⟨bb, o, none⟩) L.length cap, .int .i64 m, .int .i64 b) p ((k : Int) + 1) N.reverse d (by omega) (by rw [List.length_reverse]; omega) X.drew hnX HWX.out.drew).mono ?_
              rintro e W5 ⟨⟨ue, rfl⟩, hwy, hmv⟩
              have hmX : Moved g X W5 := ⟨⟨hmv.below.1, hmv.below.2, hmv.below.3, hmv.below.4, hmv.below.5⟩, hmv.kept⟩
              have HEY := HEX.out.step hgB hmX
              refine hK.out _ _ ⟨cell_in HEY.b1 rfl, (way_cells hwy).1, HN.out.below (HB0.out.trans (HEY.moved.below.mono hw0))⟩ (fun _ => ?_)
              clear hK K
              refine wpAnyH_done (by kernel_rfl) ⟨rfl, ?_⟩ _
              obtain ⟨c, tt, fr, hgc⟩ : ∃ c tt fr, X.heap[g]? = some (.cells c tt fr) := (by obtain ⟨_, v, h1, -⟩ := HWX.out; exact ⟨_, _, _, h1⟩)
              refine ⟨(HKX.out.trans (ko_moved hgc hmX)).from _, ⟨x, partsL d ++ N, if wholeL d then 0 else p, k + 1⟩, ?_, ?_, ⟨HEY, Nat.le_trans HSZ.out (Nat.le_trans HKX.out.size hmX.below.size)⟩, ?_, ?_, HGO.out⟩
              · show (8 - (k + 1)) * 30000 + (partsL d ++ N).length ≤ (8 - k) * 30000 + N.length
                rw [List.length_append]
                have := HP.out
                omega
              · show WayAt _ _ _ _ _ (partsL d ++ N).reverse ((k + 1 : Nat) : Int)
                rw [List.reverse_append]
                exact hwy
              · show k + 1 ≤ 8
                omega
              · show (partsL d ++ N).length ≤ 5000 + (k + 1) * 2000
                rw [List.length_append]
                have := HP.out
                omega
  case done =>
    rintro D W hD ⟨⟨x', N', p', k'⟩, hN', hway, ⟨heb, hsz⟩, hgh⟩ hK
    simp only at hN' hway
    subst hN'
    obtain ⟨-, -, hRw⟩ := hgh
    have HR2 := Lib.hid (show R = (p', 0) by rw [hRw]; exact wayW_nil _ _ _ _)
    have HMD := Lib.hid (show Moved g w W.drew from ⟨⟨heb.moved.below.1, heb.moved.below.2, heb.moved.below.3, heb.moved.below.4, heb.moved.below.5⟩, heb.moved.kept⟩)
    have hw := HWIDE.out
    subst hw
    clear hRw
    gi_wp2
    refine region_in_held (ro := none) (S := fun W' => W'.cell? ⟨B, 0, none⟩ = some (.pointer (some ⟨g, 0, none⟩)) ∧ W'.cell? ⟨g, 3, none⟩ = some (.int .i64 p') ∧ W'.cell? ⟨B + 1 + 1, 0, none⟩ = some (.int .i64 0)) (by kernel_rfl) (by kernel_rfl) ?_
    have hHeld : W.drew.cell? ⟨B, 0, none⟩ = some (.pointer (some ⟨g, 0, none⟩)) ∧ W.drew.cell? ⟨g, 3, none⟩ = some (.int .i64 p') ∧ W.drew.cell? ⟨B + 1 + 1, 0, none⟩ = some (.int .i64 0) := ⟨cell_in heb.b1 rfl, (way_cells hway).2.2.2.1, cell_in heb.b3 rfl⟩
    refine wpAnyH_take (i := 0) (v := ?_) rfl (by kernel_rfl) (by kernel_rfl) (by kernel_rfl) (fun _ _ _ h => nomatch h.1) (Or.inl ⟨by rfl, ?hyd0⟩) hHeld ?restd0
    case hyd0 => intro W' hSw; (obtain ⟨q0, q1, q2⟩ := hSw); go_simp <;> with_reducible rfl
    try simp only [Act.put, List.getElem_toArray, List.getElem_cons_zero, List.setIfInBounds_toArray, List.set_cons_zero, List.set_cons_succ]
    refine wpAnyH_take (i := 1) (v := ?_) rfl (by kernel_rfl) (by kernel_rfl) (by kernel_rfl) (fun _ _ _ h => nomatch h.1) (Or.inl ⟨by rfl, ?hyd1⟩) hHeld ?restd1
    case hyd1 => intro W' hSw; (obtain ⟨q0, q1, q2⟩ := hSw); go_simp <;> with_reducible rfl
    try simp only [Act.put, List.getElem_toArray, List.getElem_cons_zero, List.getElem_cons_succ, List.setIfInBounds_toArray, List.set_cons_zero, List.set_cons_succ]
    refine wpAnyH_take (i := 2) (v := ?_) rfl (by kernel_rfl) (by kernel_rfl) (by kernel_rfl) (fun _ _ _ h => nomatch h.1) (Or.inl ⟨by rfl, ?hyd2⟩) hHeld ?restd2
    case hyd2 => intro W' hSw; (obtain ⟨q0, q1, q2⟩ := hSw); go_simp <;> with_reducible rfl
    try simp only [Act.put, List.getElem_toArray, List.getElem_cons_zero, List.getElem_cons_succ, List.setIfInBounds_toArray, List.set_cons_zero, List.set_cons_succ]
    refine wpAnyH_take (i := 3) (v := ?_) rfl (by kernel_rfl) (by kernel_rfl) (by kernel_rfl) (fun _ _ _ h => nomatch h.1) (Or.inl ⟨by rfl, ?hyd3⟩) hHeld ?restd3
    case hyd3 => intro W' hSw; (obtain ⟨q0, q1, q2⟩ := hSw); go_simp <;> with_reducible rfl
    try simp only [Act.put, List.getElem_toArray, List.getElem_cons_zero, List.getElem_cons_succ, List.setIfInBounds_toArray, List.set_cons_zero, List.set_cons_succ]
    refine wpAnyH_take (i := 4) (v := ?_) rfl (by kernel_rfl) (by kernel_rfl) (by kernel_rfl) (fun _ _ _ h => nomatch h.1) (Or.inl ⟨by rfl, ?hyd4⟩) hHeld ?restd4
    case hyd4 => intro W' hSw; (obtain ⟨q0, q1, q2⟩ := hSw); go_simp <;> with_reducible rfl
    try simp only [Act.put, List.getElem_toArray, List.getElem_cons_zero, List.getElem_cons_succ, List.setIfInBounds_toArray, List.set_cons_zero, List.set_cons_succ]
    refine wpAnyH_take (i := 5) (v := ?_) rfl (by kernel_rfl) (by kernel_rfl) (by kernel_rfl) (fun _ _ _ h => nomatch h.1) (Or.inl ⟨by rfl, ?hyd5⟩) hHeld ?restd5
    case hyd5 => intro W' hSw; (obtain ⟨q0, q1, q2⟩ := hSw); go_simp <;> with_reducible rfl
    try simp only [Act.put, List.getElem_toArray, List.getElem_cons_zero, List.getElem_cons_succ, List.setIfInBounds_toArray, List.set_cons_zero, List.set_cons_succ]
    refine wpAnyH_take (i := 6) (v := ?_) rfl (by kernel_rfl) (by kernel_rfl) (by kernel_rfl) (fun _ _ _ h => nomatch h.1) (Or.inl ⟨by rfl, ?hyd6⟩) hHeld ?restd6
    case hyd6 => intro W' hSw; (obtain ⟨q0, q1, q2⟩ := hSw); go_simp <;> with_reducible rfl
    try simp only [Act.put, List.getElem_toArray, List.getElem_cons_zero, List.getElem_cons_succ, List.setIfInBounds_toArray, List.set_cons_zero, List.set_cons_succ]
    refine wpAnyH_done (by kernel_rfl) ⟨rfl, ?_⟩ _
    gi_wp2
    refine ⟨by simp, .inl ⟨_, _, rfl, run_takeDeferred hK, ?_⟩⟩
    exact ⟨_, results_tmp2 rfl _ _ _, ⟨p', by rw [HR2.out]; rfl, fun _ => by rw [HR2.out]⟩, moved_own (β := Unit) (B := w4.heap.size) (by omega) (by omega) () W.drew _ (some D) HMD.out (grownBy_putObj' W.drew D _) (fun r e => by cases e; exact ⟨hD, _, hK, rfl⟩)⟩
  case stop =>
    rintro D c W hD ⟨rfl, ⟨q, k', st', hway⟩, heb, hne⟩ hK
    have HR2 := Lib.hid hne
    have HMD := Lib.hid (show Moved g w W.drew from ⟨⟨heb.moved.below.1, heb.moved.below.2, heb.moved.below.3, heb.moved.below.4, heb.moved.below.5⟩, heb.moved.kept⟩)
    have hw := HWIDE.out
    subst hw
    clear hne
    gi_wp2
    refine region_in_held (ro := none) (S := fun W' => W'.cell? ⟨B, 0, none⟩ = some (.pointer (some ⟨g, 0, none⟩)) ∧ W'.cell? ⟨g, 3, none⟩ = some (.int .i64 q) ∧ W'.cell? ⟨B + 1 + 1, 0, none⟩ = some (.int .i64 R.2)) (by kernel_rfl) (by kernel_rfl) ?_
    have hHeld : W.drew.cell? ⟨B, 0, none⟩ = some (.pointer (some ⟨g, 0, none⟩)) ∧ W.drew.cell? ⟨g, 3, none⟩ = some (.int .i64 q) ∧ W.drew.cell? ⟨B + 1 + 1, 0, none⟩ = some (.int .i64 R.2) := ⟨cell_in heb.b1 rfl, (way_cells hway).2.2.2.1, cell_in heb.b3 rfl⟩
    refine wpAnyH_take (i := 0) (v := ?_) rfl (by kernel_rfl) (by kernel_rfl) (by kernel_rfl) (fun _ _ _ h => nomatch h.1) (Or.inl ⟨by rfl, ?hys0⟩) hHeld ?rests0
    case hys0 => intro W' hSw; (obtain ⟨q0, q1, q2⟩ := hSw); go_simp <;> with_reducible rfl
    try simp only [Act.put, List.getElem_toArray, List.getElem_cons_zero, List.setIfInBounds_toArray, List.set_cons_zero, List.set_cons_succ]
    refine wpAnyH_take (i := 1) (v := ?_) rfl (by kernel_rfl) (by kernel_rfl) (by kernel_rfl) (fun _ _ _ h => nomatch h.1) (Or.inl ⟨by rfl, ?hys1⟩) hHeld ?rests1
    case hys1 => intro W' hSw; (obtain ⟨q0, q1, q2⟩ := hSw); go_simp <;> with_reducible rfl
    try simp only [Act.put, List.getElem_toArray, List.getElem_cons_zero, List.getElem_cons_succ, List.setIfInBounds_toArray, List.set_cons_zero, List.set_cons_succ]
    refine wpAnyH_take (i := 2) (v := ?_) rfl (by kernel_rfl) (by kernel_rfl) (by kernel_rfl) (fun _ _ _ h => nomatch h.1) (Or.inl ⟨by rfl, ?hys2⟩) hHeld ?rests2
    case hys2 => intro W' hSw; (obtain ⟨q0, q1, q2⟩ := hSw); go_simp <;> with_reducible rfl
    try simp only [Act.put, List.getElem_toArray, List.getElem_cons_zero, List.getElem_cons_succ, List.setIfInBounds_toArray, List.set_cons_zero, List.set_cons_succ]
    refine wpAnyH_take (i := 3) (v := ?_) rfl (by kernel_rfl) (by kernel_rfl) (by kernel_rfl) (fun _ _ _ h => nomatch h.1) (Or.inl ⟨by rfl, ?hys3⟩) hHeld ?rests3
    case hys3 => intro W' hSw; (obtain ⟨q0, q1, q2⟩ := hSw); go_simp <;> with_reducible rfl
    try simp only [Act.put, List.getElem_toArray, List.getElem_cons_zero, List.getElem_cons_succ, List.setIfInBounds_toArray, List.set_cons_zero, List.set_cons_succ]
    refine wpAnyH_take (i := 4) (v := ?_) rfl (by kernel_rfl) (by kernel_rfl) (by kernel_rfl) (fun _ _ _ h => nomatch h.1) (Or.inl ⟨by rfl, ?hys4⟩) hHeld ?rests4
    case hys4 => intro W' hSw; (obtain ⟨q0, q1, q2⟩ := hSw); go_simp <;> with_reducible rfl
    try simp only [Act.put, List.getElem_toArray, List.getElem_cons_zero, List.getElem_cons_succ, List.setIfInBounds_toArray, List.set_cons_zero, List.set_cons_succ]
    refine wpAnyH_take (i := 5) (v := ?_) rfl (by kernel_rfl) (by kernel_rfl) (by kernel_rfl) (fun _ _ _ h => nomatch h.1) (Or.inl ⟨by rfl, ?hys5⟩) hHeld ?rests5
    case hys5 => intro W' hSw; (obtain ⟨q0, q1, q2⟩ := hSw); go_simp <;> with_reducible rfl
    try simp only [Act.put, List.getElem_toArray, List.getElem_cons_zero, List.getElem_cons_succ, List.setIfInBounds_toArray, List.set_cons_zero, List.set_cons_succ]
    refine wpAnyH_take (i := 6) (v := ?_) rfl (by kernel_rfl) (by kernel_rfl) (by kernel_rfl) (fun _ _ _ h => nomatch h.1) (Or.inl ⟨by rfl, ?hys6⟩) hHeld ?rests6
    case hys6 => intro W' hSw; (obtain ⟨q0, q1, q2⟩ := hSw); go_simp <;> with_reducible rfl
    try simp only [Act.put, List.getElem_toArray, List.getElem_cons_zero, List.getElem_cons_succ, List.setIfInBounds_toArray, List.set_cons_zero, List.set_cons_succ]
    refine wpAnyH_done (by kernel_rfl) ⟨rfl, ?_⟩ _
    gi_wp2
    refine ⟨by simp, .inl ⟨_, _, rfl, run_takeDeferred hK, ?_⟩⟩
    exact ⟨_, results_tmp2 rfl _ _ _, ⟨q, rfl, fun h => absurd h HR2.out⟩, moved_own (β := Unit) (B := w4.heap.size) (by omega) (by omega) () W.drew _ (some D) HMD.out (grownBy_putObj' W.drew D _) (fun r e => by cases e; exact ⟨hD, _, hK, rfl⟩)⟩
end Go.Proofs.YtclhpedecimicaaGreat

namespace Go.Proofs.YtclhpedecimicaaGreat
set_option maxRecDepth 100000
open Go Go.RowKit

theorem lend_any (n₀ g : Nat) (a : Option Addr) (cap : Nat) (m b : Int) (p0 : Int) (N0 : List (List UInt8)) (hN0 : N0.length ≤ 5000) (last : Bool) (L : List Ino) (hF : FitP L m b)
    (w0 : World) (hN : NodesIn w0 a cap L) (hw0 : w0.heap.size ≤ g) (w : World) (hb0 : Below w0.heap.size w0 w) (hn₀ : n₀ ≤ w.heap.size) (hW : WayAt n₀ g (.slice a L.length cap, .int .i64 m, .int .i64 b) w p0 N0.reverse 0) (kz ez : Int) (hk : kz = (wayW L last 8 N0 p0).1) (he : ez = (wayW L last 8 N0 p0).2) :
    Calls Tryz.prog 67 #[.pointer (some ⟨g, 0, none⟩), .bool last] w fun e w' => (∃ z : Int, e = .returned (.tuple #[.int .i64 z, .int .i64 ez]) ∧ (ez = 0 → z = kz)) ∧ Moved g w w' := by
  subst hk he
  exact callsIn_wide.1 (end_in Fence.wide rfl 5 (Nat.le_refl _) n₀ g a cap m b p0 N0 hN0 last L hF w0 hN hw0 w hb0 hn₀ hW)
theorem refused_known (a : Option Addr) (cap : Nat) (m b cwd : Int) (pb : ByteArray) (hp : pb.size ≤ 1073741824) (L : List Ino) (z : Int) (hz : badW L cwd pb.data.toList = z) (w : World) (hN : NodesIn w a cap L) :
    Calls Tryz.prog 64 #[.agg #[.slice a L.length cap, .int .i64 m, .int .i64 b], .int .i64 cwd, .string pb] w fun e w' => e = .returned (.int .i64 z) ∧ Below w.heap.size w w' := by
  subst hz
  exact refused_any a cap m b cwd pb.data.toList (by rw [size_list]; exact hp) L w hN
theorem kind_dz {L : List Ino} {k : Int} {dz : Bool} (h : dirB L k = dz) : (kindL L k != 2) = !dz := by rw [kind_dir, h]

theorem lbegin_any (tv mv bv : Value) (cwd : Int) (pb : ByteArray) (hp : pb.size ≤ 1024) (st : Int) (N : List (List UInt8)) (hst : beginW cwd pb.data.toList = st) (hN : N = partsL pb.data.toList) (w2 : World) :
    Calls Tryz.prog 66 #[.pointer (some ⟨w2.heap.size, 0, none⟩), .string pb] (w2.alloc (.cells #[tv, mv, bv, .int .i64 cwd, .slice none 0 0, .int .i64 0] 113)) fun e w' =>
      (∃ u, e = .returned u) ∧ WayAt (w2.heap.size + 1) w2.heap.size (tv, mv, bv) w' st N.reverse 0 ∧ Below w2.heap.size w2 w' ∧ w2.heap.size + 1 ≤ w'.heap.size := by
  subst hst hN
  have h := lenter_any (w2.heap.size + 1) w2.heap.size (tv, mv, bv) cwd 0 [] pb.data.toList (by rw [size_list]; omega) (by simp) (w2.alloc (.cells #[tv, mv, bv, .int .i64 cwd, .slice none 0 0, .int .i64 0] 113)) (by simp) ⟨by omega, _, new_block w2 _, Or.inl ⟨rfl, rfl⟩⟩
  rw [List.nil_append] at h
  exact h.mono fun e w' hh => ⟨hh.1, hh.2.1, (below_box w2 _).trans hh.2.2.below, by have := hh.2.2.below.size; rw [World.size_alloc] at this; exact this⟩

set_option maxRecDepth 100000 in
set_option maxHeartbeats 8000000 in
theorem lwalk_any (a : Option Addr) (cap : Nat) (m b cwd : Int) (pb : ByteArray) (hp : pb.size ≤ 1073741824) (follow : Bool) (L : List Ino) (hF : FitP L m b) (w : World) (hN : NodesIn w a cap L) :
    Calls Tryz.prog 50 #[.agg #[.slice a L.length cap, .int .i64 m, .int .i64 b], .int .i64 cwd, .string pb, .bool follow] w fun e w' => e = .returned (.tuple #[.int .i64 (walkW L cwd pb.data.toList follow).1, .int .i64 (walkW L cwd pb.data.toList follow).2]) ∧ Below w.heap.size w w' := by
  obtain ⟨w1, hw1⟩ : ∃ w1, w1 = w.alloc (.cells #[.slice a L.length cap, .int .i64 m, .int .i64 b] 24) := ⟨_, rfl⟩
  have hb1 := below_box w (.cells #[.slice a L.length cap, .int .i64 m, .int .i64 b] 24)
  have hM := hN.below hb1
  have hsz : w1.heap.size = w.heap.size + 1 := by rw [hw1]; simp
  have hbox : ∀ W', Below w1.heap.size w1 W' → W'.cell? ⟨w.heap.size, 0, none⟩ = some (.slice a L.length cap) ∧ W'.cell? ⟨w.heap.size, 1, none⟩ = some (.int .i64 m) ∧ W'.cell? ⟨w.heap.size, 2, none⟩ = some (.int .i64 b) := fun W' h => box3 (by rw [← hw1]; exact h)
  rw [← hw1] at hM hb1
  have HM := Lib.hid hM
  have HB := Lib.hid hb1
  have HX := Lib.hid hbox
  have HEND := Lib.hid (show ∀ W', Below w1.heap.size w1 W' → Below w.heap.size w W' from fun W' h => HB.out.trans (h.mono (by rw [hsz]; omega)))
  have HF := Lib.hid hF
  obtain ⟨R, hR⟩ : ∃ R, R = walkW L cwd pb.data.toList follow := ⟨_, rfl⟩
  rw [← hR]
  have HR := Lib.hid hR
  obtain ⟨z, hz⟩ : ∃ z, badW L cwd pb.data.toList = z := ⟨_, rfl⟩
  have HZ := Lib.hid hz
  clear hM hN hb1 hbox hsz hF hR
  by_cases hbad : z ≠ 0
  · have hzb : (z != 0) = true := by simpa using hbad
    have HW := Lib.hid (show R = (0, z) by rw [HR.out]; unfold walkW; rw [hz, if_pos hbad])
    clear hbad hz
    go_enter Tryz.func50, Tryz.ntmps50
    go_wp2_with fail
    rw [← hw1]
    refine (refused_known _ _ _ _ _ _ hp L z HZ.out _ HM.out).mono ?_
    rintro e w2 ⟨rfl, hb2⟩
    go_wp2_with fail
    go_ret2
    exact ⟨by rw [HW.out]; rfl, HEND.out _ hb2⟩
  · obtain rfl : z = 0 := by simpa using hbad
    have hpne : pb.data.toList ≠ [] := fun e => by
      unfold badW at hz
      rw [if_pos (Or.inl e)] at hz
      cases hz
    obtain ⟨st, hst⟩ : ∃ st, beginW cwd pb.data.toList = st := ⟨_, rfl⟩
    have HST := Lib.hid hst
    obtain ⟨N, hNe⟩ : ∃ N, N = partsL pb.data.toList := ⟨_, rfl⟩
    have HNE := Lib.hid hNe
    have hlong : pb.size ≤ 1024 := by
      unfold badW at hz
      rw [if_neg (fun h => by rcases h with h | h; exact hpne h; rw [if_pos (Or.inr h)] at hz; cases hz)] at hz
      by_cases hl : longB pb.data.toList = true
      · rw [if_pos hl] at hz; cases hz
      · unfold longB at hl
        rw [Bool.or_eq_true, decide_eq_true_eq, size_list] at hl
        omega
    have HNL := Lib.hid (show N.length ≤ 5000 by rw [hNe]; have := count_parts pb.data.toList; rw [size_list] at this; omega)
    obtain ⟨s, heb⟩ : ∃ s, endL pb.data.toList = s := ⟨_, rfl⟩
    have HS := Lib.hid heb
    obtain ⟨kz, hkz⟩ : ∃ kz, kz = (wayW L (follow || s) 8 N st).1 := ⟨_, rfl⟩
    obtain ⟨ez, hez⟩ : ∃ ez, ez = (wayW L (follow || s) 8 N st).2 := ⟨_, rfl⟩
    have HWAY := Lib.hid (show ∀ lb, lb = (follow || s) → ∀ W n₀ g, w1.heap.size ≤ g → Below w1.heap.size w1 W → n₀ ≤ W.heap.size → WayAt n₀ g (.slice a L.length cap, .int .i64 m, .int .i64 b) W st N.reverse 0 → Calls Tryz.prog 67 #[.pointer (some ⟨g, 0, none⟩), .bool lb] W fun e w' => (∃ z : Int, e = .returned (.tuple #[.int .i64 z, .int .i64 ez]) ∧ (ez = 0 → z = kz)) ∧ Moved g W w' from fun lb hlb W n₀ g hg hW hn hV => by
      subst hlb
      exact lend_any n₀ g a cap m b st N HNL.out _ L HF.out w1 HM.out hg W hW hn hV kz ez hkz hez)
    have HW := Lib.hid (show R = if ez ≠ 0 then (0, ez) else if s = true ∧ dirB L kz = false then (0, 20) else (kz, 0) by
      rw [HR.out]
      unfold walkW
      rw [hz, if_neg (by simp), hst, ← hNe, heb, ← hez, ← hkz])
    obtain ⟨dz, hdz⟩ : ∃ dz, dirB L kz = dz := ⟨_, rfl⟩
    rw [hdz] at HW
    obtain ⟨kk, hkk⟩ : ∃ kk, kindL L kz = kk := ⟨_, rfl⟩
    have HKK := Lib.hid hkk
    have hkd := kind_dz hdz
    rw [hkk] at hkd
    clear hz hpne heb hst hNe hkz hez hdz hbad HR hkk
    cases follow
    case false =>
      go_enter Tryz.func50, Tryz.ntmps50
      go_wp2_with fail
      rw [← hw1]
      refine (refused_known _ _ _ _ _ _ hp L 0 HZ.out _ HM.out).mono ?_
      rintro e w2 ⟨rfl, hb2⟩
      have HB2 := Lib.hid hb2
      obtain ⟨q0, q1, q2⟩ := HX.out _ hb2
      clear hb2
      cases he : (ez != 0) with
      | true =>
        have HW2 := Lib.hid (show R = (0, ez) by rw [HW.out, if_pos (by simpa using he)])
        go_wp2_with (first | (go_at_call 65; refine (hassuf_known _ hp _ HS.out _).mono ?_; rintro e wn ⟨rfl, rfl⟩) | (go_at_call 66; refine (lbegin_any _ _ _ cwd pb hlong st N HST.out HNE.out w2).mono ?_; rintro e w3 ⟨⟨ue, rfl⟩, hv3, hb3, hs3⟩; have HV3 := Lib.hid hv3; have HB3 := Lib.hid (HB2.out.trans (hb3.mono HB2.out.size)); have hs2 := HB2.out.size; clear hv3 hb3 q0 q1 q2) | (go_at_call 67; refine (HWAY.out _ rfl w3 (w2.heap.size + 1) w2.heap.size hs2 HB3.out hs3 HV3.out).mono ?_; rintro e w4 ⟨⟨zz, rfl, hzz⟩, hm4⟩; have HB4 := Lib.hid (HB3.out.trans (hm4.below.mono hs2)); have HZZ := Lib.hid hzz; (obtain ⟨q0, q1, q2⟩ := HX.out _ HB4.out); clear hzz hm4) | fail)
        go_ret2
        exact ⟨by rw [HW2.out]; rfl, HEND.out _ HB4.out⟩
      | false =>
        have hz0 : ez = 0 := by simpa using he
        subst hz0
        cases s with
        | false =>
          have HW2 := Lib.hid (show R = (kz, 0) by rw [HW.out, if_neg (by simp), if_neg (by simp)])
          go_wp2_with (first | (go_at_call 65; refine (hassuf_known _ hp _ HS.out _).mono ?_; rintro e wn ⟨rfl, rfl⟩) | (go_at_call 66; refine (lbegin_any _ _ _ cwd pb hlong st N HST.out HNE.out w2).mono ?_; rintro e w3 ⟨⟨ue, rfl⟩, hv3, hb3, hs3⟩; have HV3 := Lib.hid hv3; have HB3 := Lib.hid (HB2.out.trans (hb3.mono HB2.out.size)); have hs2 := HB2.out.size; clear hv3 hb3 q0 q1 q2) | (go_at_call 67; refine (HWAY.out _ rfl w3 (w2.heap.size + 1) w2.heap.size hs2 HB3.out hs3 HV3.out).mono ?_; rintro e w4 ⟨⟨zz, rfl, hzz⟩, hm4⟩; have HB4 := Lib.hid (HB3.out.trans (hm4.below.mono hs2)); have HZZ := Lib.hid hzz; (obtain ⟨q0, q1, q2⟩ := HX.out _ HB4.out); clear hzz hm4) | fail)
          go_ret2
          exact ⟨by rw [HW2.out, HZZ.out (by trivial)]; rfl, HEND.out _ HB4.out⟩
        | true =>
          cases dz with
          | false =>
            have HW2 := Lib.hid (show R = (0, 20) by rw [HW.out, if_neg (by simp), if_pos (by simp)])
            simp only [Bool.not_false] at hkd
            go_wp2_with (first | (go_at_call 65; refine (hassuf_known _ hp _ HS.out _).mono ?_; rintro e wn ⟨rfl, rfl⟩) | (go_at_call 66; refine (lbegin_any _ _ _ cwd pb hlong st N HST.out HNE.out w2).mono ?_; rintro e w3 ⟨⟨ue, rfl⟩, hv3, hb3, hs3⟩; have HV3 := Lib.hid hv3; have HB3 := Lib.hid (HB2.out.trans (hb3.mono HB2.out.size)); have hs2 := HB2.out.size; clear hv3 hb3 q0 q1 q2) | (go_at_call 67; refine (HWAY.out _ rfl w3 (w2.heap.size + 1) w2.heap.size hs2 HB3.out hs3 HV3.out).mono ?_; rintro e w4 ⟨⟨zz, rfl, hzz⟩, hm4⟩; have HB4 := Lib.hid (HB3.out.trans (hm4.below.mono hs2)); have HZZ := Lib.hid hzz; (obtain ⟨q0, q1, q2⟩ := HX.out _ HB4.out); clear hzz hm4) | (go_at_call 68; refine (kind_known a cap m b _ L kk (by rw [HZZ.out (by trivial)]; exact HKK.out) _ (HM.out.below HB4.out)).mono ?_; rintro e w5 ⟨rfl, hb5⟩; have HB5 := Lib.hid (HB4.out.trans (hb5.mono HB4.out.size))) | fail)
            go_ret2
            exact ⟨by rw [HW2.out]; rfl, HEND.out _ HB5.out⟩
          | true =>
            have HW2 := Lib.hid (show R = (kz, 0) by rw [HW.out, if_neg (by simp), if_neg (by simp)])
            simp only [Bool.not_true] at hkd
            go_wp2_with (first | (go_at_call 65; refine (hassuf_known _ hp _ HS.out _).mono ?_; rintro e wn ⟨rfl, rfl⟩) | (go_at_call 66; refine (lbegin_any _ _ _ cwd pb hlong st N HST.out HNE.out w2).mono ?_; rintro e w3 ⟨⟨ue, rfl⟩, hv3, hb3, hs3⟩; have HV3 := Lib.hid hv3; have HB3 := Lib.hid (HB2.out.trans (hb3.mono HB2.out.size)); have hs2 := HB2.out.size; clear hv3 hb3 q0 q1 q2) | (go_at_call 67; refine (HWAY.out _ rfl w3 (w2.heap.size + 1) w2.heap.size hs2 HB3.out hs3 HV3.out).mono ?_; rintro e w4 ⟨⟨zz, rfl, hzz⟩, hm4⟩; have HB4 := Lib.hid (HB3.out.trans (hm4.below.mono hs2)); have HZZ := Lib.hid hzz; (obtain ⟨q0, q1, q2⟩ := HX.out _ HB4.out); clear hzz hm4) | (go_at_call 68; refine (kind_known a cap m b _ L kk (by rw [HZZ.out (by trivial)]; exact HKK.out) _ (HM.out.below HB4.out)).mono ?_; rintro e w5 ⟨rfl, hb5⟩; have HB5 := Lib.hid (HB4.out.trans (hb5.mono HB4.out.size))) | fail)
            go_ret2
            exact ⟨by rw [HW2.out, HZZ.out (by trivial)]; rfl, HEND.out _ HB5.out⟩
    case true =>
      go_enter Tryz.func50, Tryz.ntmps50
      go_wp2_with fail
      rw [← hw1]
      refine (refused_known _ _ _ _ _ _ hp L 0 HZ.out _ HM.out).mono ?_
      rintro e w2 ⟨rfl, hb2⟩
      have HB2 := Lib.hid hb2
      obtain ⟨q0, q1, q2⟩ := HX.out _ hb2
      clear hb2
      cases he : (ez != 0) with
      | true =>
        have HW2 := Lib.hid (show R = (0, ez) by rw [HW.out, if_pos (by simpa using he)])
        go_wp2_with (first | (go_at_call 65; refine (hassuf_known _ hp _ HS.out _).mono ?_; rintro e wn ⟨rfl, rfl⟩) | (go_at_call 66; refine (lbegin_any _ _ _ cwd pb hlong st N HST.out HNE.out w2).mono ?_; rintro e w3 ⟨⟨ue, rfl⟩, hv3, hb3, hs3⟩; have HV3 := Lib.hid hv3; have HB3 := Lib.hid (HB2.out.trans (hb3.mono HB2.out.size)); have hs2 := HB2.out.size; clear hv3 hb3 q0 q1 q2) | (go_at_call 67; refine (HWAY.out _ rfl w3 (w2.heap.size + 1) w2.heap.size hs2 HB3.out hs3 HV3.out).mono ?_; rintro e w4 ⟨⟨zz, rfl, hzz⟩, hm4⟩; have HB4 := Lib.hid (HB3.out.trans (hm4.below.mono hs2)); have HZZ := Lib.hid hzz; (obtain ⟨q0, q1, q2⟩ := HX.out _ HB4.out); clear hzz hm4) | fail)
        go_ret2
        exact ⟨by rw [HW2.out]; rfl, HEND.out _ HB4.out⟩
      | false =>
        have hz0 : ez = 0 := by simpa using he
        subst hz0
        cases s with
        | false =>
          have HW2 := Lib.hid (show R = (kz, 0) by rw [HW.out, if_neg (by simp), if_neg (by simp)])
          go_wp2_with (first | (go_at_call 65; refine (hassuf_known _ hp _ HS.out _).mono ?_; rintro e wn ⟨rfl, rfl⟩) | (go_at_call 66; refine (lbegin_any _ _ _ cwd pb hlong st N HST.out HNE.out w2).mono ?_; rintro e w3 ⟨⟨ue, rfl⟩, hv3, hb3, hs3⟩; have HV3 := Lib.hid hv3; have HB3 := Lib.hid (HB2.out.trans (hb3.mono HB2.out.size)); have hs2 := HB2.out.size; clear hv3 hb3 q0 q1 q2) | (go_at_call 67; refine (HWAY.out _ rfl w3 (w2.heap.size + 1) w2.heap.size hs2 HB3.out hs3 HV3.out).mono ?_; rintro e w4 ⟨⟨zz, rfl, hzz⟩, hm4⟩; have HB4 := Lib.hid (HB3.out.trans (hm4.below.mono hs2)); have HZZ := Lib.hid hzz; (obtain ⟨q0, q1, q2⟩ := HX.out _ HB4.out); clear hzz hm4) | fail)
          go_ret2
          exact ⟨by rw [HW2.out, HZZ.out (by trivial)]; rfl, HEND.out _ HB4.out⟩
        | true =>
          cases dz with
          | false =>
            have HW2 := Lib.hid (show R = (0, 20) by rw [HW.out, if_neg (by simp), if_pos (by simp)])
            simp only [Bool.not_false] at hkd
            go_wp2_with (first | (go_at_call 65; refine (hassuf_known _ hp _ HS.out _).mono ?_; rintro e wn ⟨rfl, rfl⟩) | (go_at_call 66; refine (lbegin_any _ _ _ cwd pb hlong st N HST.out HNE.out w2).mono ?_; rintro e w3 ⟨⟨ue, rfl⟩, hv3, hb3, hs3⟩; have HV3 := Lib.hid hv3; have HB3 := Lib.hid (HB2.out.trans (hb3.mono HB2.out.size)); have hs2 := HB2.out.size; clear hv3 hb3 q0 q1 q2) | (go_at_call 67; refine (HWAY.out _ rfl w3 (w2.heap.size + 1) w2.heap.size hs2 HB3.out hs3 HV3.out).mono ?_; rintro e w4 ⟨⟨zz, rfl, hzz⟩, hm4⟩; have HB4 := Lib.hid (HB3.out.trans (hm4.below.mono hs2)); have HZZ := Lib.hid hzz; (obtain ⟨q0, q1, q2⟩ := HX.out _ HB4.out); clear hzz hm4) | (go_at_call 68; refine (kind_known a cap m b _ L kk (by rw [HZZ.out (by trivial)]; exact HKK.out) _ (HM.out.below HB4.out)).mono ?_; rintro e w5 ⟨rfl, hb5⟩; have HB5 := Lib.hid (HB4.out.trans (hb5.mono HB4.out.size))) | fail)
            go_ret2
            exact ⟨by rw [HW2.out]; rfl, HEND.out _ HB5.out⟩
          | true =>
            have HW2 := Lib.hid (show R = (kz, 0) by rw [HW.out, if_neg (by simp), if_neg (by simp)])
            simp only [Bool.not_true] at hkd
            go_wp2_with (first | (go_at_call 65; refine (hassuf_known _ hp _ HS.out _).mono ?_; rintro e wn ⟨rfl, rfl⟩) | (go_at_call 66; refine (lbegin_any _ _ _ cwd pb hlong st N HST.out HNE.out w2).mono ?_; rintro e w3 ⟨⟨ue, rfl⟩, hv3, hb3, hs3⟩; have HV3 := Lib.hid hv3; have HB3 := Lib.hid (HB2.out.trans (hb3.mono HB2.out.size)); have hs2 := HB2.out.size; clear hv3 hb3 q0 q1 q2) | (go_at_call 67; refine (HWAY.out _ rfl w3 (w2.heap.size + 1) w2.heap.size hs2 HB3.out hs3 HV3.out).mono ?_; rintro e w4 ⟨⟨zz, rfl, hzz⟩, hm4⟩; have HB4 := Lib.hid (HB3.out.trans (hm4.below.mono hs2)); have HZZ := Lib.hid hzz; (obtain ⟨q0, q1, q2⟩ := HX.out _ HB4.out); clear hzz hm4) | (go_at_call 68; refine (kind_known a cap m b _ L kk (by rw [HZZ.out (by trivial)]; exact HKK.out) _ (HM.out.below HB4.out)).mono ?_; rintro e w5 ⟨rfl, hb5⟩; have HB5 := Lib.hid (HB4.out.trans (hb5.mono HB4.out.size))) | fail)
            go_ret2
            exact ⟨by rw [HW2.out, HZZ.out (by trivial)]; rfl, HEND.out _ HB5.out⟩
end Go.Proofs.YtclhpedecimicaaGreat

namespace Go.Proofs.YtclhpedecimicaaGreat
set_option maxRecDepth 100000
open Go Go.RowKit

end Go.Proofs.YtclhpedecimicaaGreat

namespace Go.Proofs.YtclhpedecimicaaGreat
set_option maxRecDepth 100000
open Go Go.RowKit

theorem aw_walk1 : walkW (newT 4 100).nodes 0 [47] true = (0, 0) := by decide +kernel
theorem aw_walk2 : walkW (newT 4 100).nodes 0 [120] true = (0, 2) := by decide +kernel
theorem aw_walk3 : walkW (newT 4 100).nodes 0 [46, 46] true = (0, 0) := by decide +kernel
theorem aw_par : parentW (newT 4 100).nodes 0 [120, 47] = (0, [120], 0) := by decide +kernel
theorem aw_may : mayL (newT 4 100).nodes 0 7 = true := by decide +kernel

theorem lwalk_known (a : Option Addr) (cap : Nat) (m b cwd : Int) (pb : ByteArray) (hp : pb.size ≤ 1073741824) (follow : Bool) (L : List Ino) (hF : FitP L m b) (z e : Int) (h : walkW L cwd pb.data.toList follow = (z, e)) (w : World) (hN : NodesIn w a cap L) :
    Calls Tryz.prog 50 #[.agg #[.slice a L.length cap, .int .i64 m, .int .i64 b], .int .i64 cwd, .string pb, .bool follow] w fun r w' => r = .returned (.tuple #[.int .i64 z, .int .i64 e]) ∧ Below w.heap.size w w' := by
  have := lwalk_any a cap m b cwd pb hp follow L hF w hN
  rw [h] at this
  exact this


end Go.Proofs.YtclhpedecimicaaGreat
