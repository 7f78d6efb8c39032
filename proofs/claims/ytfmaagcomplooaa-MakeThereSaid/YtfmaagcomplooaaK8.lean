/-
  The reference's bad, Walk and Parent, walked.
  path's Parts, over the iterator.
  walk's kind, May and refused, of the landed code.
  walk's refused, of the landed code.
  tree's isDir, of the landed code.
-/
import Derived.Test.YtfmaagcomplooaaWRefWay
import Derived.Test.YtfmaagcomplooaaK5
import Derived.Test.YtfmaagcomplooaaK1
namespace Go.Proofs.Ytfmaagcomplooaa
set_option maxRecDepth 100000
open Go Go.RowKit

theorem longB_of (p : List UInt8) (h : p.length ≤ 1024) : longB p = (partsL p).any fun x => decide (64 < x.length) := by
  unfold longB
  rw [decide_eq_false (by omega), Bool.false_or]

set_option maxRecDepth 100000 in
set_option maxHeartbeats 4000000 in
theorem bad4_any (a : Option Addr) (cap : Nat) (m b cwd : Int) (p : List UInt8) (hp : p.length ≤ 1073741824) (L : List Ino) (w : World) (hN : NodesIn w a cap L) :
    Calls Try.prog 32 #[.agg #[.slice a L.length cap, .int .i64 m, .int .i64 b], .int .i64 cwd, .string ⟨p.toArray⟩] w fun e w' => e = .returned (.int .i64 (badW L cwd p)) ∧ Below w.heap.size w w' := by
  have hb1 := below_box w (.cells #[.slice a L.length cap, .int .i64 m, .int .i64 b] 24)
  have HM := Lib.hid (hN.below hb1)
  have HB1 := Lib.hid hb1
  have hs := str_len p
  obtain ⟨R, hR⟩ : ∃ R, R = badW L cwd p := ⟨_, rfl⟩
  rw [← hR]
  have HR := Lib.hid hR
  clear hN hb1 hR
  by_cases hp0 : p = []
  · subst hp0
    have HW := Lib.hid (show R = 2 by rw [HR.out]; unfold badW; rw [if_pos (Or.inl rfl)])
    go_enter Try.func32, Try.ntmps32
    go_wp2_with fail
    go_ret
    exact ⟨by rw [HW.out]; rfl, HB1.out⟩
  · have hpb : (p == []) = false := by simpa using hp0
    cases hd : dirB L cwd with
    | false =>
      have HD := Lib.hid hd
      have HW := Lib.hid (show R = 2 by rw [HR.out]; unfold badW; rw [if_pos (Or.inr hd)])
      clear hd hp0
      go_enter Try.func32, Try.ntmps32
      go_wp2_with (first | (go_at_call 36; refine (dir4_known _ _ _ _ _ L _ HD.out _ HM.out).mono ?_; rintro e w2 ⟨rfl, hb2⟩) | fail)
      go_ret
      exact ⟨by rw [HW.out]; rfl, HB1.out.trans (hb2.mono (by simp))⟩
    | true =>
      have HD := Lib.hid hd
      have HW := Lib.hid (show R = if longB p then 36 else 0 by rw [HR.out]; unfold badW; rw [if_neg (by simp [hp0, hd])])
      clear hd hp0
      by_cases hl : 1024 < p.length
      · have HW2 := Lib.hid (show R = 36 by rw [HW.out]; unfold longB; rw [decide_eq_true hl]; rfl)
        go_enter Try.func32, Try.ntmps32
        go_wp2_with (first | (go_at_call 36; refine (dir4_known _ _ _ _ _ L _ HD.out _ HM.out).mono ?_; rintro e w2 ⟨rfl, hb2⟩) | fail)
        go_ret
        exact ⟨by rw [HW2.out]; rfl, HB1.out.trans (hb2.mono (by simp))⟩
      · have HW2 := Lib.hid (show R = if (partsL p).any fun x => decide (64 < x.length) then 36 else 0 by rw [HW.out, longB_of p (by omega)])
        have hpa := rparts_any ⟨p.toArray⟩ (by rw [hs]; exact hp)
        have e1 : (⟨p.toArray⟩ : ByteArray).data.toList = p := rfl
        rw [e1] at hpa
        have HPA := Lib.hid hpa
        have HCL := Lib.hid (count_parts p)
        obtain ⟨N, hNe⟩ : ∃ N, N = partsL p := ⟨_, rfl⟩
        rw [← hNe] at HPA HW2 HCL
        have hl1 : p.length ≤ 1024 := by omega
        clear hpa e1 hNe hl HW
        go_enter Try.func32, Try.ntmps32
        go_wp2_with fail
        refine (dir4_known _ _ _ _ _ L _ HD.out _ HM.out).mono ?_
        rintro e w2 ⟨rfl, hb2⟩
        have HB2 := Lib.hid (HB1.out.trans (hb2.mono (by simp)))
        have hs2 := HB2.out.size
        clear hb2
        go_wp2_with fail
        refine (HPA.out _).mono ?_
        rintro e w3 ⟨v3, rfl, hT3, hb3⟩
        obtain ⟨na, ncap, rfl, hc1, hc2, hcell⟩ := hT3.view
        have HC := Lib.hid hcell
        have HB3 := Lib.hid (HB2.out.trans (hb3.mono hs2))
        have hN1 : N.length ≤ 1025 := by have := HCL.out; omega
        unfold maxLen at hc2
        clear hT3 hb3 hcell HPA
        go_wp2_with fail
        go_loop [8] (fun iv => ∃ k : Nat, k ≤ N.length ∧ iv = .int .i64 k ∧ Hid (∀ j (hj : j < N.length), j < k → N[j].length ≤ 64)) (fun iv => N.length - (intOf iv).toNat)
        case atStart => exact ⟨0, by omega, rfl, fun _ _ h => absurd h (Nat.not_lt_zero _)⟩
        case round =>
          obtain ⟨k, hk, rfl, hok⟩ := hrel
          by_cases hlt : k < N.length
          · obtain ⟨nb, no, rfl, hx⟩ := HC.out k hlt
            unfold strv at hx
            have hsx := str_len N[k]
            have hk0 : (0 : Int) ≤ (k : Int) := by omega
            by_cases h64 : 64 < N[k].length
            · have HW3 := Lib.hid (show R = 36 by
                rw [HW2.out, if_pos]
                rw [List.any_eq_true]
                exact ⟨N[k], List.getElem_mem _, decide_eq_true h64⟩)
              go_wp2_with fail
              go_ret
              exact ⟨by rw [HW3.out]; rfl, HB3.out⟩
            · have HOK := Lib.hid (show ∀ j (hj : j < N.length), j < k + 1 → N[j].length ≤ 64 from fun j hj hjk => by
                by_cases e : j = k
                · subst e; omega
                · exact hok.out j hj (by omega))
              go_wp2_with fail
              go_round
              case rel => exact ⟨k + 1, by omega, by go_num, HOK⟩
              case measure => simp [intOf] <;> omega
          · have HW3 := Lib.hid (show R = 0 by
              rw [HW2.out, if_neg]
              rw [List.any_eq_true]
              rintro ⟨x, hx, h⟩
              obtain ⟨j, hj, rfl⟩ := List.getElem_of_mem hx
              have h1 := hok.out j hj (by omega)
              have h2 := of_decide_eq_true h
              omega)
            go_wp2_with fail
            go_ret
            exact ⟨by rw [HW3.out]; rfl, HB3.out⟩
end Go.Proofs.Ytfmaagcomplooaa

namespace Go.Proofs.Ytfmaagcomplooaa
set_option maxRecDepth 100000
open Go Go.RowKit Go.Shelf

attribute [local go_sem] Oper.semAt_some

theorem own_less {w : World} {b b' : Nat} {e : TypeId} {z n : Nat} {v : Value} {xs : List Value} (h : w.ownsRow b e z v n xs) (hb : b' ≤ b) : w.ownsRow b' e z v n xs := by
  obtain ⟨h1, h2 | ⟨g, cap, cur, hv, hg, r⟩⟩ := h
  · exact ⟨h1, Or.inl h2⟩
  · exact ⟨h1, Or.inr ⟨g, cap, cur, hv, by omega, r⟩⟩

theorem parts_le (l : List UInt8) : (partsL l).length ≤ l.length + 1 := by
  have h : ∀ (l cur : List UInt8), (partsGo cur l).length ≤ l.length + 1 := by
    intro l
    induction l with
    | nil => intro cur; unfold partsGo; split <;> simp
    | cons c r ih =>
      intro cur
      unfold partsGo
      split
      · split
        · have := ih []; simp; omega
        · have := ih []; simp only [List.length_cons]; omega
      · have := ih (cur ++ [c]); simp only [List.length_cons]; omega
  exact h l []

set_option maxRecDepth 100000 in
set_option maxHeartbeats 2000000 in
theorem parts_in (F : Fence) (hF : Open F) (n : Nat) (hn : 3 ≤ n) (s : ByteArray) (hs : s.size ≤ 1073741824) (w : World) :
    CallsIn F n Try.prog 70 #[.string s] w fun e W' => ∃ v, e = .returned v ∧ Texts w.heap.size W' v (partsL s.data.toList) ∧ Below w.heap.size w W' := by
  have hro : F.round = none := hF.ro
  have h23 : F.fn 85 := hF.fn _
  have h1 : 1 ≤ n := by omega
  have hpl := parts_le s.data.toList
  rw [size_list] at hpl
  obtain ⟨i0, hi, hz0, hz1, hz2⟩ := info_parts infoS
  refine callsIn_of_wp_marks Try.func70 rfl (hF.fn _) ?_ hro
  simp only [Try.ntmps70, List.size_toArray, List.length_cons, List.length_nil, Nat.reduceAdd, Nat.reduceSub, Array.replicate_succ, Array.replicate_zero, List.push_toArray, List.append_toArray, List.nil_append, List.cons_append]
  gi_wp2_with (gi_at_call 85; refine (names_in F hF (n - 1) _ _).mono ?_; rintro e w' ⟨rfl, rfl⟩)
  have bO := Boxed.new w 42 (.slice none 0 0)
  have bN := Boxed.new (w.alloc (.cells #[.slice none 0 0] 42)) 9 (.string s)
  rw [World.size_alloc] at bN
  have hB0 : Below w.heap.size w ((w.alloc (.cells #[.slice none 0 0] 42)).alloc (.cells #[.string s] 9)) := ((Below.refl _ w).alloc (Nat.le_refl _) _).alloc (by simp) _
  refine wpIn_rangeFunc_ownG hro h1 (gf := 92) (lb := #[.pointer (some ⟨w.heap.size + 1, 0, none⟩)]) rfl (hF.fn _) (enters_of Try.func92 (by kernel_rfl) rfl)
    (names_stops F hF (n - 1) (by omega) (w.heap.size + 1) s hs _ (by simp) bN.cell) keepB_t (keepB_b (by simp)) (Below.refl _ _) (fun _ => rfl)
    (fun pre W => (∃ v, Boxed W w.heap.size 42 v ∧ W.ownsRow (w.heap.size + 2) 9 1 v pre.length (pre.map strv) ∧ True) ∧ Boxed W (w.heap.size + 1) 9 (.string s) ∧ Below w.heap.size w W)
    (fun _ _ _ => False)
    (OwnFrom.and (Own.from (holdsRow_own (w.heap.size + 2) w.heap.size 42 9 1 (fun pre : List (List UInt8) => pre.length) (fun pre => pre.map strv) (fun _ _ => True)) _) (OwnFrom.and (Own.from (boxed_own _ _ _) _) (ownFrom_below (Nat.le_refl _) (by simp; omega))))
    (fun _ _ _ _ _ hs _ _ => hs)
    ⟨⟨_, bO.alloc _, World.ownsRow_nil _ _ _ _, trivial⟩, bN, hB0⟩
    (fun x => { tmps := #[.string s, undef, .slice none 0 0, .pointer (some ⟨w.heap.size, 0, none⟩), .string ⟨x.toArray⟩, .string s, .func (.func 92) #[] #[.pointer (some ⟨w.heap.size + 1, 0, none⟩)], .string ⟨x.toArray⟩, undef, undef, undef, undef, undef], defers := [] }) ?assign ?body ?done ?stop
  case assign =>
    intro l x W K hK
    gi_wp2
    exact hK
  case body =>
    rintro l pre x W ⟨⟨v, hv, hrow, -⟩, hp, hB⟩ hlt
    have hc := hv.cell
    have hpz := hp.lt
    have hne : ∀ k, v.ownBlock = some k → k ≠ w.heap.size + 1 := fun k e => by have := (hrow.lt k e).1; omega
    gi_wp2_with (gi_at_builtin; refine wpListIn_append_own _ rfl _ _ 42 rfl (w.heap.size + 2) 9 i0 (.string ByteArray.empty) 1 16 Try.underlying42 hi hz0 hz1 hz2 rfl (by decide) _ _ _ rfl (hrow.alloc _) ⟨W.heap.size, 0, none⟩ 1 1 [.string ⟨x.toArray⟩] rfl rfl (cell_one_new _ _ _) (fun x hx => by simp at hx; subst hx; rfl) (by unfold maxLen; omega) (by omega) (by simp; omega) ?_; intro v' w1 hown' hgrow _; obtain ⟨g', cap', rfl⟩ := ownsRow_succ hown'; obtain ⟨hv1, hv2, hr2, hk2, hb2⟩ := hv.appended (by decide) (own_less hrow (Nat.le_add_right _ 2)) hB.size (Nat.le_refl _) (own_less hown' (Nat.le_add_right _ 2)) hgrow; have hc1 := hv1.cell; have hf1 := hv1.frozen)
    have hp1 := (hp.alloc (.cells #[.string ⟨x.toArray⟩] 9)).kept hgrow (fun e => hne _ e.symm rfl)
    refine ⟨hk2.from _, ?_, ⟨_, hv2, ?_, trivial⟩, hp1.other (by omega) _, hB.trans hb2⟩
    · exact ((hp1.other (B' := w.heap.size) (by omega) _).trans hp.symm)
    · simpa [strv] using hown'.kept (grownBy_setCell' _ w.heap.size _) (.inr (hv1.not_row (by decide) hown').symm)
  case done =>
    rintro D ys W hD rfl ⟨⟨v, hv, hrow, -⟩, -, hB⟩ hK
    have hc := hv.cell
    gi_wp2
    refine ⟨by simp, .inl ⟨_, _, rfl, run_takeDeferred hK, ?_⟩⟩
    exact ⟨_, results_tmp rfl _ _ _, v, rfl, ownsRow_putObj (own_less hrow (Nat.le_add_right _ 2)) _ hK rfl, hB.trans (belowK_b (w := w) (Nat.le_refl _) W D _ _ (by simp at hD; omega) hK rfl rfl)⟩
  case stop =>
    rintro D c pre W _ _ h _
    exact h.elim

/-- Parts, as the law calls it. -/
theorem parts_any (s : ByteArray) (hs : s.size ≤ 1073741824) (w : World) :
    Calls Try.prog 70 #[.string s] w fun e W' => ∃ v, e = .returned v ∧ Texts w.heap.size W' v (partsL s.data.toList) ∧ Below w.heap.size w W' :=
  callsIn_wide.1 (parts_in Fence.wide open_wide 3 (Nat.le_refl _) s hs w)
end Go.Proofs.Ytfmaagcomplooaa

namespace Go.Proofs.Ytfmaagcomplooaa
set_option maxRecDepth 100000
open Go Go.RowKit

set_option maxHeartbeats 1000000 in
theorem kind_known (a : Option Addr) (cap : Nat) (m b k : Int) (L : List Ino) (v : Int) (hv : kindL L k = v) (w : World) (hN : NodesIn w a cap L) :
    Calls Try.prog 60 #[.agg #[.slice a L.length cap, .int .i64 m, .int .i64 b], .int .i64 k] w fun e w' => e = .returned (.int .i64 v) ∧ Below w.heap.size w w' := by
  subst hv
  have hb1 := below_box w (.cells #[.slice a L.length cap, .int .i64 m, .int .i64 b] 24)
  have HB1 := Lib.hid hb1
  have hcap := hN.1
  have hmax := hN.2.1
  unfold maxLen at hmax
  cases ht : thereB L k with
  | true =>
    obtain ⟨n, rfl, hn⟩ := there_nat ht
    obtain ⟨bb, o, rfl, hx⟩ := (hN.below hb1).2.2 n hn
    have h1 := hx.kind
    have hd0 : (0 : Int) ≤ (n : Int) := by omega
    have hd1 : (n : Int) < (L.length : Int) := by omega
    have HV := Lib.hid (show kindL L (n : Int) = L[n].kind by unfold kindL; rw [ht, if_pos rfl, node_nat L n hn])
    clear hN hb1 ht hx
    go_enter Try.func60, Try.ntmps60
    go_wp2_with fail
    go_ret
    exact ⟨by rw [HV.out]; rfl, HB1.out⟩
  | false =>
    have HV := Lib.hid (show kindL L k = 0 by unfold kindL; rw [ht]; rfl)
    rcases there_not ht with h | h
    · clear hN hb1 ht
      go_enter Try.func60, Try.ntmps60
      go_wp2_with fail
      go_ret
      exact ⟨by rw [HV.out]; rfl, HB1.out⟩
    · have h0 : (0 : Int) ≤ k := by omega
      clear hN hb1 ht
      go_enter Try.func60, Try.ntmps60
      go_wp2_with fail
      go_ret
      exact ⟨by rw [HV.out]; rfl, HB1.out⟩

theorem kind_dir {L : List Ino} {k : Int} : (kindL L k != 2) = !dirB L k := by
  unfold kindL dirB
  cases thereB L k with
  | false => rfl
  | true => rw [if_pos rfl, Bool.true_and]; rfl
theorem kind_live {L : List Ino} {k : Int} : (kindL L k == 0) = !liveB L k := by
  unfold kindL liveB
  cases thereB L k with
  | false => rfl
  | true => rw [if_pos rfl, Bool.true_and]; simp [bne]

theorem bits_nat : ∀ q : Nat, q < 8 → ∀ x : Nat, x < 8 → (bits BinOp.and IntKind.i64 (q : Int) (x : Int) == (x : Int)) = bitsB (q : Int) (x : Int) := by decide +kernel
theorem bits_ok (q x : Int) (h1 : 0 ≤ q) (h2 : q ≤ 7) (h3 : 0 ≤ x) (h4 : x ≤ 7) : (bits BinOp.and IntKind.i64 q x == x) = bitsB q x := by
  obtain ⟨n, rfl⟩ : ∃ n : Nat, q = (n : Int) := ⟨q.toNat, by omega⟩
  obtain ⟨k, rfl⟩ : ∃ k : Nat, x = (k : Int) := ⟨x.toNat, by omega⟩
  exact bits_nat n (by omega) k (by omega)

set_option maxHeartbeats 2000000 in
theorem lmayw_known (a : Option Addr) (cap : Nat) (m b k what : Int) (L : List Ino) (hI : AllFit L) (v : Bool) (hv : mayL L k what = v) (w : World) (hN : NodesIn w a cap L) :
    Calls Try.prog 64 #[.agg #[.slice a L.length cap, .int .i64 m, .int .i64 b], .int .i64 k, .int .i64 what] w fun e w' => e = .returned (.bool v) ∧ Below w.heap.size w w' := by
  subst hv
  have hb1 := below_box w (.cells #[.slice a L.length cap, .int .i64 m, .int .i64 b] 24)
  have HB1 := Lib.hid hb1
  have hcap := hN.1
  have hmax := hN.2.1
  unfold maxLen at hmax
  have HM := Lib.hid (hN.below hb1)
  by_cases hw : 0 ≤ what ∧ what ≤ 7
  · obtain ⟨hw1, hw2⟩ := hw
    cases hl : liveB L k with
    | false =>
      obtain ⟨z, hz⟩ : ∃ z, kindL L k = z := ⟨_, rfl⟩
      have hz0 : z = 0 := by have h := kind_live (L := L) (k := k); rw [hl, hz] at h; simpa using h
      subst hz0
      have HZ := Lib.hid hz
      have HV := Lib.hid (show mayL L k what = false by unfold mayL; rw [hl]; simp)
      clear hN hb1 hl hz
      go_enter Try.func64, Try.ntmps64
      go_wp2_with (first | (go_at_call 60; refine (kind_known _ _ _ _ _ L _ HZ.out _ HM.out).mono ?_; rintro e w2 ⟨rfl, hb2⟩) | fail)
      go_ret
      exact ⟨by rw [HV.out]; rfl, HB1.out.trans (hb2.mono (by simp))⟩
    | true =>
      obtain ⟨n, rfl, hn⟩ := there_nat (live_there hl)
      obtain ⟨z, hz⟩ : ∃ z, kindL L (n : Int) = z := ⟨_, rfl⟩
      have hz0 : (z == 0) = false := by have h := kind_live (L := L) (k := (n : Int)); rw [hl, hz] at h; simpa using h
      have HZ := Lib.hid hz
      obtain ⟨bb, o, rfl, hx⟩ := HM.out.2.2 n hn
      have h1 := hx.mode
      have hd0 : (0 : Int) ≤ (n : Int) := by omega
      have hd1 : (n : Int) < (L.length : Int) := by omega
      have HV := Lib.hid (show mayL L (n : Int) what = bitsB L[n].mode what by unfold mayL; rw [hl, node_nat L n hn, decide_eq_true hw1, decide_eq_true hw2]; rfl)
      have hmr := mode_range hI (there_of L n hn)
      rw [node_nat L n hn] at hmr
      obtain ⟨q, hq⟩ : ∃ q, q = L[n].mode := ⟨_, rfl⟩
      rw [← hq] at h1 HV hmr
      obtain ⟨hq1, hq2⟩ := hmr
      rw [HV.out]
      clear hN hb1 hl hx hq hI hz
      go_enter Try.func64, Try.ntmps64
      go_wp2_with (first | (go_at_call 60; refine (kind_known _ _ _ _ _ L _ HZ.out _ HM.out).mono ?_; rintro e w2 ⟨rfl, hb2⟩; obtain ⟨q0, q1, q2⟩ := box3 hb2; have h2 := cell_below hb2 h1) | fail)
      go_ret
      refine ⟨?_, HB1.out.trans (hb2.mono (by simp))⟩
      show Ending.returned (Value.bool _) = Ending.returned (Value.bool _)
      congr 2
      exact bits_ok q what hq1 hq2 hw1 hw2
  · have HV := Lib.hid (show mayL L k what = false by
      unfold mayL
      by_cases h1 : 0 ≤ what
      · rw [decide_eq_false (show ¬ what ≤ 7 from fun h2 => hw ⟨h1, h2⟩)]
        simp
      · rw [decide_eq_false h1]
        rfl)
    by_cases h1 : what < 0
    · clear hN hb1 hw
      go_enter Try.func64, Try.ntmps64
      go_wp2_with fail
      go_ret
      exact ⟨by rw [HV.out]; rfl, HB1.out⟩
    · have h2 : 7 < what := by omega
      clear hN hb1 hw
      go_enter Try.func64, Try.ntmps64
      go_wp2_with fail
      go_ret
      exact ⟨by rw [HV.out]; rfl, HB1.out⟩

set_option maxHeartbeats 1000000 in
theorem long_any (x : List UInt8) (w : World) : Calls Try.prog 71 #[.string ⟨x.toArray⟩] w fun e w' => e = .returned (.bool (decide (64 < x.length))) ∧ w' = w := by
  have hs := str_len x
  by_cases h : 64 < x.length
  all_goals
    have hh : decide (64 < x.length) = _ := (by first | exact decide_eq_true h | exact decide_eq_false h)
    have HH := Lib.hid hh
    clear hh
    go_enter Try.func71, Try.ntmps71
    go_wp2_with fail
    go_ret
    refine ⟨?_, rfl⟩
    rw [HH.out]
    show Ending.returned (Value.bool _) = Ending.returned (Value.bool _)
    congr 2
    simp
    omega

set_option maxRecDepth 100000 in
set_option maxHeartbeats 4000000 in
theorem lindexF_any (N : List (List UInt8)) (hN : N.length ≤ 1048576) (v : Value) (w : World) (hV : View w v N) :
    Calls Try.prog 84 #[v, .func (.func 71) #[] #[]] w fun e w' => (∃ z : Int, e = .returned (.int .i64 z) ∧ decide (0 ≤ z) = N.any fun x => decide (64 < x.length)) ∧ w' = w := by
  obtain ⟨na, nc, rfl, hc1, hc2, hcell⟩ := hV
  unfold maxLen at hc2
  have HC := Lib.hid hcell
  obtain ⟨R, hR⟩ : ∃ R, R = N.any fun x => decide (64 < x.length) := ⟨_, rfl⟩
  have HR := Lib.hid hR
  rw [← hR]
  clear hcell hR
  go_enter Try.func84, Try.ntmps84
  go_wp2_with fail
  go_loop [5, 8] (fun _ iv => ∃ k : Nat, k ≤ N.length ∧ iv = .int .i64 k ∧ Hid (∀ j (hj : j < N.length), j < k → N[j].length ≤ 64)) (fun _ iv => N.length - (intOf iv).toNat)
  case atStart => exact ⟨0, by omega, rfl, fun _ _ h => absurd h (Nat.not_lt_zero _)⟩
  case round =>
    obtain ⟨k, hk, rfl, hok⟩ := hrel
    by_cases hlt : k < N.length
    · obtain ⟨nb, no, rfl, hx⟩ := HC.out k hlt
      unfold strv at hx
      have hk0 : (0 : Int) ≤ (k : Int) := by omega
      by_cases h64 : 64 < N[k].length
      · have HL := Lib.hid (long_any N[k])
        have HW3 := Lib.hid (show R = true by
          rw [HR.out, List.any_eq_true]
          exact ⟨N[k], List.getElem_mem _, decide_eq_true h64⟩)
        have HD := Lib.hid (decide_eq_true h64)
        go_wp2_with (first | (go_at_call 71; refine (HL.out _).mono ?_; rintro e w' ⟨rfl, rfl⟩; rw [HD.out]) | fail)
        go_ret
        exact ⟨⟨(k : Int), rfl, by rw [HW3.out]; exact decide_eq_true hk0⟩, rfl⟩
      · have HOK := Lib.hid (show ∀ j (hj : j < N.length), j < k + 1 → N[j].length ≤ 64 from fun j hj hjk => by
          by_cases e : j = k
          · subst e; omega
          · exact hok.out j hj (by omega))
        have HL := Lib.hid (long_any N[k])
        have HD := Lib.hid (decide_eq_false h64)
        go_wp2_with (first | (go_at_call 71; refine (HL.out _).mono ?_; rintro e w' ⟨rfl, rfl⟩; rw [HD.out]) | fail)
        go_round
        case rel => exact ⟨k + 1, by omega, by go_num, HOK⟩
        case measure => simp [intOf] <;> omega
    · have HW3 := Lib.hid (show R = false by
        rw [HR.out, List.any_eq_false]
        intro x hx
        obtain ⟨j, hj, rfl⟩ := List.getElem_of_mem hx
        have h1 := hok.out j hj (by omega)
        simpa using h1)
      go_wp2_with fail
      go_ret
      exact ⟨⟨-1, rfl, by rw [HW3.out]; rfl⟩, rfl⟩
end Go.Proofs.Ytfmaagcomplooaa

namespace Go.Proofs.Ytfmaagcomplooaa
set_option maxRecDepth 100000
open Go Go.RowKit

set_option maxHeartbeats 1000000 in
theorem lcontF_known (N : List (List UInt8)) (hN : N.length ≤ 1048576) (v : Value) (w : World) (hV : View w v N) (R : Bool) (hR : (N.any fun x => decide (64 < x.length)) = R) :
    Calls Try.prog 69 #[v, .func (.func 71) #[] #[]] w fun e w' => e = .returned (.bool R) ∧ w' = w := by
  have HV := Lib.hid hV
  have HR := Lib.hid hR
  clear hV hR
  go_enter Try.func69, Try.ntmps69
  go_wp2_with fail
  refine (lindexF_any N hN v _ HV.out).mono ?_
  rintro e w' ⟨⟨z, rfl, hz⟩, rfl⟩
  rw [HR.out] at hz
  have HZ := Lib.hid hz
  clear hz
  go_wp2_with fail
  go_ret
  refine ⟨?_, rfl⟩
  rw [← HZ.out]
  rfl

theorem lparts_view (p : List UInt8) (hp : p.length ≤ 1073741824) (w : World) :
    Calls Try.prog 70 #[.string ⟨p.toArray⟩] w fun e w' => ∃ v, e = .returned v ∧ View w' v (partsL p) ∧ Below w.heap.size w w' :=
  (parts_any ⟨p.toArray⟩ (by rw [str_len]; exact hp) w).mono fun e w' ⟨v, h1, h2, h3⟩ => ⟨v, h1, h2.view, h3⟩

set_option maxRecDepth 100000 in
set_option maxHeartbeats 4000000 in
theorem refused_any (a : Option Addr) (cap : Nat) (m b cwd : Int) (p : List UInt8) (hp : p.length ≤ 1073741824) (L : List Ino) (w : World) (hN : NodesIn w a cap L) :
    Calls Try.prog 56 #[.agg #[.slice a L.length cap, .int .i64 m, .int .i64 b], .int .i64 cwd, .string ⟨p.toArray⟩] w fun e w' => e = .returned (.int .i64 (badW L cwd p)) ∧ Below w.heap.size w w' := by
  have hb1 := below_box w (.cells #[.slice a L.length cap, .int .i64 m, .int .i64 b] 24)
  have HM := Lib.hid (hN.below hb1)
  have HB1 := Lib.hid hb1
  have hs := str_len p
  obtain ⟨R, hR⟩ : ∃ R, R = badW L cwd p := ⟨_, rfl⟩
  rw [← hR]
  have HR := Lib.hid hR
  clear hN hb1 hR
  by_cases hp0 : p = []
  · subst hp0
    have HW := Lib.hid (show R = 2 by rw [HR.out]; unfold badW; rw [if_pos (Or.inl rfl)])
    go_enter Try.func56, Try.ntmps56
    go_wp2_with fail
    go_ret
    exact ⟨by rw [HW.out]; rfl, HB1.out⟩
  · have hpb : (p == []) = false := by simpa using hp0
    obtain ⟨z, hz⟩ : ∃ z, kindL L cwd = z := ⟨_, rfl⟩
    have HZ := Lib.hid hz
    have hzd := kind_dir (L := L) (k := cwd)
    rw [hz] at hzd
    cases hd : dirB L cwd with
    | false =>
      rw [hd] at hzd
      have HW := Lib.hid (show R = 2 by rw [HR.out]; unfold badW; rw [if_pos (Or.inr hd)])
      clear hd hp0 hz
      simp only [Bool.not_false] at hzd
      go_enter Try.func56, Try.ntmps56
      go_wp2_with (first | (go_at_call 60; refine (kind_known _ _ _ _ _ L _ HZ.out _ HM.out).mono ?_; rintro e w2 ⟨rfl, hb2⟩) | fail)
      go_ret
      exact ⟨by rw [HW.out]; rfl, HB1.out.trans (hb2.mono (by simp))⟩
    | true =>
      rw [hd] at hzd
      have HW := Lib.hid (show R = if longB p then 36 else 0 by rw [HR.out]; unfold badW; rw [if_neg (by simp [hp0, hd])])
      clear hd hp0 hz
      simp only [Bool.not_true] at hzd
      by_cases hl : 1024 < p.length
      · have HW2 := Lib.hid (show R = 36 by rw [HW.out]; unfold longB; rw [decide_eq_true hl]; rfl)
        go_enter Try.func56, Try.ntmps56
        go_wp2_with (first | (go_at_call 60; refine (kind_known _ _ _ _ _ L _ HZ.out _ HM.out).mono ?_; rintro e w2 ⟨rfl, hb2⟩) | fail)
        go_ret
        exact ⟨by rw [HW2.out]; rfl, HB1.out.trans (hb2.mono (by simp))⟩
      · have hl1 : p.length ≤ 1024 := by omega
        have HCL := Lib.hid (show (partsL p).length ≤ 1048576 by have := count_parts p; omega)
        have hlf : decide (1024 < p.length) = false := decide_eq_false hl
        obtain ⟨lb, hlb⟩ : ∃ lb, ((partsL p).any fun x => decide (64 < x.length)) = lb := ⟨_, rfl⟩
        have HLB := Lib.hid hlb
        have HW2 := Lib.hid (show R = if lb = true then 36 else 0 by rw [HW.out, longB_of p hl1, hlb])
        clear hl hlb HW
        go_enter Try.func56, Try.ntmps56
        go_wp2_with fail
        refine (kind_known _ _ _ _ _ L _ HZ.out _ HM.out).mono ?_
        rintro e w2 ⟨rfl, hb2⟩
        have HB2 := Lib.hid (HB1.out.trans (hb2.mono (by simp)))
        clear hb2
        go_wp2_with fail
        refine (lparts_view p hp _).mono ?_
        rintro e w3 ⟨v3, rfl, hv3, hb3⟩
        have HV := Lib.hid hv3
        have HB3 := Lib.hid (HB2.out.trans (hb3.mono HB2.out.size))
        clear hv3 hb3
        go_wp2_with fail
        refine (lcontF_known _ HCL.out _ _ HV.out lb HLB.out).mono ?_
        rintro e w' ⟨rfl, rfl⟩
        cases lb
        all_goals
          go_wp2_with fail
          go_ret
          exact ⟨by rw [HW2.out]; rfl, HB3.out⟩
end Go.Proofs.Ytfmaagcomplooaa

namespace Go.Proofs.Ytfmaagcomplooaa
set_option maxRecDepth 100000
open Go Go.RowKit

set_option maxHeartbeats 1000000 in
theorem lisdir_known (a : Option Addr) (cap : Nat) (m b k : Int) (L : List Ino) (v : Bool) (hv : dirB L k = v) (w : World) (hN : NodesIn w a cap L) :
    Calls Try.prog 78 #[.agg #[.slice a L.length cap, .int .i64 m, .int .i64 b], .int .i64 k] w fun e w' => e = .returned (.bool v) ∧ Below w.heap.size w w' := by
  have hb1 := below_box w (.cells #[.slice a L.length cap, .int .i64 m, .int .i64 b] 24)
  have hM := hN.below hb1
  have HM := Lib.hid hM
  have hcap := hN.1
  have hmax := hN.2.1
  unfold maxLen at hmax
  clear hM hN
  by_cases h0 : 0 ≤ k
  · by_cases h1 : k < L.length
    · obtain ⟨n, rfl⟩ : ∃ n : Nat, k = (n : Int) := ⟨k.toNat, by omega⟩
      have hn : n < L.length := by omega
      have hd : dirB L (n : Int) = (L[n].kind == 2) := by unfold dirB; rw [there_of L n hn, node_nat L n hn]; rfl
      rw [hd] at hv
      subst hv
      obtain ⟨bb, o, rfl, hx⟩ := HM.out.2.2 n hn
      have x0 := hx.kind
      clear hx hd
      go_enter Try.func78, Try.ntmps78
      go_wp2_with fail
      all_goals
        go_ret
        exact ⟨rfl, hb1⟩
    · have hd : dirB L k = false := by unfold dirB thereB; rw [decide_eq_false h1, Bool.and_false, Bool.false_and]
      rw [hd] at hv
      subst hv
      clear hd
      go_enter Try.func78, Try.ntmps78
      go_wp2_with fail
      all_goals
        go_ret
        exact ⟨rfl, hb1⟩
  · have hd : dirB L k = false := by unfold dirB thereB; rw [decide_eq_false h0, Bool.false_and, Bool.false_and]
    rw [hd] at hv
    subst hv
    clear hd
    go_enter Try.func78, Try.ntmps78
    go_wp2_with fail
    all_goals
      go_ret
      exact ⟨rfl, hb1⟩
end Go.Proofs.Ytfmaagcomplooaa
