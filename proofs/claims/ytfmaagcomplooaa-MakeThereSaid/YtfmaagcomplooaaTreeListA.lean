/-
  The reference's list: all paths beneath a directory.
  The reference's List: all paths of a tree.
  The reference's Same: are two rows of texts the same?
-/
import Derived.BigRegion
import Derived.Deep.Draws
import Derived.Test.YtfmaagcomplooaaK3
import Derived.Test.YtfmaagcomplooaaK15
import Derived.Deep.RegionHeld3
import Derived.Test.YtfmaagcomplooaaK1
import Derived.Deep.QuietTactic
import Derived.BigQuiet
namespace Go.Proofs.Ytfmaagcomplooaa
set_option maxRecDepth 100000
open Go Go.RowKit

theorem wrap_succ (d : Nat) (h : d ≤ 100000) : Value.int .i64 (IntKind.i64.wrap ((d : Int) + 1)) = .int .i64 (((d + 1 : Nat)) : Int) := by
  rw [IntWalk.i64_in _ ⟨by omega, by omega⟩]
  rfl

def ListRel (w1 : World) (M : List (List UInt8 × Int)) (f : List UInt8 × Int → List (List UInt8)) (v iv : Value) (wr : World) : Prop :=
  ∃ k : Nat, k ≤ M.length ∧ iv = .int .i64 k ∧ Texts w1.heap.size wr v ((M.take k).flatMap f) ∧ Below w1.heap.size w1 wr

set_option maxRecDepth 100000 in
set_option maxHeartbeats 4000000 in
theorem rlist_any (a : Option Addr) (cap : Nat) (m b : Int) (L : List Ino) (hL : L.length ≤ 300) (hF : Falls L) : ∀ (n : Nat) (d deep : Nat) (p : List UInt8) (w : World), deep + n = L.length + 1 → d < L.length → p.length ≤ deep * 65 → (listGo L n d p).length ≤ 1048576 → NodesIn w a cap L →
    Calls Try.prog 41 #[.agg #[.slice a L.length cap, .int .i64 m, .int .i64 b], .int .i64 d, .string ⟨p.toArray⟩, .int .i64 deep] w fun e w' => ∃ v, e = .returned v ∧ Texts w.heap.size w' v (listGo L n d p) ∧ Below w.heap.size w w' := by
  intro n
  induction n with
  | zero =>
    intro d deep p w hdn hd hp hlen hN
    have hb1 := below_box w (.cells #[.slice a L.length cap, .int .i64 m, .int .i64 b] 24)
    obtain ⟨w1, hw1⟩ : ∃ w1, w1 = w.alloc (.cells #[.slice a L.length cap, .int .i64 m, .int .i64 b] 24) := ⟨_, rfl⟩
    have hbox : ∀ W', Below w1.heap.size w1 W' → W'.cell? ⟨w.heap.size, 0, none⟩ = some (.slice a L.length cap) ∧ W'.cell? ⟨w.heap.size, 1, none⟩ = some (.int .i64 m) ∧ W'.cell? ⟨w.heap.size, 2, none⟩ = some (.int .i64 b) := fun W' h => box3 (by rw [← hw1]; exact h)
    have hsz1 : w1.heap.size = w.heap.size + 1 := by rw [hw1]; simp
    rw [← hw1] at hb1
    obtain ⟨q0, q1, q2⟩ := hbox _ (Below.refl _ _)
    have g0 : w.heap.size < w1.heap.size := by omega
    have hd0 : (0 : Int) ≤ (d : Int) := by omega
    have hdl : (L.length : Int) < (deep : Int) := by omega
    have hdl2 : (deep : Int) ≤ 301 := by omega
    have HB1 := Lib.hid hb1
    have hNN := hN.below (below_box w (.cells #[.slice a L.length cap, .int .i64 m, .int .i64 b] 24))
    rw [← hw1] at hNN
    obtain ⟨bb, o, rfl, hx⟩ := hNN.2.2 d hd
    obtain ⟨kv, x4, hks⟩ := hx.kids
    obtain ⟨M, hMe⟩ : ∃ M, M = L[d].kids := ⟨_, rfl⟩
    rw [← hMe] at hks
    obtain ⟨ka, kcap, rfl, hkc, hkm, hkk⟩ := hks
    unfold maxLen at hkm
    have HX := Lib.hid hbox
    clear hN hNN hx hbox hb1 hMe hkk
    rw [hw1] at x4 q0 q1 q2 g0
    go_enter Try.func41, Try.ntmps41
    go_wp2_with fail
    rw [← hw1]
    clear hw1 x4 q0 q1 q2 g0
    go_loopw [9, 11, 12] (fun v iv _ wr => v = .slice none 0 0 ∧ iv = .int .i64 0 ∧ Below w1.heap.size w1 wr) (fun _ _ _ _ => 0)
    case atStart => exact ⟨rfl, rfl, Below.refl _ _⟩
    case round =>
      obtain ⟨rfl, rfl, hbr⟩ := hrel
      obtain ⟨q0, q1, q2⟩ := HX.out _ hbr
      have hszr := hbr.size
      have g0 : w.heap.size < wr.heap.size := by omega
      have HBR := Lib.hid hbr
      clear hbr
      cases M with
      | nil =>
        go_wp2_with fail
        go_ret
        exact ⟨_, rfl, World.ownsRow_nil _ _ _ _, HB1.out.trans (HBR.out.mono (by omega))⟩
      | cons e r =>
        have hlp : (0 : Int) < ((e :: r).length : Int) := by simp
        go_wp2_with fail
        go_ret
        exact ⟨_, rfl, World.ownsRow_nil _ _ _ _, HB1.out.trans (HBR.out.mono (by omega))⟩
  | succ n ih =>
    intro d deep p w hdn hd hp hlen hN
    have IH := Lib.hid ih
    clear ih
    have hb1 := below_box w (.cells #[.slice a L.length cap, .int .i64 m, .int .i64 b] 24)
    obtain ⟨w1, hw1⟩ : ∃ w1, w1 = w.alloc (.cells #[.slice a L.length cap, .int .i64 m, .int .i64 b] 24) := ⟨_, rfl⟩
    have hbox : ∀ W', Below w1.heap.size w1 W' → W'.cell? ⟨w.heap.size, 0, none⟩ = some (.slice a L.length cap) ∧ W'.cell? ⟨w.heap.size, 1, none⟩ = some (.int .i64 m) ∧ W'.cell? ⟨w.heap.size, 2, none⟩ = some (.int .i64 b) := fun W' h => box3 (by rw [← hw1]; exact h)
    have hsz1 : w1.heap.size = w.heap.size + 1 := by rw [hw1]; simp
    have hNN := hN.below hb1
    obtain ⟨bb, o, rfl, hx⟩ := hNN.2.2 d hd
    obtain ⟨kv, x4, hks⟩ := hx.kids
    obtain ⟨M, hMe⟩ : ∃ M, M = L[d].kids := ⟨_, rfl⟩
    rw [← hMe] at hks
    obtain ⟨ka, kcap, rfl, hkc, hkm, hkk⟩ := hks
    unfold maxLen at hkm
    obtain ⟨f, hfe⟩ : ∃ f, f = listOne L n p := ⟨_, rfl⟩
    have hlg : listGo L (n + 1) d p = M.flatMap f := by rw [list_succ, node_nat L d hd, hMe, hfe]
    rw [hlg] at hlen ⊢
    have HF := Lib.hid (show ∀ e ∈ M, thereB L e.2 = true ∧ e.1.length ≤ 64 by rw [hMe]; exact hF d hd)
    have HFE := Lib.hid hfe
    rw [← hw1] at hNN hkk hb1
    have HK := Lib.hid hkk
    have HN := Lib.hid hN
    have HN1 := Lib.hid hNN
    have HX := Lib.hid hbox
    have HB1 := Lib.hid hb1
    have hd0 : (0 : Int) ≤ (d : Int) := by omega
    have hdl : (deep : Int) ≤ (L.length : Int) := by omega
    clear hlg hMe hfe hkk hx hN hNN hbox hb1
    go_enter Try.func41, Try.ntmps41
    go_wp2_with fail
    rw [← hw1]
    clear hw1 x4
    go_loopw [9, 11, 12] (fun v iv _ wr => ListRel w1 M f v iv wr) (fun _ iv _ _ => M.length - (intOf iv).toNat)
    case atStart => exact ⟨0, by omega, rfl, World.ownsRow_nil _ _ _ _, Below.refl _ _⟩
    case round =>
      obtain ⟨k, hk, rfl, hT, hbr⟩ := hrel
      obtain ⟨i0, hi, hz0, hz1, hz2⟩ := info_parts infoS
      have hfl := flat_len M f k
      have HO := Lib.hid (show wr.ownsRow w1.heap.size 9 1 _ ((M.take k).flatMap f).length (((M.take k).flatMap f).map strv) from hT)
      have HBR := Lib.hid hbr
      obtain ⟨q0, q1, q2⟩ := HX.out _ hbr
      have hszr := hbr.size
      have g0 : w.heap.size < wr.heap.size := by omega
      clear hT hbr
      by_cases hlt : k < M.length
      · obtain ⟨c1, p1, rfl, z0, z1⟩ := HK.out k hlt
        have y0 := cell_below HBR.out z0
        have y1 := cell_below HBR.out z1
        have gc : c1 < wr.heap.size := cell_lt y0
        obtain ⟨hth, hnl⟩ := HF.out M[k] (List.getElem_mem _)
        obtain ⟨u, hu1, hu2⟩ := there_nat hth
        have hss := str_len p
        have hsn := str_len M[k].1
        have hcat := cat_slash p M[k].1
        have hfk := flat_take M f k hlt
        have hfl2 := flat_len M f (k + 1)
        rw [hu1] at y1
        have hu0 : (0 : Int) ≤ (u : Int) := by omega
        have HZ := Lib.hid z1
        obtain ⟨bb', o', e1, hy⟩ := HN1.out.2.2 u hu2
        obtain ⟨rfl, rfl⟩ : bb' = bb ∧ o' = o := by simpa [eq_comm] using e1
        have HY := Lib.hid hy.kind
        have hnu : (nodeAt L M[k].2).kind = L[u].kind := by rw [hu1, node_nat L u hu2]
        have hf1 : f M[k] = (p ++ 47 :: M[k].1) :: (if L[u].kind = 2 then listGo L n (u : Int) (p ++ 47 :: M[k].1) else []) := by rw [HFE.out, ← hu1, ← hnu]; rfl
        have HF1 := Lib.hid hf1
        have HFK := Lib.hid hfk
        have HU1 := Lib.hid hu1
        clear z0 z1 hth e1 hy hf1 hfk hnu hu1
        go_wp2_with (first | (at_builtin; (refine wpList_append_own _ rfl _ _ 42 rfl w1.heap.size 9 i0 (.string ByteArray.empty) 1 16 Try.underlying42 hi hz0 hz1 hz2 rfl (by decide) _ _ _ rfl (HO.out.alloc _) ⟨wr.heap.size, 0, none⟩ 1 1 [.string ⟨(p ++ 47 :: M[k].1).toArray⟩] rfl rfl (cell_one_new _ _ _) (fun x hx => by simp at hx; subst hx; rfl) (by unfold maxLen; omega) (by omega) (by simp; omega) ?_); intro v' w3 hown' hgrow3 hnil3) | fail)
        have hb3 : Below w1.heap.size wr w3 := ((Below.refl _ wr).alloc hszr _).grown hgrow3 (by simp; omega) (fun r hr => (HO.out.lt r hr).1)
        have hT3 : Texts w1.heap.size w3 v' ((M.take k).flatMap f ++ [p ++ 47 :: M[k].1]) := Texts.grow hown'
        have hb3w : Below w1.heap.size w1 w3 := HBR.out.trans hb3
        obtain ⟨r0, r1, r2⟩ := HX.out _ hb3w
        have s1 := cell_below hb3w HZ.out
        have s2 := cell_below hb3w HY.out
        rw [HU1.out] at s1
        have hsz3 := hb3w.size
        have HT3 := Lib.hid hT3
        have HB3 := Lib.hid hb3w
        clear hb3 hT3 hb3w hown' hgrow3 hnil3 q0 q1 q2 y0 y1 HO
        cases hz : (L[u].kind == 2) with
        | false =>
          have hnext := Lib.hid (show (M.take (k + 1)).flatMap f = (M.take k).flatMap f ++ [p ++ 47 :: M[k].1] by rw [HFK.out, HF1.out, if_neg (by simpa using hz)])
          go_region
          all_goals
            go_wp2_with fail
            go_roundw
            case rel => exact ⟨k + 1, by omega, by go_num, by rw [hnext.out]; exact HT3.out, ⟨HB3.out.os, HB3.out.tape, HB3.out.output, HB3.out.size, HB3.out.block⟩⟩
            case measure => simp [intOf] <;> omega
        | true =>
          have hnext := Lib.hid (show (M.take (k + 1)).flatMap f = ((M.take k).flatMap f ++ [p ++ 47 :: M[k].1]) ++ listGo L n (u : Int) (p ++ 47 :: M[k].1) by rw [HFK.out, HF1.out, if_pos (by simpa using hz)]; simp)
          have hcall := Lib.hid (show ∀ W, Below w1.heap.size w1 W → Calls Try.prog 41 #[.agg #[.slice (some ⟨bb', o', none⟩) L.length cap, .int .i64 m, .int .i64 b], .int .i64 u, .string ⟨(p ++ 47 :: M[k].1).toArray⟩, .int .i64 (IntKind.i64.wrap ((deep : Int) + 1))] W fun e w' => ∃ v, e = .returned v ∧ Texts W.heap.size w' v (listGo L n (u : Int) (p ++ 47 :: M[k].1)) ∧ Below W.heap.size W w' from fun W hW => by
            have hsub : (listGo L n (u : Int) (p ++ 47 :: M[k].1)).length ≤ 1048576 := by
              have h := congrArg List.length hnext.out
              simp only [List.length_append] at h
              omega
            have h := IH.out u (deep + 1) (p ++ 47 :: M[k].1) W (by omega) hu2 (by simp only [List.length_append, List.length_cons]; omega) hsub (HN1.out.below hW)
            rw [show Value.int .i64 (((deep + 1 : Nat)) : Int) = .int .i64 (IntKind.i64.wrap ((deep : Int) + 1)) from (wrap_succ deep (by omega)).symm] at h
            exact h)
          have HZ2 := Lib.hid (show w1.cell? ⟨c1, p1 + k * 2 + 1, none⟩ = some (.int .i64 (u : Int)) by
            have h := HZ.out
            rw [HU1.out] at h
            exact h)
          have hlen2 : ((M.take k).flatMap f ++ [p ++ 47 :: M[k].1]).length + (listGo L n (u : Int) (p ++ 47 :: M[k].1)).length ≤ 1048576 := by
            have h := congrArg List.length hnext.out
            rw [List.length_append] at h
            omega
          go_region
          go_wp2_with fail
          go_region_held3 (fun W => W.cell? ⟨w.heap.size, 0, none⟩ = some (.slice (some ⟨bb', o', none⟩) L.length cap) ∧ W.cell? ⟨w.heap.size, 1, none⟩ = some (.int .i64 m) ∧ W.cell? ⟨w.heap.size, 2, none⟩ = some (.int .i64 b) ∧ W.cell? ⟨c1, p1 + k * 2 + 1, none⟩ = some (.int .i64 (u : Int)))
            (first | (exact ⟨r0, r1, r2, s1⟩) | (exact ⟨cell_below hb5' r0, cell_below hb5' r1, cell_below hb5' r2, cell_below hb5' s1⟩) | (exact ⟨t0, t1, t2, t3⟩))
            (first
              | (refine step_append_texts hT4 hT5 hlen2 hb4 rfl _ _ rfl rfl rfl ?_; intro v6 w6 hT6 hb6; have hb6' : Below w1.heap.size w1 w6 := (HB3.out.trans (hb5'.mono hsz3)).trans hb6; obtain ⟨t0, t1, t2⟩ := HX.out _ hb6'; have t3 := cell_below hb6' HZ2.out)
              | (go_at_call 41; refine (hcall.out _ ?_).mono ?_; (exact ⟨HB3.out.os, HB3.out.tape, HB3.out.output, HB3.out.size, HB3.out.block⟩); rintro e w5 ⟨v5, rfl, hT5, hb5⟩; have hb5' : Below w3.heap.size w3 w5 := ⟨hb5.os, hb5.tape, hb5.output, hb5.size, hb5.block⟩; have hT4 : Texts w1.heap.size w5 v' ((M.take k).flatMap f ++ [p ++ 47 :: M[k].1]) := Texts.below HT3.out hb5'; have hb4 : w1.heap.size ≤ w5.heap.size := Nat.le_trans hsz3 hb5.size))
          all_goals
            have HT6 := Lib.hid hT6
            have HB6 := Lib.hid hb6'
            go_wp2_with fail
            go_roundw
            case rel => exact ⟨k + 1, by omega, by go_num, by rw [hnext.out]; exact HT6.out, HB6.out⟩
            case measure => simp [intOf] <;> omega
      · go_wp2_with fail
        go_ret
        exact ⟨_, rfl, by
          have h := own_less3 HO.out (show w.heap.size ≤ w1.heap.size by omega)
          rw [List.take_of_length_le (by omega)] at h
          exact h, HB1.out.trans (HBR.out.mono (by omega))⟩
end Go.Proofs.Ytfmaagcomplooaa

namespace Go.Proofs.Ytfmaagcomplooaa
open Go Go.RowKit

set_option maxHeartbeats 2000000 in
theorem rlistT_any (a : Option Addr) (cap : Nat) (m b : Int) (L : List Ino) (hL : L.length ≤ 300) (h0 : 0 < L.length) (hF : Falls L) (hlen : (listGo L (L.length + 1) 0 []).length ≤ 1048576) (w : World) (hN : NodesIn w a cap L) :
    Calls Try.prog 18 #[.agg #[.slice a L.length cap, .int .i64 m, .int .i64 b]] w fun e w' => ∃ v, e = .returned v ∧ Texts w.heap.size w' v (listGo L (L.length + 1) 0 []) ∧ Below w.heap.size w w' := by
  have hb1 := below_box w (.cells #[.slice a L.length cap, .int .i64 m, .int .i64 b] 24)
  have hM := hN.below hb1
  have hr := rlist_any a cap m b L hL hF (L.length + 1) 0 0 [] _ (by omega) h0 (by simp) hlen hM
  have HR := Lib.hid hr
  have HB := Lib.hid hb1
  clear hr hb1 hN hM
  go_enter Try.func18, Try.ntmps18
  go_wp2_with (first | (go_at_call 41; refine Calls.mono HR.out ?_; rintro e w2 ⟨v, rfl, hT, hb2⟩; have HT := Lib.hid hT; have HB2 := Lib.hid (HB.out.trans (hb2.mono (by simp))); clear hT hb2) | fail)
  go_ret
  exact ⟨_, rfl, own_less3 HT.out (by simp), HB2.out⟩
end Go.Proofs.Ytfmaagcomplooaa

namespace Go.Proofs.Ytfmaagcomplooaa
open Go Go.RowKit

theorem Texts.slot3 {B : Nat} {w : World} {v : Value} {L : List (List UInt8)} (h : Texts B w v L) : ∃ (a : Option Addr) (cap : Nat), v = .slice a L.length cap ∧ L.length ≤ cap ∧ cap ≤ maxLen := by
  rcases h.forms with ⟨rfl, rfl⟩ | ⟨g, cap, rfl, -, -, hc, hm, -⟩
  · exact ⟨none, 0, rfl, Nat.le_refl _, by decide⟩
  · exact ⟨_, cap, rfl, hc, hm⟩

def SRel (n : Nat) (L1 L2 : List (List UInt8)) (w0 : World) (i : Value) (wr : World) : Prop :=
  ∃ k : Nat, k ≤ n ∧ i = .int .i64 k ∧ L1.take k = L2.take k ∧ Below w0.heap.size w0 wr

theorem take_same (L1 L2 : List (List UInt8)) (k : Nat) (h1 : k < L1.length) (h2 : k < L2.length) (h : L1.take k = L2.take k) (he : L1[k] = L2[k]) : L1.take (k + 1) = L2.take (k + 1) := by
  rw [List.take_succ_eq_append_getElem h1, List.take_succ_eq_append_getElem h2, h, he]

theorem same_bytes (x y : ByteArray) (h : (x.toList == y.toList) = true) : x.data.toList = y.data.toList := by
  rw [ByteArray.toList_eq, ByteArray.toList_eq] at h
  exact beq_iff_eq.1 h
theorem diff_bytes (x y : ByteArray) (h : (x.toList == y.toList) = false) : x.data.toList ≠ y.data.toList := by
  rw [ByteArray.toList_eq, ByteArray.toList_eq] at h
  exact beq_eq_false_iff_ne.1 h

set_option maxHeartbeats 2000000 in
theorem rsame_any (L1 L2 : List (List UInt8)) (B1 B2 : Nat) (v1 v2 : Value) (w : World) (hT1 : Texts B1 w v1 L1) (hT2 : Texts B2 w v2 L2) :
    Calls Try.prog 16 #[v1, v2] w fun e w' => e = .returned (.bool (decide (L1 = L2))) ∧ Below w.heap.size w w' := by
  obtain ⟨a1, c1, rfl, hc1, hm1⟩ := hT1.slot3
  obtain ⟨a2, c2, rfl, hc2, hm2⟩ := hT2.slot3
  have HT1 := Lib.hid hT1
  have HT2 := Lib.hid hT2
  clear hT1 hT2
  unfold maxLen at hm1 hm2
  by_cases hlen : L1.length = L2.length
  · rw [← hlen]
    have HL := Lib.hid hlen
    have hc2' : L1.length ≤ c2 := by omega
    clear hlen hc2
    go_enter Try.func16, Try.ntmps16
    go_wp2_with fail
    go_loopw [5] (fun i wr => SRel L1.length L1 L2 w i wr) (fun i _ => L1.length - (intOf i).toNat)
    case atStart => exact ⟨0, by omega, rfl, by simp, Below.refl _ _⟩
    case round =>
      obtain ⟨k, hk, rfl, ht, hb⟩ := hrel
      have HTK := Lib.hid ht
      have HB := Lib.hid hb
      clear ht hb
      by_cases hlt : k < L1.length
      · have hlt2 : k < L2.length := by have := HL.out; omega
        obtain ⟨x1, hx1⟩ : ∃ xs : ByteArray, xs = ⟨L1[k].toArray⟩ := ⟨_, rfl⟩
        obtain ⟨x2, hx2⟩ : ∃ xs : ByteArray, xs = ⟨L2[k].toArray⟩ := ⟨_, rfl⟩
        have HX1 := Lib.hid (show x1.data.toList = L1[k] by rw [hx1])
        have HX2 := Lib.hid (show x2.data.toList = L2[k] by rw [hx2])
        obtain ⟨g1, rfl, hy1⟩ : ∃ g, a1 = some ⟨g, 0, none⟩ ∧ wr.cell? ⟨g, k, none⟩ = some (.string x1) := by
          rcases HT1.out.forms with ⟨hv, hn⟩ | ⟨g, cap, hv, hB, hg, -, -, hcell⟩
          · rw [hn] at hlt; simp at hlt
          · simp only [Value.slice.injEq] at hv
            refine ⟨g, hv.1, ?_⟩
            rw [HB.out.cell (p := ⟨g, k, none⟩) hg, hcell k hlt, hx1]
            rfl
        obtain ⟨g2, rfl, hy2⟩ : ∃ g, a2 = some ⟨g, 0, none⟩ ∧ wr.cell? ⟨g, k, none⟩ = some (.string x2) := by
          rcases HT2.out.forms with ⟨hv, hn⟩ | ⟨g, cap, hv, hB, hg, -, -, hcell⟩
          · rw [hn] at hlt2; simp at hlt2
          · simp only [Value.slice.injEq] at hv
            refine ⟨g, hv.1, ?_⟩
            rw [HB.out.cell (p := ⟨g, k, none⟩) hg, hcell k hlt2, hx2]
            rfl
        clear hx1 hx2
        have b1 : (0 : Int) ≤ (k : Int) := by omega
        have b2 : (k : Int) < (L1.length : Int) := by omega
        cases he : (x1.toList == x2.toList) with
        | true =>
          have HE := Lib.hid (take_same L1 L2 k hlt hlt2 HTK.out (HX1.out.symm.trans ((same_bytes x1 x2 he).trans HX2.out)))
          go_wp2_with fail
          go_quiet (fail)
          go_wp2_with fail
          go_roundw
          case rel => exact ⟨k + 1, by omega, by go_num, HE.out, HB.out.trans ⟨rfl, rfl, rfl, Nat.le_refl _, fun _ _ => rfl⟩⟩
          case measure => simp [intOf] <;> omega
        | false =>
          have hne : ¬ L1 = L2 := fun e => diff_bytes x1 x2 he (HX1.out.trans (Eq.trans (by congr 1) HX2.out.symm))
          have HN := Lib.hid (decide_eq_false hne)
          clear hne
          go_wp2_with fail
          go_quiet (fail)
          go_wp2_with fail
          go_ret
          exact ⟨by rw [HN.out]; rfl, HB.out.trans ⟨rfl, rfl, rfl, Nat.le_refl _, fun _ _ => rfl⟩⟩
      · obtain rfl : k = L1.length := by omega
        have HN := Lib.hid (decide_eq_true (p := L1 = L2) (by have h := HTK.out; rw [List.take_length, HL.out, List.take_length] at h; exact h))
        go_wp2_with fail
        go_ret
        exact ⟨by rw [HN.out]; rfl, HB.out⟩
  · have hd : ((L1.length : Int) == (L2.length : Int)) = false := by rw [beq_eq_false_iff_ne]; omega
    have HN := Lib.hid (decide_eq_false (p := L1 = L2) (fun e => hlen (by rw [e])))
    clear hlen
    go_enter Try.func16, Try.ntmps16
    go_wp2_with fail
    go_ret
    exact ⟨by rw [HN.out]; rfl, Below.refl _ _⟩
end Go.Proofs.Ytfmaagcomplooaa
