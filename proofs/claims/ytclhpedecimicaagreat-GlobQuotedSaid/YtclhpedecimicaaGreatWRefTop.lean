/-
  The reference's Walk and Parent, walked.
-/
import Derived.Deep.RegionHeld3
import Derived.Deep.RegionWith
import Derived.Deep.DrawnRows
import Derived.Test.YtclhpedecimicaaGreatK18
namespace Go.Proofs.YtclhpedecimicaaGreat
set_option maxRecDepth 100000
open Go Go.RowKit

theorem below_nx {n : Nat} {A B B' C : World} (h : Below n A B) (k : Below B'.heap.size B' C) (hn : n ≤ B.heap.size) (e : B'.os = B.os ∧ B'.tape = B.tape ∧ B'.output = B.output ∧ B'.heap = B.heap) : Below n A C := by
  have h' : Below n A B' := ⟨e.1.trans h.os, e.2.1.trans h.tape, e.2.2.1.trans h.output, by rw [e.2.2.2]; exact h.size, by rw [e.2.2.2]; exact h.block⟩
  exact h'.trans (k.mono (by rw [e.2.2.2]; exact hn))

theorem bad4_known (a : Option Addr) (cap : Nat) (m b cwd : Int) (pb : ByteArray) (hp : pb.size ≤ 1073741824) (L : List Ino) (z : Int) (hz : badW L cwd pb.data.toList = z) (w : World) (hN : NodesIn w a cap L) :
    Calls Tryz.prog 57 #[.agg #[.slice a L.length cap, .int .i64 m, .int .i64 b], .int .i64 cwd, .string pb] w fun e w' => e = .returned (.int .i64 z) ∧ Below w.heap.size w w' := by
  subst hz
  exact bad4_any a cap m b cwd pb.data.toList (by rw [size_list]; exact hp) L w hN
theorem begin4_known (cwd : Int) (pb : ByteArray) (z : Int) (hz : beginW cwd pb.data.toList = z) (w : World) :
    Calls Tryz.prog 59 #[.int .i64 cwd, .string pb] w fun e w' => e = .returned (.int .i64 z) ∧ w = w' := by
  subst hz
  exact begin4_any cwd pb.data.toList w
theorem end_byte (pb : ByteArray) (h : 0 < pb.size) : endL pb.data.toList = (((pb[pb.size - 1]'(by omega)).toNat : Int) == 47) := by
  unfold endL
  rw [last_byte pb h, Bool.eq_iff_iff, beq_iff_eq, beq_iff_eq, Option.some.injEq, ← UInt8.toNat_inj]
  show _ = 47 ↔ _
  omega

set_option maxRecDepth 100000 in
set_option maxHeartbeats 8000000 in
theorem walk4_any (a : Option Addr) (cap : Nat) (m b cwd : Int) (pb : ByteArray) (hp : pb.size ≤ 1073741824) (follow : Bool) (L : List Ino) (hF : FitP L m b) (w : World) (hN : NodesIn w a cap L) :
    Calls Tryz.prog 46 #[.agg #[.slice a L.length cap, .int .i64 m, .int .i64 b], .int .i64 cwd, .string pb, .bool follow] w fun e w' => e = .returned (.tuple #[.int .i64 (walkW L cwd pb.data.toList follow).1, .int .i64 (walkW L cwd pb.data.toList follow).2]) ∧ Below w.heap.size w w' := by
  obtain ⟨w1, hw1⟩ : ∃ w1, w1 = w.alloc (.cells #[.slice a L.length cap, .int .i64 m, .int .i64 b] 24) := ⟨_, rfl⟩
  have hb1 := below_box w (.cells #[.slice a L.length cap, .int .i64 m, .int .i64 b] 24)
  have hM := hN.below hb1
  have hsz : w1.heap.size = w.heap.size + 1 := by rw [hw1]; simp
  have hbox : ∀ W', Below w1.heap.size w1 W' → W'.cell? ⟨w.heap.size, 0, none⟩ = some (.slice a L.length cap) ∧ W'.cell? ⟨w.heap.size, 1, none⟩ = some (.int .i64 m) ∧ W'.cell? ⟨w.heap.size, 2, none⟩ = some (.int .i64 b) := fun W' h => box3 (by rw [← hw1]; exact h)
  rw [← hw1] at hM hb1
  have HM := Lib.hid hM
  have HB := Lib.hid hb1
  have HX := Lib.hid hbox
  have HEND := Lib.hid (show ∀ W', Below w1.heap.size w1 W' → Below w.heap.size w W' from fun W' h => HB.out.trans (h.mono (by rw [hsz]; omega)))
  have HF := Lib.hid hF
  obtain ⟨R, hR⟩ : ∃ R, R = walkW L cwd pb.data.toList follow := ⟨_, rfl⟩
  rw [← hR]
  have HR := Lib.hid hR
  obtain ⟨z, hz⟩ : ∃ z, badW L cwd pb.data.toList = z := ⟨_, rfl⟩
  have HZ := Lib.hid hz
  clear hM hN hb1 hbox hsz hF hR
  by_cases hbad : z ≠ 0
  · have hzb : (z != 0) = true := by simpa using hbad
    have HW := Lib.hid (show R = (0, z) by rw [HR.out]; unfold walkW; rw [hz, if_pos hbad])
    clear hbad hz
    go_enter Tryz.func46, Tryz.ntmps46
    go_wp2_with fail
    rw [← hw1]
    refine (bad4_known _ _ _ _ _ _ hp L z HZ.out _ HM.out).mono ?_
    rintro e w2 ⟨rfl, hb2⟩
    go_wp2_with fail
    go_ret2
    exact ⟨by rw [HW.out]; rfl, HEND.out _ hb2⟩
  · obtain rfl : z = 0 := by simpa using hbad
    have hpne : pb.data.toList ≠ [] := fun e => by
      unfold badW at hz
      rw [if_pos (Or.inl e)] at hz
      cases hz
    have hp0 : 0 < pb.size := by
      rcases Nat.eq_zero_or_pos pb.size with h | h
      · exact absurd (List.length_eq_zero_iff.1 (by rw [size_list]; exact h)) hpne
      · exact h
    have heb := end_byte pb hp0
    obtain ⟨st, hst⟩ : ∃ st, beginW cwd pb.data.toList = st := ⟨_, rfl⟩
    have HST := Lib.hid hst
    obtain ⟨N, hNe⟩ : ∃ N, N = partsL pb.data.toList := ⟨_, rfl⟩
    have hlong : pb.size ≤ 1024 := by
      unfold badW at hz
      rw [if_neg (fun h => by rcases h with h | h; exact hpne h; rw [if_pos (Or.inr h)] at hz; cases hz)] at hz
      by_cases hl : longB pb.data.toList = true
      · rw [if_pos hl] at hz; cases hz
      · unfold longB at hl
        rw [Bool.or_eq_true, decide_eq_true_eq, size_list] at hl
        omega
    have HNL := Lib.hid (show N.length ≤ 5000 by rw [hNe]; have := count_parts pb.data.toList; rw [size_list] at this; omega)
    have hpa := rparts_any pb hp
    rw [← hNe] at hpa
    have HPA := Lib.hid (show ∀ W, Calls Tryz.prog 60 #[.string pb] W fun e w' => ∃ v, e = .returned v ∧ View w' v N ∧ Below W.heap.size W w' from fun W => (hpa W).mono fun e w' ⟨v, h1, h2, h3⟩ => ⟨v, h1, h2.view, h3⟩)
    obtain ⟨s, hsl⟩ : ∃ s, (((pb[pb.size - 1]'(by omega)).toNat : Int) == 47) = s := ⟨_, rfl⟩
    rw [hsl] at heb
    obtain ⟨kz, hkz⟩ : ∃ kz, kz = (wayW L (follow || s) 8 N st).1 := ⟨_, rfl⟩
    obtain ⟨ez, hez⟩ : ∃ ez, ez = (wayW L (follow || s) 8 N st).2 := ⟨_, rfl⟩
    have HWAY := Lib.hid (show ∀ lb, lb = (follow || s) → ∀ W v, Below w1.heap.size w1 W → View W v N → Calls Tryz.prog 58 #[.agg #[.slice a L.length cap, .int .i64 m, .int .i64 b], .int .i64 st, v, .bool lb] W fun e w' => e = .returned (.tuple #[.int .i64 kz, .int .i64 ez]) ∧ Below W.heap.size W w' from fun lb hlb W v hW hv => by
      subst hlb
      rw [hkz, hez]
      exact way4_any a cap m b st _ N HNL.out v L HF.out W (HM.out.below hW) hv)
    have HW := Lib.hid (show R = if ez ≠ 0 then (0, ez) else if s = true ∧ dirB L kz = false then (0, 20) else (kz, 0) by
      rw [HR.out]
      unfold walkW
      rw [hz, if_neg (by simp), hst, ← hNe, heb, ← hez, ← hkz])
    obtain ⟨dz, hdz⟩ : ∃ dz, dirB L kz = dz := ⟨_, rfl⟩
    have HDZ := Lib.hid hdz
    rw [hdz] at HW
    clear hz hpne heb hst hNe hpa hkz hez hdz hbad HR
    cases follow
    case false =>
      cases s
      case false =>
        go_enter Tryz.func46, Tryz.ntmps46
        go_wp2_with fail
        rw [← hw1]
        refine (bad4_known _ _ _ _ _ _ hp L 0 HZ.out _ HM.out).mono ?_
        rintro e w2 ⟨rfl, hb2⟩
        have HBB := Lib.hid hb2
        obtain ⟨q0, q1, q2⟩ := HX.out _ hb2
        clear hb2
        go_wp2_with fail
        go_region_held3 (fun W => W.cell? ⟨w.heap.size, 0, none⟩ = some (.slice a L.length cap) ∧ W.cell? ⟨w.heap.size, 1, none⟩ = some (.int .i64 m) ∧ W.cell? ⟨w.heap.size, 2, none⟩ = some (.int .i64 b)) (exact ⟨q0, q1, q2⟩) (first | (go_at_call 59; refine (begin4_known _ _ _ HST.out _).mono ?_; rintro e wn ⟨rfl, rfl⟩) | (go_at_call 60; refine (HPA.out _).mono ?_; rintro e wn ⟨vn, rfl, hvn, hbn⟩; have HVN := Lib.hid hvn; have HBB : Hid (Below w1.heap.size w1 wn) := Lib.hid (below_nx HBB.out hbn HBB.out.size ⟨rfl, rfl, rfl, rfl⟩); obtain ⟨q0, q1, q2⟩ := HX.out _ HBB.out) | (go_at_call 58; refine (HWAY.out _ rfl _ _ ?_ HVN.out).mono ?_; (exact ⟨HBB.out.os, HBB.out.tape, HBB.out.output, HBB.out.size, HBB.out.block⟩); rintro e wn ⟨rfl, hbn⟩; have HBB : Hid (Below w1.heap.size w1 wn) := Lib.hid (below_nx HBB.out hbn HBB.out.size ⟨rfl, rfl, rfl, rfl⟩); obtain ⟨q0, q1, q2⟩ := HX.out _ HBB.out))
        cases he : (ez != 0) with
        | true =>
          have HW2 := Lib.hid (show R = (0, ez) by rw [HW.out, if_pos (by simpa using he)])
          go_wp2_with fail
          go_ret2
          exact ⟨by rw [HW2.out]; rfl, HEND.out _ HBB.out⟩
        | false =>
          have hz0 : ez = 0 := by simpa using he
          subst hz0
          have HW2 := Lib.hid (show R = (kz, 0) by rw [HW.out, if_neg (by simp), if_neg (by simp)])
          go_wp2_with fail
          go_ret2
          exact ⟨by rw [HW2.out]; rfl, HEND.out _ HBB.out⟩
      case true =>
        go_enter Tryz.func46, Tryz.ntmps46
        go_wp2_with fail
        rw [← hw1]
        refine (bad4_known _ _ _ _ _ _ hp L 0 HZ.out _ HM.out).mono ?_
        rintro e w2 ⟨rfl, hb2⟩
        have HBB := Lib.hid hb2
        obtain ⟨q0, q1, q2⟩ := HX.out _ hb2
        clear hb2
        go_wp2_with fail
        go_region_held3 (fun W => W.cell? ⟨w.heap.size, 0, none⟩ = some (.slice a L.length cap) ∧ W.cell? ⟨w.heap.size, 1, none⟩ = some (.int .i64 m) ∧ W.cell? ⟨w.heap.size, 2, none⟩ = some (.int .i64 b)) (exact ⟨q0, q1, q2⟩) (first | (go_at_call 59; refine (begin4_known _ _ _ HST.out _).mono ?_; rintro e wn ⟨rfl, rfl⟩) | (go_at_call 60; refine (HPA.out _).mono ?_; rintro e wn ⟨vn, rfl, hvn, hbn⟩; have HVN := Lib.hid hvn; have HBB : Hid (Below w1.heap.size w1 wn) := Lib.hid (below_nx HBB.out hbn HBB.out.size ⟨rfl, rfl, rfl, rfl⟩); obtain ⟨q0, q1, q2⟩ := HX.out _ HBB.out) | (go_at_call 58; refine (HWAY.out _ rfl _ _ ?_ HVN.out).mono ?_; (exact ⟨HBB.out.os, HBB.out.tape, HBB.out.output, HBB.out.size, HBB.out.block⟩); rintro e wn ⟨rfl, hbn⟩; have HBB : Hid (Below w1.heap.size w1 wn) := Lib.hid (below_nx HBB.out hbn HBB.out.size ⟨rfl, rfl, rfl, rfl⟩); obtain ⟨q0, q1, q2⟩ := HX.out _ HBB.out))
        cases he : (ez != 0) with
        | true =>
          have HW2 := Lib.hid (show R = (0, ez) by rw [HW.out, if_pos (by simpa using he)])
          go_wp2_with fail
          go_ret2
          exact ⟨by rw [HW2.out]; rfl, HEND.out _ HBB.out⟩
        | false =>
          have hz0 : ez = 0 := by simpa using he
          subst hz0
          cases dz with
          | false =>
            have HW2 := Lib.hid (show R = (0, 20) by rw [HW.out, if_neg (by simp), if_pos (by simp)])
            go_wp2_with (first | (go_at_call 61; refine (dir4_known _ _ _ _ _ L _ HDZ.out _ (HM.out.below HBB.out)).mono ?_; rintro e w7 ⟨rfl, hb7⟩; have HB7 := Lib.hid (HBB.out.trans (hb7.mono HBB.out.size))) | fail)
            go_ret2
            exact ⟨by rw [HW2.out]; rfl, HEND.out _ HB7.out⟩
          | true =>
            have HW2 := Lib.hid (show R = (kz, 0) by rw [HW.out, if_neg (by simp), if_neg (by simp)])
            go_wp2_with (first | (go_at_call 61; refine (dir4_known _ _ _ _ _ L _ HDZ.out _ (HM.out.below HBB.out)).mono ?_; rintro e w7 ⟨rfl, hb7⟩; have HB7 := Lib.hid (HBB.out.trans (hb7.mono HBB.out.size))) | fail)
            go_ret2
            exact ⟨by rw [HW2.out]; rfl, HEND.out _ HB7.out⟩
    case true =>
      cases s
      case false =>
        go_enter Tryz.func46, Tryz.ntmps46
        go_wp2_with fail
        rw [← hw1]
        refine (bad4_known _ _ _ _ _ _ hp L 0 HZ.out _ HM.out).mono ?_
        rintro e w2 ⟨rfl, hb2⟩
        have HBB := Lib.hid hb2
        obtain ⟨q0, q1, q2⟩ := HX.out _ hb2
        clear hb2
        go_wp2_with fail
        refine wp_region_held_drew (S := fun W => W.cell? ⟨w.heap.size, 0, none⟩ = some (.slice a L.length cap) ∧ W.cell? ⟨w.heap.size, 1, none⟩ = some (.int .i64 m) ∧ W.cell? ⟨w.heap.size, 2, none⟩ = some (.int .i64 b)) (by kernel_rfl) ⟨q0, q1, q2⟩ (fun hHeld => ?_)
        refine wpAnyH_take (i := 0) (v := ?_) rfl (by kernel_rfl) (by kernel_rfl) (by kernel_rfl) (fun _ _ _ h => h) (Or.inl ⟨by rfl, ?hy0⟩) (by assumption) ?rest0
        case hy0 => intro W hSw; obtain ⟨s0, s1, s2⟩ := hSw; go_simp <;> with_reducible rfl
        try simp only [Act.put, List.setIfInBounds_toArray]
        refine wpAnyH_take (i := 1) (v := ?_) rfl (by kernel_rfl) (by kernel_rfl) (by kernel_rfl) (fun _ _ _ h => h) (Or.inl ⟨by rfl, ?hy1⟩) (by assumption) ?rest1
        case hy1 => intro W hSw; obtain ⟨s0, s1, s2⟩ := hSw; go_simp <;> with_reducible rfl
        try simp only [Act.put]
        refine wpAnyH_take (i := 2) (v := ?_) rfl (by kernel_rfl) (by kernel_rfl) (by kernel_rfl) (fun _ _ _ h => h) (Or.inl ⟨by rfl, ?hy2⟩) (by assumption) ?rest2
        case hy2 => intro W hSw; obtain ⟨s0, s1, s2⟩ := hSw; go_simp <;> with_reducible rfl
        try simp only [Act.put]
        refine wpAnyH_take (i := 4) (v := ?_) rfl (by kernel_rfl) (by kernel_rfl) (by kernel_rfl) (fun _ _ _ h => h) (Or.inl ⟨by rfl, ?hy4⟩) (by assumption) ?rest4
        case hy4 => intro W hSw; obtain ⟨s0, s1, s2⟩ := hSw; go_simp <;> with_reducible rfl
        try simp only [Act.put]
        refine wpAnyH_take (i := 6) (v := ?_) rfl (by kernel_rfl) (by kernel_rfl) (by kernel_rfl) (fun _ _ _ h => h) (Or.inl ⟨by rfl, ?hy6⟩) (by assumption) ?rest6
        case hy6 => intro W hSw; obtain ⟨s0, s1, s2⟩ := hSw; go_simp <;> with_reducible rfl
        try simp only [Act.put]
        refine wpAnyH_ready (rs := [3]) (by kernel_rfl) (by simp) ?_
        refine AllReadyH.cons rfl (fun K hK => ?_) AllReadyH.nil
        go_simp
        refine (begin4_known _ _ _ HST.out _).mono ?_
        rintro e wn ⟨rfl, rfl⟩
        refine hK.out _ _ ⟨q0, q1, q2⟩ (fun hHeld => ?_)
        clear hK K
        try simp only [Act.put, List.setIfInBounds_toArray, List.set_cons_zero, List.set_cons_succ]
        refine wpAnyH_ready (rs := [5]) (by kernel_rfl) (by simp) ?_
        refine AllReadyH.cons rfl (fun K hK => ?_) AllReadyH.nil
        go_simp
        refine (HPA.out _).mono ?_
        rintro e wn ⟨vn, rfl, hvn, hbn⟩
        have HVN := Lib.hid hvn
        have HBB : Hid (Below w1.heap.size w1 wn) := Lib.hid (below_nx HBB.out hbn HBB.out.size ⟨rfl, rfl, rfl, rfl⟩)
        obtain ⟨q0, q1, q2⟩ := HX.out _ HBB.out
        refine hK.out _ _ ⟨q0, q1, q2⟩ (fun hHeld => ?_)
        clear hK K
        try simp only [Act.put, List.setIfInBounds_toArray, List.set_cons_zero, List.set_cons_succ]
        refine wpAnyH_take (i := 7) (v := ?_) rfl (by kernel_rfl) (by kernel_rfl) (by kernel_rfl) (fun _ _ _ h => h) (Or.inl ⟨by rfl, ?hy7⟩) (by assumption) ?rest7
        case hy7 => intro W hSw; obtain ⟨s0, s1, s2⟩ := hSw; go_simp <;> with_reducible rfl
        try simp only [Act.put, List.setIfInBounds_toArray]
        refine wpAnyH_take (i := 8) rfl (by kernel_rfl) (by kernel_rfl) (by kernel_rfl) (fun _ _ _ h => h) (Or.inr ⟨by rfl, rfl⟩) (by assumption) ?_
        try simp only [Act.put]
        refine wpAnyH_take (i := 9) (v := ?_) rfl (by kernel_rfl) (by kernel_rfl) (by kernel_rfl) (fun _ _ _ h => h) (Or.inl ⟨by rfl, ?hy9⟩) (by assumption) ?rest9
        case hy9 => intro W hSw; obtain ⟨s0, s1, s2⟩ := hSw; go_simp <;> with_reducible rfl
        try simp only [Act.put]
        refine wpAnyH_ready (rs := [10]) (by kernel_rfl) (by simp) ?_
        refine AllReadyH.cons rfl (fun K hK => ?_) AllReadyH.nil
        go_simp
        refine (HWAY.out _ rfl _ _ ?_ HVN.out).mono ?_
        (exact ⟨HBB.out.os, HBB.out.tape, HBB.out.output, HBB.out.size, HBB.out.block⟩)
        rintro e wn ⟨rfl, hbn⟩
        have HBB : Hid (Below w1.heap.size w1 wn) := Lib.hid (below_nx HBB.out hbn HBB.out.size ⟨rfl, rfl, rfl, rfl⟩)
        obtain ⟨q0, q1, q2⟩ := HX.out _ HBB.out
        refine hK.out _ _ ⟨q0, q1, q2⟩ (fun hHeld => ?_)
        clear hK K
        try simp only [Act.put, List.setIfInBounds_toArray, List.set_cons_zero, List.set_cons_succ]
        refine wpAnyH_take (i := 11) (v := ?_) rfl (by kernel_rfl) (by kernel_rfl) (by kernel_rfl) (fun _ _ _ h => h) (Or.inl ⟨by rfl, ?hy11⟩) (by assumption) ?rest11
        case hy11 => intro W hSw; obtain ⟨s0, s1, s2⟩ := hSw; go_simp <;> with_reducible rfl
        try simp only [Act.put, List.setIfInBounds_toArray]
        refine wpAnyH_take (i := 12) (v := ?_) rfl (by kernel_rfl) (by kernel_rfl) (by kernel_rfl) (fun _ _ _ h => h) (Or.inl ⟨by rfl, ?hy12⟩) (by assumption) ?rest12
        case hy12 => intro W hSw; obtain ⟨s0, s1, s2⟩ := hSw; go_simp <;> with_reducible rfl
        try simp only [Act.put]
        refine wpAnyH_take (i := 13) (v := ?_) rfl (by kernel_rfl) (by kernel_rfl) (by kernel_rfl) (fun _ _ _ h => h) (Or.inl ⟨by rfl, ?hy13⟩) (by assumption) ?rest13
        case hy13 => intro W hSw; obtain ⟨s0, s1, s2⟩ := hSw; go_simp <;> with_reducible rfl
        try simp only [Act.put]
        refine wpAnyH_take (i := 14) (v := ?_) rfl (by kernel_rfl) (by kernel_rfl) (by kernel_rfl) (fun _ _ _ h => h) (Or.inl ⟨by rfl, ?hy14⟩) (by assumption) ?rest14
        case hy14 => intro W hSw; obtain ⟨s0, s1, s2⟩ := hSw; go_simp <;> with_reducible rfl
        try simp only [Act.put]
        refine wpAnyH_take (i := 15) (v := ?_) rfl (by kernel_rfl) (by kernel_rfl) (by kernel_rfl) (fun _ _ _ h => h) (Or.inl ⟨by rfl, ?hy15⟩) (by assumption) ?rest15
        case hy15 => intro W hSw; obtain ⟨s0, s1, s2⟩ := hSw; go_simp <;> with_reducible rfl
        try simp only [Act.put]
        refine wpAnyH_done (by kernel_rfl) ?_ _
        clear hHeld
        cases he : (ez != 0) with
        | true =>
          have HW2 := Lib.hid (show R = (0, ez) by rw [HW.out, if_pos (by simpa using he)])
          go_wp2_with fail
          go_ret2
          exact ⟨by rw [HW2.out]; rfl, HEND.out _ HBB.out⟩
        | false =>
          have hz0 : ez = 0 := by simpa using he
          subst hz0
          have HW2 := Lib.hid (show R = (kz, 0) by rw [HW.out, if_neg (by simp), if_neg (by simp)])
          go_wp2_with fail
          go_ret2
          exact ⟨by rw [HW2.out]; rfl, HEND.out _ HBB.out⟩
      case true =>
        go_enter Tryz.func46, Tryz.ntmps46
        go_wp2_with fail
        rw [← hw1]
        refine (bad4_known _ _ _ _ _ _ hp L 0 HZ.out _ HM.out).mono ?_
        rintro e w2 ⟨rfl, hb2⟩
        have HBB := Lib.hid hb2
        obtain ⟨q0, q1, q2⟩ := HX.out _ hb2
        clear hb2
        go_wp2_with fail
        refine wp_region_held_drew (S := fun W => W.cell? ⟨w.heap.size, 0, none⟩ = some (.slice a L.length cap) ∧ W.cell? ⟨w.heap.size, 1, none⟩ = some (.int .i64 m) ∧ W.cell? ⟨w.heap.size, 2, none⟩ = some (.int .i64 b)) (by kernel_rfl) ⟨q0, q1, q2⟩ (fun hHeld => ?_)
        refine wpAnyH_take (i := 0) (v := ?_) rfl (by kernel_rfl) (by kernel_rfl) (by kernel_rfl) (fun _ _ _ h => h) (Or.inl ⟨by rfl, ?hx0⟩) (by assumption) ?more0
        case hx0 => intro W hSw; obtain ⟨s0, s1, s2⟩ := hSw; go_simp <;> with_reducible rfl
        try simp only [Act.put, List.setIfInBounds_toArray]
        refine wpAnyH_take (i := 1) (v := ?_) rfl (by kernel_rfl) (by kernel_rfl) (by kernel_rfl) (fun _ _ _ h => h) (Or.inl ⟨by rfl, ?hx1⟩) (by assumption) ?more1
        case hx1 => intro W hSw; obtain ⟨s0, s1, s2⟩ := hSw; go_simp <;> with_reducible rfl
        try simp only [Act.put]
        refine wpAnyH_take (i := 2) (v := ?_) rfl (by kernel_rfl) (by kernel_rfl) (by kernel_rfl) (fun _ _ _ h => h) (Or.inl ⟨by rfl, ?hx2⟩) (by assumption) ?more2
        case hx2 => intro W hSw; obtain ⟨s0, s1, s2⟩ := hSw; go_simp <;> with_reducible rfl
        try simp only [Act.put]
        refine wpAnyH_take (i := 4) (v := ?_) rfl (by kernel_rfl) (by kernel_rfl) (by kernel_rfl) (fun _ _ _ h => h) (Or.inl ⟨by rfl, ?hx4⟩) (by assumption) ?more4
        case hx4 => intro W hSw; obtain ⟨s0, s1, s2⟩ := hSw; go_simp <;> with_reducible rfl
        try simp only [Act.put]
        refine wpAnyH_take (i := 6) (v := ?_) rfl (by kernel_rfl) (by kernel_rfl) (by kernel_rfl) (fun _ _ _ h => h) (Or.inl ⟨by rfl, ?hx6⟩) (by assumption) ?more6
        case hx6 => intro W hSw; obtain ⟨s0, s1, s2⟩ := hSw; go_simp <;> with_reducible rfl
        try simp only [Act.put]
        refine wpAnyH_ready (rs := [3]) (by kernel_rfl) (by simp) ?_
        refine AllReadyH.cons rfl (fun K hK => ?_) AllReadyH.nil
        go_simp
        refine (begin4_known _ _ _ HST.out _).mono ?_
        rintro e wn ⟨rfl, rfl⟩
        refine hK.out _ _ ⟨q0, q1, q2⟩ (fun hHeld => ?_)
        clear hK K
        try simp only [Act.put, List.setIfInBounds_toArray, List.set_cons_zero, List.set_cons_succ]
        refine wpAnyH_ready (rs := [5]) (by kernel_rfl) (by simp) ?_
        refine AllReadyH.cons rfl (fun K hK => ?_) AllReadyH.nil
        go_simp
        refine (HPA.out _).mono ?_
        rintro e wn ⟨vn, rfl, hvn, hbn⟩
        have HVN := Lib.hid hvn
        have HBB : Hid (Below w1.heap.size w1 wn) := Lib.hid (below_nx HBB.out hbn HBB.out.size ⟨rfl, rfl, rfl, rfl⟩)
        obtain ⟨q0, q1, q2⟩ := HX.out _ HBB.out
        refine hK.out _ _ ⟨q0, q1, q2⟩ (fun hHeld => ?_)
        clear hK K
        try simp only [Act.put, List.setIfInBounds_toArray, List.set_cons_zero, List.set_cons_succ]
        refine wpAnyH_take (i := 7) (v := ?_) rfl (by kernel_rfl) (by kernel_rfl) (by kernel_rfl) (fun _ _ _ h => h) (Or.inl ⟨by rfl, ?hx7⟩) (by assumption) ?more7
        case hx7 => intro W hSw; obtain ⟨s0, s1, s2⟩ := hSw; go_simp <;> with_reducible rfl
        try simp only [Act.put, List.setIfInBounds_toArray]
        refine wpAnyH_take (i := 8) rfl (by kernel_rfl) (by kernel_rfl) (by kernel_rfl) (fun _ _ _ h => h) (Or.inr ⟨by rfl, rfl⟩) (by assumption) ?_
        try simp only [Act.put]
        refine wpAnyH_take (i := 9) (v := ?_) rfl (by kernel_rfl) (by kernel_rfl) (by kernel_rfl) (fun _ _ _ h => h) (Or.inl ⟨by rfl, ?hx9⟩) (by assumption) ?more9
        case hx9 => intro W hSw; obtain ⟨s0, s1, s2⟩ := hSw; go_simp <;> with_reducible rfl
        try simp only [Act.put]
        refine wpAnyH_ready (rs := [10]) (by kernel_rfl) (by simp) ?_
        refine AllReadyH.cons rfl (fun K hK => ?_) AllReadyH.nil
        go_simp
        refine (HWAY.out _ rfl _ _ ?_ HVN.out).mono ?_
        (exact ⟨HBB.out.os, HBB.out.tape, HBB.out.output, HBB.out.size, HBB.out.block⟩)
        rintro e wn ⟨rfl, hbn⟩
        have HBB : Hid (Below w1.heap.size w1 wn) := Lib.hid (below_nx HBB.out hbn HBB.out.size ⟨rfl, rfl, rfl, rfl⟩)
        obtain ⟨q0, q1, q2⟩ := HX.out _ HBB.out
        refine hK.out _ _ ⟨q0, q1, q2⟩ (fun hHeld => ?_)
        clear hK K
        try simp only [Act.put, List.setIfInBounds_toArray, List.set_cons_zero, List.set_cons_succ]
        refine wpAnyH_take (i := 11) (v := ?_) rfl (by kernel_rfl) (by kernel_rfl) (by kernel_rfl) (fun _ _ _ h => h) (Or.inl ⟨by rfl, ?hx11⟩) (by assumption) ?more11
        case hx11 => intro W hSw; obtain ⟨s0, s1, s2⟩ := hSw; go_simp <;> with_reducible rfl
        try simp only [Act.put, List.setIfInBounds_toArray]
        refine wpAnyH_take (i := 12) (v := ?_) rfl (by kernel_rfl) (by kernel_rfl) (by kernel_rfl) (fun _ _ _ h => h) (Or.inl ⟨by rfl, ?hx12⟩) (by assumption) ?more12
        case hx12 => intro W hSw; obtain ⟨s0, s1, s2⟩ := hSw; go_simp <;> with_reducible rfl
        try simp only [Act.put]
        refine wpAnyH_take (i := 13) (v := ?_) rfl (by kernel_rfl) (by kernel_rfl) (by kernel_rfl) (fun _ _ _ h => h) (Or.inl ⟨by rfl, ?hx13⟩) (by assumption) ?more13
        case hx13 => intro W hSw; obtain ⟨s0, s1, s2⟩ := hSw; go_simp <;> with_reducible rfl
        try simp only [Act.put]
        refine wpAnyH_take (i := 14) (v := ?_) rfl (by kernel_rfl) (by kernel_rfl) (by kernel_rfl) (fun _ _ _ h => h) (Or.inl ⟨by rfl, ?hx14⟩) (by assumption) ?more14
        case hx14 => intro W hSw; obtain ⟨s0, s1, s2⟩ := hSw; go_simp <;> with_reducible rfl
        try simp only [Act.put]
        refine wpAnyH_take (i := 15) (v := ?_) rfl (by kernel_rfl) (by kernel_rfl) (by kernel_rfl) (fun _ _ _ h => h) (Or.inl ⟨by rfl, ?hx15⟩) (by assumption) ?more15
        case hx15 => intro W hSw; obtain ⟨s0, s1, s2⟩ := hSw; go_simp <;> with_reducible rfl
        try simp only [Act.put]
        refine wpAnyH_done (by kernel_rfl) ?_ _
        clear hHeld
        cases he : (ez != 0) with
        | true =>
          have HW2 := Lib.hid (show R = (0, ez) by rw [HW.out, if_pos (by simpa using he)])
          go_wp2_with fail
          go_ret2
          exact ⟨by rw [HW2.out]; rfl, HEND.out _ HBB.out⟩
        | false =>
          have hz0 : ez = 0 := by simpa using he
          subst hz0
          cases dz with
          | false =>
            have HW2 := Lib.hid (show R = (0, 20) by rw [HW.out, if_neg (by simp), if_pos (by simp)])
            go_wp2_with (first | (go_at_call 61; refine (dir4_known _ _ _ _ _ L _ HDZ.out _ (HM.out.below HBB.out)).mono ?_; rintro e w7 ⟨rfl, hb7⟩; have HB7 := Lib.hid (HBB.out.trans (hb7.mono HBB.out.size))) | fail)
            go_ret2
            exact ⟨by rw [HW2.out]; rfl, HEND.out _ HB7.out⟩
          | true =>
            have HW2 := Lib.hid (show R = (kz, 0) by rw [HW.out, if_neg (by simp), if_neg (by simp)])
            go_wp2_with (first | (go_at_call 61; refine (dir4_known _ _ _ _ _ L _ HDZ.out _ (HM.out.below HBB.out)).mono ?_; rintro e w7 ⟨rfl, hb7⟩; have HB7 := Lib.hid (HBB.out.trans (hb7.mono HBB.out.size))) | fail)
            go_ret2
            exact ⟨by rw [HW2.out]; rfl, HEND.out _ HB7.out⟩
end Go.Proofs.YtclhpedecimicaaGreat
