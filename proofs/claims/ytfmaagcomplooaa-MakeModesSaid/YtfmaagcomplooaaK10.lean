/-
  walk's Walk, of the landed code.
  walk's Parent, of the landed code.
  make's newName and refuses.
  tree's Used, of the landed code.
  nodes.HasRoom of the landed code: whether so many bytes more find room.
  make's small functions: isMode, isFree, the first free inode, refuses, and the closures that tell a new inode.
  The binary search of a name's place, as make's give calls it.
  slices.Clone of names and of inodes: the same in memory of the call's own.
  Cells laid in a block that is known whole; copy of elements of several cells; an element laid between others.
  slices.Insert of one name: in place where there is room, else in a new block.
-/
import Derived.Test.YtfmaagcomplooaaWLEnd
import Derived.Test.YtfmaagcomplooaaWRefTop
import Derived.Test.YtfmaagcomplooaaMkName
import Derived.Test.YtfmaagcomplooaaK5
import Derived.Test.YtfmaagcomplooaaK8
import Derived.Test.YtfmaagcomplooaaK9
import Derived.Test.YtfmaagcomplooaaK4
import Derived.WalkKit
import Derived.Shelf.SlicesE.Clone
import Derived.Shelf.Spec.SlicesInsertGrow
import Derived.Laws.NewBlocks
namespace Go.Proofs.Ytfmaagcomplooaa
set_option maxRecDepth 100000
open Go Go.RowKit

theorem lend_any (n₀ g : Nat) (a : Option Addr) (cap : Nat) (m b : Int) (p0 : Int) (N0 : List (List UInt8)) (hN0 : N0.length ≤ 5000) (last : Bool) (L : List Ino) (hF : FitP L m b)
    (w0 : World) (hN : NodesIn w0 a cap L) (hw0 : w0.heap.size ≤ g) (w : World) (hb0 : Below w0.heap.size w0 w) (hn₀ : n₀ ≤ w.heap.size) (hW : WayAt n₀ g (.slice a L.length cap, .int .i64 m, .int .i64 b) w p0 N0.reverse 0) (kz ez : Int) (hk : kz = (wayW L last 8 N0 p0).1) (he : ez = (wayW L last 8 N0 p0).2) :
    Calls Try.prog 59 #[.pointer (some ⟨g, 0, none⟩), .bool last] w fun e w' => (∃ z : Int, e = .returned (.tuple #[.int .i64 z, .int .i64 ez]) ∧ (ez = 0 → z = kz)) ∧ Moved g w w' := by
  subst hk he
  exact callsIn_wide.1 (end_in Fence.wide rfl 5 (Nat.le_refl _) n₀ g a cap m b p0 N0 hN0 last L hF w0 hN hw0 w hb0 hn₀ hW)
theorem refused_known (a : Option Addr) (cap : Nat) (m b cwd : Int) (pb : ByteArray) (hp : pb.size ≤ 1073741824) (L : List Ino) (z : Int) (hz : badW L cwd pb.data.toList = z) (w : World) (hN : NodesIn w a cap L) :
    Calls Try.prog 56 #[.agg #[.slice a L.length cap, .int .i64 m, .int .i64 b], .int .i64 cwd, .string pb] w fun e w' => e = .returned (.int .i64 z) ∧ Below w.heap.size w w' := by
  subst hz
  exact refused_any a cap m b cwd pb.data.toList (by rw [size_list]; exact hp) L w hN
theorem kind_dz {L : List Ino} {k : Int} {dz : Bool} (h : dirB L k = dz) : (kindL L k != 2) = !dz := by rw [kind_dir, h]

theorem lbegin_any (tv mv bv : Value) (cwd : Int) (pb : ByteArray) (hp : pb.size ≤ 1024) (st : Int) (N : List (List UInt8)) (hst : beginW cwd pb.data.toList = st) (hN : N = partsL pb.data.toList) (w2 : World) :
    Calls Try.prog 58 #[.pointer (some ⟨w2.heap.size, 0, none⟩), .string pb] (w2.alloc (.cells #[tv, mv, bv, .int .i64 cwd, .slice none 0 0, .int .i64 0] 87)) fun e w' =>
      (∃ u, e = .returned u) ∧ WayAt (w2.heap.size + 1) w2.heap.size (tv, mv, bv) w' st N.reverse 0 ∧ Below w2.heap.size w2 w' ∧ w2.heap.size + 1 ≤ w'.heap.size := by
  subst hst hN
  have h := lenter_any (w2.heap.size + 1) w2.heap.size (tv, mv, bv) cwd 0 [] pb.data.toList (by rw [size_list]; omega) (by simp) (w2.alloc (.cells #[tv, mv, bv, .int .i64 cwd, .slice none 0 0, .int .i64 0] 87)) (by simp) ⟨by omega, _, new_block w2 _, Or.inl ⟨rfl, rfl⟩⟩
  rw [List.nil_append] at h
  exact h.mono fun e w' hh => ⟨hh.1, hh.2.1, (below_box w2 _).trans hh.2.2.below, by have := hh.2.2.below.size; rw [World.size_alloc] at this; exact this⟩

set_option maxRecDepth 100000 in
set_option maxHeartbeats 8000000 in
theorem lwalk_any (a : Option Addr) (cap : Nat) (m b cwd : Int) (pb : ByteArray) (hp : pb.size ≤ 1073741824) (follow : Bool) (L : List Ino) (hF : FitP L m b) (w : World) (hN : NodesIn w a cap L) :
    Calls Try.prog 42 #[.agg #[.slice a L.length cap, .int .i64 m, .int .i64 b], .int .i64 cwd, .string pb, .bool follow] w fun e w' => e = .returned (.tuple #[.int .i64 (walkW L cwd pb.data.toList follow).1, .int .i64 (walkW L cwd pb.data.toList follow).2]) ∧ Below w.heap.size w w' := by
  obtain ⟨w1, hw1⟩ : ∃ w1, w1 = w.alloc (.cells #[.slice a L.length cap, .int .i64 m, .int .i64 b] 24) := ⟨_, rfl⟩
  have hb1 := below_box w (.cells #[.slice a L.length cap, .int .i64 m, .int .i64 b] 24)
  have hM := hN.below hb1
  have hsz : w1.heap.size = w.heap.size + 1 := by rw [hw1]; simp
  have hbox : ∀ W', Below w1.heap.size w1 W' → W'.cell? ⟨w.heap.size, 0, none⟩ = some (.slice a L.length cap) ∧ W'.cell? ⟨w.heap.size, 1, none⟩ = some (.int .i64 m) ∧ W'.cell? ⟨w.heap.size, 2, none⟩ = some (.int .i64 b) := fun W' h => box3 (by rw [← hw1]; exact h)
  rw [← hw1] at hM hb1
  have HM := Lib.hid hM
  have HB := Lib.hid hb1
  have HX := Lib.hid hbox
  have HEND := Lib.hid (show ∀ W', Below w1.heap.size w1 W' → Below w.heap.size w W' from fun W' h => HB.out.trans (h.mono (by rw [hsz]; omega)))
  have HF := Lib.hid hF
  obtain ⟨R, hR⟩ : ∃ R, R = walkW L cwd pb.data.toList follow := ⟨_, rfl⟩
  rw [← hR]
  have HR := Lib.hid hR
  obtain ⟨z, hz⟩ : ∃ z, badW L cwd pb.data.toList = z := ⟨_, rfl⟩
  have HZ := Lib.hid hz
  clear hM hN hb1 hbox hsz hF hR
  by_cases hbad : z ≠ 0
  · have hzb : (z != 0) = true := by simpa using hbad
    have HW := Lib.hid (show R = (0, z) by rw [HR.out]; unfold walkW; rw [hz, if_pos hbad])
    clear hbad hz
    go_enter Try.func42, Try.ntmps42
    go_wp2_with fail
    rw [← hw1]
    refine (refused_known _ _ _ _ _ _ hp L z HZ.out _ HM.out).mono ?_
    rintro e w2 ⟨rfl, hb2⟩
    go_wp2_with fail
    go_ret2
    exact ⟨by rw [HW.out]; rfl, HEND.out _ hb2⟩
  · obtain rfl : z = 0 := by simpa using hbad
    have hpne : pb.data.toList ≠ [] := fun e => by
      unfold badW at hz
      rw [if_pos (Or.inl e)] at hz
      cases hz
    obtain ⟨st, hst⟩ : ∃ st, beginW cwd pb.data.toList = st := ⟨_, rfl⟩
    have HST := Lib.hid hst
    obtain ⟨N, hNe⟩ : ∃ N, N = partsL pb.data.toList := ⟨_, rfl⟩
    have HNE := Lib.hid hNe
    have hlong : pb.size ≤ 1024 := by
      unfold badW at hz
      rw [if_neg (fun h => by rcases h with h | h; exact hpne h; rw [if_pos (Or.inr h)] at hz; cases hz)] at hz
      by_cases hl : longB pb.data.toList = true
      · rw [if_pos hl] at hz; cases hz
      · unfold longB at hl
        rw [Bool.or_eq_true, decide_eq_true_eq, size_list] at hl
        omega
    have HNL := Lib.hid (show N.length ≤ 5000 by rw [hNe]; have := count_parts pb.data.toList; rw [size_list] at this; omega)
    obtain ⟨s, heb⟩ : ∃ s, endL pb.data.toList = s := ⟨_, rfl⟩
    have HS := Lib.hid heb
    obtain ⟨kz, hkz⟩ : ∃ kz, kz = (wayW L (follow || s) 8 N st).1 := ⟨_, rfl⟩
    obtain ⟨ez, hez⟩ : ∃ ez, ez = (wayW L (follow || s) 8 N st).2 := ⟨_, rfl⟩
    have HWAY := Lib.hid (show ∀ lb, lb = (follow || s) → ∀ W n₀ g, w1.heap.size ≤ g → Below w1.heap.size w1 W → n₀ ≤ W.heap.size → WayAt n₀ g (.slice a L.length cap, .int .i64 m, .int .i64 b) W st N.reverse 0 → Calls Try.prog 59 #[.pointer (some ⟨g, 0, none⟩), .bool lb] W fun e w' => (∃ z : Int, e = .returned (.tuple #[.int .i64 z, .int .i64 ez]) ∧ (ez = 0 → z = kz)) ∧ Moved g W w' from fun lb hlb W n₀ g hg hW hn hV => by
      subst hlb
      exact lend_any n₀ g a cap m b st N HNL.out _ L HF.out w1 HM.out hg W hW hn hV kz ez hkz hez)
    have HW := Lib.hid (show R = if ez ≠ 0 then (0, ez) else if s = true ∧ dirB L kz = false then (0, 20) else (kz, 0) by
      rw [HR.out]
      unfold walkW
      rw [hz, if_neg (by simp), hst, ← hNe, heb, ← hez, ← hkz])
    obtain ⟨dz, hdz⟩ : ∃ dz, dirB L kz = dz := ⟨_, rfl⟩
    rw [hdz] at HW
    obtain ⟨kk, hkk⟩ : ∃ kk, kindL L kz = kk := ⟨_, rfl⟩
    have HKK := Lib.hid hkk
    have hkd := kind_dz hdz
    rw [hkk] at hkd
    clear hz hpne heb hst hNe hkz hez hdz hbad HR hkk
    cases follow
    case false =>
      go_enter Try.func42, Try.ntmps42
      go_wp2_with fail
      rw [← hw1]
      refine (refused_known _ _ _ _ _ _ hp L 0 HZ.out _ HM.out).mono ?_
      rintro e w2 ⟨rfl, hb2⟩
      have HB2 := Lib.hid hb2
      obtain ⟨q0, q1, q2⟩ := HX.out _ hb2
      clear hb2
      cases he : (ez != 0) with
      | true =>
        have HW2 := Lib.hid (show R = (0, ez) by rw [HW.out, if_pos (by simpa using he)])
        go_wp2_with (first | (go_at_call 57; refine (hassuf_known _ hp _ HS.out _).mono ?_; rintro e wn ⟨rfl, rfl⟩) | (go_at_call 58; refine (lbegin_any _ _ _ cwd pb hlong st N HST.out HNE.out w2).mono ?_; rintro e w3 ⟨⟨ue, rfl⟩, hv3, hb3, hs3⟩; have HV3 := Lib.hid hv3; have HB3 := Lib.hid (HB2.out.trans (hb3.mono HB2.out.size)); have hs2 := HB2.out.size; clear hv3 hb3 q0 q1 q2) | (go_at_call 59; refine (HWAY.out _ rfl w3 (w2.heap.size + 1) w2.heap.size hs2 HB3.out hs3 HV3.out).mono ?_; rintro e w4 ⟨⟨zz, rfl, hzz⟩, hm4⟩; have HB4 := Lib.hid (HB3.out.trans (hm4.below.mono hs2)); have HZZ := Lib.hid hzz; (obtain ⟨q0, q1, q2⟩ := HX.out _ HB4.out); clear hzz hm4) | fail)
        go_ret2
        exact ⟨by rw [HW2.out]; rfl, HEND.out _ HB4.out⟩
      | false =>
        have hz0 : ez = 0 := by simpa using he
        subst hz0
        cases s with
        | false =>
          have HW2 := Lib.hid (show R = (kz, 0) by rw [HW.out, if_neg (by simp), if_neg (by simp)])
          go_wp2_with (first | (go_at_call 57; refine (hassuf_known _ hp _ HS.out _).mono ?_; rintro e wn ⟨rfl, rfl⟩) | (go_at_call 58; refine (lbegin_any _ _ _ cwd pb hlong st N HST.out HNE.out w2).mono ?_; rintro e w3 ⟨⟨ue, rfl⟩, hv3, hb3, hs3⟩; have HV3 := Lib.hid hv3; have HB3 := Lib.hid (HB2.out.trans (hb3.mono HB2.out.size)); have hs2 := HB2.out.size; clear hv3 hb3 q0 q1 q2) | (go_at_call 59; refine (HWAY.out _ rfl w3 (w2.heap.size + 1) w2.heap.size hs2 HB3.out hs3 HV3.out).mono ?_; rintro e w4 ⟨⟨zz, rfl, hzz⟩, hm4⟩; have HB4 := Lib.hid (HB3.out.trans (hm4.below.mono hs2)); have HZZ := Lib.hid hzz; (obtain ⟨q0, q1, q2⟩ := HX.out _ HB4.out); clear hzz hm4) | fail)
          go_ret2
          exact ⟨by rw [HW2.out, HZZ.out (by trivial)]; rfl, HEND.out _ HB4.out⟩
        | true =>
          cases dz with
          | false =>
            have HW2 := Lib.hid (show R = (0, 20) by rw [HW.out, if_neg (by simp), if_pos (by simp)])
            simp only [Bool.not_false] at hkd
            go_wp2_with (first | (go_at_call 57; refine (hassuf_known _ hp _ HS.out _).mono ?_; rintro e wn ⟨rfl, rfl⟩) | (go_at_call 58; refine (lbegin_any _ _ _ cwd pb hlong st N HST.out HNE.out w2).mono ?_; rintro e w3 ⟨⟨ue, rfl⟩, hv3, hb3, hs3⟩; have HV3 := Lib.hid hv3; have HB3 := Lib.hid (HB2.out.trans (hb3.mono HB2.out.size)); have hs2 := HB2.out.size; clear hv3 hb3 q0 q1 q2) | (go_at_call 59; refine (HWAY.out _ rfl w3 (w2.heap.size + 1) w2.heap.size hs2 HB3.out hs3 HV3.out).mono ?_; rintro e w4 ⟨⟨zz, rfl, hzz⟩, hm4⟩; have HB4 := Lib.hid (HB3.out.trans (hm4.below.mono hs2)); have HZZ := Lib.hid hzz; (obtain ⟨q0, q1, q2⟩ := HX.out _ HB4.out); clear hzz hm4) | (go_at_call 60; refine (kind_known a cap m b _ L kk (by rw [HZZ.out (by trivial)]; exact HKK.out) _ (HM.out.below HB4.out)).mono ?_; rintro e w5 ⟨rfl, hb5⟩; have HB5 := Lib.hid (HB4.out.trans (hb5.mono HB4.out.size))) | fail)
            go_ret2
            exact ⟨by rw [HW2.out]; rfl, HEND.out _ HB5.out⟩
          | true =>
            have HW2 := Lib.hid (show R = (kz, 0) by rw [HW.out, if_neg (by simp), if_neg (by simp)])
            simp only [Bool.not_true] at hkd
            go_wp2_with (first | (go_at_call 57; refine (hassuf_known _ hp _ HS.out _).mono ?_; rintro e wn ⟨rfl, rfl⟩) | (go_at_call 58; refine (lbegin_any _ _ _ cwd pb hlong st N HST.out HNE.out w2).mono ?_; rintro e w3 ⟨⟨ue, rfl⟩, hv3, hb3, hs3⟩; have HV3 := Lib.hid hv3; have HB3 := Lib.hid (HB2.out.trans (hb3.mono HB2.out.size)); have hs2 := HB2.out.size; clear hv3 hb3 q0 q1 q2) | (go_at_call 59; refine (HWAY.out _ rfl w3 (w2.heap.size + 1) w2.heap.size hs2 HB3.out hs3 HV3.out).mono ?_; rintro e w4 ⟨⟨zz, rfl, hzz⟩, hm4⟩; have HB4 := Lib.hid (HB3.out.trans (hm4.below.mono hs2)); have HZZ := Lib.hid hzz; (obtain ⟨q0, q1, q2⟩ := HX.out _ HB4.out); clear hzz hm4) | (go_at_call 60; refine (kind_known a cap m b _ L kk (by rw [HZZ.out (by trivial)]; exact HKK.out) _ (HM.out.below HB4.out)).mono ?_; rintro e w5 ⟨rfl, hb5⟩; have HB5 := Lib.hid (HB4.out.trans (hb5.mono HB4.out.size))) | fail)
            go_ret2
            exact ⟨by rw [HW2.out, HZZ.out (by trivial)]; rfl, HEND.out _ HB5.out⟩
    case true =>
      go_enter Try.func42, Try.ntmps42
      go_wp2_with fail
      rw [← hw1]
      refine (refused_known _ _ _ _ _ _ hp L 0 HZ.out _ HM.out).mono ?_
      rintro e w2 ⟨rfl, hb2⟩
      have HB2 := Lib.hid hb2
      obtain ⟨q0, q1, q2⟩ := HX.out _ hb2
      clear hb2
      cases he : (ez != 0) with
      | true =>
        have HW2 := Lib.hid (show R = (0, ez) by rw [HW.out, if_pos (by simpa using he)])
        go_wp2_with (first | (go_at_call 57; refine (hassuf_known _ hp _ HS.out _).mono ?_; rintro e wn ⟨rfl, rfl⟩) | (go_at_call 58; refine (lbegin_any _ _ _ cwd pb hlong st N HST.out HNE.out w2).mono ?_; rintro e w3 ⟨⟨ue, rfl⟩, hv3, hb3, hs3⟩; have HV3 := Lib.hid hv3; have HB3 := Lib.hid (HB2.out.trans (hb3.mono HB2.out.size)); have hs2 := HB2.out.size; clear hv3 hb3 q0 q1 q2) | (go_at_call 59; refine (HWAY.out _ rfl w3 (w2.heap.size + 1) w2.heap.size hs2 HB3.out hs3 HV3.out).mono ?_; rintro e w4 ⟨⟨zz, rfl, hzz⟩, hm4⟩; have HB4 := Lib.hid (HB3.out.trans (hm4.below.mono hs2)); have HZZ := Lib.hid hzz; (obtain ⟨q0, q1, q2⟩ := HX.out _ HB4.out); clear hzz hm4) | fail)
        go_ret2
        exact ⟨by rw [HW2.out]; rfl, HEND.out _ HB4.out⟩
      | false =>
        have hz0 : ez = 0 := by simpa using he
        subst hz0
        cases s with
        | false =>
          have HW2 := Lib.hid (show R = (kz, 0) by rw [HW.out, if_neg (by simp), if_neg (by simp)])
          go_wp2_with (first | (go_at_call 57; refine (hassuf_known _ hp _ HS.out _).mono ?_; rintro e wn ⟨rfl, rfl⟩) | (go_at_call 58; refine (lbegin_any _ _ _ cwd pb hlong st N HST.out HNE.out w2).mono ?_; rintro e w3 ⟨⟨ue, rfl⟩, hv3, hb3, hs3⟩; have HV3 := Lib.hid hv3; have HB3 := Lib.hid (HB2.out.trans (hb3.mono HB2.out.size)); have hs2 := HB2.out.size; clear hv3 hb3 q0 q1 q2) | (go_at_call 59; refine (HWAY.out _ rfl w3 (w2.heap.size + 1) w2.heap.size hs2 HB3.out hs3 HV3.out).mono ?_; rintro e w4 ⟨⟨zz, rfl, hzz⟩, hm4⟩; have HB4 := Lib.hid (HB3.out.trans (hm4.below.mono hs2)); have HZZ := Lib.hid hzz; (obtain ⟨q0, q1, q2⟩ := HX.out _ HB4.out); clear hzz hm4) | fail)
          go_ret2
          exact ⟨by rw [HW2.out, HZZ.out (by trivial)]; rfl, HEND.out _ HB4.out⟩
        | true =>
          cases dz with
          | false =>
            have HW2 := Lib.hid (show R = (0, 20) by rw [HW.out, if_neg (by simp), if_pos (by simp)])
            simp only [Bool.not_false] at hkd
            go_wp2_with (first | (go_at_call 57; refine (hassuf_known _ hp _ HS.out _).mono ?_; rintro e wn ⟨rfl, rfl⟩) | (go_at_call 58; refine (lbegin_any _ _ _ cwd pb hlong st N HST.out HNE.out w2).mono ?_; rintro e w3 ⟨⟨ue, rfl⟩, hv3, hb3, hs3⟩; have HV3 := Lib.hid hv3; have HB3 := Lib.hid (HB2.out.trans (hb3.mono HB2.out.size)); have hs2 := HB2.out.size; clear hv3 hb3 q0 q1 q2) | (go_at_call 59; refine (HWAY.out _ rfl w3 (w2.heap.size + 1) w2.heap.size hs2 HB3.out hs3 HV3.out).mono ?_; rintro e w4 ⟨⟨zz, rfl, hzz⟩, hm4⟩; have HB4 := Lib.hid (HB3.out.trans (hm4.below.mono hs2)); have HZZ := Lib.hid hzz; (obtain ⟨q0, q1, q2⟩ := HX.out _ HB4.out); clear hzz hm4) | (go_at_call 60; refine (kind_known a cap m b _ L kk (by rw [HZZ.out (by trivial)]; exact HKK.out) _ (HM.out.below HB4.out)).mono ?_; rintro e w5 ⟨rfl, hb5⟩; have HB5 := Lib.hid (HB4.out.trans (hb5.mono HB4.out.size))) | fail)
            go_ret2
            exact ⟨by rw [HW2.out]; rfl, HEND.out _ HB5.out⟩
          | true =>
            have HW2 := Lib.hid (show R = (kz, 0) by rw [HW.out, if_neg (by simp), if_neg (by simp)])
            simp only [Bool.not_true] at hkd
            go_wp2_with (first | (go_at_call 57; refine (hassuf_known _ hp _ HS.out _).mono ?_; rintro e wn ⟨rfl, rfl⟩) | (go_at_call 58; refine (lbegin_any _ _ _ cwd pb hlong st N HST.out HNE.out w2).mono ?_; rintro e w3 ⟨⟨ue, rfl⟩, hv3, hb3, hs3⟩; have HV3 := Lib.hid hv3; have HB3 := Lib.hid (HB2.out.trans (hb3.mono HB2.out.size)); have hs2 := HB2.out.size; clear hv3 hb3 q0 q1 q2) | (go_at_call 59; refine (HWAY.out _ rfl w3 (w2.heap.size + 1) w2.heap.size hs2 HB3.out hs3 HV3.out).mono ?_; rintro e w4 ⟨⟨zz, rfl, hzz⟩, hm4⟩; have HB4 := Lib.hid (HB3.out.trans (hm4.below.mono hs2)); have HZZ := Lib.hid hzz; (obtain ⟨q0, q1, q2⟩ := HX.out _ HB4.out); clear hzz hm4) | (go_at_call 60; refine (kind_known a cap m b _ L kk (by rw [HZZ.out (by trivial)]; exact HKK.out) _ (HM.out.below HB4.out)).mono ?_; rintro e w5 ⟨rfl, hb5⟩; have HB5 := Lib.hid (HB4.out.trans (hb5.mono HB4.out.size))) | fail)
            go_ret2
            exact ⟨by rw [HW2.out, HZZ.out (by trivial)]; rfl, HEND.out _ HB5.out⟩
end Go.Proofs.Ytfmaagcomplooaa

namespace Go.Proofs.Ytfmaagcomplooaa
set_option maxRecDepth 100000
open Go Go.RowKit

set_option maxRecDepth 100000 in
set_option maxHeartbeats 8000000 in
theorem lparent_any (a : Option Addr) (cap : Nat) (m b cwd : Int) (pb : ByteArray) (hp : pb.size ≤ 1073741824) (L : List Ino) (hF : FitP L m b) (w : World) (hN : NodesIn w a cap L) :
    Calls Try.prog 61 #[.agg #[.slice a L.length cap, .int .i64 m, .int .i64 b], .int .i64 cwd, .string pb] w fun e w' => e = .returned (.tuple #[.int .i64 (parentW L cwd pb.data.toList).1, .string ⟨(parentW L cwd pb.data.toList).2.1.toArray⟩, .int .i64 (parentW L cwd pb.data.toList).2.2]) ∧ Below w.heap.size w w' := by
  obtain ⟨w1, hw1⟩ : ∃ w1, w1 = w.alloc (.cells #[.slice a L.length cap, .int .i64 m, .int .i64 b] 24) := ⟨_, rfl⟩
  have hb1 := below_box w (.cells #[.slice a L.length cap, .int .i64 m, .int .i64 b] 24)
  have hM := hN.below hb1
  have hsz : w1.heap.size = w.heap.size + 1 := by rw [hw1]; simp
  have hbox : ∀ W', Below w1.heap.size w1 W' → W'.cell? ⟨w.heap.size, 0, none⟩ = some (.slice a L.length cap) ∧ W'.cell? ⟨w.heap.size, 1, none⟩ = some (.int .i64 m) ∧ W'.cell? ⟨w.heap.size, 2, none⟩ = some (.int .i64 b) := fun W' h => box3 (by rw [← hw1]; exact h)
  rw [← hw1] at hM hb1
  have HM := Lib.hid hM
  have HB := Lib.hid hb1
  have HX := Lib.hid hbox
  have HEND := Lib.hid (show ∀ W', Below w1.heap.size w1 W' → Below w.heap.size w W' from fun W' h => HB.out.trans (h.mono (by rw [hsz]; omega)))
  have HF := Lib.hid hF
  obtain ⟨R, hR⟩ : ∃ R, R = parentW L cwd pb.data.toList := ⟨_, rfl⟩
  rw [← hR]
  have HR := Lib.hid hR
  obtain ⟨z, hz⟩ : ∃ z, badW L cwd pb.data.toList = z := ⟨_, rfl⟩
  have HZ := Lib.hid hz
  clear hM hN hb1 hbox hsz hF hR
  by_cases hbad : z ≠ 0
  · have hzb : (z != 0) = true := by simpa using hbad
    have HW := Lib.hid (show R = (0, [], z) by rw [HR.out]; unfold parentW; rw [hz, if_pos hbad])
    clear hbad hz
    go_enter Try.func61, Try.ntmps61
    go_wp2_with fail
    rw [← hw1]
    refine (refused_known _ _ _ _ _ _ hp L z HZ.out _ HM.out).mono ?_
    rintro e w2 ⟨rfl, hb2⟩
    go_wp2_with fail
    go_ret3
    exact ⟨by rw [HW.out]; rfl, HEND.out _ hb2⟩
  · obtain rfl : z = 0 := by simpa using hbad
    obtain ⟨st, hst⟩ : ∃ st, beginW cwd pb.data.toList = st := ⟨_, rfl⟩
    have HST := Lib.hid hst
    obtain ⟨N, hNe⟩ : ∃ N, N = partsL pb.data.toList := ⟨_, rfl⟩
    have HNE := Lib.hid hNe
    have hlong : pb.size ≤ 1024 := by
      unfold badW at hz
      by_cases h2 : pb.data.toList = [] ∨ dirB L cwd = false
      · rw [if_pos h2] at hz; cases hz
      · rw [if_neg h2] at hz
        by_cases hl : longB pb.data.toList = true
        · rw [if_pos hl] at hz; cases hz
        · unfold longB at hl
          rw [Bool.or_eq_true, decide_eq_true_eq, size_list] at hl
          omega
    have hNL : N.length ≤ 1025 := by rw [hNe]; have := count_parts pb.data.toList; rw [size_list] at this; omega
    have HW := Lib.hid (show R = if N = [] then (0, [], 17) else if (wayW L true 8 N.dropLast st).2 ≠ 0 then (0, [], (wayW L true 8 N.dropLast st).2) else if dirB L (wayW L true 8 N.dropLast st).1 = false then (0, [], 20) else ((wayW L true 8 N.dropLast st).1, N.getLastD [], 0) by
      rw [HR.out]
      unfold parentW
      rw [hz, if_neg (by simp), hst, ← hNe])
    clear hz hst hNe hbad HR
    rcases List.eq_nil_or_concat N with hn | ⟨M, y, hn⟩
    · have HNN := Lib.hid hn
      have HW2 := Lib.hid (show R = (0, [], 17) by rw [HW.out, if_pos hn])
      clear hn
      go_enter Try.func61, Try.ntmps61
      go_wp2_with fail
      rw [← hw1]
      refine (refused_known _ _ _ _ _ _ hp L 0 HZ.out _ HM.out).mono ?_
      rintro e w2 ⟨rfl, hb2⟩
      have HB2 := Lib.hid hb2
      obtain ⟨q0, q1, q2⟩ := HX.out _ hb2
      clear hb2
      go_wp2_with (first | (go_at_call 58; refine (lbegin_any _ _ _ cwd pb hlong st N HST.out HNE.out w2).mono ?_; rintro e w3 ⟨⟨ue, rfl⟩, hv3, hb3, hs3⟩; rw [HNN.out] at hv3; have HV3 := Lib.hid hv3; have HB3 := Lib.hid (HB2.out.trans (hb3.mono HB2.out.size)); clear hv3 hb3 q0 q1 q2) | (go_at_call 77; refine (lout_none _ _ _ _ _ _ HV3.out).mono ?_; rintro e w4 ⟨rfl, rfl⟩) | fail)
      go_ret3
      exact ⟨by rw [HW2.out]; rfl, HEND.out _ HB3.out⟩
    · rw [List.concat_eq_append] at hn
      have hlen : N.length = M.length + 1 := by rw [hn]; simp
      have HNN := Lib.hid (show N.reverse = y :: M.reverse by rw [hn]; simp)
      obtain ⟨kz, hkz⟩ : ∃ kz, kz = (wayW L true 8 M st).1 := ⟨_, rfl⟩
      obtain ⟨ez, hez⟩ : ∃ ez, ez = (wayW L true 8 M st).2 := ⟨_, rfl⟩
      have HWAY := Lib.hid (show ∀ W n₀ g, w1.heap.size ≤ g → Below w1.heap.size w1 W → n₀ ≤ W.heap.size → WayAt n₀ g (.slice a L.length cap, .int .i64 m, .int .i64 b) W st M.reverse 0 → Calls Try.prog 59 #[.pointer (some ⟨g, 0, none⟩), .bool true] W fun e w' => (∃ z : Int, e = .returned (.tuple #[.int .i64 z, .int .i64 ez]) ∧ (ez = 0 → z = kz)) ∧ Moved g W w' from fun W n₀ g hg hW hn hV =>
        lend_any n₀ g a cap m b st M (by omega) true L HF.out w1 HM.out hg W hW hn hV kz ez hkz hez)
      obtain ⟨dz, hdz⟩ : ∃ dz, dirB L kz = dz := ⟨_, rfl⟩
      have HW2 := Lib.hid (show R = if ez ≠ 0 then (0, [], ez) else if dz = false then (0, [], 20) else (kz, y, 0) by
        rw [HW.out, if_neg (by rw [hn]; simp), hn, List.dropLast_concat, ← hkz, ← hez, hdz]
        congr 3
        simp)
      obtain ⟨kk, hkk⟩ : ∃ kk, kindL L kz = kk := ⟨_, rfl⟩
      have HKK := Lib.hid hkk
      have hkd := kind_dz hdz
      rw [hkk] at hkd
      clear hkz hez hdz hn HW hkk
      go_enter Try.func61, Try.ntmps61
      go_wp2_with fail
      rw [← hw1]
      refine (refused_known _ _ _ _ _ _ hp L 0 HZ.out _ HM.out).mono ?_
      rintro e w2 ⟨rfl, hb2⟩
      have HB2 := Lib.hid hb2
      obtain ⟨q0, q1, q2⟩ := HX.out _ hb2
      clear hb2
      have hs2 := HB2.out.size
      cases he : (ez != 0) with
      | true =>
        have HW3 := Lib.hid (show R = (0, [], ez) by rw [HW2.out, if_pos (by simpa using he)])
        go_wp2_with (first | (go_at_call 58; refine (lbegin_any _ _ _ cwd pb hlong st N HST.out HNE.out w2).mono ?_; rintro e w3 ⟨⟨ue, rfl⟩, hv3, hb3, hs3⟩; rw [HNN.out] at hv3; have HV3 := Lib.hid hv3; have HB3 := Lib.hid (HB2.out.trans (hb3.mono HB2.out.size)); clear hv3 hb3 q0 q1 q2) | (go_at_call 77; refine (lout_some _ _ _ _ _ _ _ _ HV3.out).mono ?_; rintro e w4 ⟨rfl, hv4, hm4⟩; have HV4 := Lib.hid hv4; have hs4 := Nat.le_trans hs3 hm4.below.size; have HB4 := Lib.hid (HB3.out.trans (hm4.below.mono hs2)); clear hv4 hm4) | (go_at_call 59; refine (HWAY.out w4 (w2.heap.size + 1) w2.heap.size hs2 HB4.out hs4 HV4.out).mono ?_; rintro e w5 ⟨⟨zz, rfl, hzz⟩, hm5⟩; have HB5 := Lib.hid (HB4.out.trans (hm5.below.mono hs2)); have HZZ := Lib.hid hzz; (obtain ⟨q0, q1, q2⟩ := HX.out _ HB5.out); clear hzz hm5) | (go_at_call 60; refine (kind_known a cap m b _ L kk (by rw [HZZ.out (by trivial)]; exact HKK.out) _ (HM.out.below HB5.out)).mono ?_; rintro e w6 ⟨rfl, hb6⟩; have HB6 := Lib.hid (HB5.out.trans (hb6.mono HB5.out.size))) | fail)
        go_ret3
        exact ⟨by rw [HW3.out]; rfl, HEND.out _ HB5.out⟩
      | false =>
        have hz0 : ez = 0 := by simpa using he
        subst hz0
        cases dz with
        | false =>
          have HW3 := Lib.hid (show R = (0, [], 20) by rw [HW2.out, if_neg (by simp), if_pos rfl])
          simp only [Bool.not_false] at hkd
          go_wp2_with (first | (go_at_call 58; refine (lbegin_any _ _ _ cwd pb hlong st N HST.out HNE.out w2).mono ?_; rintro e w3 ⟨⟨ue, rfl⟩, hv3, hb3, hs3⟩; rw [HNN.out] at hv3; have HV3 := Lib.hid hv3; have HB3 := Lib.hid (HB2.out.trans (hb3.mono HB2.out.size)); clear hv3 hb3 q0 q1 q2) | (go_at_call 77; refine (lout_some _ _ _ _ _ _ _ _ HV3.out).mono ?_; rintro e w4 ⟨rfl, hv4, hm4⟩; have HV4 := Lib.hid hv4; have hs4 := Nat.le_trans hs3 hm4.below.size; have HB4 := Lib.hid (HB3.out.trans (hm4.below.mono hs2)); clear hv4 hm4) | (go_at_call 59; refine (HWAY.out w4 (w2.heap.size + 1) w2.heap.size hs2 HB4.out hs4 HV4.out).mono ?_; rintro e w5 ⟨⟨zz, rfl, hzz⟩, hm5⟩; have HB5 := Lib.hid (HB4.out.trans (hm5.below.mono hs2)); have HZZ := Lib.hid hzz; (obtain ⟨q0, q1, q2⟩ := HX.out _ HB5.out); clear hzz hm5) | (go_at_call 60; refine (kind_known a cap m b _ L kk (by rw [HZZ.out (by trivial)]; exact HKK.out) _ (HM.out.below HB5.out)).mono ?_; rintro e w6 ⟨rfl, hb6⟩; have HB6 := Lib.hid (HB5.out.trans (hb6.mono HB5.out.size))) | fail)
          go_ret3
          exact ⟨by rw [HW3.out]; rfl, HEND.out _ HB6.out⟩
        | true =>
          have HW3 := Lib.hid (show R = (kz, y, 0) by rw [HW2.out, if_neg (by simp), if_neg (by simp)])
          simp only [Bool.not_true] at hkd
          go_wp2_with (first | (go_at_call 58; refine (lbegin_any _ _ _ cwd pb hlong st N HST.out HNE.out w2).mono ?_; rintro e w3 ⟨⟨ue, rfl⟩, hv3, hb3, hs3⟩; rw [HNN.out] at hv3; have HV3 := Lib.hid hv3; have HB3 := Lib.hid (HB2.out.trans (hb3.mono HB2.out.size)); clear hv3 hb3 q0 q1 q2) | (go_at_call 77; refine (lout_some _ _ _ _ _ _ _ _ HV3.out).mono ?_; rintro e w4 ⟨rfl, hv4, hm4⟩; have HV4 := Lib.hid hv4; have hs4 := Nat.le_trans hs3 hm4.below.size; have HB4 := Lib.hid (HB3.out.trans (hm4.below.mono hs2)); clear hv4 hm4) | (go_at_call 59; refine (HWAY.out w4 (w2.heap.size + 1) w2.heap.size hs2 HB4.out hs4 HV4.out).mono ?_; rintro e w5 ⟨⟨zz, rfl, hzz⟩, hm5⟩; have HB5 := Lib.hid (HB4.out.trans (hm5.below.mono hs2)); have HZZ := Lib.hid hzz; (obtain ⟨q0, q1, q2⟩ := HX.out _ HB5.out); clear hzz hm5) | (go_at_call 60; refine (kind_known a cap m b _ L kk (by rw [HZZ.out (by trivial)]; exact HKK.out) _ (HM.out.below HB5.out)).mono ?_; rintro e w6 ⟨rfl, hb6⟩; have HB6 := Lib.hid (HB5.out.trans (hb6.mono HB5.out.size))) | fail)
          go_ret3
          exact ⟨by rw [HW3.out, HZZ.out (by trivial)]; rfl, HEND.out _ HB6.out⟩
end Go.Proofs.Ytfmaagcomplooaa

namespace Go.Proofs.Ytfmaagcomplooaa
set_option maxRecDepth 100000
open Go Go.RowKit

/-- What newName tells, and the errors of the inode that is to have the name. -/
def spotW (L : List Ino) (cwd : Int) (p : List UInt8) : Int × List UInt8 × Bool × Int :=
  if (freshW L cwd p true).2.2 ≠ 0 then (0, [], false, (freshW L cwd p true).2.2) else ((freshW L cwd p true).1, (freshW L cwd p true).2.1, endL p, 0)

theorem lpar_known (a : Option Addr) (cap : Nat) (m b cwd : Int) (pb : ByteArray) (hp : pb.size ≤ 1073741824) (L : List Ino) (hF : FitP L m b) (z : Int) (s : List UInt8) (e : Int) (h : parentW L cwd pb.data.toList = (z, s, e)) (w : World) (hN : NodesIn w a cap L) :
    Calls Try.prog 61 #[.agg #[.slice a L.length cap, .int .i64 m, .int .i64 b], .int .i64 cwd, .string pb] w fun r w' => r = .returned (.tuple #[.int .i64 z, .string ⟨s.toArray⟩, .int .i64 e]) ∧ Below w.heap.size w w' := by
  have := lparent_any a cap m b cwd pb hp L hF w hN
  rw [h] at this
  exact this

set_option maxHeartbeats 4000000 in
theorem lnew_any (a : Option Addr) (cap : Nat) (m b cwd : Int) (pb : ByteArray) (hp : pb.size ≤ 1073741824) (L : List Ino) (hF : FitP L m b) (z : Int) (s : List UInt8) (sl : Bool) (er : Int) (hz : spotW L cwd pb.data.toList = (z, s, sl, er)) (w : World) (hN : NodesIn w a cap L) :
    Calls Try.prog 43 #[.agg #[.slice a L.length cap, .int .i64 m, .int .i64 b], .int .i64 cwd, .string pb] w fun e w' => e = .returned (.tuple #[.agg #[.int .i64 z, .string ⟨s.toArray⟩, .bool sl], .int .i64 er]) ∧ Below w.heap.size w w' := by
  obtain ⟨⟨d, nm, pe⟩, hpar⟩ : ∃ r, parentW L cwd pb.data.toList = r := ⟨_, rfl⟩
  obtain ⟨w2, hw2, hb2, hs2, hA, hB⟩ := two_boxes w #[.slice a L.length cap, .int .i64 m, .int .i64 b] #[.int .i64 0, .string ⟨#[]⟩, .bool false] 24 74
  have HP := Lib.hid hpar
  have HF := Lib.hid hF
  have HN := Lib.hid (hN.below hb2)
  have HZ := Lib.hid hz
  have HA := Lib.hid (show ∀ W, Below w2.heap.size w2 W → W.cell? ⟨w.heap.size, 0, none⟩ = some (.slice a L.length cap) ∧ W.cell? ⟨w.heap.size, 1, none⟩ = some (.int .i64 m) ∧ W.cell? ⟨w.heap.size, 2, none⟩ = some (.int .i64 b) from fun W hW => by
    have h := (hW.block w.heap.size (by omega)).trans hA
    exact ⟨blk_cell h 0, blk_cell h 1, blk_cell h 2⟩)
  have HB := Lib.hid (show ∀ W, Below w2.heap.size w2 W → W.heap[w.heap.size + 1]? = some (.cells #[.int .i64 0, .string ⟨#[]⟩, .bool false] 74 (0, 0)) from fun W hW => (hW.block _ (by omega)).trans hB)
  have HE := Lib.hid (show ∀ W, Below w2.heap.size w2 W → ∀ x y z, Below w.heap.size w (put3 W (w.heap.size + 1) x y z) from fun W hW x y z => put3_below (hb2.trans (hW.mono (by omega))) (by omega) x y z)
  clear hpar hF hN hz hA hB hb2
  by_cases h1 : pe = 0
  · subst h1
    obtain ⟨sf, hsf⟩ : ∃ v, endL pb.data.toList = v := ⟨_, rfl⟩
    obtain ⟨kz, hkz⟩ : ∃ v, kidL L d nm = v := ⟨_, rfl⟩
    obtain ⟨mv, hmv⟩ : ∃ v, mayL L d 3 = v := ⟨_, rfl⟩
    obtain ⟨nv, hnv⟩ : ∃ v, nameOkL nm = v := ⟨_, rfl⟩
    have HSF := Lib.hid hsf
    have HK := Lib.hid hkz
    have HM := Lib.hid hmv
    have HNM := Lib.hid hnv
    have hz2 := HZ.out
    unfold spotW freshW at hz2
    rw [HP.out] at hz2
    simp only [hkz, hmv, hnv, hsf] at hz2
    clear hsf hkz hmv hnv
    by_cases e1 : nm = [46]
    · subst e1
      simp at hz2
      obtain ⟨rfl, rfl, rfl, rfl⟩ := hz2
      go_enter Try.func43, Try.ntmps43
      go_wp2_with fail
      rw [← hw2]
      clear hw2
      refine (lpar_known _ _ _ _ _ _ hp L HF.out _ _ _ HP.out _ HN.out).mono ?_
      rintro e w3 ⟨rfl, hb3⟩
      have HB3 := Lib.hid hb3
      clear hb3
      have hBx := HB.out _ HB3.out
      have r0 := blk_cell hBx 0
      have r1 := blk_cell hBx 1
      have r2 := blk_cell hBx 2
      have s0 := blk_free hBx 0
      have s1 := blk_free hBx 1
      have s2 := blk_free hBx 2
      have hlx := lt_of_block hBx
      have HBX := Lib.hid hBx
      clear hBx
      go_wp2_with fail
      change bodyPost _ _ _ _ _ (put3 w3 (w.heap.size + 1) (.int .i64 0) (.string ⟨#[]⟩) (.bool false))
      obtain ⟨c0, c1, c2⟩ := put3_cells HBX.out (.int .i64 0) (.string ⟨#[]⟩) (.bool false)
      have HBF := Lib.hid (HE.out w3 HB3.out (.int .i64 0) (.string ⟨#[]⟩) (.bool false))
      generalize put3 w3 (w.heap.size + 1) (.int .i64 0) (.string ⟨#[]⟩) (.bool false) = wF at *
      refine bodyPost_ret (v := .tuple #[.agg #[.int .i64 0, .string ⟨#[]⟩, .bool false], .int .i64 17]) (by simp [results, Try.results43, go_sem, c0, c1, c2]) rfl ⟨rfl, HBF.out⟩
    have e1b : (nm == [46]) = false := by simpa using e1
    by_cases e2 : nm = [46, 46]
    · subst e2
      simp at hz2
      obtain ⟨rfl, rfl, rfl, rfl⟩ := hz2
      go_enter Try.func43, Try.ntmps43
      go_wp2_with fail
      rw [← hw2]
      clear hw2
      refine (lpar_known _ _ _ _ _ _ hp L HF.out _ _ _ HP.out _ HN.out).mono ?_
      rintro e w3 ⟨rfl, hb3⟩
      have HB3 := Lib.hid hb3
      clear hb3
      have hBx := HB.out _ HB3.out
      have r0 := blk_cell hBx 0
      have r1 := blk_cell hBx 1
      have r2 := blk_cell hBx 2
      have s0 := blk_free hBx 0
      have s1 := blk_free hBx 1
      have s2 := blk_free hBx 2
      have hlx := lt_of_block hBx
      have HBX := Lib.hid hBx
      clear hBx
      go_wp2_with fail
      change bodyPost _ _ _ _ _ (put3 w3 (w.heap.size + 1) (.int .i64 0) (.string ⟨#[]⟩) (.bool false))
      obtain ⟨c0, c1, c2⟩ := put3_cells HBX.out (.int .i64 0) (.string ⟨#[]⟩) (.bool false)
      have HBF := Lib.hid (HE.out w3 HB3.out (.int .i64 0) (.string ⟨#[]⟩) (.bool false))
      generalize put3 w3 (w.heap.size + 1) (.int .i64 0) (.string ⟨#[]⟩) (.bool false) = wF at *
      refine bodyPost_ret (v := .tuple #[.agg #[.int .i64 0, .string ⟨#[]⟩, .bool false], .int .i64 17]) (by simp [results, Try.results43, go_sem, c0, c1, c2]) rfl ⟨rfl, HBF.out⟩
    have e2b : (nm == [46, 46]) = false := by simpa using e2
    by_cases e3 : 0 ≤ kz
    · simp [e1, e2, e3] at hz2
      obtain ⟨rfl, rfl, rfl, rfl⟩ := hz2
      clear e1 e2
      go_enter Try.func43, Try.ntmps43
      go_wp2_with fail
      rw [← hw2]
      clear hw2
      refine (lpar_known _ _ _ _ _ _ hp L HF.out _ _ _ HP.out _ HN.out).mono ?_
      rintro e w3 ⟨rfl, hb3⟩
      have HB3 := Lib.hid hb3
      clear hb3
      obtain ⟨q0, q1, q2⟩ := HA.out _ HB3.out
      have hq := cell_lt q0
      go_wp2_with fail
      refine (lkid_known _ _ _ _ _ _ L (kids_rise HF.out.ins) _ HK.out _ (HN.out.below HB3.out)).mono ?_
      rintro e w4 ⟨rfl, hb4⟩
      have HB4 := Lib.hid (HB3.out.trans (hb4.mono HB3.out.size))
      clear hb4 q0 q1 q2 hq
      have hBx := HB.out _ HB4.out
      have r0 := blk_cell hBx 0
      have r1 := blk_cell hBx 1
      have r2 := blk_cell hBx 2
      have s0 := blk_free hBx 0
      have s1 := blk_free hBx 1
      have s2 := blk_free hBx 2
      have hlx := lt_of_block hBx
      have HBX := Lib.hid hBx
      clear hBx
      go_wp2_with fail
      change bodyPost _ _ _ _ _ (put3 w4 (w.heap.size + 1) (.int .i64 0) (.string ⟨#[]⟩) (.bool false))
      obtain ⟨c0, c1, c2⟩ := put3_cells HBX.out (.int .i64 0) (.string ⟨#[]⟩) (.bool false)
      have HBF := Lib.hid (HE.out w4 HB4.out (.int .i64 0) (.string ⟨#[]⟩) (.bool false))
      generalize put3 w4 (w.heap.size + 1) (.int .i64 0) (.string ⟨#[]⟩) (.bool false) = wF at *
      refine bodyPost_ret (v := .tuple #[.agg #[.int .i64 0, .string ⟨#[]⟩, .bool false], .int .i64 17]) (by simp [results, Try.results43, go_sem, c0, c1, c2]) rfl ⟨rfl, HBF.out⟩
    cases nv with
    | false =>
      simp [e1, e2, e3] at hz2
      obtain ⟨rfl, rfl, rfl, rfl⟩ := hz2
      clear e1 e2
      go_enter Try.func43, Try.ntmps43
      go_wp2_with fail
      rw [← hw2]
      clear hw2
      refine (lpar_known _ _ _ _ _ _ hp L HF.out _ _ _ HP.out _ HN.out).mono ?_
      rintro e w3 ⟨rfl, hb3⟩
      have HB3 := Lib.hid hb3
      clear hb3
      obtain ⟨q0, q1, q2⟩ := HA.out _ HB3.out
      have hq := cell_lt q0
      go_wp2_with fail
      refine (lkid_known _ _ _ _ _ _ L (kids_rise HF.out.ins) _ HK.out _ (HN.out.below HB3.out)).mono ?_
      rintro e w4 ⟨rfl, hb4⟩
      have HB4 := Lib.hid (HB3.out.trans (hb4.mono HB3.out.size))
      clear hb4 q0 q1 q2 hq
      have hBx := HB.out _ HB4.out
      have r0 := blk_cell hBx 0
      have r1 := blk_cell hBx 1
      have r2 := blk_cell hBx 2
      have s0 := blk_free hBx 0
      have s1 := blk_free hBx 1
      have s2 := blk_free hBx 2
      have hlx := lt_of_block hBx
      have HBX := Lib.hid hBx
      clear hBx
      go_wp2_with (first | (go_at_call 63; refine (lname_known _ _ HNM.out _).mono ?_; rintro e w' ⟨rfl, rfl⟩) | fail)
      change bodyPost _ _ _ _ _ (put3 w4 (w.heap.size + 1) (.int .i64 0) (.string ⟨#[]⟩) (.bool false))
      obtain ⟨c0, c1, c2⟩ := put3_cells HBX.out (.int .i64 0) (.string ⟨#[]⟩) (.bool false)
      have HBF := Lib.hid (HE.out w4 HB4.out (.int .i64 0) (.string ⟨#[]⟩) (.bool false))
      generalize put3 w4 (w.heap.size + 1) (.int .i64 0) (.string ⟨#[]⟩) (.bool false) = wF at *
      refine bodyPost_ret (v := .tuple #[.agg #[.int .i64 0, .string ⟨#[]⟩, .bool false], .int .i64 22]) (by simp [results, Try.results43, go_sem, c0, c1, c2]) rfl ⟨rfl, HBF.out⟩
    | true =>
      cases mv with
      | false =>
        simp [e1, e2, e3] at hz2
        obtain ⟨rfl, rfl, rfl, rfl⟩ := hz2
        clear e1 e2
        go_enter Try.func43, Try.ntmps43
        go_wp2_with fail
        rw [← hw2]
        clear hw2
        refine (lpar_known _ _ _ _ _ _ hp L HF.out _ _ _ HP.out _ HN.out).mono ?_
        rintro e w3 ⟨rfl, hb3⟩
        have HB3 := Lib.hid hb3
        clear hb3
        obtain ⟨q0, q1, q2⟩ := HA.out _ HB3.out
        have hq := cell_lt q0
        go_wp2_with fail
        refine (lkid_known _ _ _ _ _ _ L (kids_rise HF.out.ins) _ HK.out _ (HN.out.below HB3.out)).mono ?_
        rintro e w4 ⟨rfl, hb4⟩
        have HB4 := Lib.hid (HB3.out.trans (hb4.mono HB3.out.size))
        clear hb4 q0 q1 q2 hq
        obtain ⟨q0, q1, q2⟩ := HA.out _ HB4.out
        have hq := cell_lt q0
        go_wp2_with (first | (go_at_call 63; refine (lname_known _ _ HNM.out _).mono ?_; rintro e w' ⟨rfl, rfl⟩) | fail)
        refine (lmayw_known _ _ _ _ _ _ L HF.out.ins _ HM.out _ (HN.out.below HB4.out)).mono ?_
        rintro e w5 ⟨rfl, hb5⟩
        have HB5 := Lib.hid (HB4.out.trans (hb5.mono HB4.out.size))
        clear hb5 q0 q1 q2 hq
        have hBx := HB.out _ HB5.out
        have r0 := blk_cell hBx 0
        have r1 := blk_cell hBx 1
        have r2 := blk_cell hBx 2
        have s0 := blk_free hBx 0
        have s1 := blk_free hBx 1
        have s2 := blk_free hBx 2
        have hlx := lt_of_block hBx
        have HBX := Lib.hid hBx
        clear hBx
        go_wp2_with fail
        change bodyPost _ _ _ _ _ (put3 w5 (w.heap.size + 1) (.int .i64 0) (.string ⟨#[]⟩) (.bool false))
        obtain ⟨c0, c1, c2⟩ := put3_cells HBX.out (.int .i64 0) (.string ⟨#[]⟩) (.bool false)
        have HBF := Lib.hid (HE.out w5 HB5.out (.int .i64 0) (.string ⟨#[]⟩) (.bool false))
        generalize put3 w5 (w.heap.size + 1) (.int .i64 0) (.string ⟨#[]⟩) (.bool false) = wF at *
        refine bodyPost_ret (v := .tuple #[.agg #[.int .i64 0, .string ⟨#[]⟩, .bool false], .int .i64 13]) (by simp [results, Try.results43, go_sem, c0, c1, c2]) rfl ⟨rfl, HBF.out⟩
      | true =>
        simp [e1, e2, e3] at hz2
        obtain ⟨rfl, rfl, rfl, rfl⟩ := hz2
        clear e1 e2
        go_enter Try.func43, Try.ntmps43
        go_wp2_with fail
        rw [← hw2]
        clear hw2
        refine (lpar_known _ _ _ _ _ _ hp L HF.out _ _ _ HP.out _ HN.out).mono ?_
        rintro e w3 ⟨rfl, hb3⟩
        have HB3 := Lib.hid hb3
        clear hb3
        obtain ⟨q0, q1, q2⟩ := HA.out _ HB3.out
        have hq := cell_lt q0
        go_wp2_with fail
        refine (lkid_known _ _ _ _ _ _ L (kids_rise HF.out.ins) _ HK.out _ (HN.out.below HB3.out)).mono ?_
        rintro e w4 ⟨rfl, hb4⟩
        have HB4 := Lib.hid (HB3.out.trans (hb4.mono HB3.out.size))
        clear hb4 q0 q1 q2 hq
        obtain ⟨q0, q1, q2⟩ := HA.out _ HB4.out
        have hq := cell_lt q0
        go_wp2_with (first | (go_at_call 63; refine (lname_known _ _ HNM.out _).mono ?_; rintro e w' ⟨rfl, rfl⟩) | fail)
        refine (lmayw_known _ _ _ _ _ _ L HF.out.ins _ HM.out _ (HN.out.below HB4.out)).mono ?_
        rintro e w5 ⟨rfl, hb5⟩
        have HB5 := Lib.hid (HB4.out.trans (hb5.mono HB4.out.size))
        clear hb5 q0 q1 q2 hq
        have hBx := HB.out _ HB5.out
        have r0 := blk_cell hBx 0
        have r1 := blk_cell hBx 1
        have r2 := blk_cell hBx 2
        have s0 := blk_free hBx 0
        have s1 := blk_free hBx 1
        have s2 := blk_free hBx 2
        have hlx := lt_of_block hBx
        have HBX := Lib.hid hBx
        clear hBx
        go_wp2_with (first | (go_at_call 57; refine (hassuf_known _ hp _ HSF.out _).mono ?_; rintro e w' ⟨rfl, rfl⟩) | fail)
        change bodyPost _ _ _ _ _ (put3 w5 (w.heap.size + 1) (.int .i64 d) (.string ⟨nm.toArray⟩) (.bool sf))
        obtain ⟨c0, c1, c2⟩ := put3_cells HBX.out (.int .i64 d) (.string ⟨nm.toArray⟩) (.bool sf)
        have HBF := Lib.hid (HE.out w5 HB5.out (.int .i64 d) (.string ⟨nm.toArray⟩) (.bool sf))
        generalize put3 w5 (w.heap.size + 1) (.int .i64 d) (.string ⟨nm.toArray⟩) (.bool sf) = wF at *
        refine bodyPost_ret (v := .tuple #[.agg #[.int .i64 d, .string ⟨nm.toArray⟩, .bool sf], .int .i64 0]) (by simp [results, Try.results43, go_sem, c0, c1, c2]) rfl ⟨rfl, HBF.out⟩
  · have hz2 := HZ.out
    unfold spotW freshW at hz2
    rw [HP.out] at hz2
    simp only [h1, ne_eq, not_false_eq_true, if_true, Prod.mk.injEq] at hz2
    obtain ⟨rfl, rfl, rfl, rfl⟩ := hz2
    have hb1 : (pe != 0) = true := by simpa using h1
    go_enter Try.func43, Try.ntmps43
    go_wp2_with fail
    rw [← hw2]
    clear hw2
    refine (lpar_known _ _ _ _ _ _ hp L HF.out _ _ _ HP.out _ HN.out).mono ?_
    rintro e w3 ⟨rfl, hb3⟩
    have HB3 := Lib.hid hb3
    have hB3 := HB.out _ hb3
    have r0 := blk_cell hB3 0
    have r1 := blk_cell hB3 1
    have r2 := blk_cell hB3 2
    have s0 := blk_free hB3 0
    have s1 := blk_free hB3 1
    have s2 := blk_free hB3 2
    have HB3' := Lib.hid hB3
    have hl3 := lt_of_block hB3
    clear hb3 hB3
    go_wp2_with fail
    change bodyPost _ _ _ _ _ (put3 w3 (w.heap.size + 1) (.int .i64 0) (.string ⟨#[]⟩) (.bool false))
    obtain ⟨c0, c1, c2⟩ := put3_cells HB3'.out (.int .i64 0) (.string ⟨#[]⟩) (.bool false)
    have HBF := Lib.hid (HE.out w3 HB3.out (.int .i64 0) (.string ⟨#[]⟩) (.bool false))
    generalize put3 w3 (w.heap.size + 1) (.int .i64 0) (.string ⟨#[]⟩) (.bool false) = wF at *
    refine bodyPost_ret (v := .tuple #[.agg #[.int .i64 0, .string ⟨#[]⟩, .bool false], .int .i64 pe]) (by simp [results, Try.results43, go_sem, c0, c1, c2]) rfl ⟨rfl, HBF.out⟩
end Go.Proofs.Ytfmaagcomplooaa

namespace Go.Proofs.Ytfmaagcomplooaa
set_option maxRecDepth 100000
open Go Go.RowKit

def LUsedRel (L : List Ino) (w1 : World) (n b i : Value) (wr : World) : Prop :=
  ∃ k : Nat, k ≤ L.length ∧ i = .int .i64 k ∧ n = .int .i64 (usedN (L.take k)) ∧ b = .int .i64 (usedB (L.take k)) ∧ Below w1.heap.size w1 wr

set_option maxHeartbeats 2000000 in
theorem lused_any (a : Option Addr) (cap : Nat) (m b : Int) (L : List Ino) (hL : L.length ≤ 1000) (hB : usedB L ≤ 4611686018427387904) (w : World) (hN : NodesIn w a cap L) :
    Calls Try.prog 66 #[.agg #[.slice a L.length cap, .int .i64 m, .int .i64 b]] w fun e w' => e = .returned (.tuple #[.int .i64 (usedN L), .int .i64 (usedB L)]) ∧ Below w.heap.size w w' := by
  have hb1 := below_box w (.cells #[.slice a L.length cap, .int .i64 m, .int .i64 b] 24)
  obtain ⟨w1, hw1⟩ : ∃ w1, w1 = w.alloc (.cells #[.slice a L.length cap, .int .i64 m, .int .i64 b] 24) := ⟨_, rfl⟩
  have hM := hN.below hb1
  have hsz : w1.heap.size = w.heap.size + 1 := by rw [hw1]; simp
  rw [← hw1] at hM hb1
  have HM := Lib.hid hM
  have HB1 := Lib.hid hb1
  have HSZ := Lib.hid hsz
  clear hM hN hb1 hsz
  go_enter Try.func66, Try.ntmps66
  go_wp2_with fail
  rw [← hw1]
  clear hw1
  go_loopw [4, 5, 11] (fun n b i wr => LUsedRel L w1 n b i wr) (fun _ _ i _ => L.length - (intOf i).toNat)
  case atStart => exact ⟨0, by omega, rfl, rfl, rfl, Below.refl _ _⟩
  case round =>
    obtain ⟨k, hk, rfl, rfl, rfl, hbr⟩ := hrel
    have HBR := Lib.hid hbr
    have hszr := hbr.size
    clear hbr
    by_cases hlt : k < L.length
    · obtain ⟨bb, o, rfl, hx⟩ := (HM.out.below HBR.out).2.2 k hlt
      have h0 := hx.kind
      have h1 := hx.mode
      have h2 := hx.links
      have h3 := hx.data
      obtain ⟨kv, h4, hks⟩ := hx.kids
      have h5 := hx.up
      obtain ⟨ka, kcap, rfl, -, -, -⟩ := hks
      have hs := str_len L[k].data
      have hu1 := usedN_take L k
      have hu2 := usedB_take L (k + 1)
      have hn1 := usedN_snoc (L.take k) L[k]
      have hn2 := usedB_snoc (L.take k) L[k]
      rw [← List.take_succ_eq_append_getElem hlt] at hn1 hn2
      have HBA := Lib.hid (show ∀ o, Below w1.heap.size w1 (wr.alloc o) from fun o => HBR.out.alloc hszr o)
      clear hx
      cases hz : (L[k].kind != 0) with
      | true =>
        have hz' : L[k].kind ≠ 0 := by simpa using hz
        rw [if_neg hz'] at hn1
        have H1 := Lib.hid hn1
        have H2 := Lib.hid hn2
        have hb2 : usedB (L.take k) + L[k].data.length ≤ 4611686018427387904 := by omega
        clear hn1 hn2 hu2 hz'
        go_wp2_with fail
        go_roundw
        case rel => exact ⟨k + 1, by omega, by go_num, by rw [H1.out]; go_num, by rw [H2.out]; go_num, HBA.out _⟩
        case measure => simp [intOf] <;> omega
      | false =>
        have hz' : L[k].kind = 0 := by simpa using hz
        rw [if_pos hz'] at hn1
        have H1 := Lib.hid hn1
        have H2 := Lib.hid hn2
        have hb2 : usedB (L.take k) + L[k].data.length ≤ 4611686018427387904 := by omega
        clear hn1 hn2 hu2 hz'
        go_wp2_with fail
        go_roundw
        case rel => exact ⟨k + 1, by omega, by go_num, by rw [H1.out]; rfl, by rw [H2.out]; go_num, HBA.out _⟩
        case measure => simp [intOf] <;> omega
    · go_wp2_with fail
      go_ret2
      rw [List.take_of_length_le (by omega)]
      exact ⟨rfl, HB1.out.trans (HBR.out.mono (by rw [HSZ.out]; omega))⟩
end Go.Proofs.Ytfmaagcomplooaa

namespace Go.Proofs.Ytfmaagcomplooaa
set_option maxRecDepth 100000
open Go Go.RowKit

set_option maxHeartbeats 1000000 in
theorem lroom_any (a : Option Addr) (cap : Nat) (m b : Int) (n : Int) (hn : -281474976710656 ≤ n ∧ n ≤ 281474976710656) (L : List Ino) (hL : L.length ≤ 1000) (hB : usedB L ≤ 1048576) (w : World) (hN : NodesIn w a cap L) :
    Calls Try.prog 50 #[.agg #[.slice a L.length cap, .int .i64 m, .int .i64 b], .int .i64 n] w fun e w' => e = .returned (.bool (decide ((usedB L : Int) + n ≤ b))) ∧ Below w.heap.size w w' := by
  have hb1 := below_box w (.cells #[.slice a L.length cap, .int .i64 m, .int .i64 b] 24)
  have HM := Lib.hid (hN.below hb1)
  have HB1 := Lib.hid hb1
  clear hN hb1
  go_enter Try.func50, Try.ntmps50
  go_wp2_with fail
  refine (lused_any _ _ _ _ L hL (by omega) _ HM.out).mono ?_
  rintro e w2 ⟨rfl, hb2⟩
  obtain ⟨q0, q1, q2⟩ := box3 hb2
  have HB2 := Lib.hid (HB1.out.trans (hb2.mono (by simp)))
  have hw : IntKind.i64.wrap ((usedB L : Int) + n) = (usedB L : Int) + n := by rw [IntKind.wrap_i64]; omega
  clear hb2
  go_wp2_with fail
  go_ret
  exact ⟨rfl, HB2.out⟩
end Go.Proofs.Ytfmaagcomplooaa

namespace Go.Proofs.Ytfmaagcomplooaa
set_option maxRecDepth 100000
open Go Go.RowKit

set_option maxHeartbeats 1000000 in
theorem lismode_known (q : Int) (v : Bool) (h : modeB q = v) (w : World) : Calls Try.prog 25 #[.int .i64 q] w fun e w' => e = .returned (.bool v) ∧ w = w' := by
  subst h
  unfold modeB
  by_cases h0 : 0 ≤ q
  · have hb0 : decide ((0 : Int) ≤ q) = true := decide_eq_true h0
    rw [hb0]
    go_enter Try.func25, Try.ntmps25
    go_wp2_with fail
    go_ret
    exact ⟨by rfl, rfl⟩
  · have hb0 : decide ((0 : Int) ≤ q) = false := decide_eq_false h0
    rw [hb0]
    go_enter Try.func25, Try.ntmps25
    go_wp2_with fail
    go_ret
    exact ⟨by rfl, rfl⟩

set_option maxHeartbeats 1000000 in
theorem lisfree_any (c0 c1 c2 c5 : Int) (c3 : ByteArray) (c4 : Value) (w : World) : Calls Try.prog 49 #[.agg #[.int .i64 c0, .int .i64 c1, .int .i64 c2, .string c3, c4, .int .i64 c5]] w fun e w' => e = .returned (.bool (c0 == 0)) ∧ Below w.heap.size w w' := by
  have HB := Lib.hid (below_box w (.cells #[.int .i64 c0, .int .i64 c1, .int .i64 c2, .string c3, c4, .int .i64 c5] 29))
  go_enter Try.func49, Try.ntmps49
  go_wp2_with fail
  go_ret
  exact ⟨rfl, HB.out⟩

/-- The first free inode's number, or -1. -/
def freeN (L : List Ino) : Int := match freeW L L.length 0 with | none => -1 | some k => k
theorem freeW_from : ∀ (n k : Nat) (L : List Ino) (j : Nat), k ≤ j → j ≤ k + n → (∀ t, k ≤ t → t < j → (nodeAt L (t : Int)).kind ≠ 0) → freeW L n k = freeW L (k + n - j) j
  | 0, k, L, j, h1, h2, _ => by
    have : j = k := by omega
    subst this
    rw [Nat.add_zero, Nat.sub_self]
  | n + 1, k, L, j, h1, h2, h3 => by
    by_cases e : j = k
    · subst e
      rw [show j + (n + 1) - j = n + 1 by omega]
    · rw [freeW, if_neg (h3 k (Nat.le_refl _) (by omega)), freeW_from n (k + 1) L j (by omega) (by omega) (fun t h4 h5 => h3 t (by omega) h5), show k + 1 + n - j = k + (n + 1) - j by omega]

set_option maxHeartbeats 2000000 in
theorem lfree_any (a : Option Addr) (cap : Nat) (L : List Ino) (hL : L.length ≤ 1000) (w : World) (hN : NodesIn w a cap L) :
    Calls Try.prog 48 #[.slice a L.length cap, .func (.func 49) #[] #[]] w fun e w' => e = .returned (.int .i64 (freeN L)) ∧ Below w.heap.size w w' := by
  have HN := Lib.hid hN
  clear hN
  go_enter Try.func48, Try.ntmps48
  go_wp2_with fail
  go_loopw [5, 8] (fun _ iv wr => ∃ K : Nat, K ≤ L.length ∧ iv = .int .i64 K ∧ Hid (∀ t, t < K → (nodeAt L (t : Int)).kind ≠ 0) ∧ Hid (Below w.heap.size w wr)) (fun _ iv _ => L.length - (intOf iv).toNat)
  case atStart => exact ⟨0, Nat.zero_le _, rfl, fun _ h => absurd h (Nat.not_lt_zero _), Below.refl _ _⟩
  case round =>
    obtain ⟨K, hK, rfl, HFR, HBR⟩ := hrel
    by_cases hlt : K < L.length
    · obtain ⟨bb, o, rfl, hx⟩ := (HN.out.below HBR.out).2.2 K hlt
      have h0 := hx.kind
      have h1 := hx.mode
      have h2 := hx.links
      have h3 := hx.data
      obtain ⟨kv, h4, hks⟩ := hx.kids
      have h5 := hx.up
      obtain ⟨ka, kcap, rfl, -, -, -⟩ := hks
      have hlt' : (K : Int) < (L.length : Int) := by omega
      have hk0 : (0 : Int) ≤ (K : Int) := by omega
      clear hx
      obtain ⟨kd, hkd⟩ : ∃ kd, kd = L[K].kind := ⟨_, rfl⟩
      have HKD := Lib.hid (show (nodeAt L (K : Int)).kind = kd by rw [node_nat L K hlt, hkd])
      rw [← hkd] at h0
      clear hkd
      go_wp2_with fail
      refine (lisfree_any _ _ _ _ _ _ _).mono ?_
      rintro e w2 ⟨rfl, hb2⟩
      have HB2 := Lib.hid (HBR.out.trans (hb2.mono HBR.out.size))
      clear hb2 h0 h1 h2 h3 h4 h5
      cases hz : (kd == 0) with
      | true =>
        have hfin := Lib.hid (show freeN L = (K : Int) by
          unfold freeN
          rw [freeW_from L.length 0 L K (Nat.zero_le _) (by omega) (fun t _ h => HFR.out t h), show 0 + L.length - K = (L.length - K - 1) + 1 by omega, freeW, if_pos (by rw [HKD.out]; simpa using hz)])
        go_wp2_with fail
        go_ret
        exact ⟨by rw [hfin.out]; rfl, HB2.out⟩
      | false =>
        have hfr := Lib.hid (show ∀ t, t < K + 1 → (nodeAt L (t : Int)).kind ≠ 0 from fun t ht => by
          by_cases e : t = K
          · subst e
            rw [HKD.out]
            simpa using hz
          · exact HFR.out t (by omega))
        go_wp2_with fail
        go_roundw
        case rel => exact ⟨K + 1, by omega, by go_num, hfr, HB2⟩
        case measure => simp [intOf] <;> omega
    · have hfin := Lib.hid (show freeN L = -1 by
        unfold freeN
        rw [freeW_from L.length 0 L L.length (Nat.zero_le _) (by omega) (fun t _ h => HFR.out t (by omega)), show 0 + L.length - L.length = 0 by omega]
        rfl)
      go_wp2_with fail
      go_ret
      exact ⟨by rw [hfin.out]; rfl, HBR.out⟩

/-- The error of an inode that is to have a name. -/
def refuseW (L : List Ino) (d : Int) (sl : Bool) (kind : Int) : Int := if sl = true ∧ kind ≠ 2 then 20 else if 1024 ≤ (nodeAt L d).kids.length then 28 else 0

set_option maxHeartbeats 1000000 in
theorem lrefuse_any (a : Option Addr) (cap : Nat) (m b : Int) (d : Nat) (s : ByteArray) (sl : Bool) (kind : Int) (L : List Ino) (_hL : L.length ≤ 1000) (hd : d < L.length) (w : World) (hN : NodesIn w a cap L) :
    Calls Try.prog 44 #[.agg #[.int .i64 d, .string s, .bool sl], .agg #[.slice a L.length cap, .int .i64 m, .int .i64 b], .int .i64 kind] w fun e w' => e = .returned (.int .i64 (refuseW L d sl kind)) ∧ Below w.heap.size w w' := by
  obtain ⟨w2, hw2, hb2, hs2, hA, hB⟩ := two_boxes w #[.int .i64 d, .string s, .bool sl] #[.slice a L.length cap, .int .i64 m, .int .i64 b] 74 24
  subst hw2
  have HB2 := Lib.hid hb2
  obtain ⟨bb, o, rfl, hx⟩ := hN.2.2 d hd
  obtain ⟨kv, h4, hks⟩ := hx.kids
  obtain ⟨K, hK⟩ : ∃ K, K = L[d].kids := ⟨_, rfl⟩
  rw [← hK] at hks
  obtain ⟨ka, kcap, rfl, hkc, hkm, -⟩ := hks
  have HKK := Lib.hid (show (nodeAt L (d : Int)).kids = K by rw [node_nat L d hd, hK])
  have hbl := cell_lt h4
  have hlt' : (d : Int) < (L.length : Int) := by omega
  have hk0 : (0 : Int) ≤ (d : Int) := by omega
  unfold maxLen at hkm
  clear hx hA hB hN hb2 hs2 hK
  cases sl with
  | true =>
    by_cases hk : kind = 2
    · subst hk
      by_cases hl : 1024 ≤ K.length
      · have hfin := Lib.hid (show refuseW L d true 2 = 28 by unfold refuseW; rw [if_neg (by simp), if_pos (by rw [HKK.out]; exact hl)])
        have hl' : (1024 : Int) ≤ (K.length : Int) := by omega
        go_enter Try.func44, Try.ntmps44
        go_wp2_with fail
        go_ret
        exact ⟨by rw [hfin.out]; rfl, HB2.out⟩
      · have hfin := Lib.hid (show refuseW L d true 2 = 0 by unfold refuseW; rw [if_neg (by simp), if_neg (by rw [HKK.out]; exact hl)])
        have hl' : ¬ (1024 : Int) ≤ (K.length : Int) := by omega
        go_enter Try.func44, Try.ntmps44
        go_wp2_with fail
        go_ret
        exact ⟨by rw [hfin.out]; rfl, HB2.out⟩
    · have hfin := Lib.hid (show refuseW L d true kind = 20 by unfold refuseW; rw [if_pos ⟨rfl, hk⟩])
      have hkb : (kind != 2) = true := by simpa using hk
      go_enter Try.func44, Try.ntmps44
      go_wp2_with fail
      go_ret
      exact ⟨by rw [hfin.out]; rfl, HB2.out⟩
  | false =>
    by_cases hl : 1024 ≤ K.length
    · have hfin := Lib.hid (show refuseW L d false kind = 28 by unfold refuseW; rw [if_neg (by simp), if_pos (by rw [HKK.out]; exact hl)])
      have hl' : (1024 : Int) ≤ (K.length : Int) := by omega
      go_enter Try.func44, Try.ntmps44
      go_wp2_with fail
      go_ret
      exact ⟨by rw [hfin.out]; rfl, HB2.out⟩
    · have hfin := Lib.hid (show refuseW L d false kind = 0 by unfold refuseW; rw [if_neg (by simp), if_neg (by rw [HKK.out]; exact hl)])
      have hl' : ¬ (1024 : Int) ≤ (K.length : Int) := by omega
      go_enter Try.func44, Try.ntmps44
      go_wp2_with fail
      go_ret
      exact ⟨by rw [hfin.out]; rfl, HB2.out⟩
end Go.Proofs.Ytfmaagcomplooaa

namespace Go.Proofs.Ytfmaagcomplooaa
set_option maxRecDepth 100000
open Go Go.RowKit

set_option maxHeartbeats 1000000 in
theorem gcmp_any (n s : List UInt8) (i : Int) (w : World) :
    Calls Try.prog 82 #[.agg #[.string ⟨n.toArray⟩, .int .i64 i], .string ⟨s.toArray⟩] w fun e w' => e = .returned (.int .i64 (Lib.compareBytes n s)) ∧ Below w.heap.size w w' := by
  have HB := Lib.hid (below_box w (.cells #[.string ⟨n.toArray⟩, .int .i64 i] 62))
  go_enter Try.func82, Try.ntmps82
  go_wp2_with fail
  refine (Try.strings_Compare _ _ _).mono ?_
  rintro e w' ⟨rfl, rfl⟩
  go_wp2_with fail
  go_ret
  exact ⟨rfl, HB.out⟩

set_option maxRecDepth 100000 in
set_option maxHeartbeats 4000000 in
theorem gsearch_any (M : List (List UInt8 × Int)) (hM : M.length ≤ 1024) (hR : Rises M) (s : List UInt8) (ka : Option Addr) (kcap : Nat) (w : World) (hK : KidsIn w (.slice ka M.length kcap) M) :
    Calls Try.prog 79 #[.slice ka M.length kcap, .string ⟨s.toArray⟩, .func (.func 82) #[] #[]] w fun e w' => BAns M s e ∧ Below w.heap.size w w' := by
  obtain ⟨ka', kcap', e1, hkc, hkm, hkk⟩ := hK
  simp only [Value.slice.injEq] at e1
  obtain ⟨rfl, -, rfl⟩ := e1
  unfold maxLen at hkm
  have HK := Lib.hid hkk
  have HR := Lib.hid hR
  clear hkk hR
  go_enter Try.func79, Try.ntmps79
  go_wp2_with fail
  go_loopw [9, 10, 11] (fun i j _ wr => BRel M s w i j wr) (fun i j _ _ => (intOf j).toNat - (intOf i).toNat)
  case atStart => exact ⟨0, M.length, by omega, by omega, rfl, rfl, fun _ _ h => absurd h (Nat.not_lt_zero _), fun k hk h => absurd hk (by omega), Below.refl _ _⟩
  case round =>
    obtain ⟨i, j, hij, hj, rfl, rfl, hlo, hhi, hbr⟩ := hrel
    have HBR := Lib.hid hbr
    have hszr := hbr.size
    clear hbr
    by_cases hlt : i < j
    · have hih : i ≤ (i + j) / 2 := by omega
      have hhj : (i + j) / 2 < j := by omega
      have hhM : (i + j) / 2 < M.length := by omega
      obtain ⟨c1, p1, rfl, z0, z1⟩ := HK.out ((i + j) / 2) hhM
      have y0 := cell_below HBR.out z0
      have y1 := cell_below HBR.out z1
      obtain ⟨nm, hnm⟩ : ∃ nm, nm = M[(i + j) / 2].1 := ⟨_, rfl⟩
      obtain ⟨ino, hino⟩ : ∃ ino, ino = M[(i + j) / 2].2 := ⟨_, rfl⟩
      rw [← hnm] at y0
      rw [← hino] at y1
      have HNM := Lib.hid hnm
      have hc1 := cmp_le1 nm s
      clear z0 z1 hnm hino
      go_wp2_with fail
      refine (gcmp_any nm s ino _).mono ?_
      rintro e w2 ⟨rfl, hb2⟩
      have HB2 := Lib.hid (HBR.out.trans (hb2.mono hszr))
      clear hb2 y0 y1
      cases hls : Op.bytesLess nm s with
      | true =>
        have hneg := cmp_less.2 hls
        have hlo' := Lib.hid (show ∀ k (hk : k < M.length), k < (i + j) / 2 + 1 → Op.bytesLess M[k].1 s = true from fun k hk hkh => by
          by_cases e : k = (i + j) / 2
          · subst e
            rw [← HNM.out]
            exact hls
          · refine less_trans _ _ _ (HR.out.lt k ((i + j) / 2) hhM (by omega)) ?_
            rw [← HNM.out]
            exact hls)
        clear hls
        go_wp2_with fail
        go_roundw
        case rel => exact ⟨(i + j) / 2 + 1, j, by omega, hj, by go_num, rfl, hlo', hhi, HB2.out⟩
        case measure => simp [intOf] <;> omega
      | false =>
        have hneg : ¬ Lib.compareBytes nm s < 0 := fun h => by rw [cmp_less.1 h] at hls; cases hls
        have hneg' : 0 ≤ Lib.compareBytes nm s := by omega
        have hhi' := Lib.hid (show ∀ k (hk : k < M.length), (i + j) / 2 ≤ k → Op.bytesLess M[k].1 s = false from fun k hk hkh => by
          cases hb : Op.bytesLess M[k].1 s with
          | false => rfl
          | true =>
            by_cases e : k = (i + j) / 2
            · subst e
              rw [← HNM.out, hls] at hb
              cases hb
            · have h1 := less_trans _ _ _ (HR.out.lt ((i + j) / 2) k hk (by omega)) hb
              rw [← HNM.out, hls] at h1
              cases h1)
        clear hls hneg
        go_wp2_with fail
        go_roundw
        case rel => exact ⟨i, (i + j) / 2, hih, by omega, rfl, by go_num, hlo, hhi', HB2.out⟩
        case measure => simp [intOf] <;> omega
    · obtain rfl : i = j := by omega
      have HFIN := Lib.hid (show ∀ (e : Ending) (v : Bool), e = .returned (.tuple #[.int .i64 i, .bool v]) → (v = true ↔ ∃ h : i < M.length, M[i].1 = s) → BAns M s e from fun e v h1 h2 => ⟨i, v, h1, hj, h2, hlo.out, hhi.out⟩)
      by_cases hin : i < M.length
      · obtain ⟨c1, p1, rfl, z0, z1⟩ := HK.out i hin
        have y0 := cell_below HBR.out z0
        have y1 := cell_below HBR.out z1
        obtain ⟨nm, hnm⟩ : ∃ nm, nm = M[i].1 := ⟨_, rfl⟩
        obtain ⟨ino, hino⟩ : ∃ ino, ino = M[i].2 := ⟨_, rfl⟩
        rw [← hnm] at y0
        rw [← hino] at y1
        have HNM := Lib.hid hnm
        clear z0 z1 hnm hino hlt
        go_wp2_with fail
        refine (gcmp_any nm s ino _).mono ?_
        rintro e w2 ⟨rfl, hb2⟩
        have HB2 := Lib.hid (HBR.out.trans (hb2.mono hszr))
        clear hb2 y0 y1
        go_wp2_with fail
        go_ret2
        refine ⟨HFIN.out _ _ rfl ?_, HB2.out⟩
        rw [beq_iff_eq, cmp_zero, HNM.out]
        exact ⟨fun h => ⟨hin, h⟩, fun ⟨_, h⟩ => h⟩
      · have hin' : M.length ≤ i := by omega
        clear hlt
        go_wp2_with fail
        go_ret2
        exact ⟨HFIN.out _ _ rfl (by simp [hin]), HBR.out⟩

end Go.Proofs.Ytfmaagcomplooaa

namespace Go.Proofs.Ytfmaagcomplooaa
set_option maxRecDepth 100000
open Go Go.RowKit

theorem infoE : (Try.prog.info? 62).map (fun i => (i.zero, i.size, i.bytes)) = some (some (.agg #[.string ⟨#[]⟩, .int .i64 0]), 2, 24) := by kernel_rfl
theorem infoIn : (Try.prog.info? 29).map (fun i => (i.zero, i.size, i.bytes)) = some (some (.agg #[.int .i64 0, .int .i64 0, .int .i64 0, .string ⟨#[]⟩, .slice none 0 0, .int .i64 0]), 6, 72) := by kernel_rfl

set_option maxHeartbeats 1000000 in
theorem lclone_kids (v : Value) (K : List (List UInt8 × Int)) (hb : K.length * 24 ≤ 140737488355328) (w : World) (hK : KidsIn w v K) :
    Calls Try.prog 47 #[v] w fun e w' => ∃ v', e = .returned v' ∧ KidsOwn w' w.heap.size v' K ∧ Below w.heap.size w w' := by
  obtain ⟨i0, hi, hz0, hz1, hz2⟩ := info_parts infoE
  obtain ⟨a, cap, rfl, h1, h2, h3⟩ := hK
  have hm : K.length ≤ maxLen := by unfold maxLen; omega
  have q22 : ∀ (w : World) (a : Option Addr) (n c n' c' : Nat), (binOp .eql 27 (.slice a n c) (.slice none n' c')).run Try.prog w = .ok (.bool a.isNone) w := fun w a n c n' c' => Lib.run_eql_slice_nil w _ _ a n c n' c' Try.underlying27
  cases a with
  | none =>
    have hnil : K = [] := by
      cases K with
      | nil => rfl
      | cons e r => obtain ⟨b, o, e, -⟩ := h3 0 (Nat.zero_lt_succ _); cases e
    subst hnil
    go_enter Try.func47, Try.ntmps47
    go_wp2_with fail
    go_ret
    exact ⟨_, rfl, KidsOwn.nil _ _, Below.refl _ _⟩
  | some a =>
    have A : Aside (∀ j u, (kidC K)[j]? = some u → w.cell? (a.add j) = some u) := fun j u hj => by
      have hj' : j < K.length * 2 := by rw [← kidC_len]; exact (List.getElem?_eq_some_iff.1 hj).1
      obtain ⟨b, o, e, -⟩ := h3 0 (by omega)
      cases e
      have : (⟨b, o, none⟩ : Addr).add j = ⟨b, o + j, none⟩ := Addr.add_lit ..
      rw [this]
      refine kidC_cells (fun i hi => ?_) j u hj
      obtain ⟨b', o', e, c1, c2⟩ := h3 i hi
      cases e
      exact ⟨c1, c2⟩
    clear h3
    obtain ⟨ab, ao, asp⟩ := a
    go_enter Try.func47, Try.ntmps47
    go_wp2_with (at_builtin; refine wpList_append_own _ rfl _ _ 27 rfl w.heap.size 62 i0 _ 2 24 Try.underlying27 hi hz0 hz1 hz2 rfl (by decide) _ _ _ rfl (World.ownsRow_made w #[] 0 (Nat.le_refl _) (Nat.zero_le _) (by simp)) ⟨ab, ao, asp⟩ K.length cap (kidC K) rfl ?qc1 ?qc2 ?qc3 ?qc4 ?qc5 ?qc6 ?_)
    case qc1 => exact kidC_len K
    case qc2 =>
      intro j u hj
      exact Lib.cell?_alloc_some _ (A.out j u hj)
    case qc3 => exact kidC_one K
    case qc4 => rw [Nat.zero_add]; exact hm
    case qc5 => rw [Nat.zero_add]; exact hb
    case qc6 => simp
    intro v' w1 hown hgrow hnil
    go_wp2_with fail
    go_ret
    refine ⟨v', rfl, by simpa [KidsOwn] using hown, ?_⟩
    exact ((Below.refl _ w).alloc (Nat.le_refl _) _).grown hgrow (by simp) (by intro k hk; simp [Value.ownBlock] at hk; omega)

/-- Inodes, cell by cell. -/
def nodeC : List Ino → List Value → List Value
  | x :: L, v :: vs => inoC x v ++ nodeC L vs
  | _, _ => []
theorem nodeC_len : ∀ (L : List Ino) (vs : List Value), vs.length = L.length → (nodeC L vs).length = L.length * 6
  | [], [], _ => rfl
  | x :: L, v :: vs, h => by
    have := nodeC_len L vs (Nat.succ.inj h)
    simp only [nodeC, List.length_append, List.length_cons, this]
    show 6 + L.length * 6 = _
    omega
theorem nodeC_get : ∀ (L : List Ino) (vs : List Value) (i : Nat) (hi : i < L.length) (hv : i < vs.length) (j : Nat), j < 6 → (nodeC L vs)[i * 6 + j]? = (inoC L[i] vs[i])[j]?
  | x :: L, v :: vs, 0, _, _, j, hj => by
    rw [Nat.zero_mul, Nat.zero_add, nodeC, List.getElem?_append_left (by show j < 6; exact hj)]
    rfl
  | x :: L, v :: vs, i + 1, hi, hv, j, hj => by
    have h := nodeC_get L vs i (Nat.lt_of_succ_lt_succ hi) (Nat.lt_of_succ_lt_succ hv) j hj
    rw [nodeC, List.getElem?_append_right (by show 6 ≤ _; omega)]
    rw [show (i + 1) * 6 + j - (inoC x v).length = i * 6 + j by show (i + 1) * 6 + j - 6 = _; omega, h]
    rfl
theorem nodeC_one {L : List Ino} {vs : List Value} (hone : ∀ v ∈ vs, v.oneCell' = true) : ∀ u ∈ nodeC L vs, u.oneCell' = true := by
  induction L generalizing vs with
  | nil => intro u h; cases h
  | cons x L ih =>
    cases vs with
    | nil => intro u h; cases h
    | cons v vs =>
      intro u h
      rw [nodeC, List.mem_append] at h
      rcases h with h | h
      · simp only [inoC, List.mem_cons, List.not_mem_nil, or_false] at h
        rcases h with rfl | rfl | rfl | rfl | rfl | rfl
        · rfl
        · rfl
        · rfl
        · rfl
        · exact hone _ List.mem_cons_self
        · rfl
      · exact ih (fun v hv => hone v (List.mem_cons_of_mem _ hv)) u h
/-- What lies in memory of inodes, with their names' slices. -/
theorem nodes_open {w : World} {a : Option Addr} {cap : Nat} {L : List Ino} (hN : NodesIn w a cap L) : ∃ vs : List Value, vs.length = L.length ∧ (∀ v ∈ vs, v.oneCell' = true) ∧ (∀ i (hi : i < L.length) (hv : i < vs.length), KidsIn w vs[i] L[i].kids) ∧
    ∀ j u, (nodeC L vs)[j]? = some u → ∃ b o, a = some ⟨b, o, none⟩ ∧ w.cell? ⟨b, o + j, none⟩ = some u := by
  have hone : ∀ i, i < L.length → ∃ v, v.oneCell' = true ∧ ∀ hi : i < L.length, KidsIn w v L[i].kids ∧ ∃ b o, a = some ⟨b, o, none⟩ ∧ NodeAt w b (o + i * 6) L[i] v := fun i hi => by
    obtain ⟨b, o, e, hn⟩ := hN.2.2 i hi
    obtain ⟨v, hv, hk⟩ := hn.kids
    refine ⟨v, ?_, fun hi => ⟨hk, b, o, e, ⟨hn.kind, hn.mode, hn.links, hn.data, hv, hn.up⟩⟩⟩
    obtain ⟨ka, kc, rfl, -⟩ := hk
    rfl
  obtain ⟨vs, hl, hvs⟩ : ∃ vs : List Value, vs.length = L.length ∧ ∀ i (_ : i < L.length) (hv : i < vs.length), vs[i].oneCell' = true ∧ ∀ hi : i < L.length, KidsIn w vs[i] L[i].kids ∧ ∃ b o, a = some ⟨b, o, none⟩ ∧ NodeAt w b (o + i * 6) L[i] vs[i] := by
    have : ∀ n, n ≤ L.length → ∃ vs : List Value, vs.length = n ∧ ∀ i (_ : i < n) (hv : i < vs.length), vs[i].oneCell' = true ∧ ∀ hi : i < L.length, KidsIn w vs[i] L[i].kids ∧ ∃ b o, a = some ⟨b, o, none⟩ ∧ NodeAt w b (o + i * 6) L[i] vs[i] := by
      intro n
      induction n with
      | zero => exact fun _ => ⟨[], rfl, fun i hi => absurd hi (Nat.not_lt_zero _)⟩
      | succ n ih =>
        intro hn
        obtain ⟨vs, h1, h2⟩ := ih (by omega)
        obtain ⟨v, h3, h4⟩ := hone n (by omega)
        refine ⟨vs ++ [v], by simp [h1], fun i hi hv => ?_⟩
        by_cases e : i < vs.length
        · rw [List.getElem_append_left e]
          exact h2 i (by omega) e
        · have e2 : i = vs.length := by omega
          subst e2
          rw [List.getElem_concat_length rfl]
          refine ⟨h3, fun hi2 => ?_⟩
          subst h1
          exact h4 hi2
    exact this L.length (Nat.le_refl _)
  refine ⟨vs, hl, fun v hv => ?_, fun i hi hv => ((hvs i hi hv).2 hi).1, fun j u hu => ?_⟩
  · obtain ⟨i, hi, rfl⟩ := List.getElem_of_mem hv
    exact (hvs i (by omega) hi).1
  · have hj : j < L.length * 6 := by rw [← nodeC_len L vs hl]; exact (List.getElem?_eq_some_iff.1 hu).1
    obtain ⟨i, t, rfl, ht⟩ : ∃ i t, j = i * 6 + t ∧ t < 6 := ⟨j / 6, j % 6, by omega, by omega⟩
    have hi : i < L.length := by omega
    rw [nodeC_get L vs i hi (by omega) t ht] at hu
    obtain ⟨b, o, e, hn⟩ := ((hvs i hi (by omega)).2 hi).2
    refine ⟨b, o, e, ?_⟩
    rw [← Nat.add_assoc]
    match t, ht, hu with
    | 0, _, hu => cases hu; exact hn.kind
    | 1, _, hu => cases hu; exact hn.mode
    | 2, _, hu => cases hu; exact hn.links
    | 3, _, hu => cases hu; exact hn.data
    | 4, _, hu => cases hu; exact hn.kids
    | 5, _, hu => cases hu; exact hn.up
/-- What a row of the call's own holds of inodes. -/
theorem nodes_of_row {w : World} {base cap g : Nat} {L : List Ino} {vs : List Value} (hl : vs.length = L.length) (h : w.ownsRow base 29 6 (.slice (some ⟨g, 0, none⟩) L.length cap) L.length (nodeC L vs)) : NodesOwn w g cap L vs ∧ base ≤ g := by
  have hc : ∀ j u, (nodeC L vs)[j]? = some u → w.cell? ⟨g, j, none⟩ = some u := fun j u hu => by
    have := h.cells rfl j u hu
    rw [zero_add_addr] at this
    exact this
  have hlt := h.lt g rfl
  rcases h.2 with ⟨e, -⟩ | ⟨g', cap', cur, e, hb, hg, hn, hm, hs, ht⟩
  · cases e
  · cases e
    refine ⟨⟨hl, hn, hm, hlt.2, fun j => by simp [World.frozen?, hg], fun i hi hv => ?_⟩, hb⟩
    have hh : ∀ t, t < 6 → ∀ u, (inoC L[i] vs[i])[t]? = some u → w.cell? ⟨g, i * 6 + t, none⟩ = some u := fun t ht u hu => hc _ _ ((nodeC_get L vs i hi hv t ht).trans hu)
    exact ⟨hh 0 (by decide) _ rfl, hh 1 (by decide) _ rfl, hh 2 (by decide) _ rfl, hh 3 (by decide) _ rfl, hh 4 (by decide) _ rfl, hh 5 (by decide) _ rfl⟩

set_option maxHeartbeats 1000000 in
theorem lclone_nodes (a : Option Addr) (cap : Nat) (L : List Ino) (hL : 0 < L.length) (hb : L.length * 72 ≤ 140737488355328) (w0 w : World) (hw : Below w0.heap.size w0 w) (hN : NodesIn w0 a cap L) :
    Calls Try.prog 46 #[.slice a L.length cap] w fun e w' => ∃ g cap' vs, e = .returned (.slice (some ⟨g, 0, none⟩) L.length cap') ∧ NodesOwn w' g cap' L vs ∧ w.heap.size ≤ g ∧ (∀ i (hi : i < L.length) (hv : i < vs.length), KidsIn w0 vs[i] L[i].kids) ∧ Below w.heap.size w w' := by
  obtain ⟨i0, hi, hz0, hz1, hz2⟩ := info_parts infoIn
  obtain ⟨vs, hl, hone, hk, hcell⟩ := nodes_open hN
  have hm : L.length ≤ maxLen := by unfold maxLen; omega
  have q22 : ∀ (w : World) (a : Option Addr) (n c n' c' : Nat), (binOp .eql 22 (.slice a n c) (.slice none n' c')).run Try.prog w = .ok (.bool a.isNone) w := fun w a n c n' c' => Lib.run_eql_slice_nil w _ _ a n c n' c' Try.underlying22
  obtain ⟨b, o, rfl, -⟩ := hN.2.2 0 hL
  have A : Aside (∀ j u, (nodeC L vs)[j]? = some u → w.cell? ⟨b, o + j, none⟩ = some u) := fun j u hj => by
    obtain ⟨b', o', e, hc⟩ := hcell j u hj
    cases e
    exact cell_below hw hc
  have HK := Lib.hid hk
  have HL := Lib.hid hl
  clear hcell hk hN hl
  go_enter Try.func46, Try.ntmps46
  go_wp2_with (at_builtin; refine wpList_append_own _ rfl _ _ 22 rfl w.heap.size 29 i0 _ 6 72 Try.underlying22 hi hz0 hz1 hz2 rfl (by decide) _ _ _ rfl (World.ownsRow_made w #[] 0 (Nat.le_refl _) (Nat.zero_le _) (by simp)) ⟨b, o, none⟩ L.length cap (nodeC L vs) rfl ?qc1 ?qc2 ?qc3 ?qc4 ?qc5 ?qc6 ?_)
  case qc1 => exact nodeC_len L vs HL.out
  case qc2 =>
    intro j u hj
    rw [Addr.add_lit]
    exact Lib.cell?_alloc_some _ (A.out j u hj)
  case qc3 => exact nodeC_one hone
  case qc4 => rw [Nat.zero_add]; exact hm
  case qc5 => rw [Nat.zero_add]; exact hb
  case qc6 => simp
  intro v' w1 hown hgrow hnil
  have hbel := ((Below.refl _ w).alloc (Nat.le_refl _) (.cells #[] 29)).grown hgrow (by simp) (by intro k hk; simp [Value.ownBlock] at hk; omega)
  rcases hown.2 with ⟨rfl, h0⟩ | ⟨g, cap', cur, rfl, -⟩
  · omega
  obtain ⟨hown', hgb⟩ := nodes_of_row HL.out hown
  have HO := Lib.hid hown'
  have HB := Lib.hid hbel
  clear hown hown' hgrow hnil hbel
  go_wp2_with fail
  go_ret
  exact ⟨g, cap', vs, rfl, HO.out, hgb, HK.out, HB.out⟩
end Go.Proofs.Ytfmaagcomplooaa

namespace Go.Proofs.Ytfmaagcomplooaa
set_option maxRecDepth 100000
open Go Go.RowKit

section
variable {P : Program}
theorem run_copy_k (w : World) (dT sT ty elem : TypeId) (b o dLen dCap : Nat) (a : Addr) (sLen sCap k n : Nat) (cs : List Value)
    (hu : P.underlying dT = some (.slice elem)) (hs : (P.info? elem).map (·.size) = some k) (hn : n = Nat.min sLen dLen) (hl : cs.length = n * k)
    (hsrc : ∀ j v, cs[j]? = some v → w.cell? (a.add j) = some v) (hc : ∀ j, j < cs.length → (w.cell? ⟨b, o + j, none⟩).isSome = true) (hf : ∀ j, j < cs.length → w.frozen? ⟨b, o + j, none⟩ = false) (h1 : ∀ v ∈ cs, v.oneCell' = true) :
    (Builtin.copy_ #[dT, sT] ty #[.slice (some ⟨b, o, none⟩) dLen dCap, .slice (some a) sLen sCap]).run P w = .ok (goInt n) (w.setCells b o cs) := by
  have hld := run_loadCells_list (P := P) w a cs hsrc
  have hst := run_storeCells_cells (P := P) b o cs 0 w (by simpa using hc) (by simpa using hf) h1
  rw [hl] at hld
  cases hq : P.info? elem with
  | none => simp [hq] at hs
  | some i =>
    have hi : i.size = k := by simpa [hq] using hs
    simp [Builtin.copy_, run_underlying hu, Builtin.lenOf, Builtin.firstCells, sizeOf, typeInfo, hq, hi, ← hn, hld, hst]
end

/-- Cells of a block with others laid from o on. -/
def layA (cur : Array Value) : Nat → List Value → Array Value
  | _, [] => cur
  | o, v :: r => layA (cur.setIfInBounds o v) (o + 1) r
theorem layA_size : ∀ (vs : List Value) (cur : Array Value) (o : Nat), (layA cur o vs).size = cur.size
  | [], _, _ => rfl
  | v :: r, cur, o => by rw [layA, layA_size r]; simp
theorem layA_get : ∀ (vs : List Value) (cur : Array Value) (o : Nat), o + vs.length ≤ cur.size → ∀ j, (layA cur o vs)[j]? = if o ≤ j ∧ j < o + vs.length then vs[j - o]? else cur[j]?
  | [], cur, o, _, j => by rw [if_neg (by simp)]; rfl
  | v :: r, cur, o, h, j => by
    have hl : (v :: r).length = r.length + 1 := rfl
    rw [layA, layA_get r _ (o + 1) (by simp; omega) j]
    by_cases e : j = o
    · subst e
      rw [if_neg (by omega), if_pos (by omega), Nat.sub_self, Array.getElem?_setIfInBounds, if_pos rfl, if_pos (by omega)]
      rfl
    · by_cases h2 : o + 1 ≤ j ∧ j < o + 1 + r.length
      · rw [if_pos h2, if_pos (by omega), show j - o = j - (o + 1) + 1 by omega, List.getElem?_cons_succ]
      · rw [if_neg h2, if_neg (by omega), Array.getElem?_setIfInBounds_ne (by omega)]
theorem blk_sets {k : Nat} {t : TypeId} : ∀ (vs : List Value) (o : Nat) {W : World} {cs : Array Value}, W.heap[k]? = some (.cells cs t (0, 0)) → (W.setCells k o vs).heap[k]? = some (.cells (layA cs o vs) t (0, 0))
  | [], _, _, _, h => h
  | v :: r, o, _W, _cs, h => blk_sets r (o + 1) (blk_set h o v)

/-- Names with one more at place i. -/
def insK (K : List (List UInt8 × Int)) (i : Nat) (x : List UInt8 × Int) : List (List UInt8 × Int) := K.take i ++ x :: K.drop i
theorem insK_len {K : List (List UInt8 × Int)} {i : Nat} (h : i ≤ K.length) (x : List UInt8 × Int) : (insK K i x).length = K.length + 1 := by
  unfold insK
  rw [List.length_append, List.length_cons, List.length_take, List.length_drop]
  omega
theorem kidC_take : ∀ (K : List (List UInt8 × Int)) (i : Nat), kidC (K.take i) = (kidC K).take (i * 2)
  | [], i => by simp [kidC]
  | e :: r, 0 => by simp [kidC]
  | e :: r, i + 1 => by rw [List.take_succ_cons, kidC, kidC, kidC_take r i, show (i + 1) * 2 = i * 2 + 1 + 1 by omega, List.take_succ_cons, List.take_succ_cons]
theorem kidC_drop : ∀ (K : List (List UInt8 × Int)) (i : Nat), kidC (K.drop i) = (kidC K).drop (i * 2)
  | [], i => by simp [kidC]
  | e :: r, 0 => by simp
  | e :: r, i + 1 => by rw [List.drop_succ_cons, kidC_drop r i, kidC, show (i + 1) * 2 = i * 2 + 1 + 1 by omega, List.drop_succ_cons, List.drop_succ_cons]
def entC (x : List UInt8 × Int) : List Value := [.string ⟨x.1.toArray⟩, .int .i64 x.2]
theorem kidC_ins (K : List (List UInt8 × Int)) (i : Nat) (x : List UInt8 × Int) : kidC (insK K i x) = (kidC K).take (i * 2) ++ (entC x ++ (kidC K).drop (i * 2)) := by
  unfold insK
  rw [kidC_app, kidC_take]
  show _ ++ (.string ⟨x.1.toArray⟩ :: .int .i64 x.2 :: kidC (K.drop i)) = _
  rw [kidC_drop]
  rfl
theorem kidC_ins_get {K : List (List UInt8 × Int)} {i : Nat} (h : i ≤ K.length) (x : List UInt8 × Int) (j : Nat) : (kidC (insK K i x))[j]? = if j < i * 2 then (kidC K)[j]? else if j < i * 2 + 2 then (entC x)[j - i * 2]? else (kidC K)[j - 2]? := by
  have hl := kidC_len K
  have ht : ((kidC K).take (i * 2)).length = i * 2 := by rw [List.length_take]; omega
  rw [kidC_ins]
  by_cases h1 : j < i * 2
  · rw [if_pos h1, List.getElem?_append_left (by omega), List.getElem?_take, if_pos h1]
  · rw [if_neg h1, List.getElem?_append_right (by omega), ht]
    by_cases h2 : j < i * 2 + 2
    · rw [if_pos h2, List.getElem?_append_left (by show _ < 2; omega)]
    · rw [if_neg h2, List.getElem?_append_right (by show 2 ≤ _; omega), List.getElem?_drop]
      show (kidC K)[i * 2 + (j - i * 2 - 2)]? = _
      rw [show i * 2 + (j - i * 2 - 2) = j - 2 by omega]
/-- The cells of a row behind an insertion, told place by place. -/
theorem own_of_cells {W : World} {base g cap : Nat} {cur : Array Value} {K : List (List UInt8 × Int)} (hb : base ≤ g) (hg : W.heap[g]? = some (.cells cur 62 (0, 0))) (hn : K.length ≤ cap) (hm : cap ≤ maxLen) (hs : cur.size = cap * 2)
    (hc : ∀ j, j < K.length * 2 → cur[j]? = (kidC K)[j]?) : KidsOwn W base (.slice (some ⟨g, 0, none⟩) K.length cap) K := by
  refine ⟨kidC_len K, .inr ⟨g, cap, cur, rfl, hb, hg, hn, hm, hs, ?_⟩⟩
  refine List.ext_getElem? fun j => ?_
  rw [List.getElem?_take]
  by_cases h : j < K.length * 2
  · rw [if_pos h, ← hc j h]
    simp
  · rw [if_neg h, List.getElem?_eq_none (by rw [kidC_len]; omega)]
end Go.Proofs.Ytfmaagcomplooaa

namespace Go.Proofs.Ytfmaagcomplooaa
set_option maxRecDepth 100000
open Go Go.RowKit Go.Lib

/-- What an insertion answers. -/
def InsAns (base : Nat) (w : World) (v : Value) (K : List (List UInt8 × Int)) (e : Ending) (w' : World) : Prop :=
  ∃ v', e = .returned v' ∧ KidsOwn w' base v' K ∧ w.grownBy w' v.ownBlock ∧ ∀ k, v'.ownBlock = some k → v.ownBlock = some k ∨ w.heap.size ≤ k

theorem size_entry : (Try.prog.info? 62).map (·.size) = some 2 := by kernel_rfl
theorem grown_sets {w W : World} {b o : Nat} {vs : List Value} {r : Option Nat} (h : w.grownBy W r) (hr : r = some b) : w.grownBy (W.setCells b o vs) r := by
  have e : ∀ (vs : List Value) (o : Nat) (W : World), (W.setCells b o vs).os = W.os ∧ (W.setCells b o vs).tape = W.tape ∧ (W.setCells b o vs).output = W.output := fun vs => by
    induction vs with
    | nil => exact fun _ _ => ⟨rfl, rfl, rfl⟩
    | cons v r ih => exact fun o W => ih (o + 1) (W.setCell ⟨b, o, none⟩ v)
  obtain ⟨e1, e2, e3⟩ := e vs o W
  exact ⟨e1.trans h.os, e2.trans h.tape, e3.trans h.output, by rw [size_sets]; exact h.size, fun k hk hkr => (heap_sets b vs o W k (fun e => hkr (by rw [hr, e]))).trans (h.block k hk hkr)⟩

theorem cur_get {cur : Array Value} {K : List (List UInt8 × Int)} {n : Nat} (h : cur.toList.take n = kidC K) (j : Nat) (hj : j < n) : cur[j]? = (kidC K)[j]? := by
  rw [← h, List.getElem?_take, if_pos hj]
  simp
theorem shift_cells {cur : Array Value} {K : List (List UInt8 × Int)} {i : Nat} (hi : i ≤ K.length) (hs : (K.length + 1) * 2 ≤ cur.size) (h : ∀ j, j < i * 2 → cur[j]? = (kidC K)[j]?) (x : List UInt8 × Int) (j : Nat) (hj : j < (K.length + 1) * 2) :
    (layA (layA cur ((i + 1) * 2) ((kidC K).drop (i * 2))) (i * 2) (entC x))[j]? = (kidC (insK K i x))[j]? := by
  have hl := kidC_len K
  have hd : ((kidC K).drop (i * 2)).length = (K.length - i) * 2 := by rw [List.length_drop, kidC_len]; omega
  rw [kidC_ins_get hi, layA_get _ _ _ (by rw [layA_size]; show _ + 2 ≤ _; omega)]
  show (if i * 2 ≤ j ∧ j < i * 2 + 2 then _ else _) = _
  by_cases h1 : j < i * 2
  · rw [if_neg (by omega), if_pos h1, layA_get _ _ _ (by rw [hd]; omega), if_neg (by omega)]
    exact h j h1
  · rw [if_neg h1]
    by_cases h2 : j < i * 2 + 2
    · rw [if_pos ⟨by omega, h2⟩, if_pos h2]
    · rw [if_neg (by omega), if_neg h2, layA_get _ _ _ (by rw [hd]; omega), if_pos (by rw [hd]; omega), List.getElem?_drop, show i * 2 + (j - (i + 1) * 2) = j - 2 by omega]
theorem grow_cells {cur : Array Value} {K : List (List UInt8 × Int)} {i : Nat} (hi : i ≤ K.length) (hs : (K.length + 1) * 2 ≤ cur.size) (h : ∀ j, j < i * 2 → cur[j]? = (kidC K)[j]?) (x : List UInt8 × Int) (j : Nat) (hj : j < (K.length + 1) * 2) :
    (layA (layA cur (i * 2) (entC x)) ((i + 1) * 2) ((kidC K).drop (i * 2)))[j]? = (kidC (insK K i x))[j]? := by
  have hl := kidC_len K
  have hd : ((kidC K).drop (i * 2)).length = (K.length - i) * 2 := by rw [List.length_drop, kidC_len]; omega
  rw [kidC_ins_get hi, layA_get _ _ _ (by rw [layA_size, hd]; omega), hd]
  by_cases h1 : j < i * 2
  · rw [if_neg (by omega), if_pos h1, layA_get _ _ _ (by show _ + 2 ≤ _; omega), if_neg (by omega)]
    exact h j h1
  · rw [if_neg h1]
    by_cases h2 : j < i * 2 + 2
    · rw [if_neg (by omega), if_pos h2, layA_get _ _ _ (by show _ + 2 ≤ _; omega), if_pos ⟨by omega, h2⟩]
    · rw [if_pos (by omega), if_neg h2, List.getElem?_drop, show i * 2 + (j - (i + 1) * 2) = j - 2 by omega]

section
variable {base b c i vb vc : Nat} {K : List (List UInt8 × Int)} {x : List UInt8 × Int} {w : World} {cur : Array Value}

set_option maxHeartbeats 4000000 in
/-- There is room, and something behind. -/
theorem ins_shift (hi : i < K.length) (hc : cur.size = c * 2) (hm : c ≤ maxLen) (hroom : K.length + 1 ≤ c) (hb : base ≤ b) (hcur : w.heap[b]? = some (.cells cur 62 (0, 0))) (hK : cur.toList.take (K.length * 2) = kidC K)
    (hv : w.heap[vb]? = some (.cells (entC x).toArray 62 (0, 0))) (hvb : vb ≠ b) :
    Calls Try.prog 83 #[.slice (some ⟨b, 0, none⟩) K.length c, .int .i64 i, .slice (some ⟨vb, 0, none⟩) 1 vc] w fun e w' => InsAns base w (.slice (some ⟨b, 0, none⟩) K.length c) (insK K i x) e w' := by
  have hm2 := hm
  unfold maxLen at hm2
  obtain ⟨n, hn⟩ : ∃ n, n = K.length := ⟨_, rfl⟩
  have hcs : ∀ j v, (kidC K)[j]? = some v → w.cell? ⟨b, j, none⟩ = some v := fun j v h => by
    rw [← hK, List.getElem?_take] at h
    split at h
    · rw [blk_cell hcur]; simpa using h
    · cases h
  have hsp : ∀ j, j < c * 2 → (w.cell? ⟨b, j, none⟩).isSome = true := fun j hj => by rw [blk_cell hcur, Array.getElem?_eq_getElem (by omega)]; rfl
  have hfz : ∀ j, w.frozen? ⟨b, j, none⟩ = false := blk_free hcur
  have hvs : ∀ j v, (entC x)[j]? = some v → w.cell? ⟨vb, j, none⟩ = some v := fun j v h => by rw [blk_cell hv]; simpa using h
  have hkl := kidC_len K
  have hdl : ((kidC K).drop (i * 2)).length = (K.length - i) * 2 := by rw [List.length_drop, kidC_len]; omega
  have hov : ∀ lb cb, (callFunc 90 #[.slice (some ⟨vb, 0, none⟩) 1 vc, .slice (some ⟨b, (i + 1) * 2, none⟩) lb cb]).run Try.prog w = .ok (.value (.bool false)) w := fun lb cb => by
    rw [run_callFunc_extern Try.func90 (by kernel_rfl) (by kernel_rfl) (by kernel_rfl) (e := Extern.SlicesOverlaps.overlaps #[27, 27] #[4]) (by kernel_rfl),
      Lib.run_overlaps_apart w 27 4 62 Try.underlying27 2 Try.sizeOf62 ⟨vb, 0, none⟩ ⟨b, (i + 1) * 2, none⟩ 1 vc lb cb hvb 62 62 2 (c * 2) (by simp [World.shape?, hv, entC]) (by simp [World.shape?, hcur, hc]) (by omega) (blk_free hv 0) (blk_free hv 2)]
    rfl
  have hw1 : IntKind.i64.wrap ((i : Int) + 1) = (i : Int) + 1 := by rw [IntKind.wrap_i64]; omega
  have hw2 : IntKind.i64.wrap ((K.length : Int) + 1) = (K.length : Int) + 1 := by rw [IntKind.wrap_i64]; omega
  have hz2 : ¬ ((i : Int) = (K.length : Int)) := by omega
  have hz3 : ¬ ((c : Int) < (K.length : Int) + 1) := by omega
  have hb1 : (0 : Int) ≤ (i : Int) + 1 := by omega
  have hin : i ≤ K.length := by omega
  have htn : ((i : Int) + 1).toNat = i + 1 := by omega
  have htn2 : ((K.length : Int) + 1).toNat = K.length + 1 := by omega
  have hb2 : ¬ (c = i + 1) := by omega
  have hb3 : (i : Int) ≤ (K.length : Int) + 1 := by omega
  have hb4 : ¬ (c = i) := by omega
  have hcp1 : ∀ ty dc sc, (Builtin.copy_ #[27, 27] ty #[.slice (some ⟨b, (i + 1) * 2, none⟩) (K.length - i) dc, .slice (some ⟨b, i * 2, none⟩) (K.length + 1 - i) sc]).run Try.prog w.drew = .ok (goInt (K.length - i : Nat)) (w.drew.setCells b ((i + 1) * 2) ((kidC K).drop (i * 2))) := fun ty dc sc =>
    run_copy_k w.drew _ _ ty 62 b ((i + 1) * 2) (K.length - i) dc ⟨b, i * 2, none⟩ (K.length + 1 - i) sc 2 (K.length - i) ((kidC K).drop (i * 2)) Try.underlying27 size_entry (by simp only [Nat.min_def]; split <;> omega) hdl
      (fun j v hj => by rw [Addr.add_lit]; exact hcs (i * 2 + j) v (by rwa [List.getElem?_drop] at hj))
      (fun j hj => hsp _ (by omega)) (fun j hj => hfz _) (fun v hv => kidC_one K v (List.mem_of_mem_drop hv))
  obtain ⟨W1, hW1⟩ : ∃ W1, W1 = w.drew.setCells b ((i + 1) * 2) ((kidC K).drop (i * 2)) := ⟨_, rfl⟩
  have hB1 : W1.heap[b]? = some (.cells (layA cur ((i + 1) * 2) ((kidC K).drop (i * 2))) 62 (0, 0)) := by rw [hW1]; exact blk_sets _ _ (W := w.drew) hcur
  have hG1 : w.grownBy W1 (some b) := by rw [hW1]; exact grown_sets (⟨rfl, rfl, rfl, Nat.le_refl _, fun _ _ _ => rfl⟩) rfl
  have hV1 : W1.heap[vb]? = w.heap[vb]? := hG1.block vb (lt_of_block hv) (fun e => hvb (Option.some.inj e))
  have hcp2 : ∀ (W : World), (∀ y, W.cell? y = W1.cell? y) → (∀ y, W.frozen? y = W1.frozen? y) → ∀ ty dc, (Builtin.copy_ #[27, 27] ty #[.slice (some ⟨b, i * 2, none⟩) (K.length + 1 - i) dc, .slice (some ⟨vb, 0, none⟩) 1 vc]).run Try.prog W = .ok (goInt (1 : Nat)) (W.setCells b (i * 2) (entC x)) := fun W hWc hWf ty dc =>
    run_copy_k W _ _ ty 62 b (i * 2) (K.length + 1 - i) dc ⟨vb, 0, none⟩ 1 vc 2 1 (entC x) Try.underlying27 size_entry (by simp only [Nat.min_def]; split <;> omega) rfl
      (fun j v hj => by
        rw [zero_add_addr, hWc, blk_cell (hV1.trans hv)]
        simpa using hj)
      (fun j hj => by
        have hj' : j < 2 := hj
        rw [hWc, blk_cell hB1, Array.getElem?_eq_getElem (by rw [layA_size]; omega)]; rfl)
      (fun j hj => by rw [hWf]; exact blk_free hB1 _) (fun v hv => by
        simp only [entC, List.mem_cons, List.not_mem_nil, or_false] at hv
        rcases hv with rfl | rfl <;> rfl)
  rw [← hW1] at hcp1
  have HB1 := Lib.hid hB1
  have HG1 := Lib.hid hG1
  clear hB1 hG1 hV1 hW1 hcs hsp hfz hvs hn
  go_enter Try.func83, Try.ntmps83
  go_wp2_with (simp only [hov])
  go_region_law (refine step_copy_runI rfl _ _ 27 27 rfl _ _ (by simp [Act.eval, Act.put]) (by simp [Act.eval, Act.put]) (hcp1 _ _ _) ?_)
  go_wp2_with (at_builtin; refine wpList_copy_runI _ rfl _ _ 27 27 rfl _ _ rfl rfl (hcp2 _ (fun _ => rfl) (fun _ => rfl) _ _) ?_)
  go_ret
  have hlen := insK_len hin x
  refine ⟨_, rfl, ?_, grown_sets HG1.out rfl, fun k hk => Or.inl hk⟩
  rw [← hlen]
  refine own_of_cells hb (blk_sets _ _ HB1.out) (by omega) hm (by rw [layA_size, layA_size, hc]) fun j hj => ?_
  rw [hlen] at hj
  exact shift_cells hin (by omega) (fun j hj => cur_get hK j (by omega)) x j hj

set_option maxHeartbeats 4000000 in
/-- There is room at the end. -/
theorem ins_end_room (hc : cur.size = c * 2) (hm : c ≤ maxLen) (hroom : K.length + 1 ≤ c) (hb : base ≤ b) (hcur : w.heap[b]? = some (.cells cur 62 (0, 0))) (hK : cur.toList.take (K.length * 2) = kidC K)
    (hv : w.heap[vb]? = some (.cells (entC x).toArray 62 (0, 0))) :
    Calls Try.prog 83 #[.slice (some ⟨b, 0, none⟩) K.length c, .int .i64 K.length, .slice (some ⟨vb, 0, none⟩) 1 vc] w fun e w' => InsAns base w (.slice (some ⟨b, 0, none⟩) K.length c) (insK K K.length x) e w' := by
  have hm2 := hm
  unfold maxLen at hm2
  obtain ⟨i0, hi0, hz0, hzs, hzb⟩ := info_parts infoE
  have hvs : ∀ j v, (entC x)[j]? = some v → w.cell? ((⟨vb, 0, none⟩ : Addr).add j) = some v := fun j v h => by rw [zero_add_addr, blk_cell hv]; simpa using h
  have hone : ∀ v ∈ entC x, v.oneCell' = true := fun v hv => by
    simp only [entC, List.mem_cons, List.not_mem_nil, or_false] at hv
    rcases hv with rfl | rfl <;> rfl
  have hrun : ∀ ty, (Builtin.append_ #[27, 27] ty #[.slice (some ⟨b, 0, none⟩) K.length c, .slice (some ⟨vb, 0, none⟩) 1 vc]).run Try.prog w = _ := fun ty =>
    run_append_room w 27 ty 62 i0 Try.underlying27 hi0 b K.length c cur hcur ⟨vb, 0, none⟩ 1 vc (entC x) (by rw [hzs]; rfl) hvs hone hroom (by rw [hzs, hc]; show _ + 2 ≤ _; omega)
  rw [hzs] at hrun
  go_enter Try.func83, Try.ntmps83
  go_wp2_with (at_builtin; refine Lib.wpList_append_run _ rfl _ _ _ _ rfl _ _ rfl rfl _ _ (hrun _) ?_)
  go_ret
  have hlen := insK_len (Nat.le_refl K.length) x
  have hins : kidC (insK K K.length x) = kidC K ++ entC x := by rw [kidC_ins, List.take_of_length_le (by rw [kidC_len]; exact Nat.le_refl _), List.drop_of_length_le (by rw [kidC_len]; exact Nat.le_refl _), List.append_nil]
  have hkl := kidC_len K
  have hsz : cur.toList.length = c * 2 := by simpa using hc
  refine ⟨_, rfl, ⟨kidC_len _, .inr ⟨b, c, _, ?_, hb, setRow_heap w b _ _ 62 (0, 0) hcur, by omega, hm, ?_, ?_⟩⟩, ⟨rfl, rfl, rfl, by simp [World.setRow], fun k _ hk => setRow_other w b k _ (fun e => hk (by rw [e]; rfl))⟩, fun k hk => Or.inl hk⟩
  · rw [hlen]
    rfl
  · show (kidC K ++ (entC x ++ List.drop (K.length * 2 + 2) cur.toList)).length = _
    rw [List.length_append, List.length_append, List.length_drop, hkl, hsz]
    show _ + (2 + _) = _
    omega
  · rw [hlen, hins]
    show ((kidC K ++ (entC x ++ List.drop (K.length * 2 + 2) cur.toList))).take _ = _
    rw [← List.append_assoc, List.take_append_of_le_length (by rw [List.length_append, hkl]; show _ ≤ _ + 2; omega), List.take_of_length_le (by rw [List.length_append, hkl]; show _ + 2 ≤ _; omega)]

set_option maxHeartbeats 4000000 in
/-- There is no room, nothing behind: a new block. -/
theorem ins_end_grow {v : Value} (ho : KidsOwn w base v K) (hv0 : ∀ a n c, v = .slice a n c → c < K.length + 1) (hl : K.length ≤ 1048576) (hbs : base ≤ w.heap.size)
    (hv : w.heap[vb]? = some (.cells (entC x).toArray 62 (0, 0))) :
    Calls Try.prog 83 #[v, .int .i64 K.length, .slice (some ⟨vb, 0, none⟩) 1 vc] w fun e w' => InsAns base w v (insK K K.length x) e w' := by
  obtain ⟨i0, hi0, hz0, hzs, hzb⟩ := info_parts infoE
  have hvs : ∀ j v, (entC x)[j]? = some v → w.cell? ((⟨vb, 0, none⟩ : Addr).add j) = some v := fun j v h => by rw [zero_add_addr, blk_cell hv]; simpa using h
  have hone : ∀ v ∈ entC x, v.oneCell' = true := fun v hv => by
    simp only [entC, List.mem_cons, List.not_mem_nil, or_false] at hv
    rcases hv with rfl | rfl <;> rfl
  have hsrc : Src Try.prog i0.size 27 (.slice (some ⟨vb, 0, none⟩) 1 vc) 1 (entC x) w := by
    rw [hzs]
    exact Src.ofSlice w Try.underlying27 ⟨vb, 0, none⟩ 1 vc (entC x) rfl hvs hone
  have hlen := insK_len (Nat.le_refl K.length) x
  have hins : kidC (insK K K.length x) = kidC K ++ entC x := by rw [kidC_ins, List.take_of_length_le (by rw [kidC_len]; exact Nat.le_refl _), List.drop_of_length_le (by rw [kidC_len]; exact Nat.le_refl _), List.append_nil]
  have hkl := kidC_len K
  obtain ⟨a, c, rfl⟩ := ho.form
  have hc := hv0 _ _ _ rfl
  have hold : (Builtin.firstCells i0.size K.length (.slice a K.length c)).run Try.prog w.drew = .ok (kidC K).toArray w.drew := by
    rw [hzs]
    rcases ho.2 with ⟨e, h0⟩ | ⟨g, cap, cur, e, -⟩
    · obtain ⟨rfl, -, rfl⟩ := Value.slice.inj e
      have e : K = [] := List.length_eq_zero_iff.1 h0
      subst e
      exact run_firstCells_none w.drew 2 0 0 0
    · obtain ⟨rfl, -, rfl⟩ := Value.slice.inj e
      exact run_firstCells_some w.drew 2 K.length ⟨g, 0, none⟩ K.length _ (kidC K) (kidC_len K) (fun j u hj => ho.cells rfl j u hj)
  have hgc := grownCap_ge w (K.length + 1) c 62
  have hgm := grownCap_le_maxLen w (K.length + 1) c 62 (by unfold maxLen; omega)
  have hrun : ∀ ty, (Builtin.append_ #[27, 27] ty #[.slice a K.length c, .slice (some ⟨vb, 0, none⟩) 1 vc]).run Try.prog w = _ := fun ty =>
    run_append_grow_src w 27 27 ty 62 i0 _ Try.underlying27 hi0 hz0 a K.length c (kidC K) hold _ 1 (entC x) hsrc hc (by omega) (by rw [hzb]; exact growslice_fits hc (by omega))
  obtain ⟨G, hG⟩ : ∃ G, G = grownCap w (K.length + 1) c 62 := ⟨_, rfl⟩
  rw [← hG] at hrun hgc hgm
  obtain ⟨ROW, hROW⟩ : ∃ ROW : Array Value, ROW = (kidC K ++ entC x).toArray ++ Builtin.zeroCells (Value.agg #[.string ⟨#[]⟩, .int .i64 0]).cells (G - (K.length + 1)) := ⟨_, rfl⟩
  rw [← hROW] at hrun
  have HA := Lib.hid hROW
  have HK := Lib.hid ho
  clear hROW hG hold hsrc hvs ho
  have hfin : InsAns base w (.slice a K.length c) (insK K K.length x) (.returned (.slice (some ⟨w.heap.size, 0, none⟩) (K.length + 1) G)) (w.drew.alloc (.cells ROW 62)) := by
    refine ⟨_, rfl, ⟨kidC_len _, .inr ⟨w.heap.size, G, ROW, ?_, hbs, new_block w.drew _, by omega, hgm, ?_, ?_⟩⟩, ⟨rfl, rfl, rfl, by simp, fun k hk _ => Below.heap_alloc w.drew _ k hk⟩, fun k hk => Or.inr ?_⟩
    · rw [hlen]
    · rw [HA.out]
      have hz : (Builtin.zeroCells (Value.agg #[.string ⟨#[]⟩, .int .i64 0]).cells (G - (K.length + 1))).size = (G - (K.length + 1)) * 2 := size_zeroCells _ _
      rw [Array.size_append, hz]
      show (kidC K ++ entC x).length + _ = _
      rw [List.length_append, hkl]
      show _ + 2 + _ = _
      omega
    · rw [HA.out, hlen, hins, Array.toList_append, List.take_append_of_le_length (by rw [List.toList_toArray, List.length_append, hkl]; show _ ≤ _ + 2; omega), List.toList_toArray, List.take_of_length_le (by rw [List.length_append, hkl]; show _ + 2 ≤ _; omega)]
    · cases hk
      exact Nat.le_refl _
  have HFIN := Lib.hid hfin
  clear hfin
  cases a with
  | none =>
    go_enter Try.func83, Try.ntmps83
    go_wp2_with (at_builtin; refine Lib.wpList_append_run _ rfl _ _ _ _ rfl _ _ rfl rfl _ _ (hrun _) ?_)
    go_ret
    exact HFIN.out
  | some a =>
    obtain ⟨ab, ao, asp⟩ := a
    go_enter Try.func83, Try.ntmps83
    go_wp2_with (at_builtin; refine Lib.wpList_append_run _ rfl _ _ _ _ rfl _ _ rfl rfl _ _ (hrun _) ?_)
    all_goals (go_ret; exact HFIN.out)
end
end Go.Proofs.Ytfmaagcomplooaa
