/-
  The law WalkGoes, walked.
-/
import Derived.Test.YtgmmggdjcgemfaaWAwake
import Derived.Test.YtgmmggdjcgemfaaWRefPar
namespace Go.Proofs.Ytgmmggdjcgemfaa
open Go Go.RowKit

theorem walk4_known (a : Option Addr) (cap : Nat) (m b cwd : Int) (pb : ByteArray) (hp : pb.size ≤ 1073741824) (follow : Bool) (L : List Ino) (hF : FitP L m b) (z e : Int) (h : walkW L cwd pb.data.toList follow = (z, e)) (w : World) (hN : NodesIn w a cap L) :
    Calls Try.prog 11 #[.agg #[.slice a L.length cap, .int .i64 m, .int .i64 b], .int .i64 cwd, .string pb, .bool follow] w fun r w' => r = .returned (.tuple #[.int .i64 z, .int .i64 e]) ∧ Below w.heap.size w w' := by
  have := walk4_any a cap m b cwd pb hp follow L hF w hN
  rw [h] at this
  exact this
theorem parent4_known (a : Option Addr) (cap : Nat) (m b cwd : Int) (pb : ByteArray) (hp : pb.size ≤ 1073741824) (L : List Ino) (hF : FitP L m b) (z : Int) (s : List UInt8) (e : Int) (h : parentW L cwd pb.data.toList = (z, s, e)) (w : World) (hN : NodesIn w a cap L) :
    Calls Try.prog 13 #[.agg #[.slice a L.length cap, .int .i64 m, .int .i64 b], .int .i64 cwd, .string pb] w fun r w' => r = .returned (.tuple #[.int .i64 z, .string ⟨s.toArray⟩, .int .i64 e]) ∧ Below w.heap.size w w' := by
  have := parent4_any a cap m b cwd pb hp L hF w hN
  rw [h] at this
  exact this

set_option maxRecDepth 100000 in
set_option maxHeartbeats 8000000 in
theorem wgoes_walk (a : Option Addr) (cap : Nat) (m b cwd : Int) (pb : ByteArray) (hpb : pb.size ≤ 281474976710656) (follow : Bool) (what : Int) (L : List Ino) (hS : Sized L) (w : World) (hN : NodesIn w a cap L) :
    Calls Try.prog 3 #[.agg #[.slice a L.length cap, .int .i64 m, .int .i64 b], .int .i64 cwd, .string pb, .bool follow, .int .i64 what] w fun e w' => e = .returned (.bool true) ∧ Below w.heap.size w w' := by
  obtain ⟨w1, hw1⟩ : ∃ w1, w1 = w.alloc (.cells #[.slice a L.length cap, .int .i64 m, .int .i64 b] 24) := ⟨_, rfl⟩
  have hb1 := below_box w (.cells #[.slice a L.length cap, .int .i64 m, .int .i64 b] 24)
  have hM := hN.below hb1
  have hsz : w1.heap.size = w.heap.size + 1 := by rw [hw1]; simp
  have hbox : ∀ W', Below w1.heap.size w1 W' → W'.cell? ⟨w.heap.size, 0, none⟩ = some (.slice a L.length cap) ∧ W'.cell? ⟨w.heap.size, 1, none⟩ = some (.int .i64 m) ∧ W'.cell? ⟨w.heap.size, 2, none⟩ = some (.int .i64 b) := fun W' h => box3 (by rw [← hw1]; exact h)
  rw [← hw1] at hM hb1
  have HM := Lib.hid hM
  have HB := Lib.hid hb1
  have HX := Lib.hid hbox
  have HEND := Lib.hid (show ∀ W', Below w1.heap.size w1 W' → Below w.heap.size w W' from fun W' h => HB.out.trans (h.mono (by rw [hsz]; omega)))
  have HS := Lib.hid hS
  clear hM hN hb1 hbox hsz hS
  go_enter Try.func3, Try.ntmps3
  go_wp2_with fail
  rw [← hw1]
  clear hw1
  refine (good4_any a cap m b L HS.out _ HM.out).mono ?_
  rintro e w2 ⟨⟨v, rfl, hv⟩, hb2⟩
  have HV := Lib.hid hv
  have HB2 := Lib.hid hb2
  obtain ⟨q0, q1, q2⟩ := HX.out _ hb2
  clear hv hb2
  cases v with
  | false =>
    go_wp2_with (first | (go_at_call 9; refine (awake4 _).mono ?_; rintro e w3 ⟨rfl, hb3⟩; have HB3 := Lib.hid (HB2.out.trans (hb3.mono HB2.out.size))) | fail)
    go_ret
    exact ⟨rfl, HEND.out _ HB3.out⟩
  | true =>
    obtain ⟨hl, hF⟩ := HV.out rfl
    have HF := Lib.hid hF
    clear hF
    by_cases hp : pb.size ≤ 3000
    · have hp2 : decide ((pb.size : Int) > 3000) = false := decide_eq_false (by omega)
      obtain ⟨⟨z1, e1⟩, h1⟩ : ∃ r, walkW L cwd pb.data.toList follow = r := ⟨_, rfl⟩
      obtain ⟨⟨z2, s2, e2⟩, h2⟩ : ∃ r, parentW L cwd pb.data.toList = r := ⟨_, rfl⟩
      obtain ⟨mv, h3⟩ : ∃ r, mayL L cwd what = r := ⟨_, rfl⟩
      have H1 := Lib.hid h1
      have H2 := Lib.hid h2
      have H3 := Lib.hid h3
      have hp3 : pb.size ≤ 1073741824 := by omega
      clear h1 h2 h3
      go_wp2_with fail
      refine (lwalk_known _ _ _ _ _ _ hp3 _ L HF.out _ _ H1.out _ (HM.out.below HB2.out)).mono ?_
      rintro e w3 ⟨rfl, hb3⟩
      have HB3 := Lib.hid (HB2.out.trans (hb3.mono HB2.out.size))
      clear hb3 q0 q1 q2
      obtain ⟨q0, q1, q2⟩ := HX.out _ HB3.out
      go_wp2_with fail
      refine (walk4_known _ _ _ _ _ _ hp3 _ L HF.out _ _ H1.out _ (HM.out.below HB3.out)).mono ?_
      rintro e w4 ⟨rfl, hb4⟩
      have HB4 := Lib.hid (HB3.out.trans (hb4.mono HB3.out.size))
      clear hb4 q0 q1 q2
      obtain ⟨q0, q1, q2⟩ := HX.out _ HB4.out
      go_wp2_with fail
      refine (lparent_known _ _ _ _ _ _ hp3 L HF.out _ _ _ H2.out _ (HM.out.below HB4.out)).mono ?_
      rintro e w5 ⟨rfl, hb5⟩
      have HB5 := Lib.hid (HB4.out.trans (hb5.mono HB4.out.size))
      clear hb5 q0 q1 q2
      obtain ⟨q0, q1, q2⟩ := HX.out _ HB5.out
      go_wp2_with fail
      refine (parent4_known _ _ _ _ _ _ hp3 L HF.out _ _ _ H2.out _ (HM.out.below HB5.out)).mono ?_
      rintro e w6 ⟨rfl, hb6⟩
      have HB6 := Lib.hid (HB5.out.trans (hb6.mono HB5.out.size))
      clear hb6 q0 q1 q2
      obtain ⟨q0, q1, q2⟩ := HX.out _ HB6.out
      have f0 := grown_cell q0
      have f1 := grown_cell q1
      have f2 := grown_cell q2
      have G1 := Lib.hid (grown_call (wb := w6) (fun W hW => lmayw_known a cap m b cwd what L HF.out.ins mv H3.out W (HM.out.below (HB6.out.trans (hW.mono HB6.out.size)))))
      have G2 := Lib.hid (grown_call (wb := w6) (fun W hW => may4_at a cap m b cwd what L HF.out.ins mv H3.out W (HM.out.below (HB6.out.trans (hW.mono HB6.out.size)))))
      have G3 := Lib.hid (grown_call (wb := w6) (fun W _ => awake4 W))
      clear q0 q1 q2
      go_wp2_with fail
      refine wp_region_grown (by kernel_rfl) (by kernel_rfl) ?_
      repeat (first | go_big_quiet_skip | (go_big_quiet_want; go_big_quiet_op; (first | go_big_quiet_on | (refine ⟨_, G1.out, ?_⟩; go_big_quiet_on) | (refine ⟨_, G2.out, ?_⟩; go_big_quiet_on) | (refine ⟨_, G3.out, ?_⟩; go_big_quiet_on))))
      refine wpQuiet_nil ?_
      intro w8 hw8
      have hbg : Below w6.heap.size w6 w8 := by obtain ⟨x, rfl⟩ := hw8; exact x.below
      have HB8 := Lib.hid (HB6.out.trans (hbg.mono HB6.out.size))
      clear hw8 hbg
      go_wp2_with fail
      go_ret
      exact ⟨rfl, HEND.out _ HB8.out⟩
    · have hp2 : decide ((pb.size : Int) > 3000) = true := decide_eq_true (by omega)
      go_wp2_with (first | (go_at_call 9; refine (awake4 _).mono ?_; rintro e w3 ⟨rfl, hb3⟩; have HB3 := Lib.hid (HB2.out.trans (hb3.mono HB2.out.size))) | fail)
      go_ret
      exact ⟨rfl, HEND.out _ HB3.out⟩
end Go.Proofs.Ytgmmggdjcgemfaa
