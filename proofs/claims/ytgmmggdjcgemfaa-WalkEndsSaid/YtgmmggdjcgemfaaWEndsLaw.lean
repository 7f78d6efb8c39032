/-
  The law WalkEnds, walked.
-/
import Derived.Test.YtgmmggdjcgemfaaWAwake
namespace Go.Proofs.Ytgmmggdjcgemfaa
open Go Go.RowKit

set_option maxRecDepth 100000 in
set_option maxHeartbeats 8000000 in
theorem wends_walk (a : Option Addr) (cap : Nat) (m b : Int) (cwd : Int) (pb : ByteArray) (hpb : pb.size ≤ 281474976710656) (L : List Ino) (hS : Sized L) (w : World) (hN : NodesIn w a cap L) :
    Calls Try.prog 6 #[.agg #[.slice a L.length cap, .int .i64 m, .int .i64 b], .int .i64 cwd, .string pb] w fun e w' => e = .returned (.bool true) ∧ Below w.heap.size w w' := by
  obtain ⟨w1, hw1⟩ : ∃ w1, w1 = w.alloc (.cells #[.slice a L.length cap, .int .i64 m, .int .i64 b] 24) := ⟨_, rfl⟩
  have hb1 := below_box w (.cells #[.slice a L.length cap, .int .i64 m, .int .i64 b] 24)
  have hM := hN.below hb1
  have hsz : w1.heap.size = w.heap.size + 1 := by rw [hw1]; simp
  have hbox : ∀ W', Below w1.heap.size w1 W' → W'.cell? ⟨w.heap.size, 0, none⟩ = some (.slice a L.length cap) ∧ W'.cell? ⟨w.heap.size, 1, none⟩ = some (.int .i64 m) ∧ W'.cell? ⟨w.heap.size, 2, none⟩ = some (.int .i64 b) := fun W' h => box3 (by rw [← hw1]; exact h)
  rw [← hw1] at hM hb1
  have HM := Lib.hid hM
  have HB := Lib.hid hb1
  have HX := Lib.hid hbox
  have HEND := Lib.hid (show ∀ W', Below w1.heap.size w1 W' → Below w.heap.size w W' from fun W' h => HB.out.trans (h.mono (by rw [hsz]; omega)))
  have HS := Lib.hid hS
  have hcap := hN.1
  have hmax := hN.2.1
  unfold maxLen at hmax
  clear hM hN hb1 hbox hsz hS
  go_enter Try.func6, Try.ntmps6
  go_wp2_with fail
  rw [← hw1]
  clear hw1
  refine (good4_any a cap m b L HS.out _ HM.out).mono ?_
  rintro e w2 ⟨⟨v, rfl, hv⟩, hb2⟩
  have HV := Lib.hid hv
  have HB2 := Lib.hid hb2
  obtain ⟨q0, q1, q2⟩ := HX.out _ hb2
  clear hv hb2
  cases v with
  | false =>
    go_wp2_with (first | (go_at_call 9; refine (awake4 _).mono ?_; rintro e wg ⟨rfl, hbg⟩; have HBg := Lib.hid (HB2.out.trans (hbg.mono HB2.out.size))) | fail)
    go_ret
    exact ⟨rfl, HEND.out _ HBg.out⟩
  | true =>
    obtain ⟨hl, hF⟩ := HV.out rfl
    have HF := Lib.hid hF
    clear hF
    by_cases hp : pb.size ≤ 3000
    case neg =>
      have hp2 : decide ((pb.size : Int) > 3000) = true := decide_eq_true (by omega)
      go_wp2_with (first | (go_at_call 9; refine (awake4 _).mono ?_; rintro e wh ⟨rfl, hbh⟩; have HBh := Lib.hid (HB2.out.trans (hbh.mono HB2.out.size))) | fail)
      go_ret
      exact ⟨rfl, HEND.out _ HBh.out⟩
    have hp2 : decide ((pb.size : Int) > 3000) = false := decide_eq_false (by omega)
    obtain ⟨⟨k, er⟩, h1⟩ : ∃ r, walkW L cwd pb.data.toList true = r := ⟨_, rfl⟩
    have H1 := Lib.hid h1
    have HE := Lib.hid (walk_ends HF.out cwd pb.data.toList)
    rw [h1] at HE
    have hp3 : pb.size ≤ 1073741824 := by omega
    clear h1
    go_wp2_with fail
    refine (lwalk_known _ _ _ _ _ _ hp3 _ L HF.out _ _ H1.out _ (HM.out.below HB2.out)).mono ?_
    rintro e w3 ⟨rfl, hb3⟩
    have HB3 := Lib.hid (HB2.out.trans (hb3.mono HB2.out.size))
    clear hb3 q0 q1 q2
    obtain ⟨q0, q1, q2⟩ := HX.out _ HB3.out
    cases he : (er != 0) with
    | true =>
      obtain rfl : k = 0 := HE.out.1 (by simpa using he)
      go_wp2_with (first | (go_at_call 9; refine (awake4 _).mono ?_; rintro e wi ⟨rfl, hbi⟩; have HBi := Lib.hid (HB3.out.trans (hbi.mono HB3.out.size))) | fail)
      go_ret
      exact ⟨rfl, HEND.out _ HBi.out⟩
    | false =>
      obtain rfl : er = 0 := by simpa using he
      obtain ⟨hlv, hk3⟩ := HE.out.2 rfl
      obtain ⟨u, hu, hul⟩ := there_nat (live_there hlv)
      have hzu : k = (u : Int) := hu
      subst hzu
      rw [node_nat L u hul] at hk3
      have hk0 : L[u].kind ≠ 0 := by
        have h := hlv
        unfold liveB at h
        rw [node_nat L u hul, Bool.and_eq_true] at h
        simpa using h.2
      obtain ⟨bb, o, hae, hx⟩ := (HM.out.below HB3.out).2.2 u hul
      subst hae
      have x0 := hx.kind
      have d0 : (0 : Int) ≤ (u : Int) := by omega
      have d1 : (u : Int) < (L.length : Int) := by omega
      have c1 : decide ((u : Int) ≥ 0) = true := decide_eq_true (by omega)
      have c3 : (L[u].kind != 0) = true := by simpa using hk0
      have c4 : (L[u].kind != 3) = true := by simpa using hk3
      clear hx hlv hu hk0 hk3
      go_wp2_with (first | (go_at_call 9; refine (awake4 _).mono ?_; rintro e wj ⟨rfl, hbj⟩; have HBj := Lib.hid (HB3.out.trans (hbj.mono HB3.out.size))) | fail)
      go_ret
      exact ⟨rfl, HEND.out _ HBj.out⟩
end Go.Proofs.Ytgmmggdjcgemfaa
