/-
  P11.1: a pattern all of whose bytes are quoted; bytes quoted behind its end.
-/
import Derived.Deep.Cut
import Derived.BigRegion
import Derived.Test.YtclhpedecimicaaGreatGLaw0
import Derived.Test.YtclhpedecimicaaGreatGAwake
import Derived.Test.YtclhpedecimicaaGreatGQuotP
namespace Go.Proofs.YtclhpedecimicaaGreat
set_option maxRecDepth 100000
open Go Go.RowKit

theorem below_next11 {n : Nat} {A B B' C : World} (h : Below n A B) (k : Below B'.heap.size B' C) (hn : n ≤ B.heap.size) (e : B'.os = B.os ∧ B'.tape = B.tape ∧ B'.output = B.output ∧ B'.heap = B.heap) : Below n A C := by
  have h' : Below n A B' := ⟨e.1.trans h.os, e.2.1.trans h.tape, e.2.2.1.trans h.output, by rw [e.2.2.2]; exact h.size, by rw [e.2.2.2]; exact h.block⟩
  exact h'.trans (k.mono (by rw [e.2.2.2]; exact hn))
theorem same_yes11 (X : List (List UInt8)) (B1 B2 : Nat) (v1 v2 : Value) (w : World) (hT1 : Texts B1 w v1 X) (hT2 : Texts B2 w v2 X) :
    Calls Tryz.prog 9 #[v1, v2] w fun e w' => e = .returned (.bool true) ∧ Below w.heap.size w w' := by
  have h := rsame_any X X B1 B2 v1 v2 w hT1 hT2
  rw [decide_eq_true (rfl : X = X)] at h
  exact h
theorem lexpand_bytes (a : Option Addr) (cap : Nat) (m b cwd : Int) (P Q : ByteArray) (hP : P.size ≤ 300) (L : List Ino) (hF : FitP L m b) (X : List (List UInt8)) (hX : globW L cwd P.data.toList Q.data.toList = X) (w : World) (hN : NodesIn w a cap L) :
    Calls Tryz.prog 10 #[.agg #[.slice a L.length cap, .int .i64 m, .int .i64 b], .int .i64 cwd, .string P, .string Q] w fun e W' => ∃ v, e = .returned v ∧ Texts 0 W' v X ∧ Below w.heap.size w W' := by
  have h := lexpand a cap m b cwd P.data.toList Q.data.toList (by rw [Array.length_toList]; have e : P.size = P.data.size := rfl; omega) L hF w hN
  rw [hX] at h
  exact h.mono fun e W' h => by
    obtain ⟨v, he, hT, hb⟩ := h
    exact ⟨v, he, texts_zero hT, hb⟩

set_option maxHeartbeats 16000000 in
theorem gquot_walk (a : Option Addr) (cap : Nat) (m b cwd : Int) (pb : ByteArray) (hpb : pb.size ≤ 281474976710656) (L : List Ino) (hS : Sized L) (hLL : L.length ≤ 281474976710656) (hK : ∀ k (h : k < L.length), L[k].kids.length ≤ 281474976710656) (w : World) (hN : NodesIn w a cap L) :
    Calls Tryz.prog 5 #[.agg #[.slice a L.length cap, .int .i64 m, .int .i64 b], .int .i64 cwd, .string pb] w fun e w' => e = .returned (.bool true) ∧ Below w.heap.size w w' := by
  obtain ⟨w1, hw1⟩ : ∃ w1, w1 = w.alloc (.cells #[.slice a L.length cap, .int .i64 m, .int .i64 b] 24) := ⟨_, rfl⟩
  have hb1 : Below w.heap.size w w1 := by rw [hw1]; exact below_box w _
  have hX : w1.heap[w.heap.size]? = some (.cells #[.slice a L.length cap, .int .i64 m, .int .i64 b] 24 (0, 0)) := by rw [hw1]; exact new_block w _
  have hs1 : w1.heap.size = w.heap.size + 1 := by rw [hw1]; simp
  have HB := Lib.hid hb1
  obtain ⟨w2, hw2⟩ : ∃ w2, w2 = w1.alloc (.cells #[.string pb] 9) := ⟨_, rfl⟩
  have hb2 : Below w1.heap.size w1 w2 := by rw [hw2]; exact below_box w1 _
  have hs2 : w2.heap.size = w.heap.size + 2 := by rw [hw2, World.size_alloc, hs1]
  have hT2 : w2.heap[w.heap.size + 1]? = some (.cells #[.string pb] 9 (0, 0)) := by rw [hw2, ← hs1]; exact new_block w1 _
  have HX := Lib.hid (show ∀ W, Below w2.heap.size w2 W → W.cell? ⟨w.heap.size, 0, none⟩ = some (.slice a L.length cap) ∧ W.cell? ⟨w.heap.size, 1, none⟩ = some (.int .i64 m) ∧ W.cell? ⟨w.heap.size, 2, none⟩ = some (.int .i64 b) from fun W hW => by
    have h := (hW.block w.heap.size (by omega)).trans ((hb2.block w.heap.size (by omega)).trans hX)
    exact ⟨blk_cell h 0, blk_cell h 1, blk_cell h 2⟩)
  have HEND := Lib.hid (show ∀ W', Below w2.heap.size w2 W' → Below w.heap.size w W' from fun W' h => HB.out.trans ((hb2.trans (h.mono (by omega))).mono (by omega)))
  have HM := Lib.hid (show ∀ W', Below w2.heap.size w2 W' → NodesIn W' a cap L from fun W' h => hN.below (HB.out.trans ((hb2.trans (h.mono (by omega))).mono (by omega))))
  have HS := Lib.hid hS
  have hgood := lgood11 a cap m b L hS hLL hK (some ⟨w.heap.size + 1, 0, none⟩) 1 [pb] (by simp) (fun s hs => by
      simp only [List.mem_cons, List.not_mem_nil, or_false] at hs
      rw [hs]
      exact hpb) w2 (HM.out w2 (Below.refl _ _)) (fun i x hi => by
      match i, hi with
      | 0, hi => exact ⟨_, rfl, by rw [← Option.some.inj hi]; exact blk_cell hT2 0⟩)
  have HGOOD := Lib.hid hgood
  clear hN hb1 hX hS hb2 hT2 hgood
  go_enter Tryz.func5, Tryz.ntmps5
  go_wp2_with fail
  rw [← hw1, ← hw2]
  clear hw1 hw2
  refine HGOOD.out.mono ?_
  rintro e w3 ⟨⟨v, rfl, hv⟩, hb3⟩
  have HB3 := Lib.hid hb3
  have hs3 := hb3.size
  obtain ⟨q0, q1, q2⟩ := HX.out _ hb3
  have hq := cell_lt q0
  clear hb3 HGOOD
  cases v with
  | false =>
    clear q0 q1 q2 hq hv
    go_wp2_with fail
    refine (awake11 _).mono ?_
    rintro e w4 ⟨rfl, hb4⟩
    have HB4 := Lib.hid (HB3.out.trans (hb4.mono hs3))
    clear hb4
    go_wp2_with fail
    go_ret
    exact ⟨by rfl, HEND.out _ HB4.out⟩
  | true =>
    obtain ⟨hsum, hF⟩ := hv rfl
    clear hv
    have HF := Lib.hid hF
    have hlen : pb.size ≤ 300 := by simpa [sumS] using hsum
    clear hsum hF q0 q1 q2 hq
    go_wp2_with fail
    refine (lfew pb (by omega) _).mono ?_
    rintro e w4 ⟨⟨v2, rfl, -⟩, rfl⟩
    cases v2 with
    | false =>
      go_wp2_with fail
      refine (awake11 _).mono ?_
      rintro e w4 ⟨rfl, hb4⟩
      have HB4 := Lib.hid (HB3.out.trans (hb4.mono hs3))
      clear hb4
      go_wp2_with fail
      go_ret
      exact ⟨by rfl, HEND.out _ HB4.out⟩
    | true =>
      go_wp2_with fail
      go_loopw [7, 8, 22] (fun v7 v8 v22 wr => ∃ (i : Nat) (A B : ByteArray), v7 = .string A ∧ v8 = .string B ∧ v22 = .int .i64 (i : Int) ∧ i ≤ pb.size ∧ A.data.toList = List.replicate i 49 ∧ B.data.toList = List.replicate i 48 ∧ w3 = wr) (fun _ _ v22 _ => pb.size - (intOf v22).toNat)
      case atStart => exact ⟨0, ⟨#[]⟩, ⟨#[]⟩, rfl, rfl, rfl, Nat.zero_le _, rfl, rfl, rfl⟩
      case round =>
        obtain ⟨i, A, B, rfl, rfl, rfl, hi, hA, hB, rfl⟩ := hrel
        have HA := Lib.hid hA
        have HBq := Lib.hid hB
        have hAs : A.size ≤ 300 := by
          have h := congrArg List.length hA
          rw [Array.length_toList, List.length_replicate] at h
          have e : A.size = A.data.size := rfl
          omega
        have hBs : B.size ≤ 300 := by
          have h := congrArg List.length hB
          rw [Array.length_toList, List.length_replicate] at h
          have e : B.size = B.data.size := rfl
          omega
        clear hA hB
        by_cases hlt : i < pb.size
        · have hii : (i : Int) < (pb.size : Int) := by omega
          go_wp2_with fail
          go_roundw
          case rel =>
            exact ⟨i + 1, A ++ ⟨#[49]⟩, B ++ ⟨#[48]⟩, rfl, rfl, by simp, by omega, by rw [ByteArray.data_append, Array.toList_append, HA.out, List.replicate_succ'], by rw [ByteArray.data_append, Array.toList_append, HBq.out, List.replicate_succ'], trivial⟩
          case measure => simp only [intOf]; omega
        · have hii : ¬ (i : Int) < (pb.size : Int) := by omega
          obtain rfl : i = pb.size := by omega
          go_wp2_with fail
          have HBB := Lib.hid (show Below w2.heap.size w2 w3 from HB3.out)
          obtain ⟨X, hX⟩ : ∃ X, globW L cwd pb.data.toList [] = X := ⟨_, rfl⟩
          have hsl : pb.data.toList.length = pb.size := Array.length_toList
          have hg1 : globW L cwd pb.data.toList A.data.toList = [] := by rw [HA.out, ← hsl]; exact glob_ones _ _ _
          have hg2 : globW L cwd pb.data.toList (B ++ ⟨#[49, 49, 49]⟩ : ByteArray).data.toList = X := by
            rw [ByteArray.data_append, Array.toList_append, HBq.out, ← hsl, glob_behind]; exact hX
          obtain ⟨Z2, hZ2⟩ : ∃ Z, Z = B ++ (⟨#[49, 49, 49]⟩ : ByteArray) := ⟨_, rfl⟩
          have hg2 : globW L cwd pb.data.toList Z2.data.toList = X := by rw [hZ2]; exact hg2
          have HE := Lib.hid (show ∀ (Q : ByteArray) (W : World), Below w2.heap.size w2 W → Calls Tryz.prog 10 #[.agg #[.slice a L.length cap, .int .i64 m, .int .i64 b], .int .i64 cwd, .string pb, .string Q] W fun e W' => ∃ v, e = .returned v ∧ Texts 0 W' v (globW L cwd pb.data.toList Q.data.toList) ∧ Below W.heap.size W W' from fun Q W hW => lexpand_bytes a cap m b cwd pb Q hlen L HF.out _ rfl W (HM.out W hW))
          have HG1 := Lib.hid hg1
          have HG2 := Lib.hid (show ∀ v W, Texts 0 W v (globW L cwd pb.data.toList (B ++ (⟨#[49, 49, 49]⟩ : ByteArray)).data.toList) → Texts 0 W v X from fun v W h => by rw [← hZ2, hg2] at h; exact h)
          have HG3 := Lib.hid (show ∀ v W, Texts 0 W v (globW L cwd pb.data.toList (⟨#[]⟩ : ByteArray).data.toList) → Texts 0 W v X from fun v W h => by rw [← hX]; exact h)
          have HGA := Lib.hid (show ∀ v W, Texts 0 W v (globW L cwd pb.data.toList A.data.toList) → ∃ a c, v = .slice a 0 c from fun v W h => by rw [hg1] at h; exact texts_nil11 h)
          obtain ⟨q0, q1, q2⟩ := HX.out _ HBB.out
          clear hX hsl hg1 hg2 hZ2 HA HBq HB3 hii
          go_wp2_with fail
          have hk0 : (⟨#[49, 49, 49]⟩ : ByteArray).size = 3 := rfl
          have hm0 : IntKind.i64.max = 9223372036854775807 := rfl
          have hk1 : ¬ (9223372036854775807 < B.size + 3) := by omega
          have hk2 : ¬ ((9223372036854775807 : Int) < (B.size : Int) + 3) := by omega
          have hk3 : ¬ (9223372036854775807 < B.size + (⟨#[49, 49, 49]⟩ : ByteArray).size) := by rw [hk0]; omega
          have hk4 : ¬ (((B.size + (⟨#[49, 49, 49]⟩ : ByteArray).size : Nat) : Int) > IntKind.i64.max) := by rw [hk0, hm0]; omega
          have hk5 : ¬ ((9223372036854775807 : Int) < (B.size : Int) + ((⟨#[49, 49, 49]⟩ : ByteArray).size : Int)) := by rw [hk0]; omega
          clear hk0 hm0
          go_region_held3 (fun W => W.cell? ⟨w.heap.size, 0, none⟩ = some (.slice a L.length cap) ∧ W.cell? ⟨w.heap.size, 1, none⟩ = some (.int .i64 m) ∧ W.cell? ⟨w.heap.size, 2, none⟩ = some (.int .i64 b))
            (exact ⟨q0, q1, q2⟩)
            (first
              | (go_at_call 10; refine (HE.out _ _ ?_).mono ?_; (exact ⟨HBB.out.os, HBB.out.tape, HBB.out.output, HBB.out.size, HBB.out.block⟩); rintro e wn ⟨vn, rfl, hTn, hbn⟩; have HBB : Hid (Below w2.heap.size w2 wn) := Lib.hid (below_next11 HBB.out hbn HBB.out.size ⟨rfl, rfl, rfl, rfl⟩); obtain ⟨q0, q1, q2⟩ := HX.out _ HBB.out; (try have HT2 : Hid (Texts _ wn _ X) := Lib.hid (Texts.below HT2.out ⟨hbn.os, hbn.tape, hbn.output, hbn.size, hbn.block⟩)); (try have HT3 : Hid (Texts _ wn _ X) := Lib.hid (Texts.below HT3.out ⟨hbn.os, hbn.tape, hbn.output, hbn.size, hbn.block⟩)); (first | (obtain ⟨ta, tc, rfl⟩ := HGA.out _ _ hTn) | (have HT2 := Lib.hid (HG2.out _ _ hTn)) | (have HT3 := Lib.hid (HG3.out _ _ hTn))); clear hTn)
              | (go_at_call 9; refine (same_yes11 X _ _ _ _ _ HT2.out HT3.out).mono ?_; rintro e wn ⟨rfl, hbn⟩; have HBB : Hid (Below w2.heap.size w2 wn) := Lib.hid (below_next11 HBB.out hbn HBB.out.size ⟨rfl, rfl, rfl, rfl⟩); obtain ⟨q0, q1, q2⟩ := HX.out _ HBB.out)
              | (go_at_call 8; refine (awake11 _).mono ?_; rintro e wn ⟨rfl, hbn⟩; have HBB : Hid (Below w2.heap.size w2 wn) := Lib.hid (below_next11 HBB.out hbn HBB.out.size ⟨rfl, rfl, rfl, rfl⟩); obtain ⟨q0, q1, q2⟩ := HX.out _ HBB.out))
          all_goals
            go_wp2_with fail
            go_ret
            exact ⟨by rfl, HEND.out _ HBB.out⟩
end Go.Proofs.YtclhpedecimicaaGreat
