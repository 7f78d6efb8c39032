/-
  tree's kidsFit, of the landed code: a directory's names rise, can stand there, and are of inodes that are there.
-/
import Derived.IntWalk
import Derived.Test.YtdpfnnhlneapbaaTLFits
namespace Go.Proofs.Ytdpfnnhlneapbaa
open Go Go.RowKit

/-- What holds of a name, at its place. -/
structure NameFit (L : List Ino) (M : List (List UInt8 × Int)) (k : Nat) (h : k < M.length) : Prop where
  name : nameOkL M[k].1 = true
  order : ∀ t (ht : k = t + 1), Op.bytesLess (M[t]'(by omega)).1 M[k].1 = true
  there : thereB L M[k].2 = true
def KidsFit (L : List Ino) (M : List (List UInt8 × Int)) : Prop := M.length ≤ 1024 ∧ ∀ k (h : k < M.length), NameFit L M k h

theorem lname_known (s : ByteArray) (hs : s.size ≤ 4611686018427387904) (v : Bool) (h : nameOkL s.data.toList = v) (w : World) : Calls Try.prog 63 #[.string s] w fun e w' => e = .returned (.bool v) ∧ w' = w := by
  subst h
  exact (name_any s hs w).mono fun e w' h => ⟨h.1, h.2.symm⟩

def KFRel (L : List Ino) (M : List (List UInt8 × Int)) (w1 : World) (iv : Value) (wr : World) : Prop :=
  ∃ k : Nat, k ≤ M.length ∧ iv = .int .i64 k ∧ Hid (∀ i (h : i < M.length), i < k → NameFit L M i h) ∧ Below w1.heap.size w1 wr

set_option maxRecDepth 100000 in
set_option maxHeartbeats 8000000 in
theorem lkids_any (a : Option Addr) (cap : Nat) (m b : Int) (L : List Ino) (hL : L.length ≤ 1000) (M : List (List UInt8 × Int)) (hnl : ∀ e ∈ M, e.1.length ≤ 4611686018427387904) (ka : Option Addr) (kcap : Nat) (w : World) (hK : KidsIn w (.slice ka M.length kcap) M) :
    Calls Try.prog 49 #[.agg #[.slice a L.length cap, .int .i64 m, .int .i64 b], .slice ka M.length kcap] w fun e w' => TellsP (KidsFit L M) e ∧ Below w.heap.size w w' := by
  obtain ⟨w1, hw1⟩ : ∃ w1, w1 = w.alloc (.cells #[.slice a L.length cap, .int .i64 m, .int .i64 b] 24) := ⟨_, rfl⟩
  have hb1 := below_box w (.cells #[.slice a L.length cap, .int .i64 m, .int .i64 b] 24)
  have hkb := hK.below hb1
  obtain ⟨ka', kcap', e1, hkc, hkm, hkk⟩ := hkb
  simp only [Value.slice.injEq] at e1
  obtain ⟨rfl, -, rfl⟩ := e1
  have hsz : w1.heap.size = w.heap.size + 1 := by rw [hw1]; simp
  have hbox : ∀ W', Below w1.heap.size w1 W' → W'.cell? ⟨w.heap.size, 0, none⟩ = some (.slice a L.length cap) := fun W' h => (box3 (by rw [← hw1]; exact h)).1
  rw [← hw1] at hb1 hkk
  unfold maxLen at hkm
  have HB1 := Lib.hid hb1
  have HK := Lib.hid hkk
  have HX := Lib.hid hbox
  have HSZ := Lib.hid hsz
  have HNL := Lib.hid hnl
  clear hK hb1 hkk hbox hsz hnl
  by_cases hlen : M.length ≤ 1024
  · go_enter Try.func49, Try.ntmps49
    go_wp2_with fail
    rw [← hw1]
    clear hw1
    go_loopw [5, 12] (fun _ iv wr => KFRel L M w1 iv wr) (fun _ iv _ => M.length - (intOf iv).toNat)
    case atStart => exact ⟨0, by omega, rfl, fun _ _ h => absurd h (Nat.not_lt_zero _), Below.refl _ _⟩
    case round =>
      obtain ⟨k, hk, rfl, hok, hbr⟩ := hrel
      have HOK := Lib.hid hok.out
      have HBR := Lib.hid hbr
      have hszr := hbr.size
      clear hok hbr
      by_cases hlt : k < M.length
      · obtain ⟨c1, p1, rfl, z0, z1⟩ := HK.out k hlt
        have y0 := cell_below HBR.out z0
        have y1 := cell_below HBR.out z1
        have q0 := HX.out _ HBR.out
        have gc : c1 < wr.heap.size := cell_lt y0
        have gw : w.heap.size < wr.heap.size := by have := HSZ.out; omega
        have hnlk := Lib.hid (HNL.out M[k] (List.getElem_mem _))
        have hkl' : (k : Int) < (M.length : Int) := by omega
        have hk0' : (0 : Int) ≤ (k : Int) := by omega
        have HBA := Lib.hid (show ∀ o n, Below w1.heap.size w1 ((wr.alloc o).drewN n) from fun o n => (by have h := HBR.out.alloc hszr o; exact ⟨h.os, h.tape, h.output, h.size, h.block⟩))
        have HEND := Lib.hid (show ∀ W', Below w1.heap.size w1 W' → Below w.heap.size w W' from fun W' h => HB1.out.trans (h.mono (by rw [HSZ.out]; omega)))
        clear z0 z1
        obtain ⟨nm, hnm0⟩ : ∃ nm, nm = M[k].1 := ⟨_, rfl⟩
        obtain ⟨ino, hino0⟩ : ∃ ino, ino = M[k].2 := ⟨_, rfl⟩
        have HNM := Lib.hid hnm0
        have HINO := Lib.hid hino0
        rw [← hnm0] at y0 hnlk
        rw [← hino0] at y1
        clear hnm0 hino0
        by_cases hkp : 0 < k
        · have hkp' : (0 : Int) < (k : Int) := by omega
          obtain ⟨t, ht⟩ : ∃ t, k = t + 1 := ⟨k - 1, by omega⟩
          have htl : t < M.length := by omega
          have htl' : (t : Int) < (M.length : Int) := by omega
          have ht0 : (0 : Int) ≤ (t : Int) := by omega
          have y2 : wr.cell? ⟨c1, p1 + t * 2, none⟩ = some (.string ⟨M[t].1.toArray⟩) := by
            obtain ⟨c1', p1', e, zz, -⟩ := HK.out t htl
            obtain ⟨rfl, rfl⟩ : c1 = c1' ∧ p1 = p1' := by simpa using e
            exact cell_below HBR.out zz
          obtain ⟨pm, hpm0⟩ : ∃ pm, pm = M[t].1 := ⟨_, rfl⟩
          have HPM := Lib.hid hpm0
          rw [← hpm0] at y2
          clear hpm0
          have hsub : IntKind.i64.wrap ((k : Int) - 1) = (t : Int) := by rw [IntWalk.i64_in _ (by omega)]; omega
          have HT := Lib.hid ht
          clear ht
          cases hls : Op.bytesLess pm nm with
          | false =>
            have HNO := Lib.hid (show ¬ KidsFit L M from fun h => by
              have h1 := (h.2 k hlt).order t HT.out
              rw [← HPM.out, ← HNM.out, hls] at h1
              cases h1)
            go_wp2_with fail
            go_quiet (fail)
            go_wp2_with fail
            go_ret
            exact ⟨TellsP.no rfl HNO.out, HEND.out _ (HBA.out _ _)⟩
          | true =>
            cases hnm : nameOkL nm with
            | false =>
              have HN1 := Lib.hid (show nameOkL (⟨nm.toArray⟩ : ByteArray).data.toList = false from hnm)
              have HNO := Lib.hid (show ¬ KidsFit L M from fun h => by have h1 := (h.2 k hlt).name; rw [← HNM.out, hnm] at h1; cases h1)
              clear hnm
              go_wp2_with fail
              go_quiet ((go_at_call 63; exact Calls.quiet_of_same (lname_known _ (by rw [str_len]; exact hnlk.out) _ HN1.out _)))
              go_wp2_with fail
              go_ret
              exact ⟨TellsP.no rfl HNO.out, HEND.out _ (HBA.out _ _)⟩
            | true =>
              have HN1 := Lib.hid (show nameOkL (⟨nm.toArray⟩ : ByteArray).data.toList = true from hnm)
              by_cases hi0 : 0 ≤ ino
              · by_cases hi1 : ino < L.length
                · have hnext := Lib.hid (show ∀ i (h : i < M.length), i < k + 1 → NameFit L M i h from fun i h hi => by
                    by_cases e : i = k
                    · subst e
                      refine ⟨by rw [← HNM.out]; exact hnm, fun t' ht' => ?_, by rw [← HINO.out]; unfold thereB; rw [decide_eq_true hi0, decide_eq_true hi1]; rfl⟩
                      have e : t' = t := by have := HT.out; omega
                      subst e
                      rw [← HPM.out, ← HNM.out]
                      exact hls
                    · exact HOK.out i h (by omega))
                  clear hnm
                  go_wp2_with fail
                  go_quiet ((go_at_call 63; exact Calls.quiet_of_same (lname_known _ (by rw [str_len]; exact hnlk.out) _ HN1.out _)))
                  clear hsub
                  go_wp2_with fail
                  go_roundw
                  case rel => exact ⟨k + 1, by omega, by go_num, hnext, HBA.out _ _⟩
                  case measure => simp [intOf] <;> omega
                · have HNO := Lib.hid (show ¬ KidsFit L M from fun h => by
                    have h1 := (h.2 k hlt).there
                    rw [← HINO.out] at h1
                    unfold thereB at h1
                    rw [decide_eq_false hi1, Bool.and_false] at h1
                    cases h1)
                  clear hnm
                  go_wp2_with fail
                  go_quiet ((go_at_call 63; exact Calls.quiet_of_same (lname_known _ (by rw [str_len]; exact hnlk.out) _ HN1.out _)))
                  clear hsub
                  go_wp2_with fail
                  go_ret
                  exact ⟨TellsP.no rfl HNO.out, HEND.out _ (HBA.out _ _)⟩
              · have HNO := Lib.hid (show ¬ KidsFit L M from fun h => by
                  have h1 := (h.2 k hlt).there
                  rw [← HINO.out] at h1
                  unfold thereB at h1
                  rw [decide_eq_false hi0, Bool.false_and] at h1
                  cases h1)
                clear hnm
                go_wp2_with fail
                go_quiet ((go_at_call 63; exact Calls.quiet_of_same (lname_known _ (by rw [str_len]; exact hnlk.out) _ HN1.out _)))
                clear hsub
                go_wp2_with fail
                go_ret
                exact ⟨TellsP.no rfl HNO.out, HEND.out _ (HBA.out _ _)⟩
        · have hg : decide (0 < k) = false := decide_eq_false (by omega)
          have HK0 := Lib.hid (show k = 0 by omega)
          clear hkp
          cases hnm : nameOkL nm with
          | false =>
            have HN1 := Lib.hid (show nameOkL (⟨nm.toArray⟩ : ByteArray).data.toList = false from hnm)
            have HNO := Lib.hid (show ¬ KidsFit L M from fun h => by have h1 := (h.2 k hlt).name; rw [← HNM.out, hnm] at h1; cases h1)
            clear hnm
            go_wp2_with fail
            go_quiet ((go_at_call 63; exact Calls.quiet_of_same (lname_known _ (by rw [str_len]; exact hnlk.out) _ HN1.out _)))
            go_wp2_with fail
            go_ret
            exact ⟨TellsP.no rfl HNO.out, HEND.out _ (HBA.out _ _)⟩
          | true =>
            have HN1 := Lib.hid (show nameOkL (⟨nm.toArray⟩ : ByteArray).data.toList = true from hnm)
            by_cases hi0 : 0 ≤ ino
            · by_cases hi1 : ino < L.length
              · have hnext := Lib.hid (show ∀ i (h : i < M.length), i < k + 1 → NameFit L M i h from fun i h hi => by
                  have e : i = k := by have := HK0.out; omega
                  subst e
                  exact ⟨by rw [← HNM.out]; exact hnm, fun t' ht' => by have := HK0.out; omega, by rw [← HINO.out]; unfold thereB; rw [decide_eq_true hi0, decide_eq_true hi1]; rfl⟩)
                clear hnm
                go_wp2_with fail
                go_quiet ((go_at_call 63; exact Calls.quiet_of_same (lname_known _ (by rw [str_len]; exact hnlk.out) _ HN1.out _)))
                go_wp2_with fail
                go_roundw
                case rel => exact ⟨k + 1, by omega, by go_num, hnext, HBA.out _ _⟩
                case measure => simp [intOf] <;> omega
              · have HNO := Lib.hid (show ¬ KidsFit L M from fun h => by
                  have h1 := (h.2 k hlt).there
                  rw [← HINO.out] at h1
                  unfold thereB at h1
                  rw [decide_eq_false hi1, Bool.and_false] at h1
                  cases h1)
                clear hnm
                go_wp2_with fail
                go_quiet ((go_at_call 63; exact Calls.quiet_of_same (lname_known _ (by rw [str_len]; exact hnlk.out) _ HN1.out _)))
                go_wp2_with fail
                go_ret
                exact ⟨TellsP.no rfl HNO.out, HEND.out _ (HBA.out _ _)⟩
            · have HNO := Lib.hid (show ¬ KidsFit L M from fun h => by
                have h1 := (h.2 k hlt).there
                rw [← HINO.out] at h1
                unfold thereB at h1
                rw [decide_eq_false hi0, Bool.false_and] at h1
                cases h1)
              clear hnm
              go_wp2_with fail
              go_quiet ((go_at_call 63; exact Calls.quiet_of_same (lname_known _ (by rw [str_len]; exact hnlk.out) _ HN1.out _)))
              go_wp2_with fail
              go_ret
              exact ⟨TellsP.no rfl HNO.out, HEND.out _ (HBA.out _ _)⟩
      · have HALL := Lib.hid (show KidsFit L M from ⟨hlen, fun i h => HOK.out i h (by omega)⟩)
        have HEND := Lib.hid (HB1.out.trans (HBR.out.mono (by rw [HSZ.out]; omega)))
        go_wp2_with fail
        go_ret
        exact ⟨TellsP.yes rfl HALL.out, HEND.out⟩
  · have HNO := Lib.hid (show ¬ KidsFit L M from fun h => hlen h.1)
    rw [hw1] at HB1
    go_enter Try.func49, Try.ntmps49
    go_wp2_with fail
    go_ret
    exact ⟨TellsP.no rfl HNO.out, HB1.out⟩
end Go.Proofs.Ytdpfnnhlneapbaa
