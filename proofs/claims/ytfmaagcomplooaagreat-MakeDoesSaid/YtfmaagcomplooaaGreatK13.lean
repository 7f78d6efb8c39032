/-
  The reference's Parent, walked.
  The reference's fresh, of chapter 5: a new name: its directory, and it.
  The reference's Mkdir, Create, of chapter 5.
  The reference's Symlink, of chapter 5.
  A fit tree's texts are short.
  What is made, in plain words: the trees stay fit.
  make's Mkdir, Create, Symlink of the landed code: they answer what chapter 5 says.
  make's Symlink of the landed code: it answers what chapter 5 says.
  make's Chmod of the landed code: it answers what chapter 5 says.
-/
import Derived.Test.YtfmaagcomplooaaGreatWRefTop
import Derived.Test.YtfmaagcomplooaaGreatK4
import Derived.Test.YtfmaagcomplooaaGreatK3
import Derived.Test.YtfmaagcomplooaaGreatK6
import Derived.Test.YtfmaagcomplooaaGreatK1
import Derived.OwnWalk
import Derived.Test.YtfmaagcomplooaaGreatRAdded
import Derived.Test.YtfmaagcomplooaaGreatK12
import Derived.Test.YtfmaagcomplooaaGreatK9
namespace Go.Proofs.YtfmaagcomplooaaGreat
set_option maxRecDepth 100000
open Go Go.RowKit

theorem rparts_view (pb : ByteArray) (hp : pb.size ≤ 1073741824) (N : List (List UInt8)) (hN : partsL pb.data.toList = N) (w : World) :
    Calls Tryz.prog 64 #[.string pb] w fun e w' => ∃ v, e = .returned v ∧ View w' v N ∧ Below w.heap.size w w' := by
  subst hN
  exact (rparts_any pb hp w).mono fun e w' ⟨v, h1, h2, h3⟩ => ⟨v, h1, h2.view, h3⟩

set_option maxRecDepth 100000 in
set_option maxHeartbeats 8000000 in
theorem parent4_any (a : Option Addr) (cap : Nat) (m b cwd : Int) (pb : ByteArray) (hp : pb.size ≤ 1073741824) (L : List Ino) (hF : FitP L m b) (w : World) (hN : NodesIn w a cap L) :
    Calls Tryz.prog 46 #[.agg #[.slice a L.length cap, .int .i64 m, .int .i64 b], .int .i64 cwd, .string pb] w fun e w' => e = .returned (.tuple #[.int .i64 (parentW L cwd pb.data.toList).1, .string ⟨(parentW L cwd pb.data.toList).2.1.toArray⟩, .int .i64 (parentW L cwd pb.data.toList).2.2]) ∧ Below w.heap.size w w' := by
  obtain ⟨w1, hw1⟩ : ∃ w1, w1 = w.alloc (.cells #[.slice a L.length cap, .int .i64 m, .int .i64 b] 24) := ⟨_, rfl⟩
  have hb1 := below_box w (.cells #[.slice a L.length cap, .int .i64 m, .int .i64 b] 24)
  have hM := hN.below hb1
  have hsz : w1.heap.size = w.heap.size + 1 := by rw [hw1]; simp
  have hbox : ∀ W', Below w1.heap.size w1 W' → W'.cell? ⟨w.heap.size, 0, none⟩ = some (.slice a L.length cap) ∧ W'.cell? ⟨w.heap.size, 1, none⟩ = some (.int .i64 m) ∧ W'.cell? ⟨w.heap.size, 2, none⟩ = some (.int .i64 b) := fun W' h => box3 (by rw [← hw1]; exact h)
  rw [← hw1] at hM hb1
  have HM := Lib.hid hM
  have HB := Lib.hid hb1
  have HX := Lib.hid hbox
  have HEND := Lib.hid (show ∀ W', Below w1.heap.size w1 W' → Below w.heap.size w W' from fun W' h => HB.out.trans (h.mono (by rw [hsz]; omega)))
  have HF := Lib.hid hF
  obtain ⟨R, hR⟩ : ∃ R, R = parentW L cwd pb.data.toList := ⟨_, rfl⟩
  rw [← hR]
  have HR := Lib.hid hR
  obtain ⟨z, hz⟩ : ∃ z, badW L cwd pb.data.toList = z := ⟨_, rfl⟩
  have HZ := Lib.hid hz
  clear hM hN hb1 hbox hsz hF hR
  by_cases hbad : z ≠ 0
  · have hzb : (z != 0) = true := by simpa using hbad
    have HW := Lib.hid (show R = (0, [], z) by rw [HR.out]; unfold parentW; rw [hz, if_pos hbad])
    clear hbad hz
    go_enter Tryz.func46, Tryz.ntmps46
    go_wp2_with fail
    rw [← hw1]
    refine (bad4_known _ _ _ _ _ _ hp L z HZ.out _ HM.out).mono ?_
    rintro e w2 ⟨rfl, hb2⟩
    go_wp2_with fail
    go_ret3
    exact ⟨by rw [HW.out]; rfl, HEND.out _ hb2⟩
  · obtain rfl : z = 0 := by simpa using hbad
    obtain ⟨st, hst⟩ : ∃ st, beginW cwd pb.data.toList = st := ⟨_, rfl⟩
    have HST := Lib.hid hst
    obtain ⟨N, hNe⟩ : ∃ N, partsL pb.data.toList = N := ⟨_, rfl⟩
    have HNE := Lib.hid hNe
    have hlong : pb.size ≤ 1024 := by
      unfold badW at hz
      by_cases h2 : pb.data.toList = [] ∨ dirB L cwd = false
      · rw [if_pos h2] at hz; cases hz
      · rw [if_neg h2] at hz
        by_cases hl : longB pb.data.toList = true
        · rw [if_pos hl] at hz; cases hz
        · unfold longB at hl
          rw [Bool.or_eq_true, decide_eq_true_eq, size_list] at hl
          omega
    have hNL : N.length ≤ 1025 := by rw [← hNe]; have := count_parts pb.data.toList; rw [size_list] at this; omega
    have HW := Lib.hid (show R = if N = [] then (0, [], 17) else if (wayW L true 8 N.dropLast st).2 ≠ 0 then (0, [], (wayW L true 8 N.dropLast st).2) else if dirB L (wayW L true 8 N.dropLast st).1 = false then (0, [], 20) else ((wayW L true 8 N.dropLast st).1, N.getLastD [], 0) by
      rw [HR.out]
      unfold parentW
      rw [hz, if_neg (by simp), hst, hNe])
    clear hz hst hNe hbad HR
    rcases List.eq_nil_or_concat N with hn | ⟨M, y, hn⟩
    · subst hn
      have HW2 := Lib.hid (show R = (0, [], 17) by rw [HW.out, if_pos rfl])
      go_enter Tryz.func46, Tryz.ntmps46
      go_wp2_with fail
      rw [← hw1]
      refine (bad4_known _ _ _ _ _ _ hp L 0 HZ.out _ HM.out).mono ?_
      rintro e w2 ⟨rfl, hb2⟩
      have HB2 := Lib.hid hb2
      clear hb2
      go_wp2_with fail
      refine (rparts_view _ hp _ HNE.out _).mono ?_
      rintro e w3 ⟨v, rfl, ⟨na, nc, rfl, -, -, -⟩, hb3⟩
      have HB3 := Lib.hid (HB2.out.trans (hb3.mono HB2.out.size))
      clear hb3
      go_wp2_with fail
      go_ret3
      exact ⟨by rw [HW2.out]; rfl, HEND.out _ HB3.out⟩
    · rw [List.concat_eq_append] at hn
      have hlen : N.length = M.length + 1 := by rw [hn]; simp
      obtain ⟨kz, hkz⟩ : ∃ kz, kz = (wayW L true 8 M st).1 := ⟨_, rfl⟩
      obtain ⟨ez, hez⟩ : ∃ ez, ez = (wayW L true 8 M st).2 := ⟨_, rfl⟩
      have HWAY := Lib.hid (show ∀ W v, Below w1.heap.size w1 W → View W v M → Calls Tryz.prog 62 #[.agg #[.slice a L.length cap, .int .i64 m, .int .i64 b], .int .i64 st, v, .bool true] W fun e w' => e = .returned (.tuple #[.int .i64 kz, .int .i64 ez]) ∧ Below W.heap.size W w' from fun W v hW hv => by
        rw [hkz, hez]
        exact way4_any a cap m b st true M (by omega) v L HF.out W (HM.out.below hW) hv)
      obtain ⟨dz, hdz⟩ : ∃ dz, dirB L kz = dz := ⟨_, rfl⟩
      have HDZ := Lib.hid hdz
      have HW2 := Lib.hid (show R = if ez ≠ 0 then (0, [], ez) else if dz = false then (0, [], 20) else (kz, y, 0) by
        rw [HW.out, if_neg (by rw [hn]; simp), hn, List.dropLast_concat, ← hkz, ← hez, hdz]
        congr 3
        simp)
      have HN := Lib.hid hn
      clear hkz hez hdz hn HW
      go_enter Tryz.func46, Tryz.ntmps46
      go_wp2_with fail
      rw [← hw1]
      refine (bad4_known _ _ _ _ _ _ hp L 0 HZ.out _ HM.out).mono ?_
      rintro e w2 ⟨rfl, hb2⟩
      have HB2 := Lib.hid hb2
      obtain ⟨q0, q1, q2⟩ := HX.out _ HB2.out
      clear hb2
      go_wp2_with fail
      refine (rparts_view _ hp _ HNE.out _).mono ?_
      rintro e w3 ⟨v, rfl, hv, hb3⟩
      have HB3 := Lib.hid (HB2.out.trans (hb3.mono HB2.out.size))
      rw [HN.out] at hv
      obtain ⟨na, nc, rfl, hc1, hc2, hcell⟩ := hv
      obtain ⟨nb, no, rfl, hy⟩ := hcell M.length (by simp)
      have hy0 : (M ++ [y])[M.length]'(by simp) = y := by simp
      rw [hy0] at hy
      have hlen2 : (M ++ [y]).length = M.length + 1 := by simp
      rw [hlen2] at hc1
      have HV := Lib.hid (show View w3 (.slice (some ⟨nb, no, none⟩) M.length nc) M from View.init (x := y) (by
        refine ⟨_, nc, by rw [hlen2], by rw [hlen2]; exact hc1, hc2, hcell⟩))
      unfold maxLen at hc2
      unfold strv at hy
      have HBB := Lib.hid HB3.out
      clear hb3 hcell q0 q1 q2 hy0
      obtain ⟨q0, q1, q2⟩ := HX.out _ HBB.out
      have H1 := Lib.hid (grown_call (wb := w3) (fun W hW => (begin4_known cwd pb st HST.out W).mono fun e w' h => (⟨h.1, by rw [← h.2]; exact Below.refl _ _⟩ : _ ∧ Below W.heap.size W w')))
      have H2 := Lib.hid (grown_call (wb := w3) (fun W hW => HWAY.out W _ (HBB.out.trans (hW.mono HBB.out.size)) (HV.out.below hW)))
      have f0 := grown_cell q0
      have f1 := grown_cell q1
      have f2 := grown_cell q2
      have hi1 : (0 : Int) ≤ (M.length : Int) := by omega
      have hi2 : (M.length : Int) ≤ (nc : Int) := by omega
      have hi3 : ((M.length : Int) + 1) ≤ (nc : Int) := by omega
      go_wp2_with fail
      refine wp_region_grown (by kernel_rfl) (by kernel_rfl) ?_
      repeat (first | go_big_quiet_skip | (go_big_quiet_want; go_big_quiet_op; (first | go_big_quiet_on | (refine ⟨_, H1.out, ?_⟩; go_big_quiet_on) | (refine ⟨_, H2.out, ?_⟩; go_big_quiet_on))))
      refine wpQuiet_nil ?_
      intro w8 hw8
      have hbg : Below w3.heap.size w3 w8 := by obtain ⟨x, rfl⟩ := hw8; exact x.below
      have HB8 := Lib.hid (HBB.out.trans (hbg.mono HBB.out.size))
      obtain ⟨q0, q1, q2⟩ := HX.out _ HB8.out
      have hy8 := cell_below hbg hy
      clear hw8 hbg f0 f1 f2 H1 H2
      cases he : (ez != 0) with
      | true =>
        have HW3 := Lib.hid (show R = (0, [], ez) by rw [HW2.out, if_pos (by simpa using he)])
        go_wp2_with fail
        go_ret3
        exact ⟨by rw [HW3.out]; rfl, HEND.out _ HB8.out⟩
      | false =>
        have hz0 : ez = 0 := by simpa using he
        subst hz0
        cases dz with
        | false =>
          have HW3 := Lib.hid (show R = (0, [], 20) by rw [HW2.out, if_neg (by simp), if_pos rfl])
          go_wp2_with (first | (go_at_call 65; refine (dir4_known _ _ _ _ _ L _ HDZ.out _ (HM.out.below HB8.out)).mono ?_; rintro e w9 ⟨rfl, hb9⟩; have HB9 := Lib.hid (HB8.out.trans (hb9.mono HB8.out.size))) | fail)
          go_ret3
          exact ⟨by rw [HW3.out]; rfl, HEND.out _ HB9.out⟩
        | true =>
          have HW3 := Lib.hid (show R = (kz, y, 0) by rw [HW2.out, if_neg (by simp), if_neg (by simp)])
          go_wp2_with fail
          refine (dir4_known _ _ _ _ _ L _ HDZ.out _ (HM.out.below HB8.out)).mono ?_
          rintro e w9 ⟨rfl, hb9⟩
          have HB9 := Lib.hid (HB8.out.trans (hb9.mono HB8.out.size))
          have f0 := grown_cell (cell_below hb9 hy8)
          clear hb9 q0 q1 q2 hy8
          have hj1 : (M.length : Int) < ((M.length : Int) + 1) := by omega
          go_wp2_with fail
          refine wp_region_grown (by kernel_rfl) (by kernel_rfl) ?_
          repeat (first | go_big_quiet_skip | (go_big_quiet_want; go_big_quiet_op; go_big_quiet_on))
          refine wpQuiet_nil ?_
          intro w10 hw10
          have hbg : Below w9.heap.size w9 w10 := by obtain ⟨x, rfl⟩ := hw10; exact x.below
          have HB10 := Lib.hid (HB9.out.trans (hbg.mono HB9.out.size))
          clear hw10 hbg f0
          go_wp2_with fail
          go_ret3
          exact ⟨by rw [HW3.out]; rfl, HEND.out _ HB10.out⟩
end Go.Proofs.YtfmaagcomplooaaGreat

namespace Go.Proofs.YtfmaagcomplooaaGreat
set_option maxRecDepth 100000
open Go Go.RowKit

theorem end_byte5 (s : ByteArray) (n : Nat) (h : s.size = n + 1) : endL s.data.toList = ((s[n].toNat : Int) == 47) := by
  have e : s.data.toList.getLast? = some (s[n]'(by omega)) := by
    rw [List.getLast?_eq_getElem?, size_list, show s.size - 1 = n by omega, List.getElem?_eq_getElem (by rw [size_list]; omega), at_list s n (by omega)]
  unfold endL
  rw [e]
  rw [Bool.eq_iff_iff, beq_iff_eq, beq_iff_eq, Option.some.injEq]
  constructor
  · intro e
    rw [e]
    rfl
  · intro e
    exact UInt8.toNat_inj.1 (by show s[n].toNat = 47; omega)
theorem in_total : ∀ (M : List (List UInt8)) (x : List UInt8), x ∈ M → x.length + 1 ≤ total M
  | [], _, h => by cases h
  | y :: r, x, h => by
    unfold total
    rcases List.mem_cons.1 h with rfl | h
    · omega
    · have := in_total r x h
      omega
theorem par_name {L : List Ino} {cwd : Int} {p : List UInt8} {d : Int} {nm : List UInt8} (h : parentW L cwd p = (d, nm, 0)) : nm.length ≤ p.length ∧ p ≠ [] := by
  unfold parentW at h
  split at h
  · rename_i h1
    simp only [Prod.mk.injEq] at h
    exact absurd h.2.2 h1
  · split at h
    · simp only [Prod.mk.injEq] at h
      exact absurd h.2.2 (by decide)
    · rename_i h2
      have hp : p ≠ [] := fun e => h2 (by rw [e]; rfl)
      split at h
      · rename_i h3
        simp only [Prod.mk.injEq] at h
        exact absurd h.2.2 h3
      · split at h
        · simp only [Prod.mk.injEq] at h
          exact absurd h.2.2 (by decide)
        · simp only [Prod.mk.injEq] at h
          refine ⟨?_, hp⟩
          rw [← h.2.1, List.getLastD_eq_getLast?, List.getLast?_eq_some_getLast h2]
          have h4 := Nat.le_trans (in_total _ _ (List.getLast_mem h2)) (total_parts p)
          exact Nat.le_of_succ_le_succ h4

set_option maxHeartbeats 8000000 in
theorem rfresh_any (a : Option Addr) (cap : Nat) (m b cwd : Int) (pb : ByteArray) (hp : pb.size ≤ 1073741824) (dirs : Bool) (L : List Ino) (hF : FitP L m b) (z : Int) (s : List UInt8) (er : Int) (hz : freshW L cwd pb.data.toList dirs = (z, s, er)) (w : World) (hN : NodesIn w a cap L) :
    Calls Tryz.prog 25 #[.agg #[.slice a L.length cap, .int .i64 m, .int .i64 b], .int .i64 cwd, .string pb, .bool dirs] w fun e w' => e = .returned (.tuple #[.int .i64 z, .string ⟨s.toArray⟩, .int .i64 er]) ∧ Below w.heap.size w w' := by
  obtain ⟨⟨d, nm, pe⟩, hpar⟩ : ∃ r, parentW L cwd pb.data.toList = r := ⟨_, rfl⟩
  obtain ⟨w1, hw1⟩ : ∃ w1, w1 = w.alloc (.cells #[.slice a L.length cap, .int .i64 m, .int .i64 b] 24) := ⟨_, rfl⟩
  have hb1 : Below w.heap.size w w1 := by rw [hw1]; exact below_box w _
  have HX := Lib.hid (show ∀ W', Below w1.heap.size w1 W' → W'.cell? ⟨w.heap.size, 0, none⟩ = some (.slice a L.length cap) ∧ W'.cell? ⟨w.heap.size, 1, none⟩ = some (.int .i64 m) ∧ W'.cell? ⟨w.heap.size, 2, none⟩ = some (.int .i64 b) from fun W' h => box3 (by rw [← hw1]; exact h))
  have hs1 : w1.heap.size = w.heap.size + 1 := by rw [hw1]; simp
  have HM := Lib.hid (show ∀ W', Below w1.heap.size w1 W' → NodesIn W' a cap L from fun W' h => hN.below (hb1.trans (h.mono (by omega))))
  have HEND := Lib.hid (show ∀ W', Below w1.heap.size w1 W' → Below w.heap.size w W' from fun W' h => hb1.trans (h.mono (by omega)))
  have HP := Lib.hid hpar
  have HF := Lib.hid hF
  have HZ := Lib.hid hz
  clear hpar hF hz hN hb1
  go_enter Tryz.func25, Tryz.ntmps25
  go_wp2_with fail
  rw [← hw1]
  clear hw1
  have hpk := parent4_any a cap m b cwd pb hp L HF.out w1 (HM.out _ (Below.refl _ _))
  rw [HP.out] at hpk
  refine hpk.mono ?_
  rintro e w3 ⟨rfl, hb3⟩
  have HB3 := Lib.hid hb3
  have hs3 := hb3.size
  clear hb3 hpk
  by_cases h1 : pe = 0
  · subst h1
    obtain ⟨hnmp, hpne⟩ := par_name HP.out
    rw [size_list] at hnmp
    obtain ⟨n, hn⟩ : ∃ n, pb.size = n + 1 := ⟨pb.size - 1, by
      have h : pb.data.toList.length ≠ 0 := fun e => hpne (List.length_eq_zero_iff.1 e)
      rw [size_list] at h
      omega⟩
    have hnl : (⟨nm.toArray⟩ : ByteArray).size ≤ 9223372036854775807 := by rw [str_len]; omega
    have HEB := Lib.hid (end_byte5 pb n hn)
    obtain ⟨sf, hsf⟩ : ∃ v, endL pb.data.toList = v := ⟨_, rfl⟩
    obtain ⟨kz, hkz⟩ : ∃ v, kidL L d nm = v := ⟨_, rfl⟩
    obtain ⟨mv, hmv⟩ : ∃ v, mayL L d 3 = v := ⟨_, rfl⟩
    obtain ⟨nv, hnv⟩ : ∃ v, nameOkL nm = v := ⟨_, rfl⟩
    have HSF := Lib.hid hsf
    have HK := Lib.hid hkz
    have HMV := Lib.hid hmv
    have HNM := Lib.hid (show nameOkL (⟨nm.toArray⟩ : ByteArray).data.toList = nv from hnv)
    have hz2 := HZ.out
    unfold freshW at hz2
    rw [HP.out] at hz2
    simp only [hkz, hmv, hnv, hsf] at hz2
    clear hsf hkz hmv hnv hpne hnmp
    obtain ⟨q0, q1, q2⟩ := HX.out _ HB3.out
    have hq := cell_lt q0
    by_cases e1 : nm = [46]
    · subst e1
      simp at hz2
      obtain ⟨rfl, rfl, rfl⟩ := hz2
      go_wp2_with fail
      go_ret3
      exact ⟨rfl, HEND.out _ HB3.out⟩
    have e1b : (nm == [46]) = false := by simpa using e1
    by_cases e2 : nm = [46, 46]
    · subst e2
      simp at hz2
      obtain ⟨rfl, rfl, rfl⟩ := hz2
      clear e1 e1b
      go_wp2_with fail
      go_ret3
      exact ⟨rfl, HEND.out _ HB3.out⟩
    have e2b : (nm == [46, 46]) = false := by simpa using e2
    simp only [e1, e2, false_or, ne_eq, not_true_eq_false, if_false] at hz2
    have HZ2 := Lib.hid hz2
    clear e1 e2 hz2 HZ
    go_wp2_with fail
    refine (rkid_known _ _ _ _ _ _ L _ HK.out _ (HM.out _ HB3.out)).mono ?_
    rintro e w4 ⟨rfl, hb4⟩
    have HB4 := Lib.hid (HB3.out.trans (hb4.mono HB3.out.size))
    clear hb4 q0 q1 q2 hq
    obtain ⟨q0, q1, q2⟩ := HX.out _ HB4.out
    have hq := cell_lt q0
    have hz2 := HZ2.out
    by_cases e3 : 0 ≤ kz
    · simp only [e3, if_true, Prod.mk.injEq] at hz2
      obtain ⟨rfl, rfl, rfl⟩ := hz2
      go_wp2_with fail
      go_ret3
      exact ⟨rfl, HEND.out _ HB4.out⟩
    simp only [e3, if_false] at hz2
    cases nv with
    | false =>
      simp only [if_true, Prod.mk.injEq] at hz2
      obtain ⟨rfl, rfl, rfl⟩ := hz2
      go_wp2_with (first | (go_at_call 48; refine (rname_known _ hnl _ (HNM.out) _).mono ?_; rintro e w' ⟨rfl, rfl⟩) | fail)
      go_ret3
      exact ⟨rfl, HEND.out _ HB4.out⟩
    | true =>
      simp only [Bool.true_eq_false, if_false] at hz2
      go_wp2_with (first | (go_at_call 48; refine (rname_known _ hnl _ (HNM.out) _).mono ?_; rintro e w' ⟨rfl, rfl⟩) | fail)
      refine (may4_known _ _ _ _ _ _ L (by decide) (by decide) HF.out.ins _ (HM.out _ HB4.out)).mono ?_
      rintro e w5 ⟨rfl, hb5⟩
      rw [HMV.out]
      have HB5 := Lib.hid (HB4.out.trans (hb5.mono HB4.out.size))
      clear hb5 q0 q1 q2 hq
      cases mv with
      | false =>
        simp only [if_true, Prod.mk.injEq] at hz2
        obtain ⟨rfl, rfl, rfl⟩ := hz2
        go_wp2_with fail
        go_ret3
        exact ⟨rfl, HEND.out _ HB5.out⟩
      | true =>
        simp only [Bool.true_eq_false, if_false] at hz2
        cases dirs with
        | true =>
          simp only [Bool.true_eq_false, false_and, if_false, Prod.mk.injEq] at hz2
          obtain ⟨rfl, rfl, rfl⟩ := hz2
          go_wp2_with fail
          go_ret3
          exact ⟨rfl, HEND.out _ HB5.out⟩
        | false =>
          have hw : IntKind.i64.wrap ((pb.size : Int) - 1) = (n : Int) := by rw [IntWalk.i64_in _ ⟨by omega, by omega⟩]; omega
          have hn0 : (0 : Int) ≤ (n : Int) := by omega
          have hn1 : (n : Int) < (pb.size : Int) := by omega
          have hn2 : n < pb.size := by omega
          cases hl : ((pb[n].toNat : Int) == 47) with
          | true =>
            have hsf : sf = true := by rw [← HSF.out, HEB.out, hl]
            subst hsf
            simp only [and_self, if_true, Prod.mk.injEq] at hz2
            obtain ⟨rfl, rfl, rfl⟩ := hz2
            go_wp2_with fail
            go_ret3
            exact ⟨rfl, HEND.out _ HB5.out⟩
          | false =>
            have hsf : sf = false := by rw [← HSF.out, HEB.out, hl]
            subst hsf
            simp only [Bool.false_eq_true, and_false, if_false, Prod.mk.injEq] at hz2
            obtain ⟨rfl, rfl, rfl⟩ := hz2
            go_wp2_with fail
            go_ret3
            exact ⟨rfl, HEND.out _ HB5.out⟩
  · have hz2 := HZ.out
    unfold freshW at hz2
    rw [HP.out] at hz2
    simp only [h1, ne_eq, not_false_eq_true, if_true, Prod.mk.injEq] at hz2
    obtain ⟨rfl, rfl, rfl⟩ := hz2
    have hb1 : (pe != 0) = true := by simpa using h1
    go_wp2_with fail
    go_ret3
    exact ⟨rfl, HEND.out _ HB3.out⟩
end Go.Proofs.YtfmaagcomplooaaGreat

namespace Go.Proofs.YtfmaagcomplooaaGreat
set_option maxRecDepth 100000
open Go Go.RowKit

theorem rmode5 (q : Int) (v : Bool) (h : modeB q = v) (w : World) : Calls Tryz.prog 24 #[.int .i64 q] w fun e w' => e = .returned (.bool v) ∧ w = w' := by
  subst h
  unfold modeB
  by_cases h0 : 0 ≤ q
  · have hb0 : decide ((0 : Int) ≤ q) = true := decide_eq_true h0
    rw [hb0]
    go_enter Tryz.func24, Tryz.ntmps24
    go_wp2_with fail
    go_ret
    exact ⟨by rfl, rfl⟩
  · have hb0 : decide ((0 : Int) ≤ q) = false := decide_eq_false h0
    rw [hb0]
    go_enter Tryz.func24, Tryz.ntmps24
    go_wp2_with fail
    go_ret
    exact ⟨by rfl, rfl⟩

set_option maxHeartbeats 8000000 in
theorem rmkdir_any (a : Option Addr) (cap : Nat) (m b cwd q : Int) (pb : ByteArray) (hp : pb.size ≤ 1073741824) (L : List Ino) (hF : FitP L m b) (L' : List Ino) (kz er : Int) (hz : mkdirW L cwd pb.data.toList q = (L', kz, er)) (w : World) (hN : NodesIn w a cap L) :
    Calls Tryz.prog 7 #[.agg #[.slice a L.length cap, .int .i64 m, .int .i64 b], .int .i64 cwd, .string pb, .int .i64 q] w (RefAns w m b L' [.int .i64 kz, .int .i64 er]) := by
  obtain ⟨w2, hw2, hb2, hs2, hA, hB⟩ := two_boxes w #[.slice a L.length cap, .int .i64 m, .int .i64 b] #[.slice none 0 0, .int .i64 0, .int .i64 0] 24 24
  obtain ⟨l1, l2, l3, l4, l5⟩ := hF.limits
  have HX := Lib.hid (show ∀ W, Below w2.heap.size w2 W → W.cell? ⟨w.heap.size, 0, none⟩ = some (.slice a L.length cap) ∧ W.cell? ⟨w.heap.size, 1, none⟩ = some (.int .i64 m) ∧ W.cell? ⟨w.heap.size, 2, none⟩ = some (.int .i64 b) from fun W hW => by
    have h := (hW.block w.heap.size (by omega)).trans hA
    exact ⟨blk_cell h 0, blk_cell h 1, blk_cell h 2⟩)
  have HR := Lib.hid (show ∀ W, Below w2.heap.size w2 W → W.heap[w.heap.size + 1]? = some (.cells #[.slice none 0 0, .int .i64 0, .int .i64 0] 24 (0, 0)) from fun W hW => (hW.block _ (by omega)).trans hB)
  have HM := Lib.hid (show ∀ W, Below w2.heap.size w2 W → NodesIn W a cap L from fun W hW => hN.below (hb2.trans (hW.mono (by omega))))
  have HB2 := Lib.hid hb2
  have HZ := Lib.hid hz
  have HF := Lib.hid hF
  have HBW2 := Lib.hid (Below.refl w2.heap.size w2)
  clear hz hN hb2 hA hB hF
  have HBW := HBW2
  cases hqv : modeB q with
  | false =>
    have HQ := Lib.hid hqv
    have hz2 := HZ.out
    unfold mkdirW at hz2
    rw [if_pos hqv] at hz2
    simp only [Prod.mk.injEq] at hz2
    obtain ⟨rfl, rfl, rfl⟩ := hz2
    clear hqv
    go_enter Tryz.func7, Tryz.ntmps7
    obtain ⟨q0, q1, q2⟩ := HX.out _ HBW.out
    have hq := cell_lt q0
    have hRx := HR.out _ HBW.out
    have HRX := Lib.hid hRx
    have r0 := blk_cell hRx 0
    have r1 := blk_cell hRx 1
    have r2 := blk_cell hRx 2
    have s0 := blk_free hRx 0
    have s1 := blk_free hRx 1
    have s2 := blk_free hRx 2
    have hrl := lt_of_block hRx
    clear hRx
    go_wp2_with fail
    rw [← hw2]
    clear hw2
    refine (rmode5 _ _ HQ.out _).mono ?_
    rintro e w' ⟨rfl, rfl⟩
    go_wp2_with fail
    change bodyPost _ _ _ _ _ (put3 w2 (w.heap.size + 1) (.slice a L.length cap) (.int .i64 m) (.int .i64 b))
    obtain ⟨c0, c1, c2⟩ := put3_cells HRX.out (.slice a L.length cap) (.int .i64 m) (.int .i64 b)
    have hBF := put3_below (HB2.out.trans (HBW.out.mono (by omega))) (show w.heap.size ≤ w.heap.size + 1 by omega) (.slice a L.length cap) (.int .i64 m) (.int .i64 b)
    exact bodyPost_ret (v := .tuple #[.agg #[.slice a L.length cap, .int .i64 m, .int .i64 b], .int .i64 0, .int .i64 22]) (by simp [results, Tryz.results7, go_sem, c0, c1, c2]) rfl ⟨⟨_, _, rfl, nodes_put3 (HM.out _ HBW.out) HRX.out _ _ _⟩, hBF⟩
  | true =>
    have HQ := Lib.hid hqv
    have hz2 := HZ.out
    unfold mkdirW at hz2
    rw [if_neg (by rw [hqv]; decide)] at hz2
    obtain ⟨⟨z, s, fe⟩, hf⟩ : ∃ r, freshW L cwd pb.data.toList true = r := ⟨_, rfl⟩
    rw [hf] at hz2
    have HFR := Lib.hid hf
    have HZ2 := Lib.hid hz2
    clear hqv hf hz2
    obtain ⟨q0, q1, q2⟩ := HX.out _ HBW.out
    have hq := cell_lt q0
    go_enter Tryz.func7, Tryz.ntmps7
    go_wp2_with fail
    rw [← hw2]
    clear hw2
    refine (rmode5 _ _ HQ.out _).mono ?_
    rintro e w' ⟨rfl, rfl⟩
    go_wp2_with fail
    clear q0 q1 q2 hq
    refine (rfresh_any _ _ _ _ _ _ hp true L HF.out _ _ _ HFR.out _ (HM.out _ HBW.out)).mono ?_
    rintro e w3 ⟨rfl, hb3⟩
    have HB3 := Lib.hid hb3
    have hs3 := hb3.size
    clear hb3
    obtain ⟨q0, q1, q2⟩ := HX.out _ HB3.out
    have hq := cell_lt q0
    have hRx := HR.out _ HB3.out
    have HRX := Lib.hid hRx
    have r0 := blk_cell hRx 0
    have r1 := blk_cell hRx 1
    have r2 := blk_cell hRx 2
    have s0 := blk_free hRx 0
    have s1 := blk_free hRx 1
    have s2 := blk_free hRx 2
    have hrl := lt_of_block hRx
    clear hRx
    by_cases h1 : fe = 0
    · subst h1
      have hz2 := HZ2.out
      rw [if_neg (by simp)] at hz2
      obtain ⟨d, s2', hd, -, hf2, hdir, -, hn, -⟩ := fresh_ok HF.out (by rw [HFR.out])
      rw [HFR.out] at hf2
      simp only [Prod.mk.injEq, and_true] at hf2
      obtain ⟨rfl, rfl⟩ := hf2
      have HZ3 := Lib.hid hz2
      have HN := Lib.hid hn
      have hkl : L[d].kids.length ≤ 1024 := (HF.out.ins d hd).2.1
      have hdk : L[d].kind ≠ 0 := by rw [hdir]; decide
      clear hz2 hn
      go_wp2_with fail
      refine (radded_any _ _ _ _ d s 2 q 0 [] d L hd (by omega) hkl HN.out hdk L' kz er HZ3.out _ (HM.out _ HB3.out)).mono ?_
      rintro e w5 ⟨⟨a', cap', he, hN5⟩, hb5⟩
      have he' : e = .returned (.tuple #[.agg #[.slice a' L'.length cap', .int .i64 m, .int .i64 b], .int .i64 kz, .int .i64 er]) := he
      subst he'
      have HB5 := Lib.hid (HB3.out.trans (hb5.mono HB3.out.size))
      have HN5 := Lib.hid hN5
      have hs5 := hb5.size
      clear he hN5 hb5
      clear q0 q1 q2 hq HRX r0 r1 r2 s0 s1 s2 hrl
      obtain ⟨q0, q1, q2⟩ := HX.out _ HB5.out
      have hq := cell_lt q0
      have hRx := HR.out _ HB5.out
      have HRX := Lib.hid hRx
      have r0 := blk_cell hRx 0
      have r1 := blk_cell hRx 1
      have r2 := blk_cell hRx 2
      have s0 := blk_free hRx 0
      have s1 := blk_free hRx 1
      have s2 := blk_free hRx 2
      have hrl := lt_of_block hRx
      clear hRx
      go_wp2_with fail
      change bodyPost _ _ _ _ _ (put3 w5 (w.heap.size + 1) (.slice a' L'.length cap') (.int .i64 m) (.int .i64 b))
      obtain ⟨c0, c1, c2⟩ := put3_cells HRX.out (.slice a' L'.length cap') (.int .i64 m) (.int .i64 b)
      have hBF := put3_below (HB2.out.trans (HB5.out.mono (by omega))) (show w.heap.size ≤ w.heap.size + 1 by omega) (.slice a' L'.length cap') (.int .i64 m) (.int .i64 b)
      exact bodyPost_ret (v := .tuple #[.agg #[.slice a' L'.length cap', .int .i64 m, .int .i64 b], .int .i64 kz, .int .i64 er]) (by simp [results, Tryz.results7, go_sem, c0, c1, c2]) rfl ⟨⟨_, _, rfl, nodes_put3 HN5.out HRX.out _ _ _⟩, hBF⟩
    · have hb1 : (fe != 0) = true := by simpa using h1
      have hz2 := HZ2.out
      rw [if_pos (by simpa using h1)] at hz2
      simp only [Prod.mk.injEq] at hz2
      obtain ⟨rfl, rfl, rfl⟩ := hz2
      go_wp2_with fail
      change bodyPost _ _ _ _ _ (put3 w3 (w.heap.size + 1) (.slice a L.length cap) (.int .i64 m) (.int .i64 b))
      obtain ⟨c0, c1, c2⟩ := put3_cells HRX.out (.slice a L.length cap) (.int .i64 m) (.int .i64 b)
      have hBF := put3_below (HB2.out.trans (HB3.out.mono (by omega))) (show w.heap.size ≤ w.heap.size + 1 by omega) (.slice a L.length cap) (.int .i64 m) (.int .i64 b)
      exact bodyPost_ret (v := .tuple #[.agg #[.slice a L.length cap, .int .i64 m, .int .i64 b], .int .i64 0, .int .i64 fe]) (by simp [results, Tryz.results7, go_sem, c0, c1, c2]) rfl ⟨⟨_, _, rfl, nodes_put3 (HM.out _ HB3.out) HRX.out _ _ _⟩, hBF⟩

set_option maxHeartbeats 8000000 in
theorem rcreate_any (a : Option Addr) (cap : Nat) (m b cwd q : Int) (pb : ByteArray) (hp : pb.size ≤ 1073741824) (L : List Ino) (hF : FitP L m b) (L' : List Ino) (kz er : Int) (hz : createW L cwd pb.data.toList q = (L', kz, er)) (w : World) (hN : NodesIn w a cap L) :
    Calls Tryz.prog 9 #[.agg #[.slice a L.length cap, .int .i64 m, .int .i64 b], .int .i64 cwd, .string pb, .int .i64 q] w (RefAns w m b L' [.int .i64 kz, .int .i64 er]) := by
  obtain ⟨w2, hw2, hb2, hs2, hA, hB⟩ := two_boxes w #[.slice a L.length cap, .int .i64 m, .int .i64 b] #[.slice none 0 0, .int .i64 0, .int .i64 0] 24 24
  obtain ⟨l1, l2, l3, l4, l5⟩ := hF.limits
  have HX := Lib.hid (show ∀ W, Below w2.heap.size w2 W → W.cell? ⟨w.heap.size, 0, none⟩ = some (.slice a L.length cap) ∧ W.cell? ⟨w.heap.size, 1, none⟩ = some (.int .i64 m) ∧ W.cell? ⟨w.heap.size, 2, none⟩ = some (.int .i64 b) from fun W hW => by
    have h := (hW.block w.heap.size (by omega)).trans hA
    exact ⟨blk_cell h 0, blk_cell h 1, blk_cell h 2⟩)
  have HR := Lib.hid (show ∀ W, Below w2.heap.size w2 W → W.heap[w.heap.size + 1]? = some (.cells #[.slice none 0 0, .int .i64 0, .int .i64 0] 24 (0, 0)) from fun W hW => (hW.block _ (by omega)).trans hB)
  have HM := Lib.hid (show ∀ W, Below w2.heap.size w2 W → NodesIn W a cap L from fun W hW => hN.below (hb2.trans (hW.mono (by omega))))
  have HB2 := Lib.hid hb2
  have HZ := Lib.hid hz
  have HF := Lib.hid hF
  have HBW2 := Lib.hid (Below.refl w2.heap.size w2)
  clear hz hN hb2 hA hB hF
  have HBW := HBW2
  cases hqv : modeB q with
  | false =>
    have HQ := Lib.hid hqv
    have hz2 := HZ.out
    unfold createW at hz2
    rw [if_pos hqv] at hz2
    simp only [Prod.mk.injEq] at hz2
    obtain ⟨rfl, rfl, rfl⟩ := hz2
    clear hqv
    go_enter Tryz.func9, Tryz.ntmps9
    obtain ⟨q0, q1, q2⟩ := HX.out _ HBW.out
    have hq := cell_lt q0
    have hRx := HR.out _ HBW.out
    have HRX := Lib.hid hRx
    have r0 := blk_cell hRx 0
    have r1 := blk_cell hRx 1
    have r2 := blk_cell hRx 2
    have s0 := blk_free hRx 0
    have s1 := blk_free hRx 1
    have s2 := blk_free hRx 2
    have hrl := lt_of_block hRx
    clear hRx
    go_wp2_with fail
    rw [← hw2]
    clear hw2
    refine (rmode5 _ _ HQ.out _).mono ?_
    rintro e w' ⟨rfl, rfl⟩
    go_wp2_with fail
    change bodyPost _ _ _ _ _ (put3 w2 (w.heap.size + 1) (.slice a L.length cap) (.int .i64 m) (.int .i64 b))
    obtain ⟨c0, c1, c2⟩ := put3_cells HRX.out (.slice a L.length cap) (.int .i64 m) (.int .i64 b)
    have hBF := put3_below (HB2.out.trans (HBW.out.mono (by omega))) (show w.heap.size ≤ w.heap.size + 1 by omega) (.slice a L.length cap) (.int .i64 m) (.int .i64 b)
    exact bodyPost_ret (v := .tuple #[.agg #[.slice a L.length cap, .int .i64 m, .int .i64 b], .int .i64 0, .int .i64 22]) (by simp [results, Tryz.results9, go_sem, c0, c1, c2]) rfl ⟨⟨_, _, rfl, nodes_put3 (HM.out _ HBW.out) HRX.out _ _ _⟩, hBF⟩
  | true =>
    have HQ := Lib.hid hqv
    have hz2 := HZ.out
    unfold createW at hz2
    rw [if_neg (by rw [hqv]; decide)] at hz2
    obtain ⟨⟨z, s, fe⟩, hf⟩ : ∃ r, freshW L cwd pb.data.toList false = r := ⟨_, rfl⟩
    rw [hf] at hz2
    have HFR := Lib.hid hf
    have HZ2 := Lib.hid hz2
    clear hqv hf hz2
    obtain ⟨q0, q1, q2⟩ := HX.out _ HBW.out
    have hq := cell_lt q0
    go_enter Tryz.func9, Tryz.ntmps9
    go_wp2_with fail
    rw [← hw2]
    clear hw2
    refine (rmode5 _ _ HQ.out _).mono ?_
    rintro e w' ⟨rfl, rfl⟩
    go_wp2_with fail
    clear q0 q1 q2 hq
    refine (rfresh_any _ _ _ _ _ _ hp false L HF.out _ _ _ HFR.out _ (HM.out _ HBW.out)).mono ?_
    rintro e w3 ⟨rfl, hb3⟩
    have HB3 := Lib.hid hb3
    have hs3 := hb3.size
    clear hb3
    obtain ⟨q0, q1, q2⟩ := HX.out _ HB3.out
    have hq := cell_lt q0
    have hRx := HR.out _ HB3.out
    have HRX := Lib.hid hRx
    have r0 := blk_cell hRx 0
    have r1 := blk_cell hRx 1
    have r2 := blk_cell hRx 2
    have s0 := blk_free hRx 0
    have s1 := blk_free hRx 1
    have s2 := blk_free hRx 2
    have hrl := lt_of_block hRx
    clear hRx
    by_cases h1 : fe = 0
    · subst h1
      have hz2 := HZ2.out
      rw [if_neg (by simp)] at hz2
      obtain ⟨d, s2', hd, -, hf2, hdir, -, hn, -⟩ := fresh_ok HF.out (by rw [HFR.out])
      rw [HFR.out] at hf2
      simp only [Prod.mk.injEq, and_true] at hf2
      obtain ⟨rfl, rfl⟩ := hf2
      have HZ3 := Lib.hid hz2
      have HN := Lib.hid hn
      have hkl : L[d].kids.length ≤ 1024 := (HF.out.ins d hd).2.1
      have hdk : L[d].kind ≠ 0 := by rw [hdir]; decide
      clear hz2 hn
      go_wp2_with fail
      refine (radded_any _ _ _ _ d s 1 q 0 [] 0 L hd (by omega) hkl HN.out hdk L' kz er HZ3.out _ (HM.out _ HB3.out)).mono ?_
      rintro e w5 ⟨⟨a', cap', he, hN5⟩, hb5⟩
      have he' : e = .returned (.tuple #[.agg #[.slice a' L'.length cap', .int .i64 m, .int .i64 b], .int .i64 kz, .int .i64 er]) := he
      subst he'
      have HB5 := Lib.hid (HB3.out.trans (hb5.mono HB3.out.size))
      have HN5 := Lib.hid hN5
      have hs5 := hb5.size
      clear he hN5 hb5
      clear q0 q1 q2 hq HRX r0 r1 r2 s0 s1 s2 hrl
      obtain ⟨q0, q1, q2⟩ := HX.out _ HB5.out
      have hq := cell_lt q0
      have hRx := HR.out _ HB5.out
      have HRX := Lib.hid hRx
      have r0 := blk_cell hRx 0
      have r1 := blk_cell hRx 1
      have r2 := blk_cell hRx 2
      have s0 := blk_free hRx 0
      have s1 := blk_free hRx 1
      have s2 := blk_free hRx 2
      have hrl := lt_of_block hRx
      clear hRx
      go_wp2_with fail
      change bodyPost _ _ _ _ _ (put3 w5 (w.heap.size + 1) (.slice a' L'.length cap') (.int .i64 m) (.int .i64 b))
      obtain ⟨c0, c1, c2⟩ := put3_cells HRX.out (.slice a' L'.length cap') (.int .i64 m) (.int .i64 b)
      have hBF := put3_below (HB2.out.trans (HB5.out.mono (by omega))) (show w.heap.size ≤ w.heap.size + 1 by omega) (.slice a' L'.length cap') (.int .i64 m) (.int .i64 b)
      exact bodyPost_ret (v := .tuple #[.agg #[.slice a' L'.length cap', .int .i64 m, .int .i64 b], .int .i64 kz, .int .i64 er]) (by simp [results, Tryz.results9, go_sem, c0, c1, c2]) rfl ⟨⟨_, _, rfl, nodes_put3 HN5.out HRX.out _ _ _⟩, hBF⟩
    · have hb1 : (fe != 0) = true := by simpa using h1
      have hz2 := HZ2.out
      rw [if_pos (by simpa using h1)] at hz2
      simp only [Prod.mk.injEq] at hz2
      obtain ⟨rfl, rfl, rfl⟩ := hz2
      go_wp2_with fail
      change bodyPost _ _ _ _ _ (put3 w3 (w.heap.size + 1) (.slice a L.length cap) (.int .i64 m) (.int .i64 b))
      obtain ⟨c0, c1, c2⟩ := put3_cells HRX.out (.slice a L.length cap) (.int .i64 m) (.int .i64 b)
      have hBF := put3_below (HB2.out.trans (HB3.out.mono (by omega))) (show w.heap.size ≤ w.heap.size + 1 by omega) (.slice a L.length cap) (.int .i64 m) (.int .i64 b)
      exact bodyPost_ret (v := .tuple #[.agg #[.slice a L.length cap, .int .i64 m, .int .i64 b], .int .i64 0, .int .i64 fe]) (by simp [results, Tryz.results9, go_sem, c0, c1, c2]) rfl ⟨⟨_, _, rfl, nodes_put3 (HM.out _ HB3.out) HRX.out _ _ _⟩, hBF⟩

end Go.Proofs.YtfmaagcomplooaaGreat

namespace Go.Proofs.YtfmaagcomplooaaGreat
set_option maxRecDepth 100000
open Go Go.RowKit

def ZeroRel (tb : ByteArray) (w2 : World) (iv : Value) (wr : World) : Prop :=
  ∃ k : Nat, k ≤ tb.size ∧ iv = .int .i64 k ∧ Below w2.heap.size w2 wr ∧ ∀ j (h : j < tb.size), j < k → tb[j] ≠ 0

theorem any_yes (tb : ByteArray) (k : Nat) (h : k < tb.size) (h0 : tb[k] = 0) : tb.data.toList.any (fun c => c == 0) = true := by
  rw [List.any_eq_true]
  exact ⟨_, List.getElem_mem (by rw [size_list]; exact h), by rw [at_list tb k h, h0]; rfl⟩
theorem any_no (tb : ByteArray) (h : ∀ j (h : j < tb.size), tb[j] ≠ 0) : tb.data.toList.any (fun c => c == 0) = false := by
  rw [List.any_eq_false]
  intro x hx
  obtain ⟨j, hj, rfl⟩ := List.getElem_of_mem hx
  rw [size_list] at hj
  have := h j hj
  rw [at_list tb j hj]
  simpa using this

set_option maxHeartbeats 8000000 in
theorem rsymlink_any (a : Option Addr) (cap : Nat) (m b cwd : Int) (tb pb : ByteArray) (ht : tb.size ≤ 1073741824) (hp : pb.size ≤ 1073741824) (L : List Ino) (hF : FitP L m b) (L' : List Ino) (kz er : Int) (hz : symlinkW L b cwd tb.data.toList pb.data.toList = (L', kz, er)) (w : World) (hN : NodesIn w a cap L) :
    Calls Tryz.prog 12 #[.agg #[.slice a L.length cap, .int .i64 m, .int .i64 b], .int .i64 cwd, .string tb, .string pb] w (RefAns w m b L' [.int .i64 kz, .int .i64 er]) := by
  obtain ⟨w2, hw2, hb2, hs2, hA, hB⟩ := two_boxes w #[.slice a L.length cap, .int .i64 m, .int .i64 b] #[.slice none 0 0, .int .i64 0, .int .i64 0] 24 24
  obtain ⟨l1, l2, l3, l4, l5⟩ := hF.limits
  have HX := Lib.hid (show ∀ W, Below w2.heap.size w2 W → W.cell? ⟨w.heap.size, 0, none⟩ = some (.slice a L.length cap) ∧ W.cell? ⟨w.heap.size, 1, none⟩ = some (.int .i64 m) ∧ W.cell? ⟨w.heap.size, 2, none⟩ = some (.int .i64 b) from fun W hW => by
    have h := (hW.block w.heap.size (by omega)).trans hA
    exact ⟨blk_cell h 0, blk_cell h 1, blk_cell h 2⟩)
  have HR := Lib.hid (show ∀ W, Below w2.heap.size w2 W → W.heap[w.heap.size + 1]? = some (.cells #[.slice none 0 0, .int .i64 0, .int .i64 0] 24 (0, 0)) from fun W hW => (hW.block _ (by omega)).trans hB)
  have HM := Lib.hid (show ∀ W, Below w2.heap.size w2 W → NodesIn W a cap L from fun W hW => hN.below (hb2.trans (hW.mono (by omega))))
  have HN0 := Lib.hid hN
  have HB2 := Lib.hid hb2
  have HZ := Lib.hid hz
  have HF := Lib.hid hF
  have HBW2 := Lib.hid (Below.refl w2.heap.size w2)
  clear hz hN hb2 hA hB hF
  cases he : tb.toList.isEmpty with
  | true =>
    have hz2 := HZ.out
    unfold symlinkW at hz2
    rw [if_pos (Or.inl (by rw [ByteArray.toList_eq] at he; simpa using he))] at hz2
    simp only [Prod.mk.injEq] at hz2
    obtain ⟨rfl, rfl, rfl⟩ := hz2
    clear hw2
    go_enter Tryz.func12, Tryz.ntmps12
    go_wp2_with fail
    obtain ⟨w6, hw6, hb6, hs6, hA6, hB6⟩ := two_boxes w #[.slice a L.length cap, .int .i64 m, .int .i64 b] #[.slice a L.length cap, .int .i64 m, .int .i64 b] 24 24
    rw [← hw6]
    have c0 := blk_cell hB6 0
    have c1 := blk_cell hB6 1
    have c2 := blk_cell hB6 2
    exact bodyPost_ret (v := .tuple #[.agg #[.slice a L.length cap, .int .i64 m, .int .i64 b], .int .i64 0, .int .i64 22]) (by simp [results, Tryz.results12, go_sem, c0, c1, c2]) rfl ⟨⟨_, _, rfl, HN0.out.below hb6⟩, hb6⟩
  | false =>
    have hne : tb.data.toList ≠ [] := fun e => by rw [ByteArray.toList_eq, e] at he; simp at he
    have HNE := Lib.hid hne
    clear hne
    go_enter Tryz.func12, Tryz.ntmps12
    go_wp2_with fail
    rw [← hw2]
    clear hw2
    go_loopw [11] (fun iv wr => ZeroRel tb w2 iv wr) (fun iv _ => tb.size - (intOf iv).toNat)
    case atStart => exact ⟨0, by omega, rfl, Below.refl _ _, fun j h h2 => by omega⟩
    case round =>
      obtain ⟨k, hk, rfl, hbr, hnz⟩ := hrel
      have HBR := Lib.hid hbr
      have HNZ := Lib.hid hnz
      have hszr := hbr.size
      clear hbr hnz
      obtain ⟨q0, q1, q2⟩ := HX.out _ HBR.out
      have hq := cell_lt q0
      have hRx := HR.out _ HBR.out
      have HRX := Lib.hid hRx
      have r0 := blk_cell hRx 0
      have r1 := blk_cell hRx 1
      have r2 := blk_cell hRx 2
      have s0 := blk_free hRx 0
      have s1 := blk_free hRx 1
      have s2 := blk_free hRx 2
      have hrl := lt_of_block hRx
      clear hRx
      by_cases hlt : k < tb.size
      · have hk0 : (0 : Int) ≤ (k : Int) := by omega
        have hk1 : (k : Int) < (tb.size : Int) := by omega
        cases hc : ((tb[k].toNat : Int) == 0) with
        | true =>
          have h0 : tb[k] = 0 := UInt8.toNat_inj.1 (by have := beq_iff_eq.1 hc; show tb[k].toNat = 0; omega)
          have hz2 := HZ.out
          unfold symlinkW at hz2
          rw [if_pos (Or.inr (any_yes tb k hlt h0))] at hz2
          simp only [Prod.mk.injEq] at hz2
          obtain ⟨rfl, rfl, rfl⟩ := hz2
          go_wp2_with fail
          change bodyPost _ _ _ _ _ (put3 wr (w.heap.size + 1) (.slice a L.length cap) (.int .i64 m) (.int .i64 b))
          obtain ⟨c0, c1, c2⟩ := put3_cells HRX.out (.slice a L.length cap) (.int .i64 m) (.int .i64 b)
          have hBF := put3_below (HB2.out.trans (HBR.out.mono (by omega))) (show w.heap.size ≤ w.heap.size + 1 by omega) (.slice a L.length cap) (.int .i64 m) (.int .i64 b)
          exact bodyPost_ret (v := .tuple #[.agg #[.slice a L.length cap, .int .i64 m, .int .i64 b], .int .i64 0, .int .i64 22]) (by simp [results, Tryz.results12, go_sem, c0, c1, c2]) rfl ⟨⟨_, _, rfl, nodes_put3 (HM.out _ HBR.out) HRX.out _ _ _⟩, hBF⟩
        | false =>
          have hnx := Lib.hid (show ∀ j (h : j < tb.size), j < k + 1 → tb[j] ≠ 0 from fun j h h2 e => by
            by_cases hjk : j = k
            · subst hjk
              rw [e] at hc
              simp at hc
            · exact HNZ.out j h (by omega) e)
          clear q0 q1 q2 hq HRX r0 r1 r2 s0 s1 s2 hrl
          go_wp2_with fail
          go_roundw
          case rel => exact ⟨k + 1, by omega, by go_num, HBR.out, hnx.out⟩
          case measure => simp [intOf] <;> omega
      · obtain rfl : k = tb.size := by omega
        have hz2 := HZ.out
        unfold symlinkW at hz2
        rw [if_neg (by
          rintro (h | h)
          · exact HNE.out h
          · rw [any_no tb (fun j hj => HNZ.out j hj hj)] at h
            cases h), size_list] at hz2
        have HZ2 := Lib.hid hz2
        clear hz2
        by_cases hlong : 1024 < tb.size
        · have hlz : (1024 : Int) < (tb.size : Int) := by omega
          have hz2 := HZ2.out
          rw [if_pos hlong] at hz2
          simp only [Prod.mk.injEq] at hz2
          obtain ⟨rfl, rfl, rfl⟩ := hz2
          go_wp2_with fail
          change bodyPost _ _ _ _ _ (put3 wr (w.heap.size + 1) (.slice a L.length cap) (.int .i64 m) (.int .i64 b))
          obtain ⟨c0, c1, c2⟩ := put3_cells HRX.out (.slice a L.length cap) (.int .i64 m) (.int .i64 b)
          have hBF := put3_below (HB2.out.trans (HBR.out.mono (by omega))) (show w.heap.size ≤ w.heap.size + 1 by omega) (.slice a L.length cap) (.int .i64 m) (.int .i64 b)
          exact bodyPost_ret (v := .tuple #[.agg #[.slice a L.length cap, .int .i64 m, .int .i64 b], .int .i64 0, .int .i64 36]) (by simp [results, Tryz.results12, go_sem, c0, c1, c2]) rfl ⟨⟨_, _, rfl, nodes_put3 (HM.out _ HBR.out) HRX.out _ _ _⟩, hBF⟩
        have hlz : ¬ (1024 : Int) < (tb.size : Int) := by omega
        obtain ⟨⟨z, s, fe⟩, hf⟩ : ∃ r, freshW L cwd pb.data.toList false = r := ⟨_, rfl⟩
        have hz2 := HZ2.out
        rw [if_neg hlong, hf] at hz2
        have HFR := Lib.hid hf
        have HZ3 := Lib.hid hz2
        clear hf hz2
        go_wp2_with fail
        clear q0 q1 q2 hq HRX r0 r1 r2 s0 s1 s2 hrl
        refine (rfresh_any _ _ _ _ _ _ hp false L HF.out _ _ _ HFR.out _ (HM.out _ HBR.out)).mono ?_
        rintro e w3 ⟨rfl, hb3⟩
        have HB3 := Lib.hid (HBR.out.trans (hb3.mono hszr))
        have hs3 := hb3.size
        clear hb3
        obtain ⟨q0, q1, q2⟩ := HX.out _ HB3.out
        have hq := cell_lt q0
        have hRx := HR.out _ HB3.out
        have HRX := Lib.hid hRx
        have r0 := blk_cell hRx 0
        have r1 := blk_cell hRx 1
        have r2 := blk_cell hRx 2
        have s0 := blk_free hRx 0
        have s1 := blk_free hRx 1
        have s2 := blk_free hRx 2
        have hrl := lt_of_block hRx
        clear hRx
        by_cases h1 : fe = 0
        · subst h1
          have hz2 := HZ3.out
          rw [if_neg (by simp)] at hz2
          obtain ⟨d, s2', hd, -, hf2, hdir, -, hn, -⟩ := fresh_ok HF.out (by rw [HFR.out])
          rw [HFR.out] at hf2
          simp only [Prod.mk.injEq, and_true] at hf2
          obtain ⟨rfl, rfl⟩ := hf2
          have HZ4 := Lib.hid hz2
          have HN := Lib.hid hn
          have hkl : L[d].kids.length ≤ 1024 := (HF.out.ins d hd).2.1
          have hdk : L[d].kind ≠ 0 := by rw [hdir]; decide
          clear hz2 hn
          go_wp2_with fail
          clear q0 q1 q2 hq HRX r0 r1 r2 s0 s1 s2 hrl
          refine (rused_any _ _ _ _ L (by omega) (by omega) _ (HM.out _ HB3.out)).mono ?_
          rintro e w4 ⟨rfl, hb4⟩
          have HB4 := Lib.hid (HB3.out.trans (hb4.mono HB3.out.size))
          have hs4 := hb4.size
          clear hb4
          obtain ⟨ub, hub⟩ : ∃ x, x = usedB L := ⟨_, rfl⟩
          have hwr : IntKind.i64.wrap ((ub : Int) + (tb.size : Int)) = (ub : Int) + (tb.size : Int) := by rw [IntWalk.i64_in _ ⟨by omega, by omega⟩]
          have hz2 := HZ4.out
          rw [← hub] at hz2 ⊢
          obtain ⟨q0, q1, q2⟩ := HX.out _ HB4.out
          have hq := cell_lt q0
          have hRx := HR.out _ HB4.out
          have HRX := Lib.hid hRx
          have r0 := blk_cell hRx 0
          have r1 := blk_cell hRx 1
          have r2 := blk_cell hRx 2
          have s0 := blk_free hRx 0
          have s1 := blk_free hRx 1
          have s2 := blk_free hRx 2
          have hrl := lt_of_block hRx
          clear hRx
          by_cases hfull : b < (ub : Int) + (tb.size : Int)
          · rw [if_pos hfull] at hz2
            simp only [Prod.mk.injEq] at hz2
            obtain ⟨rfl, rfl, rfl⟩ := hz2
            go_wp2_with fail
            change bodyPost _ _ _ _ _ (put3 w4 (w.heap.size + 1) (.slice a L.length cap) (.int .i64 m) (.int .i64 b))
            obtain ⟨c0, c1, c2⟩ := put3_cells HRX.out (.slice a L.length cap) (.int .i64 m) (.int .i64 b)
            have hBF := put3_below (HB2.out.trans (HB4.out.mono (by omega))) (show w.heap.size ≤ w.heap.size + 1 by omega) (.slice a L.length cap) (.int .i64 m) (.int .i64 b)
            exact bodyPost_ret (v := .tuple #[.agg #[.slice a L.length cap, .int .i64 m, .int .i64 b], .int .i64 0, .int .i64 28]) (by simp [results, Tryz.results12, go_sem, c0, c1, c2]) rfl ⟨⟨_, _, rfl, nodes_put3 (HM.out _ HB4.out) HRX.out _ _ _⟩, hBF⟩
          rw [if_neg hfull] at hz2
          have HZ5 := Lib.hid hz2
          clear hz2
          go_wp2_with fail
          obtain ⟨to, rfl⟩ : ∃ to : List UInt8, tb = ⟨to.toArray⟩ := ⟨tb.data.toList, rfl⟩
          have hz5 : addedW L (d : Int) s ⟨3, 7, 0, to, [], 0⟩ = (L', kz, er) := by
            have h := HZ5.out
            unfold newIno at h
            simpa using h
          refine (radded_any _ _ _ _ d s 3 7 0 to 0 L hd (by omega) hkl HN.out hdk L' kz er hz5 _ (HM.out _ HB4.out)).mono ?_
          rintro e w5 ⟨⟨a', cap', he, hN5⟩, hb5⟩
          have he' : e = .returned (.tuple #[.agg #[.slice a' L'.length cap', .int .i64 m, .int .i64 b], .int .i64 kz, .int .i64 er]) := he
          subst he'
          have HB5 := Lib.hid (HB4.out.trans (hb5.mono HB4.out.size))
          have HN5 := Lib.hid hN5
          have hs5 := hb5.size
          clear he hN5 hb5
          clear q0 q1 q2 hq HRX r0 r1 r2 s0 s1 s2 hrl
          obtain ⟨q0, q1, q2⟩ := HX.out _ HB5.out
          have hq := cell_lt q0
          have hRx := HR.out _ HB5.out
          have HRX := Lib.hid hRx
          have r0 := blk_cell hRx 0
          have r1 := blk_cell hRx 1
          have r2 := blk_cell hRx 2
          have s0 := blk_free hRx 0
          have s1 := blk_free hRx 1
          have s2 := blk_free hRx 2
          have hrl := lt_of_block hRx
          clear hRx
          go_wp2_with fail
          change bodyPost _ _ _ _ _ (put3 w5 (w.heap.size + 1) (.slice a' L'.length cap') (.int .i64 m) (.int .i64 b))
          obtain ⟨c0, c1, c2⟩ := put3_cells HRX.out (.slice a' L'.length cap') (.int .i64 m) (.int .i64 b)
          have hBF := put3_below (HB2.out.trans (HB5.out.mono (by omega))) (show w.heap.size ≤ w.heap.size + 1 by omega) (.slice a' L'.length cap') (.int .i64 m) (.int .i64 b)
          exact bodyPost_ret (v := .tuple #[.agg #[.slice a' L'.length cap', .int .i64 m, .int .i64 b], .int .i64 kz, .int .i64 er]) (by simp [results, Tryz.results12, go_sem, c0, c1, c2]) rfl ⟨⟨_, _, rfl, nodes_put3 HN5.out HRX.out _ _ _⟩, hBF⟩
        · have hb1 : (fe != 0) = true := by simpa using h1
          have hz2 := HZ3.out
          rw [if_pos (by simpa using h1)] at hz2
          simp only [Prod.mk.injEq] at hz2
          obtain ⟨rfl, rfl, rfl⟩ := hz2
          go_wp2_with fail
          change bodyPost _ _ _ _ _ (put3 w3 (w.heap.size + 1) (.slice a L.length cap) (.int .i64 m) (.int .i64 b))
          obtain ⟨c0, c1, c2⟩ := put3_cells HRX.out (.slice a L.length cap) (.int .i64 m) (.int .i64 b)
          have hBF := put3_below (HB2.out.trans (HB3.out.mono (by omega))) (show w.heap.size ≤ w.heap.size + 1 by omega) (.slice a L.length cap) (.int .i64 m) (.int .i64 b)
          exact bodyPost_ret (v := .tuple #[.agg #[.slice a L.length cap, .int .i64 m, .int .i64 b], .int .i64 0, .int .i64 fe]) (by simp [results, Tryz.results12, go_sem, c0, c1, c2]) rfl ⟨⟨_, _, rfl, nodes_put3 (HM.out _ HB3.out) HRX.out _ _ _⟩, hBF⟩
end Go.Proofs.YtfmaagcomplooaaGreat

namespace Go.Proofs.YtfmaagcomplooaaGreat
set_option maxRecDepth 100000
open Go Go.RowKit

theorem used_one : ∀ (L : List Ino) (k : Nat) (h : k < L.length), L[k].data.length ≤ usedB L
  | x :: r, 0, _ => by show x.data.length ≤ x.data.length + usedB r; omega
  | x :: r, k + 1, h => by
    have := used_one r k (Nat.lt_of_succ_lt_succ h)
    show (r[k]'(Nat.lt_of_succ_lt_succ h)).data.length ≤ x.data.length + usedB r
    omega
/-- A fit tree's texts are short. -/
theorem sized_fit {L : List Ino} {m b : Int} (hF : FitP L m b) : Sized L := fun k hk => by
  obtain ⟨l1, l2, l3, l4, l5⟩ := hF.limits
  have h1 := used_one L k hk
  refine ⟨by omega, fun e he => ?_⟩
  have := (name_parts (name_of hF.ins hk he).1).2.2.2.1
  omega
end Go.Proofs.YtfmaagcomplooaaGreat

namespace Go.Proofs.YtfmaagcomplooaaGreat
set_option maxRecDepth 100000
open Go Go.RowKit

/-- What a new name of a new inode is. -/
structure MadeOk (L : List Ino) (m b : Int) (cwd : Int) (p : List UInt8) (x : Ino) (L' : List Ino) (k : Int) : Prop where
  made : ∃ (d : Nat) (s : List UInt8) (j : Nat), k = (j : Int) ∧ parentW L cwd p = ((d : Int), s, 0) ∧ L' = addL L d j s { x with links := 1 } ∧ (∃ h : j < L.length, L[j].kind = 0) ∧ Adds L m b d j s { x with links := 1 } ∧ j ≠ 0
theorem root_used {L : List Ino} {m b : Int} (hF : FitP L m b) (h : 0 < L.length) : L[0].kind = 2 := (dir_nat (n := 0) h).1 hF.root
theorem added_ok {L : List Ino} {m b : Int} (hF : FitP L m b) {cwd : Int} {p : List UInt8} {dirs : Bool} (h : (freshW L cwd p dirs).2.2 = 0) {x : Ino} (ha : aloneB { x with links := 1 } = true) (h0 : x.kind ≠ 0) (hkids : x.kids = []) (hup : x.kind = 2 → x.up = (freshW L cwd p dirs).1) (hub : (usedB L : Int) + x.data.length ≤ b)
    {L' : List Ino} {k e : Int} (hz : addedW L (freshW L cwd p dirs).1 (freshW L cwd p dirs).2.1 x = (L', k, e)) : (e = 0 → MadeOk L m b cwd p x L' k) ∧ (e ≠ 0 → L' = L ∧ k = 0) := by
  obtain ⟨d, s, hd, hp, hf, hdir, hs, hn, -⟩ := fresh_ok hF h
  rw [hf] at hz hup
  unfold addedW at hz
  split at hz
  · cases hz
    exact ⟨(fun h => by cases h), fun _ => ⟨rfl, rfl⟩⟩
  · rename_i hroom
    have hroom' : L[d].kids.length < 1024 := by
      have h1 : ¬ 1024 ≤ (nodeAt L (d : Int)).kids.length := hroom
      rw [node_nat L d hd] at h1
      omega
    split at hz
    · cases hz
      exact ⟨(fun h => by cases h), fun _ => ⟨rfl, rfl⟩⟩
    · rename_i j hj
      obtain ⟨hjl, hj0, hA⟩ := added_adds hF hd hdir hs hn hj hroom' ha h0 hkids hup hub
      cases hz
      refine ⟨fun _ => ⟨d, s, j, rfl, hp, by rw [Int.toNat_natCast], ⟨hjl, hj0⟩, hA, fun e => ?_⟩, fun h => absurd rfl h⟩
      subst e
      rw [root_used hF hjl] at hj0
      cases hj0
theorem fresh_or {L : List Ino} {cwd : Int} {p : List UInt8} {dirs : Bool} {A B : List Ino × Int × Int} {z : List Ino × Int × Int} (h : (if (freshW L cwd p dirs).2.2 ≠ 0 then A else B) = z) : ((freshW L cwd p dirs).2.2 ≠ 0 ∧ A = z) ∨ ((freshW L cwd p dirs).2.2 = 0 ∧ B = z) := by
  by_cases h0 : (freshW L cwd p dirs).2.2 = 0
  · rw [if_neg (by simp [h0])] at h
    exact Or.inr ⟨h0, h⟩
  · rw [if_pos h0] at h
    exact Or.inl ⟨h0, h⟩
theorem mkdir_made {L : List Ino} {m b : Int} (hF : FitP L m b) {cwd : Int} {p : List UInt8} {q : Int} {L' : List Ino} {k e : Int} (hz : mkdirW L cwd p q = (L', k, e)) : (e = 0 → modeB q = true ∧ ∃ u, MadeOk L m b cwd p (newIno 2 q [] u) L' k) ∧ (e ≠ 0 → L' = L ∧ k = 0) := by
  obtain ⟨-, -, -, l4, -⟩ := hF.limits
  unfold mkdirW at hz
  split at hz
  · cases hz
    exact ⟨(fun h => by cases h), fun _ => ⟨rfl, rfl⟩⟩
  · rename_i hq
    have hq' : modeB q = true := by simpa using hq
    rcases fresh_or hz with ⟨h1, h2⟩ | ⟨h1, h2⟩
    · cases h2
      exact ⟨fun h => absurd h h1, fun _ => ⟨rfl, rfl⟩⟩
    · have := added_ok hF h1 (x := newIno 2 q [] (freshW L cwd p true).1) (alone_dir q _ hq') (by show (2 : Int) ≠ 0; decide) rfl (fun _ => rfl) (by show (usedB L : Int) + (0 : Nat) ≤ b; omega) h2
      exact ⟨fun h => ⟨hq', _, this.1 h⟩, this.2⟩
theorem create_made {L : List Ino} {m b : Int} (hF : FitP L m b) {cwd : Int} {p : List UInt8} {q : Int} {L' : List Ino} {k e : Int} (hz : createW L cwd p q = (L', k, e)) : (e = 0 → modeB q = true ∧ MadeOk L m b cwd p (newIno 1 q [] 0) L' k) ∧ (e ≠ 0 → L' = L ∧ k = 0) := by
  obtain ⟨-, -, -, l4, -⟩ := hF.limits
  unfold createW at hz
  split at hz
  · cases hz
    exact ⟨(fun h => by cases h), fun _ => ⟨rfl, rfl⟩⟩
  · rename_i hq
    have hq' : modeB q = true := by simpa using hq
    rcases fresh_or hz with ⟨h1, h2⟩ | ⟨h1, h2⟩
    · cases h2
      exact ⟨fun h => absurd h h1, fun _ => ⟨rfl, rfl⟩⟩
    · have := added_ok hF h1 (x := newIno 1 q [] 0) (alone_file q hq') (by show (1 : Int) ≠ 0; decide) rfl (fun h => by cases h) (by show (usedB L : Int) + (0 : Nat) ≤ b; omega) h2
      exact ⟨fun h => ⟨hq', this.1 h⟩, this.2⟩
theorem symlink_made {L : List Ino} {m b : Int} (hF : FitP L m b) {cwd : Int} {to p : List UInt8} {L' : List Ino} {k e : Int} (hz : symlinkW L b cwd to p = (L', k, e)) : (e = 0 → MadeOk L m b cwd p (newIno 3 7 to 0) L' k) ∧ (e ≠ 0 → L' = L ∧ k = 0) := by
  unfold symlinkW at hz
  split at hz
  · cases hz
    exact ⟨(fun h => by cases h), fun _ => ⟨rfl, rfl⟩⟩
  · rename_i h1
    split at hz
    · cases hz
      exact ⟨(fun h => by cases h), fun _ => ⟨rfl, rfl⟩⟩
    · rename_i h2
      rcases fresh_or hz with ⟨h3, h4⟩ | ⟨h3, h4⟩
      · cases h4
        exact ⟨fun h => absurd h h3, fun _ => ⟨rfl, rfl⟩⟩
      · split at h4
        · cases h4
          exact ⟨(fun h => by cases h), fun _ => ⟨rfl, rfl⟩⟩
        · rename_i h5
          exact added_ok hF h3 (x := newIno 3 7 to 0) (alone_link to (fun e => h1 (Or.inl e)) (by cases h : to.any (fun c => c == 0) with | false => rfl | true => exact absurd (Or.inr h) h1) (by omega)) (by show (3 : Int) ≠ 0; decide) rfl (fun h => by cases h) (by show (usedB L : Int) + to.length ≤ b; omega) h4
theorem MadeOk.fits {L : List Ino} {m b : Int} {cwd : Int} {p : List UInt8} {x : Ino} {L' : List Ino} {k : Int} (h : MadeOk L m b cwd p x L' k) : FitP L' m b := by
  obtain ⟨d, s, j, -, -, rfl, -, hA, -⟩ := h.made
  exact hA.fits
theorem link_made {L : List Ino} {m b : Int} (hF : FitP L m b) {cwd : Int} {old p : List UInt8} {L' : List Ino} {e : Int} (hz : linkW L cwd old p = (L', e)) :
    (e = 0 → ∃ (d : Nat) (s : List UInt8) (k : Nat) (hk : k < L.length), walkW L cwd old false = ((k : Int), 0) ∧ parentW L cwd p = ((d : Int), s, 0) ∧ L' = addL L d k s { L[k] with links := L[k].links + 1 } ∧ Adds L m b d k s { L[k] with links := L[k].links + 1 }) ∧ (e ≠ 0 → L' = L) := by
  unfold linkW at hz
  split at hz
  · rename_i h1
    cases hz
    exact ⟨fun h => absurd h h1, fun _ => rfl⟩
  · rename_i h1
    have h1' : (walkW L cwd old false).2 = 0 := by simpa using h1
    obtain ⟨k, hk, hwk, hk0⟩ := live_ino (walk_live hF h1')
    split at hz
    · cases hz
      exact ⟨(fun h => by cases h), fun _ => rfl⟩
    · rename_i h2
      rw [hwk, node_nat L k hk] at h2
      split at hz
      · rename_i h3
        cases hz
        exact ⟨fun h => absurd h h3, fun _ => rfl⟩
      · rename_i h3
        have h3' : (freshW L cwd p false).2.2 = 0 := by simpa using h3
        obtain ⟨d, s, hd, hp, hf, hdir, hs, hn, -⟩ := fresh_ok hF h3'
        rw [hf, hwk, node_nat L k hk] at hz
        split at hz
        · cases hz
          exact ⟨(fun h => by cases h), fun _ => rfl⟩
        · rename_i h4
          have hroom : L[d].kids.length < 1024 := by
            have h5 : ¬ 1024 ≤ (nodeAt L (d : Int)).kids.length := h4
            rw [node_nat L d hd] at h5
            omega
          cases hz
          refine ⟨fun _ => ⟨d, s, k, hk, Prod.ext hwk h1', hp, by rw [Int.toNat_natCast, Int.toNat_natCast], link_adds hF hd hdir hs hn hroom hk hk0 h2⟩, fun h => absurd rfl h⟩
theorem chmod_made {L : List Ino} {m b : Int} (hF : FitP L m b) {cwd : Int} {p : List UInt8} {q : Int} {L' : List Ino} {e : Int} (hz : chmodW L cwd p q = (L', e)) :
    (e = 0 → ∃ (k : Nat) (hk : k < L.length), walkW L cwd p true = ((k : Int), 0) ∧ L' = L.set k { L[k] with mode := q } ∧ Puts L m b k { L[k] with mode := q }) ∧ (e ≠ 0 → L' = L) := by
  unfold chmodW at hz
  split at hz
  · cases hz
    exact ⟨(fun h => by cases h), fun _ => rfl⟩
  · rename_i hq
    have hq' : modeB q = true := by simpa using hq
    split at hz
    · rename_i h1
      cases hz
      exact ⟨fun h => absurd h h1, fun _ => rfl⟩
    · rename_i h1
      have h1' : (walkW L cwd p true).2 = 0 := by simpa using h1
      obtain ⟨k, hk, hwk, hk0⟩ := live_ino (walk_live hF h1')
      rw [hwk, node_nat L k hk] at hz
      cases hz
      refine ⟨fun _ => ⟨k, hk, Prod.ext hwk h1', by rw [Int.toNat_natCast], mode_puts hF hk hk0 hq'⟩, fun h => absurd rfl h⟩
end Go.Proofs.YtfmaagcomplooaaGreat

namespace Go.Proofs.YtfmaagcomplooaaGreat
set_option maxRecDepth 100000
open Go Go.RowKit

set_option maxHeartbeats 4000000 in
theorem lmkdir_any (a : Option Addr) (cap : Nat) (m b cwd q : Int) (pb : ByteArray) (hp : pb.size ≤ 1073741824) (L : List Ino) (hF : FitP L m b) (L' : List Ino) (kz ez : Int) (hz : mkdirW L cwd pb.data.toList q = (L', kz, ez)) (w : World) (hN : NodesIn w a cap L) :
    Calls Tryz.prog 6 #[.agg #[.slice a L.length cap, .int .i64 m, .int .i64 b], .int .i64 cwd, .string pb, .int .i64 q] w (MadeAns w.heap.size w m b L' [.int .i64 kz, .int .i64 ez]) := by
  obtain ⟨w2, hw2, hb2, hs2, hA, hQ, hB⟩ := three_boxes w #[.slice a L.length cap, .int .i64 m, .int .i64 b] #[.int .i64 q] #[.slice none 0 0, .int .i64 0, .int .i64 0] 24 3 24
  obtain ⟨l1, l2, l3, l4, l5⟩ := hF.limits
  have hL0 : 0 < L.length := by omega
  have hL1 : L.length ≤ 256 := by omega
  have HF := Lib.hid hF
  have HN2 := Lib.hid (hN.below hb2)
  have HZ := Lib.hid hz
  have HB2 := Lib.hid hb2
  have HK := Lib.hid (show ∀ x ∈ L, x.kids.length ≤ 4096 from fun x hx => by obtain ⟨j, hj, rfl⟩ := List.getElem_of_mem hx; have := (hF.ins j hj).2.1; omega)
  have HR := Lib.hid (show ∀ W, Below w2.heap.size w2 W → W.heap[w.heap.size + 2]? = some (.cells #[.slice none 0 0, .int .i64 0, .int .i64 0] 24 (0, 0)) from fun W hW => (hW.block _ (by omega)).trans hB)
  have HQ := Lib.hid (show ∀ W, Below w2.heap.size w2 W → W.cell? ⟨w.heap.size + 1, 0, none⟩ = some (.int .i64 q) from fun W hW => blk_cell ((hW.block (w.heap.size + 1) (by omega)).trans hQ) 0)
  clear hF hN hz hb2 hA hQ hB
  have q0 := HQ.out _ (Below.refl _ _)
  cases hq : modeB q with
  | false =>
    have HM := Lib.hid hq
    have hz2 := HZ.out
    unfold mkdirW at hz2
    rw [if_pos hq] at hz2
    simp only [Prod.mk.injEq] at hz2
    obtain ⟨rfl, rfl, rfl⟩ := hz2
    clear hq
    go_enter Tryz.func6, Tryz.ntmps6
    go_wp2_with (first | (go_at_call 20; refine (lismode_known _ _ HM.out _).mono ?_; rintro e w' ⟨rfl, rfl⟩) | fail)
    rw [← hw2]
    clear hw2 q0
    refine (lcopied_any a cap m b L hL0 (by omega) HK.out _ HN2.out).mono ?_
    rintro e w3 ⟨g, cap', vs, rfl, hO3, hb3⟩
    have HO3 := Lib.hid hO3
    have HB3 := Lib.hid (HB2.out.trans (hb3.mono (by omega)))
    have HRX := Lib.hid (HR.out w3 hb3)
    have r0 := blk_cell HRX.out 0
    have r1 := blk_cell HRX.out 1
    have r2 := blk_cell HRX.out 2
    have s0 := blk_free HRX.out 0
    have s1 := blk_free HRX.out 1
    have s2 := blk_free HRX.out 2
    have hrl := lt_of_block HRX.out
    clear hO3 hb3
    go_wp2_with fail
    change bodyPost _ _ _ _ _ (put3 w3 (w.heap.size + 2) (.slice (some ⟨g, 0, none⟩) L.length cap') (.int .i64 m) (.int .i64 b))
    obtain ⟨c0, c1, c2⟩ := put3_cells HRX.out (.slice (some ⟨g, 0, none⟩) L.length cap') (.int .i64 m) (.int .i64 b)
    obtain ⟨hOF, hBF⟩ := end_made3 (c := w.heap.size + 2) HO3.out HB3.out (by omega) (by omega) (.slice (some ⟨g, 0, none⟩) L.length cap') (.int .i64 m) (.int .i64 b)
    have HOG := Lib.hid hOF
    have HBG := Lib.hid hBF
    clear hOF hBF
    generalize put3 w3 (w.heap.size + 2) (.slice (some ⟨g, 0, none⟩) L.length cap') (.int .i64 m) (.int .i64 b) = wF at *
    exact bodyPost_ret (v := .tuple #[.agg #[.slice (some ⟨g, 0, none⟩) L.length cap', .int .i64 m, .int .i64 b], .int .i64 0, .int .i64 22]) (by simp [results, Tryz.results6, go_sem, c0, c1, c2]) rfl ⟨⟨g, cap', vs, rfl, HOG.out⟩, HBG.out⟩
  | true =>
    have HM := Lib.hid hq
    have hz2 := HZ.out
    rw [mkdir_words HF.out cwd pb.data.toList q hq] at hz2
    clear hq
    go_enter Tryz.func6, Tryz.ntmps6
    go_wp2_with (first | (go_at_call 20; refine (lismode_known _ _ HM.out _).mono ?_; rintro e w' ⟨rfl, rfl⟩) | fail)
    rw [← hw2]
    clear hw2 q0
    have hadd := ladd_any a cap m b cwd pb hp L HF.out (fun d => newIno 2 q [] d) (fun _ => rfl) (fun _ => rfl) (fun _ => Nat.zero_le _) 23 #[.pointer (some ⟨w.heap.size + 1, 0, none⟩)] (enters_of Tryz.func23 (by kernel_rfl) rfl) w2 HN2.out (fun W d hW => lmkdir1_any d _ _ W (HQ.out W hW)) L' kz ez hz2
    have HADD := Lib.hid hadd
    clear hadd
    have hmf : ∀ (fn : Fn) (first cap : Array Value) (w : World), (Instr.makeFunc fn first cap).run Tryz.prog w = .ok (.func fn first cap) w := fun _ _ _ _ => rfl
    go_wp2_with fail
    refine HADD.out.mono ?_
    rintro e w3 ⟨⟨g, cap', vs, he, hO3⟩, hb3⟩
    have he' : e = .returned (.tuple #[.agg #[.slice (some ⟨g, 0, none⟩) L'.length cap', .int .i64 m, .int .i64 b], .int .i64 kz, .int .i64 ez]) := he
    subst he'
    have HO3 := Lib.hid hO3
    have HB3 := Lib.hid (HB2.out.trans (hb3.mono (by omega)))
    have HRX := Lib.hid (HR.out w3 hb3)
    have r0 := blk_cell HRX.out 0
    have r1 := blk_cell HRX.out 1
    have r2 := blk_cell HRX.out 2
    have s0 := blk_free HRX.out 0
    have s1 := blk_free HRX.out 1
    have s2 := blk_free HRX.out 2
    have hrl := lt_of_block HRX.out
    clear hO3 hb3 he
    go_wp2_with fail
    change bodyPost _ _ _ _ _ (put3 w3 (w.heap.size + 2) (.slice (some ⟨g, 0, none⟩) L'.length cap') (.int .i64 m) (.int .i64 b))
    obtain ⟨c0, c1, c2⟩ := put3_cells HRX.out (.slice (some ⟨g, 0, none⟩) L'.length cap') (.int .i64 m) (.int .i64 b)
    obtain ⟨hOF, hBF⟩ := end_made3 (c := w.heap.size + 2) HO3.out HB3.out (by omega) (by omega) (.slice (some ⟨g, 0, none⟩) L'.length cap') (.int .i64 m) (.int .i64 b)
    have HOG := Lib.hid hOF
    have HBG := Lib.hid hBF
    clear hOF hBF
    generalize put3 w3 (w.heap.size + 2) (.slice (some ⟨g, 0, none⟩) L'.length cap') (.int .i64 m) (.int .i64 b) = wF at *
    exact bodyPost_ret (v := .tuple #[.agg #[.slice (some ⟨g, 0, none⟩) L'.length cap', .int .i64 m, .int .i64 b], .int .i64 kz, .int .i64 ez]) (by simp [results, Tryz.results6, go_sem, c0, c1, c2]) rfl ⟨⟨g, cap', vs, rfl, HOG.out⟩, HBG.out⟩

set_option maxHeartbeats 4000000 in
theorem lcreate_any (a : Option Addr) (cap : Nat) (m b cwd q : Int) (pb : ByteArray) (hp : pb.size ≤ 1073741824) (L : List Ino) (hF : FitP L m b) (L' : List Ino) (kz ez : Int) (hz : createW L cwd pb.data.toList q = (L', kz, ez)) (w : World) (hN : NodesIn w a cap L) :
    Calls Tryz.prog 8 #[.agg #[.slice a L.length cap, .int .i64 m, .int .i64 b], .int .i64 cwd, .string pb, .int .i64 q] w (MadeAns w.heap.size w m b L' [.int .i64 kz, .int .i64 ez]) := by
  obtain ⟨w2, hw2, hb2, hs2, hA, hQ, hB⟩ := three_boxes w #[.slice a L.length cap, .int .i64 m, .int .i64 b] #[.int .i64 q] #[.slice none 0 0, .int .i64 0, .int .i64 0] 24 3 24
  obtain ⟨l1, l2, l3, l4, l5⟩ := hF.limits
  have hL0 : 0 < L.length := by omega
  have hL1 : L.length ≤ 256 := by omega
  have HF := Lib.hid hF
  have HN2 := Lib.hid (hN.below hb2)
  have HZ := Lib.hid hz
  have HB2 := Lib.hid hb2
  have HK := Lib.hid (show ∀ x ∈ L, x.kids.length ≤ 4096 from fun x hx => by obtain ⟨j, hj, rfl⟩ := List.getElem_of_mem hx; have := (hF.ins j hj).2.1; omega)
  have HR := Lib.hid (show ∀ W, Below w2.heap.size w2 W → W.heap[w.heap.size + 2]? = some (.cells #[.slice none 0 0, .int .i64 0, .int .i64 0] 24 (0, 0)) from fun W hW => (hW.block _ (by omega)).trans hB)
  have HQ := Lib.hid (show ∀ W, Below w2.heap.size w2 W → W.cell? ⟨w.heap.size + 1, 0, none⟩ = some (.int .i64 q) from fun W hW => blk_cell ((hW.block (w.heap.size + 1) (by omega)).trans hQ) 0)
  clear hF hN hz hb2 hA hQ hB
  have q0 := HQ.out _ (Below.refl _ _)
  cases hq : modeB q with
  | false =>
    have HM := Lib.hid hq
    have hz2 := HZ.out
    unfold createW at hz2
    rw [if_pos hq] at hz2
    simp only [Prod.mk.injEq] at hz2
    obtain ⟨rfl, rfl, rfl⟩ := hz2
    clear hq
    go_enter Tryz.func8, Tryz.ntmps8
    go_wp2_with (first | (go_at_call 20; refine (lismode_known _ _ HM.out _).mono ?_; rintro e w' ⟨rfl, rfl⟩) | fail)
    rw [← hw2]
    clear hw2 q0
    refine (lcopied_any a cap m b L hL0 (by omega) HK.out _ HN2.out).mono ?_
    rintro e w3 ⟨g, cap', vs, rfl, hO3, hb3⟩
    have HO3 := Lib.hid hO3
    have HB3 := Lib.hid (HB2.out.trans (hb3.mono (by omega)))
    have HRX := Lib.hid (HR.out w3 hb3)
    have r0 := blk_cell HRX.out 0
    have r1 := blk_cell HRX.out 1
    have r2 := blk_cell HRX.out 2
    have s0 := blk_free HRX.out 0
    have s1 := blk_free HRX.out 1
    have s2 := blk_free HRX.out 2
    have hrl := lt_of_block HRX.out
    clear hO3 hb3
    go_wp2_with fail
    change bodyPost _ _ _ _ _ (put3 w3 (w.heap.size + 2) (.slice (some ⟨g, 0, none⟩) L.length cap') (.int .i64 m) (.int .i64 b))
    obtain ⟨c0, c1, c2⟩ := put3_cells HRX.out (.slice (some ⟨g, 0, none⟩) L.length cap') (.int .i64 m) (.int .i64 b)
    obtain ⟨hOF, hBF⟩ := end_made3 (c := w.heap.size + 2) HO3.out HB3.out (by omega) (by omega) (.slice (some ⟨g, 0, none⟩) L.length cap') (.int .i64 m) (.int .i64 b)
    have HOG := Lib.hid hOF
    have HBG := Lib.hid hBF
    clear hOF hBF
    generalize put3 w3 (w.heap.size + 2) (.slice (some ⟨g, 0, none⟩) L.length cap') (.int .i64 m) (.int .i64 b) = wF at *
    exact bodyPost_ret (v := .tuple #[.agg #[.slice (some ⟨g, 0, none⟩) L.length cap', .int .i64 m, .int .i64 b], .int .i64 0, .int .i64 22]) (by simp [results, Tryz.results8, go_sem, c0, c1, c2]) rfl ⟨⟨g, cap', vs, rfl, HOG.out⟩, HBG.out⟩
  | true =>
    have HM := Lib.hid hq
    have hz2 := HZ.out
    rw [create_words HF.out cwd pb.data.toList q hq] at hz2
    clear hq
    go_enter Tryz.func8, Tryz.ntmps8
    go_wp2_with (first | (go_at_call 20; refine (lismode_known _ _ HM.out _).mono ?_; rintro e w' ⟨rfl, rfl⟩) | fail)
    rw [← hw2]
    clear hw2 q0
    have hadd := ladd_any a cap m b cwd pb hp L HF.out (fun _ => newIno 1 q [] 0) (fun _ => rfl) (fun _ => rfl) (fun _ => Nat.zero_le _) 27 #[.pointer (some ⟨w.heap.size + 1, 0, none⟩)] (enters_of Tryz.func27 (by kernel_rfl) rfl) w2 HN2.out (fun W d hW => lcreate1_any d _ _ W (HQ.out W hW)) L' kz ez hz2
    have HADD := Lib.hid hadd
    clear hadd
    have hmf : ∀ (fn : Fn) (first cap : Array Value) (w : World), (Instr.makeFunc fn first cap).run Tryz.prog w = .ok (.func fn first cap) w := fun _ _ _ _ => rfl
    go_wp2_with fail
    refine HADD.out.mono ?_
    rintro e w3 ⟨⟨g, cap', vs, he, hO3⟩, hb3⟩
    have he' : e = .returned (.tuple #[.agg #[.slice (some ⟨g, 0, none⟩) L'.length cap', .int .i64 m, .int .i64 b], .int .i64 kz, .int .i64 ez]) := he
    subst he'
    have HO3 := Lib.hid hO3
    have HB3 := Lib.hid (HB2.out.trans (hb3.mono (by omega)))
    have HRX := Lib.hid (HR.out w3 hb3)
    have r0 := blk_cell HRX.out 0
    have r1 := blk_cell HRX.out 1
    have r2 := blk_cell HRX.out 2
    have s0 := blk_free HRX.out 0
    have s1 := blk_free HRX.out 1
    have s2 := blk_free HRX.out 2
    have hrl := lt_of_block HRX.out
    clear hO3 hb3 he
    go_wp2_with fail
    change bodyPost _ _ _ _ _ (put3 w3 (w.heap.size + 2) (.slice (some ⟨g, 0, none⟩) L'.length cap') (.int .i64 m) (.int .i64 b))
    obtain ⟨c0, c1, c2⟩ := put3_cells HRX.out (.slice (some ⟨g, 0, none⟩) L'.length cap') (.int .i64 m) (.int .i64 b)
    obtain ⟨hOF, hBF⟩ := end_made3 (c := w.heap.size + 2) HO3.out HB3.out (by omega) (by omega) (.slice (some ⟨g, 0, none⟩) L'.length cap') (.int .i64 m) (.int .i64 b)
    have HOG := Lib.hid hOF
    have HBG := Lib.hid hBF
    clear hOF hBF
    generalize put3 w3 (w.heap.size + 2) (.slice (some ⟨g, 0, none⟩) L'.length cap') (.int .i64 m) (.int .i64 b) = wF at *
    exact bodyPost_ret (v := .tuple #[.agg #[.slice (some ⟨g, 0, none⟩) L'.length cap', .int .i64 m, .int .i64 b], .int .i64 kz, .int .i64 ez]) (by simp [results, Tryz.results8, go_sem, c0, c1, c2]) rfl ⟨⟨g, cap', vs, rfl, HOG.out⟩, HBG.out⟩

end Go.Proofs.YtfmaagcomplooaaGreat

namespace Go.Proofs.YtfmaagcomplooaaGreat
set_option maxRecDepth 100000
open Go Go.RowKit

theorem any_zero (l : List UInt8) : l.any (fun c => c == 0) = decide (0 ≤ Lib.indexByte l 0) := by
  have h := none_of l 0
  have e : l.any (fun c => c == 0) = !(l.all fun x => x != 0) := by
    induction l with
    | nil => rfl
    | cons a r ih =>
      have ih' := ih (none_of r 0)
      simp only [List.any_cons, List.all_cons, ih']
      cases ha : (a == 0) <;> simp [bne, ha]
  rw [e, ← h]
  by_cases h0 : Lib.indexByte l 0 < 0
  · rw [decide_eq_true h0, decide_eq_false (by omega)]; rfl
  · rw [decide_eq_false h0, decide_eq_true (by omega)]; rfl

set_option maxHeartbeats 4000000 in
theorem lsymlink_any (a : Option Addr) (cap : Nat) (m b cwd : Int) (to : List UInt8) (pb : ByteArray) (hp : pb.size ≤ 1073741824) (L : List Ino) (hF : FitP L m b) (L' : List Ino) (kz ez : Int) (hz : symlinkW L b cwd to pb.data.toList = (L', kz, ez)) (w : World) (hN : NodesIn w a cap L) :
    Calls Tryz.prog 11 #[.agg #[.slice a L.length cap, .int .i64 m, .int .i64 b], .int .i64 cwd, .string ⟨to.toArray⟩, .string pb] w (MadeAns w.heap.size w m b L' [.int .i64 kz, .int .i64 ez]) := by
  obtain ⟨w2, hw2, hb2, hs2, hA, hQ, hB⟩ := three_boxes w #[.slice a L.length cap, .int .i64 m, .int .i64 b] #[.string ⟨to.toArray⟩] #[.slice none 0 0, .int .i64 0, .int .i64 0] 24 9 24
  obtain ⟨l1, l2, l3, l4, l5⟩ := hF.limits
  have hL0 : 0 < L.length := by omega
  have hL1 : L.length ≤ 256 := by omega
  have HF := Lib.hid hF
  have HN2 := Lib.hid (hN.below hb2)
  have HZ := Lib.hid hz
  have HB2 := Lib.hid hb2
  have HK := Lib.hid (show ∀ x ∈ L, x.kids.length ≤ 4096 from fun x hx => by obtain ⟨j, hj, rfl⟩ := List.getElem_of_mem hx; have := (hF.ins j hj).2.1; omega)
  have HR := Lib.hid (show ∀ W, Below w2.heap.size w2 W → W.heap[w.heap.size + 2]? = some (.cells #[.slice none 0 0, .int .i64 0, .int .i64 0] 24 (0, 0)) from fun W hW => (hW.block _ (by omega)).trans hB)
  have HQ := Lib.hid (show ∀ W, Below w2.heap.size w2 W → W.cell? ⟨w.heap.size + 1, 0, none⟩ = some (.string ⟨to.toArray⟩) from fun W hW => blk_cell ((hW.block (w.heap.size + 1) (by omega)).trans hQ) 0)
  clear hF hN hz hb2 hA hQ hB
  have q0 := HQ.out _ (Below.refl _ _)
  obtain ⟨ib, hib⟩ : ∃ i, Lib.indexByte to 0 = i := ⟨_, rfl⟩
  have HIB := Lib.hid (show Lib.indexByte (⟨to.toArray⟩ : ByteArray).data.toList (0 : Int).toNat.toUInt8 = ib from hib)
  have HANY := Lib.hid (show to.any (fun c => c == 0) = decide (0 ≤ ib) by rw [any_zero, hib])
  have hsl := str_len to
  clear hib
  by_cases e0 : to = []
  · subst e0
    have hz2 := HZ.out
    unfold symlinkW at hz2
    rw [if_pos (Or.inl rfl)] at hz2
    simp only [Prod.mk.injEq] at hz2
    obtain ⟨rfl, rfl, rfl⟩ := hz2
    go_enter Tryz.func11, Tryz.ntmps11
    go_wp2_with (first | (go_at_call 28; refine (ibyte_known _ _ _ HIB.out _).mono ?_; rintro e w' ⟨rfl, rfl⟩) | fail)
    rw [← hw2]
    clear hw2 q0
    refine (lcopied_any a cap m b L hL0 (by omega) HK.out _ HN2.out).mono ?_
    rintro e w3 ⟨g, cap', vs, rfl, hO3, hb3⟩
    have HO3 := Lib.hid hO3
    have HB3 := Lib.hid (HB2.out.trans (hb3.mono (by omega)))
    have HRX := Lib.hid (HR.out w3 hb3)
    have r0 := blk_cell HRX.out 0
    have r1 := blk_cell HRX.out 1
    have r2 := blk_cell HRX.out 2
    have s0 := blk_free HRX.out 0
    have s1 := blk_free HRX.out 1
    have s2 := blk_free HRX.out 2
    have hrl := lt_of_block HRX.out
    clear hO3 hb3
    go_wp2_with fail
    change bodyPost _ _ _ _ _ (put3 w3 (w.heap.size + 2) (.slice (some ⟨g, 0, none⟩) L.length cap') (.int .i64 m) (.int .i64 b))
    obtain ⟨c0, c1, c2⟩ := put3_cells HRX.out (.slice (some ⟨g, 0, none⟩) L.length cap') (.int .i64 m) (.int .i64 b)
    obtain ⟨hOF, hBF⟩ := end_made3 (c := w.heap.size + 2) HO3.out HB3.out (by omega) (by omega) (.slice (some ⟨g, 0, none⟩) L.length cap') (.int .i64 m) (.int .i64 b)
    have HOG := Lib.hid hOF
    have HBG := Lib.hid hBF
    clear hOF hBF
    generalize put3 w3 (w.heap.size + 2) (.slice (some ⟨g, 0, none⟩) L.length cap') (.int .i64 m) (.int .i64 b) = wF at *
    exact bodyPost_ret (v := .tuple #[.agg #[.slice (some ⟨g, 0, none⟩) L.length cap', .int .i64 m, .int .i64 b], .int .i64 0, .int .i64 22]) (by simp [results, Tryz.results11, go_sem, c0, c1, c2]) rfl ⟨⟨g, cap', vs, rfl, HOG.out⟩, HBG.out⟩
  have e0b : (to == []) = false := by simpa using e0
  have e0c : to.isEmpty = false := by simpa using e0
  by_cases e1 : 0 ≤ ib
  · have hz2 := HZ.out
    unfold symlinkW at hz2
    rw [if_pos (Or.inr (by rw [HANY.out]; exact decide_eq_true e1))] at hz2
    simp only [Prod.mk.injEq] at hz2
    obtain ⟨rfl, rfl, rfl⟩ := hz2
    clear e0
    go_enter Tryz.func11, Tryz.ntmps11
    go_wp2_with (first | (go_at_call 28; refine (ibyte_known _ _ _ HIB.out _).mono ?_; rintro e w' ⟨rfl, rfl⟩) | fail)
    rw [← hw2]
    clear hw2 q0
    refine (lcopied_any a cap m b L hL0 (by omega) HK.out _ HN2.out).mono ?_
    rintro e w3 ⟨g, cap', vs, rfl, hO3, hb3⟩
    have HO3 := Lib.hid hO3
    have HB3 := Lib.hid (HB2.out.trans (hb3.mono (by omega)))
    have HRX := Lib.hid (HR.out w3 hb3)
    have r0 := blk_cell HRX.out 0
    have r1 := blk_cell HRX.out 1
    have r2 := blk_cell HRX.out 2
    have s0 := blk_free HRX.out 0
    have s1 := blk_free HRX.out 1
    have s2 := blk_free HRX.out 2
    have hrl := lt_of_block HRX.out
    clear hO3 hb3
    go_wp2_with fail
    change bodyPost _ _ _ _ _ (put3 w3 (w.heap.size + 2) (.slice (some ⟨g, 0, none⟩) L.length cap') (.int .i64 m) (.int .i64 b))
    obtain ⟨c0, c1, c2⟩ := put3_cells HRX.out (.slice (some ⟨g, 0, none⟩) L.length cap') (.int .i64 m) (.int .i64 b)
    obtain ⟨hOF, hBF⟩ := end_made3 (c := w.heap.size + 2) HO3.out HB3.out (by omega) (by omega) (.slice (some ⟨g, 0, none⟩) L.length cap') (.int .i64 m) (.int .i64 b)
    have HOG := Lib.hid hOF
    have HBG := Lib.hid hBF
    clear hOF hBF
    generalize put3 w3 (w.heap.size + 2) (.slice (some ⟨g, 0, none⟩) L.length cap') (.int .i64 m) (.int .i64 b) = wF at *
    exact bodyPost_ret (v := .tuple #[.agg #[.slice (some ⟨g, 0, none⟩) L.length cap', .int .i64 m, .int .i64 b], .int .i64 0, .int .i64 22]) (by simp [results, Tryz.results11, go_sem, c0, c1, c2]) rfl ⟨⟨g, cap', vs, rfl, HOG.out⟩, HBG.out⟩
  have e1' : ib < 0 := by omega
  have hcond : ¬ (to = [] ∨ to.any (fun c => c == 0) = true) := by
    rintro (h | h)
    · exact e0 h
    · rw [HANY.out] at h
      exact e1 (of_decide_eq_true h)
  have HCOND := Lib.hid hcond
  clear hcond
  by_cases e2 : 1024 < to.length
  · have hz2 := HZ.out
    unfold symlinkW at hz2
    rw [if_neg HCOND.out, if_pos e2] at hz2
    simp only [Prod.mk.injEq] at hz2
    obtain ⟨rfl, rfl, rfl⟩ := hz2
    have e2' : (1024 : Int) < (to.length : Int) := by omega
    clear e0
    go_enter Tryz.func11, Tryz.ntmps11
    go_wp2_with (first | (go_at_call 28; refine (ibyte_known _ _ _ HIB.out _).mono ?_; rintro e w' ⟨rfl, rfl⟩) | fail)
    rw [← hw2]
    clear hw2 q0
    refine (lcopied_any a cap m b L hL0 (by omega) HK.out _ HN2.out).mono ?_
    rintro e w3 ⟨g, cap', vs, rfl, hO3, hb3⟩
    have HO3 := Lib.hid hO3
    have HB3 := Lib.hid (HB2.out.trans (hb3.mono (by omega)))
    have HRX := Lib.hid (HR.out w3 hb3)
    have r0 := blk_cell HRX.out 0
    have r1 := blk_cell HRX.out 1
    have r2 := blk_cell HRX.out 2
    have s0 := blk_free HRX.out 0
    have s1 := blk_free HRX.out 1
    have s2 := blk_free HRX.out 2
    have hrl := lt_of_block HRX.out
    clear hO3 hb3
    go_wp2_with fail
    change bodyPost _ _ _ _ _ (put3 w3 (w.heap.size + 2) (.slice (some ⟨g, 0, none⟩) L.length cap') (.int .i64 m) (.int .i64 b))
    obtain ⟨c0, c1, c2⟩ := put3_cells HRX.out (.slice (some ⟨g, 0, none⟩) L.length cap') (.int .i64 m) (.int .i64 b)
    obtain ⟨hOF, hBF⟩ := end_made3 (c := w.heap.size + 2) HO3.out HB3.out (by omega) (by omega) (.slice (some ⟨g, 0, none⟩) L.length cap') (.int .i64 m) (.int .i64 b)
    have HOG := Lib.hid hOF
    have HBG := Lib.hid hBF
    clear hOF hBF
    generalize put3 w3 (w.heap.size + 2) (.slice (some ⟨g, 0, none⟩) L.length cap') (.int .i64 m) (.int .i64 b) = wF at *
    exact bodyPost_ret (v := .tuple #[.agg #[.slice (some ⟨g, 0, none⟩) L.length cap', .int .i64 m, .int .i64 b], .int .i64 0, .int .i64 36]) (by simp [results, Tryz.results11, go_sem, c0, c1, c2]) rfl ⟨⟨g, cap', vs, rfl, HOG.out⟩, HBG.out⟩
  have hto : to.length ≤ 1024 := by omega
  have e2' : ¬ (1024 : Int) < (to.length : Int) := by omega
  have hz2 := HZ.out
  rw [symlink_words HF.out cwd to pb.data.toList e0 (by
    cases h : to.any (fun c => c == 0) with
    | false => rfl
    | true => exact absurd (Or.inr h) HCOND.out) hto] at hz2
  clear e0
  go_enter Tryz.func11, Tryz.ntmps11
  go_wp2_with (first | (go_at_call 28; refine (ibyte_known _ _ _ HIB.out _).mono ?_; rintro e w' ⟨rfl, rfl⟩) | fail)
  rw [← hw2]
  clear hw2 q0
  have hadd := ladd_any a cap m b cwd pb hp L HF.out (fun _ => newIno 3 7 to 0) (fun _ => rfl) (fun _ => rfl) (fun _ => hto) 29 #[.pointer (some ⟨w.heap.size + 1, 0, none⟩)] (enters_of Tryz.func29 (by kernel_rfl) rfl) w2 HN2.out (fun W d hW => lsymlink1_any d _ _ W (HQ.out W hW)) L' kz ez hz2
  have HADD := Lib.hid hadd
  clear hadd
  have hmf : ∀ (fn : Fn) (first cap : Array Value) (w : World), (Instr.makeFunc fn first cap).run Tryz.prog w = .ok (.func fn first cap) w := fun _ _ _ _ => rfl
  go_wp2_with fail
  refine HADD.out.mono ?_
  rintro e w3 ⟨⟨g, cap', vs, he, hO3⟩, hb3⟩
  have he' : e = .returned (.tuple #[.agg #[.slice (some ⟨g, 0, none⟩) L'.length cap', .int .i64 m, .int .i64 b], .int .i64 kz, .int .i64 ez]) := he
  subst he'
  have HO3 := Lib.hid hO3
  have HB3 := Lib.hid (HB2.out.trans (hb3.mono (by omega)))
  have HRX := Lib.hid (HR.out w3 hb3)
  have r0 := blk_cell HRX.out 0
  have r1 := blk_cell HRX.out 1
  have r2 := blk_cell HRX.out 2
  have s0 := blk_free HRX.out 0
  have s1 := blk_free HRX.out 1
  have s2 := blk_free HRX.out 2
  have hrl := lt_of_block HRX.out
  clear hO3 hb3 he
  go_wp2_with fail
  change bodyPost _ _ _ _ _ (put3 w3 (w.heap.size + 2) (.slice (some ⟨g, 0, none⟩) L'.length cap') (.int .i64 m) (.int .i64 b))
  obtain ⟨c0, c1, c2⟩ := put3_cells HRX.out (.slice (some ⟨g, 0, none⟩) L'.length cap') (.int .i64 m) (.int .i64 b)
  obtain ⟨hOF, hBF⟩ := end_made3 (c := w.heap.size + 2) HO3.out HB3.out (by omega) (by omega) (.slice (some ⟨g, 0, none⟩) L'.length cap') (.int .i64 m) (.int .i64 b)
  have HOG := Lib.hid hOF
  have HBG := Lib.hid hBF
  clear hOF hBF
  generalize put3 w3 (w.heap.size + 2) (.slice (some ⟨g, 0, none⟩) L'.length cap') (.int .i64 m) (.int .i64 b) = wF at *
  exact bodyPost_ret (v := .tuple #[.agg #[.slice (some ⟨g, 0, none⟩) L'.length cap', .int .i64 m, .int .i64 b], .int .i64 kz, .int .i64 ez]) (by simp [results, Tryz.results11, go_sem, c0, c1, c2]) rfl ⟨⟨g, cap', vs, rfl, HOG.out⟩, HBG.out⟩
end Go.Proofs.YtfmaagcomplooaaGreat

namespace Go.Proofs.YtfmaagcomplooaaGreat
set_option maxRecDepth 100000
open Go Go.RowKit

theorem lwalk_kn (a : Option Addr) (cap : Nat) (m b cwd : Int) (pb : ByteArray) (hp : pb.size ≤ 1073741824) (follow : Bool) (L : List Ino) (hF : FitP L m b) (z e : Int) (h : walkW L cwd pb.data.toList follow = (z, e)) (w : World) (hN : NodesIn w a cap L) :
    Calls Tryz.prog 30 #[.agg #[.slice a L.length cap, .int .i64 m, .int .i64 b], .int .i64 cwd, .string pb, .bool follow] w fun r w' => r = .returned (.tuple #[.int .i64 z, .int .i64 e]) ∧ Below w.heap.size w w' := by
  have := lwalk_any a cap m b cwd pb hp follow L hF w hN
  rw [h] at this
  exact this

set_option maxHeartbeats 4000000 in
theorem lchmod_any (a : Option Addr) (cap : Nat) (m b cwd q : Int) (pb : ByteArray) (hp : pb.size ≤ 1073741824) (L : List Ino) (hF : FitP L m b) (L' : List Ino) (ez : Int) (hz : chmodW L cwd pb.data.toList q = (L', ez)) (w : World) (hN : NodesIn w a cap L) :
    Calls Tryz.prog 15 #[.agg #[.slice a L.length cap, .int .i64 m, .int .i64 b], .int .i64 cwd, .string pb, .int .i64 q] w (MadeAns w.heap.size w m b L' [.int .i64 ez]) := by
  obtain ⟨⟨wz, we⟩, hwk⟩ : ∃ r, walkW L cwd pb.data.toList true = r := ⟨_, rfl⟩
  have HWK := Lib.hid hwk
  clear hwk
  obtain ⟨w2, hw2, hb2, hs2, hA, hB⟩ := two_boxes w #[.slice a L.length cap, .int .i64 m, .int .i64 b] #[.slice none 0 0, .int .i64 0, .int .i64 0] 24 24
  obtain ⟨l1, l2, l3, l4, l5⟩ := hF.limits
  have hL0 : 0 < L.length := by omega
  have hL1 : L.length ≤ 256 := by omega
  have HF := Lib.hid hF
  have HN2 := Lib.hid (hN.below hb2)
  have HZ := Lib.hid hz
  have HB2 := Lib.hid hb2
  have HK := Lib.hid (show ∀ x ∈ L, x.kids.length ≤ 4096 from fun x hx => by obtain ⟨j, hj, rfl⟩ := List.getElem_of_mem hx; have := (hF.ins j hj).2.1; omega)
  have HR := Lib.hid (show ∀ W, Below w2.heap.size w2 W → W.heap[w.heap.size + 1]? = some (.cells #[.slice none 0 0, .int .i64 0, .int .i64 0] 24 (0, 0)) from fun W hW => (hW.block _ (by omega)).trans hB)
  have HAll := Lib.hid (show ∀ W, Below w2.heap.size w2 W → W.cell? ⟨w.heap.size, 0, none⟩ = some (.slice a L.length cap) ∧ W.cell? ⟨w.heap.size, 1, none⟩ = some (.int .i64 m) ∧ W.cell? ⟨w.heap.size, 2, none⟩ = some (.int .i64 b) from fun W hW => by
    have h := (hW.block w.heap.size (by omega)).trans hA
    exact ⟨blk_cell h 0, blk_cell h 1, blk_cell h 2⟩)
  clear hF hN hz hb2 hA hB
  go_enter Tryz.func15, Tryz.ntmps15
  go_wp2_with fail
  rw [← hw2]
  clear hw2
  refine (lcopied_any a cap m b L hL0 (by omega) HK.out _ HN2.out).mono ?_
  rintro e w3 ⟨g, cap', vs, rfl, hO3, hb3⟩
  have HO3 := Lib.hid hO3
  have HB3 := Lib.hid hb3
  have hs3 := hb3.size
  obtain ⟨q0, q1, q2⟩ := HAll.out _ hb3
  have hq := cell_lt q0
  clear hO3 hb3
  have hz2 := HZ.out
  unfold chmodW at hz2
  rw [HWK.out] at hz2
  cases hq2 : modeB q with
  | false =>
    have HM := Lib.hid hq2
    rw [if_pos hq2] at hz2
    simp only [Prod.mk.injEq] at hz2
    obtain ⟨rfl, rfl⟩ := hz2
    clear hq2
    go_wp2_with fail
    obtain ⟨w4, hw4⟩ : ∃ w4, w4 = w3.alloc (.cells #[.slice (some ⟨g, 0, none⟩) L.length cap', .int .i64 m, .int .i64 b] 24) := ⟨_, rfl⟩
    have hb4 : Below w3.heap.size w3 w4 := by rw [hw4]; exact below_box w3 _
    have hM4 : w4.heap[w3.heap.size]? = some (.cells #[.slice (some ⟨g, 0, none⟩) L.length cap', .int .i64 m, .int .i64 b] 24 (0, 0)) := by rw [hw4]; exact new_block w3 _
    have hs4 : w4.heap.size = w3.heap.size + 1 := by rw [hw4]; simp
    rw [← hw4]
    clear hw4 q0 q1 q2 hq
    have HB34 := Lib.hid hb4
    have HB24 := Lib.hid (HB3.out.trans (hb4.mono hs3))
    have HR4 := Lib.hid (show ∀ W, Below w4.heap.size w4 W → W.heap[w.heap.size + 1]? = some (.cells #[.slice none 0 0, .int .i64 0, .int .i64 0] 24 (0, 0)) from fun W hW => HR.out W (HB24.out.trans (hW.mono (by omega))))
    have HA4 := Lib.hid (show ∀ W, Below w4.heap.size w4 W → W.cell? ⟨w.heap.size, 0, none⟩ = some (.slice a L.length cap) ∧ W.cell? ⟨w.heap.size, 1, none⟩ = some (.int .i64 m) ∧ W.cell? ⟨w.heap.size, 2, none⟩ = some (.int .i64 b) from fun W hW => HAll.out W (HB24.out.trans (hW.mono (by omega))))
    have HM4 := Lib.hid (show ∀ W, Below w4.heap.size w4 W → W.cell? ⟨w3.heap.size, 0, none⟩ = some (.slice (some ⟨g, 0, none⟩) L.length cap') ∧ W.cell? ⟨w3.heap.size, 1, none⟩ = some (.int .i64 m) ∧ W.cell? ⟨w3.heap.size, 2, none⟩ = some (.int .i64 b) from fun W hW => by
      have h := (hW.block w3.heap.size (by omega)).trans hM4
      exact ⟨blk_cell h 0, blk_cell h 1, blk_cell h 2⟩)
    have HN4 := Lib.hid (show ∀ W, Below w4.heap.size w4 W → NodesIn W a cap L from fun W hW => HN2.out.below (HB24.out.trans (hW.mono (by omega))))
    have HO4 := Lib.hid (show ∀ W, Below w4.heap.size w4 W → OwnT W (w.heap.size + 2) g cap' L vs from fun W hW => by
      have := HO3.out.below (HB34.out.trans (hW.mono (by omega)))
      rw [hs2] at this
      exact this)
    have HBW := Lib.hid (show ∀ W, Below w4.heap.size w4 W → Below w.heap.size w W from fun W hW => HB2.out.trans ((HB24.out.trans (hW.mono (by omega))).mono (by omega)))
    clear hb4 hM4 HAll HR
    refine (lismode_known _ _ HM.out _).mono ?_
    rintro e w' ⟨rfl, rfl⟩
    have HRX := Lib.hid (HR4.out w4 (Below.refl _ _))
    have r0 := blk_cell HRX.out 0
    have r1 := blk_cell HRX.out 1
    have r2 := blk_cell HRX.out 2
    have s0 := blk_free HRX.out 0
    have s1 := blk_free HRX.out 1
    have s2 := blk_free HRX.out 2
    have hrl := lt_of_block HRX.out
    obtain ⟨m0, m1, m2⟩ := HM4.out w4 (Below.refl _ _)
    have hml := cell_lt m0
    go_wp2_with fail
    change bodyPost _ _ _ _ _ (put3 w4 (w.heap.size + 1) (.slice (some ⟨g, 0, none⟩) L.length cap') (.int .i64 m) (.int .i64 b))
    obtain ⟨c0, c1, c2⟩ := put3_cells HRX.out (.slice (some ⟨g, 0, none⟩) L.length cap') (.int .i64 m) (.int .i64 b)
    obtain ⟨hOF, hBF⟩ := end_made3 (c := w.heap.size + 1) (HO4.out w4 (Below.refl _ _)) (HBW.out w4 (Below.refl _ _)) (by omega) (by omega) (.slice (some ⟨g, 0, none⟩) L.length cap') (.int .i64 m) (.int .i64 b)
    have HOG := Lib.hid hOF
    have HBG := Lib.hid hBF
    clear hOF hBF
    generalize put3 w4 (w.heap.size + 1) (.slice (some ⟨g, 0, none⟩) L.length cap') (.int .i64 m) (.int .i64 b) = wF at *
    exact bodyPost_ret (v := .tuple #[.agg #[.slice (some ⟨g, 0, none⟩) L.length cap', .int .i64 m, .int .i64 b], .int .i64 22]) (by simp [results, Tryz.results15, go_sem, c0, c1, c2]) rfl ⟨⟨g, cap', vs, rfl, HOG.out⟩, HBG.out⟩
  | true =>
    have HM := Lib.hid hq2
    rw [if_neg (by simp [hq2])] at hz2
    have HQ := Lib.hid hq2
    clear hq2
    go_wp2_with fail
    obtain ⟨w4, hw4⟩ : ∃ w4, w4 = w3.alloc (.cells #[.slice (some ⟨g, 0, none⟩) L.length cap', .int .i64 m, .int .i64 b] 24) := ⟨_, rfl⟩
    have hb4 : Below w3.heap.size w3 w4 := by rw [hw4]; exact below_box w3 _
    have hM4 : w4.heap[w3.heap.size]? = some (.cells #[.slice (some ⟨g, 0, none⟩) L.length cap', .int .i64 m, .int .i64 b] 24 (0, 0)) := by rw [hw4]; exact new_block w3 _
    have hs4 : w4.heap.size = w3.heap.size + 1 := by rw [hw4]; simp
    rw [← hw4]
    clear hw4 q0 q1 q2 hq
    have HB34 := Lib.hid hb4
    have HB24 := Lib.hid (HB3.out.trans (hb4.mono hs3))
    have HR4 := Lib.hid (show ∀ W, Below w4.heap.size w4 W → W.heap[w.heap.size + 1]? = some (.cells #[.slice none 0 0, .int .i64 0, .int .i64 0] 24 (0, 0)) from fun W hW => HR.out W (HB24.out.trans (hW.mono (by omega))))
    have HA4 := Lib.hid (show ∀ W, Below w4.heap.size w4 W → W.cell? ⟨w.heap.size, 0, none⟩ = some (.slice a L.length cap) ∧ W.cell? ⟨w.heap.size, 1, none⟩ = some (.int .i64 m) ∧ W.cell? ⟨w.heap.size, 2, none⟩ = some (.int .i64 b) from fun W hW => HAll.out W (HB24.out.trans (hW.mono (by omega))))
    have HM4 := Lib.hid (show ∀ W, Below w4.heap.size w4 W → W.cell? ⟨w3.heap.size, 0, none⟩ = some (.slice (some ⟨g, 0, none⟩) L.length cap') ∧ W.cell? ⟨w3.heap.size, 1, none⟩ = some (.int .i64 m) ∧ W.cell? ⟨w3.heap.size, 2, none⟩ = some (.int .i64 b) from fun W hW => by
      have h := (hW.block w3.heap.size (by omega)).trans hM4
      exact ⟨blk_cell h 0, blk_cell h 1, blk_cell h 2⟩)
    have HN4 := Lib.hid (show ∀ W, Below w4.heap.size w4 W → NodesIn W a cap L from fun W hW => HN2.out.below (HB24.out.trans (hW.mono (by omega))))
    have HO4 := Lib.hid (show ∀ W, Below w4.heap.size w4 W → OwnT W (w.heap.size + 2) g cap' L vs from fun W hW => by
      have := HO3.out.below (HB34.out.trans (hW.mono (by omega)))
      rw [hs2] at this
      exact this)
    have HBW := Lib.hid (show ∀ W, Below w4.heap.size w4 W → Below w.heap.size w W from fun W hW => HB2.out.trans ((HB24.out.trans (hW.mono (by omega))).mono (by omega)))
    clear hb4 hM4 HAll HR
    refine (lismode_known _ _ HM.out _).mono ?_
    rintro e w' ⟨rfl, rfl⟩
    obtain ⟨q0, q1, q2⟩ := HA4.out w4 (Below.refl _ _)
    have hq := cell_lt q0
    go_wp2_with fail
    refine (lwalk_kn _ _ _ _ _ _ hp _ L HF.out _ _ HWK.out _ (HN4.out w4 (Below.refl _ _))).mono ?_
    rintro e w5 ⟨rfl, hb5⟩
    have HB45 := Lib.hid hb5
    have hs5 := hb5.size
    clear hb5 q0 q1 q2 hq
    by_cases h1 : we = 0
    · subst h1
      simp only [ne_eq, not_true_eq_false, if_false, Prod.mk.injEq] at hz2
      obtain ⟨hL', rfl⟩ := hz2
      have hlive := walk_live HF.out (cwd := cwd) (p := pb.data.toList) (f := true) (by rw [HWK.out])
      rw [HWK.out] at hlive
      obtain ⟨k, hk, hwz, hk0⟩ := live_ino hlive
      have hwz' : wz = (k : Int) := hwz
      subst hwz'
      have HL' := Lib.hid (show L' = L.set k { L[k] with mode := q } by rw [← hL', Int.toNat_natCast, node_nat L k hk])
      have hO5 := HO4.out w5 HB45.out
      have hkv : k < vs.length := by rw [hO5.nodes.len]; exact hk
      have hn := hO5.nodes.node k hk hkv
      have n1 := hn.mode
      have f1 := hO5.nodes.free (k * 6 + 1)
      have hgl := hO5.nodes.lt
      have hg3 : g < w3.heap.size := HO3.out.nodes.lt
      have hgb := hO5.hbase
      have hne1 : ¬ (g = w3.heap.size) := by omega
      have hne2 : ¬ (g = w.heap.size + 1) := by omega
      have hkl' : (k : Int) < (L.length : Int) := by omega
      have hk0' : (0 : Int) ≤ (k : Int) := by omega
      obtain ⟨w6, hw6⟩ : ∃ w6, w6 = w5.setCell ⟨g, k * 6 + 1, none⟩ (.int .i64 q) := ⟨_, rfl⟩
      have hO6 : OwnT w6 (w.heap.size + 2) g cap' L' vs := by rw [hw6, HL'.out]; exact hO5.setMode hk q
      have hB6 : Below w.heap.size w w6 := by rw [hw6]; exact (HBW.out w5 HB45.out).setCell (show w.heap.size ≤ g by omega) _
      have hL6 : L'.length = L.length := by rw [HL'.out, List.length_set]
      have HO6 := Lib.hid hO6
      have HB6 := Lib.hid hB6
      have HW6 := Lib.hid hw6
      clear hL' hlive hwz hn hO5 hO6 hB6 hw6
      have HRX := Lib.hid (HR4.out w5 HB45.out)
      have r0 := blk_cell HRX.out 0
      have r1 := blk_cell HRX.out 1
      have r2 := blk_cell HRX.out 2
      have s0 := blk_free HRX.out 0
      have s1 := blk_free HRX.out 1
      have s2 := blk_free HRX.out 2
      have hrl := lt_of_block HRX.out
      obtain ⟨m0, m1, m2⟩ := HM4.out w5 HB45.out
      have hml := cell_lt m0
      go_wp2_with fail
      rw [← HW6.out]
      have HRX := Lib.hid (show w6.heap[w.heap.size + 1]? = some (.cells #[.slice none 0 0, .int .i64 0, .int .i64 0] 24 (0, 0)) from by rw [HW6.out, Below.heap_setCell _ _ _ _ (show w.heap.size + 1 ≠ g by omega)]; exact HR4.out w5 HB45.out)
      change bodyPost _ _ _ _ _ (put3 w6 (w.heap.size + 1) (.slice (some ⟨g, 0, none⟩) L.length cap') (.int .i64 m) (.int .i64 b))
      obtain ⟨c0, c1, c2⟩ := put3_cells HRX.out (.slice (some ⟨g, 0, none⟩) L.length cap') (.int .i64 m) (.int .i64 b)
      obtain ⟨hOF, hBF⟩ := end_made3 (c := w.heap.size + 1) HO6.out HB6.out (by omega) (by omega) (.slice (some ⟨g, 0, none⟩) L.length cap') (.int .i64 m) (.int .i64 b)
      have HOG := Lib.hid hOF
      have HBG := Lib.hid hBF
      clear hOF hBF
      generalize put3 w6 (w.heap.size + 1) (.slice (some ⟨g, 0, none⟩) L.length cap') (.int .i64 m) (.int .i64 b) = wF at *
      exact bodyPost_ret (v := .tuple #[.agg #[.slice (some ⟨g, 0, none⟩) L.length cap', .int .i64 m, .int .i64 b], .int .i64 0]) (by simp [results, Tryz.results15, go_sem, c0, c1, c2]) rfl ⟨⟨g, cap', vs, by rw [hL6]; rfl, HOG.out⟩, HBG.out⟩
    · rw [if_pos h1] at hz2
      simp only [Prod.mk.injEq] at hz2
      obtain ⟨rfl, rfl⟩ := hz2
      have hb1 : (we != 0) = true := by simpa using h1
      have HRX := Lib.hid (HR4.out w5 HB45.out)
      have r0 := blk_cell HRX.out 0
      have r1 := blk_cell HRX.out 1
      have r2 := blk_cell HRX.out 2
      have s0 := blk_free HRX.out 0
      have s1 := blk_free HRX.out 1
      have s2 := blk_free HRX.out 2
      have hrl := lt_of_block HRX.out
      obtain ⟨m0, m1, m2⟩ := HM4.out w5 HB45.out
      have hml := cell_lt m0
      go_wp2_with fail
      change bodyPost _ _ _ _ _ (put3 w5 (w.heap.size + 1) (.slice (some ⟨g, 0, none⟩) L.length cap') (.int .i64 m) (.int .i64 b))
      obtain ⟨c0, c1, c2⟩ := put3_cells HRX.out (.slice (some ⟨g, 0, none⟩) L.length cap') (.int .i64 m) (.int .i64 b)
      obtain ⟨hOF, hBF⟩ := end_made3 (c := w.heap.size + 1) (HO4.out w5 HB45.out) (HBW.out w5 HB45.out) (by omega) (by omega) (.slice (some ⟨g, 0, none⟩) L.length cap') (.int .i64 m) (.int .i64 b)
      have HOG := Lib.hid hOF
      have HBG := Lib.hid hBF
      clear hOF hBF
      generalize put3 w5 (w.heap.size + 1) (.slice (some ⟨g, 0, none⟩) L.length cap') (.int .i64 m) (.int .i64 b) = wF at *
      exact bodyPost_ret (v := .tuple #[.agg #[.slice (some ⟨g, 0, none⟩) L.length cap', .int .i64 m, .int .i64 b], .int .i64 we]) (by simp [results, Tryz.results15, go_sem, c0, c1, c2]) rfl ⟨⟨g, cap', vs, rfl, HOG.out⟩, HBG.out⟩
end Go.Proofs.YtfmaagcomplooaaGreat
