/-
  The law AtokBlanks, walked.
-/
import Derived.Deep.RegionWith
import Derived.Test.YtclhpedecimicaaDoorZBlk
namespace Go.Proofs.YtclhpedecimicaaDoor
set_option maxRecDepth 100000
open Go Go.RowKit

theorem ToksAt.toIn {W : World} {g : Nat} {L : List Tk} (h : ToksAt W g L) : ToksIn W (some ⟨g, 0, none⟩) L := fun i x hx => by
  obtain ⟨h0, h1, h2, h3⟩ := h i x hx
  exact ⟨g, 0, rfl, by rw [Nat.zero_add]; exact h0, by rw [Nat.zero_add]; exact h1, by rw [Nat.zero_add]; exact h2, by rw [Nat.zero_add]; exact h3⟩
set_option maxHeartbeats 16000000 in
theorem ablanks_walk (s : ByteArray) (ls : s.size ≤ 281474976710656) (q : Int) (q0 : -9223372036854775808 ≤ q) (q1 : q ≤ 9223372036854775807) (w : World) (hL : LaidZ w) :
    Calls Tryd.prog 4 #[.string s, .int .i64 q] w fun e w' => e = .returned (.bool true) ∧ Below w.heap.size w w' := by
  by_cases hbig : (s.size : Int) > 3000
  · have CA := awake12 w hL
    go_enter Tryd.func4, Tryd.ntmps4
    go_wp2_with fail
    refine CA.mono ?_
    rintro e w1 ⟨rfl, hb⟩
    go_wp2_with fail
    go_ret
    exact ⟨rfl, hb⟩
  · have hs : s.size ≤ 3000 := by omega
    have HL := Lib.hid hL
    have C1 := fun W hW => ltokens s (by omega) W hW
    clear hL
    cases ht : toks s.data.toList 0 with
    | inr er =>
      have hne : er.2 ≠ 0 := by
        intro h0
        have hf := (evs_facts s.data.toList.length s.data.toList 0 (Nat.le_refl _)).2
        by_cases hall : ∀ x ∈ evs s.data.toList 0, x.2 = 0
        · rw [hf.1 hall] at ht; cases ht
        · have : ∃ x, x ∈ evs s.data.toList 0 ∧ x.2 ≠ 0 := by
            refine Classical.byContradiction fun h => hall fun x hx => Classical.byContradiction fun h2 => h ⟨x, hx, h2⟩
          obtain ⟨x, hx, hx2⟩ := this
          have h3 := hf.2.1 x hx hx2
          rw [ht] at h3
          cases h3
          exact hx2 h0
      rw [ht] at C1
      obtain ⟨p, er⟩ := er
      simp only at hne
      have hnei : ((er : Int) != 0) = true := by rw [bne_iff_ne]; omega
      clear ht hne
      go_enter Tryd.func4, Tryd.ntmps4
      go_wp2_with fail
      refine (C1 _ HL.out).mono ?_
      rintro e w1 ⟨hb1, he⟩
      obtain rfl := he
      have HB1 := Lib.hid hb1
      have HL1 := Lib.hid (HL.out.below hb1)
      clear hb1
      go_wp2_with fail
      refine (awake12 _ HL1.out).mono ?_
      rintro e w2 ⟨rfl, hb2⟩
      have HB2 := Lib.hid (below_two HB1.out hb2)
      clear hb2
      go_wp2_with fail
      go_ret
      exact ⟨rfl, HB2.out⟩
    | inl L =>
      have HT := Lib.hid ht
      have hlen := toks_len ht
      have HSL := Lib.hid (size_data s)
      rw [size_data] at hlen
      have hL0 : 0 < L.length := by
        cases L with
        | nil => exact absurd ht (toks_some s.data.toList.length s.data.toList 0 (Nat.le_refl _))
        | cons _ _ => simp
      rw [ht] at C1
      obtain ⟨n, hn⟩ : ∃ n, n = L.length := ⟨_, rfl⟩
      have HN := Lib.hid hn
      clear ht
      go_enter Tryd.func4, Tryd.ntmps4
      go_wp2_with fail
      refine (C1 _ HL.out).mono ?_
      rintro e w1 ⟨hb1, v, rfl, ⟨a, c, rfl⟩, hown⟩
      obtain ⟨g, rfl, hg, hblk⟩ := TokRow.blk (L := L) ⟨⟨a, c, rfl⟩, hown⟩ hL0
      rw [← hn] at hlen hL0 ⊢
      have HB1 := Lib.hid hb1
      have HK := Lib.hid hblk
      have HG := Lib.hid hg
      have HL1 := Lib.hid (HL.out.below hb1)
      have hnz : ((n : Int) == 0) = false := by rw [beq_eq_false_iff_ne]; omega
      clear hb1 hown hn hblk hg
      go_wp2_with fail
      go_loopw [39] (fun v wr => ∃ i : Nat, i ≤ n ∧ v = .int .i64 (i : Int) ∧ Hid (Below w1.heap.size w1 wr)) (fun v _ => n - atN v)
      case atStart => exact ⟨0, by omega, rfl, Lib.hid (Below.refl _ _)⟩
      case round =>
        obtain ⟨i, hi, rfl, HB⟩ := hrel
        by_cases hlt : i < n
        · obtain ⟨x, hx⟩ : ∃ x, L[i]? = some x := ⟨_, List.getElem?_eq_getElem (by rw [← HN.out]; exact hlt)⟩
          have HKW := (HK.out.block (HB.out.block g HK.out.lt)).toks
          obtain ⟨-, -, -, x3⟩ := HKW i x hx
          have hxp := pos_le HT.out hx
          rw [HSL.out] at hxp
          obtain ⟨pz, hpz⟩ : ∃ pz : Int, pz = (x.pos : Int) := ⟨_, rfl⟩
          rw [← hpz] at x3
          have e1 : decide (pz < 0) = false := decide_eq_false (by omega)
          have e2 : decide (pz > (s.size : Int)) = false := decide_eq_false (by omega)
          have e1' : ¬ pz < 0 := by omega
          have e2' : ¬ pz > (s.size : Int) := by omega
          have e3 : (0 : Int) ≤ (i : Int) := by omega
          have e4 : (i : Int) < (n : Int) := by omega
          by_cases hi0 : i = 0
          · subst hi0
            rw [show ((0 : Nat) : Int) = 0 from rfl]
            have x3' : wr.cell? ⟨g, 3, none⟩ = some (.int .i64 pz) := x3
            have e5 : decide ((0 : Int) > 0) = false := by decide
            clear x3 HKW hx hpz hxp
            go_wp2_with fail
            go_quiet (fail)
            go_wp2_with fail
            go_roundw
            case rel => exact ⟨1, by omega, rfl, Lib.hid (drewN_belowZ HB.out _)⟩
            case measure => simp only [atN]; omega
          · obtain ⟨j, hj⟩ : ∃ j, j + 1 = i := ⟨i - 1, by omega⟩
            obtain ⟨y, hy⟩ : ∃ y, L[j]? = some y := ⟨_, List.getElem?_eq_getElem (by rw [← HN.out]; omega)⟩
            obtain ⟨-, -, -, y3⟩ := HKW j y hy
            have hlt2 := rise_at HT.out hy (by rw [hj]; exact hx)
            obtain ⟨py, hpy⟩ : ∃ py : Int, py = (y.pos : Int) := ⟨_, rfl⟩
            rw [← hpy] at y3
            have e6 : (i : Int) - 1 = (j : Int) := by omega
            have e7 : decide (py ≥ pz) = false := decide_eq_false (by omega)
            have e8 : (0 : Int) ≤ (j : Int) := by omega
            have e9 : (j : Int) < (n : Int) := by omega
            have e7' : ¬ py ≥ pz := by omega
            have e11 : decide (0 < i) = true := decide_eq_true (by omega)
            have e10 : IntKind.i64.wrap ((i : Int) - 1) = (j : Int) := by rw [e6, IntKind.wrap_i64]; omega
            clear HKW hx hpz hxp hy hlt2 hpy hj
            go_wp2_with fail
            go_quiet (fail)
            go_wp2_with fail
            go_roundw
            case rel => exact ⟨i + 1, by omega, by go_num, Lib.hid (drewN_belowZ HB.out _)⟩
            case measure => simp only [atN]; omega
        · have hin : i = n := by omega
          subst hin
          clear hi hlt
          have HKW := Lib.hid (HK.out.block (HB.out.block g HK.out.lt))
          have HLW := Lib.hid (HL1.out.below HB.out)
          have HBW := Lib.hid (below_two HB1.out HB.out)
          have hu0 : 0 ≤ IntKind.u64.wrap q := by rw [IntKind.wrap_u64]; omega
          obtain ⟨m, hm⟩ : ∃ m : Nat, (m : Int) = (IntKind.u64.wrap q).tmod (i : Int) := ⟨((IntKind.u64.wrap q).tmod (i : Int)).toNat, Int.toNat_of_nonneg (Int.tmod_nonneg _ hu0)⟩
          have hmlt : m < i := by
            have := Int.tmod_lt_of_pos (IntKind.u64.wrap q) (show (0 : Int) < (i : Int) by omega)
            omega
          have hm2 := hm.symm
          have hwn : IntKind.u64.wrap (i : Int) = (i : Int) := by rw [IntKind.wrap_u64]; omega
          have hwm : wrap64 (m : Int) = (m : Int) := by unfold wrap64; omega
          obtain ⟨x, hx⟩ : ∃ x, L[m]? = some x := ⟨_, List.getElem?_eq_getElem (by rw [← HN.out]; exact hmlt)⟩
          have HX := Lib.hid hx
          obtain ⟨-, -, -, x3⟩ := HKW.out.toks m x hx
          have hxp := pos_le HT.out hx
          rw [HSL.out] at hxp
          have hm0 : (0 : Int) ≤ (m : Int) := by omega
          have hm1 : (m : Int) < (i : Int) := by omega
          have hi0 : ((i : Int) == 0) = false := by rw [beq_eq_false_iff_ne]; omega
          have hi1 : ¬ (i : Int) = 0 := by omega
          clear hx hm hu0
          go_wp2_with fail
          obtain ⟨p, hp⟩ : ∃ p, p = x.pos := ⟨_, rfl⟩
          have HP := Lib.hid hp
          rw [← hp] at hxp x3 ⊢
          have hp0 : (0 : Int) ≤ (p : Int) := by omega
          have hp1 : (p : Int) ≤ (s.size : Int) := by omega
          obtain ⟨t, htx⟩ : ∃ t : ByteArray, t = s.extract 0 p ++ ⟨#[32]⟩ ++ s.extract p s.size := ⟨_, rfl⟩
          have htd : t.data.toList = s.data.toList.take p ++ 32 :: s.data.toList.drop p := by rw [htx, app_data, app_data, take_str, drop_str, List.append_assoc]; rfl
          obtain ⟨bL, hbt, hbe⟩ := space_toks HT.out HX.out
          rw [← hp, ← htd] at hbt
          have hbl : bL.length = L.length := by have := congrArg List.length hbe; simpa using this
          have hts : t.size ≤ 3001 := by
            rw [← size_data, htd, List.length_append, List.length_cons, List.length_take, List.length_drop, HSL.out]; omega
          have C2 := fun W hW => ltokens t (by omega) W hW
          rw [hbt] at C2
          have hz1 : (s.extract 0 p).size = p := by rw [ByteArray.size_extract]; omega
          have hz2 : (s.extract p s.size).size = s.size - p := by rw [ByteArray.size_extract]; omega
          have hz3 : (s.extract 0 p ++ (⟨#[32]⟩ : ByteArray)).size = p + 1 := by rw [ByteArray.size_append, hz1]; rfl
          have HTX := Lib.hid htx
          have HBE := Lib.hid hbe
          have HBL := Lib.hid hbl
          have HC2 := Lib.hid C2
          clear hp htx htd hbt hbe hbl C2 x3
          go_region_with (first | (go_at_call 8; rw [← HTX.out]; refine (HC2.out _ (HLW.out.below (drew_below _))).mono ?_; rintro e w5 ⟨hb5, v, rfl, ⟨a2, d, rfl⟩, hown2⟩; have HB5 : Hid (Below wr.heap.size wr w5) := Lib.hid ((drew_below wr).trans hb5); have HO5 : Hid (TokRow w5 wr.heap.size (.slice a2 bL.length d) bL) := Lib.hid ⟨⟨a2, d, rfl⟩, hown2⟩; clear hb5 hown2) | fail)
          have hbi : bL.length = i := by rw [HBL.out, ← HN.out]
          obtain ⟨g2, hag, hg2, hblk2⟩ := TokRow.blk HO5.out (by rw [hbi]; exact hL0)
          subst hag
          have hgg : g ≠ g2 := by have := HKW.out.lt; omega
          have hwg : w.heap.size ≤ g := HG.out
          have hww := HBW.out.size
          have HK1 := Lib.hid (HKW.out.block (HB5.out.block g HKW.out.lt))
          have HK2 := Lib.hid hblk2
          have HBW5 := Lib.hid (below_two HBW.out HB5.out)
          have HBI := Lib.hid hbi
          have hnn : ((i : Int) != (i : Int)) = false := by simp
          rw [hbi]
          have hwg2 : w.heap.size ≤ g2 := by omega
          clear hblk2 hbi hg2
          go_wp2_with fail
          go_loopw [112] (fun v wr2 => ∃ k : Nat, k ≤ i ∧ v = .int .i64 (k : Int) ∧ Hid (BlkT wr2 g (eraN k L)) ∧ Hid (BlkT wr2 g2 (eraN k bL)) ∧ Hid (Below w.heap.size w wr2)) (fun v _ => i - atN v)
          case atStart => exact ⟨0, by omega, rfl, by rw [eraN_zero]; exact HK1, by rw [eraN_zero]; exact HK2, HBW5⟩
          case round =>
            obtain ⟨k, hk, rfl, H1, H2, HBB⟩ := hrel
            by_cases hlt : k < i
            · obtain ⟨y, hy⟩ : ∃ y, L[k]? = some y := ⟨_, List.getElem?_eq_getElem (by rw [← HN.out]; exact hlt)⟩
              obtain ⟨z, hz⟩ : ∃ z, bL[k]? = some z := ⟨_, List.getElem?_eq_getElem (by rw [HBI.out]; exact hlt)⟩
              obtain ⟨-, -, -, y3⟩ := H1.out.toks k _ (eraN_at hy)
              obtain ⟨-, -, -, z3⟩ := H2.out.toks k _ (eraN_at hz)
              have f1 := H1.out.free (k * 4 + 3)
              have f2 := H2.out.free (k * 4 + 3)
              have l1 := H1.out.lt
              have l2 := H2.out.lt
              have hn1 := Lib.hid (show BlkT ((wr.setCell ⟨g, k * 4 + 3, none⟩ (.int .i64 0)).setCell ⟨g2, k * 4 + 3, none⟩ (.int .i64 0)) g (eraN (k + 1) L) by
                rw [← eraN_step hy]
                have h := (eraN_at (k := k) hy)
                rw [if_neg (Nat.lt_irrefl k)] at h
                exact (H1.out.set h).block (Below.heap_setCell _ _ _ _ hgg))
              have hn2 := Lib.hid (show BlkT ((wr.setCell ⟨g, k * 4 + 3, none⟩ (.int .i64 0)).setCell ⟨g2, k * 4 + 3, none⟩ (.int .i64 0)) g2 (eraN (k + 1) bL) by
                rw [← eraN_step hz]
                have h := (eraN_at (k := k) hz)
                rw [if_neg (Nat.lt_irrefl k)] at h
                exact (H2.out.block (Below.heap_setCell _ _ _ _ (Ne.symm hgg))).set h)
              have hn3 := Lib.hid (show Below w.heap.size w ((wr.setCell ⟨g, k * 4 + 3, none⟩ (.int .i64 0)).setCell ⟨g2, k * 4 + 3, none⟩ (.int .i64 0)) from (HBB.out.setCell hwg _).setCell hwg2 _)
              have k0 : (0 : Int) ≤ (k : Int) := by omega
              have k1 : (k : Int) < (i : Int) := by omega
              clear hy hz
              go_wp2_with fail
              go_roundw
              case rel => exact ⟨k + 1, by omega, by go_num, hn1, hn2, hn3⟩
              case measure => simp only [atN]; omega
            · have hki : k = i := by omega
              subst hki
              have e1 : eraN k L = L.map eraZ := by rw [HN.out]; exact eraN_all L
              have e2 : eraN k bL = L.map eraZ := by rw [← HBI.out, eraN_all, HBE.out]
              have hml : (L.map eraZ).length = k := by rw [List.length_map, ← HN.out]
              have CS := fun W hA hB => rsameZ (some ⟨g, 0, none⟩) (some ⟨g2, 0, none⟩) c d (L.map eraZ) (by omega) W hA hB
              rw [hml] at CS
              have hA1 := Lib.hid (ToksAt.toIn (by have h := H1.out.toks; rw [e1] at h; exact h))
              have hA2 := Lib.hid (ToksAt.toIn (by have h := H2.out.toks; rw [e2] at h; exact h))
              have HLL := Lib.hid (HL.out.below HBB.out)
              have HCS := Lib.hid CS
              clear CS e1 e2 hml
              go_wp2_with fail
              refine (HCS.out _ hA1.out hA2.out).mono ?_
              rintro e w6 ⟨rfl, hb6⟩
              have HL6 := Lib.hid (HLL.out.below hb6)
              have HB6 := Lib.hid (below_two HBB.out hb6)
              clear hb6
              go_wp2_with fail
              refine (awake12 _ HL6.out).mono ?_
              rintro e w7 ⟨rfl, hb7⟩
              have HB7 := Lib.hid (below_two HB6.out hb7)
              clear hb7
              go_wp2_with fail
              go_ret
              exact ⟨rfl, HB7.out⟩
end Go.Proofs.YtclhpedecimicaaDoor
