/-
  tree's Place, walked.
-/
import Derived.Test.YtdpfnnhlneapbaaTLPlace
import Derived.Test.YtdpfnnhlneapbaaAppTexts
import Derived.Test.YtdpfnnhlneapbaaTreeUsed
namespace Go.Proofs.Ytdpfnnhlneapbaa
open Go Go.RowKit

def LPRel (L : List Ino) (d0 : Int) (w1 : World) (dv nv iv : Value) (wr : World) : Prop :=
  ∃ (d : Int) (i : Nat) (N : List (List UInt8)), i ≤ 256 ∧ dv = .int .i64 d ∧ iv = .int .i64 i ∧ Texts w1.heap.size wr nv N ∧ N.length ≤ i ∧ total N ≤ i * 65 ∧ Hid (lplaceL L d0 = lplaceGo L (256 - i) d N) ∧ Below w1.heap.size w1 wr

theorem slash_one (l : List UInt8) : (⟨#[47]⟩ : ByteArray) ++ (⟨l.toArray⟩ : ByteArray) = ⟨(47 :: l).toArray⟩ := by
  rw [show (⟨#[47]⟩ : ByteArray) = ⟨[47].toArray⟩ from rfl, ByteArray.mk_append_mk]
  rfl

set_option maxRecDepth 100000 in
set_option maxHeartbeats 4000000 in
theorem lplace_any (a : Option Addr) (cap : Nat) (m b d0 : Int) (L : List Ino) (hS : Short64 L) (w : World) (hN : NodesIn w a cap L) :
    Calls Try.prog 20 #[.agg #[.slice a L.length cap, .int .i64 m, .int .i64 b], .int .i64 d0] w fun e w' => e = .returned (.string ⟨(lplaceL L d0).toArray⟩) ∧ Below w.heap.size w w' := by
  obtain ⟨i0, hi, hz0, hz1, hz2⟩ := info_parts infoS
  have hb1 := below_box w (.cells #[.slice a L.length cap, .int .i64 m, .int .i64 b] 24)
  obtain ⟨w1, hw1⟩ : ∃ w1, w1 = w.alloc (.cells #[.slice a L.length cap, .int .i64 m, .int .i64 b] 24) := ⟨_, rfl⟩
  have hM := hN.below hb1
  have hsz : w1.heap.size = w.heap.size + 1 := by rw [hw1]; simp
  have hbox : ∀ W', Below w1.heap.size w1 W' → W'.cell? ⟨w.heap.size, 0, none⟩ = some (.slice a L.length cap) ∧ W'.cell? ⟨w.heap.size, 1, none⟩ = some (.int .i64 m) ∧ W'.cell? ⟨w.heap.size, 2, none⟩ = some (.int .i64 b) := fun W' h => box3 (by rw [← hw1]; exact h)
  have hcap := hN.1
  have hmax := hN.2.1
  unfold maxLen at hmax
  rw [← hw1] at hM hb1
  have HM := Lib.hid hM
  have HB := Lib.hid hb1
  have HX := Lib.hid hbox
  have HS := Lib.hid hS
  have HEND := Lib.hid (show ∀ W', Below w1.heap.size w1 W' → Below w.heap.size w W' from fun W' h => HB.out.trans (h.mono (by rw [hsz]; omega)))
  have hsz' : w.heap.size < w1.heap.size := by omega
  clear hM hN hb1 hbox hsz hS
  obtain ⟨F, hF⟩ : ∃ F, F = lplaceL L d0 := ⟨_, rfl⟩
  rw [← hF]
  have HF := Lib.hid hF
  clear hF
  go_enter Try.func20, Try.ntmps20
  go_wp2_with fail
  rw [← hw1]
  clear hw1
  go_loopw [1, 5, 6, 7, 8, 9] (fun dv nv _ _ _ iv wr => LPRel L d0 w1 dv nv iv wr) (fun _ _ _ _ _ iv _ => 256 - (intOf iv).toNat)
  case atStart => exact ⟨d0, 0, [], by omega, rfl, rfl, World.ownsRow_nil _ _ _ _, by simp, by simp [total], Lib.hid rfl, Below.refl _ _⟩
  case round =>
    obtain ⟨d, i, N, hi256, rfl, rfl, hT, hNl, hNt, hgo, hbr⟩ := hrel
    have HT := Lib.hid hT
    have HBR := Lib.hid hbr
    obtain ⟨q0, q1, q2⟩ := HX.out _ hbr
    have hszr := hbr.size
    clear hT hbr
    by_cases hil : i < 256
    · have hst : lplaceL L d0 = if dirB L d = true then (if d = 0 then 47 :: joinL N.reverse else if (nameAns L (nodeAt L d).up d).2 = true then lplaceGo L (256 - (i + 1)) (nodeAt L d).up (N ++ [(nameAns L (nodeAt L d).up d).1]) else []) else [] := by
        rw [hgo.out, show 256 - i = (256 - (i + 1)) + 1 by omega, lplace_succ]
      have HST := Lib.hid (HF.out.trans hst)
      clear hst hgo
      cases hd : dirB L d with
      | false =>
        have HD := Lib.hid hd
        have hfin := Lib.hid (show F = [] by rw [HST.out, hd]; rfl)
        clear hd
        go_wp2_with fail
        refine (lisdir_known _ _ _ _ _ L _ HD.out _ (HM.out.below HBR.out)).mono ?_
        rintro e w2 ⟨rfl, hb2⟩
        have HB2 := Lib.hid (HBR.out.trans (hb2.mono hszr))
        clear hb2
        go_wp2_with fail
        go_ret
        exact ⟨by rw [hfin.out]; rfl, HEND.out _ HB2.out⟩
      | true =>
        obtain ⟨n, rfl, hn⟩ := there_nat (show thereB L d = true by unfold dirB at hd; rw [Bool.and_eq_true] at hd; exact hd.1)
        have HD := Lib.hid hd
        have HST2 := Lib.hid (show F = if (n : Int) = 0 then 47 :: joinL N.reverse else if (nameAns L (nodeAt L (n : Int)).up (n : Int)).2 = true then lplaceGo L (256 - (i + 1)) (nodeAt L (n : Int)).up (N ++ [(nameAns L (nodeAt L (n : Int)).up (n : Int)).1]) else [] by rw [HST.out, hd, if_pos rfl])
        clear hd HST
        go_wp2_with fail
        refine (lisdir_known _ _ _ _ _ L _ HD.out _ (HM.out.below HBR.out)).mono ?_
        rintro e w2 ⟨rfl, hb2⟩
        have HB2 := Lib.hid (HBR.out.trans (hb2.mono hszr))
        have HT2 := Lib.hid (Texts.below HT.out hb2)
        have hs2 := HB2.out.size
        clear hb2 q0 q1 q2
        obtain ⟨q0, q1, q2⟩ := HX.out _ HB2.out
        by_cases hn0 : n = 0
        · have hnz : ((n : Int) == 0) = true := by rw [beq_iff_eq]; omega
          have hfin := Lib.hid (show F = 47 :: joinL N.reverse by rw [HST2.out, if_pos (by omega)])
          have HTJ := Lib.hid (turn_join HT2.out HB2.out (by omega) rfl)
          clear hn0
          go_wp2_with fail
          refine HTJ.out.mono ?_
          rintro e W' ⟨rfl, hbW, hJ⟩
          have HJ := Lib.hid hJ
          clear hJ
          go_wp2_with fail
          refine HJ.out.mono ?_
          rintro e W2 ⟨rfl, hb3⟩
          have HB3 := Lib.hid hb3
          have hcat := slash_one (joinL N.reverse)
          have hjs := str_len (joinL N.reverse)
          have hjl : (joinL N.reverse).length ≤ 16640 := by have h := join_le N.reverse; rw [total_rev] at h; omega
          clear hb3
          go_wp2_with fail
          go_ret
          exact ⟨by rw [hfin.out]; rfl, HEND.out _ HB3.out⟩
        · have hnz : ((n : Int) == 0) = false := by rw [beq_eq_false_iff_ne]; omega
          obtain ⟨bb, o, rfl, hx⟩ := HM.out.2.2 n hn
          have x5 := cell_below HB2.out hx.up
          obtain ⟨u, hu⟩ : ∃ u, u = L[n].up := ⟨_, rfl⟩
          rw [← hu] at x5
          have HNA := Lib.hid (nameAns_len HS.out u (n : Int))
          obtain ⟨nm, hnm⟩ : ∃ nm, nm = (nameAns L u (n : Int)).1 := ⟨_, rfl⟩
          obtain ⟨ok, hok⟩ : ∃ ok, ok = (nameAns L u (n : Int)).2 := ⟨_, rfl⟩
          have HST3 := Lib.hid (show F = if ok = true then lplaceGo L (256 - (i + 1)) u (N ++ [nm]) else [] by rw [HST2.out, if_neg (by omega), node_nat L n hn, ← hu, ← hnm, ← hok])
          have HNL := Lib.hid (show nm.length ≤ 64 by rw [hnm]; exact HNA.out)
          have HCALL := Lib.hid (show ∀ W, Below w1.heap.size w1 W → Calls Try.prog 42 #[.agg #[.slice (some ⟨bb, o, none⟩) L.length cap, .int .i64 m, .int .i64 b], .int .i64 u, .int .i64 (n : Int)] W fun e w' => e = .returned (.tuple #[.string ⟨nm.toArray⟩, .bool ok]) ∧ Below W.heap.size W w' from fun W hW => by
            rw [hnm, hok]
            exact lnamein_any _ _ _ _ u (n : Int) L (fun k h => (HS.out k h).1) W (HM.out.below hW))
          have hn0' : (0 : Int) ≤ (n : Int) := by omega
          clear hx hu hnm hok hn0 HST2
          go_wp2_with fail
          refine (HCALL.out _ HB2.out).mono ?_
          rintro e w3 ⟨rfl, hb3⟩
          have HB3 := Lib.hid (HB2.out.trans (hb3.mono hs2))
          have HT3 := Lib.hid (Texts.below HT2.out hb3)
          have hs3 := HB3.out.size
          clear hb3 q0 q1 q2 x5
          cases ok with
          | false =>
            have hfin := Lib.hid (show F = [] by rw [HST3.out]; rfl)
            go_wp2_with fail
            go_ret
            exact ⟨by rw [hfin.out]; rfl, HEND.out _ HB3.out⟩
          | true =>
            have hfin := Lib.hid (show lplaceL L d0 = lplaceGo L (256 - (i + 1)) u (N ++ [nm]) by rw [← HF.out, HST3.out, if_pos rfl])
            have HO := Lib.hid (show w3.ownsRow w1.heap.size 9 1 _ N.length (N.map strv) from HT3.out)
            have hNl' : N.length ≤ 256 := by omega
            have HTT := Lib.hid (show total (N ++ [nm]) ≤ (i + 1) * 65 by rw [total_append]; have := HNL.out; simp only [total]; omega)
            go_wp2_with (first | (at_builtin; (refine wpList_append_own _ rfl _ _ 39 rfl w1.heap.size 9 i0 (.string ByteArray.empty) 1 16 Try.underlying39 hi hz0 hz1 hz2 rfl (by decide) _ _ _ rfl (HO.out.alloc _) ⟨w3.heap.size, 0, none⟩ 1 1 [.string ⟨nm.toArray⟩] rfl rfl (cell_one_new _ _ _) (fun x hx => by simp at hx; subst hx; rfl) (by unfold maxLen; omega) (by omega) (by simp; omega) ?_); intro v' w4 hown' hgrow4 hnil4) | fail)
            have hb4 : Below w1.heap.size w3 w4 := ((Below.refl _ w3).alloc hs3 _).grown hgrow4 (by simp; omega) (fun r hr => (HO.out.lt r hr).1)
            have HT4 := Lib.hid (show Texts w1.heap.size w4 v' (N ++ [nm]) from Texts.grow hown')
            have HB4 := Lib.hid (HB3.out.trans hb4)
            clear hb4 hown' hgrow4 hnil4
            go_wp2_with fail
            go_roundw
            case rel => exact ⟨u, i + 1, N ++ [nm], by omega, rfl, by go_num, HT4.out, by simp; omega, HTT.out, hfin, HB4.out⟩
            case measure => simp [intOf] <;> omega
    · have hfin := Lib.hid (show F = [] by rw [HF.out, hgo.out, show 256 - i = 0 by omega]; rfl)
      go_wp2_with fail
      go_ret
      exact ⟨by rw [hfin.out]; rfl, HEND.out _ HBR.out⟩
end Go.Proofs.Ytdpfnnhlneapbaa
