/-
  P11.3: what * tells of a directory.
-/
import Derived.Test.YtclhpedecimicaaGreatGLaw0
import Derived.Test.YtclhpedecimicaaGreatGAwake
import Derived.Test.YtclhpedecimicaaGreatGAllP
import Derived.Test.YtclhpedecimicaaGreatK22
import Derived.Test.YtclhpedecimicaaGreatGQuot
import Derived.Test.YtclhpedecimicaaGreatK6
import Derived.Test.YtclhpedecimicaaGreatK18
namespace Go.Proofs.YtclhpedecimicaaGreat
set_option maxRecDepth 100000
open Go Go.RowKit

theorem place_none11 {L : List Ino} {d : Int} (h : dirB L d = false) : placeL L d = [] := by unfold placeL; rw [h]; rfl
theorem place_some11 {L : List Ino} {d : Int} (h : dirB L d = true) : placeL L d ≠ [] := by
  unfold placeL
  rw [h, if_pos rfl]
  split
  · simp
  · assumption
theorem climbs11 {L : List Ino} {m b : Int} (hF : FitP L m b) : Climbs L := fun k hk => ⟨ups_in hF.root hF.rootUp hF.ins hF.names k hk, (short_of hF.ins k hk).1, (short_of hF.ins k hk).2⟩

set_option maxHeartbeats 16000000 in
theorem gall_walk (a : Option Addr) (cap : Nat) (m b cwd : Int) (L : List Ino) (hS : Sized L) (hLL : L.length ≤ 281474976710656) (hK : ∀ k (h : k < L.length), L[k].kids.length ≤ 281474976710656) (w : World) (hN : NodesIn w a cap L) :
    Calls Tryz.prog 4 #[.agg #[.slice a L.length cap, .int .i64 m, .int .i64 b], .int .i64 cwd] w fun e w' => e = .returned (.bool true) ∧ Below w.heap.size w w' := by
  obtain ⟨w1, hw1⟩ : ∃ w1, w1 = w.alloc (.cells #[.slice a L.length cap, .int .i64 m, .int .i64 b] 24) := ⟨_, rfl⟩
  have hb1 : Below w.heap.size w w1 := by rw [hw1]; exact below_box w _
  have hX : w1.heap[w.heap.size]? = some (.cells #[.slice a L.length cap, .int .i64 m, .int .i64 b] 24 (0, 0)) := by rw [hw1]; exact new_block w _
  have hs1 : w1.heap.size = w.heap.size + 1 := by rw [hw1]; simp
  have HX := Lib.hid (show ∀ W, Below w1.heap.size w1 W → W.cell? ⟨w.heap.size, 0, none⟩ = some (.slice a L.length cap) ∧ W.cell? ⟨w.heap.size, 1, none⟩ = some (.int .i64 m) ∧ W.cell? ⟨w.heap.size, 2, none⟩ = some (.int .i64 b) from fun W hW => by
    have h := (hW.block w.heap.size (by omega)).trans hX
    exact ⟨blk_cell h 0, blk_cell h 1, blk_cell h 2⟩)
  have HEND := Lib.hid (show ∀ W', Below w1.heap.size w1 W' → Below w.heap.size w W' from fun W' h => hb1.trans (h.mono (by omega)))
  have HM := Lib.hid (show ∀ W', Below w1.heap.size w1 W' → NodesIn W' a cap L from fun W' h => hN.below (hb1.trans (h.mono (by omega))))
  have HGOOD := Lib.hid (lgood11 a cap m b L hS hLL hK none 0 [] (by simp) (fun s hs => by cases hs) w1 (HM.out w1 (Below.refl _ _)) (fun i x hi => by simp at hi))
  clear hN hb1 hX hS
  go_enter Tryz.func4, Tryz.ntmps4
  go_wp2_with fail
  rw [← hw1]
  clear hw1
  refine HGOOD.out.mono ?_
  rintro e w2 ⟨⟨v, rfl, hv⟩, hb2⟩
  have HB2 := Lib.hid hb2
  obtain ⟨q0, q1, q2⟩ := HX.out _ hb2
  clear hb2 HGOOD
  cases v with
  | false =>
    clear q0 q1 q2 hv
    go_wp2_with fail
    refine (awake11 _).mono ?_
    rintro e w4 ⟨rfl, hb4⟩
    have HB4 := Lib.hid (HB2.out.trans (hb4.mono HB2.out.size))
    clear hb4
    go_wp2_with fail
    go_ret
    exact ⟨by rfl, HEND.out _ HB4.out⟩
  | true =>
    obtain ⟨-, hF⟩ := hv rfl
    clear hv
    have HF := Lib.hid hF
    have hl : L.length ≤ 300 := by have h := hF.limits; unfold Limits at h; omega
    obtain ⟨P, hP⟩ : ∃ P, placeL L cwd = P := ⟨_, rfl⟩
    have HPL := Lib.hid (show ∀ W, NodesIn W a cap L → Calls Tryz.prog 12 #[.agg #[.slice a L.length cap, .int .i64 m, .int .i64 b], .int .i64 cwd] W fun e w' => e = .returned (.string ⟨P.toArray⟩) ∧ Below W.heap.size W w' from fun W hW => by
      rw [← hP]
      exact rplace_any a cap m b cwd L hl (climbs11 HF.out) W hW)
    clear hF
    go_wp2_with fail
    refine (HPL.out _ (HM.out _ HB2.out)).mono ?_
    rintro e w3 ⟨rfl, hb3⟩
    have HB3 := Lib.hid (HB2.out.trans (hb3.mono HB2.out.size))
    clear hb3 q0 q1 q2 HPL
    obtain ⟨q0, q1, q2⟩ := HX.out _ HB3.out
    cases hd : dirB L cwd with
    | false =>
      obtain rfl : P = [] := by rw [← hP]; exact place_none11 hd
      clear hP hd
      go_wp2_with (first | (go_at_call 8; refine (awake11 _).mono ?_; rintro e wi ⟨rfl, hbi⟩; have HBi := Lib.hid (HB3.out.trans (hbi.mono HB3.out.size))) | fail)
      go_ret
      exact ⟨by rfl, HEND.out _ HBi.out⟩
    | true =>
      have hPne : P ≠ [] := by rw [← hP]; exact place_some11 hd
      have hPe : P.isEmpty = false := by cases P with | nil => exact absurd rfl hPne | cons _ _ => rfl
      have hPb : (P == []) = false := by simpa using hPne
      have HD := Lib.hid hd
      clear hP hPne
      have HMY := Lib.hid (fun (v : Bool) (hv : mayL L cwd 5 = v) (W : World) (hW : NodesIn W a cap L) => may4_at a cap m b cwd 5 L HF.out.ins v hv W hW)
      obtain ⟨u, hcu, hu⟩ := dir_lt hd
      clear hd
      subst hcu
      go_wp2_with fail
      cases hm : mayL L (u : Int) 5 with
      | false =>
        refine (HMY.out _ hm _ (HM.out _ HB3.out)).mono ?_
        rintro e w4 ⟨rfl, hb4⟩
        have HB4 := Lib.hid (HB3.out.trans (hb4.mono HB3.out.size))
        clear hb4 q0 q1 q2
        go_wp2_with (first | (go_at_call 8; refine (awake11 _).mono ?_; rintro e wi ⟨rfl, hbi⟩; have HBi := Lib.hid (HB4.out.trans (hbi.mono HB4.out.size))) | fail)
        go_ret
        exact ⟨by rfl, HEND.out _ HBi.out⟩
      | true =>
        have HGA := Lib.hid (glob_all HF.out HD.out hm)
        refine (HMY.out _ hm _ (HM.out _ HB3.out)).mono ?_
        rintro e w4 ⟨rfl, hb4⟩
        have HB4 := Lib.hid (HB3.out.trans (hb4.mono HB3.out.size))
        clear hb4 q0 q1 q2 HMY hm
        obtain ⟨q0, q1, q2⟩ := HX.out _ HB4.out
        have hu0 : (0 : Int) ≤ (u : Int) := by omega
        have hu1 : (u : Int) < (L.length : Int) := by omega
        have HNA := Lib.hid (node_nat L u hu)
        have hSh := short_of HF.out.ins u hu
        obtain ⟨M, hM⟩ : ∃ M, M = L[u].kids := ⟨_, rfl⟩
        have HNE := Lib.hid (show ∀ e ∈ M, e.1 ≠ [] from fun e he => (name_parts (name_of HF.out.ins hu (by rw [← hM]; exact he)).1).1)
        rw [← hM] at hSh
        have HML := Lib.hid hSh.2
        have hMl := hSh.1
        obtain ⟨X, hXd⟩ : ∃ X, X = (M.map Prod.fst).filter (fun n => !(n.head? == some 46)) := ⟨_, rfl⟩
        have HMN := Lib.hid (show globW L (u : Int) [42] [] = X by rw [HGA.out, HNA.out, ← hM, hXd])
        have HXD := Lib.hid hXd
        obtain ⟨bb, o6, rfl, hx⟩ := (HM.out _ HB4.out).2.2 u hu
        obtain ⟨kv, hkv, hKx⟩ := hx.kids
        rw [← hM] at hKx
        obtain ⟨ka, kc, rfl, hk1, hk2, hk3⟩ := hKx
        have HK3 := Lib.hid hk3
        clear hx hk3 hM hSh hXd HGA
        unfold maxLen at hk2
        go_wp2_with fail
        go_loopw [5, 31] (fun v5 v31 wr => ∃ i : Nat, v31 = .int .i64 (i : Int) ∧ i ≤ M.length ∧ Hid (Texts w4.heap.size wr v5 (((M.take i).map Prod.fst).filter (fun n => !(n.head? == some 46)))) ∧ Hid (Below w4.heap.size w4 wr)) (fun _ v31 _ => M.length - (intOf v31).toNat)
        case atStart => exact ⟨0, rfl, Nat.zero_le _, World.ownsRow_nil _ _ _ _, Below.refl _ _⟩
        case round =>
          obtain ⟨i, rfl, hi, HT, HBR⟩ := hrel
          by_cases hlt : i < M.length
          · obtain ⟨kb, ko, rfl, hn0, hn1⟩ := HK3.out i hlt
            have hszr := HBR.out.size
            have n0 := cell_below HBR.out hn0
            have n1 := cell_below HBR.out hn1
            obtain ⟨nm, hnm⟩ : ∃ nm, nm = M[i].1 := ⟨_, rfl⟩
            have hne : nm ≠ [] := by rw [hnm]; exact HNE.out _ (List.getElem_mem hlt)
            obtain ⟨c, r, hcr⟩ := List.exists_cons_of_ne_nil hne
            rw [← hnm] at n0
            have HNX := Lib.hid (show ((M.take (i + 1)).map Prod.fst).filter (fun n => !(n.head? == some 46)) = ((M.take i).map Prod.fst).filter (fun n => !(n.head? == some 46)) ++ (if (!(c == 46)) = true then [nm] else []) by rw [filter_next _ M i hlt, ← hnm, hcr]; rfl)
            obtain ⟨nb, hnb⟩ : ∃ nb : ByteArray, nb = ⟨nm.toArray⟩ := ⟨_, rfl⟩
            have hnb0 : 0 < nb.size := by rw [hnb, hcr, sv_size]; simp
            have hnbc : nb[0]'hnb0 = c := by subst hnb; subst hcr; rfl
            have HSV := Lib.hid (show strv nm = .string nb by rw [hnb]; rfl)
            have hn64 : nb.size ≤ 64 := by rw [hnb, sv_size, hnm]; exact HML.out _ (List.getElem_mem hlt)
            rw [show (⟨nm.toArray⟩ : ByteArray) = nb from hnb.symm] at n0
            obtain ⟨ki, hki⟩ : ∃ ki, ki = M[i].2 := ⟨_, rfl⟩
            rw [← hki] at n1
            have hi0 : (0 : Int) ≤ (i : Int) := by omega
            have hi1 : (i : Int) < (M.length : Int) := by omega
            have HBX := Lib.hid (HBR.out.alloc HBR.out.size (.cells #[.string nb, .int .i64 ki] 38))
            have HTX := Lib.hid (HT.out.below (below_box wr (.cells #[.string nb, .int .i64 ki] 38)))
            clear hn0 hn1 hnm hki hcr hne hnb
            by_cases hc46 : c = 46
            · have HNX2 := Lib.hid (show ((M.take (i + 1)).map Prod.fst).filter (fun n => !(n.head? == some 46)) = ((M.take i).map Prod.fst).filter (fun n => !(n.head? == some 46)) by rw [HNX.out, hc46]; simp)
              have h46 : ((nb[0].toNat : Int)) = 46 := by rw [hnbc, hc46]; rfl
              clear hnbc hc46
              go_wp2_with fail
              go_roundw
              case rel => exact ⟨i + 1, by go_num, by omega, by rw [HNX2.out]; exact HTX.out, HBX.out⟩
              case measure => simp [intOf] <;> omega
            · have HNX2 := Lib.hid (show ((M.take (i + 1)).map Prod.fst).filter (fun n => !(n.head? == some 46)) = ((M.take i).map Prod.fst).filter (fun n => !(n.head? == some 46)) ++ [nm] by rw [HNX.out]; simp [hc46])
              have HLE := Lib.hid (show (((M.take i).map Prod.fst).filter (fun n => !(n.head? == some 46))).length ≤ 1024 by
                refine Nat.le_trans (List.length_filter_le _ _) ?_
                rw [List.length_map, List.length_take]
                omega)
              have h46 : ¬ ((nb[0].toNat : Int)) = 46 := by
                rw [hnbc]
                intro h
                exact hc46 (UInt8.toNat_inj.1 (by have e : (46 : UInt8).toNat = 46 := rfl; omega))
              clear hnbc hc46
              obtain ⟨i0, hi0', hz0, hz1, hz2⟩ := info_parts infoS
              have HO := Lib.hid (show (wr.alloc (.cells #[.string nb, .int .i64 ki] 38)).ownsRow w4.heap.size 9 1 u5 (((M.take i).map Prod.fst).filter (fun n => !(n.head? == some 46))).length ((((M.take i).map Prod.fst).filter (fun n => !(n.head? == some 46))).map strv) from HTX.out)
              have hsz2 := HBX.out.size
              have HC1 := Lib.hid (show ∀ (j : Nat) (u : Value), [Value.string nb][j]? = some u → ((wr.alloc (.cells #[.string nb, .int .i64 ki] 38)).alloc (.cells #[.string nb] 9)).cell? ((⟨wr.heap.size + 1, 0, none⟩ : Addr).add j) = some u from by
                have h := cell_one_new (wr.alloc (.cells #[.string nb, .int .i64 ki] 38)) (.string nb) 9
                rw [show (wr.alloc (.cells #[.string nb, .int .i64 ki] 38)).heap.size = wr.heap.size + 1 from by simp] at h
                exact h)
              go_wp2_with (first | (at_builtin; (refine wpList_append_own _ rfl _ _ 29 rfl w4.heap.size 9 i0 (.string ByteArray.empty) 1 16 Tryz.underlying29 hi0' hz0 hz1 hz2 rfl (by decide) _ _ _ rfl (HO.out.alloc _) _ 1 1 [.string nb] rfl rfl HC1.out (fun x hx => by simp at hx; subst hx; rfl) (by unfold maxLen; have := HLE.out; omega) (by have := HLE.out; omega) (by simp; omega) ?_); intro v' w10 hown' hgrow3 hnil3) | fail)
              have HT3 := Lib.hid (show Texts w4.heap.size w10 v' (((M.take (i + 1)).map Prod.fst).filter (fun n => !(n.head? == some 46))) by rw [HNX2.out]; rw [← HSV.out] at hown'; exact Texts.grow hown')
              have HB3' := Lib.hid (HBX.out.trans (((Below.refl _ (wr.alloc (.cells #[.string nb, .int .i64 ki] 38))).alloc hsz2 _).grown hgrow3 (by simp; omega) (fun r hr => (HO.out.lt r hr).1)))
              clear hown' hgrow3 hnil3
              go_wp2_with fail
              go_roundw
              case rel => exact ⟨i + 1, by go_num, by omega, HT3.out, HB3'.out⟩
              case measure => simp [intOf] <;> omega
          · obtain rfl : i = M.length := by omega
            have hTF := HT.out
            rw [List.take_length, ← HXD.out] at hTF
            have HT2 := Lib.hid hTF
            have HBB := Lib.hid (HB4.out.trans (HBR.out.mono HB4.out.size))
            clear hTF HT HK3 q0 q1 q2 HXD
            obtain ⟨Gf, hGf⟩ : ∃ f : ByteArray → List (List UInt8), f = fun Q => globW L (u : Int) [42] Q.data.toList := ⟨_, rfl⟩
            have HE := Lib.hid (show ∀ (Q : ByteArray) (W : World), Below w1.heap.size w1 W → Calls Tryz.prog 10 #[.agg #[.slice (some ⟨bb, o6, none⟩) L.length cap, .int .i64 m, .int .i64 b], .int .i64 (u : Int), .string ⟨#[42]⟩, .string Q] W fun e W' => ∃ v, e = .returned v ∧ Texts 0 W' v (Gf Q) ∧ Below W.heap.size W W' from fun Q W hW => lexpand_bytes (some ⟨bb, o6, none⟩) cap m b (u : Int) ⟨#[42]⟩ Q (by decide) L HF.out _ (by rw [hGf]) W (HM.out W hW))
            have HG2 := Lib.hid (show Gf ⟨#[]⟩ = X by rw [hGf]; exact HMN.out)
            have HG1 := Lib.hid (show Gf ⟨#[49]⟩ = [] by rw [hGf]; exact glob_star1 L u)
            obtain ⟨q0, q1, q2⟩ := HX.out _ HBB.out
            clear hGf
            go_wp2_with fail
            refine (HE.out _ _ HBB.out).mono ?_
            rintro e w5 ⟨v5, rfl, hT5, hb5⟩
            rw [HG2.out] at hT5
            have HT3 := Lib.hid hT5
            have HT4 := Lib.hid (Texts.below HT2.out hb5)
            have HB5 := Lib.hid (HBB.out.trans (hb5.mono HBB.out.size))
            clear hT5 hb5 q0 q1 q2
            obtain ⟨q0, q1, q2⟩ := HX.out _ HB5.out
            go_wp2_with fail
            refine (same_yes11 X _ _ _ _ _ HT3.out HT4.out).mono ?_
            rintro e w6 ⟨rfl, hb6⟩
            have HB6 := Lib.hid (HB5.out.trans (hb6.mono HB5.out.size))
            clear hb6 q0 q1 q2
            obtain ⟨q0, q1, q2⟩ := HX.out _ HB6.out
            go_wp2_with fail
            refine (HE.out _ _ HB6.out).mono ?_
            rintro e w7 ⟨v7, rfl, hT7, hb7⟩
            rw [HG1.out] at hT7
            obtain ⟨ta, tc, rfl⟩ := texts_nil11 hT7
            have HB7 := Lib.hid (HB6.out.trans (hb7.mono HB6.out.size))
            clear hT7 hb7 q0 q1 q2
            go_wp2_with fail
            refine (awake11 _).mono ?_
            rintro e w8 ⟨rfl, hb8⟩
            have HB8 := Lib.hid (HB7.out.trans (hb8.mono HB7.out.size))
            clear hb8
            go_wp2_with fail
            go_ret
            exact ⟨by rfl, HEND.out _ HB8.out⟩
end Go.Proofs.YtclhpedecimicaaGreat
