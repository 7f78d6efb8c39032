/-
  The law WalkNames, walked.
-/
import Derived.Test.YtgmmggdjcgemfaaWDotsLaw
import Derived.Test.YtgmmggdjcgemfaaTreePlace
namespace Go.Proofs.Ytgmmggdjcgemfaa
open Go Go.RowKit

theorem climbs4 {L : List Ino} {m b : Int} (hF : FitP L m b) : Climbs L := fun k hk => ⟨ups_in hF.root hF.rootUp hF.ins hF.names k hk, (short_of hF.ins k hk).1, (short_of hF.ins k hk).2⟩
theorem place_none {L : List Ino} {d : Int} (h : dirB L d = false) : placeL L d = [] := by unfold placeL; rw [h]; rfl
theorem place_some {L : List Ino} {d : Int} (h : dirB L d = true) : placeL L d ≠ [] := by
  unfold placeL
  rw [h, if_pos rfl]
  split
  · simp
  · assumption
theorem step_none {L : List Ino} {z : Int} {x : List UInt8} (h1 : x ≠ [46]) (h2 : x ≠ [46, 46]) (hk : kidL L z x < 0) : (stepW L z x).2 ≠ 0 := by
  unfold stepW
  rw [if_neg h1, if_neg h2, if_pos hk]
  split
  · decide
  · split
    · decide
    · decide
theorem step_go {L : List Ino} {z : Int} {x : List UInt8} (hm : mayL L z 1 = true) (h1 : x ≠ [46]) (h2 : x ≠ [46, 46]) (hk : 0 ≤ kidL L z x) : stepW L z x = (kidL L z x, 0) := by
  have hd : dirB L z = true := by
    cases hd : dirB L z with
    | true => rfl
    | false =>
      unfold kidL at hk
      rw [hd, if_neg (by simp)] at hk
      exact absurd hk (by decide)
  unfold stepW
  rw [hd, hm, if_neg (by simp), if_neg (by simp), if_neg h1, if_neg h2, if_neg (by omega)]
theorem walk_err_of {L : List Ino} {cwd : Int} {p : List UInt8} (h : (wayW L true 8 (partsL p) (beginW cwd p)).2 ≠ 0) : (walkW L cwd p true).2 ≠ 0 := by
  unfold walkW
  split
  · assumption
  · simp only [Bool.true_or]
    rw [if_pos h]
    exact h
theorem walk_fin {L : List Ino} {cwd : Int} {p : List UInt8} (hb : badW L cwd p = 0) {z : Int} (hw : wayW L true 8 (partsL p) (beginW cwd p) = (z, 0)) : walkW L cwd p true = if endL p = true ∧ dirB L z = false then (0, 20) else (z, 0) := by
  unfold walkW
  rw [hb, if_neg (by simp)]
  simp only [Bool.true_or]
  rw [hw, if_neg (by simp)]

theorem rparts_view2 (pb : ByteArray) (hp : pb.size ≤ 1073741824) (N : List (List UInt8)) (hN : partsL pb.data.toList = N) (w : World) :
    Calls Try.prog 18 #[.string pb] w fun e w' => ∃ v, e = .returned v ∧ View w' v N ∧ Below w.heap.size w w' := by
  subst hN
  exact (rparts_any pb hp w).mono fun e w' ⟨v, h1, h2, h3⟩ => ⟨v, h1, h2.view, h3⟩
def NmRel (L : List Ino) (N : List (List UInt8)) (st : Int) (w3 : World) (atv iv : Value) (wr : World) : Prop :=
  ∃ (i : Nat) (z : Int), i ≤ N.length ∧ atv = .int .i64 z ∧ iv = .int .i64 i ∧ Hid (thereB L z = true ∧ wayW L true 8 N st = wayW L true 8 (N.drop i) z ∧ ∀ x ∈ N.take i, x.length ≤ 64) ∧ Below w3.heap.size w3 wr

set_option maxRecDepth 100000 in
set_option maxHeartbeats 8000000 in
theorem wnames_walk (a : Option Addr) (cap : Nat) (m b : Int) (cwd : Int) (pb : ByteArray) (hpb : pb.size ≤ 281474976710656) (L : List Ino) (hS : Sized L) (w : World) (hN : NodesIn w a cap L) :
    Calls Try.prog 5 #[.agg #[.slice a L.length cap, .int .i64 m, .int .i64 b], .int .i64 cwd, .string pb] w fun e w' => e = .returned (.bool true) ∧ Below w.heap.size w w' := by
  obtain ⟨w1, hw1⟩ : ∃ w1, w1 = w.alloc (.cells #[.slice a L.length cap, .int .i64 m, .int .i64 b] 24) := ⟨_, rfl⟩
  have hb1 := below_box w (.cells #[.slice a L.length cap, .int .i64 m, .int .i64 b] 24)
  have hM := hN.below hb1
  have hsz : w1.heap.size = w.heap.size + 1 := by rw [hw1]; simp
  have hbox : ∀ W', Below w1.heap.size w1 W' → W'.cell? ⟨w.heap.size, 0, none⟩ = some (.slice a L.length cap) ∧ W'.cell? ⟨w.heap.size, 1, none⟩ = some (.int .i64 m) ∧ W'.cell? ⟨w.heap.size, 2, none⟩ = some (.int .i64 b) := fun W' h => box3 (by rw [← hw1]; exact h)
  rw [← hw1] at hM hb1
  have HM := Lib.hid hM
  have HB := Lib.hid hb1
  have HX := Lib.hid hbox
  have HEND := Lib.hid (show ∀ W', Below w1.heap.size w1 W' → Below w.heap.size w W' from fun W' h => HB.out.trans (h.mono (by rw [hsz]; omega)))
  have HS := Lib.hid hS
  have hcap := hN.1
  have hmax := hN.2.1
  unfold maxLen at hmax
  clear hM hN hb1 hbox hsz hS
  go_enter Try.func5, Try.ntmps5
  go_wp2_with fail
  rw [← hw1]
  clear hw1
  refine (good4_any a cap m b L HS.out _ HM.out).mono ?_
  rintro e w2 ⟨⟨v, rfl, hv⟩, hb2⟩
  have HV := Lib.hid hv
  have HB2 := Lib.hid hb2
  obtain ⟨q0, q1, q2⟩ := HX.out _ hb2
  clear hv hb2
  cases v with
  | false =>
    go_wp2_with (first | (go_at_call 9; refine (awake4 _).mono ?_; rintro e wg ⟨rfl, hbg⟩; have HBg := Lib.hid (HB2.out.trans (hbg.mono HB2.out.size))) | fail)
    go_ret
    exact ⟨rfl, HEND.out _ HBg.out⟩
  | true =>
    obtain ⟨hl, hF⟩ := HV.out rfl
    have HF := Lib.hid hF
    clear hF
    by_cases hp : pb.size ≤ 1024
    case neg =>
      have hp2 : decide ((pb.size : Int) > 1024) = true := decide_eq_true (by omega)
      go_wp2_with (first | (go_at_call 9; refine (awake4 _).mono ?_; rintro e wh ⟨rfl, hbh⟩; have HBh := Lib.hid (HB2.out.trans (hbh.mono HB2.out.size))) | fail)
      go_ret
      exact ⟨rfl, HEND.out _ HBh.out⟩
    have hp2 : decide ((pb.size : Int) > 1024) = false := decide_eq_false (by omega)
    obtain ⟨P, hP⟩ : ∃ P, placeL L cwd = P := ⟨_, rfl⟩
    have HPL := Lib.hid (show ∀ W, NodesIn W a cap L → Calls Try.prog 16 #[.agg #[.slice a L.length cap, .int .i64 m, .int .i64 b], .int .i64 cwd] W fun e w' => e = .returned (.string ⟨P.toArray⟩) ∧ Below W.heap.size W w' from fun W hW => by
      rw [← hP]
      exact rplace_any a cap m b cwd L hl (climbs4 HF.out) W hW)
    go_wp2_with fail
    refine (HPL.out _ (HM.out.below HB2.out)).mono ?_
    rintro e w3 ⟨rfl, hb3⟩
    have HB3 := Lib.hid (HB2.out.trans (hb3.mono HB2.out.size))
    clear hb3 q0 q1 q2 HPL
    obtain ⟨q0, q1, q2⟩ := HX.out _ HB3.out
    cases hd : dirB L cwd with
    | false =>
      obtain rfl : P = [] := by rw [← hP]; exact place_none hd
      clear hP hd
      go_wp2_with (first | (go_at_call 9; refine (awake4 _).mono ?_; rintro e wi ⟨rfl, hbi⟩; have HBi := Lib.hid (HB3.out.trans (hbi.mono HB3.out.size))) | fail)
      go_ret
      exact ⟨rfl, HEND.out _ HBi.out⟩
    | true =>
    have hPne : P ≠ [] := by rw [← hP]; exact place_some hd
    have hPe : P.isEmpty = false := by cases P with | nil => exact absurd rfl hPne | cons _ _ => rfl
    have hPb : (P == []) = false := by simpa using hPne
    have HD := Lib.hid hd
    clear hd hP hPne
    by_cases hp0 : pb.data.toList = []
    case pos =>
      have hpb0 : pb.toList.isEmpty = true := by rw [ByteArray.toList_eq, hp0]; rfl
      clear hp0
      go_wp2_with (first | (go_at_call 9; refine (awake4 _).mono ?_; rintro e wj ⟨rfl, hbj⟩; have HBj := Lib.hid (HB3.out.trans (hbj.mono HB3.out.size))) | fail)
      go_ret
      exact ⟨rfl, HEND.out _ HBj.out⟩
    have hpb0 : pb.toList.isEmpty = false := by
      rw [ByteArray.toList_eq]
      cases hq : pb.data.toList with
      | nil => exact absurd hq hp0
      | cons _ _ => rfl
    have hpos : 0 < pb.size := by
      rcases Nat.eq_zero_or_pos pb.size with h | h
      · exact absurd (List.length_eq_zero_iff.1 (by rw [size_list]; exact h)) hp0
      · exact h
    have HP0 := Lib.hid hp0
    have hp3 : pb.size ≤ 1073741824 := by omega
    have heb := end_byte pb hpos
    obtain ⟨s, hsl⟩ : ∃ s, (((pb[pb.size - 1]'(by omega)).toNat : Int) == 47) = s := ⟨_, rfl⟩
    rw [hsl] at heb
    have HEB := Lib.hid heb
    obtain ⟨st, hst⟩ : ∃ st, beginW cwd pb.data.toList = st := ⟨_, rfl⟩
    have HST := Lib.hid hst
    obtain ⟨N, hNe⟩ : ∃ N, N = partsL pb.data.toList := ⟨_, rfl⟩
    have HNE := Lib.hid hNe
    have hpa := rparts_view2 pb hp3 N hNe.symm
    have HPA := Lib.hid hpa
    have hNL : N.length ≤ 1025 := by rw [hNe]; have := count_parts pb.data.toList; rw [size_list] at this; omega
    obtain ⟨⟨rz, re⟩, h1⟩ : ∃ r, walkW L cwd pb.data.toList true = r := ⟨_, rfl⟩
    have H1 := Lib.hid h1
    have HSTT := Lib.hid (show thereB L st = true by
      rw [← hst]
      unfold beginW
      split
      · exact live_there (live_of_dir HF.out.root)
      · exact live_there (live_of_dir HD.out))
    clear heb hst hNe hpa h1 hp0
    have HWHO := Lib.hid (fun W => rwhole_any pb W)
    cases hwh : wholeL pb.data.toList
    all_goals
      rw [hwh] at HWHO
      have hst2 := HST.out
      unfold beginW at hst2
      rw [hwh] at hst2
      simp only [if_true, if_false, Bool.false_eq_true] at hst2
      subst hst2
      clear hwh
      go_wp2_with (first | (go_at_call 17; refine (HWHO.out _).mono ?_; rintro e w' ⟨rfl, rfl⟩) | (go_at_call 18; refine (HPA.out _).mono ?_; rintro e w4 ⟨v4, rfl, hv4, hb4⟩; have HB4 := Lib.hid (HB3.out.trans (hb4.mono HB3.out.size)); (obtain ⟨na, nc, rfl, hc1, hc2, hcell⟩ := hv4); have HC := Lib.hid hcell; clear hb4 hcell) | fail)
      unfold maxLen at hc2
      clear q0 q1 q2
      go_loopw [7, 9, 10, 40] (fun atv _ _ iv wr => NmRel L N (beginW cwd pb.data.toList) w4 atv iv wr) (fun _ _ _ iv _ => N.length - (intOf iv).toNat)
      case atStart => exact ⟨0, _, Nat.zero_le _, rfl, rfl, Lib.hid ⟨HSTT.out, by rw [HST.out]; rfl, fun x hx => by simp at hx⟩, Below.refl _ _⟩
      case round =>
        obtain ⟨i, z, hi, rfl, rfl, hI, hbr⟩ := hrel
        have HI := Lib.hid hI.out
        have HBR := Lib.hid (HB4.out.trans (hbr.mono HB4.out.size))
        have HBR4 := Lib.hid hbr
        have hszr := hbr.size
        obtain ⟨q0, q1, q2⟩ := HX.out _ HBR.out
        clear hI hbr
        by_cases hlt : i < N.length
        case pos =>
          obtain ⟨nb, no, hae, hx'⟩ := HC.out i hlt
          subst hae
          obtain ⟨x, hxe⟩ : ∃ x, x = N[i] := ⟨_, rfl⟩
          have hx := cell_below HBR4.out hx'
          unfold strv at hx
          rw [← hxe] at hx
          have HDR := Lib.hid (show N.drop i = x :: N.drop (i + 1) by rw [hxe]; exact List.drop_eq_getElem_cons hlt)
          have HTK := Lib.hid (show N.take (i + 1) = N.take i ++ [x] by rw [hxe]; exact List.take_succ_eq_append_getElem hlt)
          have hk0 : (0 : Int) ≤ (i : Int) := by omega
          have hsx := str_len x
          clear hx' hxe
          cases hx1 : (x == [46]) with
          | true =>
            go_wp2_with (first | (go_at_call 9; refine (awake4 _).mono ?_; rintro e wn1 ⟨rfl, hbn1⟩; have HBn1 := Lib.hid (HBR.out.trans (hbn1.mono HBR.out.size))) | fail)
            go_ret
            exact ⟨rfl, HEND.out _ HBn1.out⟩
          | false =>
          cases hx2 : (x == [46, 46]) with
          | true =>
            go_wp2_with (first | (go_at_call 9; refine (awake4 _).mono ?_; rintro e wn2 ⟨rfl, hbn2⟩; have HBn2 := Lib.hid (HBR.out.trans (hbn2.mono HBR.out.size))) | fail)
            go_ret
            exact ⟨rfl, HEND.out _ HBn2.out⟩
          | false =>
          by_cases h64 : 64 < x.length
          case pos =>
            have h64d : decide ((x.length : Int) > 64) = true := decide_eq_true (by omega)
            go_wp2_with (first | (go_at_call 9; refine (awake4 _).mono ?_; rintro e wn3 ⟨rfl, hbn3⟩; have HBn3 := Lib.hid (HBR.out.trans (hbn3.mono HBR.out.size))) | fail)
            go_ret
            exact ⟨rfl, HEND.out _ HBn3.out⟩
          have h64d : decide ((x.length : Int) > 64) = false := decide_eq_false (by omega)
          obtain ⟨mv, hmv⟩ : ∃ r, mayL L z 1 = r := ⟨_, rfl⟩
          have HMV := Lib.hid hmv
          clear hmv
          go_wp2_with fail
          refine (may4_at a cap m b z 1 L HF.out.ins mv HMV.out _ (HM.out.below HBR.out)).mono ?_
          rintro e w5 ⟨rfl, hb5⟩
          have HB5 := Lib.hid (HBR.out.trans (hb5.mono HBR.out.size))
          have HB54 := Lib.hid (HBR4.out.trans (hb5.mono hszr))
          clear hb5 q0 q1 q2 hx
          obtain ⟨q0, q1, q2⟩ := HX.out _ HB5.out
          cases mv with
          | false =>
            go_wp2_with (first | (go_at_call 9; refine (awake4 _).mono ?_; rintro e wn4 ⟨rfl, hbn4⟩; have HBn4 := Lib.hid (HB5.out.trans (hbn4.mono HB5.out.size))) | fail)
            go_ret
            exact ⟨rfl, HEND.out _ HBn4.out⟩
          | true =>
          obtain ⟨kz, hkz⟩ : ∃ r, kidL L z x = r := ⟨_, rfl⟩
          have HKZ := Lib.hid hkz
          clear hkz
          go_wp2_with fail
          refine (rkid_known a cap m b z x L kz HKZ.out _ (HM.out.below HB5.out)).mono ?_
          rintro e w6 ⟨rfl, hb6⟩
          have HB6 := Lib.hid (HB5.out.trans (hb6.mono HB5.out.size))
          have HB64 := Lib.hid (HB54.out.trans (hb6.mono HB54.out.size))
          clear hb6 q0 q1 q2
          obtain ⟨q0, q1, q2⟩ := HX.out _ HB6.out
          have hn1 : x ≠ [46] := by simpa using hx1
          have hn2 : x ≠ [46, 46] := by simpa using hx2
          by_cases hkn : kz < 0
          case pos =>
            have hre : re ≠ 0 := by
              have h := walk_err_of (L := L) (cwd := cwd) (p := pb.data.toList) (by
                rw [← HNE.out, HI.out.2.1, HDR.out, wayW_err _ _ _ _ _ _ (step_none hn1 hn2 (by rw [HKZ.out]; exact hkn))]
                exact step_none hn1 hn2 (by rw [HKZ.out]; exact hkn))
              rw [H1.out] at h
              exact h
            have hreb : (re != 0) = true := by simpa using hre
            clear hn1 hn2 hre
            go_wp2_with (first | (go_at_call 10; refine (lwalk_known _ _ _ _ _ _ hp3 _ L HF.out _ _ H1.out _ (HM.out.below HB6.out)).mono ?_; rintro e w7 ⟨rfl, hb7⟩; have HB7 := Lib.hid (HB6.out.trans (hb7.mono HB6.out.size)); clear hb7) | (go_at_call 9; refine (awake4 _).mono ?_; rintro e w8 ⟨rfl, hb8⟩; have HB8 := Lib.hid (HB7.out.trans (hb8.mono HB7.out.size))) | fail)
            go_ret
            exact ⟨rfl, HEND.out _ HB8.out⟩
          have hst := step_go HMV.out hn1 hn2 (by rw [HKZ.out]; omega)
          rw [HKZ.out] at hst
          have hth : thereB L kz = true := by
            have h := live_there (kid_live HF.out (d := z) (x := x) (by rw [HKZ.out]; omega))
            rw [HKZ.out] at h
            exact h
          obtain ⟨u, hu, hul⟩ := there_nat hth
          have hzu : kz = (u : Int) := hu
          subst hzu
          have HST2 := Lib.hid hst
          have HTH := Lib.hid hth
          obtain ⟨bb, o, hae, hxn⟩ := (HM.out.below HB6.out).2.2 u hul
          subst hae
          have x0 := hxn.kind
          have d0 : (0 : Int) ≤ (u : Int) := by omega
          have d1 : (u : Int) < (L.length : Int) := by omega
          have hnneg : decide ((u : Int) < 0) = false := decide_eq_false (by omega)
          clear hxn hst hth hu hkn hn1 hn2
          cases hk3 : (L[u].kind == 3) with
          | true =>
            go_wp2_with (first | (go_at_call 9; refine (awake4 _).mono ?_; rintro e wn5 ⟨rfl, hbn5⟩; have HBn5 := Lib.hid (HB6.out.trans (hbn5.mono HB6.out.size))) | fail)
            go_ret
            exact ⟨rfl, HEND.out _ HBn5.out⟩
          | false =>
            go_wp2_with fail
            go_roundw
            case rel =>
              refine ⟨i + 1, (u : Int), by omega, rfl, by go_num, Lib.hid ⟨HTH.out, ?_, fun y hy => ?_⟩, HB64.out⟩
              · rw [HI.out.2.1, HDR.out]
                exact wayW_on _ _ _ _ _ _ _ HST2.out (Or.inl (by rw [node_nat L u hul]; simpa using hk3))
              · rw [HTK.out, List.mem_append, List.mem_singleton] at hy
                rcases hy with hy | rfl
                · exact HI.out.2.2 y hy
                · omega
            case measure => simp [intOf] <;> omega
        case neg =>
          obtain rfl : i = N.length := by omega
          obtain ⟨u, hu, hul⟩ := there_nat HI.out.1
          have hzu : z = (u : Int) := hu
          subst hzu
          have hw : wayW L true 8 N (beginW cwd pb.data.toList) = ((u : Int), 0) := by rw [HI.out.2.1, List.drop_length, wayW_nil]
          have hbd : badW L cwd pb.data.toList = 0 := no_bad HP0.out HD.out (no_long (by rw [size_list]; exact hp) (fun y hy => HI.out.2.2 y (by rw [List.take_length, HNE.out]; exact hy)))
          have hfin := walk_fin hbd (by rw [← HNE.out]; exact hw)
          rw [H1.out, HEB.out] at hfin
          obtain ⟨dz, hdz⟩ : ∃ dz, dirB L (u : Int) = dz := ⟨_, rfl⟩
          have hkd : (L[u].kind != 2) = !dz := by
            rw [← hdz]
            have h := kind_dir (L := L) (k := (u : Int))
            unfold kindL at h
            rw [there_of L u hul, if_pos rfl, node_nat L u hul] at h
            exact h
          rw [hdz] at hfin
          have HFIN := Lib.hid hfin
          have d0 : (0 : Int) ≤ (u : Int) := by omega
          have d1 : (u : Int) < (L.length : Int) := by omega
          clear hw hbd hfin hdz hu
          go_wp2_with fail
          refine (lwalk_known _ _ _ _ _ _ hp3 _ L HF.out _ _ H1.out _ (HM.out.below HBR.out)).mono ?_
          rintro e w7 ⟨rfl, hb7⟩
          have HB7 := Lib.hid (HBR.out.trans (hb7.mono HBR.out.size))
          clear hb7 q0 q1 q2
          obtain ⟨q0, q1, q2⟩ := HX.out _ HB7.out
          obtain ⟨bb, o, hae, hxn⟩ := (HM.out.below HB7.out).2.2 u hul
          subst hae
          have x0 := hxn.kind
          clear hxn
          cases s with
          | false =>
            obtain ⟨rfl, rfl⟩ : rz = (u : Int) ∧ re = 0 := by
              have h := HFIN.out
              rw [if_neg (by simp)] at h
              exact ⟨congrArg Prod.fst h, congrArg Prod.snd h⟩
            go_wp2_with (first | (go_at_call 9; refine (awake4 _).mono ?_; rintro e wm1 ⟨rfl, hbm1⟩; have HBm1 := Lib.hid (HB7.out.trans (hbm1.mono HB7.out.size))) | fail)
            go_ret
            exact ⟨rfl, HEND.out _ HBm1.out⟩
          | true =>
            cases dz with
            | false =>
              obtain ⟨rfl, rfl⟩ : rz = 0 ∧ re = 20 := by
                have h := HFIN.out
                rw [if_pos (by simp)] at h
                exact ⟨congrArg Prod.fst h, congrArg Prod.snd h⟩
              simp only [Bool.not_false] at hkd
              go_wp2_with (first | (go_at_call 9; refine (awake4 _).mono ?_; rintro e wm2 ⟨rfl, hbm2⟩; have HBm2 := Lib.hid (HB7.out.trans (hbm2.mono HB7.out.size))) | fail)
              go_ret
              exact ⟨rfl, HEND.out _ HBm2.out⟩
            | true =>
              obtain ⟨rfl, rfl⟩ : rz = (u : Int) ∧ re = 0 := by
                have h := HFIN.out
                rw [if_neg (by simp)] at h
                exact ⟨congrArg Prod.fst h, congrArg Prod.snd h⟩
              simp only [Bool.not_true] at hkd
              go_wp2_with (first | (go_at_call 9; refine (awake4 _).mono ?_; rintro e wm3 ⟨rfl, hbm3⟩; have HBm3 := Lib.hid (HB7.out.trans (hbm3.mono HB7.out.size))) | fail)
              go_ret
              exact ⟨rfl, HEND.out _ HBm3.out⟩
end Go.Proofs.Ytgmmggdjcgemfaa
