/-
  The law WalkPlaces, walked.
-/
import Derived.Test.YtgmmggdjcgemfaaWNamesLaw
namespace Go.Proofs.Ytgmmggdjcgemfaa
open Go Go.RowKit

theorem may_odd {L : List Ino} {m b : Int} (hF : FitP L m b) (ho : ∀ j (h : j < L.length), L[j].kind = 2 → L[j].mode % 2 ≠ 0) {k : Int} (hd : dirB L k = true) : mayL L k 1 = true := by
  obtain ⟨n, rfl, hn⟩ := dir_lt hd
  have h1 := ho n hn ((dir_nat hn).1 hd)
  have h2 := mode_range hF.ins (there_of L n hn)
  unfold mayL
  rw [live_of_dir hd]
  rw [node_nat L n hn] at h2 ⊢
  have h3 : (L[n].mode % 2 == 1) = true := by rw [beq_iff_eq]; omega
  unfold bitsB
  rw [h3]
  rfl
theorem ok_dots {x : List UInt8} (h : nameOkL x = true) : x ≠ [46] ∧ x ≠ [46, 46] := by
  constructor
  · rintro rfl
    exact absurd h (by decide)
  · rintro rfl
    exact absurd h (by decide)

/-- Where a directory is, and the way there. -/
theorem rplaces {L : List Ino} {m b : Int} (hF : FitP L m b) (ho : ∀ j (h : j < L.length), L[j].kind = 2 → L[j].mode % 2 ≠ 0) : ∀ (j : Nat) (d : Int), dirB L d = true → Rk L d j → ∃ A : List (List UInt8), (∀ x ∈ A, nameOkL x = true) ∧
    (∀ (last : Bool) (n : Nat) (r : List (List UInt8)), wayW L last n (A ++ r) 0 = wayW L last n r d) ∧
    ∀ (n : Nat) (N : List (List UInt8)), j < n → placeGo L n d (sl N.reverse) = sl (A ++ N.reverse)
  | 0, d, hd, hr => by
    have h0 : d = 0 := hr.1
    refine ⟨[], by simp, fun last n r => by rw [h0]; rfl, fun n N hn => ?_⟩
    obtain ⟨n, rfl⟩ : ∃ n', n = n' + 1 := ⟨n - 1, by omega⟩
    rw [place_succ, if_pos h0]
    rfl
  | j + 1, d, hd, hr => by
    have h0 : d ≠ 0 := hr.2 0 (by omega)
    have hup : dirB L (nodeAt L d).up = true := by
      have h := ups_of hF 1 d hd
      exact h
    obtain ⟨u, hu, hul⟩ := dir_lt hup
    obtain ⟨A, hA2, hA1, hA3⟩ := rplaces hF ho j _ hup (rk_up hr)
    obtain ⟨x, hx1, hx2, hx3⟩ := kids_one _ d (one_name hF hul hd h0 hu)
    obtain ⟨i, hi, hie⟩ := List.getElem_of_mem hx2
    have hkid : kidL L (nodeAt L d).up x = d := by
      have h := kid_of hF u hul i hi
      rw [hie] at h
      rw [hu]
      exact h
    have hok : nameOkL x = true := (name_of hF.ins hul hx2).1
    have hpos : 0 ≤ d := there_pos (live_there (live_of_dir hd))
    have hst : stepW L (nodeAt L d).up x = (d, 0) := by
      have h := step_go (may_odd hF ho hup) (ok_dots hok).1 (ok_dots hok).2 (by rw [hkid]; exact hpos)
      rw [hkid] at h
      exact h
    refine ⟨A ++ [x], fun y hy => ?_, fun last n r => ?_, fun n N hn => ?_⟩
    · rcases List.mem_append.1 hy with h | h
      · exact hA2 y h
      · rw [List.mem_singleton.1 h]
        exact hok
    · rw [List.append_assoc, hA1]
      exact wayW_on _ _ _ _ _ _ _ hst (Or.inl (dir_kind hd))
    · obtain ⟨n, rfl⟩ : ∃ n', n = n' + 1 := ⟨n - 1, by omega⟩
      rw [place_succ, if_neg h0]
      have h := hA3 n (N ++ [x]) (by omega)
      rw [List.reverse_append] at h
      have e1 : sl ([x].reverse ++ N.reverse) = kidsTo (nodeAt L (nodeAt L d).up).kids d (sl N.reverse) := by
        rw [hu, node_nat L u hul, hx3]
        rfl
      rw [e1] at h
      rw [h, List.append_assoc]
      rfl

/-- P4.4, of a directory's place. -/
theorem walk_place {L : List Ino} {m b : Int} (hF : FitP L m b) (ho : ∀ j (h : j < L.length), L[j].kind = 2 → L[j].mode % 2 ≠ 0) {d cwd : Int} (hd : dirB L d = true) (hc : dirB L cwd = true) (hlen : (placeL L d).length ≤ 1024) : walkW L cwd (placeL L d) false = (d, 0) := by
  obtain ⟨z, rfl, hz⟩ := dir_lt hd
  obtain ⟨j, hj⟩ := rk_of L.length ((leads_iff L _ _).1 (hF.leads z hz hd))
  have hlt := rk_lt hF.leads hd hj
  obtain ⟨A, h2, h1, h3⟩ := rplaces hF ho j _ hd hj
  have h4 := h3 (L.length + 1) [] (by omega)
  have h4' : placeGo L (L.length + 1) (z : Int) [] = sl A := by
    have e : sl (A ++ ([] : List (List UInt8)).reverse) = sl A := by simp
    rw [e] at h4
    exact h4
  have hp : placeL L (z : Int) = 47 :: joinL A := by
    unfold placeL
    rw [if_pos hd, h4']
    by_cases hA : A = []
    · subst hA
      rfl
    · rw [sl_join A hA, if_neg (by simp)]
  have hnm : ∀ x ∈ A, NameL x := fun x hx => ⟨(name_parts (h2 x hx)).1, (name_parts (h2 x hx)).2.2.2.2⟩
  have hpt : partsL (placeL L (z : Int)) = A := by rw [hp]; exact parts_root A hnm
  have hb : badW L cwd (placeL L (z : Int)) = 0 := no_bad (by rw [hp]; simp) hc (no_long hlen (fun y hy => by
    rw [hpt] at hy
    exact (name_parts (h2 y hy)).2.2.2.1))
  have hbg : beginW cwd (placeL L (z : Int)) = 0 := by rw [hp]; rfl
  have hw : ∀ last, wayW L last 8 A 0 = ((z : Int), 0) := fun last => by
    have h := h1 last 8 []
    rw [List.append_nil, wayW_nil] at h
    exact h
  unfold walkW
  rw [hb, if_neg (by simp), hpt, hbg, hw, if_neg (by simp), hd, if_neg (by simp)]

def PlRel (L : List Ino) (w2 : World) (iv : Value) (wr : World) : Prop :=
  ∃ i : Nat, i ≤ L.length ∧ iv = .int .i64 i ∧ Hid (∀ j (h : j < L.length), j < i → L[j].kind = 2 → L[j].mode % 2 ≠ 0) ∧ Below w2.heap.size w2 wr

set_option maxRecDepth 100000 in
set_option maxHeartbeats 8000000 in
theorem wplaces_walk (a : Option Addr) (cap : Nat) (m b : Int) (d cwd : Int) (L : List Ino) (hS : Sized L) (w : World) (hN : NodesIn w a cap L) :
    Calls Try.prog 4 #[.agg #[.slice a L.length cap, .int .i64 m, .int .i64 b], .int .i64 d, .int .i64 cwd] w fun e w' => e = .returned (.bool true) ∧ Below w.heap.size w w' := by
  obtain ⟨w1, hw1⟩ : ∃ w1, w1 = w.alloc (.cells #[.slice a L.length cap, .int .i64 m, .int .i64 b] 24) := ⟨_, rfl⟩
  have hb1 := below_box w (.cells #[.slice a L.length cap, .int .i64 m, .int .i64 b] 24)
  have hM := hN.below hb1
  have hsz : w1.heap.size = w.heap.size + 1 := by rw [hw1]; simp
  have hbox : ∀ W', Below w1.heap.size w1 W' → W'.cell? ⟨w.heap.size, 0, none⟩ = some (.slice a L.length cap) ∧ W'.cell? ⟨w.heap.size, 1, none⟩ = some (.int .i64 m) ∧ W'.cell? ⟨w.heap.size, 2, none⟩ = some (.int .i64 b) := fun W' h => box3 (by rw [← hw1]; exact h)
  rw [← hw1] at hM hb1
  have HM := Lib.hid hM
  have HB := Lib.hid hb1
  have HX := Lib.hid hbox
  have HEND := Lib.hid (show ∀ W', Below w1.heap.size w1 W' → Below w.heap.size w W' from fun W' h => HB.out.trans (h.mono (by rw [hsz]; omega)))
  have HS := Lib.hid hS
  have hcap := hN.1
  have hmax := hN.2.1
  unfold maxLen at hmax
  clear hM hN hb1 hbox hsz hS
  go_enter Try.func4, Try.ntmps4
  go_wp2_with fail
  rw [← hw1]
  clear hw1
  refine (good4_any a cap m b L HS.out _ HM.out).mono ?_
  rintro e w2 ⟨⟨v, rfl, hv⟩, hb2⟩
  have HV := Lib.hid hv
  have HB2 := Lib.hid hb2
  obtain ⟨q0, q1, q2⟩ := HX.out _ hb2
  clear hv hb2
  cases v with
  | false =>
    go_wp2_with (first | (go_at_call 9; refine (awake4 _).mono ?_; rintro e wg ⟨rfl, hbg⟩; have HBg := Lib.hid (HB2.out.trans (hbg.mono HB2.out.size))) | fail)
    go_ret
    exact ⟨rfl, HEND.out _ HBg.out⟩
  | true =>
    obtain ⟨hl, hF⟩ := HV.out rfl
    have HF := Lib.hid hF
    clear hF
    go_wp2_with fail
    clear q0 q1 q2
    go_loopw [8, 19] (fun _ iv wr => PlRel L w2 iv wr) (fun _ iv _ => L.length - (intOf iv).toNat)
    case atStart => exact ⟨0, Nat.zero_le _, rfl, Lib.hid fun j h hj => absurd hj (Nat.not_lt_zero _), Below.refl _ _⟩
    case round =>
      obtain ⟨i, hi, rfl, hI, hbr⟩ := hrel
      have HI := Lib.hid hI.out
      have HBR := Lib.hid (HB2.out.trans (hbr.mono HB2.out.size))
      have HBR2 := Lib.hid hbr
      have hszr := hbr.size
      clear hI hbr
      by_cases hlt : i < L.length
      case pos =>
        obtain ⟨bb, o, hae, hx⟩ := (HM.out.below HBR.out).2.2 i hlt
        subst hae
        have x0 := hx.kind
        have x1 := hx.mode
        have x2 := hx.links
        have x3 := hx.data
        obtain ⟨kv, x4, hks⟩ := hx.kids
        obtain ⟨ka, kcap, rfl, -, -, -⟩ := hks
        have x5 := hx.up
        have hmr := mode_range HF.out.ins (there_of L i hlt)
        rw [node_nat L i hlt] at hmr
        obtain ⟨qm, hqm⟩ : ∃ qm, L[i].mode = qm := ⟨_, rfl⟩
        rw [hqm] at hmr x1
        obtain ⟨hq1, hq2⟩ := hmr
        have HQM := Lib.hid hqm
        have hi0 : (0 : Int) ≤ (i : Int) := by omega
        have HBA := Lib.hid (show ∀ ob, Below w2.heap.size w2 (wr.alloc ob) from fun ob => HBR2.out.alloc hszr ob)
        have HBA1 := Lib.hid (show ∀ ob, Below w1.heap.size w1 (wr.alloc ob) from fun ob => HBR.out.alloc HBR.out.size ob)
        clear hx hqm
        cases hk2 : (L[i].kind == 2) with
        | false =>
          have HNX := Lib.hid (show ∀ j (h : j < L.length), j < i + 1 → L[j].kind = 2 → L[j].mode % 2 ≠ 0 from fun j h hj hk => by
            by_cases e : j = i
            · subst e
              rw [hk] at hk2
              exact absurd hk2 (by decide)
            · exact HI.out j h (by omega) hk)
          go_wp2_with fail
          go_roundw
          case rel => exact ⟨i + 1, by omega, by go_num, HNX, HBA.out _⟩
          case measure => simp [intOf] <;> omega
        | true =>
          cases hr : (qm % 2 == 0) with
          | true =>
            go_wp2_with fail
            refine (awake4 _).mono ?_
            rintro e w9 ⟨rfl, hb9⟩
            have HB9 := Lib.hid ((HBA1.out _).trans (hb9.mono (HBA1.out _).size))
            go_wp2_with fail
            go_ret
            exact ⟨rfl, HEND.out _ HB9.out⟩
          | false =>
            have HNX := Lib.hid (show ∀ j (h : j < L.length), j < i + 1 → L[j].kind = 2 → L[j].mode % 2 ≠ 0 from fun j h hj hk => by
              by_cases e : j = i
              · subst e
                rw [HQM.out]
                simpa using hr
              · exact HI.out j h (by omega) hk)
            go_wp2_with fail
            go_roundw
            case rel => exact ⟨i + 1, by omega, by go_num, HNX, HBA.out _⟩
            case measure => simp [intOf] <;> omega
      case neg =>
        obtain rfl : i = L.length := by omega
        have HO := Lib.hid (show ∀ j (h : j < L.length), L[j].kind = 2 → L[j].mode % 2 ≠ 0 from fun j h hk => HI.out j h h hk)
        obtain ⟨P, hP⟩ : ∃ P, placeL L d = P := ⟨_, rfl⟩
        have HPL := Lib.hid (show ∀ W, NodesIn W a cap L → Calls Try.prog 16 #[.agg #[.slice a L.length cap, .int .i64 m, .int .i64 b], .int .i64 d] W fun e w' => e = .returned (.string ⟨P.toArray⟩) ∧ Below W.heap.size W w' from fun W hW => by
          rw [← hP]
          exact rplace_any a cap m b d L hl (climbs4 HF.out) W hW)
        obtain ⟨C, hC⟩ : ∃ C, placeL L cwd = C := ⟨_, rfl⟩
        have HCL := Lib.hid (show ∀ W, NodesIn W a cap L → Calls Try.prog 16 #[.agg #[.slice a L.length cap, .int .i64 m, .int .i64 b], .int .i64 cwd] W fun e w' => e = .returned (.string ⟨C.toArray⟩) ∧ Below W.heap.size W w' from fun W hW => by
          rw [← hC]
          exact rplace_any a cap m b cwd L hl (climbs4 HF.out) W hW)
        obtain ⟨q0, q1, q2⟩ := HX.out _ HBR.out
        have hPs := str_len P
        go_wp2_with fail
        refine (HPL.out _ (HM.out.below HBR.out)).mono ?_
        rintro e w3 ⟨rfl, hb3⟩
        have HB3 := Lib.hid (HBR.out.trans (hb3.mono HBR.out.size))
        clear hb3 q0 q1 q2 HPL
        obtain ⟨q0, q1, q2⟩ := HX.out _ HB3.out
        cases hd : dirB L d with
        | false =>
          obtain rfl : P = [] := by rw [← hP]; exact place_none hd
          clear hP hd
          go_wp2_with (first | (go_at_call 9; refine (awake4 _).mono ?_; rintro e wi1 ⟨rfl, hbi1⟩; have HBi1 := Lib.hid (HB3.out.trans (hbi1.mono HB3.out.size))) | fail)
          go_ret
          exact ⟨rfl, HEND.out _ HBi1.out⟩
        | true =>
        have hPne : P ≠ [] := by rw [← hP]; exact place_some hd
        have hPe : P.isEmpty = false := by cases P with | nil => exact absurd rfl hPne | cons _ _ => rfl
        have hPb : (P == []) = false := by simpa using hPne
        clear hPne
        go_wp2_with fail
        refine (HCL.out _ (HM.out.below HB3.out)).mono ?_
        rintro e w4 ⟨rfl, hb4⟩
        have HB4 := Lib.hid (HB3.out.trans (hb4.mono HB3.out.size))
        clear hb4 q0 q1 q2 HCL
        obtain ⟨q0, q1, q2⟩ := HX.out _ HB4.out
        cases hdc : dirB L cwd with
        | false =>
          obtain rfl : C = [] := by rw [← hC]; exact place_none hdc
          clear hC hdc hP hd
          go_wp2_with (first | (go_at_call 9; refine (awake4 _).mono ?_; rintro e wi2 ⟨rfl, hbi2⟩; have HBi2 := Lib.hid (HB4.out.trans (hbi2.mono HB4.out.size))) | fail)
          go_ret
          exact ⟨rfl, HEND.out _ HBi2.out⟩
        | true =>
        have hCne : C ≠ [] := by rw [← hC]; exact place_some hdc
        have hCe : C.isEmpty = false := by cases C with | nil => exact absurd rfl hCne | cons _ _ => rfl
        have hCb : (C == []) = false := by simpa using hCne
        clear hCne hC
        by_cases hlen : P.length ≤ 1024
        case neg =>
          have h64d : decide ((P.length : Int) > 1024) = true := decide_eq_true (by omega)
          clear hP hd hdc
          go_wp2_with (first | (go_at_call 9; refine (awake4 _).mono ?_; rintro e wi3 ⟨rfl, hbi3⟩; have HBi3 := Lib.hid (HB4.out.trans (hbi3.mono HB4.out.size))) | fail)
          go_ret
          exact ⟨rfl, HEND.out _ HBi3.out⟩
        have h64d : decide ((P.length : Int) > 1024) = false := decide_eq_false (by omega)
        have HWK := Lib.hid (show walkW L cwd (⟨P.toArray⟩ : ByteArray).data.toList false = (d, 0) by
          show walkW L cwd P false = _
          rw [← hP]
          exact walk_place HF.out HO.out hd hdc (by rw [hP]; exact hlen))
        have hp3 : (⟨P.toArray⟩ : ByteArray).size ≤ 1073741824 := by rw [hPs]; omega
        clear hP hd hdc
        go_wp2_with (first | (go_at_call 10; refine (lwalk_known _ _ _ _ _ _ hp3 _ L HF.out _ _ HWK.out _ (HM.out.below HB4.out)).mono ?_; rintro e w7 ⟨rfl, hb7⟩; have HB7 := Lib.hid (HB4.out.trans (hb7.mono HB4.out.size)); clear hb7) | (go_at_call 9; refine (awake4 _).mono ?_; rintro e w8 ⟨rfl, hb8⟩; have HB8 := Lib.hid (HB7.out.trans (hb8.mono HB7.out.size))) | fail)
        go_ret
        exact ⟨rfl, HEND.out _ HB8.out⟩
end Go.Proofs.Ytgmmggdjcgemfaa
