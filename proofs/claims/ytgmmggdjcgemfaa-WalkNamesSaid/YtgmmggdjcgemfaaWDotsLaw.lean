/-
  The law WalkDots, walked.
-/
import Derived.Test.YtgmmggdjcgemfaaWAwake
namespace Go.Proofs.Ytgmmggdjcgemfaa
open Go Go.RowKit

theorem way_in_snoc {L : List Ino} {k k2 : Int} {x : List UInt8} (hx : stepW L k x = (k2, 0)) (hk2 : (nodeAt L k2).kind ≠ 3) (f : List (List UInt8) → Int → Int × Int) (hf : ∀ N a, f N a = (k, 0) → f (N ++ [x]) a = (k2, 0)) :
    ∀ (N : List (List UInt8)) (a : Int), wayIn L true f N a = (k, 0) → wayIn L true f (N ++ [x]) a = (k2, 0)
  | [], a, h => by
    have e : a = k := congrArg Prod.fst h
    subst e
    show wayIn L true f [x] a = _
    rw [wayIn, hx]
    simp only [ne_eq, not_true, if_false]
    rw [if_pos (Or.inl hk2)]
    rfl
  | y :: r, a, h => by
    rw [wayIn] at h
    show wayIn L true f (y :: (r ++ [x])) a = _
    rw [wayIn]
    split at h
    · rename_i h2
      exact absurd (congrArg Prod.snd h) h2
    · rename_i h2
      rw [if_neg h2]
      split at h
      · rename_i h3
        rw [if_pos (Or.inl (by rcases h3 with h3 | ⟨-, h3⟩; exact h3; cases h3))]
        exact way_in_snoc hx hk2 f hf r _ h
      · rename_i h3
        rw [if_neg (fun h4 => by rcases h4 with h4 | ⟨-, h4⟩; exact h3 (Or.inl h4); cases h4), ← List.append_assoc]
        exact hf _ _ h
theorem way_snoc {L : List Ino} {k k2 : Int} {x : List UInt8} (hx : stepW L k x = (k2, 0)) (hk2 : (nodeAt L k2).kind ≠ 3) : ∀ (n : Nat) (N : List (List UInt8)) (a : Int), wayW L true n N a = (k, 0) → wayW L true n (N ++ [x]) a = (k2, 0)
  | 0, N, a, h => way_in_snoc hx hk2 _ (fun _ _ h => absurd (congrArg Prod.snd h) (show ¬ ((40 : Int) = 0) by decide)) N a h
  | n + 1, N, a, h => way_in_snoc hx hk2 _ (fun N a h => way_snoc hx hk2 n N a h) N a h
theorem dir_kind {L : List Ino} {k : Int} (h : dirB L k = true) : (nodeAt L k).kind ≠ 3 := by rw [node_kind_of h]; decide
theorem whole_app (P Q : List UInt8) (h : P ≠ []) : wholeL (P ++ Q) = wholeL P := by
  cases P with
  | nil => exact absurd rfl h
  | cons c r => rfl
theorem long_no {p : List UInt8} (h : longB p = false) : p.length ≤ 1024 ∧ ∀ x ∈ partsL p, x.length ≤ 64 := by
  unfold longB at h
  rw [Bool.or_eq_false_iff, decide_eq_false_iff_not] at h
  refine ⟨by omega, fun x hx => ?_⟩
  have := (List.any_eq_false.1 h.2) x hx
  simpa using this
theorem no_long {p : List UInt8} (h1 : p.length ≤ 1024) (h2 : ∀ x ∈ partsL p, x.length ≤ 64) : longB p = false := by
  unfold longB
  rw [Bool.or_eq_false_iff]
  refine ⟨decide_eq_false (by omega), List.any_eq_false.2 fun x hx => ?_⟩
  have := h2 x hx
  simpa using this
theorem bad_no {L : List Ino} {cwd : Int} {p : List UInt8} (h : badW L cwd p = 0) : p ≠ [] ∧ dirB L cwd = true ∧ longB p = false := by
  unfold badW at h
  split at h
  · cases h
  · rename_i h1
    split at h
    · cases h
    · rename_i h2
      refine ⟨fun e => h1 (Or.inl e), ?_, by simpa using h2⟩
      cases hd : dirB L cwd with
      | true => rfl
      | false => exact absurd (Or.inr hd) h1
theorem no_bad {L : List Ino} {cwd : Int} {p : List UInt8} (h1 : p ≠ []) (h2 : dirB L cwd = true) (h3 : longB p = false) : badW L cwd p = 0 := by
  unfold badW
  rw [if_neg (fun h => by rcases h with h | h; exact h1 h; rw [h2] at h; cases h), h3]
  rfl
theorem step_dot {L : List Ino} {k : Int} (hd : dirB L k = true) (hm : mayL L k 1 = true) : stepW L k [46] = (k, 0) := by
  unfold stepW
  rw [if_neg (by rw [hd]; simp), if_neg (by rw [hm]; simp), if_pos rfl]
theorem step_up {L : List Ino} {k : Int} (hd : dirB L k = true) (hm : mayL L k 1 = true) : stepW L k [46, 46] = ((nodeAt L k).up, 0) := by
  unfold stepW
  rw [if_neg (by rw [hd]; simp), if_neg (by rw [hm]; simp), if_neg (by decide), if_pos rfl]

/-- P4.2, of a path's end. -/
theorem walk_dots {L : List Ino} {m b : Int} (hF : FitP L m b) {cwd : Int} {P : List UInt8} (hP : P ≠ []) (hl : P.length ≤ 900) {k : Int} (h : walkW L cwd (P ++ [47]) true = (k, 0)) :
    dirB L k = true ∧ (mayL L k 1 = true → walkW L cwd (P ++ [47, 46]) true = (k, 0) ∧ walkW L cwd (P ++ [47, 46, 46]) true = ((nodeAt L k).up, 0)) := by
  have hb : badW L cwd (P ++ [47]) = 0 := by
    unfold walkW at h
    split at h
    · rename_i h1
      exact absurd (congrArg Prod.snd h) h1
    · rename_i h1
      simpa using h1
  obtain ⟨-, hd, hlg⟩ := bad_no hb
  obtain ⟨-, hx⟩ := long_no hlg
  have hp1 : partsL (P ++ [47]) = partsL P := by rw [parts_slash]; simp [partsL, partsGo]
  rw [hp1] at hx
  unfold walkW at h
  rw [hb, if_neg (by simp), hp1] at h
  have hbg : ∀ Q, beginW cwd (P ++ Q) = beginW cwd P := fun Q => by unfold beginW; rw [whole_app P Q hP]
  rw [hbg] at h
  simp only [Bool.true_or] at h
  split at h
  · rename_i h1
    exact absurd (congrArg Prod.snd h) h1
  rename_i h1
  split at h
  · exact absurd (congrArg Prod.snd h) (show ¬ ((20 : Int) = 0) by decide)
  rename_i h2
  have hk : (wayW L true 8 (partsL P) (beginW cwd P)).1 = k := congrArg Prod.fst h
  have he : endL (P ++ [47]) = true := by unfold endL; simp
  have hdk : dirB L k = true := by
    cases hd2 : dirB L k with
    | true => rfl
    | false => exact absurd ⟨he, by rw [hk]; exact hd2⟩ h2
  have hw : wayW L true 8 (partsL P) (beginW cwd P) = (k, 0) := Prod.ext hk (by simpa using h1)
  refine ⟨hdk, fun hm => ?_⟩
  have fin : ∀ (x : List UInt8) (k2 : Int), x ≠ [] → x.length ≤ 2 → NameL x → endL (P ++ 47 :: x) = false → stepW L k x = (k2, 0) → (nodeAt L k2).kind ≠ 3 → walkW L cwd (P ++ 47 :: x) true = (k2, 0) := fun x k2 hx0 hx2 hnx hex hst hk3 => by
    have hpx : partsL (P ++ 47 :: x) = partsL P ++ [x] := by rw [parts_slash, parts_name x hnx]
    have hb2 : badW L cwd (P ++ 47 :: x) = 0 := no_bad (by simp) hd (no_long (by simp only [List.length_append, List.length_cons]; omega) (fun y hy => by
      rw [hpx, List.mem_append, List.mem_singleton] at hy
      rcases hy with hy | rfl
      · exact hx y hy
      · omega))
    have hw2 := way_snoc hst hk3 8 _ _ hw
    unfold walkW
    rw [hb2, if_neg (by simp), hpx, hbg, hex]
    simp only [Bool.true_or]
    rw [hw2, if_neg (by simp), if_neg (by simp)]
  refine ⟨fin [46] k (by simp) (by simp) ⟨by simp, by decide⟩ ?_ (step_dot hdk hm) (dir_kind hdk), fin [46, 46] _ (by simp) (by simp) ⟨by simp, by decide⟩ ?_ (step_up hdk hm) (dir_kind (up_dir hF hdk))⟩
  · unfold endL; simp
  · unfold endL; simp

set_option maxRecDepth 100000 in
set_option maxHeartbeats 8000000 in
theorem wdots_walk (a : Option Addr) (cap : Nat) (m b : Int) (cwd : Int) (pb : ByteArray) (hpb : pb.size ≤ 281474976710656) (L : List Ino) (hS : Sized L) (w : World) (hN : NodesIn w a cap L) :
    Calls Try.prog 7 #[.agg #[.slice a L.length cap, .int .i64 m, .int .i64 b], .int .i64 cwd, .string pb] w fun e w' => e = .returned (.bool true) ∧ Below w.heap.size w w' := by
  obtain ⟨w1, hw1⟩ : ∃ w1, w1 = w.alloc (.cells #[.slice a L.length cap, .int .i64 m, .int .i64 b] 24) := ⟨_, rfl⟩
  have hb1 := below_box w (.cells #[.slice a L.length cap, .int .i64 m, .int .i64 b] 24)
  have hM := hN.below hb1
  have hsz : w1.heap.size = w.heap.size + 1 := by rw [hw1]; simp
  have hbox : ∀ W', Below w1.heap.size w1 W' → W'.cell? ⟨w.heap.size, 0, none⟩ = some (.slice a L.length cap) ∧ W'.cell? ⟨w.heap.size, 1, none⟩ = some (.int .i64 m) ∧ W'.cell? ⟨w.heap.size, 2, none⟩ = some (.int .i64 b) := fun W' h => box3 (by rw [← hw1]; exact h)
  rw [← hw1] at hM hb1
  have HM := Lib.hid hM
  have HB := Lib.hid hb1
  have HX := Lib.hid hbox
  have HEND := Lib.hid (show ∀ W', Below w1.heap.size w1 W' → Below w.heap.size w W' from fun W' h => HB.out.trans (h.mono (by rw [hsz]; omega)))
  have HS := Lib.hid hS
  have hcap := hN.1
  have hmax := hN.2.1
  unfold maxLen at hmax
  clear hM hN hb1 hbox hsz hS
  go_enter Try.func7, Try.ntmps7
  go_wp2_with fail
  rw [← hw1]
  clear hw1
  refine (good4_any a cap m b L HS.out _ HM.out).mono ?_
  rintro e w2 ⟨⟨v, rfl, hv⟩, hb2⟩
  have HV := Lib.hid hv
  have HB2 := Lib.hid hb2
  obtain ⟨q0, q1, q2⟩ := HX.out _ hb2
  clear hv hb2
  cases v with
  | false =>
    go_wp2_with (first | (go_at_call 9; refine (awake4 _).mono ?_; rintro e wg ⟨rfl, hbg⟩; have HBg := Lib.hid (HB2.out.trans (hbg.mono HB2.out.size))) | fail)
    go_ret
    exact ⟨rfl, HEND.out _ HBg.out⟩
  | true =>
    obtain ⟨hl, hF⟩ := HV.out rfl
    have HF := Lib.hid hF
    clear hF
    by_cases hp : pb.size ≤ 900
    case neg =>
      have hp2 : decide ((pb.size : Int) > 900) = true := decide_eq_true (by omega)
      go_wp2_with (first | (go_at_call 9; refine (awake4 _).mono ?_; rintro e wh ⟨rfl, hbh⟩; have HBh := Lib.hid (HB2.out.trans (hbh.mono HB2.out.size))) | fail)
      go_ret
      exact ⟨rfl, HEND.out _ HBh.out⟩
    have hp2 : decide ((pb.size : Int) > 900) = false := decide_eq_false (by omega)
    by_cases hp0 : pb.data.toList = []
    case pos =>
      have hpb0 : pb.toList.isEmpty = true := by rw [ByteArray.toList_eq, hp0]; rfl
      go_wp2_with (first | (go_at_call 9; refine (awake4 _).mono ?_; rintro e wh2 ⟨rfl, hbh2⟩; have HBh2 := Lib.hid (HB2.out.trans (hbh2.mono HB2.out.size))) | fail)
      go_ret
      exact ⟨rfl, HEND.out _ HBh2.out⟩
    have hpb0 : pb.toList.isEmpty = false := by
      rw [ByteArray.toList_eq]
      cases hq : pb.data.toList with
      | nil => exact absurd hq hp0
      | cons _ _ => rfl
    obtain ⟨⟨k, er⟩, h1⟩ : ∃ r, walkW L cwd (pb.data.toList ++ [47]) true = r := ⟨_, rfl⟩
    have H1 := Lib.hid (show walkW L cwd (pb ++ ⟨#[47]⟩).data.toList true = (k, er) by rw [cat_two]; exact h1)
    have hl9 : pb.data.toList.length ≤ 900 := by rw [size_list]; exact hp
    have HD := Lib.hid (fun (e : er = 0) => walk_dots HF.out hp0 hl9 (by rw [h1, e]))
    have hs3 : (pb ++ ⟨#[47]⟩ : ByteArray).size ≤ 1073741824 := by rw [ByteArray.size_append]; show pb.size + 1 ≤ _; omega
    have hs4 : (pb ++ ⟨#[47, 46]⟩ : ByteArray).size ≤ 1073741824 := by rw [ByteArray.size_append]; show pb.size + 2 ≤ _; omega
    have hs5 : (pb ++ ⟨#[47, 46, 46]⟩ : ByteArray).size ≤ 1073741824 := by rw [ByteArray.size_append]; show pb.size + 3 ≤ _; omega
    clear h1 hp0
    go_wp2_with fail
    refine (lwalk_known _ _ _ _ _ _ hs3 _ L HF.out _ _ H1.out _ (HM.out.below HB2.out)).mono ?_
    rintro e w3 ⟨rfl, hb3⟩
    have HB3 := Lib.hid (HB2.out.trans (hb3.mono HB2.out.size))
    clear hb3 q0 q1 q2
    obtain ⟨q0, q1, q2⟩ := HX.out _ HB3.out
    cases he : (er != 0) with
    | true =>
      go_wp2_with (first | (go_at_call 9; refine (awake4 _).mono ?_; rintro e wi ⟨rfl, hbi⟩; have HBi := Lib.hid (HB3.out.trans (hbi.mono HB3.out.size))) | fail)
      go_ret
      exact ⟨rfl, HEND.out _ HBi.out⟩
    | false =>
      obtain rfl : er = 0 := by simpa using he
      obtain ⟨hdk, hrest⟩ := HD.out rfl
      obtain ⟨u, hu, hul⟩ := there_nat (live_there (live_of_dir hdk))
      have hzu : k = (u : Int) := hu
      subst hzu
      have HR := Lib.hid hrest
      have c1 : decide ((u : Int) < 0) = false := decide_eq_false (by omega)
      have c2 : decide ((u : Int) ≥ (L.length : Int)) = false := decide_eq_false (by omega)
      have d0 : (0 : Int) ≤ (u : Int) := by omega
      have d1 : (u : Int) < (L.length : Int) := by omega
      obtain ⟨mv, hmv⟩ : ∃ r, mayL L (u : Int) 1 = r := ⟨_, rfl⟩
      have HMV := Lib.hid hmv
      clear hrest hmv hu hdk
      go_wp2_with fail
      refine (may4_at a cap m b (u : Int) 1 L HF.out.ins mv HMV.out _ (HM.out.below HB3.out)).mono ?_
      rintro e w4 ⟨rfl, hb4⟩
      have HB4 := Lib.hid (HB3.out.trans (hb4.mono HB3.out.size))
      clear hb4 q0 q1 q2
      obtain ⟨q0, q1, q2⟩ := HX.out _ HB4.out
      cases mv with
      | false =>
        go_wp2_with (first | (go_at_call 9; refine (awake4 _).mono ?_; rintro e wj ⟨rfl, hbj⟩; have HBj := Lib.hid (HB4.out.trans (hbj.mono HB4.out.size))) | fail)
        go_ret
        exact ⟨rfl, HEND.out _ HBj.out⟩
      | true =>
        obtain ⟨h2, h3⟩ := HR.out HMV.out
        have H2 := Lib.hid (show walkW L cwd (pb ++ ⟨#[47, 46]⟩).data.toList true = ((u : Int), 0) by rw [cat_two]; exact h2)
        obtain ⟨up, hup⟩ : ∃ up, (nodeAt L (u : Int)).up = up := ⟨_, rfl⟩
        rw [hup] at h3
        have H3 := Lib.hid (show walkW L cwd (pb ++ ⟨#[47, 46, 46]⟩).data.toList true = (up, 0) by rw [cat_two]; exact h3)
        rw [node_nat L u hul] at hup
        have HUP := Lib.hid hup
        clear h2 h3 hup
        go_wp2_with fail
        refine (lwalk_known _ _ _ _ _ _ hs4 _ L HF.out _ _ H2.out _ (HM.out.below HB4.out)).mono ?_
        rintro e w5 ⟨rfl, hb5⟩
        have HB5 := Lib.hid (HB4.out.trans (hb5.mono HB4.out.size))
        clear hb5 q0 q1 q2
        obtain ⟨q0, q1, q2⟩ := HX.out _ HB5.out
        go_wp2_with fail
        refine (lwalk_known _ _ _ _ _ _ hs5 _ L HF.out _ _ H3.out _ (HM.out.below HB5.out)).mono ?_
        rintro e w6 ⟨rfl, hb6⟩
        have HB6 := Lib.hid (HB5.out.trans (hb6.mono HB5.out.size))
        clear hb6 q0 q1 q2
        obtain ⟨q0, q1, q2⟩ := HX.out _ HB6.out
        obtain ⟨bb, o, hae, hx⟩ := (HM.out.below HB6.out).2.2 u hul
        subst hae
        have x5 := hx.up
        rw [HUP.out] at x5
        clear hx
        go_wp2_with (first | (go_at_call 9; refine (awake4 _).mono ?_; rintro e wk ⟨rfl, hbk⟩; have HBk := Lib.hid (HB6.out.trans (hbk.mono HB6.out.size))) | fail)
        go_ret
        exact ⟨rfl, HEND.out _ HBk.out⟩
end Go.Proofs.Ytgmmggdjcgemfaa
