/-
  The document's own Constant and Tokens.
-/
import Derived.Test.YtclhpedecimicaaDoorZSame
import Derived.Test.YtclhpedecimicaaDoorRName
namespace Go.Proofs.YtclhpedecimicaaDoor
set_option maxRecDepth 100000
open Go Go.RowKit

/-- A digit's value as the document tells it; below 0 where it is none. -/
def digI (c : UInt8) (b : Nat) : Int := if valZ c < b then (valZ c : Int) else -1
set_option maxHeartbeats 4000000 in
theorem rdigZ (c : UInt8) (b : Nat) (hb : b ≤ 16) (w : World) : Calls Tryd.prog 21 #[.int .u8 (c.toNat : Int), .int .i64 (b : Int)] w fun e w' => e = .returned (.int .i64 (digI c b)) ∧ w = w' := by
  have hc := c.toNat_lt
  by_cases h1 : 48 ≤ c.toNat ∧ c.toNat ≤ 57
  · have hv : (valZ c : Int) = (c.toNat : Int) - 48 := by unfold valZ; rw [if_pos h1]; omega
    by_cases hlt : valZ c < b
    · have e : digI c b = (c.toNat : Int) - 48 := by unfold digI; rw [if_pos hlt, hv]
      rw [e]
      have hlt2 : ¬ (c.toNat : Int) - 48 ≥ (b : Int) := by omega
      obtain ⟨h2, h3⟩ := h1
      clear hv hlt e
      go_enter Tryd.func21, Tryd.ntmps21
      go_wp2
      go_ret
      exact ⟨rfl, by first | rfl | trivial⟩
    · have e : digI c b = -1 := by unfold digI; rw [if_neg hlt]
      rw [e]
      have hlt2 : (c.toNat : Int) - 48 ≥ (b : Int) := by omega
      obtain ⟨h2, h3⟩ := h1
      clear hv hlt e
      go_enter Tryd.func21, Tryd.ntmps21
      go_wp2
      go_ret
      exact ⟨rfl, by first | rfl | trivial⟩
  · by_cases h2 : 97 ≤ c.toNat ∧ c.toNat ≤ 102
    · have hv : (valZ c : Int) = (c.toNat : Int) - 97 + 10 := by unfold valZ; rw [if_neg h1, if_pos ⟨h2.1, by omega⟩]; omega
      obtain ⟨h3, h4⟩ := h2
      have h5 : ¬ c.toNat ≤ 57 := by omega
      clear h1
      by_cases hlt : valZ c < b
      · have e : digI c b = (c.toNat : Int) - 97 + 10 := by unfold digI; rw [if_pos hlt, hv]
        rw [e]
        have hlt2 : ¬ (c.toNat : Int) - 97 + 10 ≥ (b : Int) := by omega
        clear hv hlt e
        go_enter Tryd.func21, Tryd.ntmps21
        go_wp2
        go_ret
        exact ⟨rfl, by first | rfl | trivial⟩
      · have e : digI c b = -1 := by unfold digI; rw [if_neg hlt]
        rw [e]
        have hlt2 : (c.toNat : Int) - 97 + 10 ≥ (b : Int) := by omega
        clear hv hlt e
        go_enter Tryd.func21, Tryd.ntmps21
        go_wp2
        go_ret
        exact ⟨rfl, by first | rfl | trivial⟩
    · by_cases h3 : 65 ≤ c.toNat ∧ c.toNat ≤ 70
      · have hv : (valZ c : Int) = (c.toNat : Int) - 65 + 10 := by unfold valZ; rw [if_neg h1, if_neg (by omega), if_pos ⟨h3.1, by omega⟩]; omega
        obtain ⟨h4, h5⟩ := h3
        have h6 : ¬ c.toNat ≤ 57 := by omega
        have h7 : ¬ 97 ≤ c.toNat := by omega
        clear h1 h2
        by_cases hlt : valZ c < b
        · have e : digI c b = (c.toNat : Int) - 65 + 10 := by unfold digI; rw [if_pos hlt, hv]
          rw [e]
          have hlt2 : ¬ (c.toNat : Int) - 65 + 10 ≥ (b : Int) := by omega
          clear hv hlt e
          go_enter Tryd.func21, Tryd.ntmps21
          go_wp2
          go_ret
          exact ⟨rfl, by first | rfl | trivial⟩
        · have e : digI c b = -1 := by unfold digI; rw [if_neg hlt]
          rw [e]
          have hlt2 : (c.toNat : Int) - 65 + 10 ≥ (b : Int) := by omega
          clear hv hlt e
          go_enter Tryd.func21, Tryd.ntmps21
          go_wp2
          go_ret
          exact ⟨rfl, by first | rfl | trivial⟩
      · have hge : ¬ valZ c < b := by
          unfold valZ
          rw [if_neg h1]
          split
          · omega
          · split <;> omega
        have e : digI c b = -1 := by unfold digI; rw [if_neg hge]
        rw [e]
        have hlt2 : ¬ (-1 : Int) ≥ (b : Int) := by omega
        clear hge e
        by_cases a1 : 48 ≤ c.toNat <;> by_cases a2 : c.toNat ≤ 57 <;> by_cases a3 : 97 ≤ c.toNat <;> by_cases a4 : c.toNat ≤ 102 <;> by_cases a5 : 65 ≤ c.toNat <;> by_cases a6 : c.toNat ≤ 70 <;> first
          | (exfalso; omega)
          | (clear h1 h2 h3
             go_enter Tryd.func21, Tryd.ntmps21
             go_wp2
             go_ret
             exact ⟨rfl, by first | rfl | trivial⟩)

theorem const_c {l : List UInt8} (h : ¬ (1 < l.length ∧ ∃ r, l = 48 :: r)) : constZ l = parseZ 10 l := by
  cases l with
  | nil => rfl
  | cons c r =>
    by_cases hc : c = 48
    · subst hc
      cases r with
      | nil => decide
      | cons d r => exact absurd ⟨by simp, _, rfl⟩ h
    · unfold constZ parseZ
      rw [base_ten hc]
theorem const_b {d : UInt8} {r : List UInt8} (h : ¬ (d = 120 ∨ d = 88)) : constZ (48 :: d :: r) = parseZ 8 (d :: r) := by
  unfold constZ parseZ
  rw [base_oct h]
  simp only
  rw [if_neg (List.cons_ne_nil _ _), if_neg (List.cons_ne_nil _ _), read_zero (by decide)]
theorem const_a {d : UInt8} {r : List UInt8} (h : d = 120 ∨ d = 88) : constZ (48 :: d :: r) = parseZ 16 r := by
  unfold constZ parseZ
  rw [base_hex h]
def endZ (o : Option Nat) : Ending := .returned (.tuple #[.int .i64 ((o.getD 0 : Nat) : Int), .bool o.isSome])
theorem constV_end (l : List UInt8) : Ending.returned (.tuple #[(constV l).1, (constV l).2]) = endZ (constZ l) := rfl
theorem empty_is (b : ByteArray) (h : b.toList.isEmpty = true) : b.data.toList = [] := by
  rw [ByteArray.toList_eq] at h
  simpa using h
theorem empty_not (b : ByteArray) (h : b.toList.isEmpty = false) : b.data.toList ≠ [] := by
  intro e
  rw [ByteArray.toList_eq, e] at h
  cases h
theorem byte_drop (b : ByteArray) (k : Nat) (hlt : k < b.size) : b.data.toList.drop k = b[k] :: b.data.toList.drop (k + 1) :=
  List.drop_eq_getElem_cons (by simpa using hlt)
theorem two_at (s : ByteArray) (h : 1 < s.size) : ∃ r, s.data.toList = s[0] :: s[1] :: r := by
  have h0 := byte_at s 0 (by omega)
  have h1 := byte_at s 1 h
  cases hl : s.data.toList with
  | nil => rw [hl] at h0; cases h0
  | cons c r =>
    cases r with
    | nil => rw [hl] at h1; cases h1
    | cons d r =>
      rw [hl] at h0 h1
      have e0 : c = s[0] := by simpa using h0
      have e1 : d = s[1] := by simpa using h1
      exact ⟨r, by rw [e0, e1]⟩
theorem byte_is (c : UInt8) (n : Nat) (hn : n < 256) (h : ((c.toNat : Int) == (n : Int)) = true) : c = UInt8.ofNat n := by
  have h1 : c.toNat = n := by have := beq_iff_eq.1 h; omega
  rw [← h1]; simp
set_option maxHeartbeats 8000000 in
theorem rconst10 (s : ByteArray) (hs : s.size ≤ 1000000) (w : World) (h : s.size ≤ 1) :
    Calls Tryd.prog 11 #[.string s] w fun e w' => e = endZ (constZ s.data.toList) ∧ w = w' := by
  have hres : constZ s.data.toList = parseZ 10 s.data.toList := const_c (fun hh => by have := hh.1; rw [size_data] at this; omega)
  have hrl : s.size ≤ 1000000 := hs
  have h1 : ¬ (s.size : Int) > 1 := by omega
  clear h
  obtain ⟨o, ho⟩ : ∃ o, o = constZ s.data.toList := ⟨_, rfl⟩
  rw [← ho] at hres ⊢
  clear ho
  have HRD := Lib.hid (hres)
  clear hres
  obtain ⟨t, ht⟩ : ∃ t, t = s := ⟨_, rfl⟩
  subst ht
  cases hemp : t.toList.isEmpty with
  | true =>
    have HZ := Lib.hid (show o = none by rw [HRD.out]; exact if_pos (empty_is _ hemp))
    clear hrl
    go_enter Tryd.func11, Tryd.ntmps11
    go_wp2
    go_ret2
    exact ⟨by rw [HZ.out]; rfl, by first | rfl | trivial⟩
  | false =>
    have HZ := Lib.hid (show o = readZ 10 0 t.data.toList by rw [HRD.out]; exact if_neg (empty_not _ hemp))
    have hemp2 := hemp
    go_enter Tryd.func11, Tryd.ntmps11
    go_wp2_with fail
    clear hemp
    go_loopw [6, 7, 8] (fun nv iv dv wr => ∃ (k acc : Nat) (a : Int), nv = .int .u64 a ∧ iv = .int .i64 k ∧ k ≤ t.size ∧ Hid (a = (acc : Int) ∧ acc ≤ 9223372036854775807 ∧ readZ 10 0 t.data.toList = readZ 10 acc (t.data.toList.drop k)) ∧ wr = w) (fun _ iv _ _ => t.size - (intOf iv).toNat)
    case atStart => exact ⟨0, 0, 0, rfl, rfl, by omega, Lib.hid ⟨rfl, by omega, rfl⟩, rfl⟩
    case round =>
      obtain ⟨k, acc, a, rfl, rfl, hk, hh, rfl⟩ := hrel
      obtain ⟨ha, hacc, hdec⟩ := hh.out
      clear hh
      have a0 : 0 ≤ a := by omega
      have a1 : a ≤ 9223372036854775807 := by omega
      by_cases hkn : k < t.size
      · have hdrop := byte_drop t k hkn
        rw [hdrop] at hdec
        have CD := fun W => rdigZ t[k] 10 (by decide) W
        by_cases hvb : valZ t[k] < 10
        · have e : digI t[k] 10 = (valZ t[k] : Int) := if_pos hvb
          rw [e] at CD
          obtain ⟨dv, hdv⟩ : ∃ dv : Int, dv = (valZ t[k] : Int) := ⟨_, rfl⟩
          rw [← hdv] at CD
          have d0 : 0 ≤ dv := by omega
          have d1 : dv < 10 := by omega
          have dn : ¬ dv < 0 := by omega
          have q0 : 0 ≤ 9223372036854775807 - dv := by omega
          by_cases hov : 9223372036854775807 < acc * 10 + valZ t[k]
          · have HD := Lib.hid (HZ.out.trans (hdec.trans (read_over (r := t.data.toList.drop (k + 1)) hvb hov)))
            have hgt : (9223372036854775807 - dv) / 10 < a := by omega
            clear hdec hov hdv ha hvb e
            go_wp2_with (first | (go_at_call 21; refine (CD _).mono ?_; rintro e w' ⟨rfl, rfl⟩) | fail)
            go_ret2
            exact ⟨by rw [HD.out]; rfl, by first | rfl | trivial⟩
          · have HN := Lib.hid (show a * 10 + dv = ((acc * 10 + valZ t[k] : Nat) : Int) ∧ acc * 10 + valZ t[k] ≤ 9223372036854775807 ∧ readZ 10 0 t.data.toList = readZ 10 (acc * 10 + valZ t[k]) (t.data.toList.drop (k + 1)) from ⟨by omega, by omega, hdec.trans (read_go (r := t.data.toList.drop (k + 1)) hvb hov)⟩)
            have hgt : ¬ (9223372036854775807 - dv) / 10 < a := by omega
            have m0 : 0 ≤ a * 10 := by omega
            have m1 : a * 10 + dv ≤ 9223372036854775807 := by omega
            clear hdec hov hdv ha e hdrop
            go_wp2_with (first | (go_at_call 21; refine (CD _).mono ?_; rintro e w' ⟨rfl, rfl⟩) | fail)
            go_roundw
            case rel => exact ⟨k + 1, acc * 10 + valZ t[k], a * 10 + dv, by first | rfl | trivial, by first | rfl | go_num, by omega, HN, by first | rfl | trivial⟩
            case measure => simp only [intOf]; omega
        · have HD := Lib.hid (HZ.out.trans (hdec.trans (read_no (r := t.data.toList.drop (k + 1)) hvb)))
          have e : digI t[k] 10 = -1 := if_neg hvb
          rw [e] at CD
          clear hdec ha hvb e hdrop
          go_wp2_with (first | (go_at_call 21; refine (CD _).mono ?_; rintro e w' ⟨rfl, rfl⟩) | fail)
          go_ret2
          exact ⟨by rw [HD.out]; rfl, by first | rfl | trivial⟩
      · have hkk : k = t.size := by omega
        have HD := Lib.hid (show o = some acc by rw [HZ.out, hdec, List.drop_eq_nil_of_le (by rw [size_data]; omega)]; rfl)
        have hwr : IntKind.i64.wrap a = a := by rw [IntKind.wrap_i64]; omega
        have HA := Lib.hid ha
        clear hdec ha hkn
        go_wp2_with fail
        go_ret2
        exact ⟨by rw [HD.out]; show _ = Ending.returned (.tuple #[.int .i64 (acc : Int), .bool true]); rw [← HA.out]; rfl, by first | rfl | trivial⟩

set_option maxHeartbeats 8000000 in
theorem rconst10b (s : ByteArray) (hs : s.size ≤ 1000000) (w : World) (h : 1 < s.size) (h0 : ((s[0].toNat : Int) == 48) = false) :
    Calls Tryd.prog 11 #[.string s] w fun e w' => e = endZ (constZ s.data.toList) ∧ w = w' := by
  have hres : constZ s.data.toList = parseZ 10 s.data.toList := const_c (fun hh => by
    obtain ⟨r, hr⟩ := hh.2
    obtain ⟨r2, hr2⟩ := head_at s (by omega)
    rw [hr2] at hr
    rw [(List.cons.inj hr).1] at h0
    cases h0)
  have hrl : s.size ≤ 1000000 := hs
  have h1 : (s.size : Int) > 1 := by omega
  obtain ⟨o, ho⟩ : ∃ o, o = constZ s.data.toList := ⟨_, rfl⟩
  rw [← ho] at hres ⊢
  clear ho
  have HRD := Lib.hid (hres)
  clear hres
  obtain ⟨t, ht⟩ : ∃ t, t = s := ⟨_, rfl⟩
  subst ht
  cases hemp : t.toList.isEmpty with
  | true =>
    have HZ := Lib.hid (show o = none by rw [HRD.out]; exact if_pos (empty_is _ hemp))
    clear hrl
    go_enter Tryd.func11, Tryd.ntmps11
    go_wp2
    go_ret2
    exact ⟨by rw [HZ.out]; rfl, by first | rfl | trivial⟩
  | false =>
    have HZ := Lib.hid (show o = readZ 10 0 t.data.toList by rw [HRD.out]; exact if_neg (empty_not _ hemp))
    have hemp2 := hemp
    go_enter Tryd.func11, Tryd.ntmps11
    go_wp2_with fail
    clear hemp
    go_loopw [6, 7, 8] (fun nv iv dv wr => ∃ (k acc : Nat) (a : Int), nv = .int .u64 a ∧ iv = .int .i64 k ∧ k ≤ t.size ∧ Hid (a = (acc : Int) ∧ acc ≤ 9223372036854775807 ∧ readZ 10 0 t.data.toList = readZ 10 acc (t.data.toList.drop k)) ∧ wr = w) (fun _ iv _ _ => t.size - (intOf iv).toNat)
    case atStart => exact ⟨0, 0, 0, rfl, rfl, by omega, Lib.hid ⟨rfl, by omega, rfl⟩, rfl⟩
    case round =>
      obtain ⟨k, acc, a, rfl, rfl, hk, hh, rfl⟩ := hrel
      obtain ⟨ha, hacc, hdec⟩ := hh.out
      clear hh
      have a0 : 0 ≤ a := by omega
      have a1 : a ≤ 9223372036854775807 := by omega
      by_cases hkn : k < t.size
      · have hdrop := byte_drop t k hkn
        rw [hdrop] at hdec
        have CD := fun W => rdigZ t[k] 10 (by decide) W
        by_cases hvb : valZ t[k] < 10
        · have e : digI t[k] 10 = (valZ t[k] : Int) := if_pos hvb
          rw [e] at CD
          obtain ⟨dv, hdv⟩ : ∃ dv : Int, dv = (valZ t[k] : Int) := ⟨_, rfl⟩
          rw [← hdv] at CD
          have d0 : 0 ≤ dv := by omega
          have d1 : dv < 10 := by omega
          have dn : ¬ dv < 0 := by omega
          have q0 : 0 ≤ 9223372036854775807 - dv := by omega
          by_cases hov : 9223372036854775807 < acc * 10 + valZ t[k]
          · have HD := Lib.hid (HZ.out.trans (hdec.trans (read_over (r := t.data.toList.drop (k + 1)) hvb hov)))
            have hgt : (9223372036854775807 - dv) / 10 < a := by omega
            clear hdec hov hdv ha hvb e
            go_wp2_with (first | (go_at_call 21; refine (CD _).mono ?_; rintro e w' ⟨rfl, rfl⟩) | fail)
            go_ret2
            exact ⟨by rw [HD.out]; rfl, by first | rfl | trivial⟩
          · have HN := Lib.hid (show a * 10 + dv = ((acc * 10 + valZ t[k] : Nat) : Int) ∧ acc * 10 + valZ t[k] ≤ 9223372036854775807 ∧ readZ 10 0 t.data.toList = readZ 10 (acc * 10 + valZ t[k]) (t.data.toList.drop (k + 1)) from ⟨by omega, by omega, hdec.trans (read_go (r := t.data.toList.drop (k + 1)) hvb hov)⟩)
            have hgt : ¬ (9223372036854775807 - dv) / 10 < a := by omega
            have m0 : 0 ≤ a * 10 := by omega
            have m1 : a * 10 + dv ≤ 9223372036854775807 := by omega
            clear hdec hov hdv ha e hdrop
            go_wp2_with (first | (go_at_call 21; refine (CD _).mono ?_; rintro e w' ⟨rfl, rfl⟩) | fail)
            go_roundw
            case rel => exact ⟨k + 1, acc * 10 + valZ t[k], a * 10 + dv, by first | rfl | trivial, by first | rfl | go_num, by omega, HN, by first | rfl | trivial⟩
            case measure => simp only [intOf]; omega
        · have HD := Lib.hid (HZ.out.trans (hdec.trans (read_no (r := t.data.toList.drop (k + 1)) hvb)))
          have e : digI t[k] 10 = -1 := if_neg hvb
          rw [e] at CD
          clear hdec ha hvb e hdrop
          go_wp2_with (first | (go_at_call 21; refine (CD _).mono ?_; rintro e w' ⟨rfl, rfl⟩) | fail)
          go_ret2
          exact ⟨by rw [HD.out]; rfl, by first | rfl | trivial⟩
      · have hkk : k = t.size := by omega
        have HD := Lib.hid (show o = some acc by rw [HZ.out, hdec, List.drop_eq_nil_of_le (by rw [size_data]; omega)]; rfl)
        have hwr : IntKind.i64.wrap a = a := by rw [IntKind.wrap_i64]; omega
        have HA := Lib.hid ha
        clear hdec ha hkn
        go_wp2_with fail
        go_ret2
        exact ⟨by rw [HD.out]; show _ = Ending.returned (.tuple #[.int .i64 (acc : Int), .bool true]); rw [← HA.out]; rfl, by first | rfl | trivial⟩

set_option maxHeartbeats 8000000 in
theorem rconst8 (s : ByteArray) (hs : s.size ≤ 1000000) (w : World) (h : 1 < s.size) (h0 : ((s[0].toNat : Int) == 48) = true) (hx : ((s[1].toNat : Int) == 120) = false) (hX : ((s[1].toNat : Int) == 88) = false) :
    Calls Tryd.prog 11 #[.string s] w fun e w' => e = endZ (constZ s.data.toList) ∧ w = w' := by
  obtain ⟨r, hr⟩ := two_at s h
  rw [byte_is _ 48 (by decide) h0] at hr
  have hd : (s.extract 1 s.size).data.toList = s[1] :: r := by rw [drop_str, hr]; rfl
  have hres : constZ s.data.toList = parseZ 8 (s.extract 1 s.size).data.toList := by
    rw [hd, hr]
    refine const_b ?_
    rintro (e | e)
    · rw [e] at hx; cases hx
    · rw [e] at hX; cases hX
  have hrl : (s.extract 1 s.size).size ≤ 1000000 := by rw [ByteArray.size_extract]; omega
  have h1 : (s.size : Int) > 1 := by omega
  clear hd hr
  obtain ⟨o, ho⟩ : ∃ o, o = constZ s.data.toList := ⟨_, rfl⟩
  rw [← ho] at hres ⊢
  clear ho
  have HRD := Lib.hid (hres)
  clear hres
  obtain ⟨t, ht⟩ : ∃ t, t = s.extract 1 s.size := ⟨_, rfl⟩
  rw [← ht] at HRD hrl
  have HTT := Lib.hid ht
  cases hemp : t.toList.isEmpty with
  | true =>
    have HZ := Lib.hid (show o = none by rw [HRD.out]; exact if_pos (empty_is _ hemp))
    rw [ht] at hemp
    clear ht hrl
    go_enter Tryd.func11, Tryd.ntmps11
    go_wp2
    go_ret2
    exact ⟨by rw [HZ.out]; rfl, by first | rfl | trivial⟩
  | false =>
    have HZ := Lib.hid (show o = readZ 8 0 t.data.toList by rw [HRD.out]; exact if_neg (empty_not _ hemp))
    have hemp2 := hemp
    rw [ht] at hemp
    clear ht
    go_enter Tryd.func11, Tryd.ntmps11
    go_wp2_with fail
    rw [← HTT.out]
    clear hemp
    go_loopw [6, 7, 8] (fun nv iv dv wr => ∃ (k acc : Nat) (a : Int), nv = .int .u64 a ∧ iv = .int .i64 k ∧ k ≤ t.size ∧ Hid (a = (acc : Int) ∧ acc ≤ 9223372036854775807 ∧ readZ 8 0 t.data.toList = readZ 8 acc (t.data.toList.drop k)) ∧ wr = w) (fun _ iv _ _ => t.size - (intOf iv).toNat)
    case atStart => exact ⟨0, 0, 0, rfl, rfl, by omega, Lib.hid ⟨rfl, by omega, rfl⟩, rfl⟩
    case round =>
      obtain ⟨k, acc, a, rfl, rfl, hk, hh, rfl⟩ := hrel
      obtain ⟨ha, hacc, hdec⟩ := hh.out
      clear hh
      have a0 : 0 ≤ a := by omega
      have a1 : a ≤ 9223372036854775807 := by omega
      by_cases hkn : k < t.size
      · have hdrop := byte_drop t k hkn
        rw [hdrop] at hdec
        have CD := fun W => rdigZ t[k] 8 (by decide) W
        by_cases hvb : valZ t[k] < 8
        · have e : digI t[k] 8 = (valZ t[k] : Int) := if_pos hvb
          rw [e] at CD
          obtain ⟨dv, hdv⟩ : ∃ dv : Int, dv = (valZ t[k] : Int) := ⟨_, rfl⟩
          rw [← hdv] at CD
          have d0 : 0 ≤ dv := by omega
          have d1 : dv < 8 := by omega
          have dn : ¬ dv < 0 := by omega
          have q0 : 0 ≤ 9223372036854775807 - dv := by omega
          by_cases hov : 9223372036854775807 < acc * 8 + valZ t[k]
          · have HD := Lib.hid (HZ.out.trans (hdec.trans (read_over (r := t.data.toList.drop (k + 1)) hvb hov)))
            have hgt : (9223372036854775807 - dv) / 8 < a := by omega
            clear hdec hov hdv ha hvb e
            go_wp2_with (first | (go_at_call 21; refine (CD _).mono ?_; rintro e w' ⟨rfl, rfl⟩) | fail)
            go_ret2
            exact ⟨by rw [HD.out]; rfl, by first | rfl | trivial⟩
          · have HN := Lib.hid (show a * 8 + dv = ((acc * 8 + valZ t[k] : Nat) : Int) ∧ acc * 8 + valZ t[k] ≤ 9223372036854775807 ∧ readZ 8 0 t.data.toList = readZ 8 (acc * 8 + valZ t[k]) (t.data.toList.drop (k + 1)) from ⟨by omega, by omega, hdec.trans (read_go (r := t.data.toList.drop (k + 1)) hvb hov)⟩)
            have hgt : ¬ (9223372036854775807 - dv) / 8 < a := by omega
            have m0 : 0 ≤ a * 8 := by omega
            have m1 : a * 8 + dv ≤ 9223372036854775807 := by omega
            clear hdec hov hdv ha e hdrop
            go_wp2_with (first | (go_at_call 21; refine (CD _).mono ?_; rintro e w' ⟨rfl, rfl⟩) | fail)
            go_roundw
            case rel => exact ⟨k + 1, acc * 8 + valZ t[k], a * 8 + dv, by first | rfl | trivial, by first | rfl | go_num, by omega, HN, by first | rfl | trivial⟩
            case measure => simp only [intOf]; omega
        · have HD := Lib.hid (HZ.out.trans (hdec.trans (read_no (r := t.data.toList.drop (k + 1)) hvb)))
          have e : digI t[k] 8 = -1 := if_neg hvb
          rw [e] at CD
          clear hdec ha hvb e hdrop
          go_wp2_with (first | (go_at_call 21; refine (CD _).mono ?_; rintro e w' ⟨rfl, rfl⟩) | fail)
          go_ret2
          exact ⟨by rw [HD.out]; rfl, by first | rfl | trivial⟩
      · have hkk : k = t.size := by omega
        have HD := Lib.hid (show o = some acc by rw [HZ.out, hdec, List.drop_eq_nil_of_le (by rw [size_data]; omega)]; rfl)
        have hwr : IntKind.i64.wrap a = a := by rw [IntKind.wrap_i64]; omega
        have HA := Lib.hid ha
        clear hdec ha hkn
        go_wp2_with fail
        go_ret2
        exact ⟨by rw [HD.out]; show _ = Ending.returned (.tuple #[.int .i64 (acc : Int), .bool true]); rw [← HA.out]; rfl, by first | rfl | trivial⟩

set_option maxHeartbeats 8000000 in
theorem rconst16 (s : ByteArray) (hs : s.size ≤ 1000000) (w : World) (h : 1 < s.size) (h0 : ((s[0].toNat : Int) == 48) = true) (hx : ((s[1].toNat : Int) == 120) = true) :
    Calls Tryd.prog 11 #[.string s] w fun e w' => e = endZ (constZ s.data.toList) ∧ w = w' := by
  obtain ⟨r, hr⟩ := two_at s h
  rw [byte_is _ 48 (by decide) h0] at hr
  have hd : (s.extract 2 s.size).data.toList = r := by rw [drop_str, hr]; rfl
  have hres : constZ s.data.toList = parseZ 16 (s.extract 2 s.size).data.toList := by
    rw [hd, hr]
    exact const_a (.inl (byte_is _ 120 (by decide) hx))
  have hrl : (s.extract 2 s.size).size ≤ 1000000 := by rw [ByteArray.size_extract]; omega
  have h1 : (s.size : Int) > 1 := by omega
  clear hd hr
  obtain ⟨o, ho⟩ : ∃ o, o = constZ s.data.toList := ⟨_, rfl⟩
  rw [← ho] at hres ⊢
  clear ho
  have HRD := Lib.hid (hres)
  clear hres
  obtain ⟨t, ht⟩ : ∃ t, t = s.extract 2 s.size := ⟨_, rfl⟩
  rw [← ht] at HRD hrl
  have HTT := Lib.hid ht
  cases hemp : t.toList.isEmpty with
  | true =>
    have HZ := Lib.hid (show o = none by rw [HRD.out]; exact if_pos (empty_is _ hemp))
    rw [ht] at hemp
    clear ht hrl
    go_enter Tryd.func11, Tryd.ntmps11
    go_wp2
    go_ret2
    exact ⟨by rw [HZ.out]; rfl, by first | rfl | trivial⟩
  | false =>
    have HZ := Lib.hid (show o = readZ 16 0 t.data.toList by rw [HRD.out]; exact if_neg (empty_not _ hemp))
    have hemp2 := hemp
    rw [ht] at hemp
    clear ht
    go_enter Tryd.func11, Tryd.ntmps11
    go_wp2_with fail
    rw [← HTT.out]
    clear hemp
    go_loopw [6, 7, 8] (fun nv iv dv wr => ∃ (k acc : Nat) (a : Int), nv = .int .u64 a ∧ iv = .int .i64 k ∧ k ≤ t.size ∧ Hid (a = (acc : Int) ∧ acc ≤ 9223372036854775807 ∧ readZ 16 0 t.data.toList = readZ 16 acc (t.data.toList.drop k)) ∧ wr = w) (fun _ iv _ _ => t.size - (intOf iv).toNat)
    case atStart => exact ⟨0, 0, 0, rfl, rfl, by omega, Lib.hid ⟨rfl, by omega, rfl⟩, rfl⟩
    case round =>
      obtain ⟨k, acc, a, rfl, rfl, hk, hh, rfl⟩ := hrel
      obtain ⟨ha, hacc, hdec⟩ := hh.out
      clear hh
      have a0 : 0 ≤ a := by omega
      have a1 : a ≤ 9223372036854775807 := by omega
      by_cases hkn : k < t.size
      · have hdrop := byte_drop t k hkn
        rw [hdrop] at hdec
        have CD := fun W => rdigZ t[k] 16 (by decide) W
        by_cases hvb : valZ t[k] < 16
        · have e : digI t[k] 16 = (valZ t[k] : Int) := if_pos hvb
          rw [e] at CD
          obtain ⟨dv, hdv⟩ : ∃ dv : Int, dv = (valZ t[k] : Int) := ⟨_, rfl⟩
          rw [← hdv] at CD
          have d0 : 0 ≤ dv := by omega
          have d1 : dv < 16 := by omega
          have dn : ¬ dv < 0 := by omega
          have q0 : 0 ≤ 9223372036854775807 - dv := by omega
          by_cases hov : 9223372036854775807 < acc * 16 + valZ t[k]
          · have HD := Lib.hid (HZ.out.trans (hdec.trans (read_over (r := t.data.toList.drop (k + 1)) hvb hov)))
            have hgt : (9223372036854775807 - dv) / 16 < a := by omega
            clear hdec hov hdv ha hvb e
            go_wp2_with (first | (go_at_call 21; refine (CD _).mono ?_; rintro e w' ⟨rfl, rfl⟩) | fail)
            go_ret2
            exact ⟨by rw [HD.out]; rfl, by first | rfl | trivial⟩
          · have HN := Lib.hid (show a * 16 + dv = ((acc * 16 + valZ t[k] : Nat) : Int) ∧ acc * 16 + valZ t[k] ≤ 9223372036854775807 ∧ readZ 16 0 t.data.toList = readZ 16 (acc * 16 + valZ t[k]) (t.data.toList.drop (k + 1)) from ⟨by omega, by omega, hdec.trans (read_go (r := t.data.toList.drop (k + 1)) hvb hov)⟩)
            have hgt : ¬ (9223372036854775807 - dv) / 16 < a := by omega
            have m0 : 0 ≤ a * 16 := by omega
            have m1 : a * 16 + dv ≤ 9223372036854775807 := by omega
            clear hdec hov hdv ha e hdrop
            go_wp2_with (first | (go_at_call 21; refine (CD _).mono ?_; rintro e w' ⟨rfl, rfl⟩) | fail)
            go_roundw
            case rel => exact ⟨k + 1, acc * 16 + valZ t[k], a * 16 + dv, by first | rfl | trivial, by first | rfl | go_num, by omega, HN, by first | rfl | trivial⟩
            case measure => simp only [intOf]; omega
        · have HD := Lib.hid (HZ.out.trans (hdec.trans (read_no (r := t.data.toList.drop (k + 1)) hvb)))
          have e : digI t[k] 16 = -1 := if_neg hvb
          rw [e] at CD
          clear hdec ha hvb e hdrop
          go_wp2_with (first | (go_at_call 21; refine (CD _).mono ?_; rintro e w' ⟨rfl, rfl⟩) | fail)
          go_ret2
          exact ⟨by rw [HD.out]; rfl, by first | rfl | trivial⟩
      · have hkk : k = t.size := by omega
        have HD := Lib.hid (show o = some acc by rw [HZ.out, hdec, List.drop_eq_nil_of_le (by rw [size_data]; omega)]; rfl)
        have hwr : IntKind.i64.wrap a = a := by rw [IntKind.wrap_i64]; omega
        have HA := Lib.hid ha
        clear hdec ha hkn
        go_wp2_with fail
        go_ret2
        exact ⟨by rw [HD.out]; show _ = Ending.returned (.tuple #[.int .i64 (acc : Int), .bool true]); rw [← HA.out]; rfl, by first | rfl | trivial⟩

set_option maxHeartbeats 8000000 in
theorem rconst16X (s : ByteArray) (hs : s.size ≤ 1000000) (w : World) (h : 1 < s.size) (h0 : ((s[0].toNat : Int) == 48) = true) (hx : ((s[1].toNat : Int) == 120) = false) (hX : ((s[1].toNat : Int) == 88) = true) :
    Calls Tryd.prog 11 #[.string s] w fun e w' => e = endZ (constZ s.data.toList) ∧ w = w' := by
  obtain ⟨r, hr⟩ := two_at s h
  rw [byte_is _ 48 (by decide) h0] at hr
  have hd : (s.extract 2 s.size).data.toList = r := by rw [drop_str, hr]; rfl
  have hres : constZ s.data.toList = parseZ 16 (s.extract 2 s.size).data.toList := by
    rw [hd, hr]
    exact const_a (.inr (byte_is _ 88 (by decide) hX))
  have hrl : (s.extract 2 s.size).size ≤ 1000000 := by rw [ByteArray.size_extract]; omega
  have h1 : (s.size : Int) > 1 := by omega
  clear hd hr
  obtain ⟨o, ho⟩ : ∃ o, o = constZ s.data.toList := ⟨_, rfl⟩
  rw [← ho] at hres ⊢
  clear ho
  have HRD := Lib.hid (hres)
  clear hres
  obtain ⟨t, ht⟩ : ∃ t, t = s.extract 2 s.size := ⟨_, rfl⟩
  rw [← ht] at HRD hrl
  have HTT := Lib.hid ht
  cases hemp : t.toList.isEmpty with
  | true =>
    have HZ := Lib.hid (show o = none by rw [HRD.out]; exact if_pos (empty_is _ hemp))
    rw [ht] at hemp
    clear ht hrl
    go_enter Tryd.func11, Tryd.ntmps11
    go_wp2
    go_ret2
    exact ⟨by rw [HZ.out]; rfl, by first | rfl | trivial⟩
  | false =>
    have HZ := Lib.hid (show o = readZ 16 0 t.data.toList by rw [HRD.out]; exact if_neg (empty_not _ hemp))
    have hemp2 := hemp
    rw [ht] at hemp
    clear ht
    go_enter Tryd.func11, Tryd.ntmps11
    go_wp2_with fail
    rw [← HTT.out]
    clear hemp
    go_loopw [6, 7, 8] (fun nv iv dv wr => ∃ (k acc : Nat) (a : Int), nv = .int .u64 a ∧ iv = .int .i64 k ∧ k ≤ t.size ∧ Hid (a = (acc : Int) ∧ acc ≤ 9223372036854775807 ∧ readZ 16 0 t.data.toList = readZ 16 acc (t.data.toList.drop k)) ∧ wr = w) (fun _ iv _ _ => t.size - (intOf iv).toNat)
    case atStart => exact ⟨0, 0, 0, rfl, rfl, by omega, Lib.hid ⟨rfl, by omega, rfl⟩, rfl⟩
    case round =>
      obtain ⟨k, acc, a, rfl, rfl, hk, hh, rfl⟩ := hrel
      obtain ⟨ha, hacc, hdec⟩ := hh.out
      clear hh
      have a0 : 0 ≤ a := by omega
      have a1 : a ≤ 9223372036854775807 := by omega
      by_cases hkn : k < t.size
      · have hdrop := byte_drop t k hkn
        rw [hdrop] at hdec
        have CD := fun W => rdigZ t[k] 16 (by decide) W
        by_cases hvb : valZ t[k] < 16
        · have e : digI t[k] 16 = (valZ t[k] : Int) := if_pos hvb
          rw [e] at CD
          obtain ⟨dv, hdv⟩ : ∃ dv : Int, dv = (valZ t[k] : Int) := ⟨_, rfl⟩
          rw [← hdv] at CD
          have d0 : 0 ≤ dv := by omega
          have d1 : dv < 16 := by omega
          have dn : ¬ dv < 0 := by omega
          have q0 : 0 ≤ 9223372036854775807 - dv := by omega
          by_cases hov : 9223372036854775807 < acc * 16 + valZ t[k]
          · have HD := Lib.hid (HZ.out.trans (hdec.trans (read_over (r := t.data.toList.drop (k + 1)) hvb hov)))
            have hgt : (9223372036854775807 - dv) / 16 < a := by omega
            clear hdec hov hdv ha hvb e
            go_wp2_with (first | (go_at_call 21; refine (CD _).mono ?_; rintro e w' ⟨rfl, rfl⟩) | fail)
            go_ret2
            exact ⟨by rw [HD.out]; rfl, by first | rfl | trivial⟩
          · have HN := Lib.hid (show a * 16 + dv = ((acc * 16 + valZ t[k] : Nat) : Int) ∧ acc * 16 + valZ t[k] ≤ 9223372036854775807 ∧ readZ 16 0 t.data.toList = readZ 16 (acc * 16 + valZ t[k]) (t.data.toList.drop (k + 1)) from ⟨by omega, by omega, hdec.trans (read_go (r := t.data.toList.drop (k + 1)) hvb hov)⟩)
            have hgt : ¬ (9223372036854775807 - dv) / 16 < a := by omega
            have m0 : 0 ≤ a * 16 := by omega
            have m1 : a * 16 + dv ≤ 9223372036854775807 := by omega
            clear hdec hov hdv ha e hdrop
            go_wp2_with (first | (go_at_call 21; refine (CD _).mono ?_; rintro e w' ⟨rfl, rfl⟩) | fail)
            go_roundw
            case rel => exact ⟨k + 1, acc * 16 + valZ t[k], a * 16 + dv, by first | rfl | trivial, by first | rfl | go_num, by omega, HN, by first | rfl | trivial⟩
            case measure => simp only [intOf]; omega
        · have HD := Lib.hid (HZ.out.trans (hdec.trans (read_no (r := t.data.toList.drop (k + 1)) hvb)))
          have e : digI t[k] 16 = -1 := if_neg hvb
          rw [e] at CD
          clear hdec ha hvb e hdrop
          go_wp2_with (first | (go_at_call 21; refine (CD _).mono ?_; rintro e w' ⟨rfl, rfl⟩) | fail)
          go_ret2
          exact ⟨by rw [HD.out]; rfl, by first | rfl | trivial⟩
      · have hkk : k = t.size := by omega
        have HD := Lib.hid (show o = some acc by rw [HZ.out, hdec, List.drop_eq_nil_of_le (by rw [size_data]; omega)]; rfl)
        have hwr : IntKind.i64.wrap a = a := by rw [IntKind.wrap_i64]; omega
        have HA := Lib.hid ha
        clear hdec ha hkn
        go_wp2_with fail
        go_ret2
        exact ⟨by rw [HD.out]; show _ = Ending.returned (.tuple #[.int .i64 (acc : Int), .bool true]); rw [← HA.out]; rfl, by first | rfl | trivial⟩

theorem rconstZ (s : ByteArray) (hs : s.size ≤ 1000000) (w : World) :
    Calls Tryd.prog 11 #[.string s] w fun e w' => e = endZ (constZ s.data.toList) ∧ w = w' := by
  by_cases h : 1 < s.size
  · cases h0 : ((s[0].toNat : Int) == 48) with
    | false => exact rconst10b s hs w h h0
    | true =>
      cases hx : ((s[1].toNat : Int) == 120) with
      | true => exact rconst16 s hs w h h0 hx
      | false =>
        cases hX : ((s[1].toNat : Int) == 88) with
        | true => exact rconst16X s hs w h h0 hx hX
        | false => exact rconst8 s hs w h h0 hx hX
  · exact rconst10 s hs w (by omega)
end Go.Proofs.YtclhpedecimicaaDoor
