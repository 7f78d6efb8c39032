/-
  The library's ParseUint to the bases 8, 10 and 16, for numbers of 63 bits.
-/
import Derived.Lib.ConvBytes
import Derived.Lib.AtoiAllMem
import Derived.Laws.Strings3
import Derived.Laws.Closers25
import Derived.Laws.Closers25b
import Derived.BigGuard
import Derived.BigCall
import Derived.Test.YtclhpedecimicaaDoorZLite
namespace Go.Proofs.YtclhpedecimicaaDoor
set_option maxRecDepth 100000
open Go Go.RowKit

theorem llower (n : Int) (w : World) : Calls Tryd.prog 36 #[.int .u8 n] w fun e w' => e = .returned (.int .u8 (bits .or .u8 n 32)) ∧ w = w' := by
  go_enter Tryd.func36, Tryd.ntmps36
  go_wp2
  go_ret
  exact ⟨rfl, rfl⟩

def clsB (n : Nat) : Bool :=
  let v := bits .or .u8 (n : Int) 32
  if 48 ≤ n ∧ n ≤ 57 then valZ (UInt8.ofNat n) == n - 48
  else if 97 ≤ v ∧ v ≤ 122 then decide (57 < n) && n != 95 && (valZ (UInt8.ofNat n) : Int) == v - 87
  else valZ (UInt8.ofNat n) == 99
theorem cls_all : ∀ n : Fin 256, clsB n.val = true := by decide +kernel
theorem cls (c : UInt8) : (48 ≤ c.toNat ∧ c.toNat ≤ 57 ∧ valZ c = c.toNat - 48) ∨
    (57 < c.toNat ∧ c.toNat ≠ 95 ∧ 97 ≤ bits .or .u8 (c.toNat : Int) 32 ∧ bits .or .u8 (c.toNat : Int) 32 ≤ 122 ∧ (valZ c : Int) = bits .or .u8 (c.toNat : Int) 32 - 87) ∨
    (¬ (48 ≤ c.toNat ∧ c.toNat ≤ 57) ∧ ¬ (97 ≤ bits .or .u8 (c.toNat : Int) 32 ∧ bits .or .u8 (c.toNat : Int) 32 ≤ 122) ∧ valZ c = 99) := by
  have h := cls_all ⟨c.toNat, c.toNat_lt⟩
  have e : UInt8.ofNat c.toNat = c := by simp
  unfold clsB at h
  simp only [e] at h
  split at h
  · rename_i h1
    exact .inl ⟨h1.1, h1.2, by simpa using h⟩
  · rename_i h1
    split at h
    · rename_i h2
      simp only [Bool.and_eq_true, bne_iff_ne, ne_eq, beq_iff_eq, decide_eq_true_eq] at h
      exact .inr (.inl ⟨h.1.1, h.1.2, h2.1, h2.2, h.2⟩)
    · rename_i h2
      exact .inr (.inr ⟨h1, h2, by simpa using h⟩)

/-- How a reading ends. -/
def EndP (o : Option Nat) (e : Ending) : Prop :=
  match o with
  | some n => e = .returned (.tuple #[.int .u64 (n : Int), .nilIface])
  | none => ∃ (x k : Int), (k = 1 ∨ k = 2) ∧ e = .returned (.tuple #[.int .u64 x, .iface 61 (.int .i64 k)])
theorem read_no {b acc : Nat} {c : UInt8} {r : List UInt8} (h : ¬ valZ c < b) : readZ b acc (c :: r) = none := by
  unfold readZ; rw [if_neg h]
theorem read_over {b acc : Nat} {c : UInt8} {r : List UInt8} (h : valZ c < b) (h2 : 9223372036854775807 < acc * b + valZ c) : readZ b acc (c :: r) = none := by
  unfold readZ; rw [if_pos h, if_pos h2]
theorem read_go {b acc : Nat} {c : UInt8} {r : List UInt8} (h : valZ c < b) (h2 : ¬ 9223372036854775807 < acc * b + valZ c) : readZ b acc (c :: r) = readZ b (acc * b + valZ c) r := by
  conv => lhs; unfold readZ
  rw [if_pos h, if_neg h2]

set_option maxHeartbeats 32000000 in
theorem lpu8 (t : ByteArray) (hne : t.size ≠ 0) (hmax : t.size ≤ 1000000) (w : World) :
    Calls Tryd.prog 29 #[.string t, .int .i64 8, .int .i64 63] w fun e w' => EndP (readZ 8 0 t.data.toList) e ∧ w' = Lib.bytesWorld w 5 t := by
  have hemp : t.toList.isEmpty = false := by
    rw [← decide_eq_emptyBytes]
    exact decide_eq_false (fun h => hne (by rw [h]; rfl))
  have hcv := Lib.run_convert_string_bytes (P := Tryd.prog) w 9 64 5 t (u := .string) Tryd.underlying9 Tryd.underlying64 Tryd.underlying5
  have hB : ∀ j, j < t.size → (Lib.bytesWorld w 5 t).cell? ⟨w.heap.size, j, none⟩ = some (.int .u8 (t.data.toList.getD j 0).toNat) := fun j hj => Lib.bytesWorld_cell w 5 t j hj
  obtain ⟨W1, hW1⟩ : ∃ W1, W1 = Lib.bytesWorld w 5 t := ⟨_, rfl⟩
  rw [← hW1] at hcv hB ⊢
  clear hW1
  obtain ⟨bs, hL⟩ : ∃ bs, bs = t.data.toList := ⟨_, rfl⟩
  have hLn : bs.length = t.size := by rw [hL, size_data]
  rw [← hL] at hB ⊢
  clear hL
  have hmv : IntKind.u64.wrap (IntKind.u64.wrap 9223372036854775808 - 1) = 9223372036854775807 := by
    rw [IntKind.wrap_u64, IntKind.wrap_u64]
    decide
  go_enter Tryd.func29, Tryd.ntmps29
  go_wp2
  go_loopw [12, 13, 101] (fun vu vn vi wr => ∃ (k acc : Nat) (a : Int), vu = .bool false ∧ vn = .int .u64 a ∧ vi = .int .i64 k ∧ k ≤ t.size ∧ Hid (a = (acc : Int) ∧ acc ≤ 9223372036854775807 ∧ readZ 8 0 bs = readZ 8 acc (bs.drop k)) ∧ wr = W1)
    (fun _ _ vi _ => t.size - (intOf vi).toNat)
  case atStart => exact ⟨0, 0, 0, rfl, rfl, rfl, by omega, Lib.hid ⟨rfl, by omega, rfl⟩, rfl⟩
  case round =>
    obtain ⟨k, acc, a, rfl, rfl, rfl, hk, hh, rfl⟩ := hrel
    obtain ⟨ha, hacc, hdec⟩ := hh.out
    clear hh
    have a0 : 0 ≤ a := by omega
    have a1 : a ≤ 9223372036854775807 := by omega
    by_cases hkn : k < t.size
    · have hc := hB k hkn
      have hdrop : bs.drop k = bs[k]'(by omega) :: bs.drop (k + 1) := List.drop_eq_getElem_cons (by omega)
      have hget : bs.getD k 0 = bs[k]'(by omega) := by simp [List.getD, List.getElem?_eq_getElem (show k < bs.length by omega)]
      rw [hdrop] at hdec
      rw [hget] at hc
      generalize bs[k]'(by omega) = c at hc hdec
      have hc256 : c.toNat < 256 := c.toNat_lt
      clear hB hdrop hget
      have CL := fun W => llower (c.toNat : Int) W
      rcases cls c with ⟨hd0, hd1, hv⟩ | ⟨hnd, h95, hv0, hv1, hv⟩ | ⟨hnd, hnv, hv⟩
      · have dv : (valZ c : Int) = (c.toNat : Int) - 48 := by omega
        clear CL
        by_cases hvb : valZ c < 8
        · have hd8 : (c.toNat : Int) - 48 < 8 := by omega
          by_cases hov : 9223372036854775807 < acc * 8 + valZ c
          · have hF := read_over (r := bs.drop (k + 1)) hvb hov
            rw [hF] at hdec
            have HD := Lib.hid hdec
            by_cases hcut : 2305843009213693952 ≤ a
            · clear hF hov ha hdec
              go_wp2_with (first | (go_at_call 36; refine (CL _).mono ?_; rintro e w' ⟨rfl, rfl⟩) | fail)
              go_ret2
              exact ⟨by rw [HD.out]; exact ⟨_, 1, .inl rfl, rfl⟩, rfl⟩
            · have hcut2 : a < 2305843009213693952 := by omega
              have hm0 : 0 ≤ a * 8 := by omega
              have hm1 : a * 8 < 18446744073709551616 := by omega
              have hwr : a * 8 + ((c.toNat : Int) - 48) < 18446744073709551616 := by omega
              have hbig : 9223372036854775807 < a * 8 + ((c.toNat : Int) - 48) := by omega
              have hge : ¬ (a * 8 + ((c.toNat : Int) - 48) < a * 8) := by omega
              clear hF hov ha hdec hcut
              go_wp2_with (first | (go_at_call 36; refine (CL _).mono ?_; rintro e w' ⟨rfl, rfl⟩) | fail)
              go_ret2
              exact ⟨by rw [HD.out]; exact ⟨_, 1, .inl rfl, rfl⟩, rfl⟩
          · have hF := read_go (r := bs.drop (k + 1)) hvb hov
            have hcut2 : a < 2305843009213693952 := by omega
            have hm0 : 0 ≤ a * 8 := by omega
            have hm1 : a * 8 < 18446744073709551616 := by omega
            have hge : ¬ (a * 8 + ((c.toNat : Int) - 48) < a * 8) := by omega
            have hbig : ¬ 9223372036854775807 < a * 8 + ((c.toNat : Int) - 48) := by omega
            have HN := Lib.hid (show a * 8 + ((c.toNat : Int) - 48) = ((acc * 8 + valZ c : Nat) : Int) ∧ acc * 8 + valZ c ≤ 9223372036854775807 ∧ readZ 8 0 bs = readZ 8 (acc * 8 + valZ c) (bs.drop (k + 1)) from ⟨by omega, by omega, hdec.trans hF⟩)
            clear hF hov ha hdec
            go_wp2_with (first | (go_at_call 36; refine (CL _).mono ?_; rintro e w' ⟨rfl, rfl⟩) | fail)
            go_roundw
            case rel => exact ⟨k + 1, acc * 8 + valZ c, a * 8 + ((c.toNat : Int) - 48), by first | rfl | trivial, by first | rfl | trivial, by first | rfl | go_num, by omega, HN, by first | rfl | trivial⟩
            case measure => simp only [intOf]; omega
        · have hd8 : 8 ≤ (c.toNat : Int) - 48 := by omega
          have HD := Lib.hid (hdec.trans (read_no (r := bs.drop (k + 1)) hvb))
          clear hdec ha
          go_wp2_with (first | (go_at_call 36; refine (CL _).mono ?_; rintro e w' ⟨rfl, rfl⟩) | fail)
          all_goals go_ret2
          all_goals exact ⟨by rw [HD.out]; exact ⟨_, 2, .inr rfl, rfl⟩, by first | rfl | trivial⟩
      · obtain ⟨v, hvv⟩ : ∃ v, v = bits .or .u8 (c.toNat : Int) 32 := ⟨_, rfl⟩
        rw [← hvv] at hv0 hv1 hv
        simp only [← hvv] at CL
        have h95i : ((c.toNat : Int) == 95) = false := by rw [beq_eq_false_iff_ne]; omega
        clear hvv
        have hvb : ¬ valZ c < 8 := by omega
        have hd8 : 8 ≤ v - 97 + 10 := by omega
        have HD := Lib.hid (hdec.trans (read_no (r := bs.drop (k + 1)) hvb))
        clear hdec ha
        go_wp2_with (first | (go_at_call 36; refine (CL _).mono ?_; rintro e w' ⟨rfl, rfl⟩) | fail)
        all_goals go_ret2
        all_goals exact ⟨by rw [HD.out]; exact ⟨_, 2, .inr rfl, rfl⟩, by first | rfl | trivial⟩
      · obtain ⟨v, hvv⟩ : ∃ v, v = bits .or .u8 (c.toNat : Int) 32 := ⟨_, rfl⟩
        have hu0 := bits_lo_u8 .or (c.toNat : Int) 32
        have hu1 := bits_hi_u8 .or (c.toNat : Int) 32
        rw [← hvv] at hnv hu0 hu1
        simp only [← hvv] at CL
        have hvb : ¬ valZ c < 8 := by omega
        clear hvv
        by_cases h95 : (c.toNat : Int) = 95
        · have h95i : ((c.toNat : Int) == 95) = true := by rw [beq_iff_eq]; exact h95
          by_cases hlo : 97 ≤ v
          · have hhi : ¬ v ≤ 122 := fun h => hnv ⟨hlo, h⟩
            clear h95 hnv
            have HD := Lib.hid (hdec.trans (read_no (r := bs.drop (k + 1)) hvb))
            clear hdec ha
            go_wp2_with (first | (go_at_call 36; refine (CL _).mono ?_; rintro e w' ⟨rfl, rfl⟩) | fail)
            all_goals go_ret2
            all_goals exact ⟨by rw [HD.out]; exact ⟨_, 2, .inr rfl, rfl⟩, by first | rfl | trivial⟩
          · clear h95 hnv
            have HD := Lib.hid (hdec.trans (read_no (r := bs.drop (k + 1)) hvb))
            clear hdec ha
            go_wp2_with (first | (go_at_call 36; refine (CL _).mono ?_; rintro e w' ⟨rfl, rfl⟩) | fail)
            all_goals go_ret2
            all_goals exact ⟨by rw [HD.out]; exact ⟨_, 2, .inr rfl, rfl⟩, by first | rfl | trivial⟩
        · have h95i : ((c.toNat : Int) == 95) = false := by rw [beq_eq_false_iff_ne]; exact h95
          by_cases hlo : 97 ≤ v
          · have hhi : ¬ v ≤ 122 := fun h => hnv ⟨hlo, h⟩
            clear h95 hnv
            have HD := Lib.hid (hdec.trans (read_no (r := bs.drop (k + 1)) hvb))
            clear hdec ha
            go_wp2_with (first | (go_at_call 36; refine (CL _).mono ?_; rintro e w' ⟨rfl, rfl⟩) | fail)
            all_goals go_ret2
            all_goals exact ⟨by rw [HD.out]; exact ⟨_, 2, .inr rfl, rfl⟩, by first | rfl | trivial⟩
          · clear h95 hnv
            have HD := Lib.hid (hdec.trans (read_no (r := bs.drop (k + 1)) hvb))
            clear hdec ha
            go_wp2_with (first | (go_at_call 36; refine (CL _).mono ?_; rintro e w' ⟨rfl, rfl⟩) | fail)
            all_goals go_ret2
            all_goals exact ⟨by rw [HD.out]; exact ⟨_, 2, .inr rfl, rfl⟩, by first | rfl | trivial⟩
    · have hkk : k = t.size := by omega
      subst hkk
      have hF : readZ 8 acc (bs.drop t.size) = some acc := by rw [List.drop_eq_nil_of_le (by omega)]; rfl
      rw [hF] at hdec
      have HD := Lib.hid hdec
      subst ha
      clear hacc hF a0 a1 hdec
      go_wp2
      go_ret2
      exact ⟨by rw [HD.out]; rfl, by first | rfl | trivial⟩

set_option maxHeartbeats 32000000 in
theorem lpu10 (t : ByteArray) (hne : t.size ≠ 0) (hmax : t.size ≤ 1000000) (w : World) :
    Calls Tryd.prog 29 #[.string t, .int .i64 10, .int .i64 63] w fun e w' => EndP (readZ 10 0 t.data.toList) e ∧ w' = Lib.bytesWorld w 5 t := by
  have hemp : t.toList.isEmpty = false := by
    rw [← decide_eq_emptyBytes]
    exact decide_eq_false (fun h => hne (by rw [h]; rfl))
  have hcv := Lib.run_convert_string_bytes (P := Tryd.prog) w 9 64 5 t (u := .string) Tryd.underlying9 Tryd.underlying64 Tryd.underlying5
  have hB : ∀ j, j < t.size → (Lib.bytesWorld w 5 t).cell? ⟨w.heap.size, j, none⟩ = some (.int .u8 (t.data.toList.getD j 0).toNat) := fun j hj => Lib.bytesWorld_cell w 5 t j hj
  obtain ⟨W1, hW1⟩ : ∃ W1, W1 = Lib.bytesWorld w 5 t := ⟨_, rfl⟩
  rw [← hW1] at hcv hB ⊢
  clear hW1
  obtain ⟨bs, hL⟩ : ∃ bs, bs = t.data.toList := ⟨_, rfl⟩
  have hLn : bs.length = t.size := by rw [hL, size_data]
  rw [← hL] at hB ⊢
  clear hL
  have hmv : IntKind.u64.wrap (IntKind.u64.wrap 9223372036854775808 - 1) = 9223372036854775807 := by
    rw [IntKind.wrap_u64, IntKind.wrap_u64]
    decide
  go_enter Tryd.func29, Tryd.ntmps29
  go_wp2
  go_loopw [12, 13, 101] (fun vu vn vi wr => ∃ (k acc : Nat) (a : Int), vu = .bool false ∧ vn = .int .u64 a ∧ vi = .int .i64 k ∧ k ≤ t.size ∧ Hid (a = (acc : Int) ∧ acc ≤ 9223372036854775807 ∧ readZ 10 0 bs = readZ 10 acc (bs.drop k)) ∧ wr = W1)
    (fun _ _ vi _ => t.size - (intOf vi).toNat)
  case atStart => exact ⟨0, 0, 0, rfl, rfl, rfl, by omega, Lib.hid ⟨rfl, by omega, rfl⟩, rfl⟩
  case round =>
    obtain ⟨k, acc, a, rfl, rfl, rfl, hk, hh, rfl⟩ := hrel
    obtain ⟨ha, hacc, hdec⟩ := hh.out
    clear hh
    have a0 : 0 ≤ a := by omega
    have a1 : a ≤ 9223372036854775807 := by omega
    by_cases hkn : k < t.size
    · have hc := hB k hkn
      have hdrop : bs.drop k = bs[k]'(by omega) :: bs.drop (k + 1) := List.drop_eq_getElem_cons (by omega)
      have hget : bs.getD k 0 = bs[k]'(by omega) := by simp [List.getD, List.getElem?_eq_getElem (show k < bs.length by omega)]
      rw [hdrop] at hdec
      rw [hget] at hc
      generalize bs[k]'(by omega) = c at hc hdec
      have hc256 : c.toNat < 256 := c.toNat_lt
      clear hB hdrop hget
      have CL := fun W => llower (c.toNat : Int) W
      rcases cls c with ⟨hd0, hd1, hv⟩ | ⟨hnd, h95, hv0, hv1, hv⟩ | ⟨hnd, hnv, hv⟩
      · have dv : (valZ c : Int) = (c.toNat : Int) - 48 := by omega
        clear CL
        have hvb : valZ c < 10 := by omega
        by_cases hov : 9223372036854775807 < acc * 10 + valZ c
        · have hF := read_over (r := bs.drop (k + 1)) hvb hov
          rw [hF] at hdec
          have HD := Lib.hid hdec
          by_cases hcut : 1844674407370955162 ≤ a
          · clear hF hov ha hdec
            go_wp2_with (first | (go_at_call 36; refine (CL _).mono ?_; rintro e w' ⟨rfl, rfl⟩) | fail)
            go_ret2
            exact ⟨by rw [HD.out]; exact ⟨_, 1, .inl rfl, rfl⟩, rfl⟩
          · have hcut2 : a < 1844674407370955162 := by omega
            have hm0 : 0 ≤ a * 10 := by omega
            have hm1 : a * 10 < 18446744073709551616 := by omega
            by_cases hwr : a * 10 + ((c.toNat : Int) - 48) < 18446744073709551616
            · have hbig : 9223372036854775807 < a * 10 + ((c.toNat : Int) - 48) := by omega
              have hge : ¬ (a * 10 + ((c.toNat : Int) - 48) < a * 10) := by omega
              clear hF hov ha hdec hcut
              go_wp2_with (first | (go_at_call 36; refine (CL _).mono ?_; rintro e w' ⟨rfl, rfl⟩) | fail)
              go_ret2
              exact ⟨by rw [HD.out]; exact ⟨_, 1, .inl rfl, rfl⟩, rfl⟩
            · have hw : IntKind.u64.wrap (a * 10 + ((c.toNat : Int) - 48)) = a * 10 + ((c.toNat : Int) - 48) - 18446744073709551616 := by
                rw [IntKind.wrap_u64]
                omega
              have hlt : a * 10 + ((c.toNat : Int) - 48) - 18446744073709551616 < a * 10 := by omega
              clear hF hov ha hdec hcut
              go_wp2_with (first | (go_at_call 36; refine (CL _).mono ?_; rintro e w' ⟨rfl, rfl⟩) | fail)
              go_ret2
              exact ⟨by rw [HD.out]; exact ⟨_, 1, .inl rfl, rfl⟩, rfl⟩
        · have hF := read_go (r := bs.drop (k + 1)) hvb hov
          have hcut2 : a < 1844674407370955162 := by omega
          have hm0 : 0 ≤ a * 10 := by omega
          have hm1 : a * 10 < 18446744073709551616 := by omega
          have hge : ¬ (a * 10 + ((c.toNat : Int) - 48) < a * 10) := by omega
          have hbig : ¬ 9223372036854775807 < a * 10 + ((c.toNat : Int) - 48) := by omega
          have HN := Lib.hid (show a * 10 + ((c.toNat : Int) - 48) = ((acc * 10 + valZ c : Nat) : Int) ∧ acc * 10 + valZ c ≤ 9223372036854775807 ∧ readZ 10 0 bs = readZ 10 (acc * 10 + valZ c) (bs.drop (k + 1)) from ⟨by omega, by omega, hdec.trans hF⟩)
          clear hF hov ha hdec
          go_wp2_with (first | (go_at_call 36; refine (CL _).mono ?_; rintro e w' ⟨rfl, rfl⟩) | fail)
          go_roundw
          case rel => exact ⟨k + 1, acc * 10 + valZ c, a * 10 + ((c.toNat : Int) - 48), by first | rfl | trivial, by first | rfl | trivial, by first | rfl | go_num, by omega, HN, by first | rfl | trivial⟩
          case measure => simp only [intOf]; omega
      · obtain ⟨v, hvv⟩ : ∃ v, v = bits .or .u8 (c.toNat : Int) 32 := ⟨_, rfl⟩
        rw [← hvv] at hv0 hv1 hv
        simp only [← hvv] at CL
        have h95i : ((c.toNat : Int) == 95) = false := by rw [beq_eq_false_iff_ne]; omega
        clear hvv
        have hvb : ¬ valZ c < 10 := by omega
        have hd8 : 10 ≤ v - 97 + 10 := by omega
        have HD := Lib.hid (hdec.trans (read_no (r := bs.drop (k + 1)) hvb))
        clear hdec ha
        go_wp2_with (first | (go_at_call 36; refine (CL _).mono ?_; rintro e w' ⟨rfl, rfl⟩) | fail)
        all_goals go_ret2
        all_goals exact ⟨by rw [HD.out]; exact ⟨_, 2, .inr rfl, rfl⟩, by first | rfl | trivial⟩
      · obtain ⟨v, hvv⟩ : ∃ v, v = bits .or .u8 (c.toNat : Int) 32 := ⟨_, rfl⟩
        have hu0 := bits_lo_u8 .or (c.toNat : Int) 32
        have hu1 := bits_hi_u8 .or (c.toNat : Int) 32
        rw [← hvv] at hnv hu0 hu1
        simp only [← hvv] at CL
        have hvb : ¬ valZ c < 10 := by omega
        clear hvv
        by_cases h95 : (c.toNat : Int) = 95
        · have h95i : ((c.toNat : Int) == 95) = true := by rw [beq_iff_eq]; exact h95
          by_cases hlo : 97 ≤ v
          · have hhi : ¬ v ≤ 122 := fun h => hnv ⟨hlo, h⟩
            clear h95 hnv
            have HD := Lib.hid (hdec.trans (read_no (r := bs.drop (k + 1)) hvb))
            clear hdec ha
            go_wp2_with (first | (go_at_call 36; refine (CL _).mono ?_; rintro e w' ⟨rfl, rfl⟩) | fail)
            all_goals go_ret2
            all_goals exact ⟨by rw [HD.out]; exact ⟨_, 2, .inr rfl, rfl⟩, by first | rfl | trivial⟩
          · clear h95 hnv
            have HD := Lib.hid (hdec.trans (read_no (r := bs.drop (k + 1)) hvb))
            clear hdec ha
            go_wp2_with (first | (go_at_call 36; refine (CL _).mono ?_; rintro e w' ⟨rfl, rfl⟩) | fail)
            all_goals go_ret2
            all_goals exact ⟨by rw [HD.out]; exact ⟨_, 2, .inr rfl, rfl⟩, by first | rfl | trivial⟩
        · have h95i : ((c.toNat : Int) == 95) = false := by rw [beq_eq_false_iff_ne]; exact h95
          by_cases hlo : 97 ≤ v
          · have hhi : ¬ v ≤ 122 := fun h => hnv ⟨hlo, h⟩
            clear h95 hnv
            have HD := Lib.hid (hdec.trans (read_no (r := bs.drop (k + 1)) hvb))
            clear hdec ha
            go_wp2_with (first | (go_at_call 36; refine (CL _).mono ?_; rintro e w' ⟨rfl, rfl⟩) | fail)
            all_goals go_ret2
            all_goals exact ⟨by rw [HD.out]; exact ⟨_, 2, .inr rfl, rfl⟩, by first | rfl | trivial⟩
          · clear h95 hnv
            have HD := Lib.hid (hdec.trans (read_no (r := bs.drop (k + 1)) hvb))
            clear hdec ha
            go_wp2_with (first | (go_at_call 36; refine (CL _).mono ?_; rintro e w' ⟨rfl, rfl⟩) | fail)
            all_goals go_ret2
            all_goals exact ⟨by rw [HD.out]; exact ⟨_, 2, .inr rfl, rfl⟩, by first | rfl | trivial⟩
    · have hkk : k = t.size := by omega
      subst hkk
      have hF : readZ 10 acc (bs.drop t.size) = some acc := by rw [List.drop_eq_nil_of_le (by omega)]; rfl
      rw [hF] at hdec
      have HD := Lib.hid hdec
      subst ha
      clear hacc hF a0 a1 hdec
      go_wp2
      go_ret2
      exact ⟨by rw [HD.out]; rfl, by first | rfl | trivial⟩

set_option maxHeartbeats 32000000 in
theorem lpu16 (t : ByteArray) (hne : t.size ≠ 0) (hmax : t.size ≤ 1000000) (w : World) :
    Calls Tryd.prog 29 #[.string t, .int .i64 16, .int .i64 63] w fun e w' => EndP (readZ 16 0 t.data.toList) e ∧ w' = Lib.bytesWorld w 5 t := by
  have hemp : t.toList.isEmpty = false := by
    rw [← decide_eq_emptyBytes]
    exact decide_eq_false (fun h => hne (by rw [h]; rfl))
  have hcv := Lib.run_convert_string_bytes (P := Tryd.prog) w 9 64 5 t (u := .string) Tryd.underlying9 Tryd.underlying64 Tryd.underlying5
  have hB : ∀ j, j < t.size → (Lib.bytesWorld w 5 t).cell? ⟨w.heap.size, j, none⟩ = some (.int .u8 (t.data.toList.getD j 0).toNat) := fun j hj => Lib.bytesWorld_cell w 5 t j hj
  obtain ⟨W1, hW1⟩ : ∃ W1, W1 = Lib.bytesWorld w 5 t := ⟨_, rfl⟩
  rw [← hW1] at hcv hB ⊢
  clear hW1
  obtain ⟨bs, hL⟩ : ∃ bs, bs = t.data.toList := ⟨_, rfl⟩
  have hLn : bs.length = t.size := by rw [hL, size_data]
  rw [← hL] at hB ⊢
  clear hL
  have hmv : IntKind.u64.wrap (IntKind.u64.wrap 9223372036854775808 - 1) = 9223372036854775807 := by
    rw [IntKind.wrap_u64, IntKind.wrap_u64]
    decide
  go_enter Tryd.func29, Tryd.ntmps29
  go_wp2
  go_loopw [12, 13, 101] (fun vu vn vi wr => ∃ (k acc : Nat) (a : Int), vu = .bool false ∧ vn = .int .u64 a ∧ vi = .int .i64 k ∧ k ≤ t.size ∧ Hid (a = (acc : Int) ∧ acc ≤ 9223372036854775807 ∧ readZ 16 0 bs = readZ 16 acc (bs.drop k)) ∧ wr = W1)
    (fun _ _ vi _ => t.size - (intOf vi).toNat)
  case atStart => exact ⟨0, 0, 0, rfl, rfl, rfl, by omega, Lib.hid ⟨rfl, by omega, rfl⟩, rfl⟩
  case round =>
    obtain ⟨k, acc, a, rfl, rfl, rfl, hk, hh, rfl⟩ := hrel
    obtain ⟨ha, hacc, hdec⟩ := hh.out
    clear hh
    have a0 : 0 ≤ a := by omega
    have a1 : a ≤ 9223372036854775807 := by omega
    by_cases hkn : k < t.size
    · have hc := hB k hkn
      have hdrop : bs.drop k = bs[k]'(by omega) :: bs.drop (k + 1) := List.drop_eq_getElem_cons (by omega)
      have hget : bs.getD k 0 = bs[k]'(by omega) := by simp [List.getD, List.getElem?_eq_getElem (show k < bs.length by omega)]
      rw [hdrop] at hdec
      rw [hget] at hc
      generalize bs[k]'(by omega) = c at hc hdec
      have hc256 : c.toNat < 256 := c.toNat_lt
      clear hB hdrop hget
      have CL := fun W => llower (c.toNat : Int) W
      rcases cls c with ⟨hd0, hd1, hv⟩ | ⟨hnd, h95, hv0, hv1, hv⟩ | ⟨hnd, hnv, hv⟩
      · have dv : (valZ c : Int) = (c.toNat : Int) - 48 := by omega
        clear CL
        have hvb : valZ c < 16 := by omega
        by_cases hov : 9223372036854775807 < acc * 16 + valZ c
        · have hF := read_over (r := bs.drop (k + 1)) hvb hov
          rw [hF] at hdec
          have HD := Lib.hid hdec
          by_cases hcut : 1152921504606846976 ≤ a
          · clear hF hov ha hdec
            go_wp2_with (first | (go_at_call 36; refine (CL _).mono ?_; rintro e w' ⟨rfl, rfl⟩) | fail)
            go_ret2
            exact ⟨by rw [HD.out]; exact ⟨_, 1, .inl rfl, rfl⟩, rfl⟩
          · have hcut2 : a < 1152921504606846976 := by omega
            have hm0 : 0 ≤ a * 16 := by omega
            have hm1 : a * 16 < 18446744073709551616 := by omega
            have hwr : a * 16 + ((c.toNat : Int) - 48) < 18446744073709551616 := by omega
            have hbig : 9223372036854775807 < a * 16 + ((c.toNat : Int) - 48) := by omega
            have hge : ¬ (a * 16 + ((c.toNat : Int) - 48) < a * 16) := by omega
            clear hF hov ha hdec hcut
            go_wp2_with (first | (go_at_call 36; refine (CL _).mono ?_; rintro e w' ⟨rfl, rfl⟩) | fail)
            go_ret2
            exact ⟨by rw [HD.out]; exact ⟨_, 1, .inl rfl, rfl⟩, rfl⟩
        · have hF := read_go (r := bs.drop (k + 1)) hvb hov
          have hcut2 : a < 1152921504606846976 := by omega
          have hm0 : 0 ≤ a * 16 := by omega
          have hm1 : a * 16 < 18446744073709551616 := by omega
          have hge : ¬ (a * 16 + ((c.toNat : Int) - 48) < a * 16) := by omega
          have hbig : ¬ 9223372036854775807 < a * 16 + ((c.toNat : Int) - 48) := by omega
          have HN := Lib.hid (show a * 16 + ((c.toNat : Int) - 48) = ((acc * 16 + valZ c : Nat) : Int) ∧ acc * 16 + valZ c ≤ 9223372036854775807 ∧ readZ 16 0 bs = readZ 16 (acc * 16 + valZ c) (bs.drop (k + 1)) from ⟨by omega, by omega, hdec.trans hF⟩)
          clear hF hov ha hdec
          go_wp2_with (first | (go_at_call 36; refine (CL _).mono ?_; rintro e w' ⟨rfl, rfl⟩) | fail)
          go_roundw
          case rel => exact ⟨k + 1, acc * 16 + valZ c, a * 16 + ((c.toNat : Int) - 48), by first | rfl | trivial, by first | rfl | trivial, by first | rfl | go_num, by omega, HN, by first | rfl | trivial⟩
          case measure => simp only [intOf]; omega
      · obtain ⟨v, hvv⟩ : ∃ v, v = bits .or .u8 (c.toNat : Int) 32 := ⟨_, rfl⟩
        rw [← hvv] at hv0 hv1 hv
        simp only [← hvv] at CL
        have h95i : ((c.toNat : Int) == 95) = false := by rw [beq_eq_false_iff_ne]; omega
        clear hvv
        by_cases hvb : valZ c < 16
        · have hd8 : v - 97 + 10 < 16 := by omega
          have dv : (valZ c : Int) = v - 97 + 10 := by omega
          by_cases hov : 9223372036854775807 < acc * 16 + valZ c
          · have hF := read_over (r := bs.drop (k + 1)) hvb hov
            rw [hF] at hdec
            have HD := Lib.hid hdec
            by_cases hcut : 1152921504606846976 ≤ a
            · clear hF hov ha hdec
              go_wp2_with (first | (go_at_call 36; refine (CL _).mono ?_; rintro e w' ⟨rfl, rfl⟩) | fail)
              go_ret2
              exact ⟨by rw [HD.out]; exact ⟨_, 1, .inl rfl, rfl⟩, rfl⟩
            · have hcut2 : a < 1152921504606846976 := by omega
              have hm0 : 0 ≤ a * 16 := by omega
              have hm1 : a * 16 < 18446744073709551616 := by omega
              have hwr : a * 16 + (v - 97 + 10) < 18446744073709551616 := by omega
              have hbig : 9223372036854775807 < a * 16 + (v - 97 + 10) := by omega
              have hge : ¬ (a * 16 + (v - 97 + 10) < a * 16) := by omega
              clear hF hov ha hdec hcut
              go_wp2_with (first | (go_at_call 36; refine (CL _).mono ?_; rintro e w' ⟨rfl, rfl⟩) | fail)
              go_ret2
              exact ⟨by rw [HD.out]; exact ⟨_, 1, .inl rfl, rfl⟩, rfl⟩
          · have hF := read_go (r := bs.drop (k + 1)) hvb hov
            have hcut2 : a < 1152921504606846976 := by omega
            have hm0 : 0 ≤ a * 16 := by omega
            have hm1 : a * 16 < 18446744073709551616 := by omega
            have hge : ¬ (a * 16 + (v - 97 + 10) < a * 16) := by omega
            have hbig : ¬ 9223372036854775807 < a * 16 + (v - 97 + 10) := by omega
            have HN := Lib.hid (show a * 16 + (v - 97 + 10) = ((acc * 16 + valZ c : Nat) : Int) ∧ acc * 16 + valZ c ≤ 9223372036854775807 ∧ readZ 16 0 bs = readZ 16 (acc * 16 + valZ c) (bs.drop (k + 1)) from ⟨by omega, by omega, hdec.trans hF⟩)
            clear hF hov ha hdec
            go_wp2_with (first | (go_at_call 36; refine (CL _).mono ?_; rintro e w' ⟨rfl, rfl⟩) | fail)
            go_roundw
            case rel => exact ⟨k + 1, acc * 16 + valZ c, a * 16 + (v - 97 + 10), by first | rfl | trivial, by first | rfl | trivial, by first | rfl | go_num, by omega, HN, by first | rfl | trivial⟩
            case measure => simp only [intOf]; omega
        · have hd8 : 16 ≤ v - 97 + 10 := by omega
          have HD := Lib.hid (hdec.trans (read_no (r := bs.drop (k + 1)) hvb))
          clear hdec ha
          go_wp2_with (first | (go_at_call 36; refine (CL _).mono ?_; rintro e w' ⟨rfl, rfl⟩) | fail)
          all_goals go_ret2
          all_goals exact ⟨by rw [HD.out]; exact ⟨_, 2, .inr rfl, rfl⟩, by first | rfl | trivial⟩
      · obtain ⟨v, hvv⟩ : ∃ v, v = bits .or .u8 (c.toNat : Int) 32 := ⟨_, rfl⟩
        have hu0 := bits_lo_u8 .or (c.toNat : Int) 32
        have hu1 := bits_hi_u8 .or (c.toNat : Int) 32
        rw [← hvv] at hnv hu0 hu1
        simp only [← hvv] at CL
        have hvb : ¬ valZ c < 16 := by omega
        clear hvv
        by_cases h95 : (c.toNat : Int) = 95
        · have h95i : ((c.toNat : Int) == 95) = true := by rw [beq_iff_eq]; exact h95
          by_cases hlo : 97 ≤ v
          · have hhi : ¬ v ≤ 122 := fun h => hnv ⟨hlo, h⟩
            clear h95 hnv
            have HD := Lib.hid (hdec.trans (read_no (r := bs.drop (k + 1)) hvb))
            clear hdec ha
            go_wp2_with (first | (go_at_call 36; refine (CL _).mono ?_; rintro e w' ⟨rfl, rfl⟩) | fail)
            all_goals go_ret2
            all_goals exact ⟨by rw [HD.out]; exact ⟨_, 2, .inr rfl, rfl⟩, by first | rfl | trivial⟩
          · clear h95 hnv
            have HD := Lib.hid (hdec.trans (read_no (r := bs.drop (k + 1)) hvb))
            clear hdec ha
            go_wp2_with (first | (go_at_call 36; refine (CL _).mono ?_; rintro e w' ⟨rfl, rfl⟩) | fail)
            all_goals go_ret2
            all_goals exact ⟨by rw [HD.out]; exact ⟨_, 2, .inr rfl, rfl⟩, by first | rfl | trivial⟩
        · have h95i : ((c.toNat : Int) == 95) = false := by rw [beq_eq_false_iff_ne]; exact h95
          by_cases hlo : 97 ≤ v
          · have hhi : ¬ v ≤ 122 := fun h => hnv ⟨hlo, h⟩
            clear h95 hnv
            have HD := Lib.hid (hdec.trans (read_no (r := bs.drop (k + 1)) hvb))
            clear hdec ha
            go_wp2_with (first | (go_at_call 36; refine (CL _).mono ?_; rintro e w' ⟨rfl, rfl⟩) | fail)
            all_goals go_ret2
            all_goals exact ⟨by rw [HD.out]; exact ⟨_, 2, .inr rfl, rfl⟩, by first | rfl | trivial⟩
          · clear h95 hnv
            have HD := Lib.hid (hdec.trans (read_no (r := bs.drop (k + 1)) hvb))
            clear hdec ha
            go_wp2_with (first | (go_at_call 36; refine (CL _).mono ?_; rintro e w' ⟨rfl, rfl⟩) | fail)
            all_goals go_ret2
            all_goals exact ⟨by rw [HD.out]; exact ⟨_, 2, .inr rfl, rfl⟩, by first | rfl | trivial⟩
    · have hkk : k = t.size := by omega
      subst hkk
      have hF : readZ 16 acc (bs.drop t.size) = some acc := by rw [List.drop_eq_nil_of_le (by omega)]; rfl
      rw [hF] at hdec
      have HD := Lib.hid hdec
      subst ha
      clear hacc hF a0 a1 hdec
      go_wp2
      go_ret2
      exact ⟨by rw [HD.out]; rfl, by first | rfl | trivial⟩

end Go.Proofs.YtclhpedecimicaaDoor
