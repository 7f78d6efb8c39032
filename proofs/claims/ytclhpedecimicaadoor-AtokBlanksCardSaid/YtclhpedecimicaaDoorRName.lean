/-
  The reference's Name: the same as chars' own.
-/
import Derived.Test.YtclhpedecimicaaDoorName
namespace Go.Proofs.YtclhpedecimicaaDoor
set_option maxRecDepth 100000
open Go Go.RowKit

theorem rname_nil (w : World) : Calls Tryd.prog 14 #[.string ⟨#[]⟩] w fun e w' => e = .returned (.bool false) ∧ w = w' := by
  go_enter Tryd.func14, Tryd.ntmps14
  go_wp2
  go_ret
  exact ⟨rfl, rfl⟩

theorem rname_no (s : ByteArray) (w : World) (h0 : 0 < s.size) (hb : begB (s[0].toNat : Int) = false) : Calls Tryd.prog 14 #[.string s] w fun e w' => e = .returned (.bool false) ∧ w = w' := by
  go_enter Tryd.func14, Tryd.ntmps14
  go_wp2_with (go_at_call 16; refine (rbegins_any _ _).mono ?_; rintro e w' ⟨rfl, rfl⟩)
  all_goals go_ret; exact ⟨rfl, rfl⟩

set_option maxHeartbeats 1000000 in
theorem rname_yes (s : ByteArray) (w : World) (h0 : 0 < s.size) (hs : s.size ≤ maxLen) (hb : begB (s[0].toNat : Int) = true) : Calls Tryd.prog 14 #[.string s] w fun e w' => e = .returned (.bool (nameB s.data.toList)) ∧ w = w' := by
  unfold maxLen at hs
  have hne : s.toList.isEmpty = false := by
    rcases s with ⟨⟨l⟩⟩
    cases l with
    | nil => exact absurd h0 (Nat.lt_irrefl 0)
    | cons c r => rw [ByteArray.toList_eq]; rfl
  have HB := Lib.hid hb
  go_enter Tryd.func14, Tryd.ntmps14
  go_wp2_with (go_at_call 16; refine (rbegins_any _ _).mono ?_; rintro e w' ⟨rfl, rfl⟩)
  go_loop [3] (fun i => ∃ k : Nat, 1 ≤ k ∧ k ≤ s.size ∧ i = .int .i64 k ∧ Fols s k) (fun i => s.size - (intOf i).toNat)
  case atStart => exact ⟨1, by omega, by omega, rfl, fun j _ h1 h2 => by omega⟩
  case round =>
    obtain ⟨k, hk1, hk, rfl, hf⟩ := hrel
    by_cases hlt : k < s.size
    · cases hB : begB (s[k].toNat : Int) with
      | true =>
        go_wp2_with (go_at_call 16; refine (rbegins_any _ _).mono ?_; rintro e w' ⟨rfl, rfl⟩)
        all_goals
          go_round
          case rel =>
            refine ⟨k + 1, by omega, by omega, by go_num, fun j hj h1 h2 => ?_⟩
            by_cases e : j = k
            · subst e; simp [folB, hB]
            · exact hf j hj h1 (by omega)
          case measure => simp [intOf]; omega
      | false =>
        cases hD : digB (s[k].toNat : Int) with
        | true =>
          go_wp2_with (first
            | (go_at_call 16; refine (rbegins_any _ _).mono ?_; rintro e w' ⟨rfl, rfl⟩)
            | (go_at_call 17; refine (rdigit_any _ _).mono ?_; rintro e w' ⟨rfl, rfl⟩))
          all_goals
            go_round
            case rel =>
              refine ⟨k + 1, by omega, by omega, by go_num, fun j hj h1 h2 => ?_⟩
              by_cases e : j = k
              · subst e; simp [folB, hD]
              · exact hf j hj h1 (by omega)
            case measure => simp [intOf]; omega
        | false =>
          have hfin := Lib.hid (name_false s k hlt hk1 (by simp [folB, hB, hD]))
          go_wp2_with (first
            | (go_at_call 16; refine (rbegins_any _ _).mono ?_; rintro e w' ⟨rfl, rfl⟩)
            | (go_at_call 17; refine (rdigit_any _ _).mono ?_; rintro e w' ⟨rfl, rfl⟩))
          all_goals
            go_ret
            exact ⟨ret_bool hfin.out.symm, rfl⟩
    · have hfin := Lib.hid (name_true s h0 HB.out fun j hj h1 => hf j hj h1 (by omega))
      go_wp2
      go_ret
      exact ⟨ret_bool hfin.out.symm, rfl⟩

theorem rname_any (s : ByteArray) (w : World) (hs : s.size ≤ maxLen) : Calls Tryd.prog 14 #[.string s] w fun e w' => e = .returned (.bool (nameB s.data.toList)) ∧ w = w' := by
  by_cases h0 : 0 < s.size
  · cases hb : begB (s[0].toNat : Int) with
    | true => exact rname_yes s w h0 hs hb
    | false => rw [name_false0 s h0 hb]; exact rname_no s w h0 hb
  · rcases s with ⟨⟨l⟩⟩
    cases l with
    | nil => exact rname_nil w
    | cons c r => exact absurd (Nat.succ_pos r.length) h0
end Go.Proofs.YtclhpedecimicaaDoor
