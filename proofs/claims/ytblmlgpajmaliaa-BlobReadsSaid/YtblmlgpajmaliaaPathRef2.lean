/-
  The reference's Whole, Name, Base, Dir, Join.
-/
import Derived.Test.YtblmlgpajmaliaaTexts
namespace Go.Proofs.Ytblmlgpajmaliaa
set_option maxRecDepth 100000
open Go Go.RowKit

def wholeL : List UInt8 → Bool
  | [] => false
  | c :: _ => c == 47

theorem filled (s : ByteArray) (h0 : 0 < s.size) : s.toList.isEmpty = false := by
  rcases s with ⟨⟨l⟩⟩
  cases l with
  | nil => exact absurd h0 (Nat.lt_irrefl 0)
  | cons c r => rw [ByteArray.toList_eq]; rfl
theorem bare (s : ByteArray) (h0 : ¬ 0 < s.size) : s = ⟨#[]⟩ := by
  rcases s with ⟨⟨l⟩⟩
  cases l with
  | nil => rfl
  | cons c r => exact absurd (Nat.succ_pos r.length) h0
theorem whole_at (s : ByteArray) (h0 : 0 < s.size) : wholeL s.data.toList = ((s[0].toNat : Int) == 47) := by
  rcases s with ⟨⟨l⟩⟩
  cases l with
  | nil => exact absurd h0 (Nat.lt_irrefl 0)
  | cons c r =>
    show (c == 47) = ((c.toNat : Int) == 47)
    rw [Bool.eq_iff_iff, beq_iff_eq, beq_iff_eq, ← UInt8.toNat_inj]
    show c.toNat = 47 ↔ _
    omega


/-- Can a name stand in a directory? -/
def nameOkL (l : List UInt8) : Bool := l.all (fun c => c != 47 && c != 0) && !l.isEmpty && decide (l.length ≤ 64) && !(l == [46]) && !(l == [46, 46])

def Clean (s : ByteArray) (k : Nat) : Prop := ∀ j (h : j < s.size), j < k → s[j] ≠ 47 ∧ s[j] ≠ 0

theorem clean_all (s : ByteArray) (h : Clean s s.size) : s.data.toList.all (fun c => c != 47 && c != 0) = true := by
  rw [List.all_eq_true]
  intro c hc
  obtain ⟨j, hj, rfl⟩ := List.getElem_of_mem hc
  have hj' : j < s.size := by simpa using hj
  have := h j hj' hj'
  rw [at_list s j hj']
  simp [this.1, this.2]
theorem clean_not (s : ByteArray) (k : Nat) (hk : k < s.size) (h : s[k] = 47 ∨ s[k] = 0) : nameOkL s.data.toList = false := by
  have : s.data.toList.all (fun c => c != 47 && c != 0) = false := by
    rw [List.all_eq_false]
    refine ⟨s.data.toList[k]'(by simpa using hk), by simp, ?_⟩
    rw [at_list s k hk]
    rcases h with h | h <;> simp [h]
  simp [nameOkL, this]
theorem byte_is (c : UInt8) (n : Nat) (hn : n < 256) (h : ((c.toNat : Int) == (n : Int)) = true) : c = UInt8.ofNat n := by
  have h' : (c.toNat : Int) = n := by simpa using h
  apply UInt8.toNat_inj.1
  rw [UInt8.toNat_ofNat']
  omega
theorem byte_not (c : UInt8) (n : Nat) (hn : n < 256) (h : ((c.toNat : Int) == (n : Int)) = false) : c ≠ UInt8.ofNat n := by
  intro e
  subst e
  rw [UInt8.toNat_ofNat', Nat.mod_eq_of_lt hn] at h
  simp at h

set_option maxHeartbeats 1000000 in
theorem rname_any (s : ByteArray) (hs : s.size ≤ maxLen) (w : World) : Calls Try.prog 34 #[.string s] w fun e w' => e = .returned (.bool (nameOkL s.data.toList)) ∧ w = w' := by
  unfold maxLen at hs
  go_enter Try.func34, Try.ntmps34
  go_wp2_with fail
  go_loop [3] (fun i => ∃ k : Nat, k ≤ s.size ∧ i = .int .i64 k ∧ Hid (Clean s k)) (fun i => s.size - (intOf i).toNat)
  case atStart => exact ⟨0, by omega, rfl, fun _ _ h => absurd h (Nat.not_lt_zero _)⟩
  case round =>
    obtain ⟨k, hk, rfl, hd⟩ := hrel
    by_cases hlt : k < s.size
    · cases h47 : ((s[k].toNat : Int) == 47) with
      | true =>
        have hfin := Lib.hid (clean_not s k hlt (Or.inl (byte_is _ 47 (by decide) h47)))
        go_wp2_with fail
        go_ret
        exact ⟨by rw [hfin.out]; rfl, rfl⟩
      | false =>
        cases hz : ((s[k].toNat : Int) == 0) with
        | true =>
          have hfin := Lib.hid (clean_not s k hlt (Or.inr (byte_is _ 0 (by decide) hz)))
          go_wp2_with fail
          go_ret
          exact ⟨by rw [hfin.out]; rfl, rfl⟩
        | false =>
          have hst : Clean s (k + 1) := fun j hj hjk => by
            by_cases e : j = k
            · subst e; exact ⟨byte_not _ 47 (by decide) h47, byte_not _ 0 (by decide) hz⟩
            · exact hd.out j hj (by omega)
          have HS := Lib.hid hst
          clear hst
          go_wp2_with fail
          go_round
          case rel => exact ⟨k + 1, by omega, by go_num, HS⟩
          case measure => simp [intOf] <;> omega
    · obtain rfl : k = s.size := by omega
      have hall := Lib.hid (clean_all s hd.out)
      have hlen := size_list s
      cases he : s.toList.isEmpty <;> cases h1 : (s.toList == [46]) <;> cases h2 : (s.toList == [46, 46]) <;> by_cases h64 : s.size ≤ 64
      all_goals
        have hfin : nameOkL s.data.toList = (!s.toList.isEmpty && decide (s.size ≤ 64) && !(s.toList == [46]) && !(s.toList == [46, 46])) := by
          unfold nameOkL
          rw [hall.out, hlen, ByteArray.toList_eq]
          simp
        have HF := Lib.hid hfin
        clear hfin hlen
        go_wp2_with fail
        go_ret
        exact ⟨by rw [HF.out, he, h1, h2]; simp [h64], rfl⟩
end Go.Proofs.Ytblmlgpajmaliaa
