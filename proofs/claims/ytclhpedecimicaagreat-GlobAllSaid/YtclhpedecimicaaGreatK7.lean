/-
  Rows of texts: what a walk reads of them; joining names by a slash.
  The reference's Whole, Name, Base, Dir, Join.
-/
import Derived.Test.YtclhpedecimicaaGreatK1
namespace Go.Proofs.YtclhpedecimicaaGreat
set_option maxRecDepth 100000
open Go Go.RowKit

/-- A row of texts, laid open. -/
theorem Texts.forms {B : Nat} {w : World} {v : Value} {L : List (List UInt8)} (h : Texts B w v L) :
    (v = .slice none 0 0 ∧ L = []) ∨ ∃ g cap : Nat, v = .slice (some ⟨g, 0, none⟩) L.length cap ∧ B ≤ g ∧ g < w.heap.size ∧ L.length ≤ cap ∧ cap ≤ maxLen ∧
      ∀ i (hi : i < L.length), w.cell? ⟨g, i, none⟩ = some (strv L[i]) := by
  obtain ⟨h1, h2 | ⟨g, cap, cur, rfl, hg, hh, hn, hm, hs, ht⟩⟩ := h
  · obtain ⟨rfl, hn⟩ := h2
    exact Or.inl ⟨rfl, List.length_eq_zero_iff.1 hn⟩
  · refine Or.inr ⟨g, cap, rfl, hg, (Array.getElem?_eq_some_iff.1 hh).1, hn, hm, fun i hi => ?_⟩
    have e : cur.toList[i]? = some (strv L[i]) := by
      have e1 : (cur.toList.take (L.length * 1))[i]? = (L.map strv)[i]? := by rw [ht]
      rw [List.getElem?_take, if_pos (by omega), List.getElem?_map, List.getElem?_eq_getElem hi] at e1
      exact e1
    simp only [World.cell?, hh]
    rw [Array.getElem?_toList] at e
    simpa using e

theorem Texts.below {B : Nat} {w w' : World} {v : Value} {L : List (List UInt8)} (h : Texts B w v L) (hb : Below w.heap.size w w') : Texts B w' v L :=
  h.kept (row := none) ⟨hb.os, hb.tape, hb.output, hb.size, fun k hk _ => hb.block k hk⟩ (by
    cases hv : v.ownBlock with
    | none => exact Or.inl rfl
    | some k => exact Or.inr (by simp))

/-- Names with a slash between. -/
def joinL : List (List UInt8) → List UInt8
  | [] => []
  | [x] => x
  | x :: y :: r => x ++ 47 :: joinL (y :: r)

theorem join_snoc : ∀ (D : List (List UInt8)) (x : List UInt8), D ≠ [] → joinL (D ++ [x]) = joinL D ++ 47 :: x
  | [], x, h => absurd rfl h
  | [d], x, _ => by simp [joinL]
  | d :: e :: r, x, _ => by
    have ih := join_snoc (e :: r) x (by simp)
    simp only [List.cons_append] at ih ⊢
    simp only [joinL, ih, List.append_assoc, List.cons_append]

/-- How many bytes names take, a slash behind each. -/
def total : List (List UInt8) → Nat
  | [] => 0
  | x :: r => x.length + 1 + total r
theorem total_append : ∀ (D E : List (List UInt8)), total (D ++ E) = total D + total E
  | [], E => by simp [total]
  | d :: r, E => by simp only [List.cons_append, total, total_append r E]; omega
theorem join_le : ∀ (D : List (List UInt8)), (joinL D).length ≤ total D
  | [] => by simp [joinL]
  | [x] => by simp [joinL, total]
  | x :: y :: r => by
    have ih := join_le (y :: r)
    simp only [joinL, List.length_append, List.length_cons, total] at ih ⊢
    omega
theorem total_take (L : List (List UInt8)) (k : Nat) : total (L.take k) ≤ total L := by
  have h := total_append (L.take k) (L.drop k)
  rw [List.take_append_drop] at h
  omega
theorem total_go : ∀ (l cur : List UInt8), total (partsGo cur l) ≤ cur.length + l.length + 1
  | [], cur => by
    unfold partsGo
    split
    · simp [total]
    · simp [total]
  | c :: r, cur => by
    unfold partsGo
    split
    · split
      · have := total_go r []
        simp at this ⊢
        omega
      · have := total_go r []
        simp only [total, List.length_cons, List.length_nil] at this ⊢
        omega
    · have := total_go r (cur ++ [c])
      simp at this ⊢
      omega
theorem total_parts (l : List UInt8) : total (partsL l) ≤ l.length + 1 := by
  have := total_go l []
  simpa [partsL] using this

theorem strv_cat (a b : List UInt8) : Value.string ((⟨a.toArray⟩ : ByteArray) ++ (⟨b.toArray⟩ : ByteArray)) = strv (a ++ b) := by
  rw [ByteArray.mk_append_mk]
  unfold strv
  congr 2

end Go.Proofs.YtclhpedecimicaaGreat

namespace Go.Proofs.YtclhpedecimicaaGreat
set_option maxRecDepth 100000
open Go Go.RowKit

def wholeL : List UInt8 → Bool
  | [] => false
  | c :: _ => c == 47

theorem filled (s : ByteArray) (h0 : 0 < s.size) : s.toList.isEmpty = false := by
  rcases s with ⟨⟨l⟩⟩
  cases l with
  | nil => exact absurd h0 (Nat.lt_irrefl 0)
  | cons c r => rw [ByteArray.toList_eq]; rfl
theorem bare (s : ByteArray) (h0 : ¬ 0 < s.size) : s = ⟨#[]⟩ := by
  rcases s with ⟨⟨l⟩⟩
  cases l with
  | nil => rfl
  | cons c r => exact absurd (Nat.succ_pos r.length) h0
theorem whole_at (s : ByteArray) (h0 : 0 < s.size) : wholeL s.data.toList = ((s[0].toNat : Int) == 47) := by
  rcases s with ⟨⟨l⟩⟩
  cases l with
  | nil => exact absurd h0 (Nat.lt_irrefl 0)
  | cons c r =>
    show (c == 47) = ((c.toNat : Int) == 47)
    rw [Bool.eq_iff_iff, beq_iff_eq, beq_iff_eq, ← UInt8.toNat_inj]
    show c.toNat = 47 ↔ _
    omega

theorem rwhole_any (s : ByteArray) (w : World) : Calls Tryz.prog 84 #[.string s] w fun e w' => e = .returned (.bool (wholeL s.data.toList)) ∧ w = w' := by
  by_cases h0 : 0 < s.size
  · have hne := filled s h0
    rw [whole_at s h0]
    cases hc : ((s[0].toNat : Int) == 47)
    all_goals
      go_enter Tryz.func84, Tryz.ntmps84
      go_wp2_with fail
      go_ret
      exact ⟨rfl, rfl⟩
  · obtain rfl := bare s h0
    go_enter Tryz.func84, Tryz.ntmps84
    go_wp2_with fail
    go_ret
    exact ⟨rfl, rfl⟩

/-- Can a name stand in a directory? -/
def nameOkL (l : List UInt8) : Bool := l.all (fun c => c != 47 && c != 0) && !l.isEmpty && decide (l.length ≤ 64) && !(l == [46]) && !(l == [46, 46])

def Clean (s : ByteArray) (k : Nat) : Prop := ∀ j (h : j < s.size), j < k → s[j] ≠ 47 ∧ s[j] ≠ 0

theorem clean_all (s : ByteArray) (h : Clean s s.size) : s.data.toList.all (fun c => c != 47 && c != 0) = true := by
  rw [List.all_eq_true]
  intro c hc
  obtain ⟨j, hj, rfl⟩ := List.getElem_of_mem hc
  have hj' : j < s.size := by simpa using hj
  have := h j hj' hj'
  rw [at_list s j hj']
  simp [this.1, this.2]
theorem clean_not (s : ByteArray) (k : Nat) (hk : k < s.size) (h : s[k] = 47 ∨ s[k] = 0) : nameOkL s.data.toList = false := by
  have : s.data.toList.all (fun c => c != 47 && c != 0) = false := by
    rw [List.all_eq_false]
    refine ⟨s.data.toList[k]'(by simpa using hk), by simp, ?_⟩
    rw [at_list s k hk]
    rcases h with h | h <;> simp [h]
  simp [nameOkL, this]
theorem byte_is (c : UInt8) (n : Nat) (hn : n < 256) (h : ((c.toNat : Int) == (n : Int)) = true) : c = UInt8.ofNat n := by
  have h' : (c.toNat : Int) = n := by simpa using h
  apply UInt8.toNat_inj.1
  rw [UInt8.toNat_ofNat']
  omega
theorem byte_not (c : UInt8) (n : Nat) (hn : n < 256) (h : ((c.toNat : Int) == (n : Int)) = false) : c ≠ UInt8.ofNat n := by
  intro e
  subst e
  rw [UInt8.toNat_ofNat', Nat.mod_eq_of_lt hn] at h
  simp at h

set_option maxHeartbeats 1000000 in
theorem rname_any (s : ByteArray) (hs : s.size ≤ maxLen) (w : World) : Calls Tryz.prog 48 #[.string s] w fun e w' => e = .returned (.bool (nameOkL s.data.toList)) ∧ w = w' := by
  unfold maxLen at hs
  go_enter Tryz.func48, Tryz.ntmps48
  go_wp2_with fail
  go_loop [3] (fun i => ∃ k : Nat, k ≤ s.size ∧ i = .int .i64 k ∧ Hid (Clean s k)) (fun i => s.size - (intOf i).toNat)
  case atStart => exact ⟨0, by omega, rfl, fun _ _ h => absurd h (Nat.not_lt_zero _)⟩
  case round =>
    obtain ⟨k, hk, rfl, hd⟩ := hrel
    by_cases hlt : k < s.size
    · cases h47 : ((s[k].toNat : Int) == 47) with
      | true =>
        have hfin := Lib.hid (clean_not s k hlt (Or.inl (byte_is _ 47 (by decide) h47)))
        go_wp2_with fail
        go_ret
        exact ⟨by rw [hfin.out]; rfl, rfl⟩
      | false =>
        cases hz : ((s[k].toNat : Int) == 0) with
        | true =>
          have hfin := Lib.hid (clean_not s k hlt (Or.inr (byte_is _ 0 (by decide) hz)))
          go_wp2_with fail
          go_ret
          exact ⟨by rw [hfin.out]; rfl, rfl⟩
        | false =>
          have hst : Clean s (k + 1) := fun j hj hjk => by
            by_cases e : j = k
            · subst e; exact ⟨byte_not _ 47 (by decide) h47, byte_not _ 0 (by decide) hz⟩
            · exact hd.out j hj (by omega)
          have HS := Lib.hid hst
          clear hst
          go_wp2_with fail
          go_round
          case rel => exact ⟨k + 1, by omega, by go_num, HS⟩
          case measure => simp [intOf] <;> omega
    · obtain rfl : k = s.size := by omega
      have hall := Lib.hid (clean_all s hd.out)
      have hlen := size_list s
      cases he : s.toList.isEmpty <;> cases h1 : (s.toList == [46]) <;> cases h2 : (s.toList == [46, 46]) <;> by_cases h64 : s.size ≤ 64
      all_goals
        have hfin : nameOkL s.data.toList = (!s.toList.isEmpty && decide (s.size ≤ 64) && !(s.toList == [46]) && !(s.toList == [46, 46])) := by
          unfold nameOkL
          rw [hall.out, hlen, ByteArray.toList_eq]
          simp
        have HF := Lib.hid hfin
        clear hfin hlen
        go_wp2_with fail
        go_ret
        exact ⟨by rw [HF.out, he, h1, h2]; simp [h64], rfl⟩
end Go.Proofs.YtclhpedecimicaaGreat
