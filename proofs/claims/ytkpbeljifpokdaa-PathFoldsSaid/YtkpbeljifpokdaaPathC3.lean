/-
  PathFolds, walked, out of the layer's six answers.
-/
import Derived.Test.YtkpbeljifpokdaaPathC2
namespace Go.Proofs.Ytkpbeljifpokdaa
open Go Go.RowKit

theorem fold_gen (C : PathOk) (a b : ByteArray) (ha : a.size ≤ 16777216) (hb : b.size ≤ 16777216) (w : World) :
    Calls Try.prog 21 #[.string a, .string b] w fun e w' => ∃ t : ByteArray, e = .returned (.string t) ∧ t.data.toList = foldL a.data.toList b.data.toList ∧ Below w.heap.size w w' :=
  (C.fold a b w ha hb).mono fun _ _ h => ⟨⟨(foldL a.data.toList b.data.toList).toArray⟩, h.1, rfl, h.2⟩
theorem fold_back (C : PathOk) (c t : ByteArray) (a b : List UInt8) (ht : t.data.toList = foldL a b) (hc : c.size ≤ 16777216) (hz : t.size ≤ 16777216) (w : World) :
    Calls Try.prog 21 #[.string c, .string t] w fun e w' => e = .returned (.string t) ∧ Below w.heap.size w w' := by
  have h := C.fold c t w hc hz
  have e : (⟨(foldL c.data.toList t.data.toList).toArray⟩ : ByteArray) = t := by
    rw [ht, fold_again, ← ht]
  unfold GivesText at h
  rw [e] at h
  exact h
theorem parts_gen (C : PathOk) (t : ByteArray) (L : List (List UInt8)) (hL : partsL t.data.toList = L) (hz : t.size ≤ 16777216) (w : World) :
    Calls Try.prog 11 #[.string t] w fun e w' => ∃ v, e = .returned v ∧ Texts w.heap.size w' v L ∧ Below w.heap.size w w' := by
  subst hL
  exact C.parts t w hz

/-- What a folded path looks like: a slash first; none last, but alone. -/
theorem fold_head (t : ByteArray) (a b : List UInt8) (ht : t.data.toList = foldL a b) : ∃ h : 0 < t.size, (t[0].toNat : Int) = 47 := by
  rcases t with ⟨⟨l⟩⟩
  have hl : l = foldL a b := ht
  subst hl
  exact ⟨Nat.succ_pos _, rfl⟩
theorem fold_tail (t : ByteArray) (a b : List UInt8) (ht : t.data.toList = foldL a b) (h1 : 1 < t.size) : (((t[t.size - 1]'(by omega)).toNat : Int) == 47) = false := by
  have h0 : 0 < t.size := by omega
  have hlast := last_byte t h0
  have hF := parts_fold a b
  have hlen := size_list t
  rw [ht] at hlast hlen
  have hne : foldP (partsL (if wholeL b then b else joinP a b)) ≠ [] := by
    intro e
    unfold foldL at hlen
    rw [e] at hlen
    simp [joinL] at hlen
    omega
  obtain ⟨d, hd1, hd2⟩ := join_last _ (fun x hx => (fold_names _ x hx).1) hne
  have he : (foldL a b).getLast? = some d := by
    unfold foldL
    rw [List.getLast?_cons, hd1]
    rfl
  rw [he] at hlast
  have hdd := Option.some.inj hlast
  rw [beq_eq_false_iff_ne]
  intro e
  apply hd2
  rw [hdd]
  apply UInt8.toNat_inj.1
  show _ = 47
  omega

theorem no_text (xs : ByteArray) (x l : List UInt8) (hx : xs.data.toList = x) (h : x ≠ l) : (xs.toList == l) = false := by
  rw [ByteArray.toList_eq, hx, beq_eq_false_iff_ne]
  exact h
theorem some_text (xs : ByteArray) (x : List UInt8) (hx : xs.data.toList = x) (h : x ≠ []) : xs.toList.isEmpty = false := by
  rw [ByteArray.toList_eq, hx]
  cases x with
  | nil => exact absurd rfl h
  | cons c r => rfl

/-- What the names of a folded path are. -/
theorem names_of (t : ByteArray) (a b : List UInt8) (ht : t.data.toList = foldL a b) (L : List (List UInt8)) (hL : partsL t.data.toList = L) : ∀ x ∈ L, x ≠ [] ∧ x ≠ [46] ∧ x ≠ [46, 46] := by
  subst hL
  rw [ht, parts_fold]
  exact fun x hx => ⟨(fold_names _ x hx).1.1, (fold_names _ x hx).2⟩

def WRel (n : Nat) (i : Value) : Prop := ∃ k : Nat, k ≤ n ∧ i = .int .i64 k

set_option maxHeartbeats 4000000 in
set_option maxRecDepth 100000 in
theorem folds_walk (C : PathOk) (a b c : ByteArray) (ha : a.size ≤ 281474976710656) (hb : b.size ≤ 281474976710656) (hc : c.size ≤ 281474976710656) (w : World) :
    Calls Try.prog 5 #[.string a, .string b, .string c] w fun e w' => e = .returned (.bool true) ∧ Below w.heap.size w w' := by
  have HC := Lib.hid C
  clear C
  have za := size_list a
  have zb := size_list b
  have zc := size_list c
  have HM := Lib.hid (show ∀ x ∈ [a.data.toList, b.data.toList, c.data.toList], x.length ≤ 281474976710656 by intro x hx; simp only [List.mem_cons, List.not_mem_nil, or_false] at hx; rcases hx with rfl | rfl | rfl <;> omega)
  cases hs : shortB [a.data.toList, b.data.toList, c.data.toList] with
  | false =>
    have HS := Lib.hid hs
    clear hs za zb zc
    go_enter Try.func5, Try.ntmps5
    go_wp2_with fail
    refine (short_known _ _ HS.out _ _ _ (texts_three _ a b c) HM.out (by simp)).mono ?_
    rintro e w' ⟨rfl, rfl⟩
    go_wp2_with fail
    refine (pawake HC.out _).mono ?_
    rintro e w1 ⟨rfl, b1⟩
    go_wp2_with fail
    go_ret
    exact ⟨rfl, ((Below.refl _ _).alloc (Nat.le_refl _) _).trans (b1.mono (by simp))⟩
  | true =>
    have hsz : a.size ≤ 5000 ∧ b.size ≤ 5000 ∧ c.size ≤ 5000 := by
      have h : sumL [a.data.toList, b.data.toList, c.data.toList] ≤ 5000 := by simpa [shortB] using hs
      simp only [sumL] at h
      omega
    have HS := Lib.hid hs
    have HFL := Lib.hid (fold_len a.data.toList b.data.toList)
    clear hs
    go_enter Try.func5, Try.ntmps5
    go_wp2_with fail
    refine (short_known _ _ HS.out _ _ _ (texts_three _ a b c) HM.out (by simp)).mono ?_
    rintro e w' ⟨rfl, rfl⟩
    go_wp2_with fail
    have b0 : Below w.heap.size w (w.alloc (.cells #[.string a, .string b, .string c] 9)) := (Below.refl _ _).alloc (Nat.le_refl _) _
    refine (fold_gen HC.out a b (by omega) (by omega) _).mono ?_
    rintro e w1 ⟨t, rfl, ht, b1⟩
    have htz : t.size ≤ 16777216 := by have h1 := size_list t; have h2 := HFL.out; rw [ht] at h1; omega
    obtain ⟨h0, h47⟩ := fold_head t _ _ ht
    have hne := filled t h0
    have HT := Lib.hid ht
    clear ht
    by_cases hbig : 1 < t.size
    · have hl := fold_tail t _ _ HT.out hbig
      go_wp2_with fail
      refine (fold_back HC.out c t _ _ HT.out (by omega) htz _).mono ?_
      rintro e w2 ⟨rfl, b2⟩
      go_wp2_with fail
      refine (parts_gen HC.out t _ rfl htz _).mono ?_
      rintro e w3 ⟨v3, rfl, hT3, b3⟩
      generalize hL : partsL t.data.toList = L at hT3
      have HN := Lib.hid (names_of t _ _ HT.out L hL)
      clear hL
      obtain ⟨a1, c1, rfl, hc1, hm1⟩ := hT3.slot
      have HT3 := Lib.hid hT3
      clear hT3
      unfold maxLen at hm1
      go_wp2_with fail
      go_loop [9, 50] (fun _ i => WRel L.length i) (fun _ i => L.length - (intOf i).toNat)
      case atStart => exact ⟨0, by omega, rfl⟩
      case round =>
        obtain ⟨k, hk, rfl⟩ := hrel
        by_cases hlt : k < L.length
        · obtain ⟨x1, hx1⟩ : ∃ xs : ByteArray, xs = ⟨L[k].toArray⟩ := ⟨_, rfl⟩
          have HX := Lib.hid (show x1.data.toList = L[k] by rw [hx1])
          obtain ⟨g1, rfl, hy1⟩ : ∃ g, a1 = some ⟨g, 0, none⟩ ∧ w3.cell? ⟨g, k, none⟩ = some (.string x1) := by
            rcases HT3.out.forms with ⟨hv, hn⟩ | ⟨g, cap, hv, hB, hg, -, -, hcell⟩
            · rw [hn] at hlt; simp at hlt
            · simp only [Value.slice.injEq] at hv
              refine ⟨g, hv.1, ?_⟩
              rw [hcell k hlt, hx1]
              rfl
          clear hx1
          have hn1 := no_text x1 _ [46] HX.out (HN.out _ (List.getElem_mem hlt)).2.1
          have hn2 := no_text x1 _ [46, 46] HX.out (HN.out _ (List.getElem_mem hlt)).2.2
          have hn3 := some_text x1 _ HX.out (HN.out _ (List.getElem_mem hlt)).1
          go_wp2_with fail
          go_round
          case rel => exact ⟨k + 1, by omega, by go_num⟩
          case measure => simp [intOf] <;> omega
        · obtain rfl : k = L.length := by omega
          go_wp2_with fail
          refine (pawake HC.out _).mono ?_
          rintro e w4 ⟨rfl, b4⟩
          go_wp2_with fail
          go_ret
          have s0 := b0.size
          have s1 := b1.size
          have s2 := b2.size
          have s3 := b3.size
          exact ⟨rfl, (((b0.trans (b1.mono s0)).trans (b2.mono (by omega))).trans (b3.mono (by omega))).trans (b4.mono (by omega))⟩
    · go_wp2_with fail
      refine (fold_back HC.out c t _ _ HT.out (by omega) htz _).mono ?_
      rintro e w2 ⟨rfl, b2⟩
      go_wp2_with fail
      refine (parts_gen HC.out t _ rfl htz _).mono ?_
      rintro e w3 ⟨v3, rfl, hT3, b3⟩
      generalize hL : partsL t.data.toList = L at hT3
      have HN := Lib.hid (names_of t _ _ HT.out L hL)
      clear hL
      obtain ⟨a1, c1, rfl, hc1, hm1⟩ := hT3.slot
      have HT3 := Lib.hid hT3
      clear hT3
      unfold maxLen at hm1
      go_wp2_with fail
      go_loop [9, 50] (fun _ i => WRel L.length i) (fun _ i => L.length - (intOf i).toNat)
      case atStart => exact ⟨0, by omega, rfl⟩
      case round =>
        obtain ⟨k, hk, rfl⟩ := hrel
        by_cases hlt : k < L.length
        · obtain ⟨x1, hx1⟩ : ∃ xs : ByteArray, xs = ⟨L[k].toArray⟩ := ⟨_, rfl⟩
          have HX := Lib.hid (show x1.data.toList = L[k] by rw [hx1])
          obtain ⟨g1, rfl, hy1⟩ : ∃ g, a1 = some ⟨g, 0, none⟩ ∧ w3.cell? ⟨g, k, none⟩ = some (.string x1) := by
            rcases HT3.out.forms with ⟨hv, hn⟩ | ⟨g, cap, hv, hB, hg, -, -, hcell⟩
            · rw [hn] at hlt; simp at hlt
            · simp only [Value.slice.injEq] at hv
              refine ⟨g, hv.1, ?_⟩
              rw [hcell k hlt, hx1]
              rfl
          clear hx1
          have hn1 := no_text x1 _ [46] HX.out (HN.out _ (List.getElem_mem hlt)).2.1
          have hn2 := no_text x1 _ [46, 46] HX.out (HN.out _ (List.getElem_mem hlt)).2.2
          have hn3 := some_text x1 _ HX.out (HN.out _ (List.getElem_mem hlt)).1
          go_wp2_with fail
          go_round
          case rel => exact ⟨k + 1, by omega, by go_num⟩
          case measure => simp [intOf] <;> omega
        · obtain rfl : k = L.length := by omega
          go_wp2_with fail
          refine (pawake HC.out _).mono ?_
          rintro e w4 ⟨rfl, b4⟩
          go_wp2_with fail
          go_ret
          have s0 := b0.size
          have s1 := b1.size
          have s2 := b2.size
          have s3 := b3.size
          exact ⟨rfl, (((b0.trans (b1.mono s0)).trans (b2.mono (by omega))).trans (b3.mono (by omega))).trans (b4.mono (by omega))⟩
end Go.Proofs.Ytkpbeljifpokdaa
