/-
  slices.Reverse of wants and of bytes; Suffix.
-/
import Derived.Test.YtfldhggmgepcjaaQPick
import Derived.Laws.IdiomStrings
namespace Go.Proofs.Ytfldhggmgepcjaa
set_option maxRecDepth 100000
open Go Go.RowKit

/-- So many of a row's ends are changed. -/
def RevI (vs : List Value) (i : Nat) (xs : List Value) : Prop := xs.length = vs.length ∧ ∀ t, t < vs.length → xs[t]? = if t < i ∨ vs.length - i ≤ t then vs[vs.length - 1 - t]? else vs[t]?
theorem rev_start (vs : List Value) : RevI vs 0 vs := ⟨rfl, fun t ht => by rw [if_neg (by omega)]⟩
theorem rev_next {vs xs : List Value} {i j : Nat} (h : RevI vs i xs) (hj : i + j + 1 = vs.length) (hij : i < j) {u v : Value} (hu : xs[i]? = some u) (hv : xs[j]? = some v) : RevI vs (i + 1) ((xs.set i v).set j u) := by
  refine ⟨by rw [List.length_set, List.length_set]; exact h.1, fun t ht => ?_⟩
  have hu2 := h.2 i (by omega)
  have hv2 := h.2 j (by omega)
  rw [hu, if_neg (by omega)] at hu2
  rw [hv, if_neg (by omega)] at hv2
  rw [List.getElem?_set]
  by_cases e : j = t
  · subst e
    rw [if_pos rfl, if_pos (by rw [List.length_set, h.1]; omega), if_pos (by omega), show vs.length - 1 - j = i by omega]
    exact hu2
  · rw [if_neg e, List.getElem?_set]
    by_cases e2 : i = t
    · subst e2
      rw [if_pos rfl, if_pos (by rw [h.1]; omega), if_pos (by omega), show vs.length - 1 - i = j by omega]
      exact hv2
    · rw [if_neg e2, h.2 t ht]
      by_cases c : t < i ∨ vs.length - i ≤ t
      · rw [if_pos c, if_pos (by omega)]
      · rw [if_neg c, if_neg (by omega)]
theorem rev_end {vs xs : List Value} {i : Nat} {j : Int} (h : RevI vs i xs) (hj : (i : Int) + j + 1 = (vs.length : Int)) (hij : ¬ (i : Int) < j) (h1 : (i : Int) ≤ j + 1) : xs = vs.reverse := by
  apply List.ext_getElem?
  intro t
  by_cases ht : t < vs.length
  · rw [h.2 t ht, List.getElem?_reverse ht]
    by_cases c : t < i ∨ vs.length - i ≤ t
    · rw [if_pos c]
    · rw [if_neg c]
      congr 1
      omega
  · rw [List.getElem?_eq_none (by rw [h.1]; omega), List.getElem?_eq_none (by simp; omega)]
theorem rev_empty (vs : List Value) (h : vs.length = 0) : vs = vs.reverse := by
  rw [List.length_eq_zero_iff.1 h]; rfl

set_option maxHeartbeats 8000000 in
theorem lrevw (B : Nat) (oa : Option Addr) (oc : Nat) (vs : List Value) (hn : vs.length ≤ 200000) (hlit : ∀ u ∈ vs, ∃ t v, u = .iface t v) (w : World) (hO : w.ownsRow B 39 1 (.slice oa vs.length oc) vs.length vs) :
    Calls Try.prog 16 #[.slice oa vs.length oc] w fun e w' => e = .returned (.tuple #[]) ∧ w'.ownsRow B 39 1 (.slice oa vs.length oc) vs.length vs.reverse ∧ w.grownBy w' (Value.slice oa vs.length oc).ownBlock := by
  have HO := Lib.hid hO
  have HL := Lib.hid hlit
  obtain ⟨n, hn'⟩ : ∃ n, n = vs.length := ⟨_, rfl⟩
  have HN := Lib.hid hn'
  rw [← hn'] at hn hO ⊢
  have HO0 := Lib.hid hO
  by_cases h0 : n = 0
  · have HE := Lib.hid (rev_empty vs (by omega))
    have hlt : ¬ (0 : Int) < (n : Int) - 1 := by omega
    have hw1 : IntKind.i64.wrap ((n : Int) - 1) = (n : Int) - 1 := by rw [IntKind.wrap_i64]; omega
    clear hO hlit hn' h0
    go_enter Try.func16, Try.ntmps16
    go_wp2_with fail
    go_loopw [2, 3] (fun v2 v3 wr => v2 = .int .i64 0 ∧ v3 = .int .i64 ((n : Int) - 1) ∧ w = wr) (fun _ _ _ => 0)
    case atStart => exact ⟨rfl, rfl, rfl⟩
    case round =>
      obtain ⟨rfl, rfl, rfl⟩ := hrel
      go_wp2_with fail
      go_end0
      exact ⟨rfl, by rw [← HE.out]; exact HO0.out, ⟨rfl, rfl, rfl, Nat.le_refl _, fun _ _ _ => rfl⟩⟩
  · obtain ⟨g, rfl⟩ : ∃ g, oa = some ⟨g, 0, none⟩ := by
      obtain ⟨-, ⟨-, h3⟩ | ⟨g, cap, cur, a, -⟩⟩ := hO
      · omega
      · exact ⟨g, by cases a; rfl⟩
    obtain ⟨m, hm⟩ : ∃ m, m + 1 = n := ⟨n - 1, by omega⟩
    have hme : (n : Int) - 1 = (m : Int) := by omega
    have HRI := Lib.hid (rev_start vs)
    have HM := Lib.hid hm
    clear hO hlit hn' h0 hm
    go_enter Try.func16, Try.ntmps16
    go_wp2_with fail
    go_loopw [2, 3] (fun v2 v3 wr => ∃ (i : Nat) (j : Int) (xs : List Value), v2 = .int .i64 (i : Int) ∧ v3 = .int .i64 j ∧ (i : Int) + j = m ∧ (i : Int) ≤ j + 1 ∧ Hid (RevI vs i xs) ∧ Hid (wr.ownsRow B 39 1 (.slice (some ⟨g, 0, none⟩) n oc) n xs) ∧ Hid (w.grownBy wr (some g))) (fun v2 v3 _ => ((intOf v3) - (intOf v2)).toNat)
    case atStart => exact ⟨0, (m : Int), vs, rfl, rfl, by omega, by omega, HRI, HO0, ⟨rfl, rfl, rfl, Nat.le_refl _, fun _ _ _ => rfl⟩⟩
    case round =>
      obtain ⟨i, j, xs, rfl, rfl, hij, hle, HRX, HOX, HGX⟩ := hrel
      by_cases hlt : (i : Int) < j
      · obtain ⟨k, rfl⟩ : ∃ k : Nat, j = (k : Int) := ⟨j.toNat, by omega⟩
        have hki : i < k := by omega
        have hkn : (k : Int) < (n : Int) := by have := HM.out; omega
        have hin : (i : Int) < (n : Int) := by omega
        have hi0 : (0 : Int) ≤ (i : Int) := by omega
        have hk0 : (0 : Int) ≤ (k : Int) := by omega
        have hxl : xs.length = n := by rw [HRX.out.1, HN.out]
        obtain ⟨u, hu⟩ : ∃ u, xs[i]? = some u := ⟨xs[i]'(by omega), List.getElem?_eq_getElem _⟩
        obtain ⟨v, hv⟩ : ∃ v, xs[k]? = some v := ⟨xs[k]'(by omega), List.getElem?_eq_getElem _⟩
        have hmem : ∀ (t : Nat) (z : Value), xs[t]? = some z → z ∈ vs := by
          intro t z hz
          have ht := (List.getElem?_eq_some_iff.1 hz).1
          have h := HRX.out.2 t (by rw [← HRX.out.1]; exact ht)
          rw [hz] at h
          split at h
          · exact List.mem_of_getElem? h.symm
          · exact List.mem_of_getElem? h.symm
        obtain ⟨tu, pu, rfl⟩ := HL.out u (hmem _ _ hu)
        obtain ⟨tv, pv, rfl⟩ := HL.out v (hmem _ _ hv)
        have hcu := own_at HOX.out hu
        have hcv := own_at HOX.out hv
        have hfu := HOX.out.frozenAt i
        have hfv := HOX.out.frozenAt k
        have HRN := Lib.hid (rev_next HRX.out (j := k) (by have := HM.out; have := HN.out; omega) hki hu hv)
        have hik : ¬ i = k := by omega
        have hki2 : ¬ k = i := by omega
        obtain ⟨s1, s2⟩ := HOX.out.stored i (Value.iface tv pv)
        obtain ⟨s3, s4⟩ := s1.stored k (Value.iface tu pu)
        have HSO := Lib.hid s3
        have HSG := Lib.hid (grown_two HGX.out (grown_two s2 s4))
        clear hu hv hmem s1 s2 s3 s4 hxl
        go_upto_region 3 with fail
        go_region
        go_wp2_with fail
        go_roundw
        case rel => exact ⟨i + 1, (k : Int) - 1, _, by simp, rfl, by omega, by omega, HRN, HSO.out.drew, ⟨HSG.out.os, HSG.out.tape, HSG.out.output, HSG.out.size, HSG.out.block⟩⟩
        case measure => simp only [intOf]; omega
      · have HE := Lib.hid (rev_end HRX.out (by have := HM.out; have := HN.out; omega) hlt hle)
        go_wp2_with fail
        go_end0
        exact ⟨rfl, by rw [← HE.out]; exact HOX.out, HGX.out⟩

/-- A row of bytes that []byte(s) lays: a mark stands behind it. -/
def RowF (W : World) (g n : Nat) (xs : List Value) : Prop := ∃ cs t lo hi, W.heap[g]? = some (.cells cs t (lo, hi)) ∧ n ≤ lo ∧ n ≤ cs.size ∧ cs.toList.take n = xs
theorem RowF.cell {W : World} {g n : Nat} {xs : List Value} (h : RowF W g n xs) {j : Nat} (_hj : j ≤ n) {u : Value} (hu : xs[j]? = some u) : W.cell? ⟨g, j, none⟩ = some u := by
  obtain ⟨cs, t, lo, hi, h1, h2, h3, rfl⟩ := h
  rw [cell_of_row W g j cs t (lo, hi) h1]
  rw [List.getElem?_take] at hu
  split at hu
  · rw [← Array.getElem?_toList]; exact hu
  · cases hu
theorem RowF.free {W : World} {g n : Nat} {xs : List Value} (h : RowF W g n xs) {j : Nat} (hj : j < n) : W.frozen? ⟨g, j, none⟩ = false := by
  obtain ⟨cs, t, lo, hi, h1, h2, h3, -⟩ := h
  have e : decide (lo ≤ j) = false := decide_eq_false (by omega)
  simp [World.frozen?, h1, e]
theorem RowF.set {W : World} {g n : Nat} {xs : List Value} (h : RowF W g n xs) (j : Nat) (u : Value) : RowF (W.setCell ⟨g, j, none⟩ u) g n (xs.set j u) := by
  obtain ⟨cs, t, lo, hi, h1, h2, h3, rfl⟩ := h
  have hlt := lt_of_block h1
  have h' : W.heap[g] = .cells cs t (lo, hi) := by simpa [Array.getElem?_eq_getElem hlt] using h1
  refine ⟨cs.setIfInBounds j u, t, lo, hi, ?_, h2, by simpa using h3, by rw [Array.toList_setIfInBounds, List.take_set]⟩
  show (W.heap.modify g _)[g]? = _
  rw [Array.getElem?_eq_getElem (by simpa using hlt), Array.getElem_modify_self, h']
  rfl

set_option maxHeartbeats 8000000 in
theorem lrevb (g oc : Nat) (vs : List Value) (hn : vs.length ≤ 200000) (hlit : ∀ u ∈ vs, ∃ n, u = .int .u8 n) (w : World) (hO : RowF w g vs.length vs) :
    Calls Try.prog 17 #[.slice (some ⟨g, 0, none⟩) vs.length oc] w fun e w' => e = .returned (.tuple #[]) ∧ RowF w' g vs.length vs.reverse ∧ w.grownBy w' (some g) := by
  have HO := Lib.hid hO
  have HL := Lib.hid hlit
  obtain ⟨n, hn'⟩ : ∃ n, n = vs.length := ⟨_, rfl⟩
  have HN := Lib.hid hn'
  rw [← hn'] at hn hO ⊢
  have HO0 := Lib.hid hO
  by_cases h0 : n = 0
  · have HE := Lib.hid (rev_empty vs (by omega))
    have hlt : ¬ (0 : Int) < (n : Int) - 1 := by omega
    have hw1 : IntKind.i64.wrap ((n : Int) - 1) = (n : Int) - 1 := by rw [IntKind.wrap_i64]; omega
    clear hO hlit hn' h0
    go_enter Try.func17, Try.ntmps17
    go_wp2_with fail
    go_loopw [2, 3] (fun v2 v3 wr => v2 = .int .i64 0 ∧ v3 = .int .i64 ((n : Int) - 1) ∧ w = wr) (fun _ _ _ => 0)
    case atStart => exact ⟨rfl, rfl, rfl⟩
    case round =>
      obtain ⟨rfl, rfl, rfl⟩ := hrel
      go_wp2_with fail
      go_end0
      exact ⟨rfl, by rw [← HE.out]; exact HO0.out, ⟨rfl, rfl, rfl, Nat.le_refl _, fun _ _ _ => rfl⟩⟩
  · obtain ⟨m, hm⟩ : ∃ m, m + 1 = n := ⟨n - 1, by omega⟩
    have hme : (n : Int) - 1 = (m : Int) := by omega
    have HRI := Lib.hid (rev_start vs)
    have HM := Lib.hid hm
    clear hO hlit hn' h0 hm
    go_enter Try.func17, Try.ntmps17
    go_wp2_with fail
    go_loopw [2, 3] (fun v2 v3 wr => ∃ (i : Nat) (j : Int) (xs : List Value), v2 = .int .i64 (i : Int) ∧ v3 = .int .i64 j ∧ (i : Int) + j = m ∧ (i : Int) ≤ j + 1 ∧ Hid (RevI vs i xs) ∧ Hid (RowF wr g n xs) ∧ Hid (w.grownBy wr (some g))) (fun v2 v3 _ => ((intOf v3) - (intOf v2)).toNat)
    case atStart => exact ⟨0, (m : Int), vs, rfl, rfl, by omega, by omega, HRI, HO0, ⟨rfl, rfl, rfl, Nat.le_refl _, fun _ _ _ => rfl⟩⟩
    case round =>
      obtain ⟨i, j, xs, rfl, rfl, hij, hle, HRX, HOX, HGX⟩ := hrel
      by_cases hlt : (i : Int) < j
      · obtain ⟨k, rfl⟩ : ∃ k : Nat, j = (k : Int) := ⟨j.toNat, by omega⟩
        have hki : i < k := by omega
        have hkn : (k : Int) < (n : Int) := by have := HM.out; omega
        have hin : (i : Int) < (n : Int) := by omega
        have hi0 : (0 : Int) ≤ (i : Int) := by omega
        have hk0 : (0 : Int) ≤ (k : Int) := by omega
        have hxl : xs.length = n := by rw [HRX.out.1, HN.out]
        obtain ⟨u, hu⟩ : ∃ u, xs[i]? = some u := ⟨xs[i]'(by omega), List.getElem?_eq_getElem _⟩
        obtain ⟨v, hv⟩ : ∃ v, xs[k]? = some v := ⟨xs[k]'(by omega), List.getElem?_eq_getElem _⟩
        have hmem : ∀ (t : Nat) (z : Value), xs[t]? = some z → z ∈ vs := by
          intro t z hz
          have ht := (List.getElem?_eq_some_iff.1 hz).1
          have h := HRX.out.2 t (by rw [← HRX.out.1]; exact ht)
          rw [hz] at h
          split at h
          · exact List.mem_of_getElem? h.symm
          · exact List.mem_of_getElem? h.symm
        obtain ⟨nu, rfl⟩ := HL.out u (hmem _ _ hu)
        obtain ⟨nv, rfl⟩ := HL.out v (hmem _ _ hv)
        have hcu := HOX.out.cell (by omega) hu
        have hcv := HOX.out.cell (by omega) hv
        have hfu := HOX.out.free (show i < n by omega)
        have hfv := HOX.out.free (show k < n by omega)
        have HRN := Lib.hid (rev_next HRX.out (j := k) (by have := HM.out; have := HN.out; omega) hki hu hv)
        have hik : ¬ i = k := by omega
        have hki2 : ¬ k = i := by omega
        have s1 := HOX.out.set i (Value.int .u8 nv)
        have s3 := s1.set k (Value.int .u8 nu)
        have HSO := Lib.hid s3
        have HSG := Lib.hid (grown_two HGX.out (grown_two (set_grown0 wr g i (Value.int .u8 nv)) (set_grown0 _ g k (Value.int .u8 nu))))
        clear hu hv hmem s1 s3 hxl
        go_upto_region 3 with fail
        go_region
        go_wp2_with fail
        go_roundw
        case rel => exact ⟨i + 1, (k : Int) - 1, _, by simp, rfl, by omega, by omega, HRN, HSO.out, ⟨HSG.out.os, HSG.out.tape, HSG.out.output, HSG.out.size, HSG.out.block⟩⟩
        case measure => simp only [intOf]; omega
      · have HE := Lib.hid (rev_end HRX.out (by have := HM.out; have := HN.out; omega) hlt hle)
        go_wp2_with fail
        go_end0
        exact ⟨rfl, by rw [← HE.out]; exact HOX.out, HGX.out⟩
end Go.Proofs.Ytfldhggmgepcjaa
