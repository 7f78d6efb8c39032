/-
  make's copied: the same tree in memory of the call's own.
-/
import Derived.Deep.RegionHeld3
import Derived.Test.YtfmaagcomplooaaK10
namespace Go.Proofs.Ytfmaagcomplooaa
set_option maxRecDepth 100000
open Go Go.RowKit

/-- Up to K the directories' names lie in blocks of the call's own. -/
structure CRel (w3 : World) (B g cap : Nat) (L : List Ino) (vs0 : List Value) (K : Nat) (vs : List Value) (wr : World) : Prop where
  nodes : NodesOwn wr g cap L vs
  own : ∀ i (hi : i < L.length) (hv : i < vs.length), i < K → KidsOwn wr B vs[i] L[i].kids
  apart : ∀ i j (hi : i < vs.length) (hj : j < vs.length), i < K → j < K → i ≠ j → vs[i].ownBlock = none ∨ vs[i].ownBlock ≠ vs[j].ownBlock
  off : ∀ i (hi : i < vs.length), i < K → vs[i].ownBlock ≠ some g
  rest : ∀ i, K ≤ i → vs[i]? = vs0[i]?
  below : Below B w3 wr
  size : B ≤ wr.heap.size
section
variable {w3 wr wn : World} {B g cap K : Nat} {L : List Ino} {vs0 vs : List Value}
theorem CRel.step (h : CRel w3 B g cap L vs0 K vs wr) (hg : B ≤ g) (hK : K < L.length) {v : Value} (ho : KidsOwn wn wr.heap.size v L[K].kids) (hb : Below wr.heap.size wr wn) : CRel w3 B g cap L vs0 (K + 1) (vs.set K v) (wn.setCell ⟨g, K * 6 + 4, none⟩ v) := by
  have hKv : K < vs.length := by rw [h.nodes.len]; exact hK
  have hN := (h.nodes.below hb).setKids hK hKv v L[K].kids
  have e1 : L.set K { L[K] with kids := L[K].kids } = L := List.set_getElem_self ..
  rw [e1] at hN
  have hst : ∀ k, k ≠ g → (wn.setCell ⟨g, K * 6 + 4, none⟩ v).heap[k]? = wn.heap[k]? := fun k hk => Below.heap_setCell _ _ _ _ hk
  have hnew : ∀ k, v.ownBlock = some k → wr.heap.size ≤ k := fun k hk => (ho.lt k hk).1
  have hgl := h.nodes.lt
  refine ⟨hN, fun i hi hv hiK => ?_, fun i j hi hj hiK hjK hij => ?_, fun i hi hiK => ?_, fun i hi => ?_, ?_, ?_⟩
  · rw [List.length_set] at hv
    by_cases e : K = i
    · subst e
      rw [List.getElem_set_self]
      refine KidsOwn.same (W := wn) ?_ fun k hk => hst k (by have := hnew k hk; omega)
      have := h.size
      exact ho.lower this
    · rw [List.getElem_set_ne e]
      have hk := h.own i hi hv (by omega)
      refine hk.same fun k hkb => ?_
      rw [hst k (fun e3 => h.off i hv (by omega) (hkb.trans (congrArg some e3)))]
      exact hb.block k (hk.lt k hkb).2
  · rw [List.length_set] at hi hj
    rw [List.getElem_set, List.getElem_set]
    have hx : ∀ t (ht : t < vs.length), t < K → ∀ k, vs[t].ownBlock = some k → k < wr.heap.size := fun t ht htK k hk => ((h.own t (by rw [← h.nodes.len]; exact ht) ht htK).lt k hk).2
    by_cases e : K = i
    · rw [if_pos e, if_neg (fun e2 => hij (e.symm.trans e2))]
      cases hq : v.ownBlock with
      | none => exact Or.inl rfl
      | some k =>
        refine Or.inr fun e3 => ?_
        have h1 := hx j hj (by omega) k e3.symm
        have h2 := hnew k hq
        omega
    · rw [if_neg e]
      by_cases e2 : K = j
      · rw [if_pos e2]
        cases hq : vs[i].ownBlock with
        | none => exact Or.inl rfl
        | some k =>
          refine Or.inr fun e3 => ?_
          have h1 := hx i hi (by omega) k hq
          have h2 := hnew k e3.symm
          omega
      · rw [if_neg e2]
        exact h.apart i j hi hj (by omega) (by omega) hij
  · rw [List.length_set] at hi
    rw [List.getElem_set]
    by_cases e : K = i
    · rw [if_pos e]
      exact fun e3 => by have := hnew g e3; omega
    · rw [if_neg e]
      exact h.off i hi (by omega)
  · rw [List.getElem?_set_ne (by omega)]
    exact h.rest i (by omega)
  · exact (h.below.trans (hb.mono h.size)).setCell hg v
  · rw [size_set]
    exact Nat.le_trans h.size hb.size
theorem CRel.done (h : CRel w3 B g cap L vs0 L.length vs wr) (hg : B ≤ g) : OwnT wr B g cap L vs :=
  ⟨h.nodes, hg, fun i hi hv => h.own i hi hv hi, fun i j hi hj hij => h.apart i j hi hj (by rw [← h.nodes.len]; exact hi) (by rw [← h.nodes.len]; exact hj) hij, fun i hi => h.off i hi (by rw [← h.nodes.len]; exact hi)⟩
end

set_option maxHeartbeats 4000000 in
theorem lcopied_any (a : Option Addr) (cap : Nat) (m b : Int) (L : List Ino) (hL : 0 < L.length) (hL2 : L.length ≤ 1000) (hk : ∀ x ∈ L, x.kids.length ≤ 4096) (w : World) (hN : NodesIn w a cap L) :
    Calls Try.prog 26 #[.agg #[.slice a L.length cap, .int .i64 m, .int .i64 b]] w fun e w' => ∃ g cap' vs, e = .returned (.agg #[.slice (some ⟨g, 0, none⟩) L.length cap', .int .i64 m, .int .i64 b]) ∧ OwnT w' w.heap.size g cap' L vs ∧ Below w.heap.size w w' := by
  have HN := Lib.hid hN
  have HK := Lib.hid hk
  clear hN hk
  go_enter Try.func26, Try.ntmps26
  go_wp2_with fail
  obtain ⟨w2, hw2⟩ : ∃ w2, w2 = (w.alloc (.cells #[.slice a L.length cap, .int .i64 m, .int .i64 b] 24)).alloc (.cells #[.slice none 0 0, .int .i64 0, .int .i64 0] 24) := ⟨_, rfl⟩
  have hb2 : Below w.heap.size w w2 := by rw [hw2]; exact (below_box w _).alloc (by simp) _
  have hs2 : w2.heap.size = w.heap.size + 2 := by rw [hw2]; simp
  have hA : w2.heap[w.heap.size]? = some (.cells #[.slice a L.length cap, .int .i64 m, .int .i64 b] 24 (0, 0)) := by rw [hw2, Below.heap_alloc _ _ _ (by simp)]; exact new_block _ _
  have hB : w2.heap[w.heap.size + 1]? = some (.cells #[.slice none 0 0, .int .i64 0, .int .i64 0] 24 (0, 0)) := by
    rw [hw2]
    have := new_block (w.alloc (.cells #[.slice a L.length cap, .int .i64 m, .int .i64 b] 24)) (.cells #[.slice none 0 0, .int .i64 0, .int .i64 0] 24)
    rw [World.size_alloc] at this
    exact this
  rw [← hw2]
  have HB2 := Lib.hid hb2
  have HA := Lib.hid hA
  have HBB := Lib.hid hB
  clear hw2 hb2 hA hB
  refine (lclone_nodes a cap L hL (by omega) w _ HB2.out HN.out).mono ?_
  rintro e w3 ⟨g, cap', vs, rfl, hO, hg, hkids, hb3⟩
  rw [hs2] at hg
  have hA3 : w3.heap[w.heap.size]? = _ := (hb3.block _ (by omega)).trans HA.out
  have hB3 : w3.heap[w.heap.size + 1]? = _ := (hb3.block _ (by omega)).trans HBB.out
  have a0 := blk_cell hA3 0
  have f0 := blk_free hA3 0
  obtain ⟨w4, hw4⟩ : ∃ w4, w4 = w3.setCell ⟨w.heap.size, 0, none⟩ (.slice (some ⟨g, 0, none⟩) L.length cap') := ⟨_, rfl⟩
  have hA4 : w4.heap[w.heap.size]? = some (.cells #[.slice (some ⟨g, 0, none⟩) L.length cap', .int .i64 m, .int .i64 b] 24 (0, 0)) := by rw [hw4]; exact blk_set hA3 0 _
  have hB4 : w4.heap[w.heap.size + 1]? = some (.cells #[.slice none 0 0, .int .i64 0, .int .i64 0] 24 (0, 0)) := by rw [hw4, Below.heap_setCell _ _ _ _ (show w.heap.size + 1 ≠ w.heap.size by omega)]; exact hB3
  have hb4 : Below w.heap.size w w4 := by
    rw [hw4]
    exact (HB2.out.trans (hb3.mono (by omega))).setCell (show w.heap.size ≤ w.heap.size from Nat.le_refl _) _
  have hO4 : NodesOwn w4 g cap' L vs := hO.same (by rw [hw4]; exact Below.heap_setCell _ _ _ _ (show g ≠ w.heap.size by omega))
  have hs4 : w.heap.size + 2 ≤ w4.heap.size := by rw [hw4, size_set]; have := hb3.size; omega
  have HA4 := Lib.hid hA4
  have HB4 := Lib.hid hB4
  have HBel := Lib.hid hb4
  have HO4 := Lib.hid hO4
  have HKIDS := Lib.hid hkids
  have HG := Lib.hid hg
  have HS4 := Lib.hid hs4
  clear hO hkids hb3 hA4 hB4 hb4 hO4 hs4 hA3 hB3
  go_wp2_with fail
  rw [← hw4]
  clear hw4
  go_loopw [3, 11] (fun _ iv wr => ∃ K vs', K ≤ L.length ∧ iv = .int .i64 K ∧ Hid (CRel w4 (w.heap.size + 2) g cap' L vs K vs' wr)) (fun _ iv _ => L.length - (intOf iv).toNat)
  case atStart => exact ⟨0, vs, Nat.zero_le _, rfl, HO4.out, fun _ _ _ h => absurd h (Nat.not_lt_zero _), fun _ _ _ _ h => absurd h (Nat.not_lt_zero _), fun _ _ h => absurd h (Nat.not_lt_zero _), fun _ _ => rfl, Below.refl _ _, HS4.out⟩
  case round =>
    obtain ⟨K, vs', hK, rfl, HR⟩ := hrel
    by_cases hlt : K < L.length
    · have hv : K < vs'.length := by rw [HR.out.nodes.len]; exact hlt
      have hn := HR.out.nodes.node K hlt hv
      obtain ⟨kv, hkv⟩ : ∃ kv, kv = vs'[K] := ⟨_, rfl⟩
      have hki : KidsIn wr kv L[K].kids := by
        have e := HR.out.rest K (Nat.le_refl _)
        rw [List.getElem?_eq_getElem hv, List.getElem?_eq_getElem (by rw [HO4.out.len]; exact hlt)] at e
        rw [hkv, Option.some.inj e]
        exact (HKIDS.out K hlt (by rw [HO4.out.len]; exact hlt)).below (HBel.out.trans (HR.out.below.mono (by omega)))
      have HKI := Lib.hid hki
      have hc4 := hn.kids
      rw [← hkv] at hc4
      have hf4 := HR.out.nodes.free (K * 6 + 4)
      have hgl := HR.out.nodes.lt
      have q0 : wr.cell? ⟨w.heap.size, 0, none⟩ = some (.slice (some ⟨g, 0, none⟩) L.length cap') := blk_cell ((HR.out.below.block _ (by omega)).trans HA4.out) 0
      have hq0l : w.heap.size < wr.heap.size := cell_lt q0
      have hne : (⟨g, K * 6 + 4, none⟩ : Addr) ≠ ⟨w.heap.size, 0, none⟩ := fun e => by have := (Addr.mk.inj e).1; omega
      have hlt' : (K : Int) < (L.length : Int) := by omega
      have hk0 : (0 : Int) ≤ (K : Int) := by omega
      clear hn hki hkv
      go_wp2_with fail
      go_region_with
        (first
          | (go_at_call 47; refine (lclone_kids kv L[K].kids (by have := HK.out _ (List.getElem_mem hlt); omega) wr.drew (show KidsIn wr.drew kv L[K].kids from HKI.out)).mono ?_; rintro e wn ⟨v', rfl, hO', hbn⟩; obtain ⟨va, vc, rfl⟩ := KidsOwn.form hO'; have HO' : Hid (KidsOwn wn wr.heap.size (.slice va L[K].kids.length vc) L[K].kids) := Lib.hid hO'; have hb0 : Below wr.heap.size wr wn := ⟨hbn.os, hbn.tape, hbn.output, hbn.size, hbn.block⟩; have q0 := cell_below hb0 q0; have hc4 := cell_below hb0 hc4; have hf4 : wn.frozen? ⟨g, K * 6 + 4, none⟩ = false := (Below.frozen hb0 (p := ⟨g, K * 6 + 4, none⟩) hgl).trans hf4; have HBN := Lib.hid hb0; clear hbn hO' hb0))
      all_goals
        have hst := HR.out.step (B := w.heap.size + 2) (by have := HG.out; omega) hlt HO'.out HBN.out
        have HST := Lib.hid hst
        clear hst q0 hc4 hf4
        go_wp2_with fail
        go_roundw
        case rel => exact ⟨K + 1, _, by omega, by go_num, HST.out⟩
        case measure => simp [intOf] <;> omega
    · have hKL : K = L.length := by omega
      subst hKL
      have hAr := (HR.out.below.block w.heap.size (by omega)).trans HA4.out
      have hBr := (HR.out.below.block (w.heap.size + 1) (by omega)).trans HB4.out
      have p0 := blk_cell hAr 0
      have p1 := blk_cell hAr 1
      have p2 := blk_cell hAr 2
      have r0 := blk_cell hBr 0
      have r1 := blk_cell hBr 1
      have r2 := blk_cell hBr 2
      have s0 := blk_free hBr 0
      have s1 := blk_free hBr 1
      have s2 := blk_free hBr 2
      have hgl := HR.out.nodes.lt
      have HOT := Lib.hid (HR.out.done HG.out)
      have HBE := Lib.hid (HBel.out.trans (HR.out.below.mono (show w.heap.size ≤ w.heap.size + 2 by omega)))
      have HBR := Lib.hid hBr
      clear hAr hBr
      go_wp2_with fail
      change bodyPost _ _ _ _ _ (put3 wr (w.heap.size + 1) (.slice (some ⟨g, 0, none⟩) L.length cap') (.int .i64 m) (.int .i64 b))
      obtain ⟨c0, c1, c2⟩ := put3_cells HBR.out (.slice (some ⟨g, 0, none⟩) L.length cap') (.int .i64 m) (.int .i64 b)
      have HOF := Lib.hid ((HOT.out.low (W' := put3 wr (w.heap.size + 1) (.slice (some ⟨g, 0, none⟩) L.length cap') (.int .i64 m) (.int .i64 b)) fun k hk => put3_other (by omega) _ _ _).lower (show w.heap.size ≤ w.heap.size + 2 by omega))
      have HBF := Lib.hid (put3_below HBE.out (show w.heap.size ≤ w.heap.size + 1 by omega) (.slice (some ⟨g, 0, none⟩) L.length cap') (.int .i64 m) (.int .i64 b))
      generalize put3 wr (w.heap.size + 1) (.slice (some ⟨g, 0, none⟩) L.length cap') (.int .i64 m) (.int .i64 b) = wF at *
      refine bodyPost_ret (v := .agg #[.slice (some ⟨g, 0, none⟩) L.length cap', .int .i64 m, .int .i64 b]) (by simp [results, Try.results26, go_sem, c0, c1, c2]) rfl ⟨g, cap', vs', rfl, HOF.out, HBF.out⟩
end Go.Proofs.Ytfmaagcomplooaa
