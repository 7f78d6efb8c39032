/-
  slices.Insert of one name: no room, something behind; and all roads in one.
  nodes.With: a directory's names and one more, where the order by bytes has it.
-/
import Derived.Test.YtfmaagcomplooaaK10
import Derived.Test.YtfmaagcomplooaaK5
import Derived.Test.YtfmaagcomplooaaK1
namespace Go.Proofs.Ytfmaagcomplooaa
set_option maxRecDepth 100000
open Go Go.RowKit Go.Lib

section
variable {base c i vb vc : Nat} {K : List (List UInt8 × Int)} {x : List UInt8 × Int} {w : World}

set_option maxHeartbeats 4000000 in
/-- There is no room, and something behind: a new block. -/
theorem ins_grow {b : Nat} (ho : KidsOwn w base (.slice (some ⟨b, 0, none⟩) K.length c) K) (hi : i < K.length) (hnc : K.length ≤ c) (hroom : c < K.length + 1) (hl : K.length ≤ 1048576) (hbs : base ≤ w.heap.size)
    (hv : w.heap[vb]? = some (.cells (entC x).toArray 62 (0, 0))) :
    Calls Try.prog 83 #[.slice (some ⟨b, 0, none⟩) K.length c, .int .i64 i, .slice (some ⟨vb, 0, none⟩) 1 vc] w fun e w' => InsAns base w (.slice (some ⟨b, 0, none⟩) K.length c) (insK K i x) e w' := by
  obtain ⟨i0, hi0, hz0, hzs, hzb⟩ := info_parts infoE
  have hcs : ∀ j v, (kidC K)[j]? = some v → w.cell? ⟨b, j, none⟩ = some v := fun j v h => by
    have := ho.cells rfl j v h
    rwa [zero_add_addr] at this
  have hbw : b < w.heap.size := (ho.lt b rfl).2
  have hvw : vb < w.heap.size := lt_of_block hv
  have hin : i ≤ K.length := by omega
  have hkl := kidC_len K
  have hdl : ((kidC K).drop (i * 2)).length = (K.length - i) * 2 := by rw [List.length_drop, kidC_len]; omega
  have htl : ((kidC K).take (i * 2)).length = i * 2 := by rw [List.length_take, kidC_len]; omega
  have hkk : (K.length : Int) + 1 - (i : Int) = ((K.length + 1 - i : Nat) : Int) := by omega
  have hik : i + (K.length + 1 - i) = K.length + 1 := by omega
  have hone : ∀ v ∈ entC x, v.oneCell' = true := fun v hv => by
    simp only [entC, List.mem_cons, List.not_mem_nil, or_false] at hv
    rcases hv with rfl | rfl <;> rfl
  have hold : (Builtin.firstCells i0.size i (.slice (some ⟨b, 0, none⟩) i c)).run Try.prog w.drew = .ok ((kidC K).take (i * 2)).toArray w.drew := by
    rw [hzs]
    exact run_firstCells_some w.drew 2 i ⟨b, 0, none⟩ i c ((kidC K).take (i * 2)) htl (fun j v hj => by
      rw [zero_add_addr]
      rw [List.getElem?_take] at hj
      split at hj
      · exact hcs j v hj
      · cases hj)
  have hgc := grownCap_ge w (K.length + 1) c 62
  have hgm := grownCap_le_maxLen w (K.length + 1) c 62 (by unfold maxLen; omega)
  have hrz : ∀ ty, (Builtin.append_ #[27, 3] ty #[.slice (some ⟨b, 0, none⟩) i c, .int .i64 ((K.length : Int) + 1 - (i : Int))]).run Try.prog w =
      .ok (.slice (some ⟨w.heap.size, 0, none⟩) (K.length + 1) (grownCap w (K.length + 1) c 62)) (w.drew.alloc (.cells (((kidC K).take (i * 2)).toArray ++ Builtin.zeroCells (Value.agg #[.string ⟨#[]⟩, .int .i64 0]).cells (K.length + 1 - i) ++ Builtin.zeroCells (Value.agg #[.string ⟨#[]⟩, .int .i64 0]).cells (grownCap w (K.length + 1) c 62 - (K.length + 1))) 62)) := fun ty => by
    have h := Lib.run_append_grow_zeros w 27 3 ty 62 i0 _ .i64 .i64 Try.underlying27 Try.underlying3 hi0 hz0 (some ⟨b, 0, none⟩) i c ((kidC K).take (i * 2)) hold (K.length + 1 - i) (by omega) (by omega) (by omega) (by omega) (by rw [hzb]; omega) (by rw [hzb, hik]; exact growslice_fits hroom (by omega))
    rw [hik] at h
    rw [hkk]
    exact h
  obtain ⟨G, hG⟩ : ∃ G, G = grownCap w (K.length + 1) c 62 := ⟨_, rfl⟩
  rw [← hG] at hrz hgc hgm
  obtain ⟨ROW, hROW⟩ : ∃ ROW : Array Value, ROW = ((kidC K).take (i * 2)).toArray ++ Builtin.zeroCells (Value.agg #[.string ⟨#[]⟩, .int .i64 0]).cells (K.length + 1 - i) ++ Builtin.zeroCells (Value.agg #[.string ⟨#[]⟩, .int .i64 0]).cells (G - (K.length + 1)) := ⟨_, rfl⟩
  rw [← hROW] at hrz
  have hRs : ROW.size = G * 2 := by
    have z1 : (Builtin.zeroCells (Value.agg #[.string ⟨#[]⟩, .int .i64 0]).cells (K.length + 1 - i)).size = (K.length + 1 - i) * 2 := size_zeroCells _ _
    have z2 : (Builtin.zeroCells (Value.agg #[.string ⟨#[]⟩, .int .i64 0]).cells (G - (K.length + 1))).size = (G - (K.length + 1)) * 2 := size_zeroCells _ _
    rw [hROW, Array.size_append, Array.size_append, z1, z2]
    show ((kidC K).take (i * 2)).length + _ + _ = _
    rw [htl]
    omega
  have hRg : ∀ j, j < i * 2 → ROW[j]? = (kidC K)[j]? := fun j hj => by
    rw [hROW, Array.append_assoc, Array.getElem?_append_left (by show j < ((kidC K).take (i * 2)).length; omega)]
    show ((kidC K).take (i * 2)).toArray[j]? = _
    rw [List.getElem?_toArray, List.getElem?_take, if_pos hj]
  obtain ⟨W1, hW1⟩ : ∃ W1, W1 = w.drew.alloc (.cells ROW 62) := ⟨_, rfl⟩
  rw [← hW1] at hrz
  have hN : W1.heap[w.heap.size]? = some (.cells ROW 62 (0, 0)) := by rw [hW1]; exact new_block w.drew _
  have hO : ∀ k, k < w.heap.size → W1.heap[k]? = w.heap[k]? := fun k hk => by rw [hW1]; exact Below.heap_alloc w.drew _ k hk
  have hGW : w.grownBy W1 none := by rw [hW1]; exact ⟨rfl, rfl, rfl, by simp, fun k hk _ => Below.heap_alloc w.drew _ k hk⟩
  have hcpA : ∀ (W : World), (∀ y, W.cell? y = W1.cell? y) → (∀ y, W.frozen? y = W1.frozen? y) → ∀ ty dc, (Builtin.copy_ #[27, 27] ty #[.slice (some ⟨w.heap.size, i * 2, none⟩) (K.length + 1 - i) dc, .slice (some ⟨vb, 0, none⟩) 1 vc]).run Try.prog W = .ok (goInt (1 : Nat)) (W.setCells w.heap.size (i * 2) (entC x)) := fun W hWc hWf ty dc =>
    run_copy_k W _ _ ty 62 w.heap.size (i * 2) (K.length + 1 - i) dc ⟨vb, 0, none⟩ 1 vc 2 1 (entC x) Try.underlying27 size_entry (by simp only [Nat.min_def]; split <;> omega) rfl
      (fun j v hj => by
        rw [zero_add_addr, hWc, blk_cell ((hO vb hvw).trans hv)]
        simpa using hj)
      (fun j hj => by
        have hj' : j < 2 := hj
        rw [hWc, blk_cell hN, Array.getElem?_eq_getElem (by omega)]; rfl)
      (fun j hj => by rw [hWf]; exact blk_free hN _) hone
  have hB1 : (W1.setCells w.heap.size (i * 2) (entC x)).heap[w.heap.size]? = some (.cells (layA ROW (i * 2) (entC x)) 62 (0, 0)) := blk_sets _ _ hN
  have hB2 : (W1.setCells w.heap.size (i * 2) (entC x)).heap[b]? = w.heap[b]? := (heap_sets _ _ _ _ b (by omega)).trans (hO b hbw)
  have hcpB : ∀ (W : World), (∀ y, W.cell? y = (W1.setCells w.heap.size (i * 2) (entC x)).cell? y) → (∀ y, W.frozen? y = (W1.setCells w.heap.size (i * 2) (entC x)).frozen? y) → ∀ ty dc sc, (Builtin.copy_ #[27, 27] ty #[.slice (some ⟨w.heap.size, (i + 1) * 2, none⟩) (K.length - i) dc, .slice (some ⟨b, i * 2, none⟩) (K.length - i) sc]).run Try.prog W = .ok (goInt (K.length - i : Nat)) (W.setCells w.heap.size ((i + 1) * 2) ((kidC K).drop (i * 2))) := fun W hWc hWf ty dc sc =>
    run_copy_k W _ _ ty 62 w.heap.size ((i + 1) * 2) (K.length - i) dc ⟨b, i * 2, none⟩ (K.length - i) sc 2 (K.length - i) ((kidC K).drop (i * 2)) Try.underlying27 size_entry (by simp only [Nat.min_def]; split <;> omega) hdl
      (fun j v hj => by
        rw [Addr.add_lit, hWc, World.cell?_of_block (a := ⟨b, i * 2 + j, none⟩) hB2]
        exact hcs (i * 2 + j) v (by rwa [List.getElem?_drop] at hj))
      (fun j hj => by rw [hWc, blk_cell hB1, Array.getElem?_eq_getElem (by rw [layA_size]; omega)]; rfl)
      (fun j hj => by rw [hWf]; exact blk_free hB1 _) (fun v hv => kidC_one K v (List.mem_of_mem_drop hv))
  have hfin : ∀ W : World, W.heap = ((W1.setCells w.heap.size (i * 2) (entC x)).setCells w.heap.size ((i + 1) * 2) ((kidC K).drop (i * 2))).heap → W.os = w.os → W.tape = w.tape → W.output = w.output → InsAns base w (.slice (some ⟨b, 0, none⟩) K.length c) (insK K i x) (.returned (.slice (some ⟨w.heap.size, 0, none⟩) (K.length + 1) G)) W := fun W e1 e2 e3 e4 => by
    have hlen := insK_len hin x
    refine ⟨_, rfl, ?_, ⟨e2, e3, e4, ?_, fun k hk _ => ?_⟩, fun k hk => Or.inr ?_⟩
    · rw [← hlen]
      refine own_of_cells hbs (by rw [e1]; exact blk_sets _ _ hB1) (by omega) hgm (by rw [layA_size, layA_size, hRs]) fun j hj => ?_
      rw [hlen] at hj
      exact grow_cells hin (by omega) hRg x j hj
    · rw [e1, size_sets, size_sets]
      exact hGW.size
    · rw [e1, heap_sets _ _ _ _ _ (by omega), heap_sets _ _ _ _ _ (by omega)]
      exact hO k hk
    · cases hk
      exact Nat.le_refl _
  have HFIN := Lib.hid hfin
  have hst1 := hGW.os
  have hst2 := hGW.tape
  have hst3 := hGW.output
  have hsets : ∀ (vs : List Value) (b o : Nat) (W : World), (W.setCells b o vs).os = W.os ∧ (W.setCells b o vs).tape = W.tape ∧ (W.setCells b o vs).output = W.output := fun vs => by
    induction vs with
    | nil => exact fun _ _ _ => ⟨rfl, rfl, rfl⟩
    | cons v r ih => exact fun b o W => ih b (o + 1) (W.setCell ⟨b, o, none⟩ v)
  have HST := Lib.hid (show ∀ (p q : Nat) (vs us : List Value), ((W1.setCells w.heap.size p vs).setCells w.heap.size q us).os = w.os ∧ ((W1.setCells w.heap.size p vs).setCells w.heap.size q us).tape = w.tape ∧ ((W1.setCells w.heap.size p vs).setCells w.heap.size q us).output = w.output from fun p q vs us =>
    ⟨((hsets _ _ _ _).1.trans (hsets _ _ _ _).1).trans hst1, ((hsets _ _ _ _).2.1.trans (hsets _ _ _ _).2.1).trans hst2, ((hsets _ _ _ _).2.2.trans (hsets _ _ _ _).2.2).trans hst3⟩)
  have hw1 : IntKind.i64.wrap ((i : Int) + 1) = (i : Int) + 1 := by rw [IntKind.wrap_i64]; omega
  have hw2 : IntKind.i64.wrap ((K.length : Int) + 1) = (K.length : Int) + 1 := by rw [IntKind.wrap_i64]; omega
  have hw3 : IntKind.i64.wrap ((K.length : Int) + 1 - (i : Int)) = (K.length : Int) + 1 - (i : Int) := by rw [IntKind.wrap_i64]; omega
  have hz2 : ¬ ((i : Int) = (K.length : Int)) := by omega
  have hz3 : (c : Int) < (K.length : Int) + 1 := by omega
  have hb1 : (0 : Int) ≤ (i : Int) + 1 := by omega
  have hb3 : (i : Int) ≤ (K.length : Int) := by omega
  have htn : ((i : Int) + 1).toNat = i + 1 := by omega
  have hGi : ¬ (G = i) := by omega
  have hGim : ¬ (G = i + 1) := by omega
  have hci : ¬ (c = i) := by omega
  have hG63 : G ≤ 9223372036854775807 := by unfold maxLen at hgm; omega
  clear hB1 hB2 hfin hN hO hGW hRg hRs hROW hold hG hst1 hst2 hst3 hsets hkk hik
  have hE1 : ∀ y, ((W1.setCells w.heap.size (i * 2) (entC x)).drew).cell? y = (W1.setCells w.heap.size (i * 2) (entC x)).cell? y := fun y => rfl
  have hE2 : ∀ y, ((W1.setCells w.heap.size (i * 2) (entC x)).drew).frozen? y = (W1.setCells w.heap.size (i * 2) (entC x)).frozen? y := fun y => rfl
  clear hW1
  go_enter Try.func83, Try.ntmps83
  go_wp2_with (first
    | (at_builtin; refine Lib.wpList_append_run _ rfl _ _ _ _ rfl _ _ rfl rfl _ _ (hrz _) ?_)
    | (at_builtin; refine wpList_copy_runI _ rfl _ _ 27 27 rfl _ _ rfl rfl (hcpA _ (fun _ => rfl) (fun _ => rfl) _ _) ?_))
  go_region_law (refine step_copy_runI rfl _ _ 27 27 rfl (.slice (some ⟨w.heap.size, (i + 1) * 2, none⟩) (K.length - i) (G - (i + 1))) (.slice (some ⟨b, i * 2, none⟩) (K.length - i) (c - i)) (by simp [Act.eval, Act.put]) (by simp [Act.eval, Act.put]) (hcpB _ hE1 hE2 3 (G - (i + 1)) (c - i)) ?_)
  go_wp2_with fail
  rw [← drew_setCells]
  have hst := HST.out (i * 2) ((i + 1) * 2) (entC x) ((kidC K).drop (i * 2))
  go_ret
  exact HFIN.out _ rfl hst.1 hst.2.1 hst.2.2
end

/-- All roads. -/
theorem linsert_any (base : Nat) (v : Value) (K : List (List UInt8 × Int)) (i : Nat) (x : List UInt8 × Int) (vb vc : Nat) (w : World) (ho : KidsOwn w base v K) (hi : i ≤ K.length) (hl : K.length ≤ 1048576) (hbs : base ≤ w.heap.size)
    (hv : w.heap[vb]? = some (.cells (entC x).toArray 62 (0, 0))) (hvb : v.ownBlock ≠ some vb) :
    Calls Try.prog 83 #[v, .int .i64 i, .slice (some ⟨vb, 0, none⟩) 1 vc] w fun e w' => InsAns base w v (insK K i x) e w' := by
  rcases ho.2 with ⟨rfl, h0⟩ | ⟨g, cap, cur, rfl, hb, hg, hn, hm, hs, ht⟩
  · have e : i = K.length := by omega
    subst e
    exact ins_end_grow ho (fun a n c e => by obtain ⟨-, -, rfl⟩ := Value.slice.inj e; omega) hl hbs hv
  · by_cases e : i = K.length
    · subst e
      by_cases hr : K.length + 1 ≤ cap
      · exact ins_end_room hs hm hr hb hg ht hv
      · exact ins_end_grow ho (fun a n c e => by obtain ⟨-, -, rfl⟩ := Value.slice.inj e; omega) hl hbs hv
    · by_cases hr : K.length + 1 ≤ cap
      · exact ins_shift (by omega) hs hm hr hb hg ht hv (fun e => hvb (by rw [e]; rfl))
      · exact ins_grow ho (by omega) hn (by omega) hl hbs hv
end Go.Proofs.Ytfmaagcomplooaa

namespace Go.Proofs.Ytfmaagcomplooaa
set_option maxRecDepth 100000
open Go Go.RowKit

/-- Where a new name stands. -/
theorem place_new {K : List (List UInt8 × Int)} {s : List UInt8} (k : Int) (_hR : Rises K) (hn : ∀ e ∈ K, e.1 ≠ s) : ∃ i, i ≤ K.length ∧ namedL K s k = insK K i (s, k) ∧ ∀ e, BAns K s e → e = .returned (.tuple #[.int .i64 i, .bool false]) := by
  obtain ⟨A, B, h1, h2, h3, h4⟩ := named_at K s k hn
  have hA : K.take A.length = A := by rw [h1]; simp
  have hB : K.drop A.length = B := by rw [h1]; simp
  refine ⟨A.length, by rw [h1, List.length_append]; omega, by rw [h2]; unfold insK; rw [hA, hB], ?_⟩
  rintro e ⟨i, v, rfl, hi, hv, hlo, hhi⟩
  have hlen : K.length = A.length + B.length := by rw [h1, List.length_append]
  have hvf : v = false := by
    cases v with
    | false => rfl
    | true =>
      obtain ⟨h, he⟩ := hv.1 rfl
      exact absurd he (hn _ (List.getElem_mem h))
  have hiA : i = A.length := by
    rcases Nat.lt_trichotomy i A.length with h | h | h
    · exfalso
      have hx := hhi i (by omega) (Nat.le_refl _)
      have hm : K[i]'(by omega) = A[i] := by simp only [h1, List.getElem_append_left h]
      rw [hm, h3 _ (List.getElem_mem h)] at hx
      cases hx
    · exact h
    · exfalso
      cases B with
      | nil => simp only [List.length_nil] at hlen; omega
      | cons b r =>
        have hl : A.length < K.length := by rw [hlen, List.length_cons]; omega
        have hx := hlo A.length hl h
        have hm : K[A.length] = b := by simp only [h1]; rw [List.getElem_append_right (Nat.le_refl _)]; simp
        rw [hm] at hx
        have hy := h4 b r rfl
        have h0 := less_trans _ _ _ hx hy
        rw [less_irrefl] at h0
        cases h0
  rw [hiA, hvf]

theorem gsearch_known (M : List (List UInt8 × Int)) (hM : M.length ≤ 1024) (hR : Rises M) (s : List UInt8) (i : Nat) (hans : ∀ e, BAns M s e → e = .returned (.tuple #[.int .i64 i, .bool false])) (ka : Option Addr) (kcap : Nat) (w : World) (hK : KidsIn w (.slice ka M.length kcap) M) :
    Calls Try.prog 79 #[.slice ka M.length kcap, .string ⟨s.toArray⟩, .func (.func 82) #[] #[]] w fun e w' => e = .returned (.tuple #[.int .i64 i, .bool false]) ∧ Below w.heap.size w w' :=
  (gsearch_any M hM hR s ka kcap w hK).mono fun e _ h => ⟨hans e h.1, h.2⟩

set_option maxHeartbeats 2000000 in
theorem lwith_any (K : List (List UInt8 × Int)) (s : List UInt8) (k : Int) (hl : K.length ≤ 4096) (hl2 : K.length ≤ 1024) (hR : Rises K) (hn : ∀ e ∈ K, e.1 ≠ s) (v : Value) (w : World) (hK : KidsIn w v K) :
    Calls Try.prog 65 #[v, .string ⟨s.toArray⟩, .int .i64 k] w fun e w' => ∃ v', e = .returned v' ∧ KidsOwn w' w.heap.size v' (namedL K s k) ∧ Below w.heap.size w w' := by
  obtain ⟨i, hi, hins, hans⟩ := place_new k hR hn
  obtain ⟨ka, kc, rfl, hk1⟩ := hK
  have HK := Lib.hid (show KidsIn w (.slice ka K.length kc) K from ⟨ka, kc, rfl, hk1⟩)
  have HINS := Lib.hid hins
  have HANS := Lib.hid hans
  have HR := Lib.hid hR
  clear hk1 hins hans hR hn
  go_enter Try.func65, Try.ntmps65
  go_wp2_with fail
  refine (gsearch_known K hl2 HR.out s i HANS.out ka kc _ HK.out).mono ?_
  rintro e w1 ⟨rfl, hb1⟩
  have HB1 := Lib.hid hb1
  have HK1 := Lib.hid (HK.out.below hb1)
  clear hb1
  go_wp2_with fail
  refine (lclone_kids _ K (by omega) _ HK1.out).mono ?_
  rintro e w2 ⟨v2, rfl, hO2, hb2⟩
  obtain ⟨va, vc, rfl⟩ := hO2.form
  have HO2 := Lib.hid hO2
  have HB2 := Lib.hid hb2
  have hs1 := HB1.out.size
  have hs2 := hb2.size
  clear hO2 hb2
  go_wp2_with fail
  obtain ⟨w3, hw3⟩ : ∃ w3, w3 = w2.alloc (.cells #[.string ⟨s.toArray⟩, .int .i64 k] 62) := ⟨_, rfl⟩
  have hb3 : Below w2.heap.size w2 w3 := by rw [hw3]; exact below_box w2 _
  have hs3 : w3.heap.size = w2.heap.size + 1 := by rw [hw3]; simp
  have hE3 : w3.heap[w2.heap.size]? = some (.cells (entC (s, k)).toArray 62 (0, 0)) := by rw [hw3]; exact new_block w2 _
  have hO3 : KidsOwn w3 w.heap.size (.slice va K.length vc) K := (HO2.out.same fun j hj => hb3.block j ((HO2.out).lt j hj).2).lower (by omega)
  have hoff : (.slice va K.length vc : Value).ownBlock ≠ some w2.heap.size := fun e => by
    have := (HO2.out.lt w2.heap.size e).2
    omega
  have hI := linsert_any w.heap.size (.slice va K.length vc) K i (s, k) w2.heap.size 1 w3 hO3 hi (by omega) (by omega) hE3 hoff
  have HI := Lib.hid hI
  have HO3 := Lib.hid hO3
  have HB3 := Lib.hid hb3
  rw [← hw3]
  clear hI hO3 hb3 hE3 hw3
  refine HI.out.mono ?_
  rintro e w4 ⟨v4, rfl, hk4, hg4, hv4⟩
  obtain ⟨xa, xc, rfl⟩ := hk4.form
  have HK4 := Lib.hid hk4
  have hb4 : Below w.heap.size w w4 := by
    have h3 : Below w.heap.size w w3 := HB1.out.trans ((HB2.out.mono (by omega)).trans (HB3.out.mono (by omega)))
    refine h3.grown hg4 (by have := h3.size; omega) (fun r hr => (HO3.out.lt r hr).1)
  have HB4 := Lib.hid hb4
  clear hk4 hg4 hv4 hb4
  go_wp2_with fail
  go_ret
  exact ⟨_, rfl, by rw [HINS.out]; exact HK4.out, HB4.out⟩
end Go.Proofs.Ytfmaagcomplooaa
