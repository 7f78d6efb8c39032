/-
  slices.Clone of names and of inodes: the same in memory of the call's own.
-/
import Derived.WalkKit
import Derived.Shelf.SlicesE.Clone
import Derived.Test.YtblmlgpajmaliaaMkOwn
namespace Go.Proofs.Ytblmlgpajmaliaa
set_option maxRecDepth 100000
open Go Go.RowKit

theorem infoE : (Try.prog.info? 50).map (fun i => (i.zero, i.size, i.bytes)) = some (some (.agg #[.string ⟨#[]⟩, .int .i64 0]), 2, 24) := by kernel_rfl
theorem infoIn : (Try.prog.info? 42).map (fun i => (i.zero, i.size, i.bytes)) = some (some (.agg #[.int .i64 0, .int .i64 0, .int .i64 0, .string ⟨#[]⟩, .slice none 0 0, .int .i64 0]), 6, 72) := by kernel_rfl

set_option maxHeartbeats 1000000 in
theorem lclone_kids (v : Value) (K : List (List UInt8 × Int)) (hb : K.length * 24 ≤ 140737488355328) (w : World) (hK : KidsIn w v K) :
    Calls Try.prog 31 #[v] w fun e w' => ∃ v', e = .returned v' ∧ KidsOwn w' w.heap.size v' K ∧ Below w.heap.size w w' := by
  obtain ⟨i0, hi, hz0, hz1, hz2⟩ := info_parts infoE
  obtain ⟨a, cap, rfl, h1, h2, h3⟩ := hK
  have hm : K.length ≤ maxLen := by unfold maxLen; omega
  have q22 : ∀ (w : World) (a : Option Addr) (n c n' c' : Nat), (binOp .eql 40 (.slice a n c) (.slice none n' c')).run Try.prog w = .ok (.bool a.isNone) w := fun w a n c n' c' => Lib.run_eql_slice_nil w _ _ a n c n' c' Try.underlying40
  cases a with
  | none =>
    have hnil : K = [] := by
      cases K with
      | nil => rfl
      | cons e r => obtain ⟨b, o, e, -⟩ := h3 0 (Nat.zero_lt_succ _); cases e
    subst hnil
    go_enter Try.func31, Try.ntmps31
    go_wp2_with fail
    go_ret
    exact ⟨_, rfl, KidsOwn.nil _ _, Below.refl _ _⟩
  | some a =>
    have A : Aside (∀ j u, (kidC K)[j]? = some u → w.cell? (a.add j) = some u) := fun j u hj => by
      have hj' : j < K.length * 2 := by rw [← kidC_len]; exact (List.getElem?_eq_some_iff.1 hj).1
      obtain ⟨b, o, e, -⟩ := h3 0 (by omega)
      cases e
      have : (⟨b, o, none⟩ : Addr).add j = ⟨b, o + j, none⟩ := Addr.add_lit ..
      rw [this]
      refine kidC_cells (fun i hi => ?_) j u hj
      obtain ⟨b', o', e, c1, c2⟩ := h3 i hi
      cases e
      exact ⟨c1, c2⟩
    clear h3
    obtain ⟨ab, ao, asp⟩ := a
    go_enter Try.func31, Try.ntmps31
    go_wp2_with (at_builtin; refine wpList_append_own _ rfl _ _ 40 rfl w.heap.size 50 i0 _ 2 24 Try.underlying40 hi hz0 hz1 hz2 rfl (by decide) _ _ _ rfl (World.ownsRow_made w #[] 0 (Nat.le_refl _) (Nat.zero_le _) (by simp)) ⟨ab, ao, asp⟩ K.length cap (kidC K) rfl ?qc1 ?qc2 ?qc3 ?qc4 ?qc5 ?qc6 ?_)
    case qc1 => exact kidC_len K
    case qc2 =>
      intro j u hj
      exact Lib.cell?_alloc_some _ (A.out j u hj)
    case qc3 => exact kidC_one K
    case qc4 => rw [Nat.zero_add]; exact hm
    case qc5 => rw [Nat.zero_add]; exact hb
    case qc6 => simp
    intro v' w1 hown hgrow hnil
    go_wp2_with fail
    go_ret
    refine ⟨v', rfl, by simpa [KidsOwn] using hown, ?_⟩
    exact ((Below.refl _ w).alloc (Nat.le_refl _) _).grown hgrow (by simp) (by intro k hk; simp [Value.ownBlock] at hk; omega)

/-- Inodes, cell by cell. -/
def nodeC : List Ino → List Value → List Value
  | x :: L, v :: vs => inoC x v ++ nodeC L vs
  | _, _ => []
theorem nodeC_len : ∀ (L : List Ino) (vs : List Value), vs.length = L.length → (nodeC L vs).length = L.length * 6
  | [], [], _ => rfl
  | x :: L, v :: vs, h => by
    have := nodeC_len L vs (Nat.succ.inj h)
    simp only [nodeC, List.length_append, List.length_cons, this]
    show 6 + L.length * 6 = _
    omega
theorem nodeC_get : ∀ (L : List Ino) (vs : List Value) (i : Nat) (hi : i < L.length) (hv : i < vs.length) (j : Nat), j < 6 → (nodeC L vs)[i * 6 + j]? = (inoC L[i] vs[i])[j]?
  | x :: L, v :: vs, 0, _, _, j, hj => by
    rw [Nat.zero_mul, Nat.zero_add, nodeC, List.getElem?_append_left (by show j < 6; exact hj)]
    rfl
  | x :: L, v :: vs, i + 1, hi, hv, j, hj => by
    have h := nodeC_get L vs i (Nat.lt_of_succ_lt_succ hi) (Nat.lt_of_succ_lt_succ hv) j hj
    rw [nodeC, List.getElem?_append_right (by show 6 ≤ _; omega)]
    rw [show (i + 1) * 6 + j - (inoC x v).length = i * 6 + j by show (i + 1) * 6 + j - 6 = _; omega, h]
    rfl
theorem nodeC_one {L : List Ino} {vs : List Value} (hone : ∀ v ∈ vs, v.oneCell' = true) : ∀ u ∈ nodeC L vs, u.oneCell' = true := by
  induction L generalizing vs with
  | nil => intro u h; cases h
  | cons x L ih =>
    cases vs with
    | nil => intro u h; cases h
    | cons v vs =>
      intro u h
      rw [nodeC, List.mem_append] at h
      rcases h with h | h
      · simp only [inoC, List.mem_cons, List.not_mem_nil, or_false] at h
        rcases h with rfl | rfl | rfl | rfl | rfl | rfl
        · rfl
        · rfl
        · rfl
        · rfl
        · exact hone _ List.mem_cons_self
        · rfl
      · exact ih (fun v hv => hone v (List.mem_cons_of_mem _ hv)) u h
/-- What lies in memory of inodes, with their names' slices. -/
theorem nodes_open {w : World} {a : Option Addr} {cap : Nat} {L : List Ino} (hN : NodesIn w a cap L) : ∃ vs : List Value, vs.length = L.length ∧ (∀ v ∈ vs, v.oneCell' = true) ∧ (∀ i (hi : i < L.length) (hv : i < vs.length), KidsIn w vs[i] L[i].kids) ∧
    ∀ j u, (nodeC L vs)[j]? = some u → ∃ b o, a = some ⟨b, o, none⟩ ∧ w.cell? ⟨b, o + j, none⟩ = some u := by
  have hone : ∀ i, i < L.length → ∃ v, v.oneCell' = true ∧ ∀ hi : i < L.length, KidsIn w v L[i].kids ∧ ∃ b o, a = some ⟨b, o, none⟩ ∧ NodeAt w b (o + i * 6) L[i] v := fun i hi => by
    obtain ⟨b, o, e, hn⟩ := hN.2.2 i hi
    obtain ⟨v, hv, hk⟩ := hn.kids
    refine ⟨v, ?_, fun hi => ⟨hk, b, o, e, ⟨hn.kind, hn.mode, hn.links, hn.data, hv, hn.up⟩⟩⟩
    obtain ⟨ka, kc, rfl, -⟩ := hk
    rfl
  obtain ⟨vs, hl, hvs⟩ : ∃ vs : List Value, vs.length = L.length ∧ ∀ i (_ : i < L.length) (hv : i < vs.length), vs[i].oneCell' = true ∧ ∀ hi : i < L.length, KidsIn w vs[i] L[i].kids ∧ ∃ b o, a = some ⟨b, o, none⟩ ∧ NodeAt w b (o + i * 6) L[i] vs[i] := by
    have : ∀ n, n ≤ L.length → ∃ vs : List Value, vs.length = n ∧ ∀ i (_ : i < n) (hv : i < vs.length), vs[i].oneCell' = true ∧ ∀ hi : i < L.length, KidsIn w vs[i] L[i].kids ∧ ∃ b o, a = some ⟨b, o, none⟩ ∧ NodeAt w b (o + i * 6) L[i] vs[i] := by
      intro n
      induction n with
      | zero => exact fun _ => ⟨[], rfl, fun i hi => absurd hi (Nat.not_lt_zero _)⟩
      | succ n ih =>
        intro hn
        obtain ⟨vs, h1, h2⟩ := ih (by omega)
        obtain ⟨v, h3, h4⟩ := hone n (by omega)
        refine ⟨vs ++ [v], by simp [h1], fun i hi hv => ?_⟩
        by_cases e : i < vs.length
        · rw [List.getElem_append_left e]
          exact h2 i (by omega) e
        · have e2 : i = vs.length := by omega
          subst e2
          rw [List.getElem_concat_length rfl]
          refine ⟨h3, fun hi2 => ?_⟩
          subst h1
          exact h4 hi2
    exact this L.length (Nat.le_refl _)
  refine ⟨vs, hl, fun v hv => ?_, fun i hi hv => ((hvs i hi hv).2 hi).1, fun j u hu => ?_⟩
  · obtain ⟨i, hi, rfl⟩ := List.getElem_of_mem hv
    exact (hvs i (by omega) hi).1
  · have hj : j < L.length * 6 := by rw [← nodeC_len L vs hl]; exact (List.getElem?_eq_some_iff.1 hu).1
    obtain ⟨i, t, rfl, ht⟩ : ∃ i t, j = i * 6 + t ∧ t < 6 := ⟨j / 6, j % 6, by omega, by omega⟩
    have hi : i < L.length := by omega
    rw [nodeC_get L vs i hi (by omega) t ht] at hu
    obtain ⟨b, o, e, hn⟩ := ((hvs i hi (by omega)).2 hi).2
    refine ⟨b, o, e, ?_⟩
    rw [← Nat.add_assoc]
    match t, ht, hu with
    | 0, _, hu => cases hu; exact hn.kind
    | 1, _, hu => cases hu; exact hn.mode
    | 2, _, hu => cases hu; exact hn.links
    | 3, _, hu => cases hu; exact hn.data
    | 4, _, hu => cases hu; exact hn.kids
    | 5, _, hu => cases hu; exact hn.up
/-- What a row of the call's own holds of inodes. -/
theorem nodes_of_row {w : World} {base cap g : Nat} {L : List Ino} {vs : List Value} (hl : vs.length = L.length) (h : w.ownsRow base 42 6 (.slice (some ⟨g, 0, none⟩) L.length cap) L.length (nodeC L vs)) : NodesOwn w g cap L vs ∧ base ≤ g := by
  have hc : ∀ j u, (nodeC L vs)[j]? = some u → w.cell? ⟨g, j, none⟩ = some u := fun j u hu => by
    have := h.cells rfl j u hu
    rw [zero_add_addr] at this
    exact this
  have hlt := h.lt g rfl
  rcases h.2 with ⟨e, -⟩ | ⟨g', cap', cur, e, hb, hg, hn, hm, hs, ht⟩
  · cases e
  · cases e
    refine ⟨⟨hl, hn, hm, hlt.2, fun j => by simp [World.frozen?, hg], fun i hi hv => ?_⟩, hb⟩
    have hh : ∀ t, t < 6 → ∀ u, (inoC L[i] vs[i])[t]? = some u → w.cell? ⟨g, i * 6 + t, none⟩ = some u := fun t ht u hu => hc _ _ ((nodeC_get L vs i hi hv t ht).trans hu)
    exact ⟨hh 0 (by decide) _ rfl, hh 1 (by decide) _ rfl, hh 2 (by decide) _ rfl, hh 3 (by decide) _ rfl, hh 4 (by decide) _ rfl, hh 5 (by decide) _ rfl⟩

set_option maxHeartbeats 1000000 in
theorem lclone_nodes (a : Option Addr) (cap : Nat) (L : List Ino) (hL : 0 < L.length) (hb : L.length * 72 ≤ 140737488355328) (w0 w : World) (hw : Below w0.heap.size w0 w) (hN : NodesIn w0 a cap L) :
    Calls Try.prog 30 #[.slice a L.length cap] w fun e w' => ∃ g cap' vs, e = .returned (.slice (some ⟨g, 0, none⟩) L.length cap') ∧ NodesOwn w' g cap' L vs ∧ w.heap.size ≤ g ∧ (∀ i (hi : i < L.length) (hv : i < vs.length), KidsIn w0 vs[i] L[i].kids) ∧ Below w.heap.size w w' := by
  obtain ⟨i0, hi, hz0, hz1, hz2⟩ := info_parts infoIn
  obtain ⟨vs, hl, hone, hk, hcell⟩ := nodes_open hN
  have hm : L.length ≤ maxLen := by unfold maxLen; omega
  have q22 : ∀ (w : World) (a : Option Addr) (n c n' c' : Nat), (binOp .eql 22 (.slice a n c) (.slice none n' c')).run Try.prog w = .ok (.bool a.isNone) w := fun w a n c n' c' => Lib.run_eql_slice_nil w _ _ a n c n' c' Try.underlying22
  obtain ⟨b, o, rfl, -⟩ := hN.2.2 0 hL
  have A : Aside (∀ j u, (nodeC L vs)[j]? = some u → w.cell? ⟨b, o + j, none⟩ = some u) := fun j u hj => by
    obtain ⟨b', o', e, hc⟩ := hcell j u hj
    cases e
    exact cell_below hw hc
  have HK := Lib.hid hk
  have HL := Lib.hid hl
  clear hcell hk hN hl
  go_enter Try.func30, Try.ntmps30
  go_wp2_with (at_builtin; refine wpList_append_own _ rfl _ _ 22 rfl w.heap.size 42 i0 _ 6 72 Try.underlying22 hi hz0 hz1 hz2 rfl (by decide) _ _ _ rfl (World.ownsRow_made w #[] 0 (Nat.le_refl _) (Nat.zero_le _) (by simp)) ⟨b, o, none⟩ L.length cap (nodeC L vs) rfl ?qc1 ?qc2 ?qc3 ?qc4 ?qc5 ?qc6 ?_)
  case qc1 => exact nodeC_len L vs HL.out
  case qc2 =>
    intro j u hj
    rw [Addr.add_lit]
    exact Lib.cell?_alloc_some _ (A.out j u hj)
  case qc3 => exact nodeC_one hone
  case qc4 => rw [Nat.zero_add]; exact hm
  case qc5 => rw [Nat.zero_add]; exact hb
  case qc6 => simp
  intro v' w1 hown hgrow hnil
  have hbel := ((Below.refl _ w).alloc (Nat.le_refl _) (.cells #[] 42)).grown hgrow (by simp) (by intro k hk; simp [Value.ownBlock] at hk; omega)
  rcases hown.2 with ⟨rfl, h0⟩ | ⟨g, cap', cur, rfl, -⟩
  · omega
  obtain ⟨hown', hgb⟩ := nodes_of_row HL.out hown
  have HO := Lib.hid hown'
  have HB := Lib.hid hbel
  clear hown hown' hgrow hnil hbel
  go_wp2_with fail
  go_ret
  exact ⟨g, cap', vs, rfl, HO.out, hgb, HK.out, HB.out⟩
end Go.Proofs.Ytblmlgpajmaliaa
