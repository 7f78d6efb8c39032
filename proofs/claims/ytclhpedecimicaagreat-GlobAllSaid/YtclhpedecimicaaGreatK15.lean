/-
  The reference's Fit, walked: what it asks.
  Plain laws on trees: what the landed Fit asks and what the reference's Fit asks is one.
-/
import Derived.Laws.MakeOwn
import Derived.Test.YtclhpedecimicaaGreatK2
import Derived.Test.YtclhpedecimicaaGreatK9
import Derived.Test.YtclhpedecimicaaGreatK4
import Derived.Test.YtclhpedecimicaaGreatK5
import Derived.Test.YtclhpedecimicaaGreatK13
namespace Go.Proofs.YtclhpedecimicaaGreat
set_option maxRecDepth 100000
open Go Go.RowKit

structure RA (L : List Ino) (j : Nat) (h : j < L.length) : Prop where
  alone : aloneB L[j] = true
  data : L[j].data.length ≤ 65536
  dir : L[j].kind = 2 → thereB L L[j].up = true ∧ L[j].kids.length ≤ 1024 ∧ KidsOk L j L[j].kids
def RB (L : List Ino) (j : Nat) (h : j < L.length) : Prop :=
  L[j].links = (countL L)[j]'(by rw [countL_len]; exact h) ∧ ¬ (L[j].kind ≠ 0 ∧ 0 < j ∧ (countL L)[j]'(by rw [countL_len]; exact h) = 0) ∧
    ¬ (L[j].kind = 2 ∧ (rootedB L (j : Int) = false ∨ 0 < j ∧ (countL L)[j]'(by rw [countL_len]; exact h) ≠ 1))
structure RHead (L : List Ino) (m b : Int) : Prop where
  one : 1 ≤ L.length
  lim : (L.length : Int) ≤ m
  cap : m ≤ 256
  b0 : 0 ≤ b
  b1 : b ≤ 65536
  root : (nodeAt L 0).kind = 2
  up : (nodeAt L 0).up = 0
structure RFitP (L : List Ino) (m b : Int) : Prop where
  head : RHead L m b
  ins : ∀ j (h : j < L.length), RA L j h
  nam : ∀ j (h : j < L.length), RB L j h
  bytes : (usedB L : Int) ≤ b

def RF1 (L : List Ino) (C : Nat) (w1 : World) (bv iv : Value) (wr : World) : Prop :=
  ∃ k : Nat, k ≤ L.length ∧ iv = .int .i64 k ∧ bv = .int .i64 (usedB (L.take k)) ∧ Hid (∀ j (h : j < L.length), j < k → RA L j h) ∧ CountIn wr C (bump (zeros L.length) (kidsOf (L.take k))) ∧ Below w1.heap.size w1 wr
def RF2 (L : List Ino) (C : Nat) (w1 : World) (iv : Value) (wr : World) : Prop :=
  ∃ k : Nat, k ≤ L.length ∧ iv = .int .i64 k ∧ Hid (∀ j (h : j < L.length), j < k → RB L j h) ∧ CountIn wr C (countL L) ∧ Below w1.heap.size w1 wr

theorem no_kids {x : Ino} (h : aloneB x = true) (h2 : x.kind ≠ 2) : x.kids = [] := by
  cases hk : x.kids with
  | nil => rfl
  | cons e r => exact absurd (dir_of_kids h (by rw [hk]; simp)) h2

set_option maxRecDepth 100000 in
set_option maxHeartbeats 8000000 in
theorem rfit_head (a : Option Addr) (cap : Nat) (m b : Int) (L : List Ino) (hL : L.length ≤ 1000) (hh : ¬ RHead L m b) (w : World) (hN : NodesIn w a cap L) :
    Calls Tryz.prog 14 #[.agg #[.slice a L.length cap, .int .i64 m, .int .i64 b]] w fun e w' => TellsP (RFitP L m b) e ∧ Below w.heap.size w w' := by
  have hb1 := below_box w (.cells #[.slice a L.length cap, .int .i64 m, .int .i64 b] 24)
  have HM := Lib.hid (hN.below hb1)
  have HB := Lib.hid hb1
  have HNO := Lib.hid (show ¬ RFitP L m b from fun h => hh h.head)
  obtain ⟨R, hR⟩ : ∃ R, R = RFitP L m b := ⟨_, rfl⟩
  rw [← hR] at HNO ⊢
  clear hN hb1 hR
  by_cases h1 : 1 ≤ L.length
  · by_cases h2 : (L.length : Int) ≤ m
    · by_cases h3 : m ≤ 256
      · by_cases h4 : 0 ≤ b
        · by_cases h5 : b ≤ 65536
          · obtain ⟨bb, o, rfl, hx⟩ := HM.out.2.2 0 (by omega)
            have x0 := hx.kind
            have x5 := hx.up
            rw [Nat.zero_mul, Nat.add_zero] at x0 x5
            have HN0 := Lib.hid (show nodeAt L 0 = L[0] from node_nat L 0 (by omega))
            have hlen : (0 : Int) < (L.length : Int) := by omega
            clear hx
            by_cases h6 : L[0].kind = 2
            · have hk : (L[0].kind != 2) = false := by simpa using h6
              have h7 : ¬ L[0].up = 0 := fun e => hh ⟨h1, h2, h3, h4, h5, by rw [HN0.out]; exact h6, by rw [HN0.out]; exact e⟩
              have hu : (L[0].up != 0) = true := by simpa using h7
              clear h6 h7 hh
              go_enter Tryz.func14, Tryz.ntmps14
              go_wp2_with fail
              go_ret
              exact ⟨TellsP.no rfl HNO.out, HB.out⟩
            · have hk : (L[0].kind != 2) = true := by simpa using h6
              clear h6 hh
              go_enter Tryz.func14, Tryz.ntmps14
              go_wp2_with fail
              go_ret
              exact ⟨TellsP.no rfl HNO.out, HB.out⟩
          · clear hh
            go_enter Tryz.func14, Tryz.ntmps14
            go_wp2_with fail
            go_ret
            exact ⟨TellsP.no rfl HNO.out, HB.out⟩
        · clear hh
          go_enter Tryz.func14, Tryz.ntmps14
          go_wp2_with fail
          go_ret
          exact ⟨TellsP.no rfl HNO.out, HB.out⟩
      · clear hh
        go_enter Tryz.func14, Tryz.ntmps14
        go_wp2_with fail
        go_ret
        exact ⟨TellsP.no rfl HNO.out, HB.out⟩
    · clear hh
      go_enter Tryz.func14, Tryz.ntmps14
      go_wp2_with fail
      go_ret
      exact ⟨TellsP.no rfl HNO.out, HB.out⟩
  · clear hh
    go_enter Tryz.func14, Tryz.ntmps14
    go_wp2_with fail
    go_ret
    exact ⟨TellsP.no rfl HNO.out, HB.out⟩
end Go.Proofs.YtclhpedecimicaaGreat

namespace Go.Proofs.YtclhpedecimicaaGreat
set_option maxRecDepth 100000
open Go Go.RowKit

theorem pigeon : ∀ (n : Nat) (f : Nat → Nat), (∀ i, i ≤ n → f i < n) → ∃ i j, i < j ∧ j ≤ n ∧ f i = f j
  | 0, f, h => absurd (h 0 (Nat.le_refl _)) (Nat.not_lt_zero _)
  | n + 1, f, h => by
    by_cases hx : ∃ i, i ≤ n ∧ f i = f (n + 1)
    · obtain ⟨i, hi, he⟩ := hx
      exact ⟨i, n + 1, by omega, Nat.le_refl _, he⟩
    · have hne : ∀ i, i ≤ n → f i ≠ f (n + 1) := fun i hi e => hx ⟨i, hi, e⟩
      obtain ⟨i, j, hij, hj, he⟩ := pigeon n (fun i => if f i = n then f (n + 1) else f i) (fun i hi => by
        have h1 := h i (by omega)
        have h2 := h (n + 1) (Nat.le_refl _)
        have h3 := hne i hi
        by_cases e : f i = n
        · simp only [e, if_true]; omega
        · simp only [e, if_false]; omega)
      refine ⟨i, j, hij, by omega, ?_⟩
      have h3 := hne i (by omega)
      have h4 := hne j hj
      by_cases e1 : f i = n
      · by_cases e2 : f j = n
        · omega
        · simp only [e1, e2, if_true, if_false] at he
          exact absurd he.symm h4
      · by_cases e2 : f j = n
        · simp only [e1, e2, if_true, if_false] at he
          exact absurd he h3
        · simp only [e1, e2, if_false] at he
          exact he

/-- Going up i times. -/
def upN (L : List Ino) : Nat → Int → Int
  | 0, k => k
  | i + 1, k => upN L i (nodeAt L k).up
theorem upN_add (L : List Ino) : ∀ (i j : Nat) (k : Int), upN L (i + j) k = upN L j (upN L i k)
  | 0, j, k => by rw [Nat.zero_add]; rfl
  | i + 1, j, k => by
    rw [show i + 1 + j = (i + j) + 1 by omega]
    exact upN_add L i j (nodeAt L k).up
theorem leads_iff (L : List Ino) : ∀ (n : Nat) (k : Int), leadsL L n k = true ↔ ∃ i, i < n ∧ upN L i k = 0
  | 0, k => by simp [leadsL]
  | n + 1, k => by
    rw [leads_succ]
    by_cases h : k = 0
    · rw [if_pos h]
      exact ⟨fun _ => ⟨0, by omega, h⟩, fun _ => rfl⟩
    · rw [if_neg h, leads_iff L n]
      constructor
      · rintro ⟨i, hi, he⟩
        exact ⟨i + 1, by omega, he⟩
      · rintro ⟨i, hi, he⟩
        cases i with
        | zero => exact absurd he h
        | succ i => exact ⟨i, by omega, he⟩
theorem from_up (L : List Ino) : ∀ (n : Nat) (k : Int), upFrom L n k = true → ∃ i, i < n ∧ upN L i k = 0 ∧ ∀ j, j < i → dirB L (upN L (j + 1) k) = true
  | 0, k, h => by simp [upFrom] at h
  | n + 1, k, h => by
    rw [up_succ] at h
    by_cases h0 : k = 0
    · exact ⟨0, by omega, h0, fun j hj => absurd hj (Nat.not_lt_zero _)⟩
    · rw [if_neg h0] at h
      by_cases hd : dirB L (nodeAt L k).up = true
      · rw [if_pos hd] at h
        obtain ⟨i, hi, he, hj⟩ := from_up L n _ h
        refine ⟨i + 1, by omega, he, fun j hji => ?_⟩
        cases j with
        | zero => exact hd
        | succ j => exact hj j (by omega)
      · rw [if_neg hd] at h
        cases h
theorem dir_lt {L : List Ino} {k : Int} (h : dirB L k = true) : ∃ n : Nat, k = (n : Int) ∧ n < L.length := there_nat (by unfold dirB at h; rw [Bool.and_eq_true] at h; exact h.1)
theorem up_leads {L : List Ino} {k : Int} (hk : dirB L k = true) (h : upFrom L (L.length + 1) k = true) : leadsL L L.length k = true := by
  rw [leads_iff]
  obtain ⟨i, hi, he, hd⟩ := from_up L _ _ h
  -- the least such
  have hmin : ∃ t, t ≤ i ∧ upN L t k = 0 ∧ ∀ s, s < t → upN L s k ≠ 0 := by
    clear hd hi
    induction i using Nat.strongRecOn with
    | _ i ih =>
      by_cases hx : ∃ s, s < i ∧ upN L s k = 0
      · obtain ⟨s, hs, hs0⟩ := hx
        obtain ⟨t, ht, h1, h2⟩ := ih s hs hs0
        exact ⟨t, by omega, h1, h2⟩
      · exact ⟨i, Nat.le_refl _, he, fun s hs e => hx ⟨s, hs, e⟩⟩
  obtain ⟨t, ht, ht0, htm⟩ := hmin
  refine ⟨t, ?_, ht0⟩
  have hin : ∀ j, j ≤ t → dirB L (upN L j k) = true := fun j hj => by
    cases j with
    | zero => exact hk
    | succ j => exact hd j (by omega)
  by_cases hlt : t < L.length
  · exact hlt
  · obtain ⟨p, q, hpq, hq, e⟩ := pigeon L.length (fun j => (upN L j k).toNat) (fun j hj => by
      obtain ⟨n, hn, hn2⟩ := dir_lt (hin j (by omega))
      show (upN L j k).toNat < _
      rw [hn]
      omega)
    have e' : upN L p k = upN L q k := by
      obtain ⟨n1, hn1, _⟩ := dir_lt (hin p (by omega))
      obtain ⟨n2, hn2, _⟩ := dir_lt (hin q (by omega))
      have e2 : (upN L p k).toNat = (upN L q k).toNat := e
      rw [hn1, hn2] at e2 ⊢
      omega
    exfalso
    refine htm (p + (t - q)) (by omega) ?_
    rw [upN_add, e', ← upN_add, show q + (t - q) = t by omega]
    exact ht0
theorem leads_up {L : List Ino} (hU : UpsIn L) : ∀ (n n' : Nat) (k : Int), n ≤ n' → dirB L k = true → leadsL L n k = true → upFrom L n' k = true
  | 0, _, k, _, _, h => by simp [leadsL] at h
  | n + 1, 0, k, hn, _, _ => by omega
  | n + 1, n' + 1, k, hn, hk, h => by
    rw [leads_succ] at h
    rw [up_succ]
    by_cases h0 : k = 0
    · rw [if_pos h0]
    · rw [if_neg h0] at h ⊢
      obtain ⟨i, rfl, hi⟩ := dir_lt hk
      have hd : dirB L (nodeAt L (i : Int)).up = true := by
        rw [node_nat L i hi]
        exact hU i hi ((dir_nat hi).1 hk)
      rw [if_pos hd]
      exact leads_up hU n n' _ (by omega) hd h

theorem used_ge (L : List Ino) : ∀ (k : Nat) (h : k < L.length), L[k].data.length ≤ usedB L := by
  induction L with
  | nil => intro k h; exact absurd h (Nat.not_lt_zero _)
  | cons x r ih =>
    intro k h
    cases k with
    | zero => simp only [usedB]; exact Nat.le_add_right _ _
    | succ k => simp only [usedB]; have := ih k (Nat.lt_of_succ_lt_succ h); exact Nat.le_trans this (Nat.le_add_left _ _)
theorem names_pos {M : List (List UInt8 × Int)} {e : List UInt8 × Int} (he : e ∈ M) : 1 ≤ namesOf M e.2 :=
  List.length_pos_of_mem (List.mem_filter.2 ⟨he, by simp⟩)
theorem names_zero {M : List (List UInt8 × Int)} {k : Int} (h : ∀ e ∈ M, e.2 ≠ k) : namesOf M k = 0 := by
  unfold namesOf
  rw [List.length_eq_zero_iff, List.filter_eq_nil_iff]
  intro e he
  simpa using h e he
theorem node_kind_of {L : List Ino} {k : Int} (h : dirB L k = true) : (nodeAt L k).kind = 2 := by
  unfold dirB at h
  rw [Bool.and_eq_true] at h
  simpa using h.2

theorem fit_of_ref {L : List Ino} {m b : Int} (h : RFitP L m b) : FitP L m b := by
  obtain ⟨hh, hA, hB, hbytes⟩ := h
  have hlen := hh.one
  have hroot : dirB L 0 = true := by
    unfold dirB
    rw [show (0 : Int) = ((0 : Nat) : Int) from rfl, there_of L 0 (by omega)]
    simpa using hh.root
  have hI : AllFit L := fun k hk => ⟨(hA k hk).alone, by
    by_cases h2 : L[k].kind = 2
    · obtain ⟨h3, h4, h5⟩ := (hA k hk).dir h2
      exact ⟨h4, fun i hi => ⟨(h5 i hi).name, (h5 i hi).order, (h5 i hi).there⟩⟩
    · rw [no_kids (hA k hk).alone h2]
      exact ⟨Nat.zero_le _, fun i hi => absurd hi (Nat.not_lt_zero _)⟩⟩
  have hKid : ∀ e ∈ kidsOf L, ∃ d, ∃ hd : d < L.length, ∃ i, ∃ hi : i < L[d].kids.length, e = L[d].kids[i] ∧ KidOk L d L[d].kids i hi := fun e he => by
    obtain ⟨d, hd, he'⟩ := mem_kidsOf.1 he
    obtain ⟨i, hi, rfl⟩ := List.getElem_of_mem he'
    have h2 := dir_of_kids (hA d hd).alone (List.ne_nil_of_mem he')
    exact ⟨d, hd, i, hi, rfl, ((hA d hd).dir h2).2.2 i hi⟩
  have hcnt := fun k hk => countL_get L (kids_pos (kids_there hI)) k hk
  refine ⟨⟨hlen, hh.lim, hh.cap, hbytes, hh.b1⟩, hroot, hh.up, hI, ⟨fun d hd e he hde => ?_, fun k hk => ⟨(hB k hk).1, ?_⟩⟩, fun k hk hd => ?_⟩
  · obtain ⟨i, hi, rfl⟩ := List.getElem_of_mem he
    have h2 := dir_of_kids (hA d hd).alone (List.ne_nil_of_mem he)
    have h3 := (((hA d hd).dir h2).2.2 i hi).dir
    by_cases hu : (nodeAt L L[d].kids[i].2).up = (d : Int)
    · exact hu
    · exact absurd ⟨node_kind_of hde, Or.inr hu⟩ h3
  · obtain ⟨-, h2, h3⟩ := hB k hk
    unfold MayHave
    by_cases h0 : (k : Int) = 0 ∨ L[k].kind = 0
    · rw [if_pos h0, hcnt k hk, names_zero]
      · rfl
      · intro e he hek
        obtain ⟨d, hd, i, hi, rfl, ok⟩ := hKid e he
        rcases h0 with h0 | h0
        · refine ok.dir ⟨?_, Or.inl (by rw [hek]; exact h0)⟩
          rw [hek, h0]
          exact hh.root
        · refine ok.kind ?_
          rw [hek, node_nat L k hk]
          exact h0
    · rw [if_neg h0]
      have hk0 : 0 < k := by
        by_cases e : k = 0
        · exact absurd (Or.inl (by omega)) h0
        · omega
      by_cases hk2 : L[k].kind = 2
      · rw [if_pos hk2]
        by_cases hc : (countL L)[k]'(by rw [countL_len]; exact hk) = 1
        · exact hc
        · exact absurd ⟨hk2, Or.inr ⟨hk0, hc⟩⟩ h3
      · rw [if_neg hk2]
        by_cases hc : (countL L)[k]'(by rw [countL_len]; exact hk) = 0
        · exact absurd ⟨fun e => h0 (Or.inr e), hk0, hc⟩ h2
        · rw [hcnt k hk] at hc ⊢
          omega
  · refine up_leads hd ?_
    cases hr : rootedB L (k : Int) with
    | true => exact hr
    | false => exact absurd ⟨(dir_nat hk).1 hd, Or.inl hr⟩ (hB k hk).2.2

theorem ref_of_fit {L : List Ino} {m b : Int} (h : FitP L m b) : RFitP L m b := by
  obtain ⟨hl, hroot, hup, hI, hN, hLead⟩ := h
  have hU := ups_in hroot hup hI hN
  obtain ⟨l1, l2, l3, l4, l5⟩ := hl
  have hcnt := fun k hk => countL_get L (kids_pos (kids_there hI)) k hk
  have hmay : ∀ k (hk : k < L.length), MayHave L[k].kind k (namesOf (kidsOf L) k : Int) := fun k hk => by rw [← hcnt k hk]; exact (hN.2 k hk).2
  refine ⟨⟨l1, l2, l3, by omega, l5, node_kind_of hroot, hup⟩, fun k hk => ⟨(hI k hk).1, by have := used_ge L k hk; omega, fun h2 => ?_⟩, fun k hk => ⟨(hN.2 k hk).1, ?_, ?_⟩, l4⟩
  · have h3 := hU k hk h2
    refine ⟨by unfold dirB at h3; rw [Bool.and_eq_true] at h3; exact h3.1, (hI k hk).2.1, fun i hi => ?_⟩
    have h4 := (hI k hk).2.2 i hi
    have hmem : L[k].kids[i] ∈ kidsOf L := mem_kidsOf.2 ⟨k, hk, List.getElem_mem _⟩
    obtain ⟨u, hu, hul⟩ := there_nat h4.there
    have hpos := names_pos hmem
    rw [hu] at hpos
    have hm := hmay u hul
    unfold MayHave at hm
    refine ⟨h4.name, h4.order, h4.there, ?_, ?_⟩
    · intro e
      rw [hu, node_nat L u hul] at e
      rw [if_pos (Or.inr e)] at hm
      omega
    · rintro ⟨e1, e2 | e2⟩
      · rw [hu] at e2
        rw [if_pos (Or.inl e2)] at hm
        omega
      · refine e2 (hN.1 k hk _ (List.getElem_mem _) ?_)
        unfold dirB
        rw [h4.there]
        simpa using e1
  · rintro ⟨e1, e2, e3⟩
    have hm := hmay k hk
    rw [hcnt k hk] at e3
    unfold MayHave at hm
    rw [if_neg (by omega)] at hm
    split at hm <;> omega
  · rintro ⟨e1, e2 | ⟨e2, e3⟩⟩
    · have h2 := leads_up hU L.length (L.length + 1) (k : Int) (by omega) ((dir_nat hk).2 e1) (hLead k hk ((dir_nat hk).2 e1))
      unfold rootedB at e2
      rw [h2] at e2
      cases e2
    · have hm := hmay k hk
      rw [hcnt k hk] at e3
      unfold MayHave at hm
      rw [if_neg (by omega), if_pos e1] at hm
      exact e3 hm
theorem ref_iff {L : List Ino} {m b : Int} : RFitP L m b ↔ FitP L m b := ⟨fit_of_ref, ref_of_fit⟩
end Go.Proofs.YtclhpedecimicaaGreat
