/-
  The landed code's takes, of each kind of wants.
-/
import Derived.Test.YtfldhggmgepcjaaQWant
namespace Go.Proofs.Ytfldhggmgepcjaa
set_option maxRecDepth 100000
open Go Go.RowKit

set_option maxHeartbeats 1000000 in
theorem lone (c : Int) (w : World) : Calls Try.prog 58 #[.agg #[], .int .u8 c] w fun e w' => e = .returned (.bool true) ∧ Below w.heap.size w w' := by
  have HB := Lib.hid (below_box w (.cells #[] 70))
  go_enter Try.func58, Try.ntmps58
  go_wp2_with fail
  go_ret
  exact ⟨rfl, HB.out⟩
set_option maxHeartbeats 1000000 in
theorem lmany (c : Int) (w : World) : Calls Try.prog 59 #[.agg #[], .int .u8 c] w fun e w' => e = .returned (.bool true) ∧ Below w.heap.size w w' := by
  have HB := Lib.hid (below_box w (.cells #[] 71))
  go_enter Try.func59, Try.ntmps59
  go_wp2_with fail
  go_ret
  exact ⟨rfl, HB.out⟩
theorem dec_cast (a b : Nat) : decide ((a : Int) ≤ (b : Int)) = decide (a ≤ b) := by rw [decide_eq_decide]; omega
set_option maxHeartbeats 1000000 in
theorem lspan (a b c : UInt8) (w : World) : Calls Try.prog 64 #[.agg #[.int .u8 (a.toNat : Int), .int .u8 (b.toNat : Int)], .int .u8 (c.toNat : Int)] w fun e w' => e = .returned (.bool (decide (a.toNat ≤ c.toNat) && decide (c.toNat ≤ b.toNat))) ∧ Below w.heap.size w w' := by
  have HB := Lib.hid (below_box w (.cells #[.int .u8 (a.toNat : Int), .int .u8 (b.toNat : Int)] 85))
  by_cases h1 : a.toNat ≤ c.toNat
  · rw [decide_eq_true h1]
    have h1i : decide ((a.toNat : Int) ≤ (c.toNat : Int)) = true := decide_eq_true (by omega)
    by_cases h2 : c.toNat ≤ b.toNat
    · rw [decide_eq_true h2]
      have h2i : decide ((c.toNat : Int) ≤ (b.toNat : Int)) = true := decide_eq_true (by omega)
      go_enter Try.func64, Try.ntmps64
      go_wp2_with fail
      go_ret
      exact ⟨rfl, HB.out⟩
    · rw [decide_eq_false h2]
      have h2i : decide ((c.toNat : Int) ≤ (b.toNat : Int)) = false := decide_eq_false (by omega)
      go_enter Try.func64, Try.ntmps64
      go_wp2_with fail
      go_ret
      exact ⟨rfl, HB.out⟩
  · rw [decide_eq_false h1]
    have h1i : decide ((a.toNat : Int) ≤ (c.toNat : Int)) = false := decide_eq_false (by omega)
    go_enter Try.func64, Try.ntmps64
    go_wp2_with fail
    go_ret
    exact ⟨rfl, HB.out⟩
set_option maxHeartbeats 1000000 in
theorem lclass (s : List UInt8) (hs : s.length ≤ maxLen) (c : UInt8) (w : World) : Calls Try.prog 65 #[.string ⟨s.toArray⟩, .int .u8 (c.toNat : Int)] w fun e w' => e = .returned (.bool (clsB s c.toNat)) ∧ Below w.heap.size w w' := by
  have C1 := fun W => class_any ⟨s.toArray⟩ (by simpa [ByteArray.size] using hs) (c.toNat : Int) W
  go_enter Try.func65, Try.ntmps65
  go_wp2_with fail
  refine (C1 _).mono ?_
  rintro e w1 ⟨b, rfl, hc, hb⟩
  have HV := Lib.hid (cls_of hc)
  have HB := Lib.hid hb
  clear hc hb
  go_wp2_with fail
  go_ret
  exact ⟨by rw [HV.out]; rfl, HB.out⟩

/-- A class's name is no longer than a text may be. -/
def Mb.ok : Mb → Prop
  | .cls s => s.length ≤ maxLen
  | _ => True
def Wt.ok : Wt → Prop
  | .set _ l => ∀ m ∈ l, m.ok
  | _ => True
set_option maxHeartbeats 2000000 in
theorem lclos (m : Mb) (hm : m.ok) (c : UInt8) (k : Nat) (w : World) (hk : w.cell? ⟨k, 0, none⟩ = some (.int .u8 (c.toNat : Int))) : Calls Try.prog 62 #[mbV m, .pointer (some ⟨k, 0, none⟩)] w fun e w' => e = .returned (.bool (m.tk c)) ∧ Below w.heap.size w w' := by
  cases m with
  | span a b =>
    have C1 := fun W => lspan a b c W
    unfold mbV
    go_enter Try.func62, Try.ntmps62
    go_wp2_with fail
    refine (C1 _).mono ?_
    rintro e w1 ⟨rfl, hb⟩
    have HB := Lib.hid hb
    clear hb
    go_wp2_with fail
    go_ret
    exact ⟨rfl, HB.out⟩
  | cls s =>
    have C1 := fun W => lclass s hm c W
    unfold mbV
    go_enter Try.func62, Try.ntmps62
    go_wp2_with fail
    refine (C1 _).mono ?_
    rintro e w1 ⟨rfl, hb⟩
    have HB := Lib.hid hb
    clear hb
    go_wp2_with fail
    go_ret
    exact ⟨rfl, HB.out⟩

theorem own_at {B g : Nat} {t : TypeId} {w : World} {n cap : Nat} {xs : List Value} (h : w.ownsRow B t 1 (.slice (some ⟨g, 0, none⟩) n cap) n xs) {j : Nat} {u : Value} (hj : xs[j]? = some u) : w.cell? ⟨g, j, none⟩ = some u := by
  have hl : xs.length = n * 1 := h.1
  have h2 := (List.getElem?_eq_some_iff.1 hj).1
  rw [h.cellAt j (by omega)]
  exact hj
set_option maxHeartbeats 4000000 in
theorem lindex (l : List Mb) (hl : ∀ m ∈ l, m.ok) (hn : l.length ≤ 200000) (c : UInt8) (oa : Option Addr) (oc k B : Nat) (w : World) (hk : w.cell? ⟨k, 0, none⟩ = some (.int .u8 (c.toNat : Int))) (hO : w.ownsRow B 39 1 (.slice oa l.length oc) l.length (l.map mbV)) :
    Calls Try.prog 63 #[.slice oa l.length oc, .func (.func 62) #[] #[.pointer (some ⟨k, 0, none⟩)]] w fun e w' => ∃ z : Int, e = .returned (.int .i64 z) ∧ decide (0 ≤ z) = l.any (fun m => m.tk c) ∧ Below w.heap.size w w' := by
  have HO := Lib.hid hO
  have HK := Lib.hid hk
  have HL := Lib.hid hl
  clear hO hk hl
  go_enter Try.func63, Try.ntmps63
  go_wp2_with fail
  go_loopw [5, 8] (fun _ iv wr => ∃ K : Nat, K ≤ l.length ∧ iv = .int .i64 K ∧ Hid (∀ j (h : j < l.length), j < K → l[j].tk c = false) ∧ Hid (Below w.heap.size w wr)) (fun _ iv _ => l.length - (intOf iv).toNat)
  case atStart => exact ⟨0, Nat.zero_le _, rfl, fun _ _ h => absurd h (Nat.not_lt_zero _), Below.refl _ _⟩
  case round =>
    obtain ⟨K, hK, rfl, HFR, HBR⟩ := hrel
    by_cases hlt : K < l.length
    · have HOR := Lib.hid (own_below HO.out HBR.out)
      obtain ⟨g, rfl⟩ : ∃ g, oa = some ⟨g, 0, none⟩ := by
        obtain ⟨-, ⟨-, h3⟩ | ⟨g, cap, cur, a, -⟩⟩ := HO.out
        · omega
        · exact ⟨g, by cases a; rfl⟩
      obtain ⟨ti, vi, hX⟩ := mbV_iface l[K]
      have hc := own_at HOR.out (j := K) (u := .iface ti vi) (by rw [List.getElem?_map, List.getElem?_eq_getElem hlt, ← hX]; rfl)
      have hlt' : (K : Int) < (l.length : Int) := by omega
      have hk0 : (0 : Int) ≤ (K : Int) := by omega
      have C1 := fun W hW => lclos l[K] (HL.out _ (List.getElem_mem hlt)) c k W hW
      rw [hX] at C1
      have HKR := Lib.hid (cell_below HBR.out HK.out)
      cases ht : l[K].tk c with
      | true =>
        rw [ht] at C1
        have HA := Lib.hid (show l.any (fun m => m.tk c) = true from List.any_eq_true.2 ⟨_, List.getElem_mem hlt, ht⟩)
        clear hX ht
        go_wp2_with fail
        refine (C1 _ HKR.out).mono ?_
        rintro e w2 ⟨rfl, hb⟩
        have HB2 := Lib.hid (below_two HBR.out hb)
        clear hb hc
        go_wp2_with fail
        go_ret
        exact ⟨(K : Int), rfl, by rw [HA.out]; exact decide_eq_true (by omega), HB2.out⟩
      | false =>
        rw [ht] at C1
        have HN := Lib.hid (show ∀ j (h : j < l.length), j < K + 1 → l[j].tk c = false from fun j h h1 => by
          by_cases e : j = K
          · subst e; exact ht
          · exact HFR.out j h (by omega))
        clear hX ht
        go_wp2_with fail
        refine (C1 _ HKR.out).mono ?_
        rintro e w2 ⟨rfl, hb⟩
        have HB2 := Lib.hid (below_two HBR.out hb)
        clear hb hc
        go_wp2_with fail
        go_roundw
        case rel => exact ⟨K + 1, by omega, by simp, HN.out, HB2.out⟩
        case measure => simp only [intOf]; omega
    · have hKK : K = l.length := by omega
      have HA := Lib.hid (show l.any (fun m => m.tk c) = false by
        rw [List.any_eq_false]
        intro m hm
        obtain ⟨j, hj, rfl⟩ := List.getElem_of_mem hm
        rw [HFR.out j hj (by omega)]; simp)
      have hlt' : ¬ (K : Int) < (l.length : Int) := by omega
      clear hKK
      go_wp2_with fail
      go_ret
      exact ⟨-1, rfl, by rw [HA.out]; rfl, HBR.out⟩
set_option maxHeartbeats 2000000 in
theorem lcontains (l : List Mb) (hl : ∀ m ∈ l, m.ok) (hn : l.length ≤ 200000) (c : UInt8) (oa : Option Addr) (oc k B : Nat) (w : World) (hk : w.cell? ⟨k, 0, none⟩ = some (.int .u8 (c.toNat : Int))) (hO : w.ownsRow B 39 1 (.slice oa l.length oc) l.length (l.map mbV)) :
    Calls Try.prog 61 #[.slice oa l.length oc, .func (.func 62) #[] #[.pointer (some ⟨k, 0, none⟩)]] w fun e w' => e = .returned (.bool (l.any (fun m => m.tk c))) ∧ Below w.heap.size w w' := by
  have C1 := lindex l hl hn c oa oc k B w hk hO
  go_enter Try.func61, Try.ntmps61
  go_wp2_with fail
  refine C1.mono ?_
  rintro e w2 ⟨z, rfl, hz, hb⟩
  have HB := Lib.hid hb
  have HZ := Lib.hid hz
  clear hb hz
  go_wp2_with fail
  go_ret
  exact ⟨by rw [← HZ.out]; rfl, HB.out⟩
set_option maxHeartbeats 2000000 in
theorem lset_takes (t : Bool) (l : List Mb) (hl : ∀ m ∈ l, m.ok) (hn : l.length ≤ 200000) (c : UInt8) (oa : Option Addr) (oc B : Nat) (w : World) (hO : w.ownsRow B 39 1 (.slice oa l.length oc) l.length (l.map mbV)) :
    Calls Try.prog 60 #[.agg #[.bool t, .slice oa l.length oc], .int .u8 (c.toNat : Int)] w fun e w' => e = .returned (.bool ((l.any (fun m => m.tk c)) != t)) ∧ Below w.heap.size w w' := by
  obtain ⟨w2, hw2, hb2, hs2, hP2, hR2⟩ := two_boxes w #[.bool t, .slice oa l.length oc] #[.int .u8 (c.toNat : Int)] 73 5
  have HW2 := Lib.hid hw2
  have HB2 := Lib.hid hb2
  have HP2 := Lib.hid hP2
  have C1 := lcontains l hl hn c oa oc (w.heap.size + 1) B w2 (blk_cell hR2 0) (own_below hO hb2)
  obtain ⟨v, hv⟩ : ∃ v, v = l.any (fun m => m.tk c) := ⟨_, rfl⟩
  rw [← hv] at C1 ⊢
  clear hw2 hb2 hs2 hP2 hR2 hO hv
  go_enter Try.func60, Try.ntmps60
  go_wp2_with fail
  rw [← HW2.out]
  refine C1.mono ?_
  rintro e w3 ⟨rfl, hb⟩
  have HB3 := Lib.hid (below_two HB2.out hb)
  have d0 := blk_cell (kept hb HP2.out) 0
  have d1 := blk_cell (kept hb HP2.out) 1
  clear hb
  cases v <;> cases t
  all_goals
    go_wp2_with fail
    go_ret
    exact ⟨rfl, HB3.out⟩
end Go.Proofs.Ytfldhggmgepcjaa
