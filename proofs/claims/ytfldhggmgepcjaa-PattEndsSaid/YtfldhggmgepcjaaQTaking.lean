/-
  The landed code's taking: the places that take a byte.
-/
import Derived.Test.YtfldhggmgepcjaaQWay
import Derived.Test.YtfldhggmgepcjaaQOk
import Derived.Lib.SliceRun
namespace Go.Proofs.Ytfldhggmgepcjaa
set_option maxRecDepth 100000
open Go Go.RowKit

set_option maxHeartbeats 1000000 in
theorem lbitsof (oa : Option Addr) (oc n nw : Nat) (hw : nw = n / 64 + 1) (hn : n ≤ 100000) (w : World) : Calls Try.prog 18 #[.slice oa n oc] w fun e w' => e = .returned (.slice (some ⟨w.heap.size, 0, none⟩) nw nw) ∧ w' = w.alloc (.cells (List.replicate nw (.int .u64 0)).toArray 64) := by
  have hmk := run_make_words w ((n : Int) / 64 + 1) nw (by omega) (by omega)
  obtain ⟨w2, hw2⟩ : ∃ w2, w2 = w.alloc (.cells (List.replicate nw (.int .u64 0)).toArray 64) := ⟨_, rfl⟩
  rw [← hw2] at hmk ⊢
  obtain ⟨N, hN⟩ : ∃ N, N = w.heap.size := ⟨_, rfl⟩
  rw [← hN] at hmk ⊢
  clear hw2 hN hw
  go_enter Try.func18, Try.ntmps18
  go_wp2_with fail
  go_ret
  exact ⟨rfl, rfl⟩

theorem nil_yes (W : World) : (binOp .eql 42 (.slice none 0 0) (.slice none 0 0)).run Try.prog W = .ok (.bool true) W := Lib.run_eql_slice_nil W 42 64 none 0 0 0 0 Try.underlying42
theorem nil_no (a : Addr) (n cap : Nat) (W : World) : (binOp .eql 42 (.slice (some a) n cap) (.slice none 0 0)).run Try.prog W = .ok (.bool false) W := Lib.run_eql_slice_nil W 42 64 (some a) n cap 0 0 Try.underlying42
def full (r : List Wt) : UInt8 → Nat := fun _ => r.length
def TakingAns (w0 : World) (k ga gs nw : Nat) (oa : Option Addr) (oc : Nat) (r : List Wt) (A S : List Nat) (c : UInt8) (e : Ending) (w' : World) : Prop :=
  ∃ g ws T, e = .returned (.slice (some ⟨g, 0, none⟩) nw nw) ∧ Way w0 w' k ga gs nw oa oc r A S T (full r) ∧ RowAt w' g (wv ws) 64 ∧ g ≠ k ∧ g ≠ ga ∧ g ≠ gs ∧ Small ws ∧ ws.length = nw ∧ ∀ j, bit ws j = tkAt r j c
theorem lim_tk (r : List Wt) (j : Nat) (c : UInt8) : (decide (j < r.length) && tkAt r j c) = tkAt r j c := by
  by_cases h : j < r.length
  · rw [decide_eq_true h, Bool.true_and]
  · have : tkAt r j c = false := by unfold tkAt; rw [List.getElem?_eq_none (by omega)]
    rw [this, Bool.and_false]
theorem toNat_inj8 {a b : UInt8} (h : a.toNat = b.toNat) : a = b := UInt8.toNat_inj.1 h

theorem set_alloc_grown (w : World) (k j : Nat) (u : Value) (ob : Obj) : (w.alloc ob).grownBy ((w.setCell ⟨k, j, none⟩ u).alloc ob).drew (some k) := by
  refine ⟨rfl, rfl, rfl, ?_, fun i hi hne => ?_⟩
  · show _ ≤ ((w.setCell ⟨k, j, none⟩ u).alloc ob).heap.size
    rw [World.size_alloc, World.size_alloc, set_size]; exact Nat.le_refl _
  · show ((w.setCell ⟨k, j, none⟩ u).alloc ob).heap[i]? = _
    rw [World.size_alloc] at hi
    by_cases e : i = w.heap.size
    · subst e
      rw [new_block]
      have := new_block (w.setCell ⟨k, j, none⟩ u) ob
      rw [set_size] at this
      exact this
    · rw [Below.heap_alloc _ _ _ (by rw [set_size]; omega), Below.heap_alloc _ _ _ (by omega)]
      exact Below.heap_setCell _ _ _ _ (fun e => hne (by rw [e]))
/-- A new row of bits at a byte's place. -/
def only (r : List Wt) (c : UInt8) (i : Nat) : UInt8 → Nat := fun d => if d = c then i else r.length
theorem Way.fresh {w0 w w3 : World} {k ga gs nw : Nat} {oa : Option Addr} {oc : Nat} {r : List Wt} {A S : List Nat} {T : List Value} {c : UInt8} (h : Way w0 w k ga gs nw oa oc r A S T (full r))
    (hw3 : w3 = ((w.setCell ⟨k, 3 + c.toNat, none⟩ (.slice (some ⟨w.heap.size, 0, none⟩) nw nw)).alloc (.cells (Array.replicate nw (.int .u64 0)) 64)).drew) :
    Way w0 w3 k ga gs nw oa oc r A S (T.set c.toNat (.slice (some ⟨w.heap.size, 0, none⟩) nw nw)) (only r c 0) ∧ RowAt w3 w.heap.size (wv (List.replicate nw 0)) 64 := by
  have hk := lt_of_block h.box
  have hka := h.ra.lt
  have hks := h.rs.lt
  have hb : Below w.heap.size w (w.alloc (.cells (List.replicate nw (.int .u64 0)).toArray 64)) := below_box _ _
  have hg : (w.alloc (.cells (List.replicate nw (.int .u64 0)).toArray 64)).grownBy w3 (some k) := by
    have h := set_alloc_grown w k (3 + c.toNat) (.slice (some ⟨w.heap.size, 0, none⟩) nw nw) (.cells (Array.replicate nw (.int .u64 0)) 64)
    rw [hw3, List.toArray_replicate]; exact h
  have h1 := h.below hb
  have hrow : RowAt w3 w.heap.size (wv (List.replicate nw 0)) 64 := by
    refine grown_at hg (by omega) ?_
    rw [new_block]
    unfold wv
    rw [List.map_replicate]; rfl
  refine ⟨⟨low_grown h1.low h.bk hg, h.bk, h.ba, h.bs, ?_, by rw [List.length_set]; exact h.tl, grown_at hg h.nak h1.ra, grown_at hg h.nsk h1.rs, h.nak, h.nsk, h.nas, h.la, h.ls, h.hw, h.sa, h.ss, fun d v hd => ?_⟩, hrow⟩
  · rw [hw3]
    show ((w.setCell ⟨k, 3 + c.toNat, none⟩ (.slice (some ⟨w.heap.size, 0, none⟩) nw nw)).alloc _).heap[k]? = _
    rw [Below.heap_alloc _ _ _ (by rw [set_size]; exact hk)]
    have := blk_set h.box (3 + c.toNat) (.slice (some ⟨w.heap.size, 0, none⟩) nw nw)
    rw [List.setIfInBounds_toArray, show 3 + c.toNat = c.toNat + 1 + 1 + 1 by omega, List.set_cons_succ, List.set_cons_succ, List.set_cons_succ] at this
    rw [show 3 + c.toNat = c.toNat + 1 + 1 + 1 by omega]
    exact this
  · rw [List.getElem?_set] at hd
    by_cases e : c.toNat = d.toNat
    · rw [if_pos e] at hd
      split at hd
      · cases hd
        refine Or.inr ⟨_, _, rfl, hrow, by omega, by omega, ⟨by omega, h.low.size⟩, small_zero _, by simp, fun j => ?_⟩
        have hdc : d = c := toNat_inj8 e.symm
        rw [bit_zero]; unfold only; rw [if_pos hdc]; simp
      · cases hd
    · rw [if_neg e] at hd
      have hdc : d ≠ c := fun e2 => e (by rw [e2])
      rcases h1.each d v hd with h2 | ⟨g, ws, h2, h3, h4, h5, h6, h7, h8, h9⟩
      · exact Or.inl h2
      · refine Or.inr ⟨g, ws, h2, grown_at hg h4 h3, h4, h5, h6, h7, h8, fun j => ?_⟩
        rw [h9]; unfold only full; rw [if_neg hdc]
/-- A bit more in it. -/
theorem Way.bitmore {w0 w w' : World} {k ga gs nw gt i : Nat} {oa : Option Addr} {oc : Nat} {r : List Wt} {A S ws' : List Nat} {T : List Value} {c : UInt8} (h : Way w0 w k ga gs nw oa oc r A S T (only r c i))
    (hT : T[c.toNat]? = some (.slice (some ⟨gt, 0, none⟩) nw nw)) (hgt : w0.heap.size ≤ gt) (hgk : gt ≠ k) (hga : gt ≠ ga) (hgs : gt ≠ gs) (hd : ∀ (d : UInt8) (g : Nat), d ≠ c → T[d.toNat]? = some (.slice (some ⟨g, 0, none⟩) nw nw) → g ≠ gt)
    (hg : w.grownBy w' (some gt)) (hr : RowAt w' gt (wv ws') 64) (hs : Small ws') (hl : ws'.length = nw) (hb : ∀ j, bit ws' j = (decide (j < i + 1) && tkAt r j c)) : Way w0 w' k ga gs nw oa oc r A S T (only r c (i + 1)) := by
  refine ⟨low_grown h.low hgt hg, h.bk, h.ba, h.bs, grown_at hg (Ne.symm hgk) h.box, h.tl, grown_at hg (Ne.symm hga) h.ra, grown_at hg (Ne.symm hgs) h.rs, h.nak, h.nsk, h.nas, h.la, h.ls, h.hw, h.sa, h.ss, fun d v hv => ?_⟩
  by_cases e : d = c
  · subst e
    rw [hT] at hv
    cases hv
    refine Or.inr ⟨gt, ws', rfl, hr, hgk, hga, ⟨hgs, hgt⟩, hs, hl, fun j => ?_⟩
    rw [hb]; unfold only; rw [if_pos rfl]
  · rcases h.each d v hv with h2 | ⟨g, ws, h2, h3, h4, h5, h6, h7, h8, h9⟩
    · exact Or.inl h2
    · refine Or.inr ⟨g, ws, h2, grown_at hg (hd d g e (by rw [← h2]; exact hv)) h3, h4, h5, h6, h7, h8, fun j => ?_⟩
      rw [h9]; unfold only; rw [if_neg e, if_neg e]
theorem Way.nomore {w0 w : World} {k ga gs nw i : Nat} {oa : Option Addr} {oc : Nat} {r : List Wt} {A S : List Nat} {T : List Value} {c : UInt8} (h : Way w0 w k ga gs nw oa oc r A S T (only r c i)) (hi : tkAt r i c = false) : Way w0 w k ga gs nw oa oc r A S T (only r c (i + 1)) := by
  refine ⟨h.low, h.bk, h.ba, h.bs, h.box, h.tl, h.ra, h.rs, h.nak, h.nsk, h.nas, h.la, h.ls, h.hw, h.sa, h.ss, fun d v hv => ?_⟩
  rcases h.each d v hv with h2 | ⟨g, ws, h2, h3, h4, h5, h6, h7, h8, h9⟩
  · exact Or.inl h2
  · refine Or.inr ⟨g, ws, h2, h3, h4, h5, h6, h7, h8, fun j => ?_⟩
    rw [h9]; unfold only
    split
    · rename_i e
      subst e
      by_cases e2 : j = i
      · subst e2; rw [hi]; simp
      · have : decide (j < i) = decide (j < i + 1) := by rw [decide_eq_decide]; omega
        rw [this]
    · rfl
theorem Way.done {w0 w : World} {k ga gs nw : Nat} {oa : Option Addr} {oc : Nat} {r : List Wt} {A S : List Nat} {T : List Value} {c : UInt8} (h : Way w0 w k ga gs nw oa oc r A S T (only r c r.length)) : Way w0 w k ga gs nw oa oc r A S T (full r) := by
  refine ⟨h.low, h.bk, h.ba, h.bs, h.box, h.tl, h.ra, h.rs, h.nak, h.nsk, h.nas, h.la, h.ls, h.hw, h.sa, h.ss, fun d v hv => ?_⟩
  have := h.each d v hv
  unfold only at this
  unfold full
  split at this <;> exact this

set_option maxHeartbeats 16000000 in
theorem ltaking (w0 w : World) (k ga gs nw : Nat) (oa : Option Addr) (oc : Nat) (r : List Wt) (hrl : r.length ≤ 100000) (hok : ∀ x ∈ r, x.fine) (A S : List Nat) (T vs : List Value) (B : Nat) (hR : RowW w0 B oa oc r vs) (c : UInt8) (x : Int) (hx : x = (c.toNat : Int)) (hW : Way w0 w k ga gs nw oa oc r A S T (full r)) :
    Calls Try.prog 29 #[.pointer (some ⟨k, 0, none⟩), .int .u8 x] w (TakingAns w0 k ga gs nw oa oc r A S c) := by
  subst hx
  have hc8 : c.toNat < 256 := c.toNat_lt
  obtain ⟨v, hv⟩ : ∃ v, T[c.toNat]? = some v := ⟨T[c.toNat]'(by rw [hW.tl]; exact hc8), List.getElem?_eq_getElem _⟩
  have hcT := hW.cellT hv
  have hci : (c.toNat : Int) < 256 := by omega
  have hc0 : (0 : Int) ≤ (c.toNat : Int) := by omega
  rcases hW.each c v hv with rfl | ⟨g, ws, rfl, h2, h3, h4, h5, h6, h7, h8⟩
  · -- not met as yet
    have HR := Lib.hid hR
    have HOK := Lib.hid hok
    have HW := Lib.hid hW
    have HWF := Lib.hid (fun w3 h => Way.fresh (c := c) (w3 := w3) hW h)
    have HV := Lib.hid hv
    have hnw : nw ≤ 100000 := by have := hW.hw; omega
    have HNW := Lib.hid hW.hw
    obtain ⟨c0, c1, c2⟩ := hW.cells
    have hkl := lt_of_block hW.box
    obtain ⟨n, hn⟩ : ∃ n, n = r.length := ⟨_, rfl⟩
    have HN := Lib.hid hn
    rw [← hn] at c0 hrl
    have C0 := fun W => lbitsof oa oc n nw (by rw [hn]; exact hW.hw) hrl W
    have hyes := nil_yes
    clear hR hok hW hv hn
    go_enter Try.func29, Try.ntmps29
    go_upto_region 2 with fail
    have hfz := blk_free HW.out.box (3 + c.toNat)
    go_region_law (first | (go_simp; go_at_call 18; refine (C0 _).mono ?_; rintro e wn ⟨rfl, rfl⟩))
    obtain ⟨w3, hw3⟩ : ∃ w3, w3 = ((w.setCell ⟨k, 3 + c.toNat, none⟩ (.slice (some ⟨w.heap.size, 0, none⟩) nw nw)).alloc (.cells (Array.replicate nw (.int .u64 0)) 64)).drew := ⟨_, rfl⟩
    rw [← hw3]
    obtain ⟨hW3, hR3⟩ := HWF.out w3 hw3
    have hkl2 : c.toNat < T.length := by rw [HW.out.tl]; exact hc8
    have HT := Lib.hid (show (T.set c.toNat (.slice (some ⟨w.heap.size, 0, none⟩) nw nw))[c.toNat]? = some (.slice (some ⟨w.heap.size, 0, none⟩) nw nw) ∧ w0.heap.size ≤ w.heap.size ∧ w.heap.size ≠ k ∧ w.heap.size ≠ ga ∧ w.heap.size ≠ gs ∧ ∀ (d : UInt8) (g : Nat), d ≠ c → (T.set c.toNat (.slice (some ⟨w.heap.size, 0, none⟩) nw nw))[d.toNat]? = some (.slice (some ⟨g, 0, none⟩) nw nw) → g ≠ w.heap.size from
      ⟨List.getElem?_set_self hkl2, HW.out.low.size, by omega, by have := HW.out.ra.lt; omega, by have := HW.out.rs.lt; omega, fun d g hd h => by
        rw [List.getElem?_set_ne (fun e => hd (toNat_inj8 e.symm))] at h
        rcases HW.out.each d _ h with h1 | ⟨g', ws, h1, h2, -⟩
        · cases h1
        · cases h1
          have := h2.lt
          omega⟩)
    have HW3 := Lib.hid hW3
    have HR3 := Lib.hid hR3
    obtain ⟨G, hG⟩ : ∃ G, G = w.heap.size := ⟨_, rfl⟩
    rw [← hG] at HT HW3 HR3 ⊢
    obtain ⟨T', hT'⟩ : ∃ T', T' = T.set c.toNat (.slice (some ⟨G, 0, none⟩) nw nw) := ⟨_, rfl⟩
    rw [← hT'] at HT HW3
    have HC := Lib.hid (show ∀ (W : World) (lim : UInt8 → Nat), Way w0 W k ga gs nw oa oc r A S T' lim → W.cell? ⟨k, 0, none⟩ = some (.slice oa n oc) ∧ W.cell? ⟨k, 3 + c.toNat, none⟩ = some (.slice (some ⟨G, 0, none⟩) nw nw) from fun W lim h => ⟨by have := h.cells.1; rw [← HN.out] at this; exact this, h.cellT HT.out.1⟩)
    have HB0 := Lib.hid (show ∀ j, bit (List.replicate nw 0) j = (decide (j < 0) && tkAt r j c) from fun j => by rw [bit_zero]; simp)
    have HS0 := Lib.hid (And.intro (small_zero nw) (show (List.replicate nw 0).length = nw by simp))
    obtain ⟨c0, cT⟩ := HC.out w3 _ HW3.out
    clear hw3 hW3 hR3 hG hT' hcT hfz c1 c2 hkl HWF HW HV
    go_wp2_with fail
    go_loopw [5, 6, 29] (fun _ _ v29 wr => ∃ i ws, v29 = .int .i64 ((i : Nat) : Int) ∧ i ≤ n ∧ Hid (Way w0 wr k ga gs nw oa oc r A S T' (only r c i)) ∧ Hid (RowAt wr G (wv ws) 64) ∧ Hid (∀ j, bit ws j = (decide (j < i) && tkAt r j c)) ∧ Hid (Small ws ∧ ws.length = nw)) (fun _ _ v29 _ => n - (intOf v29).toNat)
    case atStart => exact ⟨0, _, rfl, Nat.zero_le _, HW3, HR3, HB0, HS0⟩
    case round =>
      obtain ⟨i, ws, rfl, hin, HWR, HRR, HBS, HSM⟩ := hrel
      by_cases hlt : i < n
      · obtain ⟨x, hx⟩ : ∃ x, r[i]? = some x := ⟨r[i]'(by have := HN.out; omega), List.getElem?_eq_getElem _⟩
        obtain ⟨gr, rfl, -, -⟩ := HR.out.some_of (by have := HN.out; omega)
        have hRr := HR.out.below HWR.out.low
        obtain ⟨u, hu, hut⟩ := hRr.each i x hx
        have hcu := own_at hRr.own hu
        have hii : (i : Int) < (n : Int) := by omega
        have hi0 : (0 : Int) ≤ (i : Int) := by omega
        have HRX := Lib.hid hx
        clear hRr hu hx
        cases x with
        | one =>
          obtain rfl := hut
          have C1 := fun W (_ : True) => lone (c.toNat : Int) W
          have HCW := Lib.hid trivial
          cases htk : (Wt.one).tk c with
          | false => cases htk
          | true =>
            skip
            obtain ⟨y, hy⟩ := word_at HSM.out.2 HNW.out (show i ≤ r.length by have := HN.out; omega)
            have C2 := fun W hW => lput ws HSM.out.1 G i y nw hy HSM.out.2.symm hnw W hW
            have HBN := Lib.hid (show ∀ j, bit (ws.set (i / 64) (y ||| 1 <<< (i % 64))) j = (decide (j < i + 1) && tkAt r j c) from fun j => by
              rw [bit_put hy, HBS.out]
              by_cases e2 : j = i
              · subst e2; rw [tkAt_at HRX.out, htk]; simp
              · have h1 : decide (j < i) = decide (j < i + 1) := by rw [decide_eq_decide]; omega
                have h2 : decide (j = i) = false := decide_eq_false e2
                rw [h1, h2, Bool.or_false])
            have HSN := Lib.hid (And.intro (small_set HSM.out.1 (i / 64) (small_or y i (HSM.out.1 y (List.mem_of_getElem? hy)))) (show (ws.set (i / 64) (y ||| 1 <<< (i % 64))).length = nw by rw [List.length_set]; exact HSM.out.2))
            clear htk hy
            go_wp2_with fail
            refine (C1 _ HCW.out).mono ?_
            rintro e w5 ⟨rfl, hb⟩
            have HW5 := Lib.hid (HWR.out.below hb)
            have HR5 := Lib.hid (HRR.out.below hb)
            obtain ⟨d0, dT⟩ := HC.out w5 _ HW5.out
            clear hb hcu
            go_wp2_with fail
            refine (C2 _ HR5.out).mono ?_
            rintro e w6 ⟨rfl, hr6, hg6⟩
            have HW6 := Lib.hid (HW5.out.bitmore HT.out.1 HT.out.2.1 HT.out.2.2.1 HT.out.2.2.2.1 HT.out.2.2.2.2.1 HT.out.2.2.2.2.2 hg6 hr6 HSN.out.1 HSN.out.2 HBN.out)
            have HR6 := Lib.hid hr6
            clear hr6 hg6 d0 dT
            go_wp2_with fail
            go_roundw
            case rel => exact ⟨i + 1, _, by simp, by omega, HW6, HR6, HBN, HSN⟩
            case measure => simp only [intOf]; omega
        | many =>
          obtain rfl := hut
          have C1 := fun W (_ : True) => lmany (c.toNat : Int) W
          have HCW := Lib.hid trivial
          cases htk : (Wt.many).tk c with
          | false => cases htk
          | true =>
            skip
            obtain ⟨y, hy⟩ := word_at HSM.out.2 HNW.out (show i ≤ r.length by have := HN.out; omega)
            have C2 := fun W hW => lput ws HSM.out.1 G i y nw hy HSM.out.2.symm hnw W hW
            have HBN := Lib.hid (show ∀ j, bit (ws.set (i / 64) (y ||| 1 <<< (i % 64))) j = (decide (j < i + 1) && tkAt r j c) from fun j => by
              rw [bit_put hy, HBS.out]
              by_cases e2 : j = i
              · subst e2; rw [tkAt_at HRX.out, htk]; simp
              · have h1 : decide (j < i) = decide (j < i + 1) := by rw [decide_eq_decide]; omega
                have h2 : decide (j = i) = false := decide_eq_false e2
                rw [h1, h2, Bool.or_false])
            have HSN := Lib.hid (And.intro (small_set HSM.out.1 (i / 64) (small_or y i (HSM.out.1 y (List.mem_of_getElem? hy)))) (show (ws.set (i / 64) (y ||| 1 <<< (i % 64))).length = nw by rw [List.length_set]; exact HSM.out.2))
            clear htk hy
            go_wp2_with fail
            refine (C1 _ HCW.out).mono ?_
            rintro e w5 ⟨rfl, hb⟩
            have HW5 := Lib.hid (HWR.out.below hb)
            have HR5 := Lib.hid (HRR.out.below hb)
            obtain ⟨d0, dT⟩ := HC.out w5 _ HW5.out
            clear hb hcu
            go_wp2_with fail
            refine (C2 _ HR5.out).mono ?_
            rintro e w6 ⟨rfl, hr6, hg6⟩
            have HW6 := Lib.hid (HW5.out.bitmore HT.out.1 HT.out.2.1 HT.out.2.2.1 HT.out.2.2.2.1 HT.out.2.2.2.2.1 HT.out.2.2.2.2.2 hg6 hr6 HSN.out.1 HSN.out.2 HBN.out)
            have HR6 := Lib.hid hr6
            clear hr6 hg6 d0 dT
            go_wp2_with fail
            go_roundw
            case rel => exact ⟨i + 1, _, by simp, by omega, HW6, HR6, HBN, HSN⟩
            case measure => simp only [intOf]; omega
        | span a b =>
          obtain rfl := hut
          have C1 := fun W (_ : True) => lspan a b c W
          have HCW := Lib.hid trivial
          cases htk : (Wt.span a b).tk c with
          | false =>
            rw [show (decide (a.toNat ≤ c.toNat) && decide (c.toNat ≤ b.toNat)) = _ from htk] at C1
            have HWN := Lib.hid (HWR.out.nomore (by rw [tkAt_at HRX.out]; exact htk))
            have HBN := Lib.hid (show ∀ j, bit ws j = (decide (j < i + 1) && tkAt r j c) from fun j => by
              rw [HBS.out]
              by_cases e2 : j = i
              · subst e2; rw [tkAt_at HRX.out, htk]; simp
              · have : decide (j < i) = decide (j < i + 1) := by rw [decide_eq_decide]; omega
                rw [this])
            clear htk
            go_wp2_with fail
            refine (C1 _ HCW.out).mono ?_
            rintro e w5 ⟨rfl, hb⟩
            have HW5 := Lib.hid (HWN.out.below hb)
            have HR5 := Lib.hid (HRR.out.below hb)
            clear hb hcu
            go_wp2_with fail
            go_roundw
            case rel => exact ⟨i + 1, ws, by simp, by omega, HW5, HR5, HBN, HSM⟩
            case measure => simp only [intOf]; omega
          | true =>
            rw [show (decide (a.toNat ≤ c.toNat) && decide (c.toNat ≤ b.toNat)) = _ from htk] at C1
            obtain ⟨y, hy⟩ := word_at HSM.out.2 HNW.out (show i ≤ r.length by have := HN.out; omega)
            have C2 := fun W hW => lput ws HSM.out.1 G i y nw hy HSM.out.2.symm hnw W hW
            have HBN := Lib.hid (show ∀ j, bit (ws.set (i / 64) (y ||| 1 <<< (i % 64))) j = (decide (j < i + 1) && tkAt r j c) from fun j => by
              rw [bit_put hy, HBS.out]
              by_cases e2 : j = i
              · subst e2; rw [tkAt_at HRX.out, htk]; simp
              · have h1 : decide (j < i) = decide (j < i + 1) := by rw [decide_eq_decide]; omega
                have h2 : decide (j = i) = false := decide_eq_false e2
                rw [h1, h2, Bool.or_false])
            have HSN := Lib.hid (And.intro (small_set HSM.out.1 (i / 64) (small_or y i (HSM.out.1 y (List.mem_of_getElem? hy)))) (show (ws.set (i / 64) (y ||| 1 <<< (i % 64))).length = nw by rw [List.length_set]; exact HSM.out.2))
            clear htk hy
            go_wp2_with fail
            refine (C1 _ HCW.out).mono ?_
            rintro e w5 ⟨rfl, hb⟩
            have HW5 := Lib.hid (HWR.out.below hb)
            have HR5 := Lib.hid (HRR.out.below hb)
            obtain ⟨d0, dT⟩ := HC.out w5 _ HW5.out
            clear hb hcu
            go_wp2_with fail
            refine (C2 _ HR5.out).mono ?_
            rintro e w6 ⟨rfl, hr6, hg6⟩
            have HW6 := Lib.hid (HW5.out.bitmore HT.out.1 HT.out.2.1 HT.out.2.2.1 HT.out.2.2.2.1 HT.out.2.2.2.2.1 HT.out.2.2.2.2.2 hg6 hr6 HSN.out.1 HSN.out.2 HBN.out)
            have HR6 := Lib.hid hr6
            clear hr6 hg6 d0 dT
            go_wp2_with fail
            go_roundw
            case rel => exact ⟨i + 1, _, by simp, by omega, HW6, HR6, HBN, HSN⟩
            case measure => simp only [intOf]; omega
        | set t l =>
          obtain ⟨oa', oc', rfl, hos⟩ := hut
          have HOS := Lib.hid hos
          have hfi := HOK.out _ (List.mem_of_getElem? HRX.out)
          have C1 := fun W hW => lset_takes t l hfi.2 hfi.1 c oa' oc' B W hW
          have HCW := Lib.hid hos
          clear hos hfi
          cases htk : (Wt.set t l).tk c with
          | false =>
            rw [show ((l.any fun m => m.tk c) != t) = _ from htk] at C1
            have HWN := Lib.hid (HWR.out.nomore (by rw [tkAt_at HRX.out]; exact htk))
            have HBN := Lib.hid (show ∀ j, bit ws j = (decide (j < i + 1) && tkAt r j c) from fun j => by
              rw [HBS.out]
              by_cases e2 : j = i
              · subst e2; rw [tkAt_at HRX.out, htk]; simp
              · have : decide (j < i) = decide (j < i + 1) := by rw [decide_eq_decide]; omega
                rw [this])
            clear htk
            go_wp2_with fail
            refine (C1 _ HCW.out).mono ?_
            rintro e w5 ⟨rfl, hb⟩
            have HW5 := Lib.hid (HWN.out.below hb)
            have HR5 := Lib.hid (HRR.out.below hb)
            clear hb hcu
            go_wp2_with fail
            go_roundw
            case rel => exact ⟨i + 1, ws, by simp, by omega, HW5, HR5, HBN, HSM⟩
            case measure => simp only [intOf]; omega
          | true =>
            rw [show ((l.any fun m => m.tk c) != t) = _ from htk] at C1
            obtain ⟨y, hy⟩ := word_at HSM.out.2 HNW.out (show i ≤ r.length by have := HN.out; omega)
            have C2 := fun W hW => lput ws HSM.out.1 G i y nw hy HSM.out.2.symm hnw W hW
            have HBN := Lib.hid (show ∀ j, bit (ws.set (i / 64) (y ||| 1 <<< (i % 64))) j = (decide (j < i + 1) && tkAt r j c) from fun j => by
              rw [bit_put hy, HBS.out]
              by_cases e2 : j = i
              · subst e2; rw [tkAt_at HRX.out, htk]; simp
              · have h1 : decide (j < i) = decide (j < i + 1) := by rw [decide_eq_decide]; omega
                have h2 : decide (j = i) = false := decide_eq_false e2
                rw [h1, h2, Bool.or_false])
            have HSN := Lib.hid (And.intro (small_set HSM.out.1 (i / 64) (small_or y i (HSM.out.1 y (List.mem_of_getElem? hy)))) (show (ws.set (i / 64) (y ||| 1 <<< (i % 64))).length = nw by rw [List.length_set]; exact HSM.out.2))
            clear htk hy
            go_wp2_with fail
            refine (C1 _ HCW.out).mono ?_
            rintro e w5 ⟨rfl, hb⟩
            have HW5 := Lib.hid (HWR.out.below hb)
            have HR5 := Lib.hid (HRR.out.below hb)
            obtain ⟨d0, dT⟩ := HC.out w5 _ HW5.out
            clear hb hcu
            go_wp2_with fail
            refine (C2 _ HR5.out).mono ?_
            rintro e w6 ⟨rfl, hr6, hg6⟩
            have HW6 := Lib.hid (HW5.out.bitmore HT.out.1 HT.out.2.1 HT.out.2.2.1 HT.out.2.2.2.1 HT.out.2.2.2.2.1 HT.out.2.2.2.2.2 hg6 hr6 HSN.out.1 HSN.out.2 HBN.out)
            have HR6 := Lib.hid hr6
            clear hr6 hg6 d0 dT
            go_wp2_with fail
            go_roundw
            case rel => exact ⟨i + 1, _, by simp, by omega, HW6, HR6, HBN, HSN⟩
            case measure => simp only [intOf]; omega
      · have hii : ¬ (i : Int) < (n : Int) := by omega
        have hin2 : i = r.length := by have := HN.out; omega
        have HANS := Lib.hid (show TakingAns w0 k ga gs nw oa oc r A S c (.returned (.slice (some ⟨G, 0, none⟩) nw nw)) wr from ⟨G, ws, T', rfl, by
          have h := HWR.out
          rw [hin2] at h
          exact h.done, HRR.out, HT.out.2.2.1, HT.out.2.2.2.1, HT.out.2.2.2.2.1, HSM.out.1, HSM.out.2, fun j => by rw [HBS.out, hin2]; exact lim_tk r j c⟩)
        obtain ⟨d0, dT⟩ := HC.out wr _ HWR.out
        clear hin2
        go_wp2_with fail
        go_ret
        exact HANS.out
  · have HANS := Lib.hid (show TakingAns w0 k ga gs nw oa oc r A S c (.returned (.slice (some ⟨g, 0, none⟩) nw nw)) w from ⟨g, ws, T, rfl, hW, h2, h3, h4, h5.1, h6, h7, fun j => by rw [h8]; exact lim_tk r j c⟩)
    have hno := nil_no
    clear hW hR hok h2 h3 h4 h5 h6 h7 h8 hv
    go_enter Try.func29, Try.ntmps29
    go_wp2_with fail
    go_ret
    exact HANS.out
end Go.Proofs.Ytfldhggmgepcjaa
