/-
  A way in memory: its box, its rows of bits.
-/
import Derived.Test.YtfldhggmgepcjaaQWants
import Derived.Test.YtfldhggmgepcjaaQPass
namespace Go.Proofs.Ytfldhggmgepcjaa
set_option maxRecDepth 100000
open Go Go.RowKit

/-- What lies at a byte's place: nothing as yet, or the places that take it. -/
def TOk (w : World) (N k ga gs nw : Nat) (r : List Wt) (lim : Nat) (c : UInt8) (v : Value) : Prop :=
  v = .slice none 0 0 ∨ ∃ g ws, v = .slice (some ⟨g, 0, none⟩) nw nw ∧ RowAt w g (wv ws) 64 ∧ g ≠ k ∧ g ≠ ga ∧ (g ≠ gs ∧ N ≤ g) ∧ Small ws ∧ ws.length = nw ∧ ∀ j, bit ws j = (decide (j < lim) && tkAt r j c)
structure Way (w0 w : World) (k ga gs nw : Nat) (oa : Option Addr) (oc : Nat) (r : List Wt) (A S : List Nat) (T : List Value) (lim : UInt8 → Nat) : Prop where
  low : Below w0.heap.size w0 w
  bk : w0.heap.size ≤ k
  ba : w0.heap.size ≤ ga
  bs : w0.heap.size ≤ gs
  box : w.heap[k]? = some (.cells (Value.slice oa r.length oc :: .slice (some ⟨ga, 0, none⟩) nw nw :: .slice (some ⟨gs, 0, none⟩) nw nw :: T).toArray 46 (0, 0))
  tl : T.length = 256
  ra : RowAt w ga (wv A) 64
  rs : RowAt w gs (wv S) 64
  nak : ga ≠ k
  nsk : gs ≠ k
  nas : ga ≠ gs
  la : A.length = nw
  ls : S.length = nw
  hw : nw = r.length / 64 + 1
  sa : Small A
  ss : Small S
  each : ∀ (c : UInt8) (v : Value), T[c.toNat]? = some v → TOk w w0.heap.size k ga gs nw r (lim c) c v
section
variable {w0 w w' : World} {k ga gs nw : Nat} {oa : Option Addr} {oc : Nat} {r : List Wt} {A S A' S' : List Nat} {T : List Value} {lim : UInt8 → Nat}
theorem Way.cells (h : Way w0 w k ga gs nw oa oc r A S T lim) : w.cell? ⟨k, 0, none⟩ = some (.slice oa r.length oc) ∧ w.cell? ⟨k, 1, none⟩ = some (.slice (some ⟨ga, 0, none⟩) nw nw) ∧ w.cell? ⟨k, 2, none⟩ = some (.slice (some ⟨gs, 0, none⟩) nw nw) :=
  ⟨blk_cell h.box 0, blk_cell h.box 1, blk_cell h.box 2⟩
theorem Way.cellT (h : Way w0 w k ga gs nw oa oc r A S T lim) {j : Nat} {v : Value} (hj : T[j]? = some v) : w.cell? ⟨k, 3 + j, none⟩ = some v := by
  rw [blk_cell h.box (3 + j), List.getElem?_toArray, Nat.add_comm]
  exact hj
theorem low_grown {w0 w w' : World} {g : Nat} (h : Below w0.heap.size w0 w) (hb : w0.heap.size ≤ g) (hg : w.grownBy w' (some g)) : Below w0.heap.size w0 w' :=
  ⟨hg.os.trans h.os, hg.tape.trans h.tape, hg.output.trans h.output, Nat.le_trans h.size hg.size, fun i hi => (hg.block i (Nat.lt_of_lt_of_le hi h.size) (fun e => by cases e; omega)).trans (h.block i hi)⟩
theorem grown_at {w w' : World} {g i : Nat} {o : Obj} (hg : w.grownBy w' (some g)) (hi : i ≠ g) (h : w.heap[i]? = some o) : w'.heap[i]? = some o := by
  rw [hg.block i (lt_of_block h) (fun e => hi (by cases e; rfl))]; exact h
theorem Way.setA (h : Way w0 w k ga gs nw oa oc r A S T lim) (hr : RowAt w' ga (wv A') 64) (hg : w.grownBy w' (some ga)) (hl : A'.length = nw) (hs : Small A') : Way w0 w' k ga gs nw oa oc r A' S T lim :=
  ⟨low_grown h.low h.ba hg, h.bk, h.ba, h.bs, grown_at hg (Ne.symm h.nak) h.box, h.tl, hr, grown_at hg (Ne.symm h.nas) h.rs, h.nak, h.nsk, h.nas, hl, h.ls, h.hw, hs, h.ss, fun c v hv => by
    rcases h.each c v hv with h1 | ⟨g, ws, h1, h2, h3, h4, h5, h6⟩
    · exact Or.inl h1
    · exact Or.inr ⟨g, ws, h1, grown_at hg h4 h2, h3, h4, h5, h6⟩⟩
theorem Way.setS (h : Way w0 w k ga gs nw oa oc r A S T lim) (hr : RowAt w' gs (wv S') 64) (hg : w.grownBy w' (some gs)) (hl : S'.length = nw) (hs : Small S') : Way w0 w' k ga gs nw oa oc r A S' T lim :=
  ⟨low_grown h.low h.bs hg, h.bk, h.ba, h.bs, grown_at hg (Ne.symm h.nsk) h.box, h.tl, grown_at hg h.nas h.ra, hr, h.nak, h.nsk, h.nas, h.la, hl, h.hw, h.sa, hs, fun c v hv => by
    rcases h.each c v hv with h1 | ⟨g, ws, h1, h2, h3, h4, h5, h6⟩
    · exact Or.inl h1
    · exact Or.inr ⟨g, ws, h1, grown_at hg h5.1 h2, h3, h4, h5, h6⟩⟩
theorem Way.below (h : Way w0 w k ga gs nw oa oc r A S T lim) (hb : Below w.heap.size w w') : Way w0 w' k ga gs nw oa oc r A S T lim :=
  ⟨below_two h.low hb, h.bk, h.ba, h.bs, kept hb h.box, h.tl, kept hb h.ra, kept hb h.rs, h.nak, h.nsk, h.nas, h.la, h.ls, h.hw, h.sa, h.ss, fun c v hv => by
    rcases h.each c v hv with h1 | ⟨g, ws, h1, h2, h3⟩
    · exact Or.inl h1
    · exact Or.inr ⟨g, ws, h1, kept hb h2, h3⟩⟩
end
theorem word_at {ws : List Nat} {nw n j : Nat} (h : ws.length = nw) (hw : nw = n / 64 + 1) (hj : j ≤ n) : ∃ x, ws[j / 64]? = some x :=
  ⟨ws[j / 64]'(by have := Nat.div_le_div_right (c := 64) hj; omega), List.getElem?_eq_getElem _⟩
theorem len_small {nw n : Nat} (hw : nw = n / 64 + 1) : n < 64 * nw := by omega

def BeginAns (w0 : World) (k ga gs nw : Nat) (oa : Option Addr) (oc : Nat) (r : List Wt) (T : List Value) (lim : UInt8 → Nat) (e : Ending) (w' : World) : Prop :=
  e = .returned (.tuple #[]) ∧ ∃ A S, Way w0 w' k ga gs nw oa oc r A S T lim ∧ (∀ j, bit S j = isRep r j) ∧ ∀ j, j < 64 * nw → (bit A j = true ↔ Np r j [])

set_option maxHeartbeats 8000000 in
theorem lbegin (w0 w : World) (k ga gs nw : Nat) (oa : Option Addr) (oc : Nat) (r : List Wt) (hA : Alone r) (hrl : r.length ≤ 100000) (A S : List Nat) (T vs : List Value) (lim : UInt8 → Nat) (B : Nat) (hR : RowW w0 B oa oc r vs) (hW : Way w0 w k ga gs nw oa oc r A S T lim) (hA0 : ∀ j, bit A j = false) (hS0 : ∀ j, bit S j = false) :
    Calls Try.prog 19 #[.pointer (some ⟨k, 0, none⟩)] w (BeginAns w0 k ga gs nw oa oc r T lim) := by
  have HR := Lib.hid hR
  have HA := Lib.hid hA
  have HW := Lib.hid hW
  have HA0 := Lib.hid hA0
  have HS0 := Lib.hid (show ∀ j, bit S j = (decide (j < 0) && isRep r j) from fun j => by rw [hS0]; rfl)
  have HNW := Lib.hid hW.hw
  have hnw : nw ≤ 100000 := by have := hW.hw; omega
  obtain ⟨c0, c1, c2⟩ := hW.cells
  obtain ⟨n, hn⟩ : ∃ n, n = r.length := ⟨_, rfl⟩
  have HN := Lib.hid hn
  have HC := Lib.hid (show ∀ (W : World) (A' S' : List Nat), Way w0 W k ga gs nw oa oc r A' S' T lim → W.cell? ⟨k, 0, none⟩ = some (.slice oa n oc) ∧ W.cell? ⟨k, 1, none⟩ = some (.slice (some ⟨ga, 0, none⟩) nw nw) ∧ W.cell? ⟨k, 2, none⟩ = some (.slice (some ⟨gs, 0, none⟩) nw nw) from fun W A' S' h => by rw [hn]; exact h.cells)
  rw [← hn] at c0 hrl
  clear hR hA hW hA0 hS0 hn
  go_enter Try.func19, Try.ntmps19
  go_wp2_with fail
  go_loopw [2, 3, 9] (fun _ _ v9 wr => ∃ i S', v9 = .int .i64 ((i : Nat) : Int) ∧ i ≤ n ∧ Hid (Way w0 wr k ga gs nw oa oc r A S' T lim) ∧ Hid (∀ j, bit S' j = (decide (j < i) && isRep r j))) (fun _ _ v9 _ => n - (intOf v9).toNat)
  case atStart => exact ⟨0, S, rfl, Nat.zero_le _, HW, HS0⟩
  case round =>
    obtain ⟨i, S', rfl, hin, HWR, HSR⟩ := hrel
    by_cases hlt : i < n
    · obtain ⟨x, hx⟩ : ∃ x, r[i]? = some x := ⟨r[i]'(by have := HN.out; omega), List.getElem?_eq_getElem _⟩
      obtain ⟨gr, rfl, -, -⟩ := HR.out.some_of (by have := HN.out; omega)
      have hRr := HR.out.below HWR.out.low
      obtain ⟨u, hu, hut⟩ := hRr.each i x hx
      obtain ⟨tu, pu, rfl⟩ := wt_iface hut
      have hcu := own_at hRr.own hu
      have C1 := fun W => lrepeats hut W
      have hii : (i : Int) < (n : Int) := by omega
      have hi0 : (0 : Int) ≤ (i : Int) := by omega
      have HRX := Lib.hid (isRep_at hx)
      cases hxr : x.rep with
      | false =>
        rw [hxr] at C1
        have HSN := Lib.hid (show ∀ j, bit S' j = (decide (j < i + 1) && isRep r j) from fun j => by
          rw [HSR.out]
          by_cases e : j = i
          · subst e; rw [HRX.out, hxr]; simp
          · have : decide (j < i) = decide (j < i + 1) := by rw [decide_eq_decide]; omega
            rw [this])
        clear hRr hu hut hxr hx
        go_wp2_with fail
        refine (C1 _).mono ?_
        rintro e w5 ⟨rfl, rfl⟩
        go_wp2_with fail
        go_roundw
        case rel => exact ⟨i + 1, S', by simp, by omega, HWR, HSN⟩
        case measure => simp only [intOf]; omega
      | true =>
        rw [hxr] at C1
        obtain ⟨y, hy⟩ := word_at HWR.out.ls HNW.out (show i ≤ r.length by have := HN.out; omega)
        have C2 := fun W hW => lput S' HWR.out.ss gs i y nw hy HWR.out.ls.symm hnw W hW
        have HSN := Lib.hid (show ∀ j, bit (S'.set (i / 64) (y ||| 1 <<< (i % 64))) j = (decide (j < i + 1) && isRep r j) from fun j => by
          rw [bit_put hy, HSR.out]
          by_cases e : j = i
          · subst e; rw [HRX.out, hxr]; simp
          · have h1 : decide (j < i) = decide (j < i + 1) := by rw [decide_eq_decide]; omega
            have h2 : decide (j = i) = false := decide_eq_false e
            rw [h1, h2, Bool.or_false])
        have HSM := Lib.hid (And.intro (small_set HWR.out.ss (i / 64) (small_or y i (HWR.out.ss y (List.mem_of_getElem? hy)))) (show (S'.set (i / 64) (y ||| 1 <<< (i % 64))).length = nw by rw [List.length_set]; exact HWR.out.ls))
        obtain ⟨d0, d1, d2⟩ := HC.out wr A S' HWR.out
        clear hRr hu hut hxr hx hy
        go_wp2_with fail
        refine (C1 _).mono ?_
        rintro e w5 ⟨rfl, rfl⟩
        go_wp2_with fail
        refine (C2 _ HWR.out.rs).mono ?_
        rintro e w6 ⟨rfl, hr6, hg6⟩
        have HW6 := Lib.hid (HWR.out.setS hr6 hg6 HSM.out.2 HSM.out.1)
        clear hr6 hg6 d0 d1 d2 hcu
        go_wp2_with fail
        go_roundw
        case rel => exact ⟨i + 1, _, by simp, by omega, HW6, HSN⟩
        case measure => simp only [intOf]; omega
    · have hii : ¬ (i : Int) < (n : Int) := by omega
      have HE := Lib.hid (show i = n by omega)
      obtain ⟨y, hy⟩ := word_at HWR.out.la HNW.out (Nat.zero_le r.length)
      have C2 := fun W hW => lput A HWR.out.sa ga 0 y nw hy HWR.out.la.symm hnw W hW
      have HSM := Lib.hid (And.intro (small_set HWR.out.sa (0 / 64) (small_or y 0 (HWR.out.sa y (List.mem_of_getElem? hy)))) (show (A.set (0 / 64) (y ||| 1 <<< (0 % 64))).length = nw by rw [List.length_set]; exact HWR.out.la))
      have HSJ := Lib.hid (show ∀ j, bit S' j = isRep r j from fun j => by
        rw [HSR.out, HE.out, HN.out]
        by_cases h : j < r.length
        · rw [decide_eq_true h, Bool.true_and]
        · have : isRep r j = false := by unfold isRep; rw [List.getElem?_eq_none (by omega)]
          rw [this, Bool.and_false])
      have HAJ := Lib.hid (show ∀ j, bit (A.set (0 / 64) (y ||| 1 <<< (0 % 64))) j = decide (j = 0) from fun j => by rw [bit_put hy, HA0.out, Bool.false_or])
      obtain ⟨A1, hA1⟩ : ∃ A1, A1 = A.set (0 / 64) (y ||| 1 <<< (0 % 64)) := ⟨_, rfl⟩
      rw [← hA1] at C2 HSM HAJ
      obtain ⟨d0, d1, d2⟩ := HC.out wr A S' HWR.out
      clear hA1 hy
      go_wp2_with fail
      refine (C2 _ HWR.out.ra).mono ?_
      rintro e w6 ⟨rfl, hr6, hg6⟩
      have HW6 := Lib.hid (HWR.out.setA hr6 hg6 HSM.out.2 HSM.out.1)
      have hc6 := HC.out w6 A1 S' HW6.out
      have C3 := lpass A1 S' HSM.out.1 HWR.out.ss (fun j hj => by rw [HSJ.out] at hj ⊢; exact alone_rep HA.out hj) k ga gs nw HSM.out.2.symm HWR.out.ls.symm hnw HWR.out.nak HWR.out.nas w6 hc6.2.1 hc6.2.2 HW6.out.ra HW6.out.rs
      clear hr6 hg6 d0 d1 d2 hc6
      go_wp2_with fail
      refine C3.mono ?_
      rintro e w7 ⟨rfl, ⟨X, c, hX, hrX⟩, hg7⟩
      have HPE := Lib.hid hX
      have HW7 := Lib.hid (HW6.out.setA hrX hg7 (hX.1.trans HSM.out.2) hX.2.1)
      clear hX hrX hg7
      go_wp2_with fail
      go_end0
      refine ⟨rfl, X, S', HW7.out, HSJ.out, fun j hj => ?_⟩
      have h1 := HPE.out
      rw [← HSM.out.2] at h1 hj
      rw [pass_end h1 j hj, np_nil HA.out, HAJ.out, HAJ.out, HSJ.out]
      by_cases hj0 : j = 0
      · subst hj0; simp
      · have hp : decide (0 < j) = true := decide_eq_true (by omega)
        rw [hp, decide_eq_false hj0]
        simp only [Bool.false_or, Bool.true_and, Bool.and_eq_true, decide_eq_true_eq]
        constructor
        · rintro ⟨h1, h2⟩; exact Or.inr ⟨by omega, by rw [← h1]; exact h2⟩
        · rintro (h | ⟨h, h2⟩)
          · omega
          · subst h; exact ⟨rfl, h2⟩
end Go.Proofs.Ytfldhggmgepcjaa
