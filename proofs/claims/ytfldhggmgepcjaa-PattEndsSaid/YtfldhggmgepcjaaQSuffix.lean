/-
  Suffix of the landed code.
-/
import Derived.Test.YtfldhggmgepcjaaQRev
import Derived.Test.YtfldhggmgepcjaaQPick
namespace Go.Proofs.Ytfldhggmgepcjaa
set_option maxRecDepth 100000
open Go Go.RowKit

/-- A row of wants, turned. -/
theorem RowW.turn {w w' : World} {B : Nat} {oa : Option Addr} {oc : Nat} {r : List Wt} {vs : List Value} (h : RowW w B oa oc r vs) (ho : w'.ownsRow B 39 1 (.slice oa vs.length oc) vs.length vs.reverse) (hg : w.grownBy w' (Value.slice oa vs.length oc).ownBlock) : RowW w' B oa oc r.reverse vs.reverse := by
  have hb : ∀ g, (Value.slice oa vs.length oc).ownBlock = some g → oa = some ⟨g, 0, none⟩ := by
    intro g e
    obtain ⟨-, ⟨h3, -⟩ | ⟨g', cap', cur, h3, -⟩⟩ := h.own
    · simp only [Value.slice.injEq] at h3
      rw [h3.1] at e; cases e
    · simp only [Value.slice.injEq] at h3
      rw [h3.1] at e; cases e; exact h3.1
  refine ⟨by rw [List.length_reverse, ← h.len]; exact ho, by rw [List.length_reverse, List.length_reverse, h.len], fun i x hx => ?_, fun g e u hu => h.apart g e u (List.mem_reverse.1 hu)⟩
  have hi : i < r.length := by
    have := (List.getElem?_eq_some_iff.1 hx).1
    simpa using this
  rw [List.getElem?_reverse hi] at hx
  obtain ⟨u, h1, h2⟩ := h.each _ x hx
  refine ⟨u, by rw [List.getElem?_reverse (by rw [h.len]; exact hi), h.len]; exact h1, ?_⟩
  cases x with
  | set t l =>
    obtain ⟨pa, pc, h3, h4⟩ := h2
    refine ⟨pa, pc, h3, h4.kept hg ?_⟩
    cases pa with
    | none => exact Or.inl rfl
    | some a =>
      refine Or.inr fun e => ?_
      exact h.apart a.block (hb a.block e.symm) u (List.mem_of_getElem? h1) _ _ _ _ _ h3 rfl
  | _ => exact h2
theorem bytes_rev (s : List UInt8) : (s.map fun b : UInt8 => Value.int .u8 (b.toNat : Int)).reverse = s.reverse.map fun b : UInt8 => Value.int .u8 (b.toNat : Int) := by rw [List.map_reverse]

theorem bytesRow_le (s : ByteArray) (cap : Nat) : s.size ≤ (bytesRow s cap).size := by
  unfold bytesRow
  rw [Array.size_append, Array.size_map]
  exact Nat.le_add_right _ _
theorem RowW.far {w w' : World} {B gb : Nat} {oa : Option Addr} {oc : Nat} {r : List Wt} {vs : List Value} (h : RowW w B oa oc r vs) (hg : w.grownBy w' (some gb)) (ho : ∀ g, (Value.slice oa r.length oc).ownBlock = some g → g ≠ gb) (hm : ∀ u ∈ vs, Apart u gb) : RowW w' B oa oc r vs := by
  refine ⟨h.own.kept hg ?_, h.len, fun i x hx => ?_, h.apart⟩
  · cases hv : (Value.slice oa r.length oc).ownBlock with
    | none => exact Or.inl rfl
    | some k => exact Or.inr fun e => ho k hv (by cases e; rfl)
  · obtain ⟨u, h1, h2⟩ := h.each i x hx
    refine ⟨u, h1, ?_⟩
    cases x with
    | set t l =>
      obtain ⟨pa, pc, h3, h4⟩ := h2
      refine ⟨pa, pc, h3, h4.kept hg ?_⟩
      cases pa with
      | none => exact Or.inl rfl
      | some a => exact Or.inr fun e => hm u (List.mem_of_getElem? h1) _ _ _ _ _ h3 (by cases e; rfl)
    | _ => exact h2
theorem addr_zero (g j : Nat) : (⟨g, 0, none⟩ : Addr).add j = ⟨g, j, none⟩ := by unfold Addr.add; split <;> simp_all
/-- Where the last bytes begin that fit. -/
def sufI (r : List Wt) (s : List UInt8) (most : Bool) : Int := if pickL (fitsB r.reverse s.reverse) most = -1 then -1 else (s.length : Int) - pickL (fitsB r.reverse s.reverse) most
theorem pickF_ge (most : Bool) : ∀ (l : List Bool) (i : Nat) (p : Int), -1 ≤ p → p ≤ (i : Int) + l.length → -1 ≤ pickF most l i p ∧ pickF most l i p ≤ (i : Int) + l.length
  | [], i, p, h, h2 => by simp only [pickF, List.length_nil] at h2 ⊢; omega
  | b :: l, i, p, h, h2 => by
    simp only [pickF]
    have hh : -1 ≤ (if (b && (most || p == -1)) = true then (i : Int) else p) ∧ (if (b && (most || p == -1)) = true then (i : Int) else p) ≤ ((i + 1 : Nat) : Int) + l.length := by
      simp only [List.length_cons] at h2
      split <;> omega
    have := pickF_ge most l (i + 1) _ hh.1 hh.2
    simp only [List.length_cons]
    omega

set_option maxHeartbeats 8000000 in
theorem lsuffix (P Q s : ByteArray) (hP : P.size ≤ 100000) (hs : s.size ≤ 100000) (most : Bool) (w : World) : Calls Try.prog 8 #[.string P, .string Q, .string s, .bool most] w fun e w' => e = .returned (.int .i64 (sufI (rowP P.data.toList Q.data.toList) s.data.toList most)) ∧ Below w.heap.size w w' := by
  have C1 := fun W => lwants P Q hP W
  have HOK := Lib.hid (rowP_ok P.data.toList Q.data.toList (by rw [size_data]; exact hP))
  have HAL := Lib.hid (rowP_alone P.data.toList Q.data.toList)
  have HLN := Lib.hid (rowP_len P.data.toList Q.data.toList)
  have HPS := Lib.hid (size_data P)
  have HSL := Lib.hid (size_data s)
  obtain ⟨r, hr⟩ : ∃ r, r = rowP P.data.toList Q.data.toList := ⟨_, rfl⟩
  rw [← hr] at C1 HOK HAL HLN ⊢
  clear hr
  go_enter Try.func8, Try.ntmps8
  go_wp2_with fail
  refine (C1 _).mono ?_
  rintro e w1 ⟨oa, oc, vs, rfl, hR, hb⟩
  have HR := Lib.hid hR
  have HB1 := Lib.hid hb
  have hcv := run_bytes_of_string (P := Try.prog) w1 9 36 5 s Try.underlying9 Try.underlying36 Try.underlying5
  obtain ⟨cap, hcap⟩ : ∃ cap, cap = grownCap w1 s.size 0 5 := ⟨_, rfl⟩
  rw [← hcap] at hcv
  obtain ⟨w2, hw2⟩ : ∃ w2, w2 = w1.drew.alloc (.cells (bytesRow s cap) 5 ((bytesRow s cap).size, (bytesRow s cap).size + 1)) := ⟨_, rfl⟩
  rw [← hw2] at hcv
  have hb2 : Below w1.heap.size w1 w2 := by
    have h : Below w1.drew.heap.size w1.drew (w1.drew.alloc (.cells (bytesRow s cap) 5 ((bytesRow s cap).size, (bytesRow s cap).size + 1))) := below_box _ _
    rw [hw2]; exact ⟨h.os, h.tape, h.output, h.size, h.block⟩
  obtain ⟨bs, hbs⟩ : ∃ bs, bs = s.data.toList.map fun b : UInt8 => Value.int .u8 (b.toNat : Int) := ⟨_, rfl⟩
  have hbl : bs.length = s.size := by rw [hbs, List.length_map, size_data]
  have hF2 : RowF w2 w1.heap.size bs.length bs := by
    refine ⟨bytesRow s cap, 5, (bytesRow s cap).size, (bytesRow s cap).size + 1, ?_, ?_, ?_, ?_⟩
    · rw [hw2]; exact new_block w1.drew _
    · rw [hbl]; exact bytesRow_le s cap
    · rw [hbl]; exact bytesRow_le s cap
    · rw [hbl, hbs]
      unfold bytesRow
      rw [Array.toList_append, Array.toList_map, List.take_left' (by rw [List.length_map, size_data])]
  obtain ⟨gb, hgb⟩ : ∃ gb, gb = w1.heap.size := ⟨_, rfl⟩
  rw [← hgb] at hcv hF2
  have HGB := Lib.hid hgb
  have HF2 := Lib.hid hF2
  have HR2 := Lib.hid (hR.below hb2)
  have HB2 := Lib.hid (below_two hb hb2)
  have HBS := Lib.hid hbs
  have HBL := Lib.hid hbl
  have hvl : vs.length = r.length := hR.len
  have C2 := lrevw w.heap.size oa oc vs (by rw [hvl]; have := HLN.out; have := HPS.out; omega) (fun u hu => by
    obtain ⟨i, hi, rfl⟩ := List.getElem_of_mem hu
    obtain ⟨u', h1, h2⟩ := HR.out.each i (r[i]'(by omega)) (List.getElem?_eq_getElem (by omega))
    rw [List.getElem?_eq_getElem hi] at h1
    cases h1
    exact wt_iface h2) w2 (by have h := HR2.out.own; rw [← hvl] at h; exact h)
  rw [hvl] at C2
  have HVL := Lib.hid hvl
  have HAP := Lib.hid (show ∀ u ∈ vs, Apart u gb from fun u hu => by
    obtain ⟨i, hi, rfl⟩ := List.getElem_of_mem hu
    obtain ⟨u', h1, h2⟩ := HR.out.each i (r[i]'(by omega)) (List.getElem?_eq_getElem (by omega))
    rw [List.getElem?_eq_getElem hi] at h1
    cases h1
    exact wt_apart h2 (Or.inr (by rw [hgb]; exact Nat.le_refl _)))
  have HOLT := Lib.hid (show ∀ g, (Value.slice oa r.length oc).ownBlock = some g → w.heap.size ≤ g ∧ g < gb from fun g hg => ⟨(hR.own.lt g hg).1, by rw [hgb]; exact (hR.own.lt g hg).2⟩)
  clear hR hb hcap hw2 hb2 hbs hbl hF2 hgb hvl
  go_wp2_with fail
  refine C2.mono ?_
  rintro e w3 ⟨rfl, ho3, hg3⟩
  have HR3 := Lib.hid (HR2.out.turn (by rw [HVL.out]; exact ho3) (by rw [HVL.out]; exact hg3))
  have hF3 : RowF w3 gb bs.length bs := by
    obtain ⟨cs, t, lo, hi, h1, h2⟩ := HF2.out
    exact ⟨cs, t, lo, hi, by rw [hg3.block gb (lt_of_block h1) (fun e => by have := (HOLT.out gb e.symm).2; omega)]; exact h1, h2⟩
  have HB3 := Lib.hid (show Below w.heap.size w w3 from ⟨hg3.os.trans HB2.out.os, hg3.tape.trans HB2.out.tape, hg3.output.trans HB2.out.output, Nat.le_trans HB2.out.size hg3.size, fun i hi => (hg3.block i (Nat.lt_of_lt_of_le hi HB2.out.size) (fun e => by have := (HOLT.out i e.symm).1; omega)).trans (HB2.out.block i hi)⟩)
  have C3 := lrevb gb cap bs (by rw [HBL.out]; omega) (fun u hu => by
    rw [HBS.out] at hu
    obtain ⟨b, -, rfl⟩ := List.mem_map.1 hu
    exact ⟨_, rfl⟩) w3 hF3
  rw [HBL.out] at C3
  clear ho3 hg3 hF3 C2
  go_wp2_with fail
  refine C3.mono ?_
  rintro e w4 ⟨rfl, hF4, hg4⟩
  have hgbw : w.heap.size ≤ gb := by rw [HGB.out]; exact HB1.out.size
  have HB4 := Lib.hid (show Below w.heap.size w w4 from ⟨hg4.os.trans HB3.out.os, hg4.tape.trans HB3.out.tape, hg4.output.trans HB3.out.output, Nat.le_trans HB3.out.size hg4.size, fun i hi => (hg4.block i (Nat.lt_of_lt_of_le hi HB3.out.size) (fun e => by cases e; omega)).trans (HB3.out.block i hi)⟩)
  have HR4 := Lib.hid (HR3.out.far hg4 (fun g hg => by
    rw [List.length_reverse] at hg
    have := (HOLT.out g hg).2
    omega) (fun u hu => HAP.out u (List.mem_reverse.1 hu)))
  obtain ⟨rs, hrs⟩ : ∃ rs, rs = s.data.toList.reverse := ⟨_, rfl⟩
  have hrl : rs.length = s.size := by rw [hrs, List.length_reverse, size_data]
  have hcb := run_convert_bytes_back (P := Try.prog) w4 36 9 5 ⟨gb, 0, none⟩ cap rs Try.underlying36 Try.underlying5 Try.underlying9 (fun j hj => by
    rw [addr_zero]
    refine hF4.cell (by omega) ?_
    rw [HBS.out, bytes_rev, ← hrs, List.getElem?_map, List.getElem?_eq_getElem hj]
    rfl)
  rw [hrl] at hcb
  obtain ⟨S, hS⟩ : ∃ S : ByteArray, S = ⟨rs.toArray⟩ := ⟨_, rfl⟩
  rw [← hS] at hcb
  have hSd : S.data.toList = rs := by rw [hS]
  have hSz : S.size = s.size := by rw [← size_data, hSd, hrl]
  have HRV := Lib.hid (show r.reverse.length = r.length from List.length_reverse)
  have C4 := llengths w4 oa oc r.reverse (alone_rev HAL.out) (by rw [HRV.out]; have := HLN.out; have := HPS.out; omega) (fun x hx => HOK.out x (List.mem_reverse.1 hx)) vs.reverse w.heap.size HR4.out S (by omega)
  rw [hSd, HRV.out] at C4
  have HRS := Lib.hid hrs
  have HRL := Lib.hid hrl
  clear hF4 hg4 hgbw C3 hS hSd hSz hrs hrl
  go_wp2_with fail
  refine C4.mono ?_
  rintro e w5 ⟨g, rfl, hR5, hg, hb⟩
  have HB5 := Lib.hid (below_two HB4.out hb)
  rw [fitsV_eq] at hR5
  have C5 := lpick (fitsB r.reverse rs) (by rw [fitsB_len, HRL.out]; omega) most g w5 hR5
  rw [fitsB_len] at C5
  obtain ⟨n, hn⟩ : ∃ n, n = pickL (fitsB r.reverse rs) most := ⟨_, rfl⟩
  rw [← hn] at C5
  have hge := pickF_ge most (fitsB r.reverse rs) 0 (-1) (by omega) (by omega)
  have HV := Lib.hid (show sufI r s.data.toList most = if n = -1 then -1 else (s.size : Int) - n by unfold sufI; rw [← HRS.out, ← hn, HSL.out])
  have hnb : -1 ≤ n ∧ n ≤ (s.size : Int) + 1 := by
    rw [hn]
    have h2 := hge
    rw [fitsB_len, HRL.out] at h2
    unfold pickL
    omega
  clear hR5 hg hb C4 hge hn
  go_wp2_with fail
  refine C5.mono ?_
  rintro e w6 ⟨rfl, rfl⟩
  by_cases hm1 : n = -1
  · have hq : (n == -1) = true := by simp [hm1]
    have HV2 := Lib.hid (show sufI r s.data.toList most = -1 by rw [HV.out, if_pos hm1])
    clear hm1
    go_wp2_with fail
    go_ret
    exact ⟨by rw [HV2.out]; rfl, HB5.out⟩
  · have hq : (n == -1) = false := by simp [hm1]
    have HV2 := Lib.hid (show sufI r s.data.toList most = (s.size : Int) - n by rw [HV.out, if_neg hm1])
    clear hm1
    go_wp2_with fail
    go_ret
    exact ⟨by rw [HV2.out]; rfl, HB5.out⟩
end Go.Proofs.Ytfldhggmgepcjaa
