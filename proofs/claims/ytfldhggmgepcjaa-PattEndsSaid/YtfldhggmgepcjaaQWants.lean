/-
  The landed code's wants, walked.
-/
import Derived.Test.YtfldhggmgepcjaaQRow
namespace Go.Proofs.Ytfldhggmgepcjaa
set_option maxRecDepth 100000
open Go Go.RowKit

theorem push_yes {r : List Wt} {x : Wt} (h : ¬ (r ≠ [] ∧ x.rep = true ∧ (r.getLast?.map Wt.rep) = some true)) : pushW r x = r ++ [x] := by unfold pushW; rw [if_neg h]
theorem push_no {r : List Wt} {x : Wt} (h : r ≠ [] ∧ x.rep = true ∧ (r.getLast?.map Wt.rep) = some true) : pushW r x = r := by unfold pushW; rw [if_pos h]
theorem last_at {r : List Wt} {m : Nat} {y : Wt} (h : r[m]? = some y) (hm : m + 1 = r.length) : r.getLast? = some y := by
  rw [List.getLast?_eq_getElem?, show r.length - 1 = m by omega, h]

/-- A row with one want more. -/
theorem RowW.more {wn w6 : World} {ob : Obj} {B gg cap : Nat} {oa : Option Addr} {oc : Nat} {r : List Wt} {vs : List Value} {u : Value} {x : Wt} (h : RowW wn B oa oc r vs) (hx : WtV wn B u x) (hu : ∀ g, oa = some ⟨g, 0, none⟩ → Apart u g)
    (hg : (wn.alloc ob).grownBy w6 (Value.slice oa r.length oc).ownBlock) (hat : (Value.slice oa r.length oc).ownBlock = some gg ∨ gg = wn.heap.size + 1)
    (ho : w6.ownsRow B 39 1 (.slice (some ⟨gg, 0, none⟩) (r.length + 1) cap) (r.length + 1) (vs ++ [u])) : RowW w6 B (some ⟨gg, 0, none⟩) cap (r ++ [x]) (vs ++ [u]) := by
  have hrow : ∀ g, (Value.slice oa r.length oc).ownBlock = some g → oa = some ⟨g, 0, none⟩ := by
    intro g e
    obtain ⟨-, ⟨h3, -⟩ | ⟨g', cap', cur, h3, -⟩⟩ := h.own
    · rw [h3] at e; cases e
    · rw [h3] at e
      simp only [Value.slice.injEq] at h3
      cases e
      exact h3.1
  have hap : ∀ v ∈ vs ++ [u], ∀ g, (Value.slice oa r.length oc).ownBlock = some g → Apart v g := by
    intro v hv g e
    rw [List.mem_append, List.mem_singleton] at hv
    rcases hv with hv | rfl
    · exact h.apart g (hrow g e) v hv
    · exact hu g (hrow g e)
  refine ⟨by rw [List.length_append]; exact ho, by rw [List.length_append, List.length_append, h.len]; rfl, fun i y hy => ?_, fun g e v hv => ?_⟩
  · rw [List.getElem?_append] at hy
    by_cases hi : i < r.length
    · rw [if_pos hi] at hy
      obtain ⟨z, h1, h2⟩ := h.each i y hy
      refine ⟨z, by rw [List.getElem?_append, if_pos (by rw [h.len]; exact hi)]; exact h1, wt_grown h2 hg fun g e => hap z (List.mem_append_left _ (List.mem_of_getElem? h1)) g e⟩
    · rw [if_neg hi] at hy
      have hi2 : i = r.length := by
        have := (List.getElem?_eq_some_iff.1 hy).1
        simp at this; omega
      subst hi2
      simp at hy
      subst hy
      refine ⟨u, by rw [List.getElem?_append, if_neg (by rw [h.len]; omega), h.len]; simp, wt_grown hx hg fun g e => hap u (by simp) g e⟩
  · cases e
    rcases hat with hat | hat
    · exact hap v hv gg hat
    · subst hat
      rw [List.mem_append, List.mem_singleton] at hv
      rcases hv with hv | rfl
      · obtain ⟨i, hi, rfl⟩ := List.getElem_of_mem hv
        obtain ⟨z, h1, h2⟩ := h.each i (r[i]'(by rw [← h.len]; exact hi)) (List.getElem?_eq_getElem (by rw [← h.len]; exact hi))
        rw [List.getElem?_eq_getElem hi] at h1
        cases h1
        exact wt_apart h2 (Or.inr (by omega))
      · exact wt_apart hx (Or.inr (by omega))

/-- What wants answers. -/
def WantsAns (w : World) (r : List Wt) (e : Ending) (w' : World) : Prop := ∃ oa oc vs, e = .returned (.slice oa r.length oc) ∧ RowW w' w.heap.size oa oc r vs ∧ Below w.heap.size w w'

set_option maxHeartbeats 16000000 in
theorem lwants (P Q : ByteArray) (hP : P.size ≤ 100000) (w : World) : Calls Try.prog 13 #[.string P, .string Q] w (WantsAns w (rowP P.data.toList Q.data.toList)) := by
  have C1 := fun W => lclosings P Q hP none 0 0 W
  have HWT := Lib.hid (fun g i hi x hx W hG => lwant P Q hP g i hi x hx W hG)
  obtain ⟨L, hL⟩ : ∃ L, L = plL P.data.toList Q.data.toList := ⟨_, rfl⟩
  have HLP := Lib.hid (show L.length = P.size by rw [hL, pl_len, size_data])
  have HRP := Lib.hid (show rowP P.data.toList Q.data.toList = (raw L).foldl pushW [] by rw [hL]; rfl)
  rw [← hL] at C1 HWT
  obtain ⟨RP, hRP⟩ : ∃ RP, RP = rowP P.data.toList Q.data.toList := ⟨_, rfl⟩
  rw [← hRP] at HRP ⊢
  clear hL hRP
  have hw1 : PatAt (w.alloc (.cells #[.string P, .string Q, .slice none 0 0] 51)) w.heap.size P Q none 0 0 := new_block _ _
  have HB1 := Lib.hid (below_box w (.cells #[.string P, .string Q, .slice none 0 0] 51))
  have HP1 := Lib.hid hw1
  clear hw1
  go_enter Try.func13, Try.ntmps13
  go_wp2_with fail
  refine (C1 _).mono ?_
  rintro e w2 ⟨g, rfl, hG, hg, hb⟩
  have hP2 := HP1.out.below hb
  have HB2 := Lib.hid (below_two HB1.out hb)
  obtain ⟨c0, c1, c2⟩ := hP2.cells
  have hf2 := blk_free hP2 2
  have hgk : w.heap.size < g := by simp at hg; omega
  have HG2 := Lib.hid (hG.other (k := w.heap.size) (by omega) 2 (.slice (some ⟨g, 0, none⟩) (P.size + 1) (P.size + 1)))
  have HP2 := Lib.hid (show PatAt (w2.setCell ⟨w.heap.size, 2, none⟩ (.slice (some ⟨g, 0, none⟩) (P.size + 1) (P.size + 1))) w.heap.size P Q (some ⟨g, 0, none⟩) (P.size + 1) (P.size + 1) from blk_set hP2 2 _)
  obtain ⟨w3, hw3⟩ : ∃ w3, w3 = w2.setCell ⟨w.heap.size, 2, none⟩ (.slice (some ⟨g, 0, none⟩) (P.size + 1) (P.size + 1)) := ⟨_, rfl⟩
  have HB3 := Lib.hid (show Below w.heap.size w w3 by rw [hw3]; exact HB2.out.setCell (Nat.le_refl _) _)
  rw [← hw3] at HG2 HP2
  have HW3 := Lib.hid hw3
  clear hb hG hP2 hg hw3
  go_wp2_with fail
  rw [← HW3.out]
  clear HW3 c0 c1 c2 hf2
  go_loopw [6, 7] (fun v6 v7 wr => ∃ p oa oc r vs, v6 = .slice oa (List.length r) oc ∧ v7 = .int .i64 ((p : Nat) : Int) ∧ p ≤ P.size ∧ r.length ≤ p ∧ Hid (RowW wr (g + 1) oa oc r vs) ∧ Hid (RP = (raw (L.drop p)).foldl pushW r) ∧
    Hid (PatAt wr w.heap.size P Q (some ⟨g, 0, none⟩) (P.size + 1) (P.size + 1)) ∧ Hid (RowAt wr g (closesL L) 3) ∧ Hid (Below w.heap.size w wr)) (fun _ v7 _ => P.size - (intOf v7).toNat)
  case atStart => exact ⟨0, none, 0, [], [], rfl, rfl, Nat.zero_le _, Nat.le_refl _, RowW.nil _ _, (show RP = _ by rw [HRP.out, List.drop_zero]), HP2, HG2, HB3⟩
  case round =>
    obtain ⟨p, oa, oc, r, vs, rfl, rfl, hpP, hrp, HR, HFO, HPR, HGR, HBR⟩ := hrel
    by_cases hlt : p < P.size
    · have hpi : (p : Int) < (P.size : Int) := by omega
      have hLn : L.drop p ≠ [] := by
        intro e
        have := congrArg List.length e
        rw [List.length_drop, HLP.out] at this
        simp at this; omega
      have C2 := HWT.out g p hlt (p : Int) rfl wr HGR.out
      obtain ⟨x, p', hxp⟩ : ∃ x p', (x, p') = (wt1 (L.drop p)) := ⟨_, _, rfl⟩
      have hp1 := wt1_pos (L.drop p)
      have hp2 := wt1_le hLn
      have HFN := Lib.hid (show RP = (raw (L.drop (p + p'))).foldl pushW (pushW r x) by
        have h := HFO.out
        rw [raw_more hLn, ← hxp, List.foldl_cons, List.drop_drop] at h
        exact h)
      rw [← hxp] at C2 hp1 hp2
      rw [List.length_drop, HLP.out] at hp2
      have hp3 : 1 ≤ p' := hp1
      have hp4 : p' ≤ P.size - p := hp2
      have hk1 : g + 1 ≤ wr.heap.size := HGR.out.lt
      obtain ⟨c0, c1, c2⟩ := HPR.out.cells
      clear hxp hp1 hp2 hLn
      go_wp2_with fail
      refine C2.mono ?_
      rintro e w4 ⟨v, rfl, hv, hb⟩
      obtain ⟨tv, uv, rfl⟩ := wt_iface hv
      have HV := Lib.hid (hv.weak hk1)
      have HVA := Lib.hid (show ∀ g, oa = some ⟨g, 0, none⟩ → Apart (.iface tv uv) g from fun gr e => wt_apart hv (Or.inl (by
        obtain ⟨h1, h2 | ⟨g', cap', cur, h3, h4, h5, -⟩⟩ := HR.out.own
        · rw [e] at h2; cases h2.1
        · rw [e] at h3; cases h3; exact lt_of_block h5)))
      have HR4 := Lib.hid (HR.out.below hb)
      have HP4 := Lib.hid (HPR.out.below hb)
      have HG4 := Lib.hid (HGR.out.below hb)
      have HB4 := Lib.hid (below_two HBR.out hb)
      have C3 := fun W => lrepeats hv W
      have hk4 : g + 1 ≤ w4.heap.size := HG4.out.lt
      obtain ⟨n, hn⟩ : ∃ n, n = List.length r := ⟨_, rfl⟩
      have HN := Lib.hid hn
      have hnP : n ≤ 100000 := by omega
      have HO4 := Lib.hid (show w4.ownsRow (g + 1) 39 1 (.slice oa n oc) n vs by rw [hn]; exact HR4.out.own)
      obtain ⟨i0, hi0, hz0, hz1, hz2⟩ := info_parts infoWt
      rw [← hn]
      clear hb c0 c1 c2
      by_cases hpw : r ≠ [] ∧ x.rep = true ∧ (r.getLast?.map Wt.rep) = some true
      · -- nothing more
        have HPU := Lib.hid (push_no hpw)
        obtain ⟨hr0, hxr, hla⟩ := hpw
        have hnl : 0 < n := by rw [hn]; exact List.length_pos_iff.2 hr0
        obtain ⟨m, hm⟩ : ∃ m, m + 1 = n := ⟨n - 1, by omega⟩
        obtain ⟨y, hy⟩ : ∃ y, r[m]? = some y := ⟨r[m]'(by omega), List.getElem?_eq_getElem _⟩
        have hyr : y.rep = true := by rw [last_at hy (by omega)] at hla; simpa using hla
        obtain ⟨u, hu, hut⟩ := HR4.out.each m y hy
        obtain ⟨tu, pu, rfl⟩ := wt_iface hut
        obtain ⟨gr, rfl, -, -⟩ := HR4.out.some_of (by omega)
        have hcu := own_at HO4.out hu
        have C4 := fun W => lrepeats hut W
        rw [hxr] at C3
        rw [hyr] at C4
        have hme : (n : Int) - 1 = (m : Int) := by omega
        have hmn : (m : Int) < (n : Int) := by omega
        have hm0 : (0 : Int) ≤ (m : Int) := by omega
        have hz : (n == 0) = false := by simp; omega
        have hz' : ((n : Int) == 0) = false := by simp; omega
        have HMN := Lib.hid hm
        clear hn hm hv hut hu hxr hyr hla hr0
        go_wp2_with fail
        refine (C3 _).mono ?_
        rintro e w5 ⟨rfl, rfl⟩
        go_wp2_with fail
        refine (C4 _).mono ?_
        rintro e w6 ⟨rfl, rfl⟩
        go_wp2_with fail
        go_roundw
        case rel => exact ⟨p + p', _, oc, r, vs, by rw [HN.out], by simp, by omega, by have := HN.out; omega, HR4.out, by have h := HFN.out; rw [HPU.out] at h; exact h, HP4.out, HG4.out, HB4.out⟩
        case measure => simp only [intOf]; omega
      · -- one more
        have HPU := Lib.hid (push_yes hpw)
        by_cases hr0 : r = []
        · have hz : (n == 0) = true := by rw [hn, hr0]; rfl
          have hz' : ((n : Int) == 0) = true := by rw [hn, hr0]; rfl
          clear hr0 hn hpw
          go_wp2_with (first | (at_builtin; refine wpList_append_lies _ rfl _ _ 31 rfl (g + 1) 39 i0 _ 1 16 Try.underlying31 hi0 hz0 hz1 hz2 rfl (by decide) (.slice oa n oc) n vs rfl (HO4.out.alloc _) ⟨w4.heap.size, 0, none⟩ 1 1 [.iface tv uv] rfl rfl (World.news_of_block (cs := #[.iface tv uv]) (t := 39) (fr := (0, 0)) (heap_alloc_new w4 _)) (by simp [Value.oneCell']) (by decide) (by unfold maxLen; omega) (by omega) (by simp; omega) (w4.heap.size + 1) (by simp) ?_) | fail)
          intro gg cap w6 hown hgrow hat hlt6
          have HF6 := Lib.hid (show RowAt w6 g (closesL L) 3 ∧ PatAt w6 w.heap.size P Q (some ⟨g, 0, none⟩) (P.size + 1) (P.size + 1) ∧ Below w.heap.size w w6 from
            ⟨grown_blk HO4.out hgrow HG4.out (Nat.le_refl _), grown_blk HO4.out hgrow HP4.out (by omega), (HB4.out.alloc HB4.out.size _).grown hgrow (by simp; omega) (fun z hz => by have := (HO4.out.lt z hz).1; omega)⟩)
          rw [HN.out] at hown hgrow hat
          have HR6 := Lib.hid (RowW.more HR4.out HV.out HVA.out hgrow hat hown)
          clear hown hgrow hat hlt6
          go_wp2_with fail
          go_roundw
          case rel => exact ⟨p + p', some ⟨gg, 0, none⟩, cap, r ++ [x], (vs ++ [Value.iface tv uv] : List Value), by rw [List.length_append, ← HN.out]; rfl, by simp, by omega, by have := HN.out; rw [List.length_append]; simp only [List.length_singleton]; omega, HR6, (show RP = _ by have h := HFN.out; rw [HPU.out] at h; exact h), HF6.out.2.1, HF6.out.1, HF6.out.2.2⟩
          case measure => simp only [intOf]; omega
        · have hnl : 0 < n := by rw [hn]; exact List.length_pos_iff.2 hr0
          have hz : (n == 0) = false := by simp; omega
          have hz' : ((n : Int) == 0) = false := by simp; omega
          cases hxr : x.rep with
          | false =>
            rw [hxr] at C3
            clear hr0 hn hpw hv hxr
            go_wp2_with fail
            refine (C3 _).mono ?_
            rintro e w5 ⟨rfl, rfl⟩
            go_wp2_with (first | (at_builtin; refine wpList_append_lies _ rfl _ _ 31 rfl (g + 1) 39 i0 _ 1 16 Try.underlying31 hi0 hz0 hz1 hz2 rfl (by decide) (.slice oa n oc) n vs rfl (HO4.out.alloc _) ⟨w4.heap.size, 0, none⟩ 1 1 [.iface tv uv] rfl rfl (World.news_of_block (cs := #[.iface tv uv]) (t := 39) (fr := (0, 0)) (heap_alloc_new w4 _)) (by simp [Value.oneCell']) (by decide) (by unfold maxLen; omega) (by omega) (by simp; omega) (w4.heap.size + 1) (by simp) ?_) | fail)
            intro gg cap w6 hown hgrow hat hlt6
            have HF6 := Lib.hid (show RowAt w6 g (closesL L) 3 ∧ PatAt w6 w.heap.size P Q (some ⟨g, 0, none⟩) (P.size + 1) (P.size + 1) ∧ Below w.heap.size w w6 from
              ⟨grown_blk HO4.out hgrow HG4.out (Nat.le_refl _), grown_blk HO4.out hgrow HP4.out (by omega), (HB4.out.alloc HB4.out.size _).grown hgrow (by simp; omega) (fun z hz => by have := (HO4.out.lt z hz).1; omega)⟩)
            rw [HN.out] at hown hgrow hat
            have HR6 := Lib.hid (RowW.more HR4.out HV.out HVA.out hgrow hat hown)
            clear hown hgrow hat hlt6
            go_wp2_with fail
            go_roundw
            case rel => exact ⟨p + p', some ⟨gg, 0, none⟩, cap, r ++ [x], (vs ++ [Value.iface tv uv] : List Value), by rw [List.length_append, ← HN.out]; rfl, by simp, by omega, by have := HN.out; rw [List.length_append]; simp only [List.length_singleton]; omega, HR6, (show RP = _ by have h := HFN.out; rw [HPU.out] at h; exact h), HF6.out.2.1, HF6.out.1, HF6.out.2.2⟩
            case measure => simp only [intOf]; omega
          | true =>
            obtain ⟨m, hm⟩ : ∃ m, m + 1 = n := ⟨n - 1, by omega⟩
            obtain ⟨y, hy⟩ : ∃ y, r[m]? = some y := ⟨r[m]'(by omega), List.getElem?_eq_getElem _⟩
            have hyr : y.rep = false := by
              cases hyy : y.rep with
              | false => rfl
              | true => exact absurd ⟨hr0, hxr, by rw [last_at hy (by omega)]; simp [hyy]⟩ hpw
            obtain ⟨u, hu, hut⟩ := HR4.out.each m y hy
            obtain ⟨tu, pu, rfl⟩ := wt_iface hut
            obtain ⟨gr, rfl, -, -⟩ := HR4.out.some_of (by omega)
            have hcu := own_at HO4.out hu
            have C4 := fun W => lrepeats hut W
            rw [hxr] at C3
            rw [hyr] at C4
            have hme : (n : Int) - 1 = (m : Int) := by omega
            have hmn : (m : Int) < (n : Int) := by omega
            have hm0 : (0 : Int) ≤ (m : Int) := by omega
            clear hn hm hv hut hu hxr hyr hr0 hpw
            go_wp2_with fail
            refine (C3 _).mono ?_
            rintro e w5 ⟨rfl, rfl⟩
            go_wp2_with fail
            refine (C4 _).mono ?_
            rintro e w7 ⟨rfl, rfl⟩
            go_wp2_with (first | (at_builtin; refine wpList_append_lies _ rfl _ _ 31 rfl (g + 1) 39 i0 _ 1 16 Try.underlying31 hi0 hz0 hz1 hz2 rfl (by decide) (.slice (some ⟨gr, 0, none⟩) n oc) n vs rfl (HO4.out.alloc _) ⟨w4.heap.size, 0, none⟩ 1 1 [.iface tv uv] rfl rfl (World.news_of_block (cs := #[.iface tv uv]) (t := 39) (fr := (0, 0)) (heap_alloc_new w4 _)) (by simp [Value.oneCell']) (by decide) (by unfold maxLen; omega) (by omega) (by simp; omega) (w4.heap.size + 1) (by simp) ?_) | fail)
            intro gg cap w6 hown hgrow hat hlt6
            have HF6 := Lib.hid (show RowAt w6 g (closesL L) 3 ∧ PatAt w6 w.heap.size P Q (some ⟨g, 0, none⟩) (P.size + 1) (P.size + 1) ∧ Below w.heap.size w w6 from
              ⟨grown_blk HO4.out hgrow HG4.out (Nat.le_refl _), grown_blk HO4.out hgrow HP4.out (by omega), (HB4.out.alloc HB4.out.size _).grown hgrow (by simp; omega) (fun z hz => by have := (HO4.out.lt z hz).1; omega)⟩)
            rw [HN.out] at hown hgrow hat
            have HR6 := Lib.hid (RowW.more HR4.out HV.out HVA.out hgrow hat hown)
            clear hown hgrow hat hlt6
            go_wp2_with fail
            go_roundw
            case rel => exact ⟨p + p', some ⟨gg, 0, none⟩, cap, r ++ [x], (vs ++ [Value.iface tv uv] : List Value), by rw [List.length_append, ← HN.out]; rfl, by simp, by omega, by have := HN.out; rw [List.length_append]; simp only [List.length_singleton]; omega, HR6, (show RP = _ by have h := HFN.out; rw [HPU.out] at h; exact h), HF6.out.2.1, HF6.out.1, HF6.out.2.2⟩
            case measure => simp only [intOf]; omega
    · have hRL := HFO.out
      rw [show L.drop p = [] from List.drop_eq_nil_of_le (by rw [HLP.out]; omega), raw_nil, List.foldl_nil] at hRL
      have hgk2 : w.heap.size ≤ g + 1 := by omega
      have HRL := Lib.hid hRL
      have hpi : ¬ (p : Int) < (P.size : Int) := by omega
      clear hRL
      go_wp2_with fail
      go_ret
      exact ⟨oa, oc, vs, by rw [HRL.out]; rfl, by rw [HRL.out]; exact HR.out.weak hgk2, HBR.out⟩
end Go.Proofs.Ytfldhggmgepcjaa
