/-
  The landed code's wants, walked.
  A way in memory: its box, its rows of bits.
  The landed code's taking: the places that take a byte.
  The landed code's take: a byte more.
  The landed code's lengths: which first bytes a row of wants wants.
  pick, Match, Prefix, Magic of the landed code.
  slices.Reverse of wants and of bytes; Suffix.
  Suffix of the landed code.
  Magic of the landed code; short of the laws; awake.
  Chapter 11 in plain words: a pattern's parts, what they give way to, all paths.
-/
import Derived.Test.YtclhpedecimicaaGreatK16
import Derived.Test.YtclhpedecimicaaGreatK14
import Derived.Test.YtclhpedecimicaaGreatQOk
import Derived.Lib.SliceRun
import Derived.Deep.RegionLaw
import Derived.BigRegion
import Derived.Laws.Tables
import Derived.Laws.EntriesVeiled
import Derived.Laws.IdiomCopy
import Derived.Laws.IdiomStrings
import Derived.Test.YtclhpedecimicaaGreatK18
namespace Go.Proofs.YtclhpedecimicaaGreat
set_option maxRecDepth 100000
open Go Go.RowKit

theorem push_yes {r : List Wt} {x : Wt} (h : ¬ (r ≠ [] ∧ x.rep = true ∧ (r.getLast?.map Wt.rep) = some true)) : pushW r x = r ++ [x] := by unfold pushW; rw [if_neg h]
theorem push_no {r : List Wt} {x : Wt} (h : r ≠ [] ∧ x.rep = true ∧ (r.getLast?.map Wt.rep) = some true) : pushW r x = r := by unfold pushW; rw [if_pos h]
theorem last_at {r : List Wt} {m : Nat} {y : Wt} (h : r[m]? = some y) (hm : m + 1 = r.length) : r.getLast? = some y := by
  rw [List.getLast?_eq_getElem?, show r.length - 1 = m by omega, h]

/-- A row with one want more. -/
theorem RowW.more {wn w6 : World} {ob : Obj} {B gg cap : Nat} {oa : Option Addr} {oc : Nat} {r : List Wt} {vs : List Value} {u : Value} {x : Wt} (h : RowW wn B oa oc r vs) (hx : WtV wn B u x) (hu : ∀ g, oa = some ⟨g, 0, none⟩ → Apart u g)
    (hg : (wn.alloc ob).grownBy w6 (Value.slice oa r.length oc).ownBlock) (hat : (Value.slice oa r.length oc).ownBlock = some gg ∨ gg = wn.heap.size + 1)
    (ho : w6.ownsRow B 178 1 (.slice (some ⟨gg, 0, none⟩) (r.length + 1) cap) (r.length + 1) (vs ++ [u])) : RowW w6 B (some ⟨gg, 0, none⟩) cap (r ++ [x]) (vs ++ [u]) := by
  have hrow : ∀ g, (Value.slice oa r.length oc).ownBlock = some g → oa = some ⟨g, 0, none⟩ := by
    intro g e
    obtain ⟨-, ⟨h3, -⟩ | ⟨g', cap', cur, h3, -⟩⟩ := h.own
    · rw [h3] at e; cases e
    · rw [h3] at e
      simp only [Value.slice.injEq] at h3
      cases e
      exact h3.1
  have hap : ∀ v ∈ vs ++ [u], ∀ g, (Value.slice oa r.length oc).ownBlock = some g → Apart v g := by
    intro v hv g e
    rw [List.mem_append, List.mem_singleton] at hv
    rcases hv with hv | rfl
    · exact h.apart g (hrow g e) v hv
    · exact hu g (hrow g e)
  refine ⟨by rw [List.length_append]; exact ho, by rw [List.length_append, List.length_append, h.len]; rfl, fun i y hy => ?_, fun g e v hv => ?_⟩
  · rw [List.getElem?_append] at hy
    by_cases hi : i < r.length
    · rw [if_pos hi] at hy
      obtain ⟨z, h1, h2⟩ := h.each i y hy
      refine ⟨z, by rw [List.getElem?_append, if_pos (by rw [h.len]; exact hi)]; exact h1, wt_grown h2 hg fun g e => hap z (List.mem_append_left _ (List.mem_of_getElem? h1)) g e⟩
    · rw [if_neg hi] at hy
      have hi2 : i = r.length := by
        have := (List.getElem?_eq_some_iff.1 hy).1
        simp at this; omega
      subst hi2
      simp at hy
      subst hy
      refine ⟨u, by rw [List.getElem?_append, if_neg (by rw [h.len]; omega), h.len]; simp, wt_grown hx hg fun g e => hap u (by simp) g e⟩
  · cases e
    rcases hat with hat | hat
    · exact hap v hv gg hat
    · subst hat
      rw [List.mem_append, List.mem_singleton] at hv
      rcases hv with hv | rfl
      · obtain ⟨i, hi, rfl⟩ := List.getElem_of_mem hv
        obtain ⟨z, h1, h2⟩ := h.each i (r[i]'(by rw [← h.len]; exact hi)) (List.getElem?_eq_getElem (by rw [← h.len]; exact hi))
        rw [List.getElem?_eq_getElem hi] at h1
        cases h1
        exact wt_apart h2 (Or.inr (by omega))
      · exact wt_apart hx (Or.inr (by omega))

/-- What wants answers. -/
def WantsAns (w : World) (r : List Wt) (e : Ending) (w' : World) : Prop := ∃ oa oc vs, e = .returned (.slice oa r.length oc) ∧ RowW w' w.heap.size oa oc r vs ∧ Below w.heap.size w w'

set_option maxHeartbeats 16000000 in
theorem lwants (P Q : ByteArray) (hP : P.size ≤ 100000) (w : World) : Calls Tryz.prog 115 #[.string P, .string Q] w (WantsAns w (rowP P.data.toList Q.data.toList)) := by
  have C1 := fun W => lclosings P Q hP none 0 0 W
  have HWT := Lib.hid (fun g i hi x hx W hG => lwant P Q hP g i hi x hx W hG)
  obtain ⟨L, hL⟩ : ∃ L, L = plL P.data.toList Q.data.toList := ⟨_, rfl⟩
  have HLP := Lib.hid (show L.length = P.size by rw [hL, pl_len, size_data])
  have HRP := Lib.hid (show rowP P.data.toList Q.data.toList = (raw L).foldl pushW [] by rw [hL]; rfl)
  rw [← hL] at C1 HWT
  obtain ⟨RP, hRP⟩ : ∃ RP, RP = rowP P.data.toList Q.data.toList := ⟨_, rfl⟩
  rw [← hRP] at HRP ⊢
  clear hL hRP
  have hw1 : PatAt (w.alloc (.cells #[.string P, .string Q, .slice none 0 0] 73)) w.heap.size P Q none 0 0 := new_block _ _
  have HB1 := Lib.hid (below_box w (.cells #[.string P, .string Q, .slice none 0 0] 73))
  have HP1 := Lib.hid hw1
  clear hw1
  go_enter Tryz.func115, Tryz.ntmps115
  go_wp2_with fail
  refine (C1 _).mono ?_
  rintro e w2 ⟨g, rfl, hG, hg, hb⟩
  have hP2 := HP1.out.below hb
  have HB2 := Lib.hid (below_two HB1.out hb)
  obtain ⟨c0, c1, c2⟩ := hP2.cells
  have hf2 := blk_free hP2 2
  have hgk : w.heap.size < g := by simp at hg; omega
  have HG2 := Lib.hid (hG.other (k := w.heap.size) (by omega) 2 (.slice (some ⟨g, 0, none⟩) (P.size + 1) (P.size + 1)))
  have HP2 := Lib.hid (show PatAt (w2.setCell ⟨w.heap.size, 2, none⟩ (.slice (some ⟨g, 0, none⟩) (P.size + 1) (P.size + 1))) w.heap.size P Q (some ⟨g, 0, none⟩) (P.size + 1) (P.size + 1) from blk_set hP2 2 _)
  obtain ⟨w3, hw3⟩ : ∃ w3, w3 = w2.setCell ⟨w.heap.size, 2, none⟩ (.slice (some ⟨g, 0, none⟩) (P.size + 1) (P.size + 1)) := ⟨_, rfl⟩
  have HB3 := Lib.hid (show Below w.heap.size w w3 by rw [hw3]; exact HB2.out.setCell (Nat.le_refl _) _)
  rw [← hw3] at HG2 HP2
  have HW3 := Lib.hid hw3
  clear hb hG hP2 hg hw3
  go_wp2_with fail
  rw [← HW3.out]
  clear HW3 c0 c1 c2 hf2
  go_loopw [6, 7] (fun v6 v7 wr => ∃ p oa oc r vs, v6 = .slice oa (List.length r) oc ∧ v7 = .int .i64 ((p : Nat) : Int) ∧ p ≤ P.size ∧ r.length ≤ p ∧ Hid (RowW wr (g + 1) oa oc r vs) ∧ Hid (RP = (raw (L.drop p)).foldl pushW r) ∧
    Hid (PatAt wr w.heap.size P Q (some ⟨g, 0, none⟩) (P.size + 1) (P.size + 1)) ∧ Hid (RowAt wr g (closesL L) 3) ∧ Hid (Below w.heap.size w wr)) (fun _ v7 _ => P.size - (intOf v7).toNat)
  case atStart => exact ⟨0, none, 0, [], [], rfl, rfl, Nat.zero_le _, Nat.le_refl _, RowW.nil _ _, (show RP = _ by rw [HRP.out, List.drop_zero]), HP2, HG2, HB3⟩
  case round =>
    obtain ⟨p, oa, oc, r, vs, rfl, rfl, hpP, hrp, HR, HFO, HPR, HGR, HBR⟩ := hrel
    by_cases hlt : p < P.size
    · have hpi : (p : Int) < (P.size : Int) := by omega
      have hLn : L.drop p ≠ [] := by
        intro e
        have := congrArg List.length e
        rw [List.length_drop, HLP.out] at this
        simp at this; omega
      have C2 := HWT.out g p hlt (p : Int) rfl wr HGR.out
      obtain ⟨x, p', hxp⟩ : ∃ x p', (x, p') = (wt1 (L.drop p)) := ⟨_, _, rfl⟩
      have hp1 := wt1_pos (L.drop p)
      have hp2 := wt1_le hLn
      have HFN := Lib.hid (show RP = (raw (L.drop (p + p'))).foldl pushW (pushW r x) by
        have h := HFO.out
        rw [raw_more hLn, ← hxp, List.foldl_cons, List.drop_drop] at h
        exact h)
      rw [← hxp] at C2 hp1 hp2
      rw [List.length_drop, HLP.out] at hp2
      have hp3 : 1 ≤ p' := hp1
      have hp4 : p' ≤ P.size - p := hp2
      have hk1 : g + 1 ≤ wr.heap.size := HGR.out.lt
      obtain ⟨c0, c1, c2⟩ := HPR.out.cells
      clear hxp hp1 hp2 hLn
      go_wp2_with fail
      refine C2.mono ?_
      rintro e w4 ⟨v, rfl, hv, hb⟩
      obtain ⟨tv, uv, rfl⟩ := wt_iface hv
      have HV := Lib.hid (hv.weak hk1)
      have HVA := Lib.hid (show ∀ g, oa = some ⟨g, 0, none⟩ → Apart (.iface tv uv) g from fun gr e => wt_apart hv (Or.inl (by
        obtain ⟨h1, h2 | ⟨g', cap', cur, h3, h4, h5, -⟩⟩ := HR.out.own
        · rw [e] at h2; cases h2.1
        · rw [e] at h3; cases h3; exact lt_of_block h5)))
      have HR4 := Lib.hid (HR.out.below hb)
      have HP4 := Lib.hid (HPR.out.below hb)
      have HG4 := Lib.hid (HGR.out.below hb)
      have HB4 := Lib.hid (below_two HBR.out hb)
      have C3 := fun W => lrepeats hv W
      have hk4 : g + 1 ≤ w4.heap.size := HG4.out.lt
      obtain ⟨n, hn⟩ : ∃ n, n = List.length r := ⟨_, rfl⟩
      have HN := Lib.hid hn
      have hnP : n ≤ 100000 := by omega
      have HO4 := Lib.hid (show w4.ownsRow (g + 1) 178 1 (.slice oa n oc) n vs by rw [hn]; exact HR4.out.own)
      obtain ⟨i0, hi0, hz0, hz1, hz2⟩ := info_parts infoWt
      rw [← hn]
      clear hb c0 c1 c2
      by_cases hpw : r ≠ [] ∧ x.rep = true ∧ (r.getLast?.map Wt.rep) = some true
      · -- nothing more
        have HPU := Lib.hid (push_no hpw)
        obtain ⟨hr0, hxr, hla⟩ := hpw
        have hnl : 0 < n := by rw [hn]; exact List.length_pos_iff.2 hr0
        obtain ⟨m, hm⟩ : ∃ m, m + 1 = n := ⟨n - 1, by omega⟩
        obtain ⟨y, hy⟩ : ∃ y, r[m]? = some y := ⟨r[m]'(by omega), List.getElem?_eq_getElem _⟩
        have hyr : y.rep = true := by rw [last_at hy (by omega)] at hla; simpa using hla
        obtain ⟨u, hu, hut⟩ := HR4.out.each m y hy
        obtain ⟨tu, pu, rfl⟩ := wt_iface hut
        obtain ⟨gr, rfl, -, -⟩ := HR4.out.some_of (by omega)
        have hcu := own_at HO4.out hu
        have C4 := fun W => lrepeats hut W
        rw [hxr] at C3
        rw [hyr] at C4
        have hme : (n : Int) - 1 = (m : Int) := by omega
        have hmn : (m : Int) < (n : Int) := by omega
        have hm0 : (0 : Int) ≤ (m : Int) := by omega
        have hz : (n == 0) = false := by simp; omega
        have hz' : ((n : Int) == 0) = false := by simp; omega
        have HMN := Lib.hid hm
        clear hn hm hv hut hu hxr hyr hla hr0
        go_wp2_with fail
        refine (C3 _).mono ?_
        rintro e w5 ⟨rfl, rfl⟩
        go_wp2_with fail
        refine (C4 _).mono ?_
        rintro e w6 ⟨rfl, rfl⟩
        go_wp2_with fail
        go_roundw
        case rel => exact ⟨p + p', _, oc, r, vs, by rw [HN.out], by simp, by omega, by have := HN.out; omega, HR4.out, by have h := HFN.out; rw [HPU.out] at h; exact h, HP4.out, HG4.out, HB4.out⟩
        case measure => simp only [intOf]; omega
      · -- one more
        have HPU := Lib.hid (push_yes hpw)
        by_cases hr0 : r = []
        · have hz : (n == 0) = true := by rw [hn, hr0]; rfl
          have hz' : ((n : Int) == 0) = true := by rw [hn, hr0]; rfl
          clear hr0 hn hpw
          go_wp2_with (first | (at_builtin; refine wpList_append_lies _ rfl _ _ 161 rfl (g + 1) 178 i0 _ 1 16 Tryz.underlying161 hi0 hz0 hz1 hz2 rfl (by decide) (.slice oa n oc) n vs rfl (HO4.out.alloc _) ⟨w4.heap.size, 0, none⟩ 1 1 [.iface tv uv] rfl rfl (World.news_of_block (cs := #[.iface tv uv]) (t := 178) (fr := (0, 0)) (heap_alloc_new w4 _)) (by simp [Value.oneCell']) (by decide) (by unfold maxLen; omega) (by omega) (by simp; omega) (w4.heap.size + 1) (by simp) ?_) | fail)
          intro gg cap w6 hown hgrow hat hlt6
          have HF6 := Lib.hid (show RowAt w6 g (closesL L) 3 ∧ PatAt w6 w.heap.size P Q (some ⟨g, 0, none⟩) (P.size + 1) (P.size + 1) ∧ Below w.heap.size w w6 from
            ⟨grown_blk HO4.out hgrow HG4.out (Nat.le_refl _), grown_blk HO4.out hgrow HP4.out (by omega), (HB4.out.alloc HB4.out.size _).grown hgrow (by simp; omega) (fun z hz => by have := (HO4.out.lt z hz).1; omega)⟩)
          rw [HN.out] at hown hgrow hat
          have HR6 := Lib.hid (RowW.more HR4.out HV.out HVA.out hgrow hat hown)
          clear hown hgrow hat hlt6
          go_wp2_with fail
          go_roundw
          case rel => exact ⟨p + p', some ⟨gg, 0, none⟩, cap, r ++ [x], (vs ++ [Value.iface tv uv] : List Value), by rw [List.length_append, ← HN.out]; rfl, by simp, by omega, by have := HN.out; rw [List.length_append]; simp only [List.length_singleton]; omega, HR6, (show RP = _ by have h := HFN.out; rw [HPU.out] at h; exact h), HF6.out.2.1, HF6.out.1, HF6.out.2.2⟩
          case measure => simp only [intOf]; omega
        · have hnl : 0 < n := by rw [hn]; exact List.length_pos_iff.2 hr0
          have hz : (n == 0) = false := by simp; omega
          have hz' : ((n : Int) == 0) = false := by simp; omega
          cases hxr : x.rep with
          | false =>
            rw [hxr] at C3
            clear hr0 hn hpw hv hxr
            go_wp2_with fail
            refine (C3 _).mono ?_
            rintro e w5 ⟨rfl, rfl⟩
            go_wp2_with (first | (at_builtin; refine wpList_append_lies _ rfl _ _ 161 rfl (g + 1) 178 i0 _ 1 16 Tryz.underlying161 hi0 hz0 hz1 hz2 rfl (by decide) (.slice oa n oc) n vs rfl (HO4.out.alloc _) ⟨w4.heap.size, 0, none⟩ 1 1 [.iface tv uv] rfl rfl (World.news_of_block (cs := #[.iface tv uv]) (t := 178) (fr := (0, 0)) (heap_alloc_new w4 _)) (by simp [Value.oneCell']) (by decide) (by unfold maxLen; omega) (by omega) (by simp; omega) (w4.heap.size + 1) (by simp) ?_) | fail)
            intro gg cap w6 hown hgrow hat hlt6
            have HF6 := Lib.hid (show RowAt w6 g (closesL L) 3 ∧ PatAt w6 w.heap.size P Q (some ⟨g, 0, none⟩) (P.size + 1) (P.size + 1) ∧ Below w.heap.size w w6 from
              ⟨grown_blk HO4.out hgrow HG4.out (Nat.le_refl _), grown_blk HO4.out hgrow HP4.out (by omega), (HB4.out.alloc HB4.out.size _).grown hgrow (by simp; omega) (fun z hz => by have := (HO4.out.lt z hz).1; omega)⟩)
            rw [HN.out] at hown hgrow hat
            have HR6 := Lib.hid (RowW.more HR4.out HV.out HVA.out hgrow hat hown)
            clear hown hgrow hat hlt6
            go_wp2_with fail
            go_roundw
            case rel => exact ⟨p + p', some ⟨gg, 0, none⟩, cap, r ++ [x], (vs ++ [Value.iface tv uv] : List Value), by rw [List.length_append, ← HN.out]; rfl, by simp, by omega, by have := HN.out; rw [List.length_append]; simp only [List.length_singleton]; omega, HR6, (show RP = _ by have h := HFN.out; rw [HPU.out] at h; exact h), HF6.out.2.1, HF6.out.1, HF6.out.2.2⟩
            case measure => simp only [intOf]; omega
          | true =>
            obtain ⟨m, hm⟩ : ∃ m, m + 1 = n := ⟨n - 1, by omega⟩
            obtain ⟨y, hy⟩ : ∃ y, r[m]? = some y := ⟨r[m]'(by omega), List.getElem?_eq_getElem _⟩
            have hyr : y.rep = false := by
              cases hyy : y.rep with
              | false => rfl
              | true => exact absurd ⟨hr0, hxr, by rw [last_at hy (by omega)]; simp [hyy]⟩ hpw
            obtain ⟨u, hu, hut⟩ := HR4.out.each m y hy
            obtain ⟨tu, pu, rfl⟩ := wt_iface hut
            obtain ⟨gr, rfl, -, -⟩ := HR4.out.some_of (by omega)
            have hcu := own_at HO4.out hu
            have C4 := fun W => lrepeats hut W
            rw [hxr] at C3
            rw [hyr] at C4
            have hme : (n : Int) - 1 = (m : Int) := by omega
            have hmn : (m : Int) < (n : Int) := by omega
            have hm0 : (0 : Int) ≤ (m : Int) := by omega
            clear hn hm hv hut hu hxr hyr hr0 hpw
            go_wp2_with fail
            refine (C3 _).mono ?_
            rintro e w5 ⟨rfl, rfl⟩
            go_wp2_with fail
            refine (C4 _).mono ?_
            rintro e w7 ⟨rfl, rfl⟩
            go_wp2_with (first | (at_builtin; refine wpList_append_lies _ rfl _ _ 161 rfl (g + 1) 178 i0 _ 1 16 Tryz.underlying161 hi0 hz0 hz1 hz2 rfl (by decide) (.slice (some ⟨gr, 0, none⟩) n oc) n vs rfl (HO4.out.alloc _) ⟨w4.heap.size, 0, none⟩ 1 1 [.iface tv uv] rfl rfl (World.news_of_block (cs := #[.iface tv uv]) (t := 178) (fr := (0, 0)) (heap_alloc_new w4 _)) (by simp [Value.oneCell']) (by decide) (by unfold maxLen; omega) (by omega) (by simp; omega) (w4.heap.size + 1) (by simp) ?_) | fail)
            intro gg cap w6 hown hgrow hat hlt6
            have HF6 := Lib.hid (show RowAt w6 g (closesL L) 3 ∧ PatAt w6 w.heap.size P Q (some ⟨g, 0, none⟩) (P.size + 1) (P.size + 1) ∧ Below w.heap.size w w6 from
              ⟨grown_blk HO4.out hgrow HG4.out (Nat.le_refl _), grown_blk HO4.out hgrow HP4.out (by omega), (HB4.out.alloc HB4.out.size _).grown hgrow (by simp; omega) (fun z hz => by have := (HO4.out.lt z hz).1; omega)⟩)
            rw [HN.out] at hown hgrow hat
            have HR6 := Lib.hid (RowW.more HR4.out HV.out HVA.out hgrow hat hown)
            clear hown hgrow hat hlt6
            go_wp2_with fail
            go_roundw
            case rel => exact ⟨p + p', some ⟨gg, 0, none⟩, cap, r ++ [x], (vs ++ [Value.iface tv uv] : List Value), by rw [List.length_append, ← HN.out]; rfl, by simp, by omega, by have := HN.out; rw [List.length_append]; simp only [List.length_singleton]; omega, HR6, (show RP = _ by have h := HFN.out; rw [HPU.out] at h; exact h), HF6.out.2.1, HF6.out.1, HF6.out.2.2⟩
            case measure => simp only [intOf]; omega
    · have hRL := HFO.out
      rw [show L.drop p = [] from List.drop_eq_nil_of_le (by rw [HLP.out]; omega), raw_nil, List.foldl_nil] at hRL
      have hgk2 : w.heap.size ≤ g + 1 := by omega
      have HRL := Lib.hid hRL
      have hpi : ¬ (p : Int) < (P.size : Int) := by omega
      clear hRL
      go_wp2_with fail
      go_ret
      exact ⟨oa, oc, vs, by rw [HRL.out]; rfl, by rw [HRL.out]; exact HR.out.weak hgk2, HBR.out⟩
end Go.Proofs.YtclhpedecimicaaGreat

namespace Go.Proofs.YtclhpedecimicaaGreat
set_option maxRecDepth 100000
open Go Go.RowKit

/-- What lies at a byte's place: nothing as yet, or the places that take it. -/
def TOk (w : World) (N k ga gs nw : Nat) (r : List Wt) (lim : Nat) (c : UInt8) (v : Value) : Prop :=
  v = .slice none 0 0 ∨ ∃ g ws, v = .slice (some ⟨g, 0, none⟩) nw nw ∧ RowAt w g (wv ws) 128 ∧ g ≠ k ∧ g ≠ ga ∧ (g ≠ gs ∧ N ≤ g) ∧ Small ws ∧ ws.length = nw ∧ ∀ j, bit ws j = (decide (j < lim) && tkAt r j c)
structure Way (w0 w : World) (k ga gs nw : Nat) (oa : Option Addr) (oc : Nat) (r : List Wt) (A S : List Nat) (T : List Value) (lim : UInt8 → Nat) : Prop where
  low : Below w0.heap.size w0 w
  bk : w0.heap.size ≤ k
  ba : w0.heap.size ≤ ga
  bs : w0.heap.size ≤ gs
  box : w.heap[k]? = some (.cells (Value.slice oa r.length oc :: .slice (some ⟨ga, 0, none⟩) nw nw :: .slice (some ⟨gs, 0, none⟩) nw nw :: T).toArray 174 (0, 0))
  tl : T.length = 256
  ra : RowAt w ga (wv A) 128
  rs : RowAt w gs (wv S) 128
  nak : ga ≠ k
  nsk : gs ≠ k
  nas : ga ≠ gs
  la : A.length = nw
  ls : S.length = nw
  hw : nw = r.length / 64 + 1
  sa : Small A
  ss : Small S
  each : ∀ (c : UInt8) (v : Value), T[c.toNat]? = some v → TOk w w0.heap.size k ga gs nw r (lim c) c v
section
variable {w0 w w' : World} {k ga gs nw : Nat} {oa : Option Addr} {oc : Nat} {r : List Wt} {A S A' S' : List Nat} {T : List Value} {lim : UInt8 → Nat}
theorem Way.cells (h : Way w0 w k ga gs nw oa oc r A S T lim) : w.cell? ⟨k, 0, none⟩ = some (.slice oa r.length oc) ∧ w.cell? ⟨k, 1, none⟩ = some (.slice (some ⟨ga, 0, none⟩) nw nw) ∧ w.cell? ⟨k, 2, none⟩ = some (.slice (some ⟨gs, 0, none⟩) nw nw) :=
  ⟨blk_cell h.box 0, blk_cell h.box 1, blk_cell h.box 2⟩
theorem Way.cellT (h : Way w0 w k ga gs nw oa oc r A S T lim) {j : Nat} {v : Value} (hj : T[j]? = some v) : w.cell? ⟨k, 3 + j, none⟩ = some v := by
  rw [blk_cell h.box (3 + j), List.getElem?_toArray, Nat.add_comm]
  exact hj
theorem low_grown {w0 w w' : World} {g : Nat} (h : Below w0.heap.size w0 w) (hb : w0.heap.size ≤ g) (hg : w.grownBy w' (some g)) : Below w0.heap.size w0 w' :=
  ⟨hg.os.trans h.os, hg.tape.trans h.tape, hg.output.trans h.output, Nat.le_trans h.size hg.size, fun i hi => (hg.block i (Nat.lt_of_lt_of_le hi h.size) (fun e => by cases e; omega)).trans (h.block i hi)⟩
theorem grown_at {w w' : World} {g i : Nat} {o : Obj} (hg : w.grownBy w' (some g)) (hi : i ≠ g) (h : w.heap[i]? = some o) : w'.heap[i]? = some o := by
  rw [hg.block i (lt_of_block h) (fun e => hi (by cases e; rfl))]; exact h
theorem Way.setA (h : Way w0 w k ga gs nw oa oc r A S T lim) (hr : RowAt w' ga (wv A') 128) (hg : w.grownBy w' (some ga)) (hl : A'.length = nw) (hs : Small A') : Way w0 w' k ga gs nw oa oc r A' S T lim :=
  ⟨low_grown h.low h.ba hg, h.bk, h.ba, h.bs, grown_at hg (Ne.symm h.nak) h.box, h.tl, hr, grown_at hg (Ne.symm h.nas) h.rs, h.nak, h.nsk, h.nas, hl, h.ls, h.hw, hs, h.ss, fun c v hv => by
    rcases h.each c v hv with h1 | ⟨g, ws, h1, h2, h3, h4, h5, h6⟩
    · exact Or.inl h1
    · exact Or.inr ⟨g, ws, h1, grown_at hg h4 h2, h3, h4, h5, h6⟩⟩
theorem Way.setS (h : Way w0 w k ga gs nw oa oc r A S T lim) (hr : RowAt w' gs (wv S') 128) (hg : w.grownBy w' (some gs)) (hl : S'.length = nw) (hs : Small S') : Way w0 w' k ga gs nw oa oc r A S' T lim :=
  ⟨low_grown h.low h.bs hg, h.bk, h.ba, h.bs, grown_at hg (Ne.symm h.nsk) h.box, h.tl, grown_at hg h.nas h.ra, hr, h.nak, h.nsk, h.nas, h.la, hl, h.hw, h.sa, hs, fun c v hv => by
    rcases h.each c v hv with h1 | ⟨g, ws, h1, h2, h3, h4, h5, h6⟩
    · exact Or.inl h1
    · exact Or.inr ⟨g, ws, h1, grown_at hg h5.1 h2, h3, h4, h5, h6⟩⟩
theorem Way.below (h : Way w0 w k ga gs nw oa oc r A S T lim) (hb : Below w.heap.size w w') : Way w0 w' k ga gs nw oa oc r A S T lim :=
  ⟨below_two h.low hb, h.bk, h.ba, h.bs, kept hb h.box, h.tl, kept hb h.ra, kept hb h.rs, h.nak, h.nsk, h.nas, h.la, h.ls, h.hw, h.sa, h.ss, fun c v hv => by
    rcases h.each c v hv with h1 | ⟨g, ws, h1, h2, h3⟩
    · exact Or.inl h1
    · exact Or.inr ⟨g, ws, h1, kept hb h2, h3⟩⟩
end
theorem word_at {ws : List Nat} {nw n j : Nat} (h : ws.length = nw) (hw : nw = n / 64 + 1) (hj : j ≤ n) : ∃ x, ws[j / 64]? = some x :=
  ⟨ws[j / 64]'(by have := Nat.div_le_div_right (c := 64) hj; omega), List.getElem?_eq_getElem _⟩
theorem len_small {nw n : Nat} (hw : nw = n / 64 + 1) : n < 64 * nw := by omega

def BeginAns (w0 : World) (k ga gs nw : Nat) (oa : Option Addr) (oc : Nat) (r : List Wt) (T : List Value) (lim : UInt8 → Nat) (e : Ending) (w' : World) : Prop :=
  e = .returned (.tuple #[]) ∧ ∃ A S, Way w0 w' k ga gs nw oa oc r A S T lim ∧ (∀ j, bit S j = isRep r j) ∧ ∀ j, j < 64 * nw → (bit A j = true ↔ Np r j [])

set_option maxHeartbeats 8000000 in
theorem lbegin (w0 w : World) (k ga gs nw : Nat) (oa : Option Addr) (oc : Nat) (r : List Wt) (hA : Alone r) (hrl : r.length ≤ 100000) (A S : List Nat) (T vs : List Value) (lim : UInt8 → Nat) (B : Nat) (hR : RowW w0 B oa oc r vs) (hW : Way w0 w k ga gs nw oa oc r A S T lim) (hA0 : ∀ j, bit A j = false) (hS0 : ∀ j, bit S j = false) :
    Calls Tryz.prog 126 #[.pointer (some ⟨k, 0, none⟩)] w (BeginAns w0 k ga gs nw oa oc r T lim) := by
  have HR := Lib.hid hR
  have HA := Lib.hid hA
  have HW := Lib.hid hW
  have HA0 := Lib.hid hA0
  have HS0 := Lib.hid (show ∀ j, bit S j = (decide (j < 0) && isRep r j) from fun j => by rw [hS0]; rfl)
  have HNW := Lib.hid hW.hw
  have hnw : nw ≤ 100000 := by have := hW.hw; omega
  obtain ⟨c0, c1, c2⟩ := hW.cells
  obtain ⟨n, hn⟩ : ∃ n, n = r.length := ⟨_, rfl⟩
  have HN := Lib.hid hn
  have HC := Lib.hid (show ∀ (W : World) (A' S' : List Nat), Way w0 W k ga gs nw oa oc r A' S' T lim → W.cell? ⟨k, 0, none⟩ = some (.slice oa n oc) ∧ W.cell? ⟨k, 1, none⟩ = some (.slice (some ⟨ga, 0, none⟩) nw nw) ∧ W.cell? ⟨k, 2, none⟩ = some (.slice (some ⟨gs, 0, none⟩) nw nw) from fun W A' S' h => by rw [hn]; exact h.cells)
  rw [← hn] at c0 hrl
  clear hR hA hW hA0 hS0 hn
  go_enter Tryz.func126, Tryz.ntmps126
  go_wp2_with fail
  go_loopw [2, 3, 9] (fun _ _ v9 wr => ∃ i S', v9 = .int .i64 ((i : Nat) : Int) ∧ i ≤ n ∧ Hid (Way w0 wr k ga gs nw oa oc r A S' T lim) ∧ Hid (∀ j, bit S' j = (decide (j < i) && isRep r j))) (fun _ _ v9 _ => n - (intOf v9).toNat)
  case atStart => exact ⟨0, S, rfl, Nat.zero_le _, HW, HS0⟩
  case round =>
    obtain ⟨i, S', rfl, hin, HWR, HSR⟩ := hrel
    by_cases hlt : i < n
    · obtain ⟨x, hx⟩ : ∃ x, r[i]? = some x := ⟨r[i]'(by have := HN.out; omega), List.getElem?_eq_getElem _⟩
      obtain ⟨gr, rfl, -, -⟩ := HR.out.some_of (by have := HN.out; omega)
      have hRr := HR.out.below HWR.out.low
      obtain ⟨u, hu, hut⟩ := hRr.each i x hx
      obtain ⟨tu, pu, rfl⟩ := wt_iface hut
      have hcu := own_at hRr.own hu
      have C1 := fun W => lrepeats hut W
      have hii : (i : Int) < (n : Int) := by omega
      have hi0 : (0 : Int) ≤ (i : Int) := by omega
      have HRX := Lib.hid (isRep_at hx)
      cases hxr : x.rep with
      | false =>
        rw [hxr] at C1
        have HSN := Lib.hid (show ∀ j, bit S' j = (decide (j < i + 1) && isRep r j) from fun j => by
          rw [HSR.out]
          by_cases e : j = i
          · subst e; rw [HRX.out, hxr]; simp
          · have : decide (j < i) = decide (j < i + 1) := by rw [decide_eq_decide]; omega
            rw [this])
        clear hRr hu hut hxr hx
        go_wp2_with fail
        refine (C1 _).mono ?_
        rintro e w5 ⟨rfl, rfl⟩
        go_wp2_with fail
        go_roundw
        case rel => exact ⟨i + 1, S', by simp, by omega, HWR, HSN⟩
        case measure => simp only [intOf]; omega
      | true =>
        rw [hxr] at C1
        obtain ⟨y, hy⟩ := word_at HWR.out.ls HNW.out (show i ≤ r.length by have := HN.out; omega)
        have C2 := fun W hW => lput S' HWR.out.ss gs i y nw hy HWR.out.ls.symm hnw W hW
        have HSN := Lib.hid (show ∀ j, bit (S'.set (i / 64) (y ||| 1 <<< (i % 64))) j = (decide (j < i + 1) && isRep r j) from fun j => by
          rw [bit_put hy, HSR.out]
          by_cases e : j = i
          · subst e; rw [HRX.out, hxr]; simp
          · have h1 : decide (j < i) = decide (j < i + 1) := by rw [decide_eq_decide]; omega
            have h2 : decide (j = i) = false := decide_eq_false e
            rw [h1, h2, Bool.or_false])
        have HSM := Lib.hid (And.intro (small_set HWR.out.ss (i / 64) (small_or y i (HWR.out.ss y (List.mem_of_getElem? hy)))) (show (S'.set (i / 64) (y ||| 1 <<< (i % 64))).length = nw by rw [List.length_set]; exact HWR.out.ls))
        obtain ⟨d0, d1, d2⟩ := HC.out wr A S' HWR.out
        clear hRr hu hut hxr hx hy
        go_wp2_with fail
        refine (C1 _).mono ?_
        rintro e w5 ⟨rfl, rfl⟩
        go_wp2_with fail
        refine (C2 _ HWR.out.rs).mono ?_
        rintro e w6 ⟨rfl, hr6, hg6⟩
        have HW6 := Lib.hid (HWR.out.setS hr6 hg6 HSM.out.2 HSM.out.1)
        clear hr6 hg6 d0 d1 d2 hcu
        go_wp2_with fail
        go_roundw
        case rel => exact ⟨i + 1, _, by simp, by omega, HW6, HSN⟩
        case measure => simp only [intOf]; omega
    · have hii : ¬ (i : Int) < (n : Int) := by omega
      have HE := Lib.hid (show i = n by omega)
      obtain ⟨y, hy⟩ := word_at HWR.out.la HNW.out (Nat.zero_le r.length)
      have C2 := fun W hW => lput A HWR.out.sa ga 0 y nw hy HWR.out.la.symm hnw W hW
      have HSM := Lib.hid (And.intro (small_set HWR.out.sa (0 / 64) (small_or y 0 (HWR.out.sa y (List.mem_of_getElem? hy)))) (show (A.set (0 / 64) (y ||| 1 <<< (0 % 64))).length = nw by rw [List.length_set]; exact HWR.out.la))
      have HSJ := Lib.hid (show ∀ j, bit S' j = isRep r j from fun j => by
        rw [HSR.out, HE.out, HN.out]
        by_cases h : j < r.length
        · rw [decide_eq_true h, Bool.true_and]
        · have : isRep r j = false := by unfold isRep; rw [List.getElem?_eq_none (by omega)]
          rw [this, Bool.and_false])
      have HAJ := Lib.hid (show ∀ j, bit (A.set (0 / 64) (y ||| 1 <<< (0 % 64))) j = decide (j = 0) from fun j => by rw [bit_put hy, HA0.out, Bool.false_or])
      obtain ⟨A1, hA1⟩ : ∃ A1, A1 = A.set (0 / 64) (y ||| 1 <<< (0 % 64)) := ⟨_, rfl⟩
      rw [← hA1] at C2 HSM HAJ
      obtain ⟨d0, d1, d2⟩ := HC.out wr A S' HWR.out
      clear hA1 hy
      go_wp2_with fail
      refine (C2 _ HWR.out.ra).mono ?_
      rintro e w6 ⟨rfl, hr6, hg6⟩
      have HW6 := Lib.hid (HWR.out.setA hr6 hg6 HSM.out.2 HSM.out.1)
      have hc6 := HC.out w6 A1 S' HW6.out
      have C3 := lpass A1 S' HSM.out.1 HWR.out.ss (fun j hj => by rw [HSJ.out] at hj ⊢; exact alone_rep HA.out hj) k ga gs nw HSM.out.2.symm HWR.out.ls.symm hnw HWR.out.nak HWR.out.nas w6 hc6.2.1 hc6.2.2 HW6.out.ra HW6.out.rs
      clear hr6 hg6 d0 d1 d2 hc6
      go_wp2_with fail
      refine C3.mono ?_
      rintro e w7 ⟨rfl, ⟨X, c, hX, hrX⟩, hg7⟩
      have HPE := Lib.hid hX
      have HW7 := Lib.hid (HW6.out.setA hrX hg7 (hX.1.trans HSM.out.2) hX.2.1)
      clear hX hrX hg7
      go_wp2_with fail
      go_end0
      refine ⟨rfl, X, S', HW7.out, HSJ.out, fun j hj => ?_⟩
      have h1 := HPE.out
      rw [← HSM.out.2] at h1 hj
      rw [pass_end h1 j hj, np_nil HA.out, HAJ.out, HAJ.out, HSJ.out]
      by_cases hj0 : j = 0
      · subst hj0; simp
      · have hp : decide (0 < j) = true := decide_eq_true (by omega)
        rw [hp, decide_eq_false hj0]
        simp only [Bool.false_or, Bool.true_and, Bool.and_eq_true, decide_eq_true_eq]
        constructor
        · rintro ⟨h1, h2⟩; exact Or.inr ⟨by omega, by rw [← h1]; exact h2⟩
        · rintro (h | ⟨h, h2⟩)
          · omega
          · subst h; exact ⟨rfl, h2⟩
end Go.Proofs.YtclhpedecimicaaGreat

namespace Go.Proofs.YtclhpedecimicaaGreat
set_option maxRecDepth 100000
open Go Go.RowKit

set_option maxHeartbeats 1000000 in
theorem lbitsof (oa : Option Addr) (oc n nw : Nat) (hw : nw = n / 64 + 1) (hn : n ≤ 100000) (w : World) : Calls Tryz.prog 125 #[.slice oa n oc] w fun e w' => e = .returned (.slice (some ⟨w.heap.size, 0, none⟩) nw nw) ∧ w' = w.alloc (.cells (List.replicate nw (.int .u64 0)).toArray 128) := by
  have hmk := run_make_words w ((n : Int) / 64 + 1) nw (by omega) (by omega)
  obtain ⟨w2, hw2⟩ : ∃ w2, w2 = w.alloc (.cells (List.replicate nw (.int .u64 0)).toArray 128) := ⟨_, rfl⟩
  rw [← hw2] at hmk ⊢
  obtain ⟨N, hN⟩ : ∃ N, N = w.heap.size := ⟨_, rfl⟩
  rw [← hN] at hmk ⊢
  clear hw2 hN hw
  go_enter Tryz.func125, Tryz.ntmps125
  go_wp2_with fail
  go_ret
  exact ⟨rfl, rfl⟩

theorem nil_yes (W : World) : (binOp .eql 170 (.slice none 0 0) (.slice none 0 0)).run Tryz.prog W = .ok (.bool true) W := Lib.run_eql_slice_nil W 170 128 none 0 0 0 0 Tryz.underlying170
theorem nil_no (a : Addr) (n cap : Nat) (W : World) : (binOp .eql 170 (.slice (some a) n cap) (.slice none 0 0)).run Tryz.prog W = .ok (.bool false) W := Lib.run_eql_slice_nil W 170 128 (some a) n cap 0 0 Tryz.underlying170
def full (r : List Wt) : UInt8 → Nat := fun _ => r.length
def TakingAns (w0 : World) (k ga gs nw : Nat) (oa : Option Addr) (oc : Nat) (r : List Wt) (A S : List Nat) (c : UInt8) (e : Ending) (w' : World) : Prop :=
  ∃ g ws T, e = .returned (.slice (some ⟨g, 0, none⟩) nw nw) ∧ Way w0 w' k ga gs nw oa oc r A S T (full r) ∧ RowAt w' g (wv ws) 128 ∧ g ≠ k ∧ g ≠ ga ∧ g ≠ gs ∧ Small ws ∧ ws.length = nw ∧ ∀ j, bit ws j = tkAt r j c
theorem lim_tk (r : List Wt) (j : Nat) (c : UInt8) : (decide (j < r.length) && tkAt r j c) = tkAt r j c := by
  by_cases h : j < r.length
  · rw [decide_eq_true h, Bool.true_and]
  · have : tkAt r j c = false := by unfold tkAt; rw [List.getElem?_eq_none (by omega)]
    rw [this, Bool.and_false]
theorem toNat_inj8 {a b : UInt8} (h : a.toNat = b.toNat) : a = b := UInt8.toNat_inj.1 h

theorem set_alloc_grown (w : World) (k j : Nat) (u : Value) (ob : Obj) : (w.alloc ob).grownBy ((w.setCell ⟨k, j, none⟩ u).alloc ob).drew (some k) := by
  refine ⟨rfl, rfl, rfl, ?_, fun i hi hne => ?_⟩
  · show _ ≤ ((w.setCell ⟨k, j, none⟩ u).alloc ob).heap.size
    rw [World.size_alloc, World.size_alloc, set_size]; exact Nat.le_refl _
  · show ((w.setCell ⟨k, j, none⟩ u).alloc ob).heap[i]? = _
    rw [World.size_alloc] at hi
    by_cases e : i = w.heap.size
    · subst e
      rw [new_block]
      have := new_block (w.setCell ⟨k, j, none⟩ u) ob
      rw [set_size] at this
      exact this
    · rw [Below.heap_alloc _ _ _ (by rw [set_size]; omega), Below.heap_alloc _ _ _ (by omega)]
      exact Below.heap_setCell _ _ _ _ (fun e => hne (by rw [e]))
/-- A new row of bits at a byte's place. -/
def only (r : List Wt) (c : UInt8) (i : Nat) : UInt8 → Nat := fun d => if d = c then i else r.length
theorem Way.fresh {w0 w w3 : World} {k ga gs nw : Nat} {oa : Option Addr} {oc : Nat} {r : List Wt} {A S : List Nat} {T : List Value} {c : UInt8} (h : Way w0 w k ga gs nw oa oc r A S T (full r))
    (hw3 : w3 = ((w.setCell ⟨k, 3 + c.toNat, none⟩ (.slice (some ⟨w.heap.size, 0, none⟩) nw nw)).alloc (.cells (Array.replicate nw (.int .u64 0)) 128)).drew) :
    Way w0 w3 k ga gs nw oa oc r A S (T.set c.toNat (.slice (some ⟨w.heap.size, 0, none⟩) nw nw)) (only r c 0) ∧ RowAt w3 w.heap.size (wv (List.replicate nw 0)) 128 := by
  have hk := lt_of_block h.box
  have hka := h.ra.lt
  have hks := h.rs.lt
  have hb : Below w.heap.size w (w.alloc (.cells (List.replicate nw (.int .u64 0)).toArray 128)) := below_box _ _
  have hg : (w.alloc (.cells (List.replicate nw (.int .u64 0)).toArray 128)).grownBy w3 (some k) := by
    have h := set_alloc_grown w k (3 + c.toNat) (.slice (some ⟨w.heap.size, 0, none⟩) nw nw) (.cells (Array.replicate nw (.int .u64 0)) 128)
    rw [hw3, List.toArray_replicate]; exact h
  have h1 := h.below hb
  have hrow : RowAt w3 w.heap.size (wv (List.replicate nw 0)) 128 := by
    refine grown_at hg (by omega) ?_
    rw [new_block]
    unfold wv
    rw [List.map_replicate]; rfl
  refine ⟨⟨low_grown h1.low h.bk hg, h.bk, h.ba, h.bs, ?_, by rw [List.length_set]; exact h.tl, grown_at hg h.nak h1.ra, grown_at hg h.nsk h1.rs, h.nak, h.nsk, h.nas, h.la, h.ls, h.hw, h.sa, h.ss, fun d v hd => ?_⟩, hrow⟩
  · rw [hw3]
    show ((w.setCell ⟨k, 3 + c.toNat, none⟩ (.slice (some ⟨w.heap.size, 0, none⟩) nw nw)).alloc _).heap[k]? = _
    rw [Below.heap_alloc _ _ _ (by rw [set_size]; exact hk)]
    have := blk_set h.box (3 + c.toNat) (.slice (some ⟨w.heap.size, 0, none⟩) nw nw)
    rw [List.setIfInBounds_toArray, show 3 + c.toNat = c.toNat + 1 + 1 + 1 by omega, List.set_cons_succ, List.set_cons_succ, List.set_cons_succ] at this
    rw [show 3 + c.toNat = c.toNat + 1 + 1 + 1 by omega]
    exact this
  · rw [List.getElem?_set] at hd
    by_cases e : c.toNat = d.toNat
    · rw [if_pos e] at hd
      split at hd
      · cases hd
        refine Or.inr ⟨_, _, rfl, hrow, by omega, by omega, ⟨by omega, h.low.size⟩, small_zero _, by simp, fun j => ?_⟩
        have hdc : d = c := toNat_inj8 e.symm
        rw [bit_zero]; unfold only; rw [if_pos hdc]; simp
      · cases hd
    · rw [if_neg e] at hd
      have hdc : d ≠ c := fun e2 => e (by rw [e2])
      rcases h1.each d v hd with h2 | ⟨g, ws, h2, h3, h4, h5, h6, h7, h8, h9⟩
      · exact Or.inl h2
      · refine Or.inr ⟨g, ws, h2, grown_at hg h4 h3, h4, h5, h6, h7, h8, fun j => ?_⟩
        rw [h9]; unfold only full; rw [if_neg hdc]
/-- A bit more in it. -/
theorem Way.bitmore {w0 w w' : World} {k ga gs nw gt i : Nat} {oa : Option Addr} {oc : Nat} {r : List Wt} {A S ws' : List Nat} {T : List Value} {c : UInt8} (h : Way w0 w k ga gs nw oa oc r A S T (only r c i))
    (hT : T[c.toNat]? = some (.slice (some ⟨gt, 0, none⟩) nw nw)) (hgt : w0.heap.size ≤ gt) (hgk : gt ≠ k) (hga : gt ≠ ga) (hgs : gt ≠ gs) (hd : ∀ (d : UInt8) (g : Nat), d ≠ c → T[d.toNat]? = some (.slice (some ⟨g, 0, none⟩) nw nw) → g ≠ gt)
    (hg : w.grownBy w' (some gt)) (hr : RowAt w' gt (wv ws') 128) (hs : Small ws') (hl : ws'.length = nw) (hb : ∀ j, bit ws' j = (decide (j < i + 1) && tkAt r j c)) : Way w0 w' k ga gs nw oa oc r A S T (only r c (i + 1)) := by
  refine ⟨low_grown h.low hgt hg, h.bk, h.ba, h.bs, grown_at hg (Ne.symm hgk) h.box, h.tl, grown_at hg (Ne.symm hga) h.ra, grown_at hg (Ne.symm hgs) h.rs, h.nak, h.nsk, h.nas, h.la, h.ls, h.hw, h.sa, h.ss, fun d v hv => ?_⟩
  by_cases e : d = c
  · subst e
    rw [hT] at hv
    cases hv
    refine Or.inr ⟨gt, ws', rfl, hr, hgk, hga, ⟨hgs, hgt⟩, hs, hl, fun j => ?_⟩
    rw [hb]; unfold only; rw [if_pos rfl]
  · rcases h.each d v hv with h2 | ⟨g, ws, h2, h3, h4, h5, h6, h7, h8, h9⟩
    · exact Or.inl h2
    · refine Or.inr ⟨g, ws, h2, grown_at hg (hd d g e (by rw [← h2]; exact hv)) h3, h4, h5, h6, h7, h8, fun j => ?_⟩
      rw [h9]; unfold only; rw [if_neg e, if_neg e]
theorem Way.nomore {w0 w : World} {k ga gs nw i : Nat} {oa : Option Addr} {oc : Nat} {r : List Wt} {A S : List Nat} {T : List Value} {c : UInt8} (h : Way w0 w k ga gs nw oa oc r A S T (only r c i)) (hi : tkAt r i c = false) : Way w0 w k ga gs nw oa oc r A S T (only r c (i + 1)) := by
  refine ⟨h.low, h.bk, h.ba, h.bs, h.box, h.tl, h.ra, h.rs, h.nak, h.nsk, h.nas, h.la, h.ls, h.hw, h.sa, h.ss, fun d v hv => ?_⟩
  rcases h.each d v hv with h2 | ⟨g, ws, h2, h3, h4, h5, h6, h7, h8, h9⟩
  · exact Or.inl h2
  · refine Or.inr ⟨g, ws, h2, h3, h4, h5, h6, h7, h8, fun j => ?_⟩
    rw [h9]; unfold only
    split
    · rename_i e
      subst e
      by_cases e2 : j = i
      · subst e2; rw [hi]; simp
      · have : decide (j < i) = decide (j < i + 1) := by rw [decide_eq_decide]; omega
        rw [this]
    · rfl
theorem Way.done {w0 w : World} {k ga gs nw : Nat} {oa : Option Addr} {oc : Nat} {r : List Wt} {A S : List Nat} {T : List Value} {c : UInt8} (h : Way w0 w k ga gs nw oa oc r A S T (only r c r.length)) : Way w0 w k ga gs nw oa oc r A S T (full r) := by
  refine ⟨h.low, h.bk, h.ba, h.bs, h.box, h.tl, h.ra, h.rs, h.nak, h.nsk, h.nas, h.la, h.ls, h.hw, h.sa, h.ss, fun d v hv => ?_⟩
  have := h.each d v hv
  unfold only at this
  unfold full
  split at this <;> exact this

set_option maxHeartbeats 16000000 in
theorem ltaking (w0 w : World) (k ga gs nw : Nat) (oa : Option Addr) (oc : Nat) (r : List Wt) (hrl : r.length ≤ 100000) (hok : ∀ x ∈ r, x.fine) (A S : List Nat) (T vs : List Value) (B : Nat) (hR : RowW w0 B oa oc r vs) (c : UInt8) (x : Int) (hx : x = (c.toNat : Int)) (hW : Way w0 w k ga gs nw oa oc r A S T (full r)) :
    Calls Tryz.prog 135 #[.pointer (some ⟨k, 0, none⟩), .int .u8 x] w (TakingAns w0 k ga gs nw oa oc r A S c) := by
  subst hx
  have hc8 : c.toNat < 256 := c.toNat_lt
  obtain ⟨v, hv⟩ : ∃ v, T[c.toNat]? = some v := ⟨T[c.toNat]'(by rw [hW.tl]; exact hc8), List.getElem?_eq_getElem _⟩
  have hcT := hW.cellT hv
  have hci : (c.toNat : Int) < 256 := by omega
  have hc0 : (0 : Int) ≤ (c.toNat : Int) := by omega
  rcases hW.each c v hv with rfl | ⟨g, ws, rfl, h2, h3, h4, h5, h6, h7, h8⟩
  · -- not met as yet
    have HR := Lib.hid hR
    have HOK := Lib.hid hok
    have HW := Lib.hid hW
    have HWF := Lib.hid (fun w3 h => Way.fresh (c := c) (w3 := w3) hW h)
    have HV := Lib.hid hv
    have hnw : nw ≤ 100000 := by have := hW.hw; omega
    have HNW := Lib.hid hW.hw
    obtain ⟨c0, c1, c2⟩ := hW.cells
    have hkl := lt_of_block hW.box
    obtain ⟨n, hn⟩ : ∃ n, n = r.length := ⟨_, rfl⟩
    have HN := Lib.hid hn
    rw [← hn] at c0 hrl
    have C0 := fun W => lbitsof oa oc n nw (by rw [hn]; exact hW.hw) hrl W
    have hyes := nil_yes
    clear hR hok hW hv hn
    go_enter Tryz.func135, Tryz.ntmps135
    go_upto_region 2 with fail
    have hfz := blk_free HW.out.box (3 + c.toNat)
    go_region_law (first | (go_simp; go_at_call 125; refine (C0 _).mono ?_; rintro e wn ⟨rfl, rfl⟩))
    obtain ⟨w3, hw3⟩ : ∃ w3, w3 = ((w.setCell ⟨k, 3 + c.toNat, none⟩ (.slice (some ⟨w.heap.size, 0, none⟩) nw nw)).alloc (.cells (Array.replicate nw (.int .u64 0)) 128)).drew := ⟨_, rfl⟩
    rw [← hw3]
    obtain ⟨hW3, hR3⟩ := HWF.out w3 hw3
    have hkl2 : c.toNat < T.length := by rw [HW.out.tl]; exact hc8
    have HT := Lib.hid (show (T.set c.toNat (.slice (some ⟨w.heap.size, 0, none⟩) nw nw))[c.toNat]? = some (.slice (some ⟨w.heap.size, 0, none⟩) nw nw) ∧ w0.heap.size ≤ w.heap.size ∧ w.heap.size ≠ k ∧ w.heap.size ≠ ga ∧ w.heap.size ≠ gs ∧ ∀ (d : UInt8) (g : Nat), d ≠ c → (T.set c.toNat (.slice (some ⟨w.heap.size, 0, none⟩) nw nw))[d.toNat]? = some (.slice (some ⟨g, 0, none⟩) nw nw) → g ≠ w.heap.size from
      ⟨List.getElem?_set_self hkl2, HW.out.low.size, by omega, by have := HW.out.ra.lt; omega, by have := HW.out.rs.lt; omega, fun d g hd h => by
        rw [List.getElem?_set_ne (fun e => hd (toNat_inj8 e.symm))] at h
        rcases HW.out.each d _ h with h1 | ⟨g', ws, h1, h2, -⟩
        · cases h1
        · cases h1
          have := h2.lt
          omega⟩)
    have HW3 := Lib.hid hW3
    have HR3 := Lib.hid hR3
    obtain ⟨G, hG⟩ : ∃ G, G = w.heap.size := ⟨_, rfl⟩
    rw [← hG] at HT HW3 HR3 ⊢
    obtain ⟨T', hT'⟩ : ∃ T', T' = T.set c.toNat (.slice (some ⟨G, 0, none⟩) nw nw) := ⟨_, rfl⟩
    rw [← hT'] at HT HW3
    have HC := Lib.hid (show ∀ (W : World) (lim : UInt8 → Nat), Way w0 W k ga gs nw oa oc r A S T' lim → W.cell? ⟨k, 0, none⟩ = some (.slice oa n oc) ∧ W.cell? ⟨k, 3 + c.toNat, none⟩ = some (.slice (some ⟨G, 0, none⟩) nw nw) from fun W lim h => ⟨by have := h.cells.1; rw [← HN.out] at this; exact this, h.cellT HT.out.1⟩)
    have HB0 := Lib.hid (show ∀ j, bit (List.replicate nw 0) j = (decide (j < 0) && tkAt r j c) from fun j => by rw [bit_zero]; simp)
    have HS0 := Lib.hid (And.intro (small_zero nw) (show (List.replicate nw 0).length = nw by simp))
    obtain ⟨c0, cT⟩ := HC.out w3 _ HW3.out
    clear hw3 hW3 hR3 hG hT' hcT hfz c1 c2 hkl HWF HW HV
    go_wp2_with fail
    go_loopw [5, 6, 29] (fun _ _ v29 wr => ∃ i ws, v29 = .int .i64 ((i : Nat) : Int) ∧ i ≤ n ∧ Hid (Way w0 wr k ga gs nw oa oc r A S T' (only r c i)) ∧ Hid (RowAt wr G (wv ws) 128) ∧ Hid (∀ j, bit ws j = (decide (j < i) && tkAt r j c)) ∧ Hid (Small ws ∧ ws.length = nw)) (fun _ _ v29 _ => n - (intOf v29).toNat)
    case atStart => exact ⟨0, _, rfl, Nat.zero_le _, HW3, HR3, HB0, HS0⟩
    case round =>
      obtain ⟨i, ws, rfl, hin, HWR, HRR, HBS, HSM⟩ := hrel
      by_cases hlt : i < n
      · obtain ⟨x, hx⟩ : ∃ x, r[i]? = some x := ⟨r[i]'(by have := HN.out; omega), List.getElem?_eq_getElem _⟩
        obtain ⟨gr, rfl, -, -⟩ := HR.out.some_of (by have := HN.out; omega)
        have hRr := HR.out.below HWR.out.low
        obtain ⟨u, hu, hut⟩ := hRr.each i x hx
        have hcu := own_at hRr.own hu
        have hii : (i : Int) < (n : Int) := by omega
        have hi0 : (0 : Int) ≤ (i : Int) := by omega
        have HRX := Lib.hid hx
        clear hRr hu hx
        cases x with
        | one =>
          obtain rfl := hut
          have C1 := fun W (_ : True) => lone (c.toNat : Int) W
          have HCW := Lib.hid trivial
          cases htk : (Wt.one).tk c with
          | false => cases htk
          | true =>
            skip
            obtain ⟨y, hy⟩ := word_at HSM.out.2 HNW.out (show i ≤ r.length by have := HN.out; omega)
            have C2 := fun W hW => lput ws HSM.out.1 G i y nw hy HSM.out.2.symm hnw W hW
            have HBN := Lib.hid (show ∀ j, bit (ws.set (i / 64) (y ||| 1 <<< (i % 64))) j = (decide (j < i + 1) && tkAt r j c) from fun j => by
              rw [bit_put hy, HBS.out]
              by_cases e2 : j = i
              · subst e2; rw [tkAt_at HRX.out, htk]; simp
              · have h1 : decide (j < i) = decide (j < i + 1) := by rw [decide_eq_decide]; omega
                have h2 : decide (j = i) = false := decide_eq_false e2
                rw [h1, h2, Bool.or_false])
            have HSN := Lib.hid (And.intro (small_set HSM.out.1 (i / 64) (small_or y i (HSM.out.1 y (List.mem_of_getElem? hy)))) (show (ws.set (i / 64) (y ||| 1 <<< (i % 64))).length = nw by rw [List.length_set]; exact HSM.out.2))
            clear htk hy
            go_wp2_with fail
            refine (C1 _ HCW.out).mono ?_
            rintro e w5 ⟨rfl, hb⟩
            have HW5 := Lib.hid (HWR.out.below hb)
            have HR5 := Lib.hid (HRR.out.below hb)
            obtain ⟨d0, dT⟩ := HC.out w5 _ HW5.out
            clear hb hcu
            go_wp2_with fail
            refine (C2 _ HR5.out).mono ?_
            rintro e w6 ⟨rfl, hr6, hg6⟩
            have HW6 := Lib.hid (HW5.out.bitmore HT.out.1 HT.out.2.1 HT.out.2.2.1 HT.out.2.2.2.1 HT.out.2.2.2.2.1 HT.out.2.2.2.2.2 hg6 hr6 HSN.out.1 HSN.out.2 HBN.out)
            have HR6 := Lib.hid hr6
            clear hr6 hg6 d0 dT
            go_wp2_with fail
            go_roundw
            case rel => exact ⟨i + 1, _, by simp, by omega, HW6, HR6, HBN, HSN⟩
            case measure => simp only [intOf]; omega
        | many =>
          obtain rfl := hut
          have C1 := fun W (_ : True) => lmany (c.toNat : Int) W
          have HCW := Lib.hid trivial
          cases htk : (Wt.many).tk c with
          | false => cases htk
          | true =>
            skip
            obtain ⟨y, hy⟩ := word_at HSM.out.2 HNW.out (show i ≤ r.length by have := HN.out; omega)
            have C2 := fun W hW => lput ws HSM.out.1 G i y nw hy HSM.out.2.symm hnw W hW
            have HBN := Lib.hid (show ∀ j, bit (ws.set (i / 64) (y ||| 1 <<< (i % 64))) j = (decide (j < i + 1) && tkAt r j c) from fun j => by
              rw [bit_put hy, HBS.out]
              by_cases e2 : j = i
              · subst e2; rw [tkAt_at HRX.out, htk]; simp
              · have h1 : decide (j < i) = decide (j < i + 1) := by rw [decide_eq_decide]; omega
                have h2 : decide (j = i) = false := decide_eq_false e2
                rw [h1, h2, Bool.or_false])
            have HSN := Lib.hid (And.intro (small_set HSM.out.1 (i / 64) (small_or y i (HSM.out.1 y (List.mem_of_getElem? hy)))) (show (ws.set (i / 64) (y ||| 1 <<< (i % 64))).length = nw by rw [List.length_set]; exact HSM.out.2))
            clear htk hy
            go_wp2_with fail
            refine (C1 _ HCW.out).mono ?_
            rintro e w5 ⟨rfl, hb⟩
            have HW5 := Lib.hid (HWR.out.below hb)
            have HR5 := Lib.hid (HRR.out.below hb)
            obtain ⟨d0, dT⟩ := HC.out w5 _ HW5.out
            clear hb hcu
            go_wp2_with fail
            refine (C2 _ HR5.out).mono ?_
            rintro e w6 ⟨rfl, hr6, hg6⟩
            have HW6 := Lib.hid (HW5.out.bitmore HT.out.1 HT.out.2.1 HT.out.2.2.1 HT.out.2.2.2.1 HT.out.2.2.2.2.1 HT.out.2.2.2.2.2 hg6 hr6 HSN.out.1 HSN.out.2 HBN.out)
            have HR6 := Lib.hid hr6
            clear hr6 hg6 d0 dT
            go_wp2_with fail
            go_roundw
            case rel => exact ⟨i + 1, _, by simp, by omega, HW6, HR6, HBN, HSN⟩
            case measure => simp only [intOf]; omega
        | span a b =>
          obtain rfl := hut
          have C1 := fun W (_ : True) => lspan a b c W
          have HCW := Lib.hid trivial
          cases htk : (Wt.span a b).tk c with
          | false =>
            rw [show (decide (a.toNat ≤ c.toNat) && decide (c.toNat ≤ b.toNat)) = _ from htk] at C1
            have HWN := Lib.hid (HWR.out.nomore (by rw [tkAt_at HRX.out]; exact htk))
            have HBN := Lib.hid (show ∀ j, bit ws j = (decide (j < i + 1) && tkAt r j c) from fun j => by
              rw [HBS.out]
              by_cases e2 : j = i
              · subst e2; rw [tkAt_at HRX.out, htk]; simp
              · have : decide (j < i) = decide (j < i + 1) := by rw [decide_eq_decide]; omega
                rw [this])
            clear htk
            go_wp2_with fail
            refine (C1 _ HCW.out).mono ?_
            rintro e w5 ⟨rfl, hb⟩
            have HW5 := Lib.hid (HWN.out.below hb)
            have HR5 := Lib.hid (HRR.out.below hb)
            clear hb hcu
            go_wp2_with fail
            go_roundw
            case rel => exact ⟨i + 1, ws, by simp, by omega, HW5, HR5, HBN, HSM⟩
            case measure => simp only [intOf]; omega
          | true =>
            rw [show (decide (a.toNat ≤ c.toNat) && decide (c.toNat ≤ b.toNat)) = _ from htk] at C1
            obtain ⟨y, hy⟩ := word_at HSM.out.2 HNW.out (show i ≤ r.length by have := HN.out; omega)
            have C2 := fun W hW => lput ws HSM.out.1 G i y nw hy HSM.out.2.symm hnw W hW
            have HBN := Lib.hid (show ∀ j, bit (ws.set (i / 64) (y ||| 1 <<< (i % 64))) j = (decide (j < i + 1) && tkAt r j c) from fun j => by
              rw [bit_put hy, HBS.out]
              by_cases e2 : j = i
              · subst e2; rw [tkAt_at HRX.out, htk]; simp
              · have h1 : decide (j < i) = decide (j < i + 1) := by rw [decide_eq_decide]; omega
                have h2 : decide (j = i) = false := decide_eq_false e2
                rw [h1, h2, Bool.or_false])
            have HSN := Lib.hid (And.intro (small_set HSM.out.1 (i / 64) (small_or y i (HSM.out.1 y (List.mem_of_getElem? hy)))) (show (ws.set (i / 64) (y ||| 1 <<< (i % 64))).length = nw by rw [List.length_set]; exact HSM.out.2))
            clear htk hy
            go_wp2_with fail
            refine (C1 _ HCW.out).mono ?_
            rintro e w5 ⟨rfl, hb⟩
            have HW5 := Lib.hid (HWR.out.below hb)
            have HR5 := Lib.hid (HRR.out.below hb)
            obtain ⟨d0, dT⟩ := HC.out w5 _ HW5.out
            clear hb hcu
            go_wp2_with fail
            refine (C2 _ HR5.out).mono ?_
            rintro e w6 ⟨rfl, hr6, hg6⟩
            have HW6 := Lib.hid (HW5.out.bitmore HT.out.1 HT.out.2.1 HT.out.2.2.1 HT.out.2.2.2.1 HT.out.2.2.2.2.1 HT.out.2.2.2.2.2 hg6 hr6 HSN.out.1 HSN.out.2 HBN.out)
            have HR6 := Lib.hid hr6
            clear hr6 hg6 d0 dT
            go_wp2_with fail
            go_roundw
            case rel => exact ⟨i + 1, _, by simp, by omega, HW6, HR6, HBN, HSN⟩
            case measure => simp only [intOf]; omega
        | set t l =>
          obtain ⟨oa', oc', rfl, hos⟩ := hut
          have HOS := Lib.hid hos
          have hfi := HOK.out _ (List.mem_of_getElem? HRX.out)
          have C1 := fun W hW => lset_takes t l hfi.2 hfi.1 c oa' oc' B W hW
          have HCW := Lib.hid hos
          clear hos hfi
          cases htk : (Wt.set t l).tk c with
          | false =>
            rw [show ((l.any fun m => m.tk c) != t) = _ from htk] at C1
            have HWN := Lib.hid (HWR.out.nomore (by rw [tkAt_at HRX.out]; exact htk))
            have HBN := Lib.hid (show ∀ j, bit ws j = (decide (j < i + 1) && tkAt r j c) from fun j => by
              rw [HBS.out]
              by_cases e2 : j = i
              · subst e2; rw [tkAt_at HRX.out, htk]; simp
              · have : decide (j < i) = decide (j < i + 1) := by rw [decide_eq_decide]; omega
                rw [this])
            clear htk
            go_wp2_with fail
            refine (C1 _ HCW.out).mono ?_
            rintro e w5 ⟨rfl, hb⟩
            have HW5 := Lib.hid (HWN.out.below hb)
            have HR5 := Lib.hid (HRR.out.below hb)
            clear hb hcu
            go_wp2_with fail
            go_roundw
            case rel => exact ⟨i + 1, ws, by simp, by omega, HW5, HR5, HBN, HSM⟩
            case measure => simp only [intOf]; omega
          | true =>
            rw [show ((l.any fun m => m.tk c) != t) = _ from htk] at C1
            obtain ⟨y, hy⟩ := word_at HSM.out.2 HNW.out (show i ≤ r.length by have := HN.out; omega)
            have C2 := fun W hW => lput ws HSM.out.1 G i y nw hy HSM.out.2.symm hnw W hW
            have HBN := Lib.hid (show ∀ j, bit (ws.set (i / 64) (y ||| 1 <<< (i % 64))) j = (decide (j < i + 1) && tkAt r j c) from fun j => by
              rw [bit_put hy, HBS.out]
              by_cases e2 : j = i
              · subst e2; rw [tkAt_at HRX.out, htk]; simp
              · have h1 : decide (j < i) = decide (j < i + 1) := by rw [decide_eq_decide]; omega
                have h2 : decide (j = i) = false := decide_eq_false e2
                rw [h1, h2, Bool.or_false])
            have HSN := Lib.hid (And.intro (small_set HSM.out.1 (i / 64) (small_or y i (HSM.out.1 y (List.mem_of_getElem? hy)))) (show (ws.set (i / 64) (y ||| 1 <<< (i % 64))).length = nw by rw [List.length_set]; exact HSM.out.2))
            clear htk hy
            go_wp2_with fail
            refine (C1 _ HCW.out).mono ?_
            rintro e w5 ⟨rfl, hb⟩
            have HW5 := Lib.hid (HWR.out.below hb)
            have HR5 := Lib.hid (HRR.out.below hb)
            obtain ⟨d0, dT⟩ := HC.out w5 _ HW5.out
            clear hb hcu
            go_wp2_with fail
            refine (C2 _ HR5.out).mono ?_
            rintro e w6 ⟨rfl, hr6, hg6⟩
            have HW6 := Lib.hid (HW5.out.bitmore HT.out.1 HT.out.2.1 HT.out.2.2.1 HT.out.2.2.2.1 HT.out.2.2.2.2.1 HT.out.2.2.2.2.2 hg6 hr6 HSN.out.1 HSN.out.2 HBN.out)
            have HR6 := Lib.hid hr6
            clear hr6 hg6 d0 dT
            go_wp2_with fail
            go_roundw
            case rel => exact ⟨i + 1, _, by simp, by omega, HW6, HR6, HBN, HSN⟩
            case measure => simp only [intOf]; omega
      · have hii : ¬ (i : Int) < (n : Int) := by omega
        have hin2 : i = r.length := by have := HN.out; omega
        have HANS := Lib.hid (show TakingAns w0 k ga gs nw oa oc r A S c (.returned (.slice (some ⟨G, 0, none⟩) nw nw)) wr from ⟨G, ws, T', rfl, by
          have h := HWR.out
          rw [hin2] at h
          exact h.done, HRR.out, HT.out.2.2.1, HT.out.2.2.2.1, HT.out.2.2.2.2.1, HSM.out.1, HSM.out.2, fun j => by rw [HBS.out, hin2]; exact lim_tk r j c⟩)
        obtain ⟨d0, dT⟩ := HC.out wr _ HWR.out
        clear hin2
        go_wp2_with fail
        go_ret
        exact HANS.out
  · have HANS := Lib.hid (show TakingAns w0 k ga gs nw oa oc r A S c (.returned (.slice (some ⟨g, 0, none⟩) nw nw)) w from ⟨g, ws, T, rfl, hW, h2, h3, h4, h5.1, h6, h7, fun j => by rw [h8]; exact lim_tk r j c⟩)
    have hno := nil_no
    clear hW hR hok h2 h3 h4 h5 h6 h7 h8 hv
    go_enter Tryz.func135, Tryz.ntmps135
    go_wp2_with fail
    go_ret
    exact HANS.out
end Go.Proofs.YtclhpedecimicaaGreat

namespace Go.Proofs.YtclhpedecimicaaGreat
set_option maxRecDepth 100000
open Go Go.RowKit

theorem bits_andNot (a b : Nat) (ha : a < 18446744073709551616) (hb : b < 18446744073709551616) : bits .andNot .u64 (a : Int) (b : Int) = ((a &&& (18446744073709551615 - b) : Nat) : Int) := by
  have hx : a &&& (18446744073709551615 - b) < 2 ^ 64 := Nat.and_lt_two_pow _ (by omega)
  have h1 : (BitVec.ofInt 64 (a : Int)).toNat = a := by
    rw [BitVec.ofInt_natCast, BitVec.toNat_ofNat]; exact Nat.mod_eq_of_lt (by omega)
  have h2 : (BitVec.ofInt 64 (b : Int)).toNat = b := by
    rw [BitVec.ofInt_natCast, BitVec.toNat_ofNat]; exact Nat.mod_eq_of_lt (by omega)
  show IntKind.u64.wrap ((BitVec.ofInt 64 (a : Int) &&& ~~~ BitVec.ofInt 64 (b : Int)).toNat : Int) = _
  rw [BitVec.toNat_and, BitVec.toNat_not, h1, h2, IntKind.wrap_u64]
  show ((a &&& (18446744073709551615 - b) : Nat) : Int) % 18446744073709551616 = _
  omega
theorem not_bit (b k : Nat) (hb : b < 18446744073709551616) (hk : k < 64) : (18446744073709551615 - b).testBit k = !b.testBit k := by
  have h := Nat.testBit_two_pow_sub_succ (x := b) (n := 64) hb k
  rw [show 2 ^ 64 - (b + 1) = 18446744073709551615 - b by omega] at h
  rw [h, decide_eq_true hk, Bool.true_and]

/-- The places behind a byte, bit by bit. -/
def onB (A S W : List Nat) (j : Nat) : Bool := (bit A j && bit W j) && !bit S j
def apB (A S W : List Nat) (j : Nat) : Bool := ((bit A j && bit W j) && bit S j) || (decide (0 < j) && onB A S W (j - 1))
def TakeI (A S W : List Nat) (i : Nat) (X : List Nat) (c : Bool) (left : Nat) : Prop :=
  X.length = A.length ∧ Small X ∧ c = (decide (0 < i) && onB A S W (64 * i - 1)) ∧ (∀ j, bit X j = if j < 64 * i then apB A S W j else bit A j) ∧ left < 18446744073709551616 ∧ (left = 0 ↔ ∀ j, j < 64 * i → apB A S W j = false)
theorem take_start (A S W : List Nat) (h : Small A) : TakeI A S W 0 A false 0 := ⟨rfl, h, rfl, fun j => by rw [if_neg (by omega)], by omega, by simp⟩
theorem zero_bits {x : Nat} (hx : x < 18446744073709551616) (h : ∀ k, k < 64 → x.testBit k = false) : x = 0 := by
  apply Nat.eq_of_testBit_eq
  intro k
  rw [Nat.zero_testBit]
  by_cases hk : k < 64
  · exact h k hk
  · refine Nat.testBit_lt_two_pow (Nat.lt_of_lt_of_le hx ?_)
    have : 2 ^ 64 ≤ 2 ^ k := Nat.pow_le_pow_right (by omega) (by omega)
    exact this
theorem take_next {A S W X : List Nat} {i x s t left : Nat} {c : Bool} (h : TakeI A S W i X c left) (hx : X[i]? = some x) (hs : S[i]? = some s) (ht : W[i]? = some t) (_hx64 : x < 18446744073709551616) (hs64 : s < 18446744073709551616) (_ht64 : t < 18446744073709551616) :
    TakeI A S W (i + 1) (X.set i ((((x &&& t) &&& s) ||| sh1 ((x &&& t) &&& (18446744073709551615 - s))) ||| c.toNat)) (((x &&& t) &&& (18446744073709551615 - s)).testBit 63) (left ||| ((((x &&& t) &&& s) ||| sh1 ((x &&& t) &&& (18446744073709551615 - s))) ||| c.toNat)) := by
  obtain ⟨h1, h2, h3, h4, h5, h6⟩ := h
  have hi : i < X.length := (List.getElem?_eq_some_iff.1 hx).1
  have hc1 : c.toNat < 18446744073709551616 := by cases c <;> decide
  have hxA : ∀ k, k < 64 → x.testBit k = bit A (64 * i + k) := by
    intro k hk
    rw [← bit_word hx hk, h4, if_neg (by omega)]
  have hsS : ∀ k, k < 64 → s.testBit k = bit S (64 * i + k) := fun k hk => (bit_word hs hk).symm
  have htW : ∀ k, k < 64 → t.testBit k = bit W (64 * i + k) := fun k hk => (bit_word ht hk).symm
  have hon : ∀ k, k < 64 → ((x &&& t) &&& (18446744073709551615 - s)).testBit k = onB A S W (64 * i + k) := by
    intro k hk
    rw [Nat.testBit_and, Nat.testBit_and, not_bit _ _ hs64 hk, hxA k hk, hsS k hk, htW k hk]; rfl
  obtain ⟨y, hy⟩ : ∃ y, y = (((x &&& t) &&& s) ||| sh1 ((x &&& t) &&& (18446744073709551615 - s))) ||| c.toNat := ⟨_, rfl⟩
  have hy64 : y < 18446744073709551616 := by
    have h7 : (x &&& t) &&& s < 2 ^ 64 := Nat.and_lt_two_pow _ hs64
    have h8 : ((x &&& t) &&& s) ||| sh1 ((x &&& t) &&& (18446744073709551615 - s)) < 2 ^ 64 := Nat.or_lt_two_pow h7 (sh1_small _)
    have h9 : y < 2 ^ 64 := by rw [hy]; exact Nat.or_lt_two_pow h8 hc1
    exact h9
  have hyb : ∀ k, k < 64 → y.testBit k = apB A S W (64 * i + k) := by
    intro k hk
    rw [hy, or_toNat_bit, Nat.testBit_or, Nat.testBit_and, Nat.testBit_and, sh1_bit _ _ hk, hxA k hk, hsS k hk, htW k hk]
    unfold apB
    by_cases hk0 : k = 0
    · subst hk0
      simp only [Nat.lt_irrefl, decide_false, Bool.false_and, Bool.or_false, decide_true, Bool.and_true, h3]
      congr 1
      by_cases hi0 : 0 < i
      · simp [hi0]
      · have : i = 0 := by omega
        subst this; rfl
    · rw [hon (k - 1) (by omega), show 64 * i + (k - 1) = 64 * i + k - 1 by omega]
      have hp : decide (0 < 64 * i + k) = true := decide_eq_true (by omega)
      simp [hk0, Nat.pos_of_ne_zero hk0, hp]
  rw [← hy]
  refine ⟨by rw [List.length_set]; exact h1, small_set h2 _ hy64, ?_, fun j => ?_, ?_, ?_⟩
  · rw [hon 63 (by omega), show 64 * (i + 1) - 1 = 64 * i + 63 by omega]
    simp
  · rw [bit_set _ _ _ _ hi]
    by_cases e : j / 64 = i
    · obtain ⟨k, hk, rfl⟩ : ∃ k, k < 64 ∧ j = 64 * i + k := ⟨j % 64, by omega, by omega⟩
      rw [if_pos e, if_pos (by omega), show (64 * i + k) % 64 = k by omega, hyb k hk]
    · rw [if_neg e, h4]
      by_cases hj : j < 64 * i
      · rw [if_pos hj, if_pos (by omega)]
      · rw [if_neg hj, if_neg (by omega)]
  · have h9 : left ||| y < 2 ^ 64 := Nat.or_lt_two_pow h5 hy64
    exact h9
  · rw [Nat.or_eq_zero_iff, h6]
    constructor
    · rintro ⟨h7, h8⟩ j hj
      by_cases hj2 : j < 64 * i
      · exact h7 j hj2
      · obtain ⟨k, hk, rfl⟩ : ∃ k, k < 64 ∧ j = 64 * i + k := ⟨j - 64 * i, by omega, by omega⟩
        rw [← hyb k hk, h8, Nat.zero_testBit]
    · intro h7
      exact ⟨fun j hj => h7 j (by omega), zero_bits hy64 fun k hk => by rw [hyb k hk]; exact h7 _ (by omega)⟩

/-- What take answers. -/
def apC (A S : List Nat) (r : List Wt) (c : UInt8) (j : Nat) : Bool := ((bit A j && tkAt r j c) && bit S j) || (decide (0 < j) && ((bit A (j - 1) && tkAt r (j - 1) c) && !bit S (j - 1)))
def TakeAns (w0 : World) (k ga gs nw : Nat) (oa : Option Addr) (oc : Nat) (r : List Wt) (A S : List Nat) (c : UInt8) (e : Ending) (w' : World) : Prop :=
  ∃ (A' : List Nat) (T : List Value) (b : Bool), e = .returned (.bool b) ∧ Way w0 w' k ga gs nw oa oc r A' S T (full r) ∧ (b = false ↔ ∀ j, j < 64 * nw → apC A S r c j = false) ∧ ∀ j, j < 64 * nw → bit A' j = (apC A S r c j || (decide (0 < j) && (apC A S r c (j - 1) && bit S (j - 1))))
theorem apC_eq {A S W : List Nat} {r : List Wt} {c : UInt8} (h : ∀ j, bit W j = tkAt r j c) (j : Nat) : apC A S r c j = apB A S W j := by
  unfold apC apB onB; rw [h, h]

set_option maxHeartbeats 16000000 in
theorem ltake (w0 w : World) (k ga gs nw : Nat) (oa : Option Addr) (oc : Nat) (r : List Wt) (hA : Alone r) (hrl : r.length ≤ 100000) (hok : ∀ x ∈ r, x.fine) (A S : List Nat) (T vs : List Value) (B : Nat) (hR : RowW w0 B oa oc r vs) (hSJ : ∀ j, bit S j = isRep r j) (c : UInt8) (x : Int) (hx : x = (c.toNat : Int)) (hW : Way w0 w k ga gs nw oa oc r A S T (full r)) :
    Calls Tryz.prog 128 #[.pointer (some ⟨k, 0, none⟩), .int .u8 x] w (TakeAns w0 k ga gs nw oa oc r A S c) := by
  have C1 := ltaking w0 w k ga gs nw oa oc r hrl hok A S T vs B hR c x hx hW
  have HNA := Lib.hid hW.la.symm
  have HSA := Lib.hid (show ∀ j, bit S j = true → bit S (j + 1) = false from fun j hj => by rw [hSJ] at hj ⊢; exact alone_rep hA hj)
  have hnw : nw ≤ 100000 := by have := hW.hw; omega
  clear hA hR hSJ hx hW hok
  go_enter Tryz.func128, Tryz.ntmps128
  go_wp2_with fail
  refine C1.mono ?_
  rintro e w1 ⟨g, ws, T1, rfl, hW1, hRw, hgk, hga, hgs, hsm, hwl, hwj⟩
  have HW1 := Lib.hid hW1
  have HRw := Lib.hid hRw
  have HNE := Lib.hid (And.intro hgk (And.intro hga hgs))
  have HSM := Lib.hid (And.intro hsm hwl)
  have HWJ := Lib.hid hwj
  have HT0 := Lib.hid (take_start A S ws hW1.sa)
  have HC := Lib.hid (show ∀ (W : World) (X : List Nat), Way w0 W k ga gs nw oa oc r X S T1 (full r) → W.cell? ⟨k, 1, none⟩ = some (.slice (some ⟨ga, 0, none⟩) nw nw) ∧ W.cell? ⟨k, 2, none⟩ = some (.slice (some ⟨gs, 0, none⟩) nw nw) from fun W X h => ⟨h.cells.2.1, h.cells.2.2⟩)
  obtain ⟨d1, d2⟩ := HC.out w1 A hW1
  clear hW1 hRw hgk hga hgs hsm hwl hwj
  go_wp2_with fail
  go_loopw [6, 7, 8, 9, 10, 11, 20] (fun v6 v7 _ _ _ _ v20 wr => ∃ i X c1 left, v20 = .int .i64 ((i : Nat) : Int) ∧ v7 = .int .u64 ((Bool.toNat c1 : Nat) : Int) ∧ v6 = .int .u64 ((left : Nat) : Int) ∧ i ≤ nw ∧ Hid (Way w0 wr k ga gs nw oa oc r X S T1 (full r)) ∧ Hid (TakeI A S ws i X c1 left) ∧ Hid (RowAt wr g (wv ws) 128)) (fun _ _ _ _ _ _ v20 _ => nw - (intOf v20).toNat)
  case atStart => exact ⟨0, A, false, 0, rfl, rfl, rfl, Nat.zero_le _, HW1, HT0, HRw⟩
  case round =>
    obtain ⟨i, X, c1, left, rfl, rfl, rfl, hiN, HWR, HTI, HRR⟩ := hrel
    by_cases hlt : i < nw
    · obtain ⟨x, hx⟩ : ∃ x, X[i]? = some x := ⟨X[i]'(by rw [HWR.out.la]; exact hlt), List.getElem?_eq_getElem _⟩
      obtain ⟨s, hs⟩ : ∃ s, S[i]? = some s := ⟨S[i]'(by rw [HWR.out.ls]; exact hlt), List.getElem?_eq_getElem _⟩
      obtain ⟨t, ht⟩ : ∃ t, ws[i]? = some t := ⟨ws[i]'(by rw [HSM.out.2]; exact hlt), List.getElem?_eq_getElem _⟩
      have hx64 := HWR.out.sa x (List.mem_of_getElem? hx)
      have hs64 := HWR.out.ss s (List.mem_of_getElem? hs)
      have ht64 := HSM.out.1 t (List.mem_of_getElem? ht)
      have hl64 := HTI.out.2.2.2.2.1
      have HTN := Lib.hid (take_next HTI.out hx hs ht hx64 hs64 ht64)
      obtain ⟨cn, hcn⟩ : ∃ cn, cn = Bool.toNat c1 := ⟨_, rfl⟩
      have hc64 : cn < 18446744073709551616 := by rw [hcn]; cases c1 <;> decide
      obtain ⟨tk, htk⟩ : ∃ tk, tk = x &&& t := ⟨_, rfl⟩
      have htk64 : tk < 18446744073709551616 := by
        have : x &&& t < 2 ^ 64 := Nat.and_lt_two_pow _ ht64
        rw [htk]; exact this
      obtain ⟨on, hon⟩ : ∃ on, on = tk &&& (18446744073709551615 - s) := ⟨_, rfl⟩
      have ho64 : on < 18446744073709551616 := by
        have : tk &&& (18446744073709551615 - s) < 2 ^ 64 := Nat.and_lt_two_pow _ (by omega)
        rw [hon]; exact this
      obtain ⟨st, hst⟩ : ∃ st, st = tk &&& s := ⟨_, rfl⟩
      have hst64 : st < 18446744073709551616 := by
        have : tk &&& s < 2 ^ 64 := Nat.and_lt_two_pow _ hs64
        rw [hst]; exact this
      obtain ⟨o1, ho1⟩ : ∃ o1, o1 = sh1 on := ⟨_, rfl⟩
      have ho164 : o1 < 18446744073709551616 := by rw [ho1]; exact sh1_small _
      obtain ⟨y1, hy1⟩ : ∃ y1, y1 = st ||| o1 := ⟨_, rfl⟩
      have hy164 : y1 < 18446744073709551616 := by
        have : st ||| o1 < 2 ^ 64 := Nat.or_lt_two_pow hst64 ho164
        rw [hy1]; exact this
      obtain ⟨y, hy⟩ : ∃ y, y = y1 ||| cn := ⟨_, rfl⟩
      have hy64 : y < 18446744073709551616 := by
        have : y1 ||| cn < 2 ^ 64 := Nat.or_lt_two_pow hy164 hc64
        rw [hy]; exact this
      obtain ⟨c2, hc2'⟩ : ∃ c2, c2 = Bool.toNat (on.testBit 63) := ⟨_, rfl⟩
      obtain ⟨l2, hl2⟩ : ∃ l2, l2 = left ||| y := ⟨_, rfl⟩
      have e1 : bits .and .u64 (x : Int) (t : Int) = (tk : Int) := by rw [htk]; exact bits_and_u64_nat _ _ hx64 ht64
      have e2 : bits .andNot .u64 (tk : Int) (s : Int) = (on : Int) := by rw [hon]; exact bits_andNot _ _ htk64 hs64
      have e3 : bits .and .u64 (tk : Int) (s : Int) = (st : Int) := by rw [hst]; exact bits_and_u64_nat _ _ htk64 hs64
      have e4 : IntKind.u64.wrap ((on : Int) * 2) = (o1 : Int) := by rw [ho1, IntKind.wrap_u64]; unfold sh1; omega
      have e5 : bits .or .u64 (st : Int) (o1 : Int) = (y1 : Int) := by rw [hy1]; exact bits_or_u64_nat _ _ hst64 ho164
      have e6 : bits .or .u64 (y1 : Int) (cn : Int) = (y : Int) := by rw [hy]; exact bits_or_u64_nat _ _ hy164 hc64
      have e7 : (on : Int) / 9223372036854775808 = (c2 : Int) := by rw [hc2', ← top_bit on ho64]; omega
      have e8 : bits .or .u64 (left : Int) (y : Int) = (l2 : Int) := by rw [hl2]; exact bits_or_u64_nat _ _ hl64 hy64
      rw [← hcn, ← htk, ← hon, ← hst, ← ho1, ← hy1, ← hy, ← hl2] at HTN
      have HCN := Lib.hid hc2'
      have HSY := Lib.hid (And.intro (small_set HWR.out.sa i hy64) (show (X.set i y).length = nw by rw [List.length_set]; exact HWR.out.la))
      rw [← hcn]
      obtain ⟨d1, d2⟩ := HC.out wr X HWR.out
      have hcs := HWR.out.rs.cell (wv_get hs)
      have hcx := HWR.out.ra.cell (wv_get hx)
      have hct := HRR.out.cell (wv_get ht)
      have hfx := HWR.out.ra.free i
      have hii : (i : Int) < (nw : Int) := by omega
      have hi0 : (0 : Int) ≤ (i : Int) := by omega
      have HXL := Lib.hid (show i < X.length by rw [HWR.out.la]; exact hlt)
      clear hcn htk hon hst ho1 hy1 hy hl2 hc2' hx hs ht
      go_upto_region 8 with fail
      go_region
      have hg5 : wr.grownBy ((wr.setCell ⟨ga, i, none⟩ (.int .u64 (y : Int))).drew) (some ga) := set_grown _ _ _ _
      have hr5 : RowAt ((wr.setCell ⟨ga, i, none⟩ (.int .u64 (y : Int))).drew) ga (wv (X.set i y)) 128 := by
        have h := HWR.out.ra.set i (.int .u64 (y : Int))
        rw [wv_set] at h
        exact h
      obtain ⟨w5, hw5⟩ : ∃ w5, w5 = (wr.setCell ⟨ga, i, none⟩ (.int .u64 (y : Int))).drew := ⟨_, rfl⟩
      rw [← hw5] at hg5 hr5 ⊢
      have HW5 := Lib.hid (HWR.out.setA hr5 hg5 HSY.out.2 HSY.out.1)
      have HR5 := Lib.hid (show RowAt w5 g (wv ws) 128 from grown_at hg5 HNE.out.2.1 HRR.out)
      obtain ⟨d1, d2⟩ := HC.out w5 _ HW5.out
      have hcy := HW5.out.ra.cell (wv_get (List.getElem?_set_self HXL.out))
      clear hg5 hr5 hw5 hcs hcx hct hfx
      go_wp2_with fail
      go_roundw
      case rel => exact ⟨i + 1, _, _, l2, by simp, by rw [HCN.out], rfl, by omega, HW5, HTN, HR5⟩
      case measure => simp only [intOf]; omega
    · have hii : ¬ (i : Int) < (nw : Int) := by omega
      have HE := Lib.hid (show i = nw by omega)
      obtain ⟨d1, d2⟩ := HC.out wr X HWR.out
      have C3 := lpass X S HWR.out.sa HWR.out.ss HSA.out k ga gs nw HWR.out.la.symm HWR.out.ls.symm hnw HWR.out.nak HWR.out.nas wr d1 d2 HWR.out.ra HWR.out.rs
      have HXB := Lib.hid (show ∀ j, j < 64 * nw → bit X j = apB A S ws j from fun j hj => by
        have h := HTI.out.2.2.2.1 j
        rw [HE.out, if_pos hj] at h
        exact h)
      have HLB := Lib.hid (show left = 0 ↔ ∀ j, j < 64 * nw → apB A S ws j = false by
        have h := HTI.out.2.2.2.2.2
        rw [HE.out] at h
        exact h)
      go_wp2_with fail
      refine C3.mono ?_
      rintro e w7 ⟨rfl, ⟨X', c', hX, hrX⟩, hg7⟩
      have HPE := Lib.hid hX
      have HW7 := Lib.hid (HWR.out.setA hrX hg7 (hX.1.trans HWR.out.la) hX.2.1)
      have HLA := Lib.hid HWR.out.la
      clear hX hrX hg7 C3
      have HANS := Lib.hid (show ∀ b : Bool, (b = false ↔ left = 0) → TakeAns w0 k ga gs nw oa oc r A S c (.returned (.bool b)) w7 from fun b hb => ⟨X', T1, b, rfl, HW7.out, by
        have hap : ∀ j, apC A S r c j = apB A S ws j := apC_eq HWJ.out
        refine ⟨?_, fun j hj => ?_⟩
        · rw [hb, HLB.out]
          constructor
          · intro h j hj; rw [hap]; exact h j hj
          · intro h j hj; rw [← hap]; exact h j hj
        · have h1 := HPE.out
          rw [← HLA.out] at h1 hj
          rw [pass_end h1 j hj, HXB.out j (by rw [← HLA.out]; exact hj), hap, hap]
          by_cases h0 : 0 < j
          · rw [HXB.out (j - 1) (by rw [← HLA.out]; omega)]
          · rw [decide_eq_false h0]; simp⟩)
      by_cases hl0 : left = 0
      · have hA0 := HANS.out false (by simp [hl0])
        have HAF := Lib.hid hA0
        have hne : ((left : Int) != 0) = false := by simp [hl0]
        have hne2 : (left != 0) = false := by simp [hl0]
        clear hA0 hl0
        go_wp2_with fail
        go_ret
        exact HAF.out
      · have hA0 := HANS.out true (by simp [hl0])
        have HAF := Lib.hid hA0
        have hne : ((left : Int) != 0) = true := by simp [hl0]
        have hne2 : (left != 0) = true := by simp [hl0]
        clear hA0 hl0
        go_wp2_with fail
        go_ret
        exact HAF.out
end Go.Proofs.YtclhpedecimicaaGreat

namespace Go.Proofs.YtclhpedecimicaaGreat
set_option maxRecDepth 100000
open Go Go.RowKit

def wayCells (a b c : Value) : Array Value := (a :: b :: c :: List.replicate 256 (.slice none 0 0)).toArray
def zeroW : Array Value := (List.replicate 259 (.slice none 0 0)).toArray
theorem alloc_way (W : World) : (Instr.alloc 174 true (.tuple #[])).run Tryz.prog W = .ok (.pointer (some ⟨W.heap.size, 0, none⟩)) (W.alloc (.cells zeroW 174)) := by kernel_rfl
theorem built_way (a b c : Option Addr) (n m k n' m' k' : Nat) : Tryz.prog.built 174 [(0, .slice a n m), (1, .slice b k n'), (2, .slice c m' k')] = some (wayCells (.slice a n m) (.slice b k n') (.slice c m' k')) := by kernel_rfl
theorem wpList_alloc_way {ops : Array Oper} {rest : List Oper} {o : Oper} {a : Act} {w : World} {Q : Exit → Act → World → Prop} (hg : o.guard = none) (ho : o.op = .alloc 174)
    (h : wpList Tryz.prog ops Q rest (a.put o.dst (.pointer (some ⟨w.heap.size, 0, none⟩))) (w.alloc (.cells zeroW 174))) : wpList Tryz.prog ops Q (o :: rest) a w := by
  refine wpList_plain hg fun K hK => ?_
  unfold Oper.wp execOp
  simp only [ho, alloc_way, Sem.run_bind, Sem.run_pure, Result.andThen_ok]
  exact hK _ _ h
theorem wpList_build_way {ops : Array Oper} {rest : List Oper} {o : Oper} {act : Act} {w : World} {Q : Exit → Act → World → Prop} (hg : o.guard = none) (x y z : Operand) (ho : o.op = .build 174 #[(0, x), (1, y), (2, z)])
    (a b c : Option Addr) (n m k n' m' k' : Nat) (hx : act.eval x = .slice a n m) (hy : act.eval y = .slice b k n') (hz : act.eval z = .slice c m' k')
    (h : wpList Tryz.prog ops Q rest (act.put o.dst (.agg (wayCells (.slice a n m) (.slice b k n') (.slice c m' k')))) w) : wpList Tryz.prog ops Q (o :: rest) act w := by
  have e : Tryz.prog.built 174 ((#[(0, x), (1, y), (2, z)] : Array (Nat × Operand)).map fun (i, x) => (i, act.eval x)).toList = some (wayCells (.slice a n m) (.slice b k n') (.slice c m' k')) := by
    have e2 : ((#[(0, x), (1, y), (2, z)] : Array (Nat × Operand)).map fun (i, x) => (i, act.eval x)).toList = [(0, .slice a n m), (1, .slice b k n'), (2, .slice c m' k')] := by simp [hx, hy, hz]
    rw [e2]; exact built_way a b c n m k n' m' k'
  refine wpList_build hg 174 _ ho (by rw [e]; rfl) ?_
  rw [e]
  exact h

theorem way_size (a b c : Value) : (wayCells a b c).size = 259 := by simp [wayCells]
theorem zero_size : zeroW.size = 259 := by simp [zeroW]
theorem way_one (a b c : Option Addr) (n m k n' m' k' : Nat) : (wayCells (.slice a n m) (.slice b k n') (.slice c m' k')).all (·.oneCell') = true := by
  unfold wayCells
  rw [List.all_toArray]
  simp only [List.all_cons, List.all_replicate]
  rfl
theorem way_info (c : Nat) (hc : c = 259) : (Tryz.prog.info? 174).map (·.size) = some c := by
  subst hc
  kernel_rfl
theorem store_way (K : Nat) (a b c : Option Addr) (n m k n' m' k' : Nat) (W : World) (h : W.heap[K]? = some (.cells zeroW 174 (0, 0))) : (storeCells ⟨K, 0, none⟩ (wayCells (.slice a n m) (.slice b k n') (.slice c m' k')).toList).run Tryz.prog W = .ok () (W.setRow K (wayCells (.slice a n m) (.slice b k n') (.slice c m' k'))) := by
  have h1 := run_storeVar_row (P := Tryz.prog) W K 174 174 zeroW (wayCells (.slice a n m) (.slice b k n') (.slice c m' k')) h (way_info _ (way_size _ _ _)) (by rw [way_size, zero_size]) (way_one _ _ _ _ _ _ _ _ _)
  have h2 := way_info _ (way_size (.slice a n m) (.slice b k n') (.slice c m' k'))
  cases hq : Tryz.prog.info? 174 with
  | none => simp [hq] at h2
  | some i =>
    simp [hq] at h2
    simp [storeVar, sizeOf, typeInfo, hq, h2, Value.cells] at h1
    exact h1
/-- The box of a way, as it is laid. -/
theorem way_laid (w w1 : World) (oa : Option Addr) (oc nw : Nat) (r : List Wt) (hw : nw = r.length / 64 + 1) (hb1 : Below w.heap.size w w1) :
    ∃ w5, w5 = (((w1.alloc (.cells (Array.replicate nw (.int .u64 0)) 128)).alloc (.cells (Array.replicate nw (.int .u64 0)) 128)).alloc (.cells zeroW 174)).setRow (w1.heap.size + 1 + 1) (wayCells (.slice oa r.length oc) (.slice (some ⟨w1.heap.size, 0, none⟩) nw nw) (.slice (some ⟨w1.heap.size + 1, 0, none⟩) nw nw)) ∧
      Way w w5 (w1.heap.size + 1 + 1) w1.heap.size (w1.heap.size + 1) nw oa oc r (List.replicate nw 0) (List.replicate nw 0) (List.replicate 256 (.slice none 0 0)) (full r) ∧ Below w1.heap.size w1 w5 ∧ (((w1.alloc (.cells (Array.replicate nw (.int .u64 0)) 128)).alloc (.cells (Array.replicate nw (.int .u64 0)) 128)).alloc (.cells zeroW 174)).heap[w1.heap.size + 1 + 1]? = some (.cells zeroW 174 (0, 0)) := by
  obtain ⟨w4, hw4⟩ : ∃ w4, w4 = ((w1.alloc (.cells (Array.replicate nw (.int .u64 0)) 128)).alloc (.cells (Array.replicate nw (.int .u64 0)) 128)).alloc (.cells zeroW 174) := ⟨_, rfl⟩
  refine ⟨_, rfl, ?_⟩
  rw [← hw4]
  have hz : (wv (List.replicate nw 0)).toArray = Array.replicate nw (.int .u64 0) := by
    unfold wv; rw [List.map_replicate, List.toArray_replicate]; rfl
  have h0 : w4.heap[w1.heap.size]? = some (.cells (Array.replicate nw (.int .u64 0)) 128 (0, 0)) := by
    rw [hw4, Below.heap_alloc _ _ _ (by simp; omega), Below.heap_alloc _ _ _ (by simp)]; exact new_block _ _
  have h1 : w4.heap[w1.heap.size + 1]? = some (.cells (Array.replicate nw (.int .u64 0)) 128 (0, 0)) := by
    rw [hw4, Below.heap_alloc _ _ _ (by simp)]
    have := new_block (w1.alloc (.cells (Array.replicate nw (.int .u64 0)) 128)) (.cells (Array.replicate nw (.int .u64 0)) 128)
    rw [World.size_alloc] at this
    exact this
  have h2 : w4.heap[w1.heap.size + 1 + 1]? = some (.cells zeroW 174 (0, 0)) := by
    rw [hw4]
    have := new_block ((w1.alloc (.cells (Array.replicate nw (.int .u64 0)) 128)).alloc (.cells (Array.replicate nw (.int .u64 0)) 128)) (.cells zeroW 174)
    rw [World.size_alloc, World.size_alloc] at this
    exact this
  have hb4 : Below w1.heap.size w1 w4 := by
    rw [hw4]
    exact ((below_box w1 _).alloc (by simp) _).alloc (by simp; omega) _
  have hb5 : Below w1.heap.size w1 (w4.setRow (w1.heap.size + 1 + 1) (wayCells (.slice oa r.length oc) (.slice (some ⟨w1.heap.size, 0, none⟩) nw nw) (.slice (some ⟨w1.heap.size + 1, 0, none⟩) nw nw))) :=
    ⟨hb4.os, hb4.tape, hb4.output, by rw [setRow_size]; exact hb4.size, fun i hi => by rw [setRow_other w4 _ i _ (by omega)]; exact hb4.block i hi⟩
  have hl := hb1.size
  refine ⟨⟨below_two hb1 hb5, by omega, by omega, by omega, ?_, by simp, ?_, ?_, by omega, by omega, by omega, by simp, by simp, hw, small_zero _, small_zero _, fun c v hv => ?_⟩, hb5, h2⟩
  · exact setRow_heap w4 _ zeroW _ 174 (0, 0) h2
  · unfold RowAt
    rw [setRow_other w4 _ _ _ (by omega), h0, hz]
  · unfold RowAt
    rw [setRow_other w4 _ _ _ (by omega), h1, hz]
  · rw [List.getElem?_replicate] at hv
    split at hv
    · exact Or.inl (Option.some.inj hv).symm
    · cases hv

def fitsV (r : List Wt) (s : List UInt8) : List Value := (List.range (s.length + 1)).map fun m => Value.bool (decide (Mat r (s.take m)))
def LenAns (w : World) (r : List Wt) (s : List UInt8) (e : Ending) (w' : World) : Prop :=
  ∃ g, e = .returned (.slice (some ⟨g, 0, none⟩) (s.length + 1) (s.length + 1)) ∧ RowAt w' g (fitsV r s) 4 ∧ w.heap.size ≤ g ∧ Below w.heap.size w w'

/-- A cell of a row that lies below a way's base is set, in the base as well. -/
theorem Way.rebase {w0 w : World} {k ga gs nw g j : Nat} {oa : Option Addr} {oc : Nat} {r : List Wt} {A S : List Nat} {T l : List Value} {lim : UInt8 → Nat} {ty : TypeId} (h : Way w0 w k ga gs nw oa oc r A S T lim) (hg : RowAt w0 g l ty) (v : Value) :
    Way (w0.setCell ⟨g, j, none⟩ v) (w.setCell ⟨g, j, none⟩ v) k ga gs nw oa oc r A S T lim := by
  have hgl := hg.lt
  have hg2 : RowAt w g l ty := by unfold RowAt; rw [h.low.block g hgl]; exact hg
  have hG : w.grownBy (w.setCell ⟨g, j, none⟩ v) (some g) := set_grown0 _ _ _ _
  have b1 := h.bk
  have b2 := h.ba
  have b3 := h.bs
  refine ⟨⟨h.low.os, h.low.tape, h.low.output, by rw [set_size, set_size]; exact h.low.size, fun i hi => ?_⟩, by rw [set_size]; exact b1, by rw [set_size]; exact b2, by rw [set_size]; exact b3, grown_at hG (by omega) h.box, h.tl, grown_at hG (by omega) h.ra, grown_at hG (by omega) h.rs, h.nak, h.nsk, h.nas, h.la, h.ls, h.hw, h.sa, h.ss, fun c u hu => ?_⟩
  · rw [set_size] at hi
    by_cases e : i = g
    · subst e
      have h1 := hg.set j v
      have h2 := hg2.set j v
      unfold RowAt at h1 h2
      rw [h1, h2]
    · rw [Below.heap_setCell _ _ _ _ e, Below.heap_setCell _ _ _ _ e]
      exact h.low.block i hi
  · rcases h.each c u hu with h1 | ⟨g', ws, h1, h2, h3, h4, h5, h6⟩
    · exact Or.inl h1
    · exact Or.inr ⟨g', ws, h1, grown_at hG (by omega) h2, h3, h4, ⟨h5.1, by rw [set_size]; exact h5.2⟩, h6⟩

/-- So many first bytes are told. -/
def FitR (r : List Wt) (s : List UInt8) (m : Nat) (l : List Value) : Prop := l.length = s.length + 1 ∧ (∀ i, i < m → l[i]? = some (.bool (decide (Mat r (s.take i))))) ∧ ∀ i, m ≤ i → i ≤ s.length → l[i]? = some (.bool false)
theorem fit_start (r : List Wt) (s : List UInt8) : FitR r s 0 (List.replicate (s.length + 1) (.bool false)) :=
  ⟨by simp, fun i h => absurd h (Nat.not_lt_zero _), fun i _ h => by rw [List.getElem?_replicate, if_pos (by omega)]⟩
theorem fit_next {r : List Wt} {s : List UInt8} {m : Nat} {l : List Value} (h : FitR r s m l) (hm : m ≤ s.length) {b : Bool} (hb : b = true ↔ Mat r (s.take m)) : FitR r s (m + 1) (l.set m (.bool b)) := by
  have hbd : b = decide (Mat r (s.take m)) := by
    by_cases c : Mat r (s.take m)
    · rw [decide_eq_true c]; exact hb.2 c
    · rw [decide_eq_false c]
      cases b with
      | false => rfl
      | true => exact absurd (hb.1 rfl) c
  refine ⟨by rw [List.length_set]; exact h.1, fun i hi => ?_, fun i h1 h2 => ?_⟩
  · rw [List.getElem?_set]
    by_cases e : m = i
    · subst e; rw [if_pos rfl, if_pos (by rw [h.1]; omega), hbd]
    · rw [if_neg e]; exact h.2.1 i (by omega)
  · rw [List.getElem?_set, if_neg (by omega)]; exact h.2.2 i (by omega) h2
theorem fit_end {r : List Wt} {s : List UInt8} {m : Nat} {l : List Value} (h : FitR r s m l) (hd : ∀ i, m ≤ i → i ≤ s.length → ¬ Mat r (s.take i)) : l = fitsV r s := by
  apply List.ext_getElem?
  intro i
  unfold fitsV
  by_cases hi : i ≤ s.length
  · rw [List.getElem?_map, List.getElem?_range (by omega)]
    by_cases h1 : i < m
    · rw [h.2.1 i h1]; rfl
    · rw [h.2.2 i (by omega) hi]
      show _ = some (Value.bool (decide _))
      rw [decide_eq_false (hd i (by omega) hi)]
  · rw [List.getElem?_eq_none (by rw [h.1]; omega), List.getElem?_eq_none (by simp; omega)]
/-- Places in bits and in words of the row. -/
theorem ap_bits {A S : List Nat} {r : List Wt} {c : UInt8} {t : List UInt8} {nw : Nat} (hA : ∀ j, j < 64 * nw → (bit A j = true ↔ Np r j t)) (hS : ∀ j, bit S j = isRep r j) (j : Nat) (hj : j < 64 * nw) : apC A S r c j = true ↔ Ap r j t c := by
  unfold apC Ap
  rw [Bool.or_eq_true, Bool.and_eq_true, Bool.and_eq_true, Bool.and_eq_true, Bool.and_eq_true, Bool.and_eq_true, hA j hj, hS, hS, decide_eq_true_eq]
  constructor
  · rintro (⟨⟨h1, -⟩, h2⟩ | ⟨h0, ⟨h1, h2⟩, h3⟩)
    · exact Or.inl ⟨h1, h2⟩
    · exact Or.inr ⟨h0, (hA (j - 1) (by omega)).1 h1, h2, by simpa using h3⟩
  · rintro (⟨h1, h2⟩ | ⟨h0, h1, h2, h3⟩)
    · exact Or.inl ⟨⟨h1, rep_tkAt h2 c⟩, h2⟩
    · exact Or.inr ⟨h0, ⟨(hA (j - 1) (by omega)).2 h1, h2⟩, by simp [h3]⟩
theorem np_bits {A A' S : List Nat} {r : List Wt} {c : UInt8} {t : List UInt8} {nw : Nat} (hAl : Alone r) (hA : ∀ j, j < 64 * nw → (bit A j = true ↔ Np r j t)) (hS : ∀ j, bit S j = isRep r j) (hA' : ∀ j, j < 64 * nw → bit A' j = (apC A S r c j || (decide (0 < j) && (apC A S r c (j - 1) && bit S (j - 1))))) (j : Nat) (hj : j < 64 * nw) : bit A' j = true ↔ Np r j (t ++ [c]) := by
  rw [hA' j hj, np_step hAl, Bool.or_eq_true, Bool.and_eq_true, Bool.and_eq_true, ap_bits hA hS j hj, hS, decide_eq_true_eq]
  constructor
  · rintro (h | ⟨h0, h1, h2⟩)
    · exact Or.inl h
    · exact Or.inr ⟨h0, (ap_bits hA hS (j - 1) (by omega)).1 h1, h2⟩
  · rintro (h | ⟨h0, h1, h2⟩)
    · exact Or.inl h
    · exact Or.inr ⟨h0, (ap_bits hA hS (j - 1) (by omega)).2 h1, h2⟩
theorem dead_bits {A S : List Nat} {r : List Wt} {c : UInt8} {t : List UInt8} {nw : Nat} (hAl : Alone r) (hw : nw = r.length / 64 + 1) (hA : ∀ j, j < 64 * nw → (bit A j = true ↔ Np r j t)) (hS : ∀ j, bit S j = isRep r j) (h : ∀ j, j < 64 * nw → apC A S r c j = false) (u : List UInt8) : ¬ Mat r ((t ++ [c]) ++ u) := by
  rw [← np_len]
  refine np_dead hAl (np_dead_step hAl fun j h1 => ?_) u _
  have hj : j < 64 * nw := by have := ap_le h1; omega
  have := (ap_bits hA hS j hj).2 h1
  rw [h j hj] at this
  cases this

set_option maxHeartbeats 16000000 in
theorem llengths (w : World) (oa : Option Addr) (oc : Nat) (r : List Wt) (hA : Alone r) (hrl : r.length ≤ 100000) (hok : ∀ x ∈ r, x.fine) (vs : List Value) (B : Nat) (hR : RowW w B oa oc r vs) (s : ByteArray) (hs : s.size ≤ 100000) :
    Calls Tryz.prog 114 #[.slice oa r.length oc, .string s] w (LenAns w r s.data.toList) := by
  obtain ⟨n, hn⟩ : ∃ n, n = r.length := ⟨_, rfl⟩
  have HN := Lib.hid hn
  obtain ⟨nw, hnw⟩ : ∃ nw, nw = r.length / 64 + 1 := ⟨_, rfl⟩
  have HNW := Lib.hid hnw
  rw [← hn] at hrl ⊢
  have C0 := fun W => lbitsof oa oc n nw (by rw [hn]; exact hnw) hrl W
  have hmk := run_make_bools w ((s.size : Int) + 1) (s.size + 1) (by omega) (by omega)
  obtain ⟨w1, hw1⟩ : ∃ w1, w1 = w.alloc (.cells (List.replicate (s.size + 1) (.bool false)).toArray 4) := ⟨_, rfl⟩
  rw [← hw1] at hmk
  have hb1 : Below w.heap.size w w1 := by rw [hw1]; exact below_box _ _
  have hRf : RowAt w1 w.heap.size (List.replicate (s.size + 1) (.bool false)) 4 := by rw [hw1]; exact new_block _ _
  obtain ⟨w5, hw5, hW5, hb5, h4⟩ := way_laid w1 w1 oa oc nw r hnw (Below.refl _ _)
  have HW5 := Lib.hid hW5
  have HE5 := Lib.hid hw5
  have HRf := Lib.hid hRf
  have HB1 := Lib.hid hb1
  have HW1 := Lib.hid hw1
  have hwl : w.heap.size < w1.heap.size := hRf.lt
  have hnw1 : nw ≤ 100000 := by omega
  have hst := store_way (w1.heap.size + 1 + 1) oa (some ⟨w1.heap.size, 0, none⟩) (some ⟨w1.heap.size + 1, 0, none⟩) n oc nw nw nw nw _ h4
  rw [← hn] at HE5
  rw [← HE5.out] at hst
  obtain ⟨k, hk⟩ : ∃ k, k = w1.heap.size + 1 + 1 := ⟨_, rfl⟩
  have HR := Lib.hid hR
  have HA := Lib.hid hA
  have HOK := Lib.hid hok
  have hk5 : w.heap.size < k := by omega
  rw [← hk] at HW5
  have HR1 := Lib.hid (hR.below hb1)
  have C2 := lbegin w1 w5 k w1.heap.size (w1.heap.size + 1) nw oa oc r hA (by omega) _ _ _ vs (full r) B HR1.out HW5.out (bit_zero nw) (bit_zero nw)
  rw [hk] at C2
  have HKK := Lib.hid hk
  clear h4 hR hA hok hk
  clear hw1 hn hnw hw5 hW5 hb1 hRf hb5
  go_enter Tryz.func114, Tryz.ntmps114
  go_upto_region 2 with fail
  go_wp2_with (first | (refine wpList_build_way rfl _ _ _ rfl _ _ _ _ _ _ _ _ _ rfl rfl rfl ?_) | (refine wpList_alloc_way rfl rfl ?_) | (go_at_call 125; refine (C0 _).mono ?_; rintro e wn ⟨rfl, hwn⟩; subst hwn) | fail)
  refine C2.mono ?_
  rintro e w6 ⟨rfl, A, S, hW6, hSJ, hAJ⟩
  have HW6 := Lib.hid hW6
  have HSJ := Lib.hid hSJ
  have HAJ := Lib.hid hAJ
  have HF0 := Lib.hid (show FitR r s.data.toList 0 (List.replicate (s.size + 1) (.bool false)) by rw [← size_data]; exact fit_start r _)
  have HSL := Lib.hid (size_data s)
  obtain ⟨gf, hgf⟩ : ∃ gf, gf = w.heap.size := ⟨_, rfl⟩
  rw [← hgf] at HRf hwl ⊢
  have HGF := Lib.hid hgf
  obtain ⟨ga, hga⟩ : ∃ ga, ga = w1.heap.size := ⟨_, rfl⟩
  have hgs : w1.heap.size + 1 = ga + 1 := by rw [hga]
  have hkk : w1.heap.size + 1 + 1 = k := HKK.out.symm
  rw [hkk, hgs, ← hga]
  rw [hkk, hgs, ← hga] at HW6
  have HS1 := Lib.hid hga
  have HSM := Lib.hid (show ∀ m, m < s.size → s.data.toList[m]? = some s[m]! ∨ True from fun _ _ => Or.inr trivial)
  have HNP := Lib.hid (show n < 64 * nw by have := HN.out; have := HNW.out; omega)
  clear hW6 hSJ hAJ hgf hga hgs hkk hst hmk C0 hwl HSM
  go_wp2_with fail
  go_loopw [7, 21] (fun _ v21 wr => ∃ m A' T wb l, v21 = .int .i64 ((m : Nat) : Int) ∧ m ≤ s.size ∧ Hid (Way wb wr k ga (ga + 1) nw oa oc r A' S T (full r)) ∧ Hid (∀ j, j < 64 * nw → (bit A' j = true ↔ Np r j (s.data.toList.take m))) ∧ Hid (RowAt wb gf l 4 ∧ wb.heap.size = ga ∧ Below w.heap.size w wb ∧ RowW wb B oa oc r vs) ∧ Hid (FitR r s.data.toList m l)) (fun _ v21 _ => s.size + 1 - (intOf v21).toNat)
  case atStart => exact ⟨0, A, _, w1, _, rfl, Nat.zero_le _, HW6, (show ∀ j, j < 64 * nw → (bit A j = true ↔ Np r j (s.data.toList.take 0)) from HAJ.out), ⟨HRf.out, HS1.out.symm, HB1.out, HR1.out⟩, HF0⟩
  case round =>
    obtain ⟨m, A', T, wb, l, rfl, hm, HWR, HAR, HBR, HFR⟩ := hrel
    have hmi : (m : Int) < (s.size : Int) + 1 := by omega
    have hm0 : (0 : Int) ≤ (m : Int) := by omega
    have hgfl : gf < ga := by rw [← HBR.out.2.1]; exact HBR.out.1.lt
    have hRg : RowAt wr gf l 4 := by unfold RowAt; rw [HWR.out.low.block gf HBR.out.1.lt]; exact HBR.out.1
    obtain ⟨old, hold⟩ : ∃ v, l[m]? = some v := ⟨.bool false, HFR.out.2.2 m (Nat.le_refl _) (by rw [HSL.out]; exact hm)⟩
    have hcf := hRg.cell hold
    have hff := hRg.free m
    obtain ⟨y, hy⟩ := word_at HWR.out.la HNW.out (show n ≤ r.length by have := HN.out; omega)
    have C3 := lhas A' HWR.out.sa ga n y nw hy HWR.out.la.symm hnw1 wr HWR.out.ra
    obtain ⟨b, hb⟩ : ∃ b, b = y.testBit (n % 64) := ⟨_, rfl⟩
    rw [← hb] at C3
    have HBM := Lib.hid (show b = true ↔ Mat r (s.data.toList.take m) by
      rw [hb, ← bit_get hy, HAR.out n HNP.out, HN.out, np_len])
    have hc1 := HWR.out.cells.2.1
    have HFN := Lib.hid (fit_next HFR.out (by rw [HSL.out]; exact hm) HBM.out)
    have HWN := Lib.hid (HWR.out.rebase HBR.out.1 (j := m) (.bool b))
    have HRN := Lib.hid (HBR.out.1.set m (.bool b))
    obtain ⟨wr2, hwr2⟩ : ∃ x, x = wr.setCell ⟨gf, m, none⟩ (.bool b) := ⟨_, rfl⟩
    obtain ⟨wb2, hwb2⟩ : ∃ x, x = wb.setCell ⟨gf, m, none⟩ (.bool b) := ⟨_, rfl⟩
    rw [← hwr2, ← hwb2] at HWN
    rw [← hwb2] at HRN
    have hB2 : Below w.heap.size w wb2 := by rw [hwb2]; exact HBR.out.2.2.1.setCell (show w.heap.size ≤ gf by rw [HGF.out]; exact Nat.le_refl _) _
    have HBN := Lib.hid (show RowAt wb2 gf (l.set m (.bool b)) 4 ∧ wb2.heap.size = ga ∧ Below w.heap.size w wb2 ∧ RowW wb2 B oa oc r vs from
      ⟨HRN.out, by rw [hwb2, set_size]; exact HBR.out.2.1, hB2, HR.out.below hB2⟩)
    have HW2 := Lib.hid hwr2
    have hml : (m : Int) < (s.size : Int) + 1 := hmi
    clear hwr2 hwb2 hRg hy hb hold hB2 hgfl
    have HEND := Lib.hid (show ∀ W' W'' : World, Way wb2 W' k ga (ga + 1) nw oa oc r A' S T (full r) ∨ True → Below wb2.heap.size wb2 W'' → Below w.heap.size w W'' ∧ RowAt W'' gf (l.set m (.bool b)) 4 from fun _ W'' _ h =>
      ⟨HBN.out.2.2.1.trans (h.mono HBN.out.2.2.1.size), by unfold RowAt; rw [h.block gf HBN.out.1.lt]; exact HBN.out.1⟩)
    by_cases hlast : m = s.size
    · have hqs : ((m : Int) == (s.size : Int)) = true := by simp [hlast]
      have hqs2 : (m == s.size) = true := by simp [hlast]
      have HV := Lib.hid (fit_end HFN.out (fun i h1 h2 => by rw [HSL.out] at h2; omega))
      clear hlast
      go_wp2_with fail
      refine C3.mono ?_
      rintro e w8 ⟨rfl, rfl⟩
      go_wp2_with fail
      rw [← HW2.out]
      go_wp2_with fail
      go_ret
      obtain ⟨h1, h2⟩ := HEND.out wr2 wr2 (Or.inr trivial) HWN.out.low
      exact ⟨gf, by rw [HSL.out]; rfl, by rw [← HV.out]; exact h2, by rw [HGF.out]; exact Nat.le_refl _, h1⟩
    · have hms : m < s.size := by omega
      have hqs : ((m : Int) == (s.size : Int)) = false := by simp; omega
      have hqs2 : (m == s.size) = false := by simp; omega
      have hmsi : (m : Int) < (s.size : Int) := by omega
      have C4 := ltake wb2 wr2 k ga (ga + 1) nw oa oc r HA.out (by have := HN.out; omega) HOK.out A' S T vs B HBN.out.2.2.2 HSJ.out s[m] (s[m].toNat : Int) rfl HWN.out
      have HTK := Lib.hid (show s.data.toList.take (m + 1) = s.data.toList.take m ++ [s[m]] by
        have h := get_data s m hms
        rw [List.take_add_one, h]; rfl)
      go_wp2_with fail
      refine C3.mono ?_
      rintro e w8 ⟨rfl, rfl⟩
      go_wp2_with fail
      rw [← HW2.out]
      refine C4.mono ?_
      rintro e w9 ⟨A2, T2, b2, rfl, hW9, hb2, hA2⟩
      have HW9 := Lib.hid hW9
      cases b2 with
      | true =>
        have HA9 := Lib.hid (show ∀ j, j < 64 * nw → (bit A2 j = true ↔ Np r j (s.data.toList.take (m + 1))) from fun j hj => by rw [HTK.out]; exact np_bits HA.out HAR.out HSJ.out hA2 j hj)
        clear hW9 hb2 hA2
        go_wp2_with fail
        go_roundw
        case rel => exact ⟨m + 1, A2, T2, wb2, _, by simp, by omega, HW9, HA9, HBN, HFN⟩
        case measure => simp only [intOf]; omega
      | false =>
        have HV := Lib.hid (fit_end HFN.out (fun i h1 h2 => by
          have h := dead_bits HA.out HNW.out HAR.out HSJ.out (hb2.1 rfl) ((s.data.toList.drop (m + 1)).take (i - (m + 1)))
          rw [← HTK.out] at h
          have e : s.data.toList.take i = s.data.toList.take (m + 1) ++ (s.data.toList.drop (m + 1)).take (i - (m + 1)) := by
            rw [← List.take_add, show m + 1 + (i - (m + 1)) = i by omega]
          rw [e]; exact h))
        clear hW9 hb2 hA2
        go_wp2_with fail
        go_ret
        obtain ⟨h1, h2⟩ := HEND.out w9 w9 (Or.inr trivial) HW9.out.low
        exact ⟨gf, by rw [HSL.out]; rfl, by rw [← HV.out]; exact h2, by rw [HGF.out]; exact Nat.le_refl _, h1⟩
end Go.Proofs.YtclhpedecimicaaGreat

namespace Go.Proofs.YtclhpedecimicaaGreat
set_option maxRecDepth 100000
open Go Go.RowKit

def fitsB (r : List Wt) (s : List UInt8) : List Bool := (List.range (s.length + 1)).map fun m => decide (Mat r (s.take m))
theorem fitsV_eq (r : List Wt) (s : List UInt8) : fitsV r s = (fitsB r s).map Value.bool := by
  unfold fitsV fitsB
  rw [List.map_map]; rfl
theorem fitsB_len (r : List Wt) (s : List UInt8) : (fitsB r s).length = s.length + 1 := by simp [fitsB]
theorem fitsB_last (r : List Wt) (s : List UInt8) : (fitsB r s)[s.length]? = some (decide (Mat r s)) := by
  unfold fitsB
  rw [List.getElem?_map, List.getElem?_range (by omega), Option.map_some, List.take_length]
/-- The least of the lengths that fit, or the greatest. -/
def pickF (most : Bool) : List Bool → Nat → Int → Int
  | [], _, p => p
  | b :: l, i, p => pickF most l (i + 1) (if (b && (most || p == -1)) = true then (i : Int) else p)
def pickL (l : List Bool) (most : Bool) : Int := pickF most l 0 (-1)


set_option maxHeartbeats 4000000 in
theorem lmatch (P Q s : ByteArray) (hP : P.size ≤ 100000) (hs : s.size ≤ 100000) (w : World) : Calls Tryz.prog 97 #[.string P, .string Q, .string s] w fun e w' => e = .returned (.bool (decide (Mat (raw (plL P.data.toList Q.data.toList)) s.data.toList))) ∧ Below w.heap.size w w' := by
  have C1 := fun W => lwants P Q hP W
  have HOK := Lib.hid (rowP_ok P.data.toList Q.data.toList (by rw [size_data]; exact hP))
  have HAL := Lib.hid (rowP_alone P.data.toList Q.data.toList)
  have HLN := Lib.hid (rowP_len P.data.toList Q.data.toList)
  have HPS := Lib.hid (size_data P)
  have HSL := Lib.hid (size_data s)
  have HM := Lib.hid (show decide (Mat (raw (plL P.data.toList Q.data.toList)) s.data.toList) = decide (Mat (rowP P.data.toList Q.data.toList) s.data.toList) by rw [decide_eq_decide]; exact (rowP_mat _ _ _).symm)
  rw [HM.out]
  obtain ⟨r, hr⟩ : ∃ r, r = rowP P.data.toList Q.data.toList := ⟨_, rfl⟩
  rw [← hr] at C1 HOK HAL HLN ⊢
  clear hr HM
  go_enter Tryz.func97, Tryz.ntmps97
  go_wp2_with fail
  refine (C1 _).mono ?_
  rintro e w1 ⟨oa, oc, vs, rfl, hR, hb⟩
  have C2 := llengths w1 oa oc r HAL.out (by have := HLN.out; have := HPS.out; omega) HOK.out vs w.heap.size hR s hs
  have HB1 := Lib.hid hb
  clear hR hb
  go_wp2_with fail
  refine C2.mono ?_
  rintro e w2 ⟨g, rfl, hR2, hg, hb⟩
  have HB2 := Lib.hid (below_two HB1.out hb)
  have hc := hR2.cell (show (fitsV r s.data.toList)[s.size]? = some (.bool (decide (Mat r s.data.toList))) by rw [fitsV_eq, List.getElem?_map, ← HSL.out, fitsB_last]; rfl)
  obtain ⟨b, hbd⟩ : ∃ b, b = decide (Mat r s.data.toList) := ⟨_, rfl⟩
  rw [← hbd] at hc
  rw [HSL.out]
  have HBD := Lib.hid hbd
  clear hR2 hg hb hbd C2
  go_wp2_with fail
  go_ret
  exact ⟨by rw [← HBD.out]; rfl, HB2.out⟩

end Go.Proofs.YtclhpedecimicaaGreat

namespace Go.Proofs.YtclhpedecimicaaGreat
set_option maxRecDepth 100000
open Go Go.RowKit

/-- So many of a row's ends are changed. -/
def RevI (vs : List Value) (i : Nat) (xs : List Value) : Prop := xs.length = vs.length ∧ ∀ t, t < vs.length → xs[t]? = if t < i ∨ vs.length - i ≤ t then vs[vs.length - 1 - t]? else vs[t]?
theorem rev_start (vs : List Value) : RevI vs 0 vs := ⟨rfl, fun t ht => by rw [if_neg (by omega)]⟩
theorem rev_next {vs xs : List Value} {i j : Nat} (h : RevI vs i xs) (hj : i + j + 1 = vs.length) (hij : i < j) {u v : Value} (hu : xs[i]? = some u) (hv : xs[j]? = some v) : RevI vs (i + 1) ((xs.set i v).set j u) := by
  refine ⟨by rw [List.length_set, List.length_set]; exact h.1, fun t ht => ?_⟩
  have hu2 := h.2 i (by omega)
  have hv2 := h.2 j (by omega)
  rw [hu, if_neg (by omega)] at hu2
  rw [hv, if_neg (by omega)] at hv2
  rw [List.getElem?_set]
  by_cases e : j = t
  · subst e
    rw [if_pos rfl, if_pos (by rw [List.length_set, h.1]; omega), if_pos (by omega), show vs.length - 1 - j = i by omega]
    exact hu2
  · rw [if_neg e, List.getElem?_set]
    by_cases e2 : i = t
    · subst e2
      rw [if_pos rfl, if_pos (by rw [h.1]; omega), if_pos (by omega), show vs.length - 1 - i = j by omega]
      exact hv2
    · rw [if_neg e2, h.2 t ht]
      by_cases c : t < i ∨ vs.length - i ≤ t
      · rw [if_pos c, if_pos (by omega)]
      · rw [if_neg c, if_neg (by omega)]
theorem rev_end {vs xs : List Value} {i : Nat} {j : Int} (h : RevI vs i xs) (hj : (i : Int) + j + 1 = (vs.length : Int)) (hij : ¬ (i : Int) < j) (h1 : (i : Int) ≤ j + 1) : xs = vs.reverse := by
  apply List.ext_getElem?
  intro t
  by_cases ht : t < vs.length
  · rw [h.2 t ht, List.getElem?_reverse ht]
    by_cases c : t < i ∨ vs.length - i ≤ t
    · rw [if_pos c]
    · rw [if_neg c]
      congr 1
      omega
  · rw [List.getElem?_eq_none (by rw [h.1]; omega), List.getElem?_eq_none (by simp; omega)]
theorem rev_empty (vs : List Value) (h : vs.length = 0) : vs = vs.reverse := by
  rw [List.length_eq_zero_iff.1 h]; rfl


/-- A row of bytes that []byte(s) lays: a mark stands behind it. -/
def RowF (W : World) (g n : Nat) (xs : List Value) : Prop := ∃ cs t lo hi, W.heap[g]? = some (.cells cs t (lo, hi)) ∧ n ≤ lo ∧ n ≤ cs.size ∧ cs.toList.take n = xs
theorem RowF.cell {W : World} {g n : Nat} {xs : List Value} (h : RowF W g n xs) {j : Nat} (_hj : j ≤ n) {u : Value} (hu : xs[j]? = some u) : W.cell? ⟨g, j, none⟩ = some u := by
  obtain ⟨cs, t, lo, hi, h1, h2, h3, rfl⟩ := h
  rw [cell_of_row W g j cs t (lo, hi) h1]
  rw [List.getElem?_take] at hu
  split at hu
  · rw [← Array.getElem?_toList]; exact hu
  · cases hu
theorem RowF.free {W : World} {g n : Nat} {xs : List Value} (h : RowF W g n xs) {j : Nat} (hj : j < n) : W.frozen? ⟨g, j, none⟩ = false := by
  obtain ⟨cs, t, lo, hi, h1, h2, h3, -⟩ := h
  have e : decide (lo ≤ j) = false := decide_eq_false (by omega)
  simp [World.frozen?, h1, e]
theorem RowF.set {W : World} {g n : Nat} {xs : List Value} (h : RowF W g n xs) (j : Nat) (u : Value) : RowF (W.setCell ⟨g, j, none⟩ u) g n (xs.set j u) := by
  obtain ⟨cs, t, lo, hi, h1, h2, h3, rfl⟩ := h
  have hlt := lt_of_block h1
  have h' : W.heap[g] = .cells cs t (lo, hi) := by simpa [Array.getElem?_eq_getElem hlt] using h1
  refine ⟨cs.setIfInBounds j u, t, lo, hi, ?_, h2, by simpa using h3, by rw [Array.toList_setIfInBounds, List.take_set]⟩
  show (W.heap.modify g _)[g]? = _
  rw [Array.getElem?_eq_getElem (by simpa using hlt), Array.getElem_modify_self, h']
  rfl

end Go.Proofs.YtclhpedecimicaaGreat

namespace Go.Proofs.YtclhpedecimicaaGreat
set_option maxRecDepth 100000
open Go Go.RowKit

/-- A row of wants, turned. -/
theorem RowW.turn {w w' : World} {B : Nat} {oa : Option Addr} {oc : Nat} {r : List Wt} {vs : List Value} (h : RowW w B oa oc r vs) (ho : w'.ownsRow B 178 1 (.slice oa vs.length oc) vs.length vs.reverse) (hg : w.grownBy w' (Value.slice oa vs.length oc).ownBlock) : RowW w' B oa oc r.reverse vs.reverse := by
  have hb : ∀ g, (Value.slice oa vs.length oc).ownBlock = some g → oa = some ⟨g, 0, none⟩ := by
    intro g e
    obtain ⟨-, ⟨h3, -⟩ | ⟨g', cap', cur, h3, -⟩⟩ := h.own
    · simp only [Value.slice.injEq] at h3
      rw [h3.1] at e; cases e
    · simp only [Value.slice.injEq] at h3
      rw [h3.1] at e; cases e; exact h3.1
  refine ⟨by rw [List.length_reverse, ← h.len]; exact ho, by rw [List.length_reverse, List.length_reverse, h.len], fun i x hx => ?_, fun g e u hu => h.apart g e u (List.mem_reverse.1 hu)⟩
  have hi : i < r.length := by
    have := (List.getElem?_eq_some_iff.1 hx).1
    simpa using this
  rw [List.getElem?_reverse hi] at hx
  obtain ⟨u, h1, h2⟩ := h.each _ x hx
  refine ⟨u, by rw [List.getElem?_reverse (by rw [h.len]; exact hi), h.len]; exact h1, ?_⟩
  cases x with
  | set t l =>
    obtain ⟨pa, pc, h3, h4⟩ := h2
    refine ⟨pa, pc, h3, h4.kept hg ?_⟩
    cases pa with
    | none => exact Or.inl rfl
    | some a =>
      refine Or.inr fun e => ?_
      exact h.apart a.block (hb a.block e.symm) u (List.mem_of_getElem? h1) _ _ _ _ _ h3 rfl
  | _ => exact h2
theorem bytes_rev (s : List UInt8) : (s.map fun b : UInt8 => Value.int .u8 (b.toNat : Int)).reverse = s.reverse.map fun b : UInt8 => Value.int .u8 (b.toNat : Int) := by rw [List.map_reverse]

theorem bytesRow_le (s : ByteArray) (cap : Nat) : s.size ≤ (bytesRow s cap).size := by
  unfold bytesRow
  rw [Array.size_append, Array.size_map]
  exact Nat.le_add_right _ _
theorem RowW.far {w w' : World} {B gb : Nat} {oa : Option Addr} {oc : Nat} {r : List Wt} {vs : List Value} (h : RowW w B oa oc r vs) (hg : w.grownBy w' (some gb)) (ho : ∀ g, (Value.slice oa r.length oc).ownBlock = some g → g ≠ gb) (hm : ∀ u ∈ vs, Apart u gb) : RowW w' B oa oc r vs := by
  refine ⟨h.own.kept hg ?_, h.len, fun i x hx => ?_, h.apart⟩
  · cases hv : (Value.slice oa r.length oc).ownBlock with
    | none => exact Or.inl rfl
    | some k => exact Or.inr fun e => ho k hv (by cases e; rfl)
  · obtain ⟨u, h1, h2⟩ := h.each i x hx
    refine ⟨u, h1, ?_⟩
    cases x with
    | set t l =>
      obtain ⟨pa, pc, h3, h4⟩ := h2
      refine ⟨pa, pc, h3, h4.kept hg ?_⟩
      cases pa with
      | none => exact Or.inl rfl
      | some a => exact Or.inr fun e => hm u (List.mem_of_getElem? h1) _ _ _ _ _ h3 (by cases e; rfl)
    | _ => exact h2
theorem addr_zero (g j : Nat) : (⟨g, 0, none⟩ : Addr).add j = ⟨g, j, none⟩ := by unfold Addr.add; split <;> simp_all
/-- Where the last bytes begin that fit. -/
def sufI (r : List Wt) (s : List UInt8) (most : Bool) : Int := if pickL (fitsB r.reverse s.reverse) most = -1 then -1 else (s.length : Int) - pickL (fitsB r.reverse s.reverse) most
theorem pickF_ge (most : Bool) : ∀ (l : List Bool) (i : Nat) (p : Int), -1 ≤ p → p ≤ (i : Int) + l.length → -1 ≤ pickF most l i p ∧ pickF most l i p ≤ (i : Int) + l.length
  | [], i, p, h, h2 => by simp only [pickF, List.length_nil] at h2 ⊢; omega
  | b :: l, i, p, h, h2 => by
    simp only [pickF]
    have hh : -1 ≤ (if (b && (most || p == -1)) = true then (i : Int) else p) ∧ (if (b && (most || p == -1)) = true then (i : Int) else p) ≤ ((i + 1 : Nat) : Int) + l.length := by
      simp only [List.length_cons] at h2
      split <;> omega
    have := pickF_ge most l (i + 1) _ hh.1 hh.2
    simp only [List.length_cons]
    omega

end Go.Proofs.YtclhpedecimicaaGreat

namespace Go.Proofs.YtclhpedecimicaaGreat
set_option maxRecDepth 100000
open Go Go.RowKit

def magB (L : Pl) : Bool := L.any fun x => x.2 && (x.1 == 63 || (x.1 == 42 || x.1 == 91))
theorem mag_at {L : Pl} {i : Nat} (h : i < L.length) : (L[i].2 && (L[i].1 == 63 || (L[i].1 == 42 || L[i].1 == 91))) = (isP L i 63 || (isP L i 42 || isP L i 91)) := by
  unfold isP
  rw [List.getElem?_eq_getElem h]
  rcases L[i] with ⟨a, b⟩
  cases b <;> simp [Bool.beq_eq_decide_eq, Prod.ext_iff]

set_option maxHeartbeats 4000000 in
theorem lmagic (P Q : ByteArray) (hP : P.size ≤ 100000) (w : World) : Calls Tryz.prog 17 #[.string P, .string Q] w fun e w' => e = .returned (.bool (magB (plL P.data.toList Q.data.toList))) ∧ Below w.heap.size w w' := by
  have HK := Lib.hid (fun j c x y hx hy W => lplain P Q none 0 0 j c x y hx hy W)
  obtain ⟨L, hL⟩ : ∃ L, L = plL P.data.toList Q.data.toList := ⟨_, rfl⟩
  have HLP := Lib.hid (show L.length = P.size by rw [hL, pl_len, size_data])
  rw [← hL] at HK ⊢
  clear hL
  have HB1 := Lib.hid (below_box w (.cells #[.string P, .string Q, .slice none 0 0] 73))
  have HP1 := Lib.hid (show PatAt (w.alloc (.cells #[.string P, .string Q, .slice none 0 0] 73)) w.heap.size P Q none 0 0 from new_block _ _)
  go_enter Tryz.func17, Tryz.ntmps17
  go_wp2_with fail
  go_loopw [6, 12] (fun _ v12 wr => ∃ i, v12 = .int .i64 ((i : Nat) : Int) ∧ i ≤ P.size ∧ Hid (∀ j (h : j < L.length), j < i → (L[j].2 && (L[j].1 == 63 || (L[j].1 == 42 || L[j].1 == 91))) = false) ∧ Hid (PatAt wr w.heap.size P Q none 0 0) ∧ Hid (Below w.heap.size w wr)) (fun _ v12 _ => P.size - (intOf v12).toNat)
  case atStart => exact ⟨0, rfl, Nat.zero_le _, fun _ _ h => absurd h (Nat.not_lt_zero _), HP1, HB1⟩
  case round =>
    obtain ⟨i, rfl, hi, HFR, HPR, HBR⟩ := hrel
    by_cases hlt : i < P.size
    · have hii : (i : Int) < (P.size : Int) := by omega
      have hil : i < L.length := by rw [HLP.out]; exact hlt
      have HMA := Lib.hid (mag_at hil)
      have C1 := HK.out i 63 (i : Int) 63 rfl rfl
      have C2 := HK.out i 42 (i : Int) 42 rfl rfl
      have C3 := HK.out i 91 (i : Int) 91 rfl rfl
      have HYES := Lib.hid (show (isP L i 63 || (isP L i 42 || isP L i 91)) = true → magB L = true from fun h => List.any_eq_true.2 ⟨L[i], List.getElem_mem hil, by rw [HMA.out]; exact h⟩)
      have HNO := Lib.hid (show (isP L i 63 || (isP L i 42 || isP L i 91)) = false → ∀ j (h : j < L.length), j < i + 1 → (L[j].2 && (L[j].1 == 63 || (L[j].1 == 42 || L[j].1 == 91))) = false from fun h j hj hji => by
        by_cases e : j = i
        · subst e; rw [HMA.out]; exact h
        · exact HFR.out j hj (by omega))
      obtain ⟨c0, c1, c2⟩ := HPR.out.cells
      clear HMA hil
      cases h1 : isP L i 63 with
      | true =>
        rw [h1] at C1
        have HV := Lib.hid (HYES.out (by rw [h1]; rfl))
        go_wp2_with fail
        refine (C1 _).mono ?_
        rintro e w2 ⟨rfl, hb⟩
        have HB2 := Lib.hid (below_two HBR.out hb)
        clear hb
        go_wp2_with fail
        go_ret
        exact ⟨by rw [HV.out]; rfl, HB2.out⟩
      | false =>
        rw [h1] at C1
        cases h2 : isP L i 42 with
        | true =>
          rw [h2] at C2
          have HV := Lib.hid (HYES.out (by rw [h1, h2]; rfl))
          go_wp2_with fail
          refine (C1 _).mono ?_
          rintro e w2 ⟨rfl, hb⟩
          have HB2 := Lib.hid (below_two HBR.out hb)
          have HP2 := Lib.hid (HPR.out.below hb)
          obtain ⟨c0, c1, c2⟩ := HP2.out.cells
          clear hb
          go_wp2_with fail
          refine (C2 _).mono ?_
          rintro e w3 ⟨rfl, hb⟩
          have HB3 := Lib.hid (below_two HB2.out hb)
          clear hb
          go_wp2_with fail
          go_ret
          exact ⟨by rw [HV.out]; rfl, HB3.out⟩
        | false =>
          rw [h2] at C2
          cases h3 : isP L i 91 with
          | true =>
            rw [h3] at C3
            have HV := Lib.hid (HYES.out (by rw [h1, h2, h3]; rfl))
            go_wp2_with fail
            refine (C1 _).mono ?_
            rintro e w2 ⟨rfl, hb⟩
            have HB2 := Lib.hid (below_two HBR.out hb)
            have HP2 := Lib.hid (HPR.out.below hb)
            obtain ⟨c0, c1, c2⟩ := HP2.out.cells
            clear hb
            go_wp2_with fail
            refine (C2 _).mono ?_
            rintro e w3 ⟨rfl, hb⟩
            have HB3 := Lib.hid (below_two HB2.out hb)
            have HP3 := Lib.hid (HP2.out.below hb)
            obtain ⟨c0, c1, c2⟩ := HP3.out.cells
            clear hb
            go_wp2_with fail
            refine (C3 _).mono ?_
            rintro e w4 ⟨rfl, hb⟩
            have HB4 := Lib.hid (below_two HB3.out hb)
            clear hb
            go_wp2_with fail
            go_ret
            exact ⟨by rw [HV.out]; rfl, HB4.out⟩
          | false =>
            rw [h3] at C3
            have HFN := Lib.hid (HNO.out (by rw [h1, h2, h3]; rfl))
            go_wp2_with fail
            refine (C1 _).mono ?_
            rintro e w2 ⟨rfl, hb⟩
            have HB2 := Lib.hid (below_two HBR.out hb)
            have HP2 := Lib.hid (HPR.out.below hb)
            obtain ⟨c0, c1, c2⟩ := HP2.out.cells
            clear hb
            go_wp2_with fail
            refine (C2 _).mono ?_
            rintro e w3 ⟨rfl, hb⟩
            have HB3 := Lib.hid (below_two HB2.out hb)
            have HP3 := Lib.hid (HP2.out.below hb)
            obtain ⟨c0, c1, c2⟩ := HP3.out.cells
            clear hb
            go_wp2_with fail
            refine (C3 _).mono ?_
            rintro e w4 ⟨rfl, hb⟩
            have HB4 := Lib.hid (below_two HB3.out hb)
            have HP4 := Lib.hid (HP3.out.below hb)
            clear hb c0 c1 c2
            go_wp2_with fail
            go_roundw
            case rel => exact ⟨i + 1, by simp, by omega, HFN, HP4, HB4⟩
            case measure => simp only [intOf]; omega
    · have hii : ¬ (i : Int) < (P.size : Int) := by omega
      have HV := Lib.hid (show magB L = false by
        unfold magB
        rw [List.any_eq_false]
        intro x hx
        obtain ⟨j, hj, rfl⟩ := List.getElem_of_mem hx
        rw [HFR.out j hj (by rw [HLP.out] at hj; omega)]
        simp)
      go_wp2_with fail
      go_ret
      exact ⟨by rw [HV.out]; rfl, HBR.out⟩

/-- Do texts take few bytes together? -/
def sumS : List ByteArray → Nat
  | [] => 0
  | x :: r => x.size + sumS r
def shB (L : List ByteArray) : Bool := decide (sumS L ≤ 400)
theorem sumS_take : ∀ (L : List ByteArray) (i : Nat) (x : ByteArray), L[i]? = some x → sumS (L.take (i + 1)) = sumS (L.take i) + x.size
  | [], _, _, h => by cases h
  | a :: L, 0, x, h => by simp at h; subst h; simp [sumS]
  | a :: L, i + 1, x, h => by
    rw [List.take_succ_cons, List.take_succ_cons, sumS, sumS, sumS_take L i x (by simpa using h)]
    omega
theorem sumS_le : ∀ (L : List ByteArray) (i : Nat), sumS (L.take i) ≤ sumS L
  | [], i => by simp [sumS]
  | a :: L, 0 => by simp [sumS]
  | a :: L, i + 1 => by
    rw [List.take_succ_cons, sumS, sumS]
    have := sumS_le L i
    omega
end Go.Proofs.YtclhpedecimicaaGreat

namespace Go.Proofs.YtclhpedecimicaaGreat
set_option maxRecDepth 100000
open Go Go.RowKit

/-- A part: its bytes, what quoted says of them, whether a slash stands behind it. -/
structure Pt where
  t : List UInt8
  q : List UInt8
  sl : Bool
def Pt.L (x : Pt) : Pl := plL x.t x.q
def ptOne (p q : List UInt8) : List Pt := if headL p = [] then [] else [⟨headL p, q.take (headL p).length, decide ((47 : UInt8) ∈ p)⟩]
def ptF : Nat → List UInt8 → List UInt8 → List Pt
  | 0, _, _ => []
  | f + 1, p, q => ptOne p q ++ if (47 : UInt8) ∈ p then ptF f (tailL p) (q.drop ((headL p).length + 1)) else []
def ptsL (p q : List UInt8) : List Pt := ptF (p.length + 1) p q
theorem ptF_more : ∀ (f g : Nat) (p q : List UInt8), p.length < f → p.length < g → ptF f p q = ptF g p q
  | 0, _, _, _, h, _ => by omega
  | _ + 1, 0, _, _, _, h => by omega
  | f + 1, g + 1, p, q, h1, h2 => by
    unfold ptF
    by_cases h : (47 : UInt8) ∈ p
    · have h3 := tail_less p (List.ne_nil_of_mem h)
      rw [if_pos h, if_pos h, ptF_more f g (tailL p) _ (by omega) (by omega)]
    · rw [if_neg h, if_neg h]
theorem pts_more {p : List UInt8} (q : List UInt8) (h : (47 : UInt8) ∈ p) : ptsL p q = ptOne p q ++ ptsL (tailL p) (q.drop ((headL p).length + 1)) := by
  have h3 := tail_less p (List.ne_nil_of_mem h)
  unfold ptsL
  rw [ptF, if_pos h, ptF_more p.length ((tailL p).length + 1) _ _ (by omega) (by omega)]
theorem pts_last {p : List UInt8} (q : List UInt8) (h : (47 : UInt8) ∉ p) : ptsL p q = ptOne p q := by
  unfold ptsL
  rw [ptF, if_neg h, List.append_nil]
theorem ptF_sizes : ∀ (f : Nat) (p q : List UInt8), (ptF f p q).length ≤ p.length ∧ ∀ x ∈ ptF f p q, x.t ≠ [] ∧ x.t.length ≤ p.length ∧ x.q.length ≤ x.t.length
  | 0, _, _ => ⟨Nat.zero_le _, fun x h => by cases h⟩
  | f + 1, p, q => by
    have hh := head_len p
    have hone : (ptOne p q).length ≤ (headL p).length ∧ ∀ x ∈ ptOne p q, x.t ≠ [] ∧ x.t.length ≤ p.length ∧ x.q.length ≤ x.t.length := by
      unfold ptOne
      by_cases h : headL p = []
      · rw [if_pos h]; exact ⟨Nat.zero_le _, fun x h => by cases h⟩
      · rw [if_neg h]
        refine ⟨by have := List.length_pos_iff.2 h; simp; omega, fun x hx => ?_⟩
        rw [List.mem_singleton] at hx
        subst hx
        exact ⟨h, hh, by simp; omega⟩
    unfold ptF
    by_cases h : (47 : UInt8) ∈ p
    · rw [if_pos h]
      obtain ⟨i1, i2⟩ := ptF_sizes f (tailL p) (q.drop ((headL p).length + 1))
      have hl : (headL p).length + (tailL p).length ≤ p.length := by
        clear hone i1 i2 hh
        induction p with
        | nil => simp [headL, tailL]
        | cons c r ih =>
          unfold headL tailL
          by_cases hc : c = 47
          · rw [if_pos hc, if_pos hc]; simp
          · rw [if_neg hc, if_neg hc]
            have := ih ((List.mem_cons.1 h).resolve_left (fun e => hc e.symm))
            simp only [List.length_cons]; omega
      refine ⟨by rw [List.length_append]; omega, fun x hx => ?_⟩
      rcases List.mem_append.1 hx with hx | hx
      · exact hone.2 x hx
      · obtain ⟨j1, j2, j3⟩ := i2 x hx
        exact ⟨j1, by omega, j3⟩
    · rw [if_neg h, List.append_nil]
      exact ⟨by omega, hone.2⟩
theorem pts_sizes (p q : List UInt8) : (ptsL p q).length ≤ p.length ∧ ∀ x ∈ ptsL p q, x.t ≠ [] ∧ x.t.length ≤ p.length ∧ x.q.length ≤ x.t.length := ptF_sizes _ p q

/-- A path so far, and the directory that it leads to. -/
abbrev Fd := List UInt8 × Int
def dirAtW (L : List Ino) (cwd : Int) (path : List UInt8) : Int × Bool := ((walkW L cwd path true).1, (walkW L cwd path true).2 == 0 && dirB L (walkW L cwd path true).1)
def wantsW (x : Pl) (n : List UInt8) : Bool := !(n.head? == some 46 && x.head?.map Prod.fst != some 46) && decide (Mat (raw x) n)
def namesW (L : List Ino) (d : Int) (x : Pt) : List (List UInt8) := if magB x.L = false then [x.t] else if mayL L d 4 = true then ((nodeAt L d).kids.map Prod.fst).filter (wantsW x.L) else []
def reachW (L : List Ino) (cwd : Int) (path : List UInt8) (x : Pt) : Option Fd :=
  if x.sl = true then (if (dirAtW L cwd path).2 = true then some (path ++ [47], (dirAtW L cwd path).1) else none)
  else if magB x.L = true then some (path, 0) else if (walkW L cwd path false).2 = 0 then some (path, 0) else none
def oneW (L : List Ino) (cwd : Int) (x : Pt) (f : Fd) : List Fd := (namesW L f.2 x).filterMap fun n => reachW L cwd (f.1 ++ n) x
def behW (L : List Ino) (cwd : Int) (F : List Fd) (x : Pt) : List Fd := F.flatMap (oneW L cwd x)
def begW (L : List Ino) (cwd : Int) (p : List UInt8) : List Fd :=
  if (dirAtW L cwd (if wholeL p = true then [47] else [46])).2 = true then [(if wholeL p = true then [47] else [], (dirAtW L cwd (if wholeL p = true then [47] else [46])).1)] else []
def runW (L : List Ino) (cwd : Int) : List Fd → List Pt → Option (List Fd)
  | F, [] => some F
  | F, x :: r => if 1024 < (behW L cwd F x).length then none else runW L cwd (behW L cwd F x) r
def leB (x y : List UInt8) : Bool := decide (x ≤ y)
def ansW : Option (List Fd) → List (List UInt8)
  | none => []
  | some F => (F.map Prod.fst).mergeSort leB
def globW (L : List Ino) (cwd : Int) (p q : List UInt8) : List (List UInt8) := if magB (plL p q) = false then [] else ansW (runW L cwd (begW L cwd p) (ptsL p q))

theorem names_len {L : List Ino} {m b : Int} (hF : FitP L m b) (d : Int) (x : Pt) : (namesW L d x).length ≤ 1024 ∧ ∀ n ∈ namesW L d x, n.length ≤ x.t.length + 64 := by
  unfold namesW
  split
  · refine ⟨by simp, fun n hn => ?_⟩
    rw [List.mem_singleton] at hn
    subst hn; omega
  · split
    · rename_i hm
      have ht : thereB L d = true := live_there (by unfold mayL at hm; simp only [Bool.and_eq_true] at hm; exact hm.1.2)
      obtain ⟨u, rfl, hu⟩ := there_nat ht
      rw [node_nat L u hu]
      have h6 := short_of hF.ins u hu
      refine ⟨Nat.le_trans (List.length_filter_le _ _) (by rw [List.length_map]; exact h6.1), fun n hn => ?_⟩
      obtain ⟨hn, -⟩ := List.mem_filter.1 hn
      obtain ⟨e, he, rfl⟩ := List.mem_map.1 hn
      have := h6.2 e he
      omega
    · exact ⟨by simp, fun n hn => by cases hn⟩
theorem reach_len {L : List Ino} {cwd : Int} {p : List UInt8} {x : Pt} {f : Fd} (h : reachW L cwd p x = some f) : f.1.length ≤ p.length + 1 := by
  unfold reachW at h
  split at h
  · split at h
    · cases h; simp
    · cases h
  · split at h
    · cases h; simp
    · split at h
      · cases h; simp
      · cases h
theorem beh_len {L : List Ino} {m b : Int} (hF : FitP L m b) (cwd : Int) (F : List Fd) (x : Pt) (B : Nat) (hB : ∀ f ∈ F, f.1.length ≤ B) : ∀ f ∈ behW L cwd F x, f.1.length ≤ B + x.t.length + 65 := fun f hf => by
  obtain ⟨g, hg, hf⟩ := List.mem_flatMap.1 hf
  obtain ⟨n, hn, hf⟩ := List.mem_filterMap.1 hf
  have h1 := reach_len hf
  have h2 := (names_len hF g.2 x).2 n hn
  have h3 := hB g hg
  rw [List.length_append] at h1
  omega
theorem beg_len (L : List Ino) (cwd : Int) (p : List UInt8) : (begW L cwd p).length ≤ 1 ∧ ∀ f ∈ begW L cwd p, f.1.length ≤ 1 := by
  unfold begW
  cases hd : (dirAtW L cwd (if wholeL p = true then [47] else [46])).2 with
  | true =>
    rw [if_pos rfl]
    refine ⟨by simp, fun f hf => ?_⟩
    rw [List.mem_singleton] at hf
    subst hf
    show (if wholeL p = true then [47] else [] : List UInt8).length ≤ 1
    split <;> simp
  | false =>
    rw [if_neg (by simp)]
    exact ⟨by simp, fun f hf => by cases hf⟩
end Go.Proofs.YtclhpedecimicaaGreat
