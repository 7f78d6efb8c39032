/-
  walk's refused, of the landed code.
  walk's step, of the landed code.
  walk's enter, of the landed code: a path's names are laid on those that are left.
  walk's leaveOut and names, of the landed code.
  walk's names, of the landed code: an iterator over the names that are left, whatever is laid on them on the way.
-/
import Derived.Test.YtclhpedecimicaaGreatK18
import Derived.Deep.QuietTactic
import Derived.BigQuiet
import Derived.Test.YtclhpedecimicaaGreatK10
import Derived.Test.YtclhpedecimicaaGreatK2
import Derived.Deep.RegionHeld
import Derived.Test.YtclhpedecimicaaGreatK12
import Derived.RegionIn
namespace Go.Proofs.YtclhpedecimicaaGreat
set_option maxRecDepth 100000
open Go Go.RowKit

set_option maxHeartbeats 1000000 in
theorem lcontF_known (N : List (List UInt8)) (hN : N.length ≤ 1048576) (v : Value) (w : World) (hV : View w v N) (R : Bool) (hR : (N.any fun x => decide (64 < x.length)) = R) :
    Calls Tryz.prog 86 #[v, .func (.func 88) #[] #[]] w fun e w' => e = .returned (.bool R) ∧ w' = w := by
  have HV := Lib.hid hV
  have HR := Lib.hid hR
  clear hV hR
  go_enter Tryz.func86, Tryz.ntmps86
  go_wp2_with fail
  refine (lindexF_any N hN v _ HV.out).mono ?_
  rintro e w' ⟨⟨z, rfl, hz⟩, rfl⟩
  rw [HR.out] at hz
  have HZ := Lib.hid hz
  clear hz
  go_wp2_with fail
  go_ret
  refine ⟨?_, rfl⟩
  rw [← HZ.out]
  rfl

theorem lparts_view (p : List UInt8) (hp : p.length ≤ 1073741824) (w : World) :
    Calls Tryz.prog 87 #[.string ⟨p.toArray⟩] w fun e w' => ∃ v, e = .returned v ∧ View w' v (partsL p) ∧ Below w.heap.size w w' :=
  (parts_any ⟨p.toArray⟩ (by rw [str_len]; exact hp) w).mono fun e w' ⟨v, h1, h2, h3⟩ => ⟨v, h1, h2.view, h3⟩

set_option maxRecDepth 100000 in
set_option maxHeartbeats 4000000 in
theorem refused_any (a : Option Addr) (cap : Nat) (m b cwd : Int) (p : List UInt8) (hp : p.length ≤ 1073741824) (L : List Ino) (w : World) (hN : NodesIn w a cap L) :
    Calls Tryz.prog 64 #[.agg #[.slice a L.length cap, .int .i64 m, .int .i64 b], .int .i64 cwd, .string ⟨p.toArray⟩] w fun e w' => e = .returned (.int .i64 (badW L cwd p)) ∧ Below w.heap.size w w' := by
  have hb1 := below_box w (.cells #[.slice a L.length cap, .int .i64 m, .int .i64 b] 24)
  have HM := Lib.hid (hN.below hb1)
  have HB1 := Lib.hid hb1
  have hs := str_len p
  obtain ⟨R, hR⟩ : ∃ R, R = badW L cwd p := ⟨_, rfl⟩
  rw [← hR]
  have HR := Lib.hid hR
  clear hN hb1 hR
  by_cases hp0 : p = []
  · subst hp0
    have HW := Lib.hid (show R = 2 by rw [HR.out]; unfold badW; rw [if_pos (Or.inl rfl)])
    go_enter Tryz.func64, Tryz.ntmps64
    go_wp2_with fail
    go_ret
    exact ⟨by rw [HW.out]; rfl, HB1.out⟩
  · have hpb : (p == []) = false := by simpa using hp0
    obtain ⟨z, hz⟩ : ∃ z, kindL L cwd = z := ⟨_, rfl⟩
    have HZ := Lib.hid hz
    have hzd := kind_dir (L := L) (k := cwd)
    rw [hz] at hzd
    cases hd : dirB L cwd with
    | false =>
      rw [hd] at hzd
      have HW := Lib.hid (show R = 2 by rw [HR.out]; unfold badW; rw [if_pos (Or.inr hd)])
      clear hd hp0 hz
      simp only [Bool.not_false] at hzd
      go_enter Tryz.func64, Tryz.ntmps64
      go_wp2_with (first | (go_at_call 68; refine (kind_known _ _ _ _ _ L _ HZ.out _ HM.out).mono ?_; rintro e w2 ⟨rfl, hb2⟩) | fail)
      go_ret
      exact ⟨by rw [HW.out]; rfl, HB1.out.trans (hb2.mono (by simp))⟩
    | true =>
      rw [hd] at hzd
      have HW := Lib.hid (show R = if longB p then 36 else 0 by rw [HR.out]; unfold badW; rw [if_neg (by simp [hp0, hd])])
      clear hd hp0 hz
      simp only [Bool.not_true] at hzd
      by_cases hl : 1024 < p.length
      · have HW2 := Lib.hid (show R = 36 by rw [HW.out]; unfold longB; rw [decide_eq_true hl]; rfl)
        go_enter Tryz.func64, Tryz.ntmps64
        go_wp2_with (first | (go_at_call 68; refine (kind_known _ _ _ _ _ L _ HZ.out _ HM.out).mono ?_; rintro e w2 ⟨rfl, hb2⟩) | fail)
        go_ret
        exact ⟨by rw [HW2.out]; rfl, HB1.out.trans (hb2.mono (by simp))⟩
      · have hl1 : p.length ≤ 1024 := by omega
        have HCL := Lib.hid (show (partsL p).length ≤ 1048576 by have := count_parts p; omega)
        have hlf : decide (1024 < p.length) = false := decide_eq_false hl
        obtain ⟨lb, hlb⟩ : ∃ lb, ((partsL p).any fun x => decide (64 < x.length)) = lb := ⟨_, rfl⟩
        have HLB := Lib.hid hlb
        have HW2 := Lib.hid (show R = if lb = true then 36 else 0 by rw [HW.out, longB_of p hl1, hlb])
        clear hl hlb HW
        go_enter Tryz.func64, Tryz.ntmps64
        go_wp2_with fail
        refine (kind_known _ _ _ _ _ L _ HZ.out _ HM.out).mono ?_
        rintro e w2 ⟨rfl, hb2⟩
        have HB2 := Lib.hid (HB1.out.trans (hb2.mono (by simp)))
        clear hb2
        go_wp2_with fail
        refine (lparts_view p hp _).mono ?_
        rintro e w3 ⟨v3, rfl, hv3, hb3⟩
        have HV := Lib.hid hv3
        have HB3 := Lib.hid (HB2.out.trans (hb3.mono HB2.out.size))
        clear hv3 hb3
        go_wp2_with fail
        refine (lcontF_known _ HCL.out _ _ HV.out lb HLB.out).mono ?_
        rintro e w' ⟨rfl, rfl⟩
        cases lb
        all_goals
          go_wp2_with fail
          go_ret
          exact ⟨by rw [HW2.out]; rfl, HB3.out⟩
end Go.Proofs.YtclhpedecimicaaGreat

namespace Go.Proofs.YtclhpedecimicaaGreat
set_option maxRecDepth 100000
open Go Go.RowKit

theorem way_cells {n₀ g : Nat} {T : Value × Value × Value} {W : World} {p : Int} {st : List (List UInt8)} {links : Int} (h : WayAt n₀ g T W p st links) :
    W.cell? ⟨g, 0, none⟩ = some T.1 ∧ W.cell? ⟨g, 1, none⟩ = some T.2.1 ∧ W.cell? ⟨g, 2, none⟩ = some T.2.2 ∧ W.cell? ⟨g, 3, none⟩ = some (.int .i64 p) ∧ (∃ v, W.cell? ⟨g, 4, none⟩ = some v ∧ Held n₀ W v st) ∧ W.cell? ⟨g, 5, none⟩ = some (.int .i64 links) := by
  obtain ⟨_, v, h1, h2⟩ := h
  exact ⟨cell_in h1 rfl, cell_in h1 rfl, cell_in h1 rfl, cell_in h1 rfl, ⟨v, cell_in h1 rfl, h2⟩, cell_in h1 rfl⟩

theorem way_frozen {n₀ g : Nat} {T : Value × Value × Value} {W : World} {p : Int} {st : List (List UInt8)} {links : Int} (h : WayAt n₀ g T W p st links) (i : Nat) : W.frozen? ⟨g, i, none⟩ = false := by
  obtain ⟨_, v, h1, -⟩ := h
  simp only [World.frozen?, h1]
  simp

set_option maxRecDepth 100000 in
set_option maxHeartbeats 8000000 in
theorem lstep_any (n₀ g : Nat) (a : Option Addr) (cap : Nat) (m b p links : Int) (st : List (List UInt8)) (x : List UInt8) (L : List Ino) (hF : FitP L m b) (w : World) (hN : NodesIn w a cap L) (hW : WayAt n₀ g (.slice a L.length cap, .int .i64 m, .int .i64 b) w p st links) :
    Calls Tryz.prog 92 #[.pointer (some ⟨g, 0, none⟩), .string ⟨x.toArray⟩] w fun e w' => e = .returned (.tuple #[.int .i64 (stepW L p x).1, .int .i64 (stepW L p x).2]) ∧ Below w.heap.size w w' := by
  obtain ⟨c0, c1, c2, c3, -, -⟩ := way_cells hW
  have hg := hW.lt
  have HN := Lib.hid hN
  have HF := Lib.hid hF
  have HI := Lib.hid hF.ins
  have hcap := hN.1
  have hmax := hN.2.1
  unfold maxLen at hmax
  obtain ⟨F, hFe⟩ : ∃ F, F = stepW L p x := ⟨_, rfl⟩
  rw [← hFe]
  have HFE := Lib.hid hFe
  obtain ⟨z, hz⟩ : ∃ z, kindL L p = z := ⟨_, rfl⟩
  have HZ := Lib.hid hz
  have hzd := kind_dir (L := L) (k := p)
  rw [hz] at hzd
  have H1 := Lib.hid (grown_call (wb := w) (fun W hW => kind_known a cap m b p L z HZ.out W (HN.out.below hW)))
  have f0 := grown_cell c0
  have f1 := grown_cell c1
  have f2 := grown_cell c2
  have f3 := grown_cell c3
  try simp only at f0 f1 f2
  clear hN hF hFe hz hW
  cases hd : dirB L p with
  | false =>
    rw [hd] at hzd
    have HV := Lib.hid (show F = (0, 20) by rw [HFE.out]; unfold stepW; rw [hd, if_pos rfl])
    simp only [Bool.not_false] at hzd
    clear hd
    go_enter Tryz.func92, Tryz.ntmps92
    go_wp2_with fail
    refine wp_region_grown (by kernel_rfl) (by kernel_rfl) ?_
    repeat (first | go_big_quiet_skip | (go_big_quiet_want; go_big_quiet_op; (first | go_big_quiet_on | (refine ⟨_, H1.out, ?_⟩; go_big_quiet_on))))
    refine wpQuiet_nil ?_
    intro w8 hw8
    have HB8 := Lib.hid (show Below w.heap.size w w8 from by obtain ⟨x, rfl⟩ := hw8; exact x.below)
    clear hw8 f0 f1 f2 f3 H1
    go_wp2_with fail
    go_ret2
    exact ⟨by rw [HV.out]; rfl, HB8.out⟩
  | true =>
    rw [hd] at hzd
    simp only [Bool.not_true] at hzd
    obtain ⟨n, rfl, hn⟩ := dir_lt hd
    have HD := Lib.hid hd
    obtain ⟨my, hmy⟩ : ∃ my, mayL L (n : Int) 1 = my := ⟨_, rfl⟩
    have HMY := Lib.hid hmy
    clear hd hmy
    go_enter Tryz.func92, Tryz.ntmps92
    go_wp2_with fail
    refine wp_region_grown (by kernel_rfl) (by kernel_rfl) ?_
    repeat (first | go_big_quiet_skip | (go_big_quiet_want; go_big_quiet_op; (first | go_big_quiet_on | (refine ⟨_, H1.out, ?_⟩; go_big_quiet_on))))
    refine wpQuiet_nil ?_
    intro w1 hw1
    have HB1 := Lib.hid (show Below w.heap.size w w1 from by obtain ⟨x, rfl⟩ := hw1; exact x.below)
    clear hw1 f0 f1 f2 f3 H1
    have d0 := cell_below HB1.out c0
    have d1 := cell_below HB1.out c1
    have d2 := cell_below HB1.out c2
    have d3 := cell_below HB1.out c3
    try simp only at d0 d1 d2
    have H2 := Lib.hid (grown_call (wb := w1) (fun W hW => lmayw_known a cap m b (n : Int) 1 L HI.out my HMY.out W (HN.out.below (HB1.out.trans (hW.mono HB1.out.size)))))
    have f0 := grown_cell d0
    have f1 := grown_cell d1
    have f2 := grown_cell d2
    have f3 := grown_cell d3
    clear d0 d1 d2 d3
    go_wp2_with fail
    refine wp_region_grown (by kernel_rfl) (by kernel_rfl) ?_
    repeat (first | go_big_quiet_skip | (go_big_quiet_want; go_big_quiet_op; (first | go_big_quiet_on | (refine ⟨_, H2.out, ?_⟩; go_big_quiet_on))))
    refine wpQuiet_nil ?_
    intro w2 hw2
    have hb12 : Below w1.heap.size w1 w2 := by obtain ⟨x, rfl⟩ := hw2; exact x.below
    have HB2 := Lib.hid (HB1.out.trans (hb12.mono HB1.out.size))
    have HN2 := Lib.hid (HN.out.below HB2.out)
    clear hw2 f0 f1 f2 f3 H2 hb12
    have d0 := cell_below HB2.out c0
    have d1 := cell_below HB2.out c1
    have d2 := cell_below HB2.out c2
    have d3 := cell_below HB2.out c3
    try simp only at d0 d1 d2
    clear c0 c1 c2 c3
    cases my with
    | false =>
      have HV := Lib.hid (show F = (0, 13) by rw [HFE.out]; unfold stepW; rw [HD.out, HMY.out, if_neg (by simp), if_pos rfl])
      go_wp2_with fail
      go_ret2
      exact ⟨by rw [HV.out]; rfl, HB2.out⟩
    | true =>
      have HV := Lib.hid (show F = if x = [46] then ((n : Int), 0) else if x = [46, 46] then ((nodeAt L (n : Int)).up, 0) else if kidL L (n : Int) x < 0 then (0, 2) else (kidL L (n : Int) x, 0) by rw [HFE.out]; unfold stepW; rw [HD.out, HMY.out, if_neg (by simp), if_neg (by simp)])
      have hlive : ∀ k, liveB L k = true → ∃ ku, kindL L k = ku ∧ (ku == 0) = false := fun k hk => ⟨_, rfl, by have h := kind_live (L := L) (k := k); rw [hk] at h; exact h⟩
      have HLV := Lib.hid hlive
      clear hlive
      cases hx1 : (x == [46]) with
      | true =>
        have HW := Lib.hid (show F = ((n : Int), 0) by rw [HV.out, if_pos (by simpa using hx1)])
        obtain ⟨ku, hku, hku0⟩ := HLV.out (n : Int) (live_of_dir HD.out)
        have HKU := Lib.hid hku
        clear hku
        go_wp2_with fail
        refine (kind_known a cap m b (n : Int) L ku HKU.out _ HN2.out).mono ?_
        rintro e w9 ⟨rfl, hb9⟩
        have HB9 := Lib.hid (HB2.out.trans (hb9.mono HB2.out.size))
        clear hb9
        go_wp2_with fail
        go_ret2
        exact ⟨by rw [HW.out]; rfl, HB9.out⟩
      | false =>
        have hne1 : ¬ x = [46] := by simpa using hx1
        cases hx2 : (x == [46, 46]) with
        | true =>
          have HW := Lib.hid (show F = (L[n].up, 0) by rw [HV.out, if_neg hne1, if_pos (by simpa using hx2), node_nat L n hn])
          have hud := up_dir HF.out HD.out
          rw [node_nat L n hn] at hud
          obtain ⟨ku, hku, hku0⟩ := HLV.out L[n].up (live_of_dir hud)
          have HKU := Lib.hid hku
          obtain ⟨bb, o, rfl, hxx⟩ := HN2.out.2.2 n hn
          have f0 := grown_cell d0
          have f1 := grown_cell d1
          have f2 := grown_cell d2
          have f3 := grown_cell d3
          have f5 := grown_cell hxx.up
          have hd0 : (0 : Int) ≤ (n : Int) := by omega
          have hd1 : (n : Int) < (L.length : Int) := by omega
          clear hku hud hne1 hxx
          go_wp2_with fail
          refine wp_region_grown (by kernel_rfl) (by kernel_rfl) ?_
          repeat (first | go_big_quiet_skip | (go_big_quiet_want; go_big_quiet_op; go_big_quiet_on))
          refine wpQuiet_nil ?_
          intro w3 hw3
          have hb3 : Below w2.heap.size w2 w3 := by obtain ⟨x, rfl⟩ := hw3; exact x.below
          have e0 := cell_below hb3 d0
          have e1 := cell_below hb3 d1
          have e2 := cell_below hb3 d2
          have HB3 := Lib.hid (HB2.out.trans (hb3.mono HB2.out.size))
          have HN3 := Lib.hid (HN2.out.below hb3)
          clear hw3 hb3 f0 f1 f2 f3 f5 d0 d1 d2 d3
          go_wp2_with fail
          refine (kind_known _ cap m b L[n].up L ku HKU.out _ HN3.out).mono ?_
          rintro e w9 ⟨rfl, hb9⟩
          have HB9 := Lib.hid (HB3.out.trans (hb9.mono HB3.out.size))
          clear hb9
          go_wp2_with fail
          go_ret2
          exact ⟨by rw [HW.out]; rfl, HB9.out⟩
        | false =>
          have hne2 : ¬ x = [46, 46] := by simpa using hx2
          obtain ⟨kz, hkz⟩ : ∃ kz, kidL L (n : Int) x = kz := ⟨_, rfl⟩
          have HKZ := Lib.hid hkz
          have HW := Lib.hid (show F = if kz < 0 then (0, 2) else (kz, 0) by rw [HV.out, if_neg hne1, if_neg hne2, hkz])
          have hdec : (kz < 0 ∧ kindL L kz = 0) ∨ (0 ≤ kz ∧ ∃ ku, kindL L kz = ku ∧ (ku == 0) = false) := by
            by_cases h : kz < 0
            · refine Or.inl ⟨h, ?_⟩
              unfold kindL thereB
              rw [decide_eq_false (by omega)]
              rfl
            · refine Or.inr ⟨by omega, HLV.out _ ?_⟩
              rw [← hkz]
              exact kid_live HF.out (by omega)
          have H3 := Lib.hid (grown_call (wb := w2) (fun W hW => lkid_known a cap m b (n : Int) x L (kids_rise HI.out) kz HKZ.out W (HN2.out.below hW)))
          have f0 := grown_cell d0
          have f1 := grown_cell d1
          have f2 := grown_cell d2
          have f3 := grown_cell d3
          clear hkz hne1 hne2
          go_wp2_with fail
          refine wp_region_grown (by kernel_rfl) (by kernel_rfl) ?_
          repeat (first | go_big_quiet_skip | (go_big_quiet_want; go_big_quiet_op; (first | go_big_quiet_on | (refine ⟨_, H3.out, ?_⟩; go_big_quiet_on))))
          refine wpQuiet_nil ?_
          intro w3 hw3
          have hb3 : Below w2.heap.size w2 w3 := by obtain ⟨x, rfl⟩ := hw3; exact x.below
          have e0 := cell_below hb3 d0
          have e1 := cell_below hb3 d1
          have e2 := cell_below hb3 d2
          have HB3 := Lib.hid (HB2.out.trans (hb3.mono HB2.out.size))
          have HN3 := Lib.hid (HN2.out.below hb3)
          clear hw3 hb3 f0 f1 f2 f3 d0 d1 d2 d3 H3
          rcases hdec with ⟨hk0, hku⟩ | ⟨hk0, ku, hku, hku0⟩
          · have HKU := Lib.hid hku
            have HW2 := Lib.hid (show F = (0, 2) by rw [HW.out, if_pos hk0])
            clear hku
            go_wp2_with fail
            refine (kind_known _ cap m b kz L 0 HKU.out _ HN3.out).mono ?_
            rintro e w9 ⟨rfl, hb9⟩
            have HB9 := Lib.hid (HB3.out.trans (hb9.mono HB3.out.size))
            clear hb9
            go_wp2_with fail
            go_ret2
            exact ⟨by rw [HW2.out]; rfl, HB9.out⟩
          · have HKU := Lib.hid hku
            have HW2 := Lib.hid (show F = (kz, 0) by rw [HW.out, if_neg (by omega)])
            clear hku
            go_wp2_with fail
            refine (kind_known _ cap m b kz L ku HKU.out _ HN3.out).mono ?_
            rintro e w9 ⟨rfl, hb9⟩
            have HB9 := Lib.hid (HB3.out.trans (hb9.mono HB3.out.size))
            clear hb9
            go_wp2_with fail
            go_ret2
            exact ⟨by rw [HW2.out]; rfl, HB9.out⟩
end Go.Proofs.YtclhpedecimicaaGreat

namespace Go.Proofs.YtclhpedecimicaaGreat
set_option maxRecDepth 100000
open Go Go.RowKit Go.Shelf

attribute [local go_sem] Oper.semAt_some

theorem lpre_known (p : List UInt8) (b : Bool) (h : wholeL p = b) (w : World) : Calls Tryz.prog 33 #[.string ⟨p.toArray⟩, .string ⟨#[47]⟩] w fun e w' => e = .returned (.bool b) ∧ w = w' := by
  subst h
  have HL := Lib.hid (litepre_any ⟨p.toArray⟩)
  go_enter Tryz.func33, Tryz.ntmps33
  go_wp2_with (first | (go_at_call 49; refine (HL.out _).mono ?_; rintro e w' ⟨rfl, rfl⟩) | fail)
  go_ret
  exact ⟨rfl, rfl⟩

/-- A way's block, its row none of the blocks A. -/
def WayX (n₀ g : Nat) (T : Value × Value × Value) (A : Nat → Prop) (W : World) (p : Int) (st : List (List UInt8)) (links : Int) : Prop :=
  g < n₀ ∧ ∃ v, W.heap[g]? = some (.cells #[T.1, T.2.1, T.2.2, .int .i64 p, v, .int .i64 links] 113 (0, 0)) ∧ Held n₀ W v st ∧ ∀ k, A k → v.ownBlock ≠ some k
theorem WayX.way {n₀ g : Nat} {T : Value × Value × Value} {A : Nat → Prop} {W : World} {p : Int} {st : List (List UInt8)} {links : Int} (h : WayX n₀ g T A W p st links) : WayAt n₀ g T W p st links := by
  obtain ⟨h0, v, h1, h2, -⟩ := h
  exact ⟨h0, v, h1, h2⟩
theorem wayX_own {β : Type} (n₀ g : Nat) (T : Value × Value × Value) (A : Nat → Prop) (p : β → Int) (st : β → List (List UInt8)) (links : β → Int) : Own (fun (s : β) W => WayX n₀ g T A W (p s) (st s) (links s)) := fun s W W' row h hg hr => by
  obtain ⟨h0, v, h1, h2, h3⟩ := h
  refine ⟨h0, v, (grownBy_keeps_cells hg hr h1 rfl).trans h1, h2.kept fun k hk => ?_, h3⟩
  obtain ⟨-, cur, hc⟩ := h2.own hk
  exact grownBy_keeps_cells hg hr hc rfl
/-- A name is laid on the row. -/
theorem enter_next {n₀ g : Nat} {T : Value × Value × Value} {A : Nat → Prop} {W : World} {p : Int} {S : List (List UInt8)} {links : Int} {v v' : Value} {x : List UInt8} {w5 : World} {tmp : Obj} (h0 : g < n₀)
    (hb : W.heap[g]? = some (.cells #[T.1, T.2.1, T.2.2, .int .i64 p, v, .int .i64 links] 113 (0, 0))) (hh : Held n₀ W v S) (hap : ∀ k, A k → v.ownBlock ≠ some k) (hA : ∀ k, A k → k < W.heap.size)
    (hg5 : (W.drew.alloc tmp).grownBy w5 v.ownBlock) (hH5 : Held n₀ w5 v' (S ++ [x])) (hf5 : ∀ k, v'.ownBlock = some k → v.ownBlock = some k ∨ (W.drew.alloc tmp).heap.size ≤ k) :
    KeepsOthers W (w5.setCell ⟨g, 4, none⟩ v') ∧ (∀ k, k < W.heap.size → k ≠ g → v.ownBlock ≠ some k → (w5.setCell ⟨g, 4, none⟩ v').heap[k]? = W.heap[k]?) ∧ WayX n₀ g T A (w5.setCell ⟨g, 4, none⟩ v') p (S ++ [x]) links ∧ Moved g W (w5.setCell ⟨g, 4, none⟩ v') := by
  have hgW : g < W.heap.size := (Array.getElem?_eq_some_iff.1 hb).1
  have hown : ∀ k, v.ownBlock = some k → g ≠ k := fun k hk => by have := (hh.own hk).1; omega
  have hal : ∀ k, k < W.heap.size → (W.drew.alloc tmp).heap[k]? = W.heap[k]? := fun k hk => Below.heap_alloc W.drew tmp k hk
  have hsz : (W.drew.alloc tmp).heap.size = W.heap.size + 1 := by rw [World.size_alloc]; rfl
  have hw5 : ∀ k, k < W.heap.size → v.ownBlock ≠ some k → w5.heap[k]? = W.heap[k]? := fun k hk hne => (hg5.block k (by omega) (fun e => hne e.symm)).trans (hal k hk)
  have hg5g : w5.heap[g]? = some (.cells #[T.1, T.2.1, T.2.2, .int .i64 p, v, .int .i64 links] 113 (0, 0)) := (hw5 g hgW (fun e => hown g e rfl)).trans hb
  have hkept : ∀ k, k < W.heap.size → k ≠ g → v.ownBlock ≠ some k → (w5.setCell ⟨g, 4, none⟩ v').heap[k]? = W.heap[k]? := fun k hk hne ho => (Below.heap_setCell w5 ⟨g, 4, none⟩ v' k hne).trans (hw5 k hk ho)
  have hrow : ∀ (j : Nat) (o : Obj), v.ownBlock = some j → W.heap[j]? = some o → o.isCells = true ∧ notText o = false := fun j o hj ho => by
    obtain ⟨-, cur, hc⟩ := hh.own hj
    rw [hc] at ho
    cases ho
    exact ⟨rfl, by simp [notText]⟩
  have hsize : W.heap.size ≤ (w5.setCell ⟨g, 4, none⟩ v').heap.size := by
    have := hg5.size
    simp only [World.setCell, Array.size_modify]
    omega
  refine ⟨⟨hsize, fun k o hk ho => ?_⟩, hkept, ⟨h0, v', ?_, held_set hH5 h0 4 v', fun k hk e => ?_⟩, ⟨?_, fun k o hk hne ho => ?_⟩⟩
  · have hlt := (Array.getElem?_eq_some_iff.1 hk).1
    refine (hkept k hlt (fun e => ?_) (fun e => ?_)).trans hk
    · subst e
      rw [hb] at hk
      cases hk
      cases ho
    · rw [(hrow k o e hk).1] at ho
      cases ho
  · have h := set_heap hg5g 4 v'
    exact h
  · rcases hf5 k e with h | h
    · exact hap k hk h
    · have := hA k hk
      omega
  · have hb1 : Below g W w5 := ⟨hg5.os, hg5.tape, hg5.output, by have := hg5.size; omega, fun k hk => hw5 k (by omega) (fun e => by have := (hh.own e).1; omega)⟩
    exact hb1.setCell (p := ⟨g, 4, none⟩) (Nat.le_refl _) v'
  · have hlt := (Array.getElem?_eq_some_iff.1 hk).1
    refine (hkept k hlt hne (fun e => ?_)).trans hk
    rw [(hrow k o e hk).2] at ho
    cases ho
theorem moved_own {β : Type} {B : Nat} {g : Nat} {w : World} (hw : w.heap.size ≤ B) (hg : g ≤ w.heap.size) : OwnFrom B (fun (_ : β) W => Moved g w W) := fun _ X Y row h hgr hr => by
  refine ⟨h.below.grown hgr (Nat.le_trans hg h.below.size) (fun k e => Nat.le_trans hg (Nat.le_trans hw (hr k e).1)), fun k o hk hne hno => ?_⟩
  have hlt : k < w.heap.size := (Array.getElem?_eq_some_iff.1 hk).1
  exact (hgr.block k (Nat.lt_of_lt_of_le hlt h.below.size) (fun e => by have := (hr k e.symm).1; omega)).trans (h.kept k o hk hne hno)

theorem set_sizeW (W : World) (a : Addr) (v : Value) : (W.setCell a v).heap.size = W.heap.size := by simp [World.setCell]
theorem way_set3 {n₀ g : Nat} {T : Value × Value × Value} {W : World} {p : Int} {st : List (List UInt8)} {links : Int} (h : WayAt n₀ g T W p st links) (q : Int) : WayAt n₀ g T (W.setCell ⟨g, 3, none⟩ (.int .i64 q)) q st links := by
  obtain ⟨h0, v, h1, h2⟩ := h
  exact ⟨h0, v, set_heap h1 3 _, held_set h2 h0 3 _⟩

theorem cell_grows {w : World} {o : Obj} {a : Addr} {u : Value} (h : w.cell? a = some u) : (w.alloc o).cell? a = some u := cell_below (below_box w o) h
theorem cell_other {W : World} {g i b j : Nat} {u : Value} (h : b ≠ g) : (W.setCell ⟨g, i, none⟩ u).cell? ⟨b, j, none⟩ = W.cell? ⟨b, j, none⟩ := World.cell?_of_block (Below.heap_setCell W ⟨g, i, none⟩ u b h)
theorem view_one (w : World) (x : List UInt8) : View (w.alloc (.cells #[.string ⟨x.toArray⟩] 9)) (.slice (some ⟨w.heap.size, 0, none⟩) 1 1) [x] := by
  refine ⟨_, 1, rfl, Nat.le_refl _, by decide, fun i hi => ⟨w.heap.size, 0, rfl, ?_⟩⟩
  obtain rfl : i = 0 := by simpa using hi
  exact cell_in (new_block w _) rfl

set_option maxRecDepth 100000 in
set_option maxHeartbeats 4000000 in
theorem enter_in (F : Fence) (hwide : F = Fence.wide) (n : Nat) (hn : 4 ≤ n) (n₀ g : Nat) (T : Value × Value × Value) (p0 links : Int) (st : List (List UInt8)) (p : List UInt8) (hp : p.length ≤ 100000) (hst : st.length ≤ 100000) (w : World) (hn₀ : n₀ ≤ w.heap.size) (hW : WayAt n₀ g T w p0 st links) :
    CallsIn F n Tryz.prog 66 #[.pointer (some ⟨g, 0, none⟩), .string ⟨p.toArray⟩] w fun e w' => (∃ u, e = .returned u) ∧ WayAt n₀ g T w' (if wholeL p then 0 else p0) (st ++ (partsL p).reverse) links ∧ Moved g w w' := by
  have hO : Open F := by rw [hwide]; exact open_wide
  have hro : F.round = none := hO.ro
  have h41 : F.fn 33 := hO.fn _
  have h38 : F.fn 87 := hO.fn _
  have h42 : F.fn 90 := hO.fn _
  have h1 : 1 ≤ n := by omega
  have hlt := hW.lt
  obtain ⟨c0, c1, c2, c3, -, c5⟩ := way_cells hW
  have f3 := way_frozen hW 3
  have f4 := way_frozen hW 4
  have HW := Lib.hid hW
  have HWIDE := Lib.hid hwide
  clear hW hwide
  refine callsIn_of_wp_marks Tryz.func66 rfl (hO.fn _) ?_ hro
  simp only [Tryz.ntmps66, List.size_toArray, List.length_cons, List.length_nil, Nat.reduceAdd, Nat.reduceSub, Array.replicate_succ, Array.replicate_zero, List.push_toArray, List.append_toArray, List.nil_append, List.cons_append]
  cases hwh : wholeL p with
  | true =>
    have HWH := Lib.hid hwh
    obtain ⟨U, hUe⟩ : ∃ U, U = (w.setCell ⟨g, 3, none⟩ (.int .i64 0)).alloc (.cells #[.pointer (some ⟨g, 0, none⟩)] 136) := ⟨_, rfl⟩
    have hUs : U.heap.size = w.heap.size + 1 := by rw [hUe]; simp [World.setCell]
    have HUW := Lib.hid (show WayAt n₀ g T U 0 st links by rw [hUe]; exact (way_set3 HW.out 0).below (below_box _ _))
    have HUM := Lib.hid (show Moved g w U by rw [hUe]; exact (Moved.set w 3 _).trans (Moved.of_below (below_box _ _) (by rw [set_sizeW]; exact Nat.le_of_lt hlt)))
    have HUB := Lib.hid (show U.heap[w.heap.size]? = some (.cells #[.pointer (some ⟨g, 0, none⟩)] 136) by rw [hUe]; exact (by have h := new_block (w.setCell ⟨g, 3, none⟩ (.int .i64 0)) (Obj.cells #[.pointer (some ⟨g, 0, none⟩)] 136); rw [set_sizeW] at h; exact h))
    gi_wp2_with (first | (gi_at_call 33; refine (hO.calls (lpre_known p _ HWH.out _)).mono ?_; rintro e w' ⟨rfl, rfl⟩) | (gi_at_call 87; rw [← hUe]; refine (hO.calls (parts_any ⟨p.toArray⟩ (by rw [str_len]; omega) U)).mono ?_; rintro e w3 ⟨v3, rfl, hT3, hb3⟩; (obtain ⟨na, nc, rfl, -, -, -⟩ := hT3.view); have HT3 := Lib.hid hT3; have HB3 := Lib.hid hb3; clear hT3 hb3) | (gi_at_call 90; refine (back_in F hO (n - 1) _ _ _ _).mono ?_; rintro e w4 ⟨rfl, hw4⟩) | fail)
    obtain ⟨N, hNe⟩ : ∃ N, N = partsL (⟨p.toArray⟩ : ByteArray).data.toList := ⟨_, rfl⟩
    have hNp : N = partsL p := hNe
    have hNl : N.length ≤ 100001 := by rw [hNp]; have := count_parts p; omega
    rw [← hNe] at HT3 hw4
    try rw [← hNe]
    rw [← hw4]
    
    obtain ⟨v3, hv3⟩ : ∃ v3, v3 = Value.slice na N.length nc := ⟨_, rfl⟩
    have HT := Lib.hid HT3.out
    rw [← hv3] at HT
    have hs3 := HB3.out.size
    have hs4 : w4.heap.size = w3.heap.size + 1 := by rw [hw4]; simp
    have hb4 : Below w3.heap.size w3 w4 := by rw [hw4]; exact below_box _ _
    have hbU : Below U.heap.size U w4 := HB3.out.trans (hb4.mono hs3)
    have hgU : g < U.heap.size := by omega
    have hown : ∀ k, v3.ownBlock = some k → U.heap.size ≤ k ∧ k < w3.heap.size := fun k hk => ⟨(HT.out.held.own hk).1, by obtain ⟨-, cur, hc⟩ := HT.out.held.own hk; exact (Array.getElem?_eq_some_iff.1 hc).1⟩
    have hrow : RowIn w3.heap.size v3 U.heap.size N w4 := ⟨by rw [hw4, hv3]; exact (Boxed.new w3 29 _).cell, HT.out.held.kept fun k hk => hb4.block k (hown k hk).2⟩
    have hx4 : WayX n₀ g T (fun k => v3.ownBlock = some k ∨ k = w3.heap.size) w4 0 (st ++ ([] : List (Nat × List UInt8)).map Prod.snd) links := by
      obtain ⟨h0, v, h1, h2⟩ := HUW.out
      refine ⟨h0, v, (hbU.block g hgU).trans h1, ?_, fun k hk e => ?_⟩
      · rw [List.map_nil, List.append_nil]
        exact h2.kept fun k hk => by obtain ⟨-, cur, hc⟩ := h2.own hk; exact hbU.block k (Array.getElem?_eq_some_iff.1 hc).1
      · obtain ⟨-, cur, hc⟩ := h2.own e
        have h3 := (Array.getElem?_eq_some_iff.1 hc).1
        rcases hk with hk | hk
        · have h4 := (hown k hk).1
          omega
        · omega
    have hbx : Boxed w4 w.heap.size 136 (.pointer (some ⟨g, 0, none⟩)) := (hbU.block _ (by omega)).trans HUB.out
    have hmv : Moved g w w4 := HUM.out.trans (Moved.of_below hbU (by omega))
    have HX4 := Lib.hid hx4
    have HBX := Lib.hid hbx
    have HMV := Lib.hid hmv
    have HROW := Lib.hid hrow
    have HOWN := Lib.hid hown
    have HNP := Lib.hid hNp
    clear hx4 hbx hmv hrow hown hb4 hbU hNe hNp HT HT3 HB3 HUB HUM HUW hUe hw4 c0 c1 c2 c3 c5 f3 f4
    rw [← hv3]
    clear hv3
    refine wpIn_rangeFunc_ownG hro h1 (gf := 109) (lb := #[.pointer (some ⟨w3.heap.size, 0, none⟩)]) rfl (hO.fn _) (enters_of Tryz.func109 (by kernel_rfl) rfl)
      (back_stops F hO (n - 1) (by omega) w3.heap.size U.heap.size v3 N (by omega) w4 (by omega) (fun k hk => by have := (HOWN.out k hk).2; omega) HROW.out) keepR_t (keepR_b (by omega) (fun k hk => by have := (HOWN.out k hk).2; omega)) (Below.refl _ _) (fun _ => rfl)
      (fun pre W => WayX n₀ g T (fun k => v3.ownBlock = some k ∨ k = w3.heap.size) W 0 (st ++ pre.map Prod.snd) links ∧ Boxed W w.heap.size 136 (.pointer (some ⟨g, 0, none⟩)) ∧ Moved g w W ∧ w4.heap.size ≤ W.heap.size)
      (fun _ _ _ => False)
      (OwnFrom.and (Own.from (wayX_own n₀ g T (fun k => v3.ownBlock = some k ∨ k = w3.heap.size) (fun _ => 0) (fun pre : List (Nat × List UInt8) => st ++ pre.map Prod.snd) (fun _ => links)) _) (OwnFrom.and (Own.from (boxed_own _ _ _) _) (OwnFrom.and (moved_own (by omega) (by omega)) (fun _ X Y row h hg _ => Nat.le_trans h hg.size))))
      (fun _ _ _ _ _ hs _ _ => hs)
      ⟨HX4.out, HBX.out, HMV.out, Nat.le_refl _⟩
      (fun x => { tmps := #[.pointer (some ⟨g, 0, none⟩), .string ⟨p.toArray⟩, .pointer (some ⟨w.heap.size, 0, none⟩), undef, undef, .string ⟨x.2.toArray⟩, .string ⟨p.toArray⟩, .bool true, .pointer (some ⟨g, 0, none⟩), .pointer (some ⟨g, 0, none⟩), .pointer (some ⟨g, 3, none⟩), .string ⟨p.toArray⟩, v3, .func (.func 109) #[] #[.pointer (some ⟨w3.heap.size, 0, none⟩)], .int .i64 (x.1 : Nat), .string ⟨x.2.toArray⟩, undef, undef, undef, undef, undef, undef, undef, undef, undef, undef], defers := [] }) ?assign ?body ?done ?stop
    case assign =>
      intro l x W K hK
      gi_wp2
      exact hK
    case body =>
      rintro l pre x W ⟨hS, hbx, hmv, HSZW⟩ hltn
      obtain ⟨h0, v, hb, hh, hap⟩ := hS
      have hbc := hbx.cell
      have hvc : W.cell? ⟨g, 4, none⟩ = some v := cell_in hb rfl
      have hfz : W.frozen? ⟨g, 4, none⟩ = false := by simp only [World.frozen?, hb]; simp
      have hgW : g < W.heap.size := (Array.getElem?_eq_some_iff.1 hb).1
      have hsw := hmv.below.size
      have hwW : w.heap.size < W.heap.size := hbx.lt
      have hw := HWIDE.out
      subst hw
      have HH := Lib.hid hh
      have HAP := Lib.hid hap
      have HHB := Lib.hid hb
      have HBX2 := Lib.hid hbx
      have HMV2 := Lib.hid hmv
      have HSZ := Lib.hid (show w4.heap.size ≤ W.heap.size from HSZW)
      have hpl : (pre.map Prod.snd).length < N.length := by simpa using hltn
      clear hh hap hb hbx hmv
      gi_wp2
      refine region_in_held (S := fun W' => W'.cell? ⟨w.heap.size, 0, none⟩ = some (.pointer (some ⟨g, 0, none⟩))) (by kernel_rfl) (by kernel_rfl) ?_
      have hHeld : W.drew.cell? ⟨w.heap.size, 0, none⟩ = some (.pointer (some ⟨g, 0, none⟩)) := hbc
      have hAlt : ∀ k, (v3.ownBlock = some k ∨ k = w3.heap.size) → k < W.heap.size := fun k hk => by
        have h3 : w4.heap.size ≤ W.heap.size := HSZ.out
        rcases hk with hk | hk
        · have := (HOWN.out k hk).2; omega
        · omega
      have hAne : ∀ k, (v3.ownBlock = some k ∨ k = w3.heap.size) → k ≠ g := fun k hk => by
        rcases hk with hk | hk
        · have := (HOWN.out k hk).1; omega
        · omega
      have HNB := Lib.hid (show v.ownBlock ≠ some w.heap.size from fun e => by
        obtain ⟨-, cur, hc⟩ := HH.out.own e
        have h2 : W.heap[w.heap.size]? = _ := HBX2.out
        rw [hc] at h2
        cases h2)
      have HH5 := Lib.hid (show Held n₀ (W.drew.alloc (.cells #[.string ⟨x.2.toArray⟩] 9)) v (st ++ pre.map Prod.snd) from HH.out.kept fun k hk => by
        obtain ⟨-, cur, hc⟩ := HH.out.own hk
        exact Below.heap_alloc W.drew _ k (Array.getElem?_eq_some_iff.1 hc).1)
      refine wpAnyH_take (i := 0) (v := ?_) rfl (by kernel_rfl) (by kernel_rfl) (by kernel_rfl) (fun _ _ _ h => h) (Or.inl ⟨by rfl, ?hyt0⟩) hHeld ?restt0
      case hyt0 => intro W hSw; go_simp <;> with_reducible rfl
      try simp only [Act.put, List.setIfInBounds_toArray]
      refine wpAnyH_take (i := 1) (v := ?_) rfl (by kernel_rfl) (by kernel_rfl) (by kernel_rfl) (fun _ _ _ h => h) (Or.inl ⟨by rfl, ?hyt1⟩) hHeld ?restt1
      case hyt1 => intro W hSw; go_simp <;> with_reducible rfl
      try simp only [Act.put]
      refine wpAnyH_take (i := 2) (v := ?_) rfl (by kernel_rfl) (by kernel_rfl) (by kernel_rfl) (fun _ _ _ h => h) (Or.inl ⟨by rfl, ?hyt2⟩) hHeld ?restt2
      case hyt2 => intro W hSw; go_simp <;> with_reducible rfl
      try simp only [Act.put]
      refine wpAnyH_take (i := 3) (v := ?_) rfl (by kernel_rfl) (by kernel_rfl) (by kernel_rfl) (fun _ _ _ h => h) (Or.inl ⟨by rfl, ?hyt3⟩) hHeld ?restt3
      case hyt3 => intro W hSw; go_simp <;> with_reducible rfl
      try simp only [Act.put]
      refine wpAnyH_take (i := 5) (v := ?_) rfl (by kernel_rfl) (by kernel_rfl) (by kernel_rfl) (fun _ _ _ h => h) (Or.inl ⟨by rfl, ?hyt5⟩) hHeld ?restt5
      case hyt5 => intro W hSw; go_simp <;> with_reducible rfl
      try simp only [Act.put]
      refine wpAnyH_ready (rs := [4, 6]) (by kernel_rfl) (by simp) ?_
      refine AllReadyH.cons rfl (fun K hK => ?_) (AllReadyH.cons rfl (fun K hK => ?_) AllReadyH.nil)
      · go_simp
        refine hK.out _ _ hHeld (fun hHeld => ?_)
        clear hK K
        try simp only [Act.put, List.setIfInBounds_toArray, List.set_cons_zero, List.set_cons_succ]
        refine wpAnyH_ready (rs := [6]) (by kernel_rfl) (by simp) ?_
        refine AllReadyH.cons rfl (fun K hK => ?_) AllReadyH.nil
        go_simp
        refine hK.out _ _ (cell_grows hHeld) (fun hHeld => ?_)
        clear hK K
        try simp only [Act.put, List.setIfInBounds_toArray, List.set_cons_zero, List.set_cons_succ]
        refine wpAnyH_ready (rs := [7]) (by kernel_rfl) (by simp) ?_
        refine AllReadyH.cons rfl (fun K hK => ?_) AllReadyH.nil
        refine step_append_held (B := n₀) (v := v) (L := st ++ pre.map Prod.snd) (L2 := [x.2]) (HH5.out) (view_one _ _) (by simp only [List.length_append, List.length_cons, List.length_nil]; omega) (by rw [World.size_alloc]; show n₀ ≤ W.heap.size + 1; omega) rfl _ _ rfl rfl rfl ?_
        intro v' w5 hH5 hg5 hf5
        obtain ⟨va, vl, vc, hv'⟩ : ∃ va vl vc, v' = .slice va vl vc := by
          obtain ⟨va, vc, e, -⟩ := hH5.view
          exact ⟨va, _, vc, e⟩
        subst hv'
        obtain ⟨e1, e2, e3, e4⟩ := enter_next h0 HHB.out HH.out HAP.out hAlt hg5 hH5 hf5
        have hc5 : w5.cell? ⟨g, 4, none⟩ = some v := (World.cell?_of_block (w := W) (a := ⟨g, 4, none⟩) ((hg5.block g (by rw [World.size_alloc]; show g < W.heap.size + 1; omega) (fun e => by have := (HH.out.own e.symm).1; omega)).trans (Below.heap_alloc W.drew _ g hgW))).trans hvc
        have hf5' : w5.frozen? ⟨g, 4, none⟩ = false := (World.frozen?_of_block (w := W) (a := ⟨g, 4, none⟩) ((hg5.block g (by rw [World.size_alloc]; show g < W.heap.size + 1; omega) (fun e => by have := (HH.out.own e.symm).1; omega)).trans (Below.heap_alloc W.drew _ g hgW))).trans hfz
        have hb5 : w5.cell? ⟨w.heap.size, 0, none⟩ = some (.pointer (some ⟨g, 0, none⟩)) := (World.cell?_of_block (w := W) (a := ⟨w.heap.size, 0, none⟩) ((hg5.block w.heap.size (by rw [World.size_alloc]; show w.heap.size < W.heap.size + 1; omega) (fun e => HNB.out e.symm)).trans (Below.heap_alloc W.drew _ _ hwW))).trans hbc
        have E1 := Lib.hid e1
        have E2 := Lib.hid e2
        have E3 := Lib.hid e3
        have E4 := Lib.hid e4
        clear e1 e2 e3 e4 hg5 hH5 hf5 hvc hfz
        refine hK.out _ _ hb5 (fun hHeld => ?_)
        clear hK K
        try simp only [Act.put, List.setIfInBounds_toArray]
        refine wpAnyH_take (i := 8) (v := ?_) rfl (by kernel_rfl) (by kernel_rfl) (by kernel_rfl) (fun _ _ _ h => h) (Or.inl ⟨by rfl, ?hyTAt8⟩) hHeld ?restTAt8
        case hyTAt8 => intro W hSw; go_simp <;> with_reducible rfl
        try simp only [Act.put]
        refine wpAnyH_take (i := 9) (v := ?_) rfl (by kernel_rfl) (by kernel_rfl) (by kernel_rfl) (fun _ _ _ h => h) (Or.inl ⟨by rfl, ?hyTAt9⟩) hHeld ?restTAt9
        case hyTAt9 => intro W hSw; go_simp <;> with_reducible rfl
        try simp only [Act.put]
        refine wpAnyH_ready (rs := [10]) (by kernel_rfl) (by simp) ?_
        refine AllReadyH.cons rfl (fun K hK => ?_) AllReadyH.nil
        go_simp
        refine hK.out _ _ ?_ (fun hHeld => ?_)
        · rw [cell_other (by omega)]; exact hb5
        clear hK K
        refine wpAnyH_done (by kernel_rfl) ⟨rfl, ?_⟩ _
        show KeepsFrom w4.heap.size W _ ∧ KeepR w3.heap.size v3 W _ ∧ WayX _ _ _ _ _ _ _ _ ∧ Boxed _ _ _ _ ∧ Moved g w _ ∧ _
        refine ⟨E1.out.from _, ⟨E2.out _ (hAlt _ (Or.inr rfl)) (hAne _ (Or.inr rfl)) (HAP.out _ (Or.inr rfl)), fun k hk => E2.out _ (hAlt _ (Or.inl hk)) (hAne _ (Or.inl hk)) (HAP.out _ (Or.inl hk))⟩, ?_, ?_, HMV2.out.trans E4.out, Nat.le_trans HSZ.out E1.out.size⟩
        · rw [List.map_append, ← List.append_assoc]; exact E3.out
        · exact (E2.out _ hwW (by omega) HNB.out).trans HBX2.out
      · go_simp
        refine hK.out _ _ (cell_grows hHeld) (fun hHeld => ?_)
        clear hK K
        try simp only [Act.put, List.setIfInBounds_toArray, List.set_cons_zero, List.set_cons_succ]
        have hvc2 := cell_grows (o := .cells #[.string ⟨x.2.toArray⟩] 9) (w := W.drew) hvc
        refine wpAnyH_ready (rs := [4]) (by kernel_rfl) (by simp) ?_
        refine AllReadyH.cons rfl (fun K hK => ?_) AllReadyH.nil
        go_simp
        refine hK.out _ _ hHeld (fun hHeld => ?_)
        clear hK K hvc2
        try simp only [Act.put, List.setIfInBounds_toArray, List.set_cons_zero, List.set_cons_succ]
        refine wpAnyH_ready (rs := [7]) (by kernel_rfl) (by simp) ?_
        refine AllReadyH.cons rfl (fun K hK => ?_) AllReadyH.nil
        refine step_append_held (B := n₀) (v := v) (L := st ++ pre.map Prod.snd) (L2 := [x.2]) (HH5.out) (view_one _ _) (by simp only [List.length_append, List.length_cons, List.length_nil]; omega) (by rw [World.size_alloc]; show n₀ ≤ W.heap.size + 1; omega) rfl _ _ rfl rfl rfl ?_
        intro v' w5 hH5 hg5 hf5
        obtain ⟨va, vl, vc, hv'⟩ : ∃ va vl vc, v' = .slice va vl vc := by
          obtain ⟨va, vc, e, -⟩ := hH5.view
          exact ⟨va, _, vc, e⟩
        subst hv'
        obtain ⟨e1, e2, e3, e4⟩ := enter_next h0 HHB.out HH.out HAP.out hAlt hg5 hH5 hf5
        have hc5 : w5.cell? ⟨g, 4, none⟩ = some v := (World.cell?_of_block (w := W) (a := ⟨g, 4, none⟩) ((hg5.block g (by rw [World.size_alloc]; show g < W.heap.size + 1; omega) (fun e => by have := (HH.out.own e.symm).1; omega)).trans (Below.heap_alloc W.drew _ g hgW))).trans hvc
        have hf5' : w5.frozen? ⟨g, 4, none⟩ = false := (World.frozen?_of_block (w := W) (a := ⟨g, 4, none⟩) ((hg5.block g (by rw [World.size_alloc]; show g < W.heap.size + 1; omega) (fun e => by have := (HH.out.own e.symm).1; omega)).trans (Below.heap_alloc W.drew _ g hgW))).trans hfz
        have hb5 : w5.cell? ⟨w.heap.size, 0, none⟩ = some (.pointer (some ⟨g, 0, none⟩)) := (World.cell?_of_block (w := W) (a := ⟨w.heap.size, 0, none⟩) ((hg5.block w.heap.size (by rw [World.size_alloc]; show w.heap.size < W.heap.size + 1; omega) (fun e => HNB.out e.symm)).trans (Below.heap_alloc W.drew _ _ hwW))).trans hbc
        have E1 := Lib.hid e1
        have E2 := Lib.hid e2
        have E3 := Lib.hid e3
        have E4 := Lib.hid e4
        clear e1 e2 e3 e4 hg5 hH5 hf5 hvc hfz
        refine hK.out _ _ hb5 (fun hHeld => ?_)
        clear hK K
        try simp only [Act.put, List.setIfInBounds_toArray]
        refine wpAnyH_take (i := 8) (v := ?_) rfl (by kernel_rfl) (by kernel_rfl) (by kernel_rfl) (fun _ _ _ h => h) (Or.inl ⟨by rfl, ?hyTBt8⟩) hHeld ?restTBt8
        case hyTBt8 => intro W hSw; go_simp <;> with_reducible rfl
        try simp only [Act.put]
        refine wpAnyH_take (i := 9) (v := ?_) rfl (by kernel_rfl) (by kernel_rfl) (by kernel_rfl) (fun _ _ _ h => h) (Or.inl ⟨by rfl, ?hyTBt9⟩) hHeld ?restTBt9
        case hyTBt9 => intro W hSw; go_simp <;> with_reducible rfl
        try simp only [Act.put]
        refine wpAnyH_ready (rs := [10]) (by kernel_rfl) (by simp) ?_
        refine AllReadyH.cons rfl (fun K hK => ?_) AllReadyH.nil
        go_simp
        refine hK.out _ _ ?_ (fun hHeld => ?_)
        · rw [cell_other (by omega)]; exact hb5
        clear hK K
        refine wpAnyH_done (by kernel_rfl) ⟨rfl, ?_⟩ _
        show KeepsFrom w4.heap.size W _ ∧ KeepR w3.heap.size v3 W _ ∧ WayX _ _ _ _ _ _ _ _ ∧ Boxed _ _ _ _ ∧ Moved g w _ ∧ _
        refine ⟨E1.out.from _, ⟨E2.out _ (hAlt _ (Or.inr rfl)) (hAne _ (Or.inr rfl)) (HAP.out _ (Or.inr rfl)), fun k hk => E2.out _ (hAlt _ (Or.inl hk)) (hAne _ (Or.inl hk)) (HAP.out _ (Or.inl hk))⟩, ?_, ?_, HMV2.out.trans E4.out, Nat.le_trans HSZ.out E1.out.size⟩
        · rw [List.map_append, ← List.append_assoc]; exact E3.out
        · exact (E2.out _ hwW (by omega) HNB.out).trans HBX2.out
    case done =>
      rintro D ys W hD hys ⟨hS, hbx, hmv, -⟩ hK
      gi_wp2
      refine ⟨by simp, .inl ⟨_, _, rfl, run_takeDeferred hK, ?_⟩⟩
      refine ⟨_, results_none rfl _ _ _, ⟨_, rfl⟩, ?_, ?_⟩
      · rw [hys, HNP.out] at hS
        exact hS.way.own (grownBy_putObj' W D _) (fun r e => by cases e; exact ⟨_, hK, rfl⟩)
      · exact moved_own (β := Unit) (B := w4.heap.size) (by omega) (by omega) () W _ (some D) hmv (grownBy_putObj' W D _) (fun r e => by cases e; exact ⟨hD, _, hK, rfl⟩)
    case stop =>
      rintro D c pre W _ _ h _
      exact h.elim
  | false =>
    have HWH := Lib.hid hwh
    obtain ⟨U, hUe⟩ : ∃ U, U = w.alloc (.cells #[.pointer (some ⟨g, 0, none⟩)] 136) := ⟨_, rfl⟩
    have hUs : U.heap.size = w.heap.size + 1 := by rw [hUe]; simp []
    have HUW := Lib.hid (show WayAt n₀ g T U p0 st links by rw [hUe]; exact HW.out.below (below_box w _))
    have HUM := Lib.hid (show Moved g w U by rw [hUe]; exact Moved.of_below (below_box w _) (Nat.le_of_lt hlt))
    have HUB := Lib.hid (show U.heap[w.heap.size]? = some (.cells #[.pointer (some ⟨g, 0, none⟩)] 136) by rw [hUe]; exact new_block w _)
    gi_wp2_with (first | (gi_at_call 33; refine (hO.calls (lpre_known p _ HWH.out _)).mono ?_; rintro e w' ⟨rfl, rfl⟩) | (gi_at_call 87; rw [← hUe]; refine (hO.calls (parts_any ⟨p.toArray⟩ (by rw [str_len]; omega) U)).mono ?_; rintro e w3 ⟨v3, rfl, hT3, hb3⟩; (obtain ⟨na, nc, rfl, -, -, -⟩ := hT3.view); have HT3 := Lib.hid hT3; have HB3 := Lib.hid hb3; clear hT3 hb3) | (gi_at_call 90; refine (back_in F hO (n - 1) _ _ _ _).mono ?_; rintro e w4 ⟨rfl, hw4⟩) | fail)
    obtain ⟨N, hNe⟩ : ∃ N, N = partsL (⟨p.toArray⟩ : ByteArray).data.toList := ⟨_, rfl⟩
    have hNp : N = partsL p := hNe
    have hNl : N.length ≤ 100001 := by rw [hNp]; have := count_parts p; omega
    rw [← hNe] at HT3 hw4
    try rw [← hNe]
    rw [← hw4]
    
    obtain ⟨v3, hv3⟩ : ∃ v3, v3 = Value.slice na N.length nc := ⟨_, rfl⟩
    have HT := Lib.hid HT3.out
    rw [← hv3] at HT
    have hs3 := HB3.out.size
    have hs4 : w4.heap.size = w3.heap.size + 1 := by rw [hw4]; simp
    have hb4 : Below w3.heap.size w3 w4 := by rw [hw4]; exact below_box _ _
    have hbU : Below U.heap.size U w4 := HB3.out.trans (hb4.mono hs3)
    have hgU : g < U.heap.size := by omega
    have hown : ∀ k, v3.ownBlock = some k → U.heap.size ≤ k ∧ k < w3.heap.size := fun k hk => ⟨(HT.out.held.own hk).1, by obtain ⟨-, cur, hc⟩ := HT.out.held.own hk; exact (Array.getElem?_eq_some_iff.1 hc).1⟩
    have hrow : RowIn w3.heap.size v3 U.heap.size N w4 := ⟨by rw [hw4, hv3]; exact (Boxed.new w3 29 _).cell, HT.out.held.kept fun k hk => hb4.block k (hown k hk).2⟩
    have hx4 : WayX n₀ g T (fun k => v3.ownBlock = some k ∨ k = w3.heap.size) w4 p0 (st ++ ([] : List (Nat × List UInt8)).map Prod.snd) links := by
      obtain ⟨h0, v, h1, h2⟩ := HUW.out
      refine ⟨h0, v, (hbU.block g hgU).trans h1, ?_, fun k hk e => ?_⟩
      · rw [List.map_nil, List.append_nil]
        exact h2.kept fun k hk => by obtain ⟨-, cur, hc⟩ := h2.own hk; exact hbU.block k (Array.getElem?_eq_some_iff.1 hc).1
      · obtain ⟨-, cur, hc⟩ := h2.own e
        have h3 := (Array.getElem?_eq_some_iff.1 hc).1
        rcases hk with hk | hk
        · have h4 := (hown k hk).1
          omega
        · omega
    have hbx : Boxed w4 w.heap.size 136 (.pointer (some ⟨g, 0, none⟩)) := (hbU.block _ (by omega)).trans HUB.out
    have hmv : Moved g w w4 := HUM.out.trans (Moved.of_below hbU (by omega))
    have HX4 := Lib.hid hx4
    have HBX := Lib.hid hbx
    have HMV := Lib.hid hmv
    have HROW := Lib.hid hrow
    have HOWN := Lib.hid hown
    have HNP := Lib.hid hNp
    clear hx4 hbx hmv hrow hown hb4 hbU hNe hNp HT HT3 HB3 HUB HUM HUW hUe hw4 c0 c1 c2 c3 c5 f3 f4
    rw [← hv3]
    clear hv3
    refine wpIn_rangeFunc_ownG hro h1 (gf := 109) (lb := #[.pointer (some ⟨w3.heap.size, 0, none⟩)]) rfl (hO.fn _) (enters_of Tryz.func109 (by kernel_rfl) rfl)
      (back_stops F hO (n - 1) (by omega) w3.heap.size U.heap.size v3 N (by omega) w4 (by omega) (fun k hk => by have := (HOWN.out k hk).2; omega) HROW.out) keepR_t (keepR_b (by omega) (fun k hk => by have := (HOWN.out k hk).2; omega)) (Below.refl _ _) (fun _ => rfl)
      (fun pre W => WayX n₀ g T (fun k => v3.ownBlock = some k ∨ k = w3.heap.size) W p0 (st ++ pre.map Prod.snd) links ∧ Boxed W w.heap.size 136 (.pointer (some ⟨g, 0, none⟩)) ∧ Moved g w W ∧ w4.heap.size ≤ W.heap.size)
      (fun _ _ _ => False)
      (OwnFrom.and (Own.from (wayX_own n₀ g T (fun k => v3.ownBlock = some k ∨ k = w3.heap.size) (fun _ => p0) (fun pre : List (Nat × List UInt8) => st ++ pre.map Prod.snd) (fun _ => links)) _) (OwnFrom.and (Own.from (boxed_own _ _ _) _) (OwnFrom.and (moved_own (by omega) (by omega)) (fun _ X Y row h hg _ => Nat.le_trans h hg.size))))
      (fun _ _ _ _ _ hs _ _ => hs)
      ⟨HX4.out, HBX.out, HMV.out, Nat.le_refl _⟩
      (fun x => { tmps := #[.pointer (some ⟨g, 0, none⟩), .string ⟨p.toArray⟩, .pointer (some ⟨w.heap.size, 0, none⟩), undef, undef, .string ⟨x.2.toArray⟩, .string ⟨p.toArray⟩, .bool false, undef, undef, undef, .string ⟨p.toArray⟩, v3, .func (.func 109) #[] #[.pointer (some ⟨w3.heap.size, 0, none⟩)], .int .i64 (x.1 : Nat), .string ⟨x.2.toArray⟩, undef, undef, undef, undef, undef, undef, undef, undef, undef, undef], defers := [] }) ?assign ?body ?done ?stop
    case assign =>
      intro l x W K hK
      gi_wp2
      exact hK
    case body =>
      rintro l pre x W ⟨hS, hbx, hmv, HSZW⟩ hltn
      obtain ⟨h0, v, hb, hh, hap⟩ := hS
      have hbc := hbx.cell
      have hvc : W.cell? ⟨g, 4, none⟩ = some v := cell_in hb rfl
      have hfz : W.frozen? ⟨g, 4, none⟩ = false := by simp only [World.frozen?, hb]; simp
      have hgW : g < W.heap.size := (Array.getElem?_eq_some_iff.1 hb).1
      have hsw := hmv.below.size
      have hwW : w.heap.size < W.heap.size := hbx.lt
      have hw := HWIDE.out
      subst hw
      have HH := Lib.hid hh
      have HAP := Lib.hid hap
      have HHB := Lib.hid hb
      have HBX2 := Lib.hid hbx
      have HMV2 := Lib.hid hmv
      have HSZ := Lib.hid (show w4.heap.size ≤ W.heap.size from HSZW)
      have hpl : (pre.map Prod.snd).length < N.length := by simpa using hltn
      clear hh hap hb hbx hmv
      gi_wp2
      refine region_in_held (S := fun W' => W'.cell? ⟨w.heap.size, 0, none⟩ = some (.pointer (some ⟨g, 0, none⟩))) (by kernel_rfl) (by kernel_rfl) ?_
      have hHeld : W.drew.cell? ⟨w.heap.size, 0, none⟩ = some (.pointer (some ⟨g, 0, none⟩)) := hbc
      have hAlt : ∀ k, (v3.ownBlock = some k ∨ k = w3.heap.size) → k < W.heap.size := fun k hk => by
        have h3 : w4.heap.size ≤ W.heap.size := HSZ.out
        rcases hk with hk | hk
        · have := (HOWN.out k hk).2; omega
        · omega
      have hAne : ∀ k, (v3.ownBlock = some k ∨ k = w3.heap.size) → k ≠ g := fun k hk => by
        rcases hk with hk | hk
        · have := (HOWN.out k hk).1; omega
        · omega
      have HNB := Lib.hid (show v.ownBlock ≠ some w.heap.size from fun e => by
        obtain ⟨-, cur, hc⟩ := HH.out.own e
        have h2 : W.heap[w.heap.size]? = _ := HBX2.out
        rw [hc] at h2
        cases h2)
      have HH5 := Lib.hid (show Held n₀ (W.drew.alloc (.cells #[.string ⟨x.2.toArray⟩] 9)) v (st ++ pre.map Prod.snd) from HH.out.kept fun k hk => by
        obtain ⟨-, cur, hc⟩ := HH.out.own hk
        exact Below.heap_alloc W.drew _ k (Array.getElem?_eq_some_iff.1 hc).1)
      refine wpAnyH_take (i := 0) (v := ?_) rfl (by kernel_rfl) (by kernel_rfl) (by kernel_rfl) (fun _ _ _ h => h) (Or.inl ⟨by rfl, ?hyf0⟩) hHeld ?restf0
      case hyf0 => intro W hSw; go_simp <;> with_reducible rfl
      try simp only [Act.put, List.setIfInBounds_toArray]
      refine wpAnyH_take (i := 1) (v := ?_) rfl (by kernel_rfl) (by kernel_rfl) (by kernel_rfl) (fun _ _ _ h => h) (Or.inl ⟨by rfl, ?hyf1⟩) hHeld ?restf1
      case hyf1 => intro W hSw; go_simp <;> with_reducible rfl
      try simp only [Act.put]
      refine wpAnyH_take (i := 2) (v := ?_) rfl (by kernel_rfl) (by kernel_rfl) (by kernel_rfl) (fun _ _ _ h => h) (Or.inl ⟨by rfl, ?hyf2⟩) hHeld ?restf2
      case hyf2 => intro W hSw; go_simp <;> with_reducible rfl
      try simp only [Act.put]
      refine wpAnyH_take (i := 3) (v := ?_) rfl (by kernel_rfl) (by kernel_rfl) (by kernel_rfl) (fun _ _ _ h => h) (Or.inl ⟨by rfl, ?hyf3⟩) hHeld ?restf3
      case hyf3 => intro W hSw; go_simp <;> with_reducible rfl
      try simp only [Act.put]
      refine wpAnyH_take (i := 5) (v := ?_) rfl (by kernel_rfl) (by kernel_rfl) (by kernel_rfl) (fun _ _ _ h => h) (Or.inl ⟨by rfl, ?hyf5⟩) hHeld ?restf5
      case hyf5 => intro W hSw; go_simp <;> with_reducible rfl
      try simp only [Act.put]
      refine wpAnyH_ready (rs := [4, 6]) (by kernel_rfl) (by simp) ?_
      refine AllReadyH.cons rfl (fun K hK => ?_) (AllReadyH.cons rfl (fun K hK => ?_) AllReadyH.nil)
      · go_simp
        refine hK.out _ _ hHeld (fun hHeld => ?_)
        clear hK K
        try simp only [Act.put, List.setIfInBounds_toArray, List.set_cons_zero, List.set_cons_succ]
        refine wpAnyH_ready (rs := [6]) (by kernel_rfl) (by simp) ?_
        refine AllReadyH.cons rfl (fun K hK => ?_) AllReadyH.nil
        go_simp
        refine hK.out _ _ (cell_grows hHeld) (fun hHeld => ?_)
        clear hK K
        try simp only [Act.put, List.setIfInBounds_toArray, List.set_cons_zero, List.set_cons_succ]
        refine wpAnyH_ready (rs := [7]) (by kernel_rfl) (by simp) ?_
        refine AllReadyH.cons rfl (fun K hK => ?_) AllReadyH.nil
        refine step_append_held (B := n₀) (v := v) (L := st ++ pre.map Prod.snd) (L2 := [x.2]) (HH5.out) (view_one _ _) (by simp only [List.length_append, List.length_cons, List.length_nil]; omega) (by rw [World.size_alloc]; show n₀ ≤ W.heap.size + 1; omega) rfl _ _ rfl rfl rfl ?_
        intro v' w5 hH5 hg5 hf5
        obtain ⟨va, vl, vc, hv'⟩ : ∃ va vl vc, v' = .slice va vl vc := by
          obtain ⟨va, vc, e, -⟩ := hH5.view
          exact ⟨va, _, vc, e⟩
        subst hv'
        obtain ⟨e1, e2, e3, e4⟩ := enter_next h0 HHB.out HH.out HAP.out hAlt hg5 hH5 hf5
        have hc5 : w5.cell? ⟨g, 4, none⟩ = some v := (World.cell?_of_block (w := W) (a := ⟨g, 4, none⟩) ((hg5.block g (by rw [World.size_alloc]; show g < W.heap.size + 1; omega) (fun e => by have := (HH.out.own e.symm).1; omega)).trans (Below.heap_alloc W.drew _ g hgW))).trans hvc
        have hf5' : w5.frozen? ⟨g, 4, none⟩ = false := (World.frozen?_of_block (w := W) (a := ⟨g, 4, none⟩) ((hg5.block g (by rw [World.size_alloc]; show g < W.heap.size + 1; omega) (fun e => by have := (HH.out.own e.symm).1; omega)).trans (Below.heap_alloc W.drew _ g hgW))).trans hfz
        have hb5 : w5.cell? ⟨w.heap.size, 0, none⟩ = some (.pointer (some ⟨g, 0, none⟩)) := (World.cell?_of_block (w := W) (a := ⟨w.heap.size, 0, none⟩) ((hg5.block w.heap.size (by rw [World.size_alloc]; show w.heap.size < W.heap.size + 1; omega) (fun e => HNB.out e.symm)).trans (Below.heap_alloc W.drew _ _ hwW))).trans hbc
        have E1 := Lib.hid e1
        have E2 := Lib.hid e2
        have E3 := Lib.hid e3
        have E4 := Lib.hid e4
        clear e1 e2 e3 e4 hg5 hH5 hf5 hvc hfz
        refine hK.out _ _ hb5 (fun hHeld => ?_)
        clear hK K
        try simp only [Act.put, List.setIfInBounds_toArray]
        refine wpAnyH_take (i := 8) (v := ?_) rfl (by kernel_rfl) (by kernel_rfl) (by kernel_rfl) (fun _ _ _ h => h) (Or.inl ⟨by rfl, ?hyTAf8⟩) hHeld ?restTAf8
        case hyTAf8 => intro W hSw; go_simp <;> with_reducible rfl
        try simp only [Act.put]
        refine wpAnyH_take (i := 9) (v := ?_) rfl (by kernel_rfl) (by kernel_rfl) (by kernel_rfl) (fun _ _ _ h => h) (Or.inl ⟨by rfl, ?hyTAf9⟩) hHeld ?restTAf9
        case hyTAf9 => intro W hSw; go_simp <;> with_reducible rfl
        try simp only [Act.put]
        refine wpAnyH_ready (rs := [10]) (by kernel_rfl) (by simp) ?_
        refine AllReadyH.cons rfl (fun K hK => ?_) AllReadyH.nil
        go_simp
        refine hK.out _ _ ?_ (fun hHeld => ?_)
        · rw [cell_other (by omega)]; exact hb5
        clear hK K
        refine wpAnyH_done (by kernel_rfl) ⟨rfl, ?_⟩ _
        show KeepsFrom w4.heap.size W _ ∧ KeepR w3.heap.size v3 W _ ∧ WayX _ _ _ _ _ _ _ _ ∧ Boxed _ _ _ _ ∧ Moved g w _ ∧ _
        refine ⟨E1.out.from _, ⟨E2.out _ (hAlt _ (Or.inr rfl)) (hAne _ (Or.inr rfl)) (HAP.out _ (Or.inr rfl)), fun k hk => E2.out _ (hAlt _ (Or.inl hk)) (hAne _ (Or.inl hk)) (HAP.out _ (Or.inl hk))⟩, ?_, ?_, HMV2.out.trans E4.out, Nat.le_trans HSZ.out E1.out.size⟩
        · rw [List.map_append, ← List.append_assoc]; exact E3.out
        · exact (E2.out _ hwW (by omega) HNB.out).trans HBX2.out
      · go_simp
        refine hK.out _ _ (cell_grows hHeld) (fun hHeld => ?_)
        clear hK K
        try simp only [Act.put, List.setIfInBounds_toArray, List.set_cons_zero, List.set_cons_succ]
        have hvc2 := cell_grows (o := .cells #[.string ⟨x.2.toArray⟩] 9) (w := W.drew) hvc
        refine wpAnyH_ready (rs := [4]) (by kernel_rfl) (by simp) ?_
        refine AllReadyH.cons rfl (fun K hK => ?_) AllReadyH.nil
        go_simp
        refine hK.out _ _ hHeld (fun hHeld => ?_)
        clear hK K hvc2
        try simp only [Act.put, List.setIfInBounds_toArray, List.set_cons_zero, List.set_cons_succ]
        refine wpAnyH_ready (rs := [7]) (by kernel_rfl) (by simp) ?_
        refine AllReadyH.cons rfl (fun K hK => ?_) AllReadyH.nil
        refine step_append_held (B := n₀) (v := v) (L := st ++ pre.map Prod.snd) (L2 := [x.2]) (HH5.out) (view_one _ _) (by simp only [List.length_append, List.length_cons, List.length_nil]; omega) (by rw [World.size_alloc]; show n₀ ≤ W.heap.size + 1; omega) rfl _ _ rfl rfl rfl ?_
        intro v' w5 hH5 hg5 hf5
        obtain ⟨va, vl, vc, hv'⟩ : ∃ va vl vc, v' = .slice va vl vc := by
          obtain ⟨va, vc, e, -⟩ := hH5.view
          exact ⟨va, _, vc, e⟩
        subst hv'
        obtain ⟨e1, e2, e3, e4⟩ := enter_next h0 HHB.out HH.out HAP.out hAlt hg5 hH5 hf5
        have hc5 : w5.cell? ⟨g, 4, none⟩ = some v := (World.cell?_of_block (w := W) (a := ⟨g, 4, none⟩) ((hg5.block g (by rw [World.size_alloc]; show g < W.heap.size + 1; omega) (fun e => by have := (HH.out.own e.symm).1; omega)).trans (Below.heap_alloc W.drew _ g hgW))).trans hvc
        have hf5' : w5.frozen? ⟨g, 4, none⟩ = false := (World.frozen?_of_block (w := W) (a := ⟨g, 4, none⟩) ((hg5.block g (by rw [World.size_alloc]; show g < W.heap.size + 1; omega) (fun e => by have := (HH.out.own e.symm).1; omega)).trans (Below.heap_alloc W.drew _ g hgW))).trans hfz
        have hb5 : w5.cell? ⟨w.heap.size, 0, none⟩ = some (.pointer (some ⟨g, 0, none⟩)) := (World.cell?_of_block (w := W) (a := ⟨w.heap.size, 0, none⟩) ((hg5.block w.heap.size (by rw [World.size_alloc]; show w.heap.size < W.heap.size + 1; omega) (fun e => HNB.out e.symm)).trans (Below.heap_alloc W.drew _ _ hwW))).trans hbc
        have E1 := Lib.hid e1
        have E2 := Lib.hid e2
        have E3 := Lib.hid e3
        have E4 := Lib.hid e4
        clear e1 e2 e3 e4 hg5 hH5 hf5 hvc hfz
        refine hK.out _ _ hb5 (fun hHeld => ?_)
        clear hK K
        try simp only [Act.put, List.setIfInBounds_toArray]
        refine wpAnyH_take (i := 8) (v := ?_) rfl (by kernel_rfl) (by kernel_rfl) (by kernel_rfl) (fun _ _ _ h => h) (Or.inl ⟨by rfl, ?hyTBf8⟩) hHeld ?restTBf8
        case hyTBf8 => intro W hSw; go_simp <;> with_reducible rfl
        try simp only [Act.put]
        refine wpAnyH_take (i := 9) (v := ?_) rfl (by kernel_rfl) (by kernel_rfl) (by kernel_rfl) (fun _ _ _ h => h) (Or.inl ⟨by rfl, ?hyTBf9⟩) hHeld ?restTBf9
        case hyTBf9 => intro W hSw; go_simp <;> with_reducible rfl
        try simp only [Act.put]
        refine wpAnyH_ready (rs := [10]) (by kernel_rfl) (by simp) ?_
        refine AllReadyH.cons rfl (fun K hK => ?_) AllReadyH.nil
        go_simp
        refine hK.out _ _ ?_ (fun hHeld => ?_)
        · rw [cell_other (by omega)]; exact hb5
        clear hK K
        refine wpAnyH_done (by kernel_rfl) ⟨rfl, ?_⟩ _
        show KeepsFrom w4.heap.size W _ ∧ KeepR w3.heap.size v3 W _ ∧ WayX _ _ _ _ _ _ _ _ ∧ Boxed _ _ _ _ ∧ Moved g w _ ∧ _
        refine ⟨E1.out.from _, ⟨E2.out _ (hAlt _ (Or.inr rfl)) (hAne _ (Or.inr rfl)) (HAP.out _ (Or.inr rfl)), fun k hk => E2.out _ (hAlt _ (Or.inl hk)) (hAne _ (Or.inl hk)) (HAP.out _ (Or.inl hk))⟩, ?_, ?_, HMV2.out.trans E4.out, Nat.le_trans HSZ.out E1.out.size⟩
        · rw [List.map_append, ← List.append_assoc]; exact E3.out
        · exact (E2.out _ hwW (by omega) HNB.out).trans HBX2.out
    case done =>
      rintro D ys W hD hys ⟨hS, hbx, hmv, -⟩ hK
      gi_wp2
      refine ⟨by simp, .inl ⟨_, _, rfl, run_takeDeferred hK, ?_⟩⟩
      refine ⟨_, results_none rfl _ _ _, ⟨_, rfl⟩, ?_, ?_⟩
      · rw [hys, HNP.out] at hS
        exact hS.way.own (grownBy_putObj' W D _) (fun r e => by cases e; exact ⟨_, hK, rfl⟩)
      · exact moved_own (β := Unit) (B := w4.heap.size) (by omega) (by omega) () W _ (some D) hmv (grownBy_putObj' W D _) (fun r e => by cases e; exact ⟨hD, _, hK, rfl⟩)
    case stop =>
      rintro D c pre W _ _ h _
      exact h.elim
end Go.Proofs.YtclhpedecimicaaGreat

namespace Go.Proofs.YtclhpedecimicaaGreat
set_option maxRecDepth 100000
open Go Go.RowKit Go.Shelf

attribute [local go_sem] Oper.semAt_some

theorem lenter_any (n₀ g : Nat) (T : Value × Value × Value) (p0 links : Int) (st : List (List UInt8)) (p : List UInt8) (hp : p.length ≤ 100000) (hst : st.length ≤ 100000) (w : World) (hn₀ : n₀ ≤ w.heap.size) (hW : WayAt n₀ g T w p0 st links) :
    Calls Tryz.prog 66 #[.pointer (some ⟨g, 0, none⟩), .string ⟨p.toArray⟩] w fun e w' => (∃ u, e = .returned u) ∧ WayAt n₀ g T w' (if wholeL p then 0 else p0) (st ++ (partsL p).reverse) links ∧ Moved g w w' :=
  callsIn_wide.1 (enter_in Fence.wide rfl 4 (Nat.le_refl _) n₀ g T p0 links st p hp hst w hn₀ hW)

theorem way_set4 {n₀ g : Nat} {T : Value × Value × Value} {W : World} {p : Int} {st st' : List (List UInt8)} {links : Int} {v' : Value} (h : WayAt n₀ g T W p st links) (hv : Held n₀ W v' st') : WayAt n₀ g T (W.setCell ⟨g, 4, none⟩ v') p st' links := by
  obtain ⟨h0, v, h1, h2⟩ := h
  exact ⟨h0, v', set_heap h1 4 _, held_set hv h0 4 _⟩
theorem way_set5 {n₀ g : Nat} {T : Value × Value × Value} {W : World} {p : Int} {st : List (List UInt8)} {links : Int} (h : WayAt n₀ g T W p st links) (q : Int) : WayAt n₀ g T (W.setCell ⟨g, 5, none⟩ (.int .i64 q)) p st q := by
  obtain ⟨h0, v, h1, h2⟩ := h
  exact ⟨h0, v, set_heap h1 5 _, held_set h2 h0 5 _⟩



theorem lnames_in (F : Fence) (hF : Open F) (n : Nat) (g : Nat) (w : World) :
    CallsIn F n Tryz.prog 91 #[.pointer (some ⟨g, 0, none⟩)] w fun e w' => e = .returned (.func (.func 110) #[] #[.pointer (some ⟨w.heap.size, 0, none⟩)]) ∧ w' = w.alloc (.cells #[.pointer (some ⟨g, 0, none⟩)] 136) := by
  have hro : F.round = none := hF.ro
  refine callsIn_of_wp Tryz.func91 rfl (hF.fn _) ?_ hro
  simp only [Tryz.ntmps91, List.size_toArray, List.length_cons, List.length_nil, Nat.reduceAdd, Nat.reduceSub, Array.replicate_succ, Array.replicate_zero, List.push_toArray, List.append_toArray, List.nil_append, List.cons_append]
  gi_wp2
  go_ret
  exact ⟨rfl, rfl⟩
end Go.Proofs.YtclhpedecimicaaGreat

namespace Go.Proofs.YtclhpedecimicaaGreat
set_option maxRecDepth 100000
open Go Go.RowKit Go.Shelf

attribute [local go_sem] Oper.semAt_some

/-- Where a way is: the name at hand, those that are left, where one is, how many links were followed. -/
structure St where
  x : List UInt8
  N : List (List UInt8)
  p : Int
  k : Nat
def IW (n₀ g : Nat) (T : Value × Value × Value) (Base : World → Prop) (Gh : Nat → List (List UInt8) → Int → Prop) (s : St) (W : World) : Prop := WayAt n₀ g T W s.p s.N.reverse s.k ∧ Base W ∧ Gh s.k s.N s.p
def IpW (n₀ g : Nat) (T : Value × Value × Value) (Base : World → Prop) (Gh : Nat → List (List UInt8) → Int → Prop) (s : St) (W : World) : Prop := WayAt n₀ g T W s.p s.N.reverse s.k ∧ Base W ∧ Gh s.k (s.x :: s.N) s.p
def NxW (s s' : St) : Prop := (8 - s'.k) * 30000 + s'.N.length ≤ (8 - s.k) * 30000 + s.N.length
def mW (g : Nat) (W : World) : Nat := match W.heap[g]? with
  | some (.cells cs _ _) => (8 - (intOf (cs.getD 5 undef)).toNat) * 30000 + sliceLen (cs.getD 4 undef)
  | _ => 0
theorem mW_eq {n₀ g : Nat} {T : Value × Value × Value} {W : World} {p : Int} {st : List (List UInt8)} {k : Nat} (h : WayAt n₀ g T W p st (k : Int)) : mW g W = (8 - k) * 30000 + st.length := by
  obtain ⟨_, v, h1, h2⟩ := h
  unfold mW
  rw [h1]
  obtain ⟨na, nc, rfl, -, -, -⟩ := h2.view
  simp [intOf, sliceLen]

set_option maxRecDepth 100000 in
set_option maxHeartbeats 4000000 in
theorem lnames1_seq (F : Fence) (hwide : F = Fence.wide) (n : Nat) (hn : 1 ≤ n) (n₀ g Bp : Nat) (T : Value × Value × Value) (Base : World → Prop) (Gh : Nat → List (List UInt8) → Int → Prop) (hlen : ∀ k N p, Gh k N p → N.length ≤ 1000000)
    (hbox : ∀ W, Base W → W.cell? ⟨Bp, 0, none⟩ = some (.pointer (some ⟨g, 0, none⟩))) (hset : ∀ W v, Base W → Base (W.setCell ⟨g, 4, none⟩ v).drew) (s0 : St) :
    SeqSt F n Tryz.prog 110 #[.pointer (some ⟨Bp, 0, none⟩)] (fun s : St => #[Value.string ⟨s.x.toArray⟩]) (IW n₀ g T Base Gh) (IpW n₀ g T Base Gh) NxW (fun W => ∃ s : St, s.N = [] ∧ IW n₀ g T Base Gh s W) s0 := by
  intro l G Jx W hG hY h0 hG0
  have hF : Open F := by rw [hwide]; exact open_wide
  have hro : F.round = none := hF.ro
  have HWIDE := Lib.hid hwide
  clear hwide
  have HY := Lib.hid hY
  have HGS := Lib.hid hG
  have HBOX := Lib.hid hbox
  have HSET := Lib.hid hset
  have HLEN := Lib.hid hlen
  clear hY hG hbox hset hlen
  refine callsIn_of_wp Tryz.func110 rfl (hF.fn _) ?_ hro
  simp only [Tryz.ntmps110, List.size_toArray, List.length_cons, List.length_nil, Nat.reduceAdd, Nat.reduceSub, Array.replicate_succ, Array.replicate_zero, List.push_toArray, List.append_toArray, List.nil_append, List.cons_append]
  gi_wp2
  gi_loopw [3, 4] (fun _ _ wr => ∃ s : St, Hid (IW n₀ g T Base Gh s wr) ∧ Hid (G wr)) (fun _ _ wr => mW g wr)
  case atStart => exact ⟨s0, h0, hG0⟩
  case round =>
    obtain ⟨s, hI, hGw⟩ := hrel
    obtain ⟨x0, N, p, k⟩ := s
    obtain ⟨hway, hbase, hgh⟩ := hI.out
    have HWAY := Lib.hid hway
    have hb := HBOX.out _ hbase
    have hm := mW_eq hway
    obtain ⟨-, -, -, -, ⟨v, c4, hv⟩, -⟩ := way_cells hway
    have f4 := way_frozen hway 4
    have hg := hway.lt
    have hgb := cell_lt hb
    simp only at hm c4 hv hgh
    cases N with
    | nil =>
      obtain ⟨na, nc, rfl, -, -, -⟩ := hv.view
      have HFIN := Lib.hid (show ∃ s : St, s.N = [] ∧ IW n₀ g T Base Gh s wr from ⟨⟨x0, [], p, k⟩, rfl, hI.out⟩)
      clear hway hbase hgh hm hv hI
      gi_wp2
      go_end0
      exact ⟨⟨_, rfl⟩, .inl ⟨HFIN.out, hGw.out⟩⟩
    | cons x r =>
      rw [List.reverse_cons] at hv hm
      have hrl := HLEN.out _ _ _ hgh
      obtain ⟨R, hR⟩ : ∃ R, R = r.reverse := ⟨_, rfl⟩
      rw [← hR] at hv hm
      have hRl : R.length = r.length := by rw [hR, List.length_reverse]
      obtain ⟨a0, nc, rfl, hc1, hc2, hcell⟩ := hv.view
      obtain ⟨nb, no, rfl, hx⟩ := hcell R.length (by simp)
      have hx0 : (R ++ [x])[R.length]'(by simp) = x := by simp
      rw [hx0] at hx
      unfold strv at hx
      have hl1 : (R ++ [x]).length = R.length + 1 := by simp
      rw [hl1] at hv c4 hc1
      have HI2 := Lib.hid hv.init
      unfold maxLen at hc2
      have HPOP := Lib.hid (show IpW n₀ g T Base Gh ⟨x, r, p, k⟩ (wr.setCell ⟨g, 4, none⟩ (.slice (some ⟨nb, no, none⟩) R.length nc)).drew from ⟨by
        have h := (way_set4 HWAY.out HI2.out).drew
        rw [hR] at h
        rw [hR]
        exact h, HSET.out _ _ hbase, hgh⟩)
      have HGP := Lib.hid (show G (wr.setCell ⟨g, 4, none⟩ (.slice (some ⟨nb, no, none⟩) R.length nc)).drew from HGS.out _ _ hGw.out ((KeepsOthers.setCell wr _ _).trans (KeepsOthers.drew _)))
      obtain ⟨fn, tmps, assign, body, hy, hRd⟩ := HY.out ⟨x, r, p, k⟩ _ HPOP.out HGP.out
      simp only at hy
      have HRD := Lib.hid hRd
      have hj1 : (R.length : Int) < ((R.length : Int) + 1) := by omega
      have hj2 : (0 : Int) < ((R.length : Int) + 1) := by omega
      have hj3 : (0 : Int) ≤ (R.length : Int) := by omega
      have hj4 : (R.length : Int) ≤ (nc : Int) := by omega
      have HM := Lib.hid hm
      have HRL := Lib.hid hRl
      have hR5 : R.length ≤ 1000000 := by simp only [List.length_cons] at hrl; omega
      clear hway hbase hgh hm hv hI hcell hx0 hl1 hRd hR hRl hrl
      gi_wp2
      have hw := HWIDE.out
      subst hw
      refine region_in_held (ro := none) (S := fun W' => W'.cell? ⟨Bp, 0, none⟩ = some (.pointer (some ⟨g, 0, none⟩))) (by kernel_rfl) (by kernel_rfl) ?_
      have hHeld : wr.drew.cell? ⟨Bp, 0, none⟩ = some (.pointer (some ⟨g, 0, none⟩)) := hb
      refine wpAnyH_take (i := 0) (v := ?_) rfl (by kernel_rfl) (by kernel_rfl) (by kernel_rfl) (fun _ _ _ h => nomatch h.1) (Or.inl ⟨by rfl, ?hy0⟩) hHeld ?rest0
      case hy0 => intro W hSw; go_simp <;> with_reducible rfl
      try simp only [Act.put, List.setIfInBounds_toArray]
      refine wpAnyH_take (i := 1) (v := ?_) rfl (by kernel_rfl) (by kernel_rfl) (by kernel_rfl) (fun _ _ _ h => nomatch h.1) (Or.inl ⟨by rfl, ?hy1⟩) hHeld ?rest1
      case hy1 => intro W hSw; go_simp <;> with_reducible rfl
      try simp only [Act.put]
      refine wpAnyH_take (i := 2) (v := ?_) rfl (by kernel_rfl) (by kernel_rfl) (by kernel_rfl) (fun _ _ _ h => nomatch h.1) (Or.inl ⟨by rfl, ?hy2⟩) hHeld ?rest2
      case hy2 => intro W hSw; go_simp <;> with_reducible rfl
      try simp only [Act.put]
      refine wpAnyH_take (i := 3) (v := ?_) rfl (by kernel_rfl) (by kernel_rfl) (by kernel_rfl) (fun _ _ _ h => nomatch h.1) (Or.inl ⟨by rfl, ?hy3⟩) hHeld ?rest3
      case hy3 => intro W hSw; go_simp <;> with_reducible rfl
      try simp only [Act.put]
      refine wpAnyH_take (i := 5) (v := ?_) rfl (by kernel_rfl) (by kernel_rfl) (by kernel_rfl) (fun _ _ _ h => nomatch h.1) (Or.inl ⟨by rfl, ?hy5⟩) hHeld ?rest5
      case hy5 => intro W hSw; go_simp <;> with_reducible rfl
      try simp only [Act.put]
      refine wpAnyH_ready (rs := [4]) (by kernel_rfl) (by simp) ?_
      refine AllReadyH.cons rfl (fun K hK => ?_) AllReadyH.nil
      go_simp
      refine hK.out _ _ hHeld (fun hHeld => ?_)
      clear hK K
      try simp only [Act.put, List.setIfInBounds_toArray, List.set_cons_zero, List.set_cons_succ]
      refine wpAnyH_take (i := 6) (v := ?_) rfl (by kernel_rfl) (by kernel_rfl) (by kernel_rfl) (fun _ _ _ h => nomatch h.1) (Or.inl ⟨by rfl, ?hy6⟩) hHeld ?rest6
      case hy6 => intro W hSw; go_simp <;> with_reducible rfl
      try simp only [Act.put, List.setIfInBounds_toArray]
      refine wpAnyH_take (i := 7) (v := ?_) rfl (by kernel_rfl) (by kernel_rfl) (by kernel_rfl) (fun _ _ _ h => nomatch h.1) (Or.inl ⟨by rfl, ?hy7⟩) hHeld ?rest7
      case hy7 => intro W hSw; go_simp <;> with_reducible rfl
      try simp only [Act.put]
      refine wpAnyH_take (i := 8) (v := ?_) rfl (by kernel_rfl) (by kernel_rfl) (by kernel_rfl) (fun _ _ _ h => nomatch h.1) (Or.inl ⟨by rfl, ?hy8⟩) hHeld ?rest8
      case hy8 => intro W hSw; go_simp <;> with_reducible rfl
      try simp only [Act.put]
      refine wpAnyH_ready (rs := [9]) (by kernel_rfl) (by simp) ?_
      refine AllReadyH.cons rfl (fun K hK => ?_) AllReadyH.nil
      go_simp
      refine hK.out _ _ ?_ (fun hHeld => ?_)
      · have h := HBOX.out _ HPOP.out.2.1
        exact h
      clear hK K
      refine wpAnyH_done (by kernel_rfl) ⟨rfl, ?_⟩ _
      gi_wp2
      refine HRD.out.mono ?_
      rintro e W3 (⟨rfl, s', hnx, hI3, hG3⟩ | ⟨rfl, hJ3⟩)
      · have hm3 := mW_eq hI3.1
        have hnx' : (8 - s'.k) * 30000 + s'.N.length ≤ (8 - k) * 30000 + r.length := hnx
        have HI3 := Lib.hid hI3
        have HG3 := Lib.hid hG3
        have HM3 := Lib.hid (show mW g W3 < mW g wr by
          rw [hm3, HM.out, List.length_reverse, List.length_append, List.length_cons, List.length_nil, HRL.out]
          omega)
        clear hnx hnx' hm3 hI3 hG3
        gi_wp2
        go_roundw
        case rel => exact ⟨s', HI3, HG3⟩
        case measure => exact HM3.out
      · have HJ3 := Lib.hid hJ3
        clear hJ3
        gi_wp2
        refine bodyPost_ret (results_none rfl _ _ _) rfl ?_
        exact ⟨⟨_, rfl⟩, .inr HJ3.out⟩
end Go.Proofs.YtclhpedecimicaaGreat
