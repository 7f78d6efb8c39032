/-
  The law TreeKids, walked.
-/
import Derived.Test.YtdpfnnhlneapbaaTUsedLaw
import Derived.Test.YtdpfnnhlneapbaaGrown
namespace Go.Proofs.Ytdpfnnhlneapbaa
open Go Go.RowKit

theorem kids_rise {L : List Ino} (h : AllFit L) : ∀ k (h : k < L.length), L[k].kids.length ≤ 1024 ∧ Rises L[k].kids := fun k hk => ⟨(h k hk).2.1, fun i hi t ht => ((h k hk).2.2 i hi).order t ht⟩
theorem findK_mem {M : List (List UInt8 × Int)} (hR : Rises M) (i : Nat) (hi : i < M.length) : findK M M[i].1 = M[i].2 := by
  refine findK_some M M[i].1 i hi rfl (fun k hk e => ?_)
  have h := hR.lt k i hi hk
  rw [e, less_irrefl] at h
  cases h
theorem findK_has : ∀ (M : List (List UInt8 × Int)) (s : List UInt8), 0 ≤ findK M s → ∃ e ∈ M, e.1 = s
  | [], _, h => absurd (show (0 : Int) ≤ -1 from h) (by decide)
  | e :: r, s, h => by
    unfold findK at h
    by_cases hs : e.1 = s
    · exact ⟨e, List.mem_cons_self, hs⟩
    · rw [if_neg hs] at h
      obtain ⟨e', he, hs'⟩ := findK_has r s h
      exact ⟨e', List.mem_cons_of_mem _ he, hs'⟩
/-- Each name of a directory is found. -/
theorem kid_of {L : List Ino} {m b : Int} (hF : FitP L m b) (d : Nat) (hd : d < L.length) (i : Nat) (hi : i < L[d].kids.length) : kidL L (d : Int) L[d].kids[i].1 = L[d].kids[i].2 := by
  have h2 := dir_of_kids (hF.ins d hd).1 (List.ne_nil_of_mem (List.getElem_mem hi))
  unfold kidL
  rw [(dir_nat hd).2 h2, if_pos rfl, node_nat L d hd]
  exact findK_mem (kids_rise hF.ins d hd).2 i hi

def Fnd (L : List Ino) (dir : Int) (s : List UInt8) (i : Nat) : Prop := ∃ d, d < i ∧ ∃ h : d < L.length, (d : Int) = dir ∧ ∃ e ∈ L[d].kids, e.1 = s
theorem fnd_all {L : List Ino} {m b : Int} (hF : FitP L m b) (dir : Int) (s : List UInt8) : Fnd L dir s L.length ↔ 0 ≤ kidL L dir s := by
  constructor
  · rintro ⟨d, _, hd, rfl, e, he, rfl⟩
    obtain ⟨i, hi, rfl⟩ := List.getElem_of_mem he
    rw [kid_of hF d hd i hi]
    exact there_pos (((hF.ins d hd).2.2 i hi).there)
  · intro h
    unfold kidL at h
    by_cases hd : dirB L dir = true
    · rw [if_pos hd] at h
      obtain ⟨n, rfl, hn⟩ := dir_lt hd
      rw [node_nat L n hn] at h
      exact ⟨n, hn, hn, rfl, findK_has _ _ h⟩
    · rw [if_neg hd] at h
      exact absurd h (by decide)

def KL1 (L : List Ino) (dir : Int) (s : List UInt8) (w1 : World) (fv iv : Value) (wr : World) : Prop :=
  ∃ (i : Nat) (f : Bool), i ≤ L.length ∧ iv = .int .i64 i ∧ fv = .bool f ∧ Hid (f = true ↔ Fnd L dir s i) ∧ Below w1.heap.size w1 wr
def KL2 (L : List Ino) (dir : Int) (s : List UInt8) (i : Nat) (M : List (List UInt8 × Int)) (w1 wn : World) (fv jv : Value) (wr : World) : Prop :=
  ∃ (j : Nat) (f : Bool), j ≤ M.length ∧ jv = .int .i64 j ∧ fv = .bool f ∧ Hid (f = true ↔ (Fnd L dir s i ∨ (i : Int) = dir ∧ ∃ k, k < j ∧ ∃ h : k < M.length, M[k].1 = s)) ∧ Below w1.heap.size w1 wr ∧ Below wn.heap.size wn wr

theorem lkid_known (a : Option Addr) (cap : Nat) (m b d : Int) (nm : List UInt8) (L : List Ino) (hR : ∀ k (h : k < L.length), L[k].kids.length ≤ 1024 ∧ Rises L[k].kids) (z : Int) (hz : kidL L d nm = z) (w : World) (hN : NodesIn w a cap L) :
    Calls Try.prog 18 #[.agg #[.slice a L.length cap, .int .i64 m, .int .i64 b], .int .i64 d, .string ⟨nm.toArray⟩] w fun e w' => e = .returned (.int .i64 z) ∧ Below w.heap.size w w' := by
  subst hz
  exact lkid_any a cap m b d nm L hR w hN

set_option maxRecDepth 100000 in
set_option maxHeartbeats 8000000 in
theorem tkids_walk (a : Option Addr) (cap : Nat) (m b dir : Int) (sb : ByteArray) (_hs : sb.size ≤ 281474976710656) (L : List Ino) (hR : Reach L) (w : World) (hN : NodesIn w a cap L) :
    Calls Try.prog 6 #[.agg #[.slice a L.length cap, .int .i64 m, .int .i64 b], .int .i64 dir, .string sb] w fun e w' => e = .returned (.bool true) ∧ Below w.heap.size w w' := by
  obtain ⟨s, rfl⟩ : ∃ s : List UInt8, sb = ⟨s.toArray⟩ := ⟨sb.data.toList, rfl⟩
  have hb1 := below_box w (.cells #[.slice a L.length cap, .int .i64 m, .int .i64 b] 24)
  obtain ⟨w1, hw1⟩ : ∃ w1, w1 = w.alloc (.cells #[.slice a L.length cap, .int .i64 m, .int .i64 b] 24) := ⟨_, rfl⟩
  have hM := hN.below hb1
  have hsz : w1.heap.size = w.heap.size + 1 := by rw [hw1]; simp
  have hbox : ∀ W', Below w1.heap.size w1 W' → W'.cell? ⟨w.heap.size, 0, none⟩ = some (.slice a L.length cap) ∧ W'.cell? ⟨w.heap.size, 1, none⟩ = some (.int .i64 m) ∧ W'.cell? ⟨w.heap.size, 2, none⟩ = some (.int .i64 b) := fun W' h => box3 (by rw [← hw1]; exact h)
  rw [← hw1] at hM hb1
  have HM := Lib.hid hM
  have HB := Lib.hid hb1
  have HX := Lib.hid hbox
  have HR := Lib.hid hR
  have HEND := Lib.hid (show ∀ W', Below w1.heap.size w1 W' → Below w.heap.size w W' from fun W' h => HB.out.trans (h.mono (by rw [hsz]; omega)))
  have hsz' : w.heap.size < w1.heap.size := by omega
  clear hM hN hb1 hbox hsz hR
  go_enter Try.func6, Try.ntmps6
  go_wp2_with fail
  rw [← hw1]
  clear hw1
  refine (few_any _ _ _ _ L HR.out.nodes HR.out.kids _ HM.out).mono ?_
  rintro e w2 ⟨⟨v, rfl, hv⟩, hb2⟩
  have HV := Lib.hid hv
  have HB2 := Lib.hid hb2
  obtain ⟨q0, q1, q2⟩ := HX.out _ hb2
  have hs2 := hb2.size
  clear hv hb2
  cases v with
  | false =>
    go_wp2_with fail
    refine (awake3 _).mono ?_
    rintro e w3 ⟨rfl, hb3⟩
    have HB3 := Lib.hid (HB2.out.trans (hb3.mono hs2))
    clear hb3
    go_wp2_with fail
    go_ret
    exact ⟨rfl, HEND.out _ HB3.out⟩
  | true =>
    have HFEW := Lib.hid (HV.out (by simp))
    clear HV
    go_wp2_with fail
    refine (rfit_any _ _ _ _ L HFEW.out.1 HR.out.texts _ (HM.out.below HB2.out)).mono ?_
    rintro e w3 ⟨⟨v, rfl, hv⟩, hb3⟩
    have HV := Lib.hid (hv.trans ref_iff)
    have HB3 := Lib.hid (HB2.out.trans (hb3.mono hs2))
    have hs3 := HB3.out.size
    clear hv hb3 q0 q1 q2
    cases v with
    | false =>
      go_wp2_with fail
      refine (awake3 _).mono ?_
      rintro e w4 ⟨rfl, hb4⟩
      have HB4 := Lib.hid (HB3.out.trans (hb4.mono hs3))
      clear hb4
      go_wp2_with fail
      go_ret
      exact ⟨rfl, HEND.out _ HB4.out⟩
    | true =>
      have HFIT := Lib.hid (HV.out.1 (by simp))
      have hL : L.length ≤ 300 := HFEW.out.1
      obtain ⟨q0, q1, q2⟩ := HX.out _ HB3.out
      obtain ⟨kz, hkz⟩ : ∃ kz, kidL L dir s = kz := ⟨_, rfl⟩
      have HKZ := Lib.hid hkz
      clear HV hkz
      go_wp2_with fail
      refine (lkid_known _ _ _ _ _ _ L (kids_rise HFIT.out.ins) kz HKZ.out _ (HM.out.below HB3.out)).mono ?_
      rintro e w4 ⟨rfl, hb4⟩
      have HB4 := Lib.hid (HB3.out.trans (hb4.mono hs3))
      have hs4 := HB4.out.size
      clear hb4 q0 q1 q2
      obtain ⟨q0, q1, q2⟩ := HX.out _ HB4.out
      go_wp2_with fail
      clear q0 q1 q2
      go_loopw [8, 9, 29] (fun fv _ iv wr => KL1 L dir s w1 fv iv wr) (fun _ _ iv _ => L.length - (intOf iv).toNat)
      case atStart => exact ⟨0, false, by omega, rfl, rfl, Lib.hid ⟨fun h => (by cases h), fun ⟨d, hd, _⟩ => absurd hd (Nat.not_lt_zero _)⟩, HB4.out⟩
      case round =>
        obtain ⟨i, f, hi, rfl, rfl, hf, hbr⟩ := hrel
        have HF := Lib.hid hf.out
        have HBR := Lib.hid hbr
        have hszr := hbr.size
        clear hf hbr
        by_cases hlt : i < L.length
        · obtain ⟨bb, o, rfl, hx⟩ := HM.out.2.2 i hlt
          have x0 := cell_below HBR.out hx.kind
          have x1 := cell_below HBR.out hx.mode
          have x2 := cell_below HBR.out hx.links
          have x3 := cell_below HBR.out hx.data
          obtain ⟨kv, x4', hks⟩ := hx.kids
          have x4 := cell_below HBR.out x4'
          have x5 := cell_below HBR.out hx.up
          obtain ⟨M, hMe⟩ : ∃ M, M = L[i].kids := ⟨_, rfl⟩
          rw [← hMe] at hks
          have HME := Lib.hid hMe
          have hMl : M.length ≤ 1024 := by rw [hMe]; exact (HFIT.out.ins i hlt).2.1
          obtain ⟨ka, kcap, rfl, hk1, hk2, hk3⟩ := hks
          have HKX := Lib.hid hk3
          unfold maxLen at hk2
          have HBA := Lib.hid (show ∀ o, Below w1.heap.size w1 (wr.alloc o) from fun o => HBR.out.alloc hszr o)
          have hi0 : (0 : Int) ≤ (i : Int) := by omega
          clear hx x4' hMe hk3
          go_wp2_with fail
          obtain ⟨wn, hwn⟩ : ∃ wn, wn = wr.alloc (.cells #[.int .i64 L[i].kind, .int .i64 L[i].mode, .int .i64 L[i].links, .string ⟨L[i].data.toArray⟩, .slice ka M.length kcap, .int .i64 L[i].up] 45) := ⟨_, rfl⟩
          have HBN := Lib.hid (show Below w1.heap.size w1 wn by rw [hwn]; exact HBA.out _)
          rw [← hwn]
          clear hwn x0 x1 x2 x3 x4 x5 HBA
          go_loopw [8, 37] (fun fv jv W => KL2 L dir s i M w1 wn fv jv W) (fun _ jv _ => M.length - (intOf jv).toNat)
          case atStart => exact ⟨0, f, by omega, rfl, rfl, Lib.hid (HF.out.trans ⟨fun h => Or.inl h, fun h => by rcases h with h | ⟨_, k, hk, _⟩; exact h; exact absurd hk (Nat.not_lt_zero _)⟩), HBN.out, Below.refl _ _⟩
          case round =>
            obtain ⟨j, g, hj, rfl, rfl, hg, hbr, hbn⟩ := hrel
            have HG := Lib.hid hg.out
            have HBR := Lib.hid hbr
            have HBN2 := Lib.hid hbn
            have hszr := hbr.size
            clear hg hbr hbn
            by_cases hjl : j < M.length
            · obtain ⟨c1, p1, rfl, z0, z1⟩ := HKX.out j hjl
              have y0 := cell_below HBR.out z0
              have y1 := cell_below HBR.out z1
              obtain ⟨nm, hnm⟩ : ∃ nm, nm = M[j].1 := ⟨_, rfl⟩
              obtain ⟨ino, hino⟩ : ∃ ino, ino = M[j].2 := ⟨_, rfl⟩
              have HKD := Lib.hid (show kidL L (i : Int) nm = ino by
                have h := HME.out
                subst h
                rw [hnm, hino]
                exact kid_of HFIT.out i hlt j hjl)
              have HNM := Lib.hid hnm
              rw [← hnm] at y0
              rw [← hino] at y1
              have gw : w.heap.size < wr.heap.size := by omega
              clear z0 z1 hnm hino
              go_wp2_with fail
              obtain ⟨wq, hwq⟩ : ∃ wq, wq = wr.alloc (.cells #[.string ⟨nm.toArray⟩, .int .i64 ino] 49) := ⟨_, rfl⟩
              have hbq : Below wr.heap.size wr wq := by rw [hwq]; exact below_box _ _
              have HBQ := Lib.hid (HBR.out.trans (hbq.mono hszr))
              have HBNQ := Lib.hid (HBN2.out.trans (hbq.mono HBN2.out.size))
              have e0 : wq.cell? ⟨wr.heap.size, 0, none⟩ = some (.string ⟨nm.toArray⟩) := by rw [hwq]; simp only [World.cell?, new_block]; rfl
              have e1 : wq.cell? ⟨wr.heap.size, 1, none⟩ = some (.int .i64 ino) := by rw [hwq]; simp only [World.cell?, new_block]; rfl
              obtain ⟨q0, q1, q2⟩ := HX.out _ HBQ.out
              have H1 := Lib.hid (grown_call (wb := wq) (fun W hW => lkid_known (some ⟨bb, o, none⟩) cap m b (i : Int) nm L (kids_rise HFIT.out.ins) ino HKD.out W (HM.out.below (HBQ.out.trans (hW.mono HBQ.out.size)))))
              have f0 := grown_cell q0
              have f1 := grown_cell q1
              have f2 := grown_cell q2
              have f3 := grown_cell e0
              have f4 := grown_cell e1
              rw [← hwq]
              clear hwq hbq q0 q1 q2 y0 y1
              refine wp_region_grown (by kernel_rfl) (by kernel_rfl) ?_
              repeat (first | go_big_quiet_skip | (go_big_quiet_want; go_big_quiet_op; (first | go_big_quiet_on | (refine ⟨_, H1.out, ?_⟩; go_big_quiet_on))))
              refine wpQuiet_nil ?_
              intro w8 hw8
              have hbg : Below wq.heap.size wq w8 := by obtain ⟨x, rfl⟩ := hw8; exact x.below
              have HB8 := Lib.hid (HBQ.out.trans (hbg.mono HBQ.out.size))
              have HBN8 := Lib.hid (HBNQ.out.trans (hbg.mono HBNQ.out.size))
              have g0 := cell_below hbg e0
              clear hw8 hbg f0 f1 f2 f3 f4 e0 e1
              have HSTEP := Lib.hid (show ∀ q : Bool, (q = true ↔ (g = true ∨ (i : Int) = dir ∧ nm = s)) → (q = true ↔ (Fnd L dir s i ∨ (i : Int) = dir ∧ ∃ k, k < j + 1 ∧ ∃ h : k < M.length, M[k].1 = s)) from fun q hq => by
                rw [hq, HG.out]
                constructor
                · rintro ((h | ⟨h, k, hk, h2⟩) | ⟨h, h2⟩)
                  · exact Or.inl h
                  · exact Or.inr ⟨h, k, by omega, h2⟩
                  · exact Or.inr ⟨h, j, by omega, hjl, by rw [← HNM.out]; exact h2⟩
                · rintro (h | ⟨h, k, hk, h2, h3⟩)
                  · exact Or.inl (Or.inl h)
                  · by_cases e : k = j
                    · subst e
                      exact Or.inr ⟨h, by rw [HNM.out]; exact h3⟩
                    · exact Or.inl (Or.inr ⟨h, k, by omega, h2, h3⟩))
              cases g with
              | true =>
                have HQ := Lib.hid (HSTEP.out true (by simp))
                go_wp2_with fail
                go_roundw
                case rel => exact ⟨j + 1, true, by omega, by go_num, rfl, HQ, HB8.out, HBN8.out⟩
                case measure => simp [intOf] <;> omega
              | false =>
                by_cases hid1 : (i : Int) = dir
                · have hidb : ((i : Int) == dir) = true := by simpa using hid1
                  cases hns : (nm == s) with
                  | true =>
                    have HQ := Lib.hid (HSTEP.out true (by
                      have e : nm = s := by simpa using hns
                      simp [hid1, e]))
                    clear hid1
                    go_wp2_with fail
                    go_roundw
                    case rel => exact ⟨j + 1, true, by omega, by go_num, rfl, HQ, HB8.out, HBN8.out⟩
                    case measure => simp [intOf] <;> omega
                  | false =>
                    have HQ := Lib.hid (HSTEP.out false (by
                      have e : nm ≠ s := by simpa using hns
                      simp [e]))
                    clear hid1
                    go_wp2_with fail
                    go_roundw
                    case rel => exact ⟨j + 1, false, by omega, by go_num, rfl, HQ, HB8.out, HBN8.out⟩
                    case measure => simp [intOf] <;> omega
                · have hidb : ((i : Int) == dir) = false := by simpa using hid1
                  have HQ := Lib.hid (HSTEP.out false (by simp [hid1]))
                  clear hid1
                  go_wp2_with fail
                  go_roundw
                  case rel => exact ⟨j + 1, false, by omega, by go_num, rfl, HQ, HB8.out, HBN8.out⟩
                  case measure => simp [intOf] <;> omega
            · have HQ := Lib.hid (show g = true ↔ Fnd L dir s (i + 1) by
                rw [HG.out]
                constructor
                · rintro (⟨d, h1, h2⟩ | ⟨h, k, hk, h2, h3⟩)
                  · exact ⟨d, by omega, h2⟩
                  · exact ⟨i, by omega, hlt, h, M[k], by rw [← HME.out]; exact List.getElem_mem _, h3⟩
                · rintro ⟨d, h1, hd, h2, e, he, h3⟩
                  by_cases ed : d = i
                  · subst ed
                    rw [← HME.out] at he
                    obtain ⟨k, hk, rfl⟩ := List.getElem_of_mem he
                    exact Or.inr ⟨h2, k, by omega, hk, h3⟩
                  · exact Or.inl ⟨d, by omega, hd, h2, e, he, h3⟩)
              go_wp2_with fail
              go_roundw
              case rel => exact ⟨i + 1, g, by omega, by go_num, rfl, HQ, HBR.out⟩
              case measure => simp [intOf] <;> omega
        · have HQ := Lib.hid (show f = true ↔ 0 ≤ kz by
            have e : i = L.length := by omega
            rw [HF.out, e, fnd_all HFIT.out, HKZ.out])
          cases f with
          | true =>
            have hkz : 0 ≤ kz := HQ.out.1 (by simp)
            go_wp2_with fail
            refine (awake3 _).mono ?_
            rintro e w5 ⟨rfl, hb5⟩
            have HB5 := Lib.hid (HBR.out.trans (hb5.mono hszr))
            clear hb5
            go_wp2_with fail
            go_ret
            exact ⟨rfl, HEND.out _ HB5.out⟩
          | false =>
            have hkz : ¬ 0 ≤ kz := fun h => by
              have h2 := HQ.out.2 h
              cases h2
            have hkz2 : decide (0 ≤ kz) = false := decide_eq_false hkz
            have hkz3 : kz < 0 := by omega
            clear hkz
            go_wp2_with fail
            refine (awake3 _).mono ?_
            rintro e w5 ⟨rfl, hb5⟩
            have HB5 := Lib.hid (HBR.out.trans (hb5.mono hszr))
            clear hb5
            go_wp2_with fail
            go_ret
            exact ⟨rfl, HEND.out _ HB5.out⟩
end Go.Proofs.Ytdpfnnhlneapbaa
