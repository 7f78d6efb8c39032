/-
  few and good, as the laws of stage 11 call them.
-/
import Derived.Test.YtclhpedecimicaaGreatGExpand
import Derived.Test.YtclhpedecimicaaGreatTRFit2
import Derived.Test.YtclhpedecimicaaGreatK12
namespace Go.Proofs.YtclhpedecimicaaGreat
set_option maxRecDepth 100000
open Go Go.RowKit

/-- A bool, of which one thing is known. -/
def GoodV (p : Prop) (e : Ending) : Prop := ∃ v : Bool, e = .returned (.bool v) ∧ (v = true → p)
theorem goodv_any {p : Prop} (v : Bool) (h : v = true → p) : GoodV p (.returned (.bool v)) := ⟨v, rfl, h⟩

set_option maxHeartbeats 4000000 in
theorem lfew (P : ByteArray) (hP : P.size ≤ 281474976710656) (w : World) : Calls Tryz.prog 7 #[.string P] w fun e w' => GoodV True e ∧ w = w' := by
  go_enter Tryz.func7, Tryz.ntmps7
  go_wp2_with fail
  go_loopw [3, 4] (fun v3 v4 wr => ∃ i n : Nat, v4 = .int .i64 (i : Int) ∧ v3 = .int .i64 (n : Int) ∧ i ≤ P.size ∧ n ≤ i ∧ w = wr) (fun _ v4 _ => P.size - (intOf v4).toNat)
  case atStart => exact ⟨0, 0, rfl, rfl, Nat.zero_le _, Nat.le_refl _, rfl⟩
  case round =>
    obtain ⟨i, n, rfl, rfl, hi, hn, rfl⟩ := hrel
    by_cases hlt : i < P.size
    · have hii : (i : Int) < (P.size : Int) := by omega
      have hi0 : (0 : Int) ≤ (i : Int) := by omega
      obtain ⟨c, hc⟩ : ∃ c, c = P[i] := ⟨_, rfl⟩
      by_cases h47 : ((P[i].toNat : Int) == 47) = true
      · have h47b : (P[i].toNat : Int) = 47 := by simpa using h47
        go_wp2_with fail
        go_roundw
        case rel => exact ⟨i + 1, n + 1, by simp, by simp, by omega, by omega, trivial⟩
        case measure => simp only [intOf]; omega
      · have h47c : ((P[i].toNat : Int) == 47) = false := by simpa using h47
        clear h47
        go_wp2_with fail
        go_roundw
        case rel => exact ⟨i + 1, n, by simp, rfl, by omega, by omega, trivial⟩
        case measure => simp only [intOf]; omega
    · have hii : ¬ (i : Int) < (P.size : Int) := by omega
      go_wp2_with fail
      go_ret
      exact ⟨goodv_any _ (fun _ => trivial), rfl⟩

set_option maxHeartbeats 4000000 in
theorem rfit_long (a : Option Addr) (cap : Nat) (m b : Int) (L : List Ino) (hL : 300 < L.length) (w : World) (_ : NodesIn w a cap L) :
    Calls Tryz.prog 14 #[.agg #[.slice a L.length cap, .int .i64 m, .int .i64 b]] w fun e w' => e = .returned (.bool false) ∧ Below w.heap.size w w' := by
  have HB := Lib.hid (below_box w (.cells #[.slice a L.length cap, .int .i64 m, .int .i64 b] 24))
  have h1 : 1 ≤ L.length := by omega
  by_cases h2 : (L.length : Int) ≤ m
  · have h3 : ¬ m ≤ 256 := by omega
    go_enter Tryz.func14, Tryz.ntmps14
    go_wp2_with fail
    go_ret
    exact ⟨rfl, HB.out⟩
  · go_enter Tryz.func14, Tryz.ntmps14
    go_wp2_with fail
    go_ret
    exact ⟨rfl, HB.out⟩
/-- R3.Fit, of any tree. -/
theorem rfit_tells (a : Option Addr) (cap : Nat) (m b : Int) (L : List Ino) (hS : Sized L) (w : World) (hN : NodesIn w a cap L) :
    Calls Tryz.prog 14 #[.agg #[.slice a L.length cap, .int .i64 m, .int .i64 b]] w fun e w' => GoodV (FitP L m b) e ∧ Below w.heap.size w w' := by
  by_cases h : L.length ≤ 300
  · refine (rfit_any a cap m b L h hS w hN).mono ?_
    rintro e w' ⟨⟨v, rfl, hv⟩, hb⟩
    exact ⟨⟨v, rfl, fun hv2 => ref_iff.1 (hv.1 hv2)⟩, hb⟩
  · refine (rfit_long a cap m b L (by omega) w hN).mono ?_
    rintro e w' ⟨rfl, hb⟩
    exact ⟨⟨false, rfl, fun h => by cases h⟩, hb⟩

/-- Texts that can be read in a row. -/
def TextsAt (w : World) (ga : Option Addr) (X : List ByteArray) : Prop := ∀ i x, X[i]? = some x → ∃ g, ga = some ⟨g, 0, none⟩ ∧ w.cell? ⟨g, i, none⟩ = some (.string x)
set_option maxHeartbeats 8000000 in
theorem lgood11 (a : Option Addr) (cap : Nat) (m b : Int) (L : List Ino) (hS : Sized L) (hLL : L.length ≤ 281474976710656) (hK : ∀ k (h : k < L.length), L[k].kids.length ≤ 281474976710656) (ga : Option Addr) (gc : Nat) (X : List ByteArray) (hX : X.length ≤ 100) (hXs : ∀ x ∈ X, x.size ≤ 281474976710656) (w : World) (hN : NodesIn w a cap L) (hR : TextsAt w ga X) :
    Calls Tryz.prog 6 #[.agg #[.slice a L.length cap, .int .i64 m, .int .i64 b], .slice ga X.length gc] w fun e w' => GoodV (sumS X ≤ 300 ∧ FitP L m b) e ∧ Below w.heap.size w w' := by
  have hb1 := below_box w (.cells #[.slice a L.length cap, .int .i64 m, .int .i64 b] 24)
  have hn1 := new_block w (.cells #[.slice a L.length cap, .int .i64 m, .int .i64 b] 24)
  have HM := Lib.hid (hN.below hb1)
  have HB := Lib.hid hb1
  have HS := Lib.hid hS
  have HK := Lib.hid hK
  have HXS := Lib.hid hXs
  have HR := Lib.hid (fun i x h => by obtain ⟨g, h1, h2⟩ := hR i x h; exact (⟨g, h1, cell_below hb1 h2⟩ : ∃ g, ga = some ⟨g, 0, none⟩ ∧ (w.alloc (.cells #[.slice a L.length cap, .int .i64 m, .int .i64 b] 24)).cell? ⟨g, i, none⟩ = some (.string x)))
  have c0 := blk_cell hn1 0
  have c1 := blk_cell hn1 1
  have c2 := blk_cell hn1 2
  obtain ⟨w1, hw1⟩ : ∃ w1, w1 = w.alloc (.cells #[.slice a L.length cap, .int .i64 m, .int .i64 b] 24) := ⟨_, rfl⟩
  rw [← hw1] at HM HB HR c0 c1 c2
  have HW1 := Lib.hid hw1
  clear hN hb1 hn1 hS hK hXs hR hw1
  go_enter Tryz.func6, Tryz.ntmps6
  go_upto_region 1 with fail
  rw [← HW1.out]
  go_wp2_with fail
  go_loopw [5, 12] (fun v5 v12 wr => ∃ i n : Nat, v12 = .int .i64 (i : Int) ∧ v5 = .int .i64 (n : Int) ∧ i ≤ X.length ∧ n ≤ 300 ∧ Hid (n = sumS (X.take i)) ∧ w1 = wr) (fun _ v12 _ => X.length - (intOf v12).toNat)
  case atStart => exact ⟨0, 0, rfl, rfl, Nat.zero_le _, by omega, (show 0 = sumS (X.take 0) from rfl), rfl⟩
  case round =>
    obtain ⟨i, n, rfl, rfl, hi, hn, HSM, rfl⟩ := hrel
    by_cases hlt : i < X.length
    · obtain ⟨x, hx⟩ : ∃ x, X[i]? = some x := ⟨X[i], List.getElem?_eq_getElem hlt⟩
      obtain ⟨g, rfl, hc⟩ := HR.out i x hx
      have hii : (i : Int) < (X.length : Int) := by omega
      have hi0 : (0 : Int) ≤ (i : Int) := by omega
      have hxs := HXS.out x (List.mem_of_getElem? hx)
      have HSN := Lib.hid (show n + x.size = sumS (X.take (i + 1)) by rw [sumS_take X i x hx, HSM.out])
      have HLE := Lib.hid (sumS_le X (i + 1))
      clear hx
      by_cases hbig : 300 < n + x.size
      · go_wp2_with fail
        go_ret
        exact ⟨goodv_any _ (fun h => by cases h), HB.out⟩
      · go_wp2_with fail
        go_roundw
        case rel => exact ⟨i + 1, n + x.size, by go_num, by go_num, by omega, by omega, HSN, trivial⟩
        case measure => simp [intOf] <;> omega
    · obtain rfl : i = X.length := by omega
      have HSF := Lib.hid (show sumS X ≤ 300 by have h := HSM.out; rw [List.take_length] at h; omega)
      go_wp2_with fail
      go_loopw [8, 9] (fun v8 v9 wr => ∃ i s : Nat, v9 = .int .i64 (i : Int) ∧ v8 = .int .i64 (s : Int) ∧ i ≤ L.length ∧ s ≤ 562949953421312 ∧ w1 = wr) (fun _ v9 _ => L.length - (intOf v9).toNat)
      case atStart => exact ⟨0, 0, rfl, rfl, Nat.zero_le _, by omega, rfl⟩
      case round =>
        obtain ⟨i, s, rfl, rfl, hi, hs, rfl⟩ := hrel
        by_cases hlt : i < L.length
        · have hii : (i : Int) < (L.length : Int) := by omega
          have hi0 : (0 : Int) ≤ (i : Int) := by omega
          by_cases hs1 : s ≤ 100
          · have hs2 : (s : Int) ≤ 100 := by omega
            obtain ⟨bb, o6, rfl, hx⟩ := HM.out.2.2 i hlt
            obtain ⟨kv, hkv, ka, kc, rfl, hk1, hk2, -⟩ := hx.kids
            have hkl := HK.out i hlt
            clear hx
            obtain ⟨kn, hkn⟩ : ∃ kn, kn = L[i].kids.length := ⟨_, rfl⟩
            rw [← hkn] at hkv hkl
            clear hkn hk1 hk2
            go_wp2_with fail
            go_roundw
            case rel => exact ⟨i + 1, s + kn, by go_num, by go_num, by omega, by omega, trivial⟩
            case measure => simp [intOf] <;> omega
          · have hs2 : ¬ (s : Int) ≤ 100 := by omega
            go_wp2_with fail
            go_ret
            exact ⟨goodv_any _ (fun h => by cases h), HB.out⟩
        · have hii : ¬ (i : Int) < (L.length : Int) := by omega
          by_cases hs1 : s ≤ 100
          · have hs2 : (s : Int) ≤ 100 := by omega
            go_wp2_with fail
            refine (rfit_tells a cap m b L HS.out _ HM.out).mono ?_
            rintro e w2 ⟨⟨v, rfl, hv⟩, hb⟩
            have HV := Lib.hid hv
            have HB2 := Lib.hid (below_two HB.out hb)
            clear hv hb
            go_wp2_with fail
            go_ret
            exact ⟨goodv_any _ (fun h => ⟨HSF.out, HV.out h⟩), HB2.out⟩
          · have hs2 : ¬ (s : Int) ≤ 100 := by omega
            go_wp2_with fail
            go_ret
            exact ⟨goodv_any _ (fun h => by cases h), HB.out⟩
end Go.Proofs.YtclhpedecimicaaGreat
