/-
  tree's Kid, of the landed code: a binary search in names that rise.
-/
import Derived.IntWalk
import Derived.Test.YtgmmggdjcgemfaaTOrder
import Derived.Test.YtgmmggdjcgemfaaTLDir
import Derived.Test.YtgmmggdjcgemfaaShelf
namespace Go.Proofs.Ytgmmggdjcgemfaa
open Go Go.RowKit

set_option maxHeartbeats 1000000 in
theorem lcmp_any (n s : List UInt8) (i : Int) (w : World) :
    Calls Try.prog 57 #[.agg #[.string ⟨n.toArray⟩, .int .i64 i], .string ⟨s.toArray⟩] w fun e w' => e = .returned (.int .i64 (Lib.compareBytes n s)) ∧ Below w.heap.size w w' := by
  have HB := Lib.hid (below_box w (.cells #[.string ⟨n.toArray⟩, .int .i64 i] 62))
  go_enter Try.func57, Try.ntmps57
  go_wp2_with fail
  refine (Try.strings_Compare _ _ _).mono ?_
  rintro e w' ⟨rfl, rfl⟩
  go_wp2_with fail
  go_ret
  exact ⟨rfl, HB.out⟩

def BRel (M : List (List UInt8 × Int)) (s : List UInt8) (w : World) (iv jv : Value) (wr : World) : Prop :=
  ∃ i j : Nat, i ≤ j ∧ j ≤ M.length ∧ iv = .int .i64 i ∧ jv = .int .i64 j ∧ Hid (∀ k (hk : k < M.length), k < i → Op.bytesLess M[k].1 s = true) ∧ Hid (∀ k (hk : k < M.length), j ≤ k → Op.bytesLess M[k].1 s = false) ∧ Below w.heap.size w wr

/-- What the search answers: the first place that is not ahead of s, and whether s stands there. -/
def BAns (M : List (List UInt8 × Int)) (s : List UInt8) (e : Ending) : Prop :=
  ∃ (i : Nat) (v : Bool), e = .returned (.tuple #[.int .i64 i, .bool v]) ∧ i ≤ M.length ∧ (v = true ↔ ∃ h : i < M.length, M[i].1 = s) ∧ (∀ k (hk : k < M.length), k < i → Op.bytesLess M[k].1 s = true) ∧ (∀ k (hk : k < M.length), i ≤ k → Op.bytesLess M[k].1 s = false)

set_option maxRecDepth 100000 in
set_option maxHeartbeats 4000000 in
theorem lsearch_any (M : List (List UInt8 × Int)) (hM : M.length ≤ 1024) (hR : Rises M) (s : List UInt8) (ka : Option Addr) (kcap : Nat) (w : World) (hK : KidsIn w (.slice ka M.length kcap) M) :
    Calls Try.prog 56 #[.slice ka M.length kcap, .string ⟨s.toArray⟩, .func (.func 57) #[] #[]] w fun e w' => BAns M s e ∧ Below w.heap.size w w' := by
  obtain ⟨ka', kcap', e1, hkc, hkm, hkk⟩ := hK
  simp only [Value.slice.injEq] at e1
  obtain ⟨rfl, -, rfl⟩ := e1
  unfold maxLen at hkm
  have HK := Lib.hid hkk
  have HR := Lib.hid hR
  clear hkk hR
  go_enter Try.func56, Try.ntmps56
  go_wp2_with fail
  go_loopw [9, 10, 11] (fun i j _ wr => BRel M s w i j wr) (fun i j _ _ => (intOf j).toNat - (intOf i).toNat)
  case atStart => exact ⟨0, M.length, by omega, by omega, rfl, rfl, fun _ _ h => absurd h (Nat.not_lt_zero _), fun k hk h => absurd hk (by omega), Below.refl _ _⟩
  case round =>
    obtain ⟨i, j, hij, hj, rfl, rfl, hlo, hhi, hbr⟩ := hrel
    have HBR := Lib.hid hbr
    have hszr := hbr.size
    clear hbr
    by_cases hlt : i < j
    · have hih : i ≤ (i + j) / 2 := by omega
      have hhj : (i + j) / 2 < j := by omega
      have hhM : (i + j) / 2 < M.length := by omega
      obtain ⟨c1, p1, rfl, z0, z1⟩ := HK.out ((i + j) / 2) hhM
      have y0 := cell_below HBR.out z0
      have y1 := cell_below HBR.out z1
      obtain ⟨nm, hnm⟩ : ∃ nm, nm = M[(i + j) / 2].1 := ⟨_, rfl⟩
      obtain ⟨ino, hino⟩ : ∃ ino, ino = M[(i + j) / 2].2 := ⟨_, rfl⟩
      rw [← hnm] at y0
      rw [← hino] at y1
      have HNM := Lib.hid hnm
      have hc1 := cmp_le1 nm s
      clear z0 z1 hnm hino
      go_wp2_with fail
      refine (lcmp_any nm s ino _).mono ?_
      rintro e w2 ⟨rfl, hb2⟩
      have HB2 := Lib.hid (HBR.out.trans (hb2.mono hszr))
      clear hb2 y0 y1
      cases hls : Op.bytesLess nm s with
      | true =>
        have hneg := cmp_less.2 hls
        have hlo' := Lib.hid (show ∀ k (hk : k < M.length), k < (i + j) / 2 + 1 → Op.bytesLess M[k].1 s = true from fun k hk hkh => by
          by_cases e : k = (i + j) / 2
          · subst e
            rw [← HNM.out]
            exact hls
          · refine less_trans _ _ _ (HR.out.lt k ((i + j) / 2) hhM (by omega)) ?_
            rw [← HNM.out]
            exact hls)
        clear hls
        go_wp2_with fail
        go_roundw
        case rel => exact ⟨(i + j) / 2 + 1, j, by omega, hj, by go_num, rfl, hlo', hhi, HB2.out⟩
        case measure => simp [intOf] <;> omega
      | false =>
        have hneg : ¬ Lib.compareBytes nm s < 0 := fun h => by rw [cmp_less.1 h] at hls; cases hls
        have hneg' : 0 ≤ Lib.compareBytes nm s := by omega
        have hhi' := Lib.hid (show ∀ k (hk : k < M.length), (i + j) / 2 ≤ k → Op.bytesLess M[k].1 s = false from fun k hk hkh => by
          cases hb : Op.bytesLess M[k].1 s with
          | false => rfl
          | true =>
            by_cases e : k = (i + j) / 2
            · subst e
              rw [← HNM.out, hls] at hb
              cases hb
            · have h1 := less_trans _ _ _ (HR.out.lt ((i + j) / 2) k hk (by omega)) hb
              rw [← HNM.out, hls] at h1
              cases h1)
        clear hls hneg
        go_wp2_with fail
        go_roundw
        case rel => exact ⟨i, (i + j) / 2, hih, by omega, rfl, by go_num, hlo, hhi', HB2.out⟩
        case measure => simp [intOf] <;> omega
    · obtain rfl : i = j := by omega
      have HFIN := Lib.hid (show ∀ (e : Ending) (v : Bool), e = .returned (.tuple #[.int .i64 i, .bool v]) → (v = true ↔ ∃ h : i < M.length, M[i].1 = s) → BAns M s e from fun e v h1 h2 => ⟨i, v, h1, hj, h2, hlo.out, hhi.out⟩)
      by_cases hin : i < M.length
      · obtain ⟨c1, p1, rfl, z0, z1⟩ := HK.out i hin
        have y0 := cell_below HBR.out z0
        have y1 := cell_below HBR.out z1
        obtain ⟨nm, hnm⟩ : ∃ nm, nm = M[i].1 := ⟨_, rfl⟩
        obtain ⟨ino, hino⟩ : ∃ ino, ino = M[i].2 := ⟨_, rfl⟩
        rw [← hnm] at y0
        rw [← hino] at y1
        have HNM := Lib.hid hnm
        clear z0 z1 hnm hino hlt
        go_wp2_with fail
        refine (lcmp_any nm s ino _).mono ?_
        rintro e w2 ⟨rfl, hb2⟩
        have HB2 := Lib.hid (HBR.out.trans (hb2.mono hszr))
        clear hb2 y0 y1
        go_wp2_with fail
        go_ret2
        refine ⟨HFIN.out _ _ rfl ?_, HB2.out⟩
        rw [beq_iff_eq, cmp_zero, HNM.out]
        exact ⟨fun h => ⟨hin, h⟩, fun ⟨_, h⟩ => h⟩
      · have hin' : M.length ≤ i := by omega
        clear hlt
        go_wp2_with fail
        go_ret2
        exact ⟨HFIN.out _ _ rfl (by simp [hin]), HBR.out⟩

set_option maxRecDepth 100000 in
set_option maxHeartbeats 4000000 in
theorem lkid_any (a : Option Addr) (cap : Nat) (m b d : Int) (nm : List UInt8) (L : List Ino) (hR : ∀ k (h : k < L.length), L[k].kids.length ≤ 1024 ∧ Rises L[k].kids) (w : World) (hN : NodesIn w a cap L) :
    Calls Try.prog 52 #[.agg #[.slice a L.length cap, .int .i64 m, .int .i64 b], .int .i64 d, .string ⟨nm.toArray⟩] w fun e w' => e = .returned (.int .i64 (kidL L d nm)) ∧ Below w.heap.size w w' := by
  have hb1 := below_box w (.cells #[.slice a L.length cap, .int .i64 m, .int .i64 b] 24)
  have hM := hN.below hb1
  have hcap := hN.1
  have hmax := hN.2.1
  unfold maxLen at hmax
  have HM := Lib.hid hM
  have HB1 := Lib.hid hb1
  have HR := Lib.hid hR
  clear hM hN hb1 hR
  obtain ⟨F, hF⟩ : ∃ F, F = kidL L d nm := ⟨_, rfl⟩
  rw [← hF]
  have HF := Lib.hid hF
  clear hF
  cases hd : dirB L d with
  | false =>
    have HD := Lib.hid hd
    have hfin := Lib.hid (show F = -1 by rw [HF.out]; unfold kidL; rw [hd]; rfl)
    clear hd
    go_enter Try.func52, Try.ntmps52
    go_wp2_with fail
    refine (lisdir_known _ _ _ _ _ L _ HD.out _ HM.out).mono ?_
    rintro e w2 ⟨rfl, hb2⟩
    have HB2 := Lib.hid (HB1.out.trans (hb2.mono (by simp)))
    clear hb2
    go_wp2_with fail
    go_ret
    exact ⟨by rw [hfin.out]; rfl, HB2.out⟩
  | true =>
    obtain ⟨n, rfl, hn⟩ := there_nat (show thereB L d = true by unfold dirB at hd; rw [Bool.and_eq_true] at hd; exact hd.1)
    have HD := Lib.hid hd
    obtain ⟨bb, o, rfl, hx⟩ := HM.out.2.2 n hn
    obtain ⟨kv, hk1, hks⟩ := hx.kids
    obtain ⟨M, hMe⟩ : ∃ M, M = L[n].kids := ⟨_, rfl⟩
    rw [← hMe] at hks
    obtain ⟨ka, kcap, rfl, hkc, hkm, hkk⟩ := hks
    obtain ⟨hM1, hM2⟩ : M.length ≤ 1024 ∧ Rises M := by rw [hMe]; exact HR.out n hn
    have HM2 := Lib.hid hM2
    have hfin := Lib.hid (show F = findK M nm by rw [HF.out]; unfold kidL; rw [hd, node_nat L n hn, hMe]; rfl)
    have hd0 : (0 : Int) ≤ (n : Int) := by omega
    have HK := Lib.hid (show KidsIn _ (.slice ka M.length kcap) M from ⟨ka, kcap, rfl, hkc, hkm, hkk⟩)
    unfold maxLen at hkm
    clear hd hx hMe hkk hM2
    go_enter Try.func52, Try.ntmps52
    go_wp2_with fail
    refine (lisdir_known _ _ _ _ _ L _ HD.out _ HM.out).mono ?_
    rintro e w2 ⟨rfl, hb2⟩
    obtain ⟨q0, q1, q2⟩ := box3 hb2
    have h3 := cell_below hb2 hk1
    have HB2 := Lib.hid (HB1.out.trans (hb2.mono (by simp)))
    have HK2 := Lib.hid (HK.out.below hb2)
    have hs2 := HB2.out.size
    clear hb2 hk1
    go_wp2_with fail
    refine (lsearch_any M hM1 HM2.out nm ka kcap _ HK2.out).mono ?_
    rintro e w3 ⟨⟨i, v, rfl, hi, hv, hlo, hhi⟩, hb3⟩
    have HB3 := Lib.hid (HB2.out.trans (hb3.mono hs2))
    have HA := Lib.hid (findK_at HM2.out nm i hlo hhi)
    have HV := Lib.hid hv
    have HK3 := Lib.hid (HK2.out.below hb3)
    clear hb3 hlo hhi hv h3 q0 q1 q2
    cases v with
    | false =>
      have HE := Lib.hid (show F = -1 by
        rw [hfin.out]
        refine HA.out.2 (fun hi e => ?_)
        have h := HV.out.2 ⟨hi, e⟩
        cases h)
      go_wp2_with fail
      go_ret
      exact ⟨by rw [HE.out]; rfl, HB3.out⟩
    | true =>
      obtain ⟨hil, he⟩ := HV.out.1 (by simp)
      have HE := Lib.hid (show F = M[i].2 by rw [hfin.out]; exact HA.out.1 hil he)
      obtain ⟨ka', kcap', e1, -, -, hkk⟩ := HK3.out
      simp only [Value.slice.injEq] at e1
      obtain ⟨rfl, -, rfl⟩ := e1
      obtain ⟨c1, p1, rfl, z0, z1⟩ := hkk i hil
      have hi0 : (0 : Int) ≤ (i : Int) := by omega
      have hil' : (i : Int) < (M.length : Int) := by omega
      clear he hkk z0
      go_wp2_with fail
      go_ret
      exact ⟨by rw [HE.out]; rfl, HB3.out⟩
theorem lkid_known (a : Option Addr) (cap : Nat) (m b d : Int) (nm : List UInt8) (L : List Ino) (hR : ∀ k (h : k < L.length), L[k].kids.length ≤ 1024 ∧ Rises L[k].kids) (z : Int) (hz : kidL L d nm = z) (w : World) (hN : NodesIn w a cap L) :
    Calls Try.prog 52 #[.agg #[.slice a L.length cap, .int .i64 m, .int .i64 b], .int .i64 d, .string ⟨nm.toArray⟩] w fun e w' => e = .returned (.int .i64 z) ∧ Below w.heap.size w w' := by
  subst hz
  exact lkid_any a cap m b d nm L hR w hN
end Go.Proofs.Ytgmmggdjcgemfaa
