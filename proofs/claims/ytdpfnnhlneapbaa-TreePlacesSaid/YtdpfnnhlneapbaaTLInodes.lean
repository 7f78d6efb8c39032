/-
  tree's inodesFit, of the landed code.
-/
import Derived.Test.YtdpfnnhlneapbaaTLKids
namespace Go.Proofs.Ytdpfnnhlneapbaa
open Go Go.RowKit

/-- No text is longer than any machine's. -/
def Sized (L : List Ino) : Prop := ∀ k (h : k < L.length), L[k].data.length ≤ 4611686018427387904 ∧ ∀ e ∈ L[k].kids, e.1.length ≤ 4611686018427387904
def AllFit (L : List Ino) : Prop := ∀ k (h : k < L.length), aloneB L[k] = true ∧ KidsFit L L[k].kids
def InsRel (L : List Ino) (w1 : World) (iv : Value) (wr : World) : Prop :=
  ∃ i : Nat, i ≤ L.length ∧ iv = .int .i64 i ∧ Hid (∀ k (h : k < L.length), k < i → aloneB L[k] = true ∧ KidsFit L L[k].kids) ∧ Below w1.heap.size w1 wr

theorem eta_ino (x : Ino) : (⟨x.kind, x.mode, x.links, x.data, x.kids, x.up⟩ : Ino) = x := rfl

set_option maxRecDepth 100000 in
set_option maxHeartbeats 4000000 in
theorem linodes_any (a : Option Addr) (cap : Nat) (m b : Int) (L : List Ino) (hL : L.length ≤ 1000) (hS : Sized L) (w : World) (hN : NodesIn w a cap L) :
    Calls Try.prog 28 #[.agg #[.slice a L.length cap, .int .i64 m, .int .i64 b]] w fun e w' => TellsP (AllFit L) e ∧ Below w.heap.size w w' := by
  have hb1 := below_box w (.cells #[.slice a L.length cap, .int .i64 m, .int .i64 b] 24)
  obtain ⟨w1, hw1⟩ : ∃ w1, w1 = w.alloc (.cells #[.slice a L.length cap, .int .i64 m, .int .i64 b] 24) := ⟨_, rfl⟩
  have hM := hN.below hb1
  have hsz : w1.heap.size = w.heap.size + 1 := by rw [hw1]; simp
  have hbox : ∀ W', Below w1.heap.size w1 W' → W'.cell? ⟨w.heap.size, 0, none⟩ = some (.slice a L.length cap) ∧ W'.cell? ⟨w.heap.size, 1, none⟩ = some (.int .i64 m) ∧ W'.cell? ⟨w.heap.size, 2, none⟩ = some (.int .i64 b) := fun W' h => box3 (by rw [← hw1]; exact h)
  rw [← hw1] at hM hb1
  have HM := Lib.hid hM
  have HB := Lib.hid hb1
  have HS := Lib.hid hS
  have HX := Lib.hid hbox
  have HEND := Lib.hid (show ∀ W', Below w1.heap.size w1 W' → Below w.heap.size w W' from fun W' h => HB.out.trans (h.mono (by rw [hsz]; omega)))
  have hsz' : w.heap.size < w1.heap.size := by omega
  clear hM hN hb1 hS hbox hsz
  go_enter Try.func28, Try.ntmps28
  go_wp2_with fail
  rw [← hw1]
  clear hw1
  go_loopw [8] (fun i wr => InsRel L w1 i wr) (fun i _ => L.length - (intOf i).toNat)
  case atStart => exact ⟨0, by omega, rfl, fun _ _ h => absurd h (Nat.not_lt_zero _), Below.refl _ _⟩
  case round =>
    obtain ⟨i, hi, rfl, hok, hbr⟩ := hrel
    have HOK := Lib.hid hok.out
    have HBR := Lib.hid hbr
    have hszr := hbr.size
    clear hok hbr
    by_cases hlt : i < L.length
    · obtain ⟨bb, o, rfl, hx⟩ := (HM.out.below HBR.out).2.2 i hlt
      have x0 := hx.kind
      have x1 := hx.mode
      have x2 := hx.links
      have x3 := hx.data
      obtain ⟨kv, x4, hks⟩ := hx.kids
      have x5 := hx.up
      obtain ⟨X, hX⟩ : ∃ X, X = L[i] := ⟨_, rfl⟩
      rw [← hX] at x0 x1 x2 x3 x5 hks
      have HXE := Lib.hid hX
      have HSX := Lib.hid (show X.data.length ≤ 4611686018427387904 ∧ ∀ e ∈ X.kids, e.1.length ≤ 4611686018427387904 by rw [hX]; exact HS.out i hlt)
      obtain ⟨ka, kcap, rfl, hk1, hk2, hk3⟩ := hks
      have HKX := Lib.hid (show ∀ W, Below wr.heap.size wr W → KidsIn W (.slice ka X.kids.length kcap) X.kids from fun W h => KidsIn.below ⟨ka, kcap, rfl, hk1, hk2, hk3⟩ h)
      clear hx hX hk1 hk2 hk3
      go_wp2_with fail
      refine (lino_any _ _ _ _ _ (by have := HSX.out.1; omega) _ _ _ _ (HKX.out _ (below_box _ _))).mono ?_
      rintro e w2 ⟨⟨v, rfl, hv⟩, hb2⟩
      have HV := Lib.hid hv
      have hb2' : Below wr.heap.size wr w2 := (below_box wr _).trans (hb2.mono (by simp))
      have HB2 := Lib.hid (HBR.out.trans (hb2'.mono hszr))
      have HKX2 := Lib.hid (HKX.out _ hb2')
      obtain ⟨p0, p1, p2, p3, p4, p5⟩ := box6 hb2
      obtain ⟨q0, q1, q2⟩ := HX.out _ HB2.out
      have hsz2 := HB2.out.size
      clear hv hb2 hb2' x0 x1 x2 x3 x4 x5
      cases v with
      | false =>
        have hno := Lib.hid (show ¬ AllFit L from fun h => by
          have h1 := (h i hlt).1
          rw [← HXE.out] at h1
          have h2 := HV.out.2 h1
          cases h2)
        go_wp2_with fail
        go_ret
        exact ⟨TellsP.no rfl hno.out, HEND.out _ HB2.out⟩
      | true =>
        go_wp2_with fail
        refine (lkids_any _ _ _ _ L hL X.kids HSX.out.2 ka kcap _ HKX2.out).mono ?_
        rintro e w3 ⟨⟨v, rfl, hv⟩, hb3⟩
        have HV2 := Lib.hid hv
        have HB3 := Lib.hid (HB2.out.trans (hb3.mono hsz2))
        clear hv hb3 p0 p1 p2 p3 p4 p5 q0 q1 q2
        cases v with
        | false =>
          have hno := Lib.hid (show ¬ AllFit L from fun h => by
            have h1 := (h i hlt).2
            rw [← HXE.out] at h1
            have h2 := HV2.out.2 h1
            cases h2)
          go_wp2_with fail
          go_ret
          exact ⟨TellsP.no rfl hno.out, HEND.out _ HB3.out⟩
        | true =>
          have hnext := Lib.hid (show ∀ k (h : k < L.length), k < i + 1 → aloneB L[k] = true ∧ KidsFit L L[k].kids from fun k h hk => by
            by_cases e : k = i
            · subst e
              rw [← HXE.out]
              exact ⟨HV.out.1 (by simp), HV2.out.1 (by simp)⟩
            · exact HOK.out k h (by omega))
          go_wp2_with fail
          go_roundw
          case rel => exact ⟨i + 1, by omega, by go_num, hnext, HB3.out⟩
          case measure => simp [intOf] <;> omega
    · have hall := Lib.hid (show AllFit L from fun k h => HOK.out k h (by omega))
      go_wp2_with fail
      go_ret
      exact ⟨TellsP.yes rfl hall.out, HEND.out _ HBR.out⟩
end Go.Proofs.Ytdpfnnhlneapbaa
