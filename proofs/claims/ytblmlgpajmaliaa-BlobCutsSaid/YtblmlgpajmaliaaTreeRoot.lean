/-
  The reference's rooted: going up from a directory leads to the root.
-/
import Derived.Test.YtblmlgpajmaliaaTreeKid
namespace Go.Proofs.Ytblmlgpajmaliaa
set_option maxRecDepth 100000
open Go Go.RowKit

def upFrom (L : List Ino) : Nat → Int → Bool
  | 0, _ => false
  | n + 1, k => if k = 0 then true else if dirB L (nodeAt L k).up then upFrom L n (nodeAt L k).up else false
theorem up_succ (L : List Ino) (n : Nat) (k : Int) : upFrom L (n + 1) k = if k = 0 then true else if dirB L (nodeAt L k).up then upFrom L n (nodeAt L k).up else false := rfl
def rootedB (L : List Ino) (k : Int) : Bool := upFrom L (L.length + 1) k

def RootRel (L : List Ino) (n0 : Nat) (w1 : World) (kv iv : Value) (wr : World) : Prop :=
  ∃ k i : Nat, k < L.length ∧ i ≤ L.length + 1 ∧ kv = .int .i64 k ∧ iv = .int .i64 i ∧ Hid (upFrom L (L.length + 1) (n0 : Int) = upFrom L (L.length + 1 - i) (k : Int)) ∧ Below w1.heap.size w1 wr

set_option maxHeartbeats 2000000 in
theorem rrooted_any (a : Option Addr) (cap : Nat) (m b : Int) (L : List Ino) (hL : L.length ≤ 1000) (n : Nat) (hn : n < L.length) (w : World) (hN : NodesIn w a cap L) :
    Calls Try.prog 29 #[.agg #[.slice a L.length cap, .int .i64 m, .int .i64 b], .int .i64 n] w fun e w' => e = .returned (.bool (rootedB L n)) ∧ Below w.heap.size w w' := by
  have hb1 := below_box w (.cells #[.slice a L.length cap, .int .i64 m, .int .i64 b] 24)
  obtain ⟨w1, hw1⟩ : ∃ w1, w1 = w.alloc (.cells #[.slice a L.length cap, .int .i64 m, .int .i64 b] 24) := ⟨_, rfl⟩
  have hM := hN.below hb1
  have hbox : ∀ W', Below w1.heap.size w1 W' → W'.cell? ⟨w.heap.size, 0, none⟩ = some (.slice a L.length cap) ∧ W'.cell? ⟨w.heap.size, 1, none⟩ = some (.int .i64 m) ∧ W'.cell? ⟨w.heap.size, 2, none⟩ = some (.int .i64 b) := fun W' h => box3 (by rw [← hw1]; exact h)
  rw [← hw1] at hM hb1
  have HM := Lib.hid hM
  have HX := Lib.hid hbox
  have HB := Lib.hid hb1
  clear hM hN hbox hb1
  unfold rootedB
  go_enter Try.func29, Try.ntmps29
  go_wp2_with fail
  rw [← hw1]
  clear hw1
  go_loopw [1, 5] (fun k i wr => RootRel L n w1 k i wr) (fun _ i _ => L.length + 1 - (intOf i).toNat)
  case atStart => exact ⟨n, 0, hn, by omega, rfl, rfl, Lib.hid rfl, Below.refl _ _⟩
  case round =>
    obtain ⟨k, i, hk, hi, rfl, rfl, hrest, hbr⟩ := hrel
    have HBR := Lib.hid hbr
    obtain ⟨q0, q1, q2⟩ := HX.out _ hbr
    clear hbr
    by_cases hil : i ≤ L.length
    · have hst : L.length + 1 - i = (L.length - i) + 1 := by omega
      have hsz := HBR.out.size
      by_cases hk0 : k = 0
      · subst hk0
        have hfin := Lib.hid (show upFrom L (L.length + 1) (n : Int) = true by rw [hrest.out, hst]; rfl)
        go_wp2_with fail
        go_ret
        exact ⟨by rw [hfin.out]; rfl, HB.out.trans (HBR.out.mono HB.out.size)⟩
      · obtain ⟨bb, o, rfl, hx⟩ := (HM.out.below HBR.out).2.2 k hk
        have h1 := hx.up
        have hu : upFrom L (L.length + 1) (n : Int) = if dirB L L[k].up then upFrom L (L.length - i) L[k].up else false := by
          rw [hrest.out, hst, up_succ, if_neg (by omega), node_nat L k hk]
        cases ht : thereB L L[k].up with
        | false =>
          have HT := Lib.hid ht
          have hfin := Lib.hid (show upFrom L (L.length + 1) (n : Int) = false by rw [hu, if_neg (by unfold dirB; rw [ht]; simp)])
          clear ht hu
          have hk1 : ((k : Int) == 0) = false := by simpa using hk0
          go_wp2_with (first | (go_at_call 27; refine (rthere_known _ _ _ _ _ _ _ HT.out _).mono ?_; rintro e w2 ⟨rfl, hb2⟩) | fail)
          go_ret
          exact ⟨by rw [hfin.out]; rfl, (HB.out.trans (HBR.out.mono HB.out.size)).trans (hb2.mono (Nat.le_trans HB.out.size hsz))⟩
        | true =>
          obtain ⟨u, hu1, hu2⟩ := there_nat ht
          have HT := Lib.hid ht
          obtain ⟨b', o', e1, hy⟩ := (HM.out.below HBR.out).2.2 u hu2
          have h2 := hy.kind
          obtain ⟨rfl, rfl⟩ : b' = bb ∧ o' = o := by simpa [eq_comm] using e1
          have hd : dirB L L[k].up = (L[u].kind == 2) := by unfold dirB; rw [ht, hu1, node_nat L u hu2]; rfl
          rw [hd, hu1] at hu
          rw [hu1] at h1 HT
          have hk1 : ((k : Int) == 0) = false := by simpa using hk0
          have hu0 : (0 : Int) ≤ (u : Int) := by omega
          clear ht hd e1
          cases hz : (L[u].kind != 2) with
          | true =>
            have hfin := Lib.hid (show upFrom L (L.length + 1) (n : Int) = false by rw [hu, if_neg (by simpa [bne] using hz)])
            clear hu
            go_wp2_with (first | (go_at_call 27; refine (rthere_known _ _ _ _ _ _ _ HT.out _).mono ?_; rintro e w2 ⟨rfl, hb2⟩; obtain ⟨r0, r1, r2⟩ := HX.out _ (HBR.out.trans (hb2.mono hsz)); have h3 := cell_below hb2 h2) | fail)
            go_ret
            exact ⟨by rw [hfin.out]; rfl, (HB.out.trans (HBR.out.mono HB.out.size)).trans (hb2.mono (Nat.le_trans HB.out.size hsz))⟩
          | false =>
            have hnext := Lib.hid (show upFrom L (L.length + 1) (n : Int) = upFrom L (L.length + 1 - (i + 1)) (u : Int) by rw [hu, if_pos (by simpa [bne] using hz)]; congr 1; omega)
            clear hu
            go_wp2_with (first | (go_at_call 27; refine (rthere_known _ _ _ _ _ _ _ HT.out _).mono ?_; rintro e w2 ⟨rfl, hb2⟩; obtain ⟨r0, r1, r2⟩ := HX.out _ (HBR.out.trans (hb2.mono hsz)); have h3 := cell_below hb2 h2) | fail)
            go_roundw
            case rel => exact ⟨u, i + 1, hu2, by omega, rfl, by go_num, hnext, HBR.out.trans (hb2.mono hsz)⟩
            case measure => simp [intOf] <;> omega
    · have hfin := Lib.hid (show upFrom L (L.length + 1) (n : Int) = false by rw [hrest.out, show L.length + 1 - i = 0 by omega]; rfl)
      go_wp2_with fail
      go_ret
      exact ⟨by rw [hfin.out]; rfl, HB.out.trans (HBR.out.mono HB.out.size)⟩
end Go.Proofs.Ytblmlgpajmaliaa
