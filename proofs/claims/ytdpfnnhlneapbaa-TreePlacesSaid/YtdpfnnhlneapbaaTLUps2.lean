/-
  tree's upsLead, of the landed code.
-/
import Derived.Test.YtdpfnnhlneapbaaTLUps
namespace Go.Proofs.Ytdpfnnhlneapbaa
open Go Go.RowKit

def AllLead (L : List Ino) : Prop := ∀ k (_ : k < L.length), dirB L (k : Int) = true → leadsL L L.length (k : Int) = true
def UpsRel (L : List Ino) (w1 : World) (iv : Value) (wr : World) : Prop :=
  ∃ i : Nat, i ≤ L.length ∧ iv = .int .i64 i ∧ Hid (∀ k (_ : k < L.length), k < i → dirB L (k : Int) = true → leadsL L L.length (k : Int) = true) ∧ Below w1.heap.size w1 wr

set_option maxHeartbeats 2000000 in
theorem lups_any (a : Option Addr) (cap : Nat) (m b : Int) (L : List Ino) (hL : L.length ≤ 1000) (hU : UpsIn L) (w : World) (hN : NodesIn w a cap L) :
    Calls Try.prog 30 #[.agg #[.slice a L.length cap, .int .i64 m, .int .i64 b]] w fun e w' => TellsP (AllLead L) e ∧ Below w.heap.size w w' := by
  have hb1 := below_box w (.cells #[.slice a L.length cap, .int .i64 m, .int .i64 b] 24)
  obtain ⟨w1, hw1⟩ : ∃ w1, w1 = w.alloc (.cells #[.slice a L.length cap, .int .i64 m, .int .i64 b] 24) := ⟨_, rfl⟩
  have hM := hN.below hb1
  have hsz : w1.heap.size = w.heap.size + 1 := by rw [hw1]; simp
  have hbox : ∀ W', Below w1.heap.size w1 W' → W'.cell? ⟨w.heap.size, 0, none⟩ = some (.slice a L.length cap) ∧ W'.cell? ⟨w.heap.size, 1, none⟩ = some (.int .i64 m) ∧ W'.cell? ⟨w.heap.size, 2, none⟩ = some (.int .i64 b) := fun W' h => box3 (by rw [← hw1]; exact h)
  rw [← hw1] at hM hb1
  have HM := Lib.hid hM
  have HB := Lib.hid hb1
  have HU := Lib.hid hU
  have HX := Lib.hid hbox
  have HEND := Lib.hid (show ∀ W', Below w1.heap.size w1 W' → Below w.heap.size w W' from fun W' h => HB.out.trans (h.mono (by rw [hsz]; omega)))
  have hsz' : w.heap.size < w1.heap.size := by omega
  clear hM hN hb1 hU hbox hsz
  go_enter Try.func30, Try.ntmps30
  go_wp2_with fail
  rw [← hw1]
  clear hw1
  go_loopw [3, 7] (fun _ i wr => UpsRel L w1 i wr) (fun _ i _ => L.length - (intOf i).toNat)
  case atStart => exact ⟨0, by omega, rfl, fun _ _ h => absurd h (Nat.not_lt_zero _), Below.refl _ _⟩
  case round =>
    obtain ⟨i, hi, rfl, hok, hbr⟩ := hrel
    have HOK := Lib.hid hok.out
    have HBR := Lib.hid hbr
    obtain ⟨q0, q1, q2⟩ := HX.out _ hbr
    have hszr := hbr.size
    clear hok hbr
    by_cases hlt : i < L.length
    · cases hd : dirB L (i : Int) with
      | false =>
        have HD := Lib.hid hd
        have hnext := Lib.hid (show ∀ k (_ : k < L.length), k < i + 1 → dirB L (k : Int) = true → leadsL L L.length (k : Int) = true from fun k h hk hdk => by
          by_cases e : k = i
          · subst e
            rw [hd] at hdk
            cases hdk
          · exact HOK.out k h (by omega) hdk)
        clear hd
        go_wp2_with (first | (go_at_call 27; refine (lisdir_known _ _ _ _ _ L _ HD.out _ (HM.out.below HBR.out)).mono ?_; rintro e w2 ⟨rfl, hb2⟩) | fail)
        go_roundw
        case rel => exact ⟨i + 1, by omega, by go_num, hnext, HBR.out.trans (hb2.mono hszr)⟩
        case measure => simp [intOf] <;> omega
      | true =>
        have HD := Lib.hid hd
        clear hd
        go_wp2_with fail
        refine (lisdir_known _ _ _ _ _ L _ HD.out _ (HM.out.below HBR.out)).mono ?_
        rintro e w2 ⟨rfl, hb2⟩
        have HB2 := Lib.hid (HBR.out.trans (hb2.mono hszr))
        obtain ⟨r0, r1, r2⟩ := HX.out _ HB2.out
        have hsz2 := HB2.out.size
        clear hb2 q0 q1 q2
        go_wp2_with fail
        refine (lleads_any _ _ _ _ L hL HU.out i hlt HD.out _ (HM.out.below HB2.out)).mono ?_
        rintro e w3 ⟨⟨v, rfl, hv⟩, hb3⟩
        have HV := Lib.hid hv
        have HB3 := Lib.hid (HB2.out.trans (hb3.mono hsz2))
        clear hv hb3 r0 r1 r2
        cases v with
        | true =>
          have hnext := Lib.hid (show ∀ k (_ : k < L.length), k < i + 1 → dirB L (k : Int) = true → leadsL L L.length (k : Int) = true from fun k h hk hdk => by
            by_cases e : k = i
            · subst e
              exact HV.out.1 rfl
            · exact HOK.out k h (by omega) hdk)
          go_wp2_with fail
          go_roundw
          case rel => exact ⟨i + 1, by omega, by go_num, hnext, HB3.out⟩
          case measure => simp [intOf] <;> omega
        | false =>
          have hno := Lib.hid (show ¬ AllLead L from fun h => by
            have h1 := HV.out.2 (h i hlt HD.out)
            cases h1)
          go_wp2_with fail
          go_ret
          exact ⟨TellsP.no rfl hno.out, HEND.out _ HB3.out⟩
    · have hall := Lib.hid (show AllLead L from fun k h => HOK.out k h (by omega))
      go_wp2_with fail
      go_ret
      exact ⟨TellsP.yes rfl hall.out, HEND.out _ HBR.out⟩
end Go.Proofs.Ytdpfnnhlneapbaa
