/-
  walk's refused, of the landed code.
-/
import Derived.Test.YtgmmggdjcgemfaaWLKind
namespace Go.Proofs.Ytgmmggdjcgemfaa
open Go Go.RowKit

set_option maxHeartbeats 1000000 in
theorem lcontF_known (N : List (List UInt8)) (hN : N.length ≤ 1048576) (v : Value) (w : World) (hV : View w v N) (R : Bool) (hR : (N.any fun x => decide (64 < x.length)) = R) :
    Calls Try.prog 37 #[v, .func (.func 39) #[] #[]] w fun e w' => e = .returned (.bool R) ∧ w' = w := by
  have HV := Lib.hid hV
  have HR := Lib.hid hR
  clear hV hR
  go_enter Try.func37, Try.ntmps37
  go_wp2_with fail
  refine (lindexF_any N hN v _ HV.out).mono ?_
  rintro e w' ⟨⟨z, rfl, hz⟩, rfl⟩
  rw [HR.out] at hz
  have HZ := Lib.hid hz
  clear hz
  go_wp2_with fail
  go_ret
  refine ⟨?_, rfl⟩
  rw [← HZ.out]
  rfl

theorem lparts_view (p : List UInt8) (hp : p.length ≤ 1073741824) (w : World) :
    Calls Try.prog 38 #[.string ⟨p.toArray⟩] w fun e w' => ∃ v, e = .returned v ∧ View w' v (partsL p) ∧ Below w.heap.size w w' :=
  (parts_any ⟨p.toArray⟩ (by rw [str_len]; exact hp) w).mono fun e w' ⟨v, h1, h2, h3⟩ => ⟨v, h1, h2.view, h3⟩

set_option maxRecDepth 100000 in
set_option maxHeartbeats 4000000 in
theorem refused_any (a : Option Addr) (cap : Nat) (m b cwd : Int) (p : List UInt8) (hp : p.length ≤ 1073741824) (L : List Ino) (w : World) (hN : NodesIn w a cap L) :
    Calls Try.prog 22 #[.agg #[.slice a L.length cap, .int .i64 m, .int .i64 b], .int .i64 cwd, .string ⟨p.toArray⟩] w fun e w' => e = .returned (.int .i64 (badW L cwd p)) ∧ Below w.heap.size w w' := by
  have hb1 := below_box w (.cells #[.slice a L.length cap, .int .i64 m, .int .i64 b] 24)
  have HM := Lib.hid (hN.below hb1)
  have HB1 := Lib.hid hb1
  have hs := str_len p
  obtain ⟨R, hR⟩ : ∃ R, R = badW L cwd p := ⟨_, rfl⟩
  rw [← hR]
  have HR := Lib.hid hR
  clear hN hb1 hR
  by_cases hp0 : p = []
  · subst hp0
    have HW := Lib.hid (show R = 2 by rw [HR.out]; unfold badW; rw [if_pos (Or.inl rfl)])
    go_enter Try.func22, Try.ntmps22
    go_wp2_with fail
    go_ret
    exact ⟨by rw [HW.out]; rfl, HB1.out⟩
  · have hpb : (p == []) = false := by simpa using hp0
    obtain ⟨z, hz⟩ : ∃ z, kindL L cwd = z := ⟨_, rfl⟩
    have HZ := Lib.hid hz
    have hzd := kind_dir (L := L) (k := cwd)
    rw [hz] at hzd
    cases hd : dirB L cwd with
    | false =>
      rw [hd] at hzd
      have HW := Lib.hid (show R = 2 by rw [HR.out]; unfold badW; rw [if_pos (Or.inr hd)])
      clear hd hp0 hz
      simp only [Bool.not_false] at hzd
      go_enter Try.func22, Try.ntmps22
      go_wp2_with (first | (go_at_call 26; refine (kind_known _ _ _ _ _ L _ HZ.out _ HM.out).mono ?_; rintro e w2 ⟨rfl, hb2⟩) | fail)
      go_ret
      exact ⟨by rw [HW.out]; rfl, HB1.out.trans (hb2.mono (by simp))⟩
    | true =>
      rw [hd] at hzd
      have HW := Lib.hid (show R = if longB p then 36 else 0 by rw [HR.out]; unfold badW; rw [if_neg (by simp [hp0, hd])])
      clear hd hp0 hz
      simp only [Bool.not_true] at hzd
      by_cases hl : 1024 < p.length
      · have HW2 := Lib.hid (show R = 36 by rw [HW.out]; unfold longB; rw [decide_eq_true hl]; rfl)
        go_enter Try.func22, Try.ntmps22
        go_wp2_with (first | (go_at_call 26; refine (kind_known _ _ _ _ _ L _ HZ.out _ HM.out).mono ?_; rintro e w2 ⟨rfl, hb2⟩) | fail)
        go_ret
        exact ⟨by rw [HW2.out]; rfl, HB1.out.trans (hb2.mono (by simp))⟩
      · have hl1 : p.length ≤ 1024 := by omega
        have HCL := Lib.hid (show (partsL p).length ≤ 1048576 by have := count_parts p; omega)
        have hlf : decide (1024 < p.length) = false := decide_eq_false hl
        obtain ⟨lb, hlb⟩ : ∃ lb, ((partsL p).any fun x => decide (64 < x.length)) = lb := ⟨_, rfl⟩
        have HLB := Lib.hid hlb
        have HW2 := Lib.hid (show R = if lb = true then 36 else 0 by rw [HW.out, longB_of p hl1, hlb])
        clear hl hlb HW
        go_enter Try.func22, Try.ntmps22
        go_wp2_with fail
        refine (kind_known _ _ _ _ _ L _ HZ.out _ HM.out).mono ?_
        rintro e w2 ⟨rfl, hb2⟩
        have HB2 := Lib.hid (HB1.out.trans (hb2.mono (by simp)))
        clear hb2
        go_wp2_with fail
        refine (lparts_view p hp _).mono ?_
        rintro e w3 ⟨v3, rfl, hv3, hb3⟩
        have HV := Lib.hid hv3
        have HB3 := Lib.hid (HB2.out.trans (hb3.mono HB2.out.size))
        clear hv3 hb3
        go_wp2_with fail
        refine (lcontF_known _ HCL.out _ _ HV.out lb HLB.out).mono ?_
        rintro e w' ⟨rfl, rfl⟩
        cases lb
        all_goals
          go_wp2_with fail
          go_ret
          exact ⟨by rw [HW2.out]; rfl, HB3.out⟩
end Go.Proofs.Ytgmmggdjcgemfaa
