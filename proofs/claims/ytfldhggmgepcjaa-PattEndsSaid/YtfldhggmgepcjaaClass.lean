/-
  chars.Class: of each name and each byte it answers as the class of that name does, and false of an unknown name.
-/
import Derived.Test.YtfldhggmgepcjaaTable
namespace Go.Proofs.Ytfldhggmgepcjaa
set_option maxRecDepth 100000
open Go Go.RowKit Go.ChangeMaps

/-- b tells whether byte n is of the class named s. -/
def IsClass (s : ByteArray) (n : Int) (b : Bool) : Prop :=
  (∃ r ∈ insRows, s = r.2.1 ∧ b = clsF r.2.2 n) ∨ ((∀ r ∈ insRows, s ≠ r.2.1) ∧ b = false)

def Tells (s : ByteArray) (n : Int) (w : World) (e : Ending) (w' : World) : Prop := ∃ b, e = .returned (.bool b) ∧ IsClass s n b ∧ Below w.heap.size w w'

set_option maxHeartbeats 1000000 in
theorem class_any (s : ByteArray) (hs : s.size ≤ maxLen) (n : Int) (w : World) : Calls Try.prog 66 #[.string s, .int .u8 n] w (Tells s n w) := by
  go_enter Try.func66, Try.ntmps66
  go_wp2_with fail
  refine (classes_any _).mono ?_
  rintro e w1 ⟨m, es, clock, rfl, hm, hk, hmean, hhas, hb⟩
  rcases run_find w1 m es clock hm hk s hs with ⟨hrun, hno⟩ | ⟨x, hx, hkey, hrun⟩
  · have hT : Tells s n w (.returned (.bool false)) w1 := by
      refine ⟨false, rfl, Or.inr ⟨fun r hr e => ?_, rfl⟩, hb⟩
      obtain ⟨x, hx, hxk⟩ := hhas r hr
      exact hno x hx (by rw [hxk, e])
    have HT := Lib.hid hT
    clear hT hmean hhas hk hno hm hb
    go_wp2_with fail
    go_ret
    exact HT.out
  · obtain ⟨r, hr, hrk, hM⟩ := hmean x hx
    have es1 : s = r.2.1 := by
      rw [hkey] at hrk
      exact Value.string.inj hrk
    have hT : Tells s n w (.returned (.bool (clsF r.2.2 n))) w1 := ⟨_, rfl, Or.inl ⟨r, hr, es1, rfl⟩, hb⟩
    have HT := Lib.hid hT
    obtain ⟨k, cap, L, hv, hent, hL, hc⟩ := hM
    have HC := Lib.hid (hc n w1 fun p hp => (hL p hp).2)
    rw [hv] at hrun
    clear hT hmean hhas hk hm hb hkey hrk hv hL hc hx hr es1
    cases hf : clsF r.2.2 n <;> rw [hf] at HT HC
    all_goals
      clear hf
      go_wp2_with fail
      refine HC.out.mono ?_
      rintro e w' ⟨rfl, rfl⟩
      go_wp2_with fail
      go_ret
      exact HT.out
end Go.Proofs.Ytfldhggmgepcjaa
