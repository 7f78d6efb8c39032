/-
  The reference's Fit, walked: what it asks.
-/
import Derived.Laws.MakeOwn
import Derived.Test.YtfmaagcomplooaaK1
import Derived.Test.YtfmaagcomplooaaTreeKids
import Derived.Test.YtfmaagcomplooaaTreeAlone
import Derived.Test.YtfmaagcomplooaaK2
namespace Go.Proofs.Ytfmaagcomplooaa
set_option maxRecDepth 100000
open Go Go.RowKit

structure RA (L : List Ino) (j : Nat) (h : j < L.length) : Prop where
  alone : aloneB L[j] = true
  data : L[j].data.length ≤ 65536
  dir : L[j].kind = 2 → thereB L L[j].up = true ∧ L[j].kids.length ≤ 1024 ∧ KidsOk L j L[j].kids
def RB (L : List Ino) (j : Nat) (h : j < L.length) : Prop :=
  L[j].links = (countL L)[j]'(by rw [countL_len]; exact h) ∧ ¬ (L[j].kind ≠ 0 ∧ 0 < j ∧ (countL L)[j]'(by rw [countL_len]; exact h) = 0) ∧
    ¬ (L[j].kind = 2 ∧ (rootedB L (j : Int) = false ∨ 0 < j ∧ (countL L)[j]'(by rw [countL_len]; exact h) ≠ 1))
structure RHead (L : List Ino) (m b : Int) : Prop where
  one : 1 ≤ L.length
  lim : (L.length : Int) ≤ m
  cap : m ≤ 256
  b0 : 0 ≤ b
  b1 : b ≤ 65536
  root : (nodeAt L 0).kind = 2
  up : (nodeAt L 0).up = 0
structure RFitP (L : List Ino) (m b : Int) : Prop where
  head : RHead L m b
  ins : ∀ j (h : j < L.length), RA L j h
  nam : ∀ j (h : j < L.length), RB L j h
  bytes : (usedB L : Int) ≤ b

def RF1 (L : List Ino) (C : Nat) (w1 : World) (bv iv : Value) (wr : World) : Prop :=
  ∃ k : Nat, k ≤ L.length ∧ iv = .int .i64 k ∧ bv = .int .i64 (usedB (L.take k)) ∧ Hid (∀ j (h : j < L.length), j < k → RA L j h) ∧ CountIn wr C (bump (zeros L.length) (kidsOf (L.take k))) ∧ Below w1.heap.size w1 wr
def RF2 (L : List Ino) (C : Nat) (w1 : World) (iv : Value) (wr : World) : Prop :=
  ∃ k : Nat, k ≤ L.length ∧ iv = .int .i64 k ∧ Hid (∀ j (h : j < L.length), j < k → RB L j h) ∧ CountIn wr C (countL L) ∧ Below w1.heap.size w1 wr

theorem no_kids {x : Ino} (h : aloneB x = true) (h2 : x.kind ≠ 2) : x.kids = [] := by
  cases hk : x.kids with
  | nil => rfl
  | cons e r => exact absurd (dir_of_kids h (by rw [hk]; simp)) h2

set_option maxRecDepth 100000 in
set_option maxHeartbeats 8000000 in
theorem rfit_head (a : Option Addr) (cap : Nat) (m b : Int) (L : List Ino) (hL : L.length ≤ 1000) (hh : ¬ RHead L m b) (w : World) (hN : NodesIn w a cap L) :
    Calls Try.prog 13 #[.agg #[.slice a L.length cap, .int .i64 m, .int .i64 b]] w fun e w' => TellsP (RFitP L m b) e ∧ Below w.heap.size w w' := by
  have hb1 := below_box w (.cells #[.slice a L.length cap, .int .i64 m, .int .i64 b] 24)
  have HM := Lib.hid (hN.below hb1)
  have HB := Lib.hid hb1
  have HNO := Lib.hid (show ¬ RFitP L m b from fun h => hh h.head)
  obtain ⟨R, hR⟩ : ∃ R, R = RFitP L m b := ⟨_, rfl⟩
  rw [← hR] at HNO ⊢
  clear hN hb1 hR
  by_cases h1 : 1 ≤ L.length
  · by_cases h2 : (L.length : Int) ≤ m
    · by_cases h3 : m ≤ 256
      · by_cases h4 : 0 ≤ b
        · by_cases h5 : b ≤ 65536
          · obtain ⟨bb, o, rfl, hx⟩ := HM.out.2.2 0 (by omega)
            have x0 := hx.kind
            have x5 := hx.up
            rw [Nat.zero_mul, Nat.add_zero] at x0 x5
            have HN0 := Lib.hid (show nodeAt L 0 = L[0] from node_nat L 0 (by omega))
            have hlen : (0 : Int) < (L.length : Int) := by omega
            clear hx
            by_cases h6 : L[0].kind = 2
            · have hk : (L[0].kind != 2) = false := by simpa using h6
              have h7 : ¬ L[0].up = 0 := fun e => hh ⟨h1, h2, h3, h4, h5, by rw [HN0.out]; exact h6, by rw [HN0.out]; exact e⟩
              have hu : (L[0].up != 0) = true := by simpa using h7
              clear h6 h7 hh
              go_enter Try.func13, Try.ntmps13
              go_wp2_with fail
              go_ret
              exact ⟨TellsP.no rfl HNO.out, HB.out⟩
            · have hk : (L[0].kind != 2) = true := by simpa using h6
              clear h6 hh
              go_enter Try.func13, Try.ntmps13
              go_wp2_with fail
              go_ret
              exact ⟨TellsP.no rfl HNO.out, HB.out⟩
          · clear hh
            go_enter Try.func13, Try.ntmps13
            go_wp2_with fail
            go_ret
            exact ⟨TellsP.no rfl HNO.out, HB.out⟩
        · clear hh
          go_enter Try.func13, Try.ntmps13
          go_wp2_with fail
          go_ret
          exact ⟨TellsP.no rfl HNO.out, HB.out⟩
      · clear hh
        go_enter Try.func13, Try.ntmps13
        go_wp2_with fail
        go_ret
        exact ⟨TellsP.no rfl HNO.out, HB.out⟩
    · clear hh
      go_enter Try.func13, Try.ntmps13
      go_wp2_with fail
      go_ret
      exact ⟨TellsP.no rfl HNO.out, HB.out⟩
  · clear hh
    go_enter Try.func13, Try.ntmps13
    go_wp2_with fail
    go_ret
    exact ⟨TellsP.no rfl HNO.out, HB.out⟩
end Go.Proofs.Ytfmaagcomplooaa
