import Derived.Test.YtkdfbliiblojoaaGreatDoorK4
import Derived.Test.YtkdfbliiblojoaaGreatDoorK2
set_option linter.all false
set_option maxRecDepth 100000
set_option maxHeartbeats 64000000
namespace Go.Proofs.YtkdfbliiblojoaaGreatDoor
open Go Go.RowKit
structure RA (L : List Ino) (j : Nat) (h : j < L.length) : Prop where
 alone : Abo L[j] = true
 data : L[j].data.length ≤ 65536
 dir : L[j].kind = 2 → Aa4 L L[j].up = true ∧ L[j].kids.length ≤ 1024 ∧ Ad7 L j L[j].kids
def RB (L : List Ino) (j : Nat) (h : j < L.length) : Prop :=
 L[j].links = (Aec L)[j]'(by rw [Ab2]; exact h) ∧ ¬ (L[j].kind ≠ 0 ∧ 0 < j ∧ (Aec L)[j]'(by rw [Ab2]; exact h) = 0) ∧
  ¬ (L[j].kind = 2 ∧ (Agw L (j : Int) = false ∨ 0 < j ∧ (Aec L)[j]'(by rw [Ab2]; exact h) ≠ 1))
structure RHead (L : List Ino) (m b : Int) : Prop where
 one : 1 ≤ L.length
 lim : (L.length : Int) ≤ m
 cap : m ≤ 256
 b0 : 0 ≤ b
 b1 : b ≤ 65536
 root : (Aaf L 0).kind = 2
 up : (Aaf L 0).up = 0
structure RFitP (L : List Ino) (m b : Int) : Prop where
 head : RHead L m b
 ins : ∀ j (h : j < L.length),RA L j h
 nam : ∀ j (h : j < L.length),RB L j h
 bytes : (Aax L : Int) ≤ b
def RF1 (L : List Ino) (C : Nat) (w1 : World) (bv iv : Value) (wr : World) : Prop :=
 ∃ k : Nat,k ≤ L.length ∧ iv = .int .i64 k ∧ bv = .int .i64 (Aax (L.take k)) ∧ Hid (∀ j (h : j < L.length),j < k → RA L j h) ∧ Abt wr C (bump (Agk L.length) (Abh (L.take k))) ∧ Below w1.heap.size w1 wr
def RF2 (L : List Ino) (C : Nat) (w1 : World) (iv : Value) (wr : World) : Prop :=
 ∃ k : Nat,k ≤ L.length ∧ iv = .int .i64 k ∧ Hid (∀ j (h : j < L.length),j < k → RB L j h) ∧ Abt wr C (Aec L) ∧ Below w1.heap.size w1 wr
theorem Aog {x : Ino} (h : Abo x = true) (h2 : x.kind ≠ 2) : x.kids = [] := by
 cases hk : x.kids with
 | nil => rfl
 | cons e r => exact absurd (Adq h (by rw [hk]; simp)) h2
theorem As7 (a : Option Addr) (cap : Nat) (m b : Int) (L : List Ino) (hL : L.length ≤ 1000) (hh : ¬ RHead L m b) (w : World) (hN : Aah w a cap L) :
  Calls Tryz.prog 15 #[.agg #[.slice a L.length cap,.int .i64 m,.int .i64 b]] w fun e w' => Acu (RFitP L m b) e ∧ Below w.heap.size w w' := by
 have hb1 := Aab w (.cells #[.slice a L.length cap,.int .i64 m,.int .i64 b] 24)
 have HM := Hd (hN.below hb1)
 have HB := Hd hb1
 have HNO := Hd (show ¬ RFitP L m b from fun h => hh h.head)
 obtain ⟨R,hR⟩ : ∃ R,R = RFitP L m b := ⟨_,rfl⟩
 rw [← hR] at HNO ⊢
 clear hN hb1 hR
 by_cases h1 : 1 ≤ L.length
 ·by_cases h2 : (L.length : Int) ≤ m
  ·by_cases h3 : m ≤ 256
   ·by_cases h4 : 0 ≤ b
    ·by_cases h5 : b ≤ 65536
     ·obtain ⟨bb,o,rfl,hx⟩ := HM.out.2.2 0 (by omega)
      have x0 := hx.kind
      have x5 := hx.up
      rw [Nat.zero_mul,Nat.add_zero] at x0 x5
      have HN0 := Hd (show Aaf L 0 = L[0] from Aad L 0 (by omega))
      have hlen : (0 : Int) < (L.length : Int) := by omega
      clear hx
      by_cases h6 : L[0].kind = 2
      ·have hk : (L[0].kind != 2) = false := by simpa using h6
       have h7 : ¬ L[0].up = 0 := fun e => hh ⟨h1,h2,h3,h4,h5,by rw [HN0.out]; exact h6,by rw [HN0.out]; exact e⟩
       have hu : (L[0].up != 0) = true := by simpa using h7
       clear h6 h7 hh
       go_enter Tryz.func15,Tryz.ntmps15
       go_wp2_with fail
       go_ret
       exact ⟨Acu.no rfl HNO.out,HB.out⟩
      ·have hk : (L[0].kind != 2) = true := by simpa using h6
       clear h6 hh
       go_enter Tryz.func15,Tryz.ntmps15
       go_wp2_with fail
       go_ret
       exact ⟨Acu.no rfl HNO.out,HB.out⟩
     ·clear hh
      go_enter Tryz.func15,Tryz.ntmps15
      go_wp2_with fail
      go_ret
      exact ⟨Acu.no rfl HNO.out,HB.out⟩
    ·clear hh
     go_enter Tryz.func15,Tryz.ntmps15
     go_wp2_with fail
     go_ret
     exact ⟨Acu.no rfl HNO.out,HB.out⟩
   ·clear hh
    go_enter Tryz.func15,Tryz.ntmps15
    go_wp2_with fail
    go_ret
    exact ⟨Acu.no rfl HNO.out,HB.out⟩
  ·clear hh
   go_enter Tryz.func15,Tryz.ntmps15
   go_wp2_with fail
   go_ret
   exact ⟨Acu.no rfl HNO.out,HB.out⟩
 ·clear hh
  go_enter Tryz.func15,Tryz.ntmps15
  go_wp2_with fail
  go_ret
  exact ⟨Acu.no rfl HNO.out,HB.out⟩
end Go.Proofs.YtkdfbliiblojoaaGreatDoor
