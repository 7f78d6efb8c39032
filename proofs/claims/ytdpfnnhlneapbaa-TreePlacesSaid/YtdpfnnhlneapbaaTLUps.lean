/-
  tree's mayHave, leads and upsLead, of the landed code.
-/
import Derived.Test.YtdpfnnhlneapbaaTreeRoot
import Derived.Test.YtdpfnnhlneapbaaTLDir
import Derived.Test.YtdpfnnhlneapbaaTLTells
namespace Go.Proofs.Ytdpfnnhlneapbaa
open Go Go.RowKit

/-- How many names an inode of a kind may have. -/
def MayHave (kind ino n : Int) : Prop := if ino = 0 ∨ kind = 0 then n = 0 else if kind = 2 then n = 1 else 1 ≤ n

set_option maxHeartbeats 1000000 in
theorem lmay_any (kind ino n : Int) (w : World) : Calls Try.prog 50 #[.int .i64 kind, .int .i64 ino, .int .i64 n] w fun e w' => TellsP (MayHave kind ino n) e ∧ w' = w := by
  by_cases h0 : ino = 0 ∨ kind = 0
  · have HM := Lib.hid (show MayHave kind ino n ↔ n = 0 by unfold MayHave; rw [if_pos h0])
    obtain ⟨M, hM⟩ : ∃ M, M = MayHave kind ino n := ⟨_, rfl⟩
    rw [← hM] at HM ⊢
    clear hM
    by_cases hi : ino = 0
    · have e1 : (ino == 0) = true := by simpa using hi
      clear h0 hi
      go_enter Try.func50, Try.ntmps50
      go_wp2_with fail
      go_ret
      exact ⟨TellsP.of rfl (by rw [HM.out]; simp), rfl⟩
    · have hk : kind = 0 := by rcases h0 with h | h; exact absurd h hi; exact h
      have e1 : (ino == 0) = false := by simpa using hi
      have e2 : (kind == 0) = true := by simpa using hk
      clear h0 hi hk
      go_enter Try.func50, Try.ntmps50
      go_wp2_with fail
      go_ret
      exact ⟨TellsP.of rfl (by rw [HM.out]; simp), rfl⟩
  · have hi : ¬ ino = 0 := fun e => h0 (Or.inl e)
    have hk : ¬ kind = 0 := fun e => h0 (Or.inr e)
    have e1 : (ino == 0) = false := by simpa using hi
    have e2 : (kind == 0) = false := by simpa using hk
    by_cases h2 : kind = 2
    · have HM := Lib.hid (show MayHave kind ino n ↔ n = 1 by unfold MayHave; rw [if_neg h0, if_pos h2])
      obtain ⟨M, hM⟩ : ∃ M, M = MayHave kind ino n := ⟨_, rfl⟩
      rw [← hM] at HM ⊢
      have e3 : (kind == 2) = true := by simpa using h2
      clear hM h0 h2 hi hk
      go_enter Try.func50, Try.ntmps50
      go_wp2_with fail
      go_ret
      exact ⟨TellsP.of rfl (by rw [HM.out]; simp), rfl⟩
    · have HM := Lib.hid (show MayHave kind ino n ↔ 1 ≤ n by unfold MayHave; rw [if_neg h0, if_neg h2])
      obtain ⟨M, hM⟩ : ∃ M, M = MayHave kind ino n := ⟨_, rfl⟩
      rw [← hM] at HM ⊢
      have e3 : (kind == 2) = false := by simpa using h2
      clear hM h0 h2 hi hk
      go_enter Try.func50, Try.ntmps50
      go_wp2_with fail
      go_ret
      exact ⟨TellsP.of rfl (by rw [HM.out]; simp), rfl⟩

/-- Going Up leads to the root, in fewer steps than n. -/
def leadsL (L : List Ino) : Nat → Int → Bool
  | 0, _ => false
  | n + 1, k => if k = 0 then true else leadsL L n (nodeAt L k).up
theorem leads_succ (L : List Ino) (n : Nat) (k : Int) : leadsL L (n + 1) k = if k = 0 then true else leadsL L n (nodeAt L k).up := rfl

/-- Each directory's Up is there. -/
def UpsIn (L : List Ino) : Prop := ∀ k (h : k < L.length), L[k].kind = 2 → dirB L L[k].up = true

theorem dir_nat {L : List Ino} {n : Nat} (hn : n < L.length) : dirB L (n : Int) = true ↔ L[n].kind = 2 := by
  unfold dirB
  rw [there_of L n hn, node_nat L n hn]
  simp

def LeadRel (L : List Ino) (n0 : Nat) (w1 : World) (kv iv : Value) (wr : World) : Prop :=
  ∃ k i : Nat, k < L.length ∧ L[k]?.map Ino.kind = some 2 ∧ i ≤ L.length ∧ kv = .int .i64 k ∧ iv = .int .i64 i ∧ Hid (leadsL L L.length (n0 : Int) = leadsL L (L.length - i) (k : Int)) ∧ wr = w1

set_option maxHeartbeats 2000000 in
theorem lleads_any (a : Option Addr) (cap : Nat) (m b : Int) (L : List Ino) (hL : L.length ≤ 1000) (hU : UpsIn L) (n : Nat) (hn : n < L.length) (hd : dirB L (n : Int) = true) (w : World) (hN : NodesIn w a cap L) :
    Calls Try.prog 51 #[.agg #[.slice a L.length cap, .int .i64 m, .int .i64 b], .int .i64 n] w fun e w' => TellsP (leadsL L L.length (n : Int) = true) e ∧ Below w.heap.size w w' := by
  have hb1 := below_box w (.cells #[.slice a L.length cap, .int .i64 m, .int .i64 b] 24)
  obtain ⟨w1, hw1⟩ : ∃ w1, w1 = w.alloc (.cells #[.slice a L.length cap, .int .i64 m, .int .i64 b] 24) := ⟨_, rfl⟩
  have hM := hN.below hb1
  have hbox := box3 (W' := w1) (x := .slice a L.length cap) (y := .int .i64 m) (z := .int .i64 b) (t := 24) (w := w) (by rw [hw1]; exact Below.refl _ _)
  rw [← hw1] at hM hb1
  obtain ⟨q0, q1, q2⟩ := hbox
  have HM := Lib.hid hM
  have HB := Lib.hid hb1
  have HU := Lib.hid hU
  have HD := Lib.hid ((dir_nat hn).1 hd)
  clear hM hN hb1 hU hd
  have HW := Lib.hid hw1
  go_enter Try.func51, Try.ntmps51
  go_wp2_with fail
  rw [← hw1]
  clear hw1
  go_loopw [1, 8] (fun k i wr => LeadRel L n w1 k i wr) (fun _ i _ => L.length - (intOf i).toNat)
  case atStart => exact ⟨n, 0, hn, by rw [List.getElem?_eq_getElem hn]; simp [HD.out], by omega, rfl, rfl, Lib.hid rfl, rfl⟩
  case round =>
    obtain ⟨k, i, hk, hkd, hi, rfl, rfl, hrest, rfl⟩ := hrel
    have HKD := Lib.hid hkd
    clear hkd
    by_cases hil : i < L.length
    · have hst : L.length - i = (L.length - (i + 1)) + 1 := by omega
      by_cases hk0 : k = 0
      · have hfin := Lib.hid (show leadsL L L.length (n : Int) = true by rw [hrest.out, hst, leads_succ, if_pos (by omega)])
        have hkz : ((k : Int) == 0) = true := by rw [beq_iff_eq]; omega
        clear hst hk0
        go_wp2_with fail
        go_ret
        exact ⟨TellsP.yes rfl hfin.out, HB.out⟩
      · obtain ⟨bb, o, rfl, hx⟩ := HM.out.2.2 k hk
        have h1 := hx.up
        have hk2 : L[k].kind = 2 := by have h := HKD.out; rw [List.getElem?_eq_getElem hk] at h; simpa using h
        have hup := HU.out k hk hk2
        have hupt : thereB L L[k].up = true := by
          have h := hup
          unfold dirB at h
          rw [Bool.and_eq_true] at h
          exact h.1
        obtain ⟨u, hu1, hu2⟩ := there_nat hupt
        have hnext := Lib.hid (show leadsL L L.length (n : Int) = leadsL L (L.length - (i + 1)) (u : Int) by rw [hrest.out, hst, leads_succ, if_neg (by omega), node_nat L k hk, hu1])
        rw [hu1] at h1 hup
        have HUD := Lib.hid (show L[u]?.map Ino.kind = some 2 by rw [List.getElem?_eq_getElem hu2]; simp [(dir_nat hu2).1 hup])
        have hkz : ((k : Int) == 0) = false := by simpa using hk0
        have hk0' : (0 : Int) ≤ (k : Int) := by omega
        clear hx hk2 hup hupt hu1 hst hk0
        go_wp2_with fail
        go_roundw
        case rel => exact ⟨u, i + 1, hu2, HUD.out, by omega, rfl, by go_num, hnext, rfl⟩
        case measure => simp [intOf] <;> omega
    · have hfin := Lib.hid (show ¬ leadsL L L.length (n : Int) = true by rw [hrest.out, show L.length - i = 0 by omega]; simp [leadsL])
      go_wp2_with fail
      go_ret
      exact ⟨TellsP.no rfl hfin.out, HB.out⟩
end Go.Proofs.Ytdpfnnhlneapbaa
