/-
  The reference's Kid: what a directory has of a name.
-/
import Derived.Test.YtgmmggdjcgemfaaTrees
namespace Go.Proofs.Ytgmmggdjcgemfaa
open Go Go.RowKit

def noIno : Ino := ⟨0, 0, 0, [], [], 0⟩
def nodeAt (L : List Ino) (k : Int) : Ino := L.getD k.toNat noIno
def dirB (L : List Ino) (k : Int) : Bool := thereB L k && (nodeAt L k).kind == 2

def findK : List (List UInt8 × Int) → List UInt8 → Int
  | [], _ => -1
  | e :: r, s => if e.1 = s then e.2 else findK r s
def kidL (L : List Ino) (d : Int) (s : List UInt8) : Int := if dirB L d then findK (nodeAt L d).kids s else -1

theorem there_nat {L : List Ino} {k : Int} (h : thereB L k = true) : ∃ n : Nat, k = (n : Int) ∧ n < L.length := by
  unfold thereB at h
  rw [Bool.and_eq_true, decide_eq_true_eq, decide_eq_true_eq] at h
  exact ⟨k.toNat, by omega, by omega⟩
theorem there_not {L : List Ino} {k : Int} (h : thereB L k = false) : k < 0 ∨ (L.length : Int) ≤ k := by
  unfold thereB at h
  rw [Bool.and_eq_false_iff, decide_eq_false_iff_not, decide_eq_false_iff_not] at h
  omega
theorem node_nat (L : List Ino) (n : Nat) (h : n < L.length) : nodeAt L (n : Int) = L[n] := by
  unfold nodeAt
  rw [Int.toNat_natCast, List.getD_eq_getElem?_getD, List.getElem?_eq_getElem h]
  rfl
theorem there_of (L : List Ino) (n : Nat) (h : n < L.length) : thereB L (n : Int) = true := by
  unfold thereB
  rw [decide_eq_true (by omega), decide_eq_true (by omega)]
  rfl
theorem findK_drop (M : List (List UInt8 × Int)) (k : Nat) (hk : k < M.length) (s : List UInt8) : findK (M.drop k) s = if M[k].1 = s then M[k].2 else findK (M.drop (k + 1)) s := by
  rw [List.drop_eq_getElem_cons hk]
  rfl

/-- The reference's there, of a tree's inodes. -/
theorem rthere_known (a : Option Addr) (cap : Nat) (m b k : Int) (L : List Ino) (v : Bool) (hv : thereB L k = v) (w : World) :
    Calls Try.prog 33 #[.agg #[.slice a L.length cap, .int .i64 m, .int .i64 b], .int .i64 k] w fun e w' => e = .returned (.bool v) ∧ Below w.heap.size w w' := by
  subst hv
  exact rthere_any a cap L.length m b k w

set_option maxHeartbeats 1000000 in
theorem rkid_any (a : Option Addr) (cap : Nat) (m b d : Int) (nm : List UInt8) (L : List Ino) (w : World) (hN : NodesIn w a cap L) :
    Calls Try.prog 19 #[.agg #[.slice a L.length cap, .int .i64 m, .int .i64 b], .int .i64 d, .string ⟨nm.toArray⟩] w fun e w' => e = .returned (.int .i64 (kidL L d nm)) ∧ Below w.heap.size w w' := by
  have hb1 := below_box w (.cells #[.slice a L.length cap, .int .i64 m, .int .i64 b] 24)
  have hM := hN.below hb1
  have hcap := hN.1
  have hmax := hN.2.1
  unfold maxLen at hmax
  have HM := Lib.hid hM
  clear hM hN
  cases ht : thereB L d with
  | false =>
    have HT := Lib.hid ht
    have hfin := Lib.hid (show kidL L d nm = -1 by unfold kidL dirB; rw [ht]; rfl)
    clear ht
    rw [hfin.out]
    go_enter Try.func19, Try.ntmps19
    go_wp2_with (first | (go_at_call 33; refine (rthere_known _ _ _ _ _ _ _ HT.out _).mono ?_; rintro e w2 ⟨rfl, hb2⟩) | fail)
    go_ret
    exact ⟨rfl, hb1.trans (hb2.mono (by simp))⟩
  | true =>
    obtain ⟨n, rfl, hn⟩ := there_nat ht
    have HT := Lib.hid ht
    clear ht
    obtain ⟨bb, o, rfl, hx⟩ := HM.out.2.2 n hn
    have h1 := hx.kind
    have hd0 : (0 : Int) ≤ (n : Int) := by omega
    cases hz : (L[n].kind != 2) with
    | true =>
      have hfin := Lib.hid (show kidL L (n : Int) nm = -1 by
        unfold kidL dirB
        rw [HT.out, node_nat L n hn]
        have : (L[n].kind == 2) = false := by simpa [bne] using hz
        rw [this]
        rfl)
      rw [hfin.out]
      go_enter Try.func19, Try.ntmps19
      go_wp2_with (first | (go_at_call 33; refine (rthere_known _ _ _ _ _ _ _ HT.out _).mono ?_; rintro e w2 ⟨rfl, hb2⟩; obtain ⟨q0, q1, q2⟩ := box3 hb2; have h2 := cell_below hb2 h1) | fail)
      go_ret
      exact ⟨rfl, hb1.trans (hb2.mono (by simp))⟩
    | false =>
      have hz' : (L[n].kind == 2) = true := by simpa [bne] using hz
      obtain ⟨kv, hk1, hks⟩ := hx.kids
      obtain ⟨M, hMe⟩ : ∃ M, M = L[n].kids := ⟨_, rfl⟩
      rw [← hMe] at hks
      obtain ⟨ka, kcap, rfl, hkc, hkm, hkk⟩ := hks
      unfold maxLen at hkm
      have HK := Lib.hid hkk
      have hfin := Lib.hid (show kidL L (n : Int) nm = findK M nm by
        unfold kidL dirB
        rw [HT.out, node_nat L n hn, hz', hMe]
        rfl)
      rw [hfin.out]
      clear hkk hMe
      go_enter Try.func19, Try.ntmps19
      go_wp2_with (first | (go_at_call 33; refine (rthere_known _ _ _ _ _ _ _ HT.out _).mono ?_; rintro e w2 ⟨rfl, hb2⟩; obtain ⟨q0, q1, q2⟩ := box3 hb2; have h2 := cell_below hb2 h1; have h3 := cell_below hb2 hk1) | fail)
      have HB := Lib.hid (hb1.trans (hb2.mono (by simp)))
      have HKB := Lib.hid (show ∀ k (hk : k < M.length), ∃ b o, ka = some ⟨b, o, none⟩ ∧ w2.cell? ⟨b, o + k * 2, none⟩ = some (.string ⟨M[k].1.toArray⟩) ∧ w2.cell? ⟨b, o + k * 2 + 1, none⟩ = some (.int .i64 M[k].2) from
        fun k hk => by obtain ⟨b', o', e1, e2, e3⟩ := HK.out k hk; exact ⟨b', o', e1, cell_below hb2 e2, cell_below hb2 e3⟩)
      clear h2 h3 q0 q1 q2 hb1 hb2 HM HT hx hk1 HK hfin
      go_loop [8] (fun i => ∃ k : Nat, k ≤ M.length ∧ i = .int .i64 k ∧ Hid (findK M nm = findK (M.drop k) nm)) (fun i => M.length - (intOf i).toNat)
      case atStart => exact ⟨0, by omega, rfl, Lib.hid rfl⟩
      case round =>
        obtain ⟨k, hk, rfl, hfk⟩ := hrel
        by_cases hlt : k < M.length
        · obtain ⟨b', o', rfl, e2, e3⟩ := HKB.out k hlt
          have hst := findK_drop M k hlt nm
          cases hc : (M[k].1 == nm) with
          | true =>
            rw [if_pos (by simpa using hc)] at hst
            have HF := Lib.hid (hfk.out.trans hst)
            clear hst
            go_wp2_with fail
            go_ret
            exact ⟨by rw [HF.out]; rfl, HB.out⟩
          | false =>
            rw [if_neg (by simpa using hc)] at hst
            have HF := Lib.hid (hfk.out.trans hst)
            clear hst
            go_wp2_with fail
            go_round
            case rel => exact ⟨k + 1, by omega, by go_num, HF⟩
            case measure => simp [intOf] <;> omega
        · have HF := Lib.hid (show findK M nm = -1 by rw [hfk.out, List.drop_eq_nil_of_le (by omega)]; rfl)
          go_wp2_with fail
          go_ret
          exact ⟨by rw [HF.out]; rfl, HB.out⟩
end Go.Proofs.Ytgmmggdjcgemfaa
