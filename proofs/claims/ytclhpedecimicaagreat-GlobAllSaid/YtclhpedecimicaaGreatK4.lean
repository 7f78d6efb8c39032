/-
  The reference's Kid: what a directory has of a name.
  The reference's alone: an inode's own fields.
-/
import Derived.Test.YtclhpedecimicaaGreatTrees
namespace Go.Proofs.YtclhpedecimicaaGreat
set_option maxRecDepth 100000
open Go Go.RowKit

def noIno : Ino := ⟨0, 0, 0, [], [], 0⟩
def nodeAt (L : List Ino) (k : Int) : Ino := L.getD k.toNat noIno
def dirB (L : List Ino) (k : Int) : Bool := thereB L k && (nodeAt L k).kind == 2

def findK : List (List UInt8 × Int) → List UInt8 → Int
  | [], _ => -1
  | e :: r, s => if e.1 = s then e.2 else findK r s
def kidL (L : List Ino) (d : Int) (s : List UInt8) : Int := if dirB L d then findK (nodeAt L d).kids s else -1

theorem there_nat {L : List Ino} {k : Int} (h : thereB L k = true) : ∃ n : Nat, k = (n : Int) ∧ n < L.length := by
  unfold thereB at h
  rw [Bool.and_eq_true, decide_eq_true_eq, decide_eq_true_eq] at h
  exact ⟨k.toNat, by omega, by omega⟩
theorem there_not {L : List Ino} {k : Int} (h : thereB L k = false) : k < 0 ∨ (L.length : Int) ≤ k := by
  unfold thereB at h
  rw [Bool.and_eq_false_iff, decide_eq_false_iff_not, decide_eq_false_iff_not] at h
  omega
theorem node_nat (L : List Ino) (n : Nat) (h : n < L.length) : nodeAt L (n : Int) = L[n] := by
  unfold nodeAt
  rw [Int.toNat_natCast, List.getD_eq_getElem?_getD, List.getElem?_eq_getElem h]
  rfl
theorem there_of (L : List Ino) (n : Nat) (h : n < L.length) : thereB L (n : Int) = true := by
  unfold thereB
  rw [decide_eq_true (by omega), decide_eq_true (by omega)]
  rfl
theorem findK_drop (M : List (List UInt8 × Int)) (k : Nat) (hk : k < M.length) (s : List UInt8) : findK (M.drop k) s = if M[k].1 = s then M[k].2 else findK (M.drop (k + 1)) s := by
  rw [List.drop_eq_getElem_cons hk]
  rfl

/-- The reference's there, of a tree's inodes. -/
theorem rthere_known (a : Option Addr) (cap : Nat) (m b k : Int) (L : List Ino) (v : Bool) (hv : thereB L k = v) (w : World) :
    Calls Tryz.prog 27 #[.agg #[.slice a L.length cap, .int .i64 m, .int .i64 b], .int .i64 k] w fun e w' => e = .returned (.bool v) ∧ Below w.heap.size w w' := by
  subst hv
  exact rthere_any a cap L.length m b k w

set_option maxHeartbeats 1000000 in
theorem rkid_any (a : Option Addr) (cap : Nat) (m b d : Int) (nm : List UInt8) (L : List Ino) (w : World) (hN : NodesIn w a cap L) :
    Calls Tryz.prog 104 #[.agg #[.slice a L.length cap, .int .i64 m, .int .i64 b], .int .i64 d, .string ⟨nm.toArray⟩] w fun e w' => e = .returned (.int .i64 (kidL L d nm)) ∧ Below w.heap.size w w' := by
  have hb1 := below_box w (.cells #[.slice a L.length cap, .int .i64 m, .int .i64 b] 24)
  have hM := hN.below hb1
  have hcap := hN.1
  have hmax := hN.2.1
  unfold maxLen at hmax
  have HM := Lib.hid hM
  clear hM hN
  cases ht : thereB L d with
  | false =>
    have HT := Lib.hid ht
    have hfin := Lib.hid (show kidL L d nm = -1 by unfold kidL dirB; rw [ht]; rfl)
    clear ht
    rw [hfin.out]
    go_enter Tryz.func104, Tryz.ntmps104
    go_wp2_with (first | (go_at_call 27; refine (rthere_known _ _ _ _ _ _ _ HT.out _).mono ?_; rintro e w2 ⟨rfl, hb2⟩) | fail)
    go_ret
    exact ⟨rfl, hb1.trans (hb2.mono (by simp))⟩
  | true =>
    obtain ⟨n, rfl, hn⟩ := there_nat ht
    have HT := Lib.hid ht
    clear ht
    obtain ⟨bb, o, rfl, hx⟩ := HM.out.2.2 n hn
    have h1 := hx.kind
    have hd0 : (0 : Int) ≤ (n : Int) := by omega
    cases hz : (L[n].kind != 2) with
    | true =>
      have hfin := Lib.hid (show kidL L (n : Int) nm = -1 by
        unfold kidL dirB
        rw [HT.out, node_nat L n hn]
        have : (L[n].kind == 2) = false := by simpa [bne] using hz
        rw [this]
        rfl)
      rw [hfin.out]
      go_enter Tryz.func104, Tryz.ntmps104
      go_wp2_with (first | (go_at_call 27; refine (rthere_known _ _ _ _ _ _ _ HT.out _).mono ?_; rintro e w2 ⟨rfl, hb2⟩; obtain ⟨q0, q1, q2⟩ := box3 hb2; have h2 := cell_below hb2 h1) | fail)
      go_ret
      exact ⟨rfl, hb1.trans (hb2.mono (by simp))⟩
    | false =>
      have hz' : (L[n].kind == 2) = true := by simpa [bne] using hz
      obtain ⟨kv, hk1, hks⟩ := hx.kids
      obtain ⟨M, hMe⟩ : ∃ M, M = L[n].kids := ⟨_, rfl⟩
      rw [← hMe] at hks
      obtain ⟨ka, kcap, rfl, hkc, hkm, hkk⟩ := hks
      unfold maxLen at hkm
      have HK := Lib.hid hkk
      have hfin := Lib.hid (show kidL L (n : Int) nm = findK M nm by
        unfold kidL dirB
        rw [HT.out, node_nat L n hn, hz', hMe]
        rfl)
      rw [hfin.out]
      clear hkk hMe
      go_enter Tryz.func104, Tryz.ntmps104
      go_wp2_with (first | (go_at_call 27; refine (rthere_known _ _ _ _ _ _ _ HT.out _).mono ?_; rintro e w2 ⟨rfl, hb2⟩; obtain ⟨q0, q1, q2⟩ := box3 hb2; have h2 := cell_below hb2 h1; have h3 := cell_below hb2 hk1) | fail)
      have HB := Lib.hid (hb1.trans (hb2.mono (by simp)))
      have HKB := Lib.hid (show ∀ k (hk : k < M.length), ∃ b o, ka = some ⟨b, o, none⟩ ∧ w2.cell? ⟨b, o + k * 2, none⟩ = some (.string ⟨M[k].1.toArray⟩) ∧ w2.cell? ⟨b, o + k * 2 + 1, none⟩ = some (.int .i64 M[k].2) from
        fun k hk => by obtain ⟨b', o', e1, e2, e3⟩ := HK.out k hk; exact ⟨b', o', e1, cell_below hb2 e2, cell_below hb2 e3⟩)
      clear h2 h3 q0 q1 q2 hb1 hb2 HM HT hx hk1 HK hfin
      go_loop [8] (fun i => ∃ k : Nat, k ≤ M.length ∧ i = .int .i64 k ∧ Hid (findK M nm = findK (M.drop k) nm)) (fun i => M.length - (intOf i).toNat)
      case atStart => exact ⟨0, by omega, rfl, Lib.hid rfl⟩
      case round =>
        obtain ⟨k, hk, rfl, hfk⟩ := hrel
        by_cases hlt : k < M.length
        · obtain ⟨b', o', rfl, e2, e3⟩ := HKB.out k hlt
          have hst := findK_drop M k hlt nm
          cases hc : (M[k].1 == nm) with
          | true =>
            rw [if_pos (by simpa using hc)] at hst
            have HF := Lib.hid (hfk.out.trans hst)
            clear hst
            go_wp2_with fail
            go_ret
            exact ⟨by rw [HF.out]; rfl, HB.out⟩
          | false =>
            rw [if_neg (by simpa using hc)] at hst
            have HF := Lib.hid (hfk.out.trans hst)
            clear hst
            go_wp2_with fail
            go_round
            case rel => exact ⟨k + 1, by omega, by go_num, HF⟩
            case measure => simp [intOf] <;> omega
        · have HF := Lib.hid (show findK M nm = -1 by rw [hfk.out, List.drop_eq_nil_of_le (by omega)]; rfl)
          go_wp2_with fail
          go_ret
          exact ⟨by rw [HF.out]; rfl, HB.out⟩
end Go.Proofs.YtclhpedecimicaaGreat

namespace Go.Proofs.YtclhpedecimicaaGreat
set_option maxRecDepth 100000
open Go Go.RowKit

def aloneB (x : Ino) : Bool :=
  if x.kind = 0 then decide (x.mode = 0) && decide (x.links = 0) && x.data.isEmpty && decide (x.kids.length = 0) && (x.up == 0)
  else if x.mode < 0 ∨ 7 < x.mode then false
  else if x.kind = 1 then decide (x.kids.length = 0) && (x.up == 0)
  else if x.kind = 3 then x.data.all (fun c => c != 0) && decide (x.kids.length = 0) && (x.up == 0) && !x.data.isEmpty && decide (x.data.length ≤ 1024)
  else if x.kind = 2 then x.data.isEmpty
  else false

def inoV (x : Ino) (ka : Option Addr) (kcap : Nat) : Value := .agg #[.int .i64 x.kind, .int .i64 x.mode, .int .i64 x.links, .string ⟨x.data.toArray⟩, .slice ka x.kids.length kcap, .int .i64 x.up]

theorem all_at (l : List UInt8) (k : Nat) (hk : k < l.length) (h : l[k] = 0) : l.all (fun c => c != 0) = false := by
  rw [List.all_eq_false]
  exact ⟨l[k], List.getElem_mem _, by simp [h]⟩
theorem all_done (l : List UInt8) (h : ∀ j (hj : j < l.length), l[j] ≠ 0) : l.all (fun c => c != 0) = true := by
  rw [List.all_eq_true]
  intro c hc
  obtain ⟨j, hj, rfl⟩ := List.getElem_of_mem hc
  simpa using h j hj

set_option maxHeartbeats 2000000 in
theorem ralone_any (kind mode links up : Int) (data : List UInt8) (hd : data.length ≤ 9223372036854775807) (kids : List (List UInt8 × Int)) (ka : Option Addr) (kcap : Nat) (w : World) :
    Calls Tryz.prog 29 #[.agg #[.int .i64 kind, .int .i64 mode, .int .i64 links, .string ⟨data.toArray⟩, .slice ka kids.length kcap, .int .i64 up]] w fun e w' => e = .returned (.bool (aloneB ⟨kind, mode, links, data, kids, up⟩)) ∧ Below w.heap.size w w' := by
  have hs := str_len data
  by_cases h0 : kind = 0
  · subst h0
    have hfin := Lib.hid (show aloneB ⟨0, mode, links, data, kids, up⟩ = (decide (mode = 0) && decide (links = 0) && data.isEmpty && decide (kids.length = 0) && (up == 0)) from rfl)
    go_enter Tryz.func29, Tryz.ntmps29
    go_wp2_with fail
    all_goals
      go_ret
      refine ⟨?_, below_box _ _⟩
      rw [hfin.out]
      clear hfin
      simp_all
  · by_cases hm : mode < 0 ∨ 7 < mode
    · have hfin := Lib.hid (show aloneB ⟨kind, mode, links, data, kids, up⟩ = false by unfold aloneB; rw [if_neg h0, if_pos hm])
      rw [hfin.out]
      rcases hm with hm | hm
      all_goals
        go_enter Tryz.func29, Tryz.ntmps29
        go_wp2_with fail
        go_ret
        exact ⟨rfl, below_box _ _⟩
    · have hm1 : 0 ≤ mode := by omega
      have hm2 : mode ≤ 7 := by omega
      by_cases h1 : kind = 1
      · subst h1
        have hfin := Lib.hid (show aloneB ⟨1, mode, links, data, kids, up⟩ = (decide (kids.length = 0) && (up == 0)) by unfold aloneB; rw [if_neg h0, if_neg hm, if_pos rfl])
        clear hm h0
        go_enter Tryz.func29, Tryz.ntmps29
        go_wp2_with fail
        all_goals
          go_ret
          refine ⟨?_, below_box _ _⟩
          rw [hfin.out]
          clear hfin
          simp_all
      · by_cases h3 : kind = 3
        · subst h3
          have hfin := Lib.hid (show aloneB ⟨3, mode, links, data, kids, up⟩ = (data.all (fun c => c != 0) && decide (kids.length = 0) && (up == 0) && !data.isEmpty && decide (data.length ≤ 1024)) by unfold aloneB; rw [if_neg h0, if_neg hm, if_neg h1, if_pos rfl])
          clear hm h0 h1
          rw [hfin.out]
          clear hfin
          obtain ⟨s, hsd⟩ : ∃ s : ByteArray, s = ⟨data.toArray⟩ := ⟨_, rfl⟩
          obtain rfl : data = s.data.toList := by rw [hsd]
          have hv : Value.string ⟨s.data.toList.toArray⟩ = .string s := rfl
          rw [hv]
          have hz : s.data.toList.length = s.size := Array.length_toList
          have hall0 : ∀ k (hk : k < s.size), s[k] = 0 → s.data.toList.all (fun c => c != 0) = false := fun k hk h => all_at _ k (by rw [hz]; exact hk) (by rw [← h]; rfl)
          have hall1 : (∀ j (hj : j < s.size), s[j] ≠ 0) → s.data.toList.all (fun c => c != 0) = true := fun h => all_done _ (fun j hj => h j (by rw [hz] at hj; exact hj))
          have hem : s.data.toList.isEmpty = s.toList.isEmpty := by rw [ByteArray.toList_eq]
          rw [hz, hem]
          clear hsd hv hs
          rw [hz] at hd
          clear hz hem
          obtain ⟨A, hA⟩ : ∃ A, A = s.data.toList.all (fun c => c != 0) := ⟨_, rfl⟩
          rw [← hA] at hall0 hall1 ⊢
          clear hA
          have H0 := Lib.hid hall0
          have H1 := Lib.hid hall1
          clear hall0 hall1
          go_enter Tryz.func29, Tryz.ntmps29
          go_wp2_with fail
          go_loop [3] (fun i => ∃ k : Nat, k ≤ s.size ∧ i = .int .i64 k ∧ Hid (∀ j (hj : j < s.size), j < k → s[j] ≠ 0)) (fun i => s.size - (intOf i).toNat)
          case atStart => exact ⟨0, by omega, rfl, fun _ _ h => absurd h (Nat.not_lt_zero _)⟩
          case round =>
            obtain ⟨k, hk, rfl, hcl⟩ := hrel
            by_cases hlt : k < s.size
            · cases hc : ((s[k].toNat : Int) == 0) with
              | true =>
                have hz : s[k] = 0 := by
                  apply UInt8.toNat_inj.1
                  have : (s[k].toNat : Int) = 0 := by simpa using hc
                  show s[k].toNat = 0
                  omega
                have ha := Lib.hid (H0.out k hlt hz)
                clear hz
                go_wp2_with fail
                go_ret
                exact ⟨by rw [ha.out]; rfl, below_box _ _⟩
              | false =>
                have hn := Lib.hid (show ∀ j (hj : j < s.size), j < k + 1 → s[j] ≠ 0 from fun j hj hjk => by
                  by_cases e : j = k
                  · subst e
                    intro h
                    rw [h] at hc
                    simp at hc
                  · exact hcl.out j hj (by omega))
                go_wp2_with fail
                go_round
                case rel => exact ⟨k + 1, by omega, by go_num, hn⟩
                case measure => simp [intOf] <;> omega
            · have ha := Lib.hid (H1.out (fun j hj => hcl.out j hj (by omega)))
              go_wp2_with fail
              all_goals
                go_ret
                refine ⟨?_, below_box _ _⟩
                have hA := ha.out
                have hcast : decide ((s.size : Int) ≤ 1024) = decide (s.size ≤ 1024) := by rw [decide_eq_decide]; omega
                clear ha hcl H0 H1
                first | rfl | simp_all
        · by_cases h2 : kind = 2
          · subst h2
            have hfin := Lib.hid (show aloneB ⟨2, mode, links, data, kids, up⟩ = data.isEmpty by unfold aloneB; rw [if_neg h0, if_neg hm, if_neg h1, if_neg h3, if_pos rfl])
            clear hm h0 h1 h3
            go_enter Tryz.func29, Tryz.ntmps29
            go_wp2_with fail
            go_ret
            refine ⟨?_, below_box _ _⟩
            rw [hfin.out]
            rfl
          · have hfin := Lib.hid (show aloneB ⟨kind, mode, links, data, kids, up⟩ = false by unfold aloneB; rw [if_neg h0, if_neg hm, if_neg h1, if_neg h3, if_neg h2])
            rw [hfin.out]
            have e0 : (kind == 0) = false := by simpa using h0
            have e1 : (kind == 1) = false := by simpa using h1
            have e2 : (kind == 2) = false := by simpa using h2
            have e3 : (kind == 3) = false := by simpa using h3
            clear hm h0 h1 h2 h3
            go_enter Tryz.func29, Tryz.ntmps29
            go_wp2_with fail
            go_ret
            exact ⟨rfl, below_box _ _⟩
end Go.Proofs.YtclhpedecimicaaGreat
