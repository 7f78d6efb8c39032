/-
  tree's nameIn, of the landed code: the name that an inode has in a directory.
-/
import Derived.Test.YtdpfnnhlneapbaaTLDir
namespace Go.Proofs.Ytdpfnnhlneapbaa
open Go Go.RowKit

def nameOf : List (List UInt8 × Int) → Int → Option (List UInt8)
  | [], _ => none
  | e :: r, d => if e.2 = d then some e.1 else nameOf r d
theorem nameOf_none : ∀ (M : List (List UInt8 × Int)) (d : Int), (∀ k (h : k < M.length), M[k].2 ≠ d) → nameOf M d = none
  | [], _, _ => rfl
  | e :: r, d, h => by
    unfold nameOf
    rw [if_neg (show e.2 ≠ d from h 0 (Nat.succ_pos _))]
    exact nameOf_none r d (fun k hk => h (k + 1) (Nat.succ_lt_succ hk))
theorem nameOf_some : ∀ (M : List (List UInt8 × Int)) (d : Int) (i : Nat) (hi : i < M.length), M[i].2 = d → (∀ k (hk : k < i), (M[k]'(by omega)).2 ≠ d) → nameOf M d = some M[i].1
  | [], _, i, hi, _, _ => absurd hi (Nat.not_lt_zero _)
  | e :: r, d, 0, _, hs, _ => by
    unfold nameOf
    rw [if_pos (show e.2 = d from hs)]
    rfl
  | e :: r, d, i + 1, hi, hs, h => by
    unfold nameOf
    rw [if_neg (show e.2 ≠ d from h 0 (Nat.succ_pos _))]
    exact nameOf_some r d i (Nat.lt_of_succ_lt_succ hi) hs (fun k hk => h (k + 1) (Nat.succ_lt_succ hk))

set_option maxHeartbeats 1000000 in
theorem lis_any (n : List UInt8) (i d : Int) (B : Nat) (w : World) (hB : w.cell? ⟨B, 0, none⟩ = some (.int .i64 d)) :
    Calls Try.prog 59 #[.agg #[.string ⟨n.toArray⟩, .int .i64 i], .pointer (some ⟨B, 0, none⟩)] w fun e w' => e = .returned (.bool (i == d)) ∧ Below w.heap.size w w' := by
  have HB := Lib.hid (below_box w (.cells #[.string ⟨n.toArray⟩, .int .i64 i] 49))
  have hlt := cell_lt hB
  have hlt' : B < w.heap.size := hlt
  clear hlt
  go_enter Try.func59, Try.ntmps59
  go_wp2_with fail
  go_ret
  exact ⟨rfl, HB.out⟩

/-- What the search answers. -/
def IAns (M : List (List UInt8 × Int)) (d : Int) (e : Ending) : Prop :=
  (e = .returned (.int .i64 (-1)) ∧ ∀ k (h : k < M.length), M[k].2 ≠ d) ∨ ∃ (i : Nat) (hi : i < M.length), e = .returned (.int .i64 i) ∧ M[i].2 = d ∧ ∀ k (hk : k < i), (M[k]'(by omega)).2 ≠ d
def IRel2 (M : List (List UInt8 × Int)) (d : Int) (w : World) (iv : Value) (wr : World) : Prop :=
  ∃ i : Nat, i ≤ M.length ∧ iv = .int .i64 i ∧ Hid (∀ k (h : k < M.length), k < i → M[k].2 ≠ d) ∧ Below w.heap.size w wr

set_option maxRecDepth 100000 in
set_option maxHeartbeats 2000000 in
theorem lindex_any (M : List (List UInt8 × Int)) (hM : M.length ≤ 1024) (d : Int) (B : Nat) (ka : Option Addr) (kcap : Nat) (w : World) (hK : KidsIn w (.slice ka M.length kcap) M) (hB : w.cell? ⟨B, 0, none⟩ = some (.int .i64 d)) :
    Calls Try.prog 58 #[.slice ka M.length kcap, .func (.func 59) #[] #[.pointer (some ⟨B, 0, none⟩)]] w fun e w' => IAns M d e ∧ Below w.heap.size w w' := by
  obtain ⟨ka', kcap', e1, hkc, hkm, hkk⟩ := hK
  simp only [Value.slice.injEq] at e1
  obtain ⟨rfl, -, rfl⟩ := e1
  unfold maxLen at hkm
  have HK := Lib.hid hkk
  have HBC := Lib.hid hB
  clear hkk hB
  go_enter Try.func58, Try.ntmps58
  go_wp2_with fail
  go_loopw [5, 8] (fun _ i wr => IRel2 M d w i wr) (fun _ i _ => M.length - (intOf i).toNat)
  case atStart => exact ⟨0, by omega, rfl, fun _ _ h => absurd h (Nat.not_lt_zero _), Below.refl _ _⟩
  case round =>
    obtain ⟨i, hi, rfl, hno, hbr⟩ := hrel
    have HBR := Lib.hid hbr
    have hszr := hbr.size
    clear hbr
    by_cases hlt : i < M.length
    · obtain ⟨c1, p1, rfl, z0, z1⟩ := HK.out i hlt
      have y0 := cell_below HBR.out z0
      have y1 := cell_below HBR.out z1
      obtain ⟨nm, hnm⟩ : ∃ nm, nm = M[i].1 := ⟨_, rfl⟩
      obtain ⟨ino, hino⟩ : ∃ ino, ino = M[i].2 := ⟨_, rfl⟩
      rw [← hnm] at y0
      rw [← hino] at y1
      have HI := Lib.hid hino
      clear z0 z1 hnm hino
      go_wp2_with fail
      refine (lis_any nm ino d B _ (cell_below HBR.out HBC.out)).mono ?_
      rintro e w2 ⟨rfl, hb2⟩
      have HB2 := Lib.hid (HBR.out.trans (hb2.mono hszr))
      clear hb2 y0 y1
      cases hq : (ino == d) with
      | true =>
        have HA := Lib.hid (show IAns M d (.returned (.int .i64 i)) from Or.inr ⟨i, hlt, rfl, by rw [← HI.out]; simpa using hq, fun k hk => hno.out k (by omega) hk⟩)
        go_wp2_with fail
        go_ret
        exact ⟨HA.out, HB2.out⟩
      | false =>
        have hno' := Lib.hid (show ∀ k (h : k < M.length), k < i + 1 → M[k].2 ≠ d from fun k h hk => by
          by_cases e : k = i
          · subst e
            rw [← HI.out]
            simpa using hq
          · exact hno.out k h (by omega))
        go_wp2_with fail
        go_roundw
        case rel => exact ⟨i + 1, by omega, by go_num, hno', HB2.out⟩
        case measure => simp [intOf] <;> omega
    · have HA := Lib.hid (show IAns M d (.returned (.int .i64 (-1))) from Or.inl ⟨rfl, fun k h => hno.out k h (by omega)⟩)
      go_wp2_with fail
      go_ret
      exact ⟨HA.out, HBR.out⟩

/-- What nameIn answers. -/
def nameAns (L : List Ino) (dir d : Int) : List UInt8 × Bool := if dirB L dir then (match nameOf (nodeAt L dir).kids d with | none => ([], false) | some n => (n, true)) else ([], false)

set_option maxRecDepth 100000 in
set_option maxHeartbeats 4000000 in
theorem lnamein_any (a : Option Addr) (cap : Nat) (m b dir d : Int) (L : List Ino) (hR : ∀ k (h : k < L.length), L[k].kids.length ≤ 1024) (w : World) (hN : NodesIn w a cap L) :
    Calls Try.prog 42 #[.agg #[.slice a L.length cap, .int .i64 m, .int .i64 b], .int .i64 dir, .int .i64 d] w fun e w' => e = .returned (.tuple #[.string ⟨(nameAns L dir d).1.toArray⟩, .bool (nameAns L dir d).2]) ∧ Below w.heap.size w w' := by
  have hb1 : Below w.heap.size w ((w.alloc (.cells #[.slice a L.length cap, .int .i64 m, .int .i64 b] 24)).alloc (.cells #[.int .i64 d] 3)) := (below_box w _).alloc (by simp) _
  have hM := hN.below hb1
  have hcap := hN.1
  have hmax := hN.2.1
  unfold maxLen at hmax
  obtain ⟨w1, hw1⟩ : ∃ w1, w1 = (w.alloc (.cells #[.slice a L.length cap, .int .i64 m, .int .i64 b] 24)).alloc (.cells #[.int .i64 d] 3) := ⟨_, rfl⟩
  have q0 : w1.cell? ⟨w.heap.size, 0, none⟩ = some (.slice a L.length cap) := by rw [hw1]; exact (box3 (below_box _ _)).1
  have q1 : w1.cell? ⟨w.heap.size, 1, none⟩ = some (.int .i64 m) := by rw [hw1]; exact (box3 (below_box _ _)).2.1
  have q2 : w1.cell? ⟨w.heap.size, 2, none⟩ = some (.int .i64 b) := by rw [hw1]; exact (box3 (below_box _ _)).2.2
  have q3 : w1.cell? ⟨w.heap.size + 1, 0, none⟩ = some (.int .i64 d) := by
    rw [hw1]
    have h : (w.alloc (.cells #[.slice a L.length cap, .int .i64 m, .int .i64 b] 24)).heap.size = w.heap.size + 1 := by simp
    rw [← h]
    exact (by simp only [World.cell?, new_block]; rfl)
  have hsz : w1.heap.size = w.heap.size + 2 := by rw [hw1]; simp
  rw [← hw1] at hM hb1
  have HM := Lib.hid hM
  have HB1 := Lib.hid hb1
  have HR := Lib.hid hR
  have Q0 := Lib.hid q0
  have Q3 := Lib.hid q3
  have HSZ := Lib.hid hsz
  clear hM hN hb1 hR hsz q0 q1 q2 q3
  obtain ⟨F, hF⟩ : ∃ F, F = nameAns L dir d := ⟨_, rfl⟩
  rw [← hF]
  have HF := Lib.hid hF
  clear hF
  cases hd : dirB L dir with
  | false =>
    have HD := Lib.hid hd
    have hfin := Lib.hid (show F = ([], false) by rw [HF.out]; unfold nameAns; rw [hd]; rfl)
    clear hd
    go_enter Try.func42, Try.ntmps42
    go_wp2_with fail
    rw [← hw1]
    clear hw1
    refine (lisdir_known _ _ _ _ _ L _ HD.out _ HM.out).mono ?_
    rintro e w2 ⟨rfl, hb2⟩
    have HB2 := Lib.hid (HB1.out.trans (hb2.mono (by rw [HSZ.out]; omega)))
    clear hb2
    go_wp2_with fail
    go_ret2
    exact ⟨by rw [hfin.out]; rfl, HB2.out⟩
  | true =>
    obtain ⟨n, rfl, hn⟩ := there_nat (show thereB L dir = true by unfold dirB at hd; rw [Bool.and_eq_true] at hd; exact hd.1)
    have HD := Lib.hid hd
    obtain ⟨bb, o, rfl, hx⟩ := HM.out.2.2 n hn
    obtain ⟨kv, hk1, hks⟩ := hx.kids
    obtain ⟨M, hMe⟩ : ∃ M, M = L[n].kids := ⟨_, rfl⟩
    rw [← hMe] at hks
    obtain ⟨ka, kcap, rfl, hkc, hkm, hkk⟩ := hks
    have hM1 : M.length ≤ 1024 := by rw [hMe]; exact HR.out n hn
    have hfin := Lib.hid (show F = (match nameOf M d with | none => ([], false) | some n => (n, true)) by rw [HF.out]; unfold nameAns; rw [hd, node_nat L n hn, hMe]; rfl)
    have hd0 : (0 : Int) ≤ (n : Int) := by omega
    have HK := Lib.hid (show KidsIn _ (.slice ka M.length kcap) M from ⟨ka, kcap, rfl, hkc, hkm, hkk⟩)
    unfold maxLen at hkm
    clear hd hx hMe hkk
    go_enter Try.func42, Try.ntmps42
    go_wp2_with fail
    rw [← hw1]
    clear hw1
    refine (lisdir_known _ _ _ _ _ L _ HD.out _ HM.out).mono ?_
    rintro e w2 ⟨rfl, hb2⟩
    have q0 := cell_below hb2 Q0.out
    have h3 := cell_below hb2 hk1
    have HB2 := Lib.hid (HB1.out.trans (hb2.mono (by rw [HSZ.out]; omega)))
    have HK2 := Lib.hid (HK.out.below hb2)
    have Q32 := Lib.hid (cell_below hb2 Q3.out)
    have hs2 := HB2.out.size
    clear hb2 hk1
    go_wp2_with fail
    refine (lindex_any M hM1 d (w.heap.size + 1) ka kcap _ HK2.out Q32.out).mono ?_
    rintro e w3 ⟨hA, hb3⟩
    have HB3 := Lib.hid (HB2.out.trans (hb3.mono hs2))
    have HK3 := Lib.hid (HK2.out.below hb3)
    clear hb3 h3 q0
    rcases hA with ⟨rfl, hno⟩ | ⟨i, hil, rfl, hid1, hid2⟩
    · have HE := Lib.hid (show F = ([], false) by rw [hfin.out, nameOf_none M d hno])
      clear hno
      go_wp2_with fail
      go_ret2
      exact ⟨by rw [HE.out]; rfl, HB3.out⟩
    · have HE := Lib.hid (show F = (M[i].1, true) by rw [hfin.out, nameOf_some M d i hil hid1 hid2])
      obtain ⟨ka', kcap', e1, -, -, hkk⟩ := HK3.out
      simp only [Value.slice.injEq] at e1
      obtain ⟨rfl, -, rfl⟩ := e1
      obtain ⟨c1, p1, rfl, z0, z1⟩ := hkk i hil
      have hi0 : (0 : Int) ≤ (i : Int) := by omega
      have hil' : (i : Int) < (M.length : Int) := by omega
      clear hid1 hid2 hkk z1
      go_wp2_with fail
      go_ret2
      exact ⟨by rw [HE.out]; rfl, HB3.out⟩
end Go.Proofs.Ytdpfnnhlneapbaa
