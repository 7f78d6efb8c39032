/-
  The reference's Base, Dir, Join.
-/
import Derived.Test.YtkpbeljifpokdaaPathRef2
namespace Go.Proofs.Ytkpbeljifpokdaa
open Go Go.RowKit

theorem parts_len (l : List UInt8) : (partsL l).length ≤ l.length + 1 := by
  have h : ∀ L : List (List UInt8), L.length ≤ total L := by
    intro L
    induction L with
    | nil => simp [total]
    | cons x r ih => simp only [List.length_cons, total]; omega
  exact Nat.le_trans (h _) (total_parts l)

def baseL (l : List UInt8) : List UInt8 := if partsL l = [] then (if wholeL l then [47] else []) else (partsL l).getLastD []

theorem last_at (L : List (List UInt8)) (h : 0 < L.length) : L.getLastD [] = L[L.length - 1] := by
  cases L with
  | nil => simp at h
  | cons x r => simp [List.getLastD_eq_getLast?, List.getLast?_eq_getElem?]

set_option maxHeartbeats 1000000 in
theorem rbase_any (s : ByteArray) (hs : s.size ≤ 1073741824) (w : World) : Calls Try.prog 14 #[.string s] w fun e w' => e = .returned (.string ⟨(baseL s.data.toList).toArray⟩) ∧ Below w.heap.size w w' := by
  have hp := parts_len s.data.toList
  rw [size_list] at hp
  by_cases h0 : (partsL s.data.toList).length = 0
  · have hn : partsL s.data.toList = [] := List.length_eq_zero_iff.1 h0
    have HN := Lib.hid hn
    clear hn
    cases hw : wholeL s.data.toList
    all_goals
      have hfin := Lib.hid (show baseL s.data.toList = if wholeL s.data.toList then [47] else [] by unfold baseL; rw [if_pos HN.out])
      rw [hw] at hfin
      go_enter Try.func14, Try.ntmps14
      go_wp2_with fail
      refine (rparts_any s hs _).mono ?_
      rintro e w1 ⟨v, rfl, hT, hb⟩
      rw [HN.out] at hT
      rcases hT.forms with ⟨rfl, -⟩ | ⟨g, cap, rfl, -, -, -, -, -⟩
      all_goals
        go_wp2_with fail
        refine (rwhole_any _ _).mono ?_
        rintro e w' ⟨rfl, rfl⟩
        go_wp2_with fail
        go_ret
        exact ⟨by rw [hfin.out]; rfl, hb⟩
  · have hfin := Lib.hid (show baseL s.data.toList = (partsL s.data.toList)[(partsL s.data.toList).length - 1]'(by omega) by unfold baseL; rw [if_neg (fun e => h0 (by rw [e]; rfl)), last_at _ (by omega)])
    go_enter Try.func14, Try.ntmps14
    go_wp2_with fail
    refine (rparts_any s hs _).mono ?_
    rintro e w1 ⟨v, rfl, hT, hb⟩
    rcases hT.forms with ⟨rfl, hn⟩ | ⟨g, cap, rfl, hB, hg, hcap, hmax, hcell⟩
    · exact absurd (by rw [hn]; rfl) h0
    · have hx := hcell ((partsL s.data.toList).length - 1) (by omega)
      unfold strv at hx
      obtain ⟨n, hn⟩ : ∃ n, (partsL s.data.toList).length = n + 1 := ⟨(partsL s.data.toList).length - 1, by omega⟩
      have hx' : w1.cell? ⟨g, n, none⟩ = some (.string ⟨(baseL s.data.toList).toArray⟩) := by
        rw [hfin.out]
        simp only [hn, Nat.add_sub_cancel] at hx ⊢
        exact hx
      rw [hn] at hp hcap h0 ⊢
      unfold maxLen at hmax
      clear hx hcell hT hn hfin
      go_wp2_with fail
      go_ret
      exact ⟨rfl, hb⟩

/-- A row without its last text. -/
theorem Texts.init {B : Nat} {w : World} {g n cap : Nat} {L : List (List UInt8)} (h : Texts B w (.slice (some ⟨g, 0, none⟩) (n + 1) cap) L) (hn : L.length = n + 1) : Texts B w (.slice (some ⟨g, 0, none⟩) n cap) L.dropLast := by
  obtain ⟨h1, h2 | ⟨g', cap', cur, hv, hg, hh, hc, hm, hs, ht⟩⟩ := h
  · cases h2.1
  · simp only [Value.slice.injEq, Option.some.injEq, Addr.mk.injEq] at hv
    obtain ⟨⟨rfl, -⟩, -, rfl⟩ := hv
    have hl : L.dropLast.length = n := by rw [List.length_dropLast, hn]; rfl
    refine ⟨by rw [List.length_map, Nat.mul_one], Or.inr ⟨g, cap, cur, by rw [hl], hg, hh, by omega, hm, hs, ?_⟩⟩
    rw [hl, List.map_dropLast, ← ht, hn, Nat.mul_one, Nat.mul_one, List.dropLast_eq_take, List.length_take, List.take_take]
    have hcl : cur.toList.length = cap := by rw [Array.length_toList, hs, Nat.mul_one]
    rw [hcl]
    congr 1
    omega

def dirL (l : List UInt8) : List UInt8 :=
  if (if wholeL l then 47 :: joinL (partsL l).dropLast else joinL (partsL l).dropLast) = [] then [46] else (if wholeL l then 47 :: joinL (partsL l).dropLast else joinL (partsL l).dropLast)

theorem total_init (L : List (List UInt8)) : total L.dropLast ≤ total L := by
  rw [List.dropLast_eq_take]
  exact total_take L _

theorem empty_val (l : List UInt8) : ((⟨l.toArray⟩ : ByteArray).toList.isEmpty) = l.isEmpty := by rw [ByteArray.toList_eq]

theorem rjoined_known (L : List (List UInt8)) (J : List UInt8) (hJ : J = joinL L) (B : Nat) (v : Value) (w : World) (hT : Texts B w v L) (hlen : total L ≤ 1099511627776) :
    Calls Try.prog 29 #[v] w fun e w' => e = .returned (.string ⟨J.toArray⟩) ∧ w = w' := by
  subst hJ
  exact rjoined_any L B v w hT hlen
theorem rwhole_known (s : ByteArray) (b : Bool) (h : wholeL s.data.toList = b) (w : World) : Calls Try.prog 25 #[.string s] w fun e w' => e = .returned (.bool b) ∧ w = w' := by
  subst h
  exact rwhole_any s w

theorem slash_cat (x : ByteArray) : ((⟨#[47]⟩ : ByteArray) ++ x).toList.isEmpty = false := by
  rcases x with ⟨⟨l⟩⟩
  rw [ByteArray.mk_append_mk, ByteArray.toList_eq]
  simp

set_option maxHeartbeats 2000000 in
theorem rdir_any (s : ByteArray) (hs : s.size ≤ 1073741824) (w : World) : Calls Try.prog 16 #[.string s] w fun e w' => e = .returned (.string ⟨(dirL s.data.toList).toArray⟩) ∧ Below w.heap.size w w' := by
  have hp := parts_len s.data.toList
  have htot := total_parts s.data.toList
  rw [size_list] at hp htot
  obtain ⟨J, hJ⟩ : ∃ J, J = joinL (partsL s.data.toList).dropLast := ⟨_, rfl⟩
  have hJl : J.length ≤ 1073741825 := by rw [hJ]; have h1 := join_le (partsL s.data.toList).dropLast; have h2 := total_init (partsL s.data.toList); omega
  have hd : dirL s.data.toList = if (if wholeL s.data.toList then 47 :: J else J) = [] then [46] else (if wholeL s.data.toList then 47 :: J else J) := by rw [hJ]; rfl
  have HJ := Lib.hid hJ
  have HD := Lib.hid hd
  have HTT := Lib.hid (show total (partsL s.data.toList).dropLast ≤ 1099511627776 by have h2 := total_init (partsL s.data.toList); omega)
  clear hJ hd htot
  cases hw : wholeL s.data.toList <;> rcases J with _ | ⟨c, r⟩
  all_goals
    have HW := Lib.hid hw
    rw [hw] at HD
    simp only [List.length_cons, List.length_nil] at hJl
    have hcat := slash_cat
    clear hw
    go_enter Try.func16, Try.ntmps16
    go_wp2_with fail
    refine (rparts_any s hs _).mono ?_
    rintro e w1 ⟨v, rfl, hT, hb⟩
    rcases hT.forms with ⟨rfl, hn⟩ | ⟨g, cap, rfl, -, -, hcap, hmax, -⟩
    · have HT := Lib.hid (show Texts w.heap.size w1 (.slice none 0 0) (partsL s.data.toList).dropLast by rw [hn] at hT ⊢; exact hT)
      clear hT hn
      go_wp2_with fail
      refine (rjoined_known _ _ HJ.out _ _ _ HT.out HTT.out).mono ?_
      rintro e w' ⟨rfl, rfl⟩
      go_wp2_with fail
      refine (rwhole_known _ _ HW.out _).mono ?_
      rintro e w' ⟨rfl, rfl⟩
      go_wp2_with fail
      go_ret
      exact ⟨by rw [HD.out]; (first | rfl | exact congrArg (fun x => Ending.returned (.string x)) (ByteArray.mk_append_mk ..)), hb⟩
    · unfold maxLen at hmax
      by_cases h0 : (partsL s.data.toList).length = 0
      · have HT := Lib.hid (show Texts w.heap.size w1 (.slice (some ⟨g, 0, none⟩) 0 cap) (partsL s.data.toList).dropLast by rw [List.length_eq_zero_iff.1 h0] at hT ⊢; exact hT)
        rw [h0]
        clear hT h0 hcap hp
        go_wp2_with fail
        refine (rjoined_known _ _ HJ.out _ _ _ HT.out HTT.out).mono ?_
        rintro e w' ⟨rfl, rfl⟩
        go_wp2_with fail
        refine (rwhole_known _ _ HW.out _).mono ?_
        rintro e w' ⟨rfl, rfl⟩
        go_wp2_with fail
        go_ret
        exact ⟨by rw [HD.out]; (first | rfl | exact congrArg (fun x => Ending.returned (.string x)) (ByteArray.mk_append_mk ..)), hb⟩
      · obtain ⟨n, hn⟩ : ∃ n, (partsL s.data.toList).length = n + 1 := ⟨(partsL s.data.toList).length - 1, by omega⟩
        rw [hn] at hT hcap hp ⊢
        have HT := Lib.hid (hT.init hn)
        clear hT hn h0
        go_wp2_with fail
        refine (rjoined_known _ _ HJ.out _ _ _ HT.out HTT.out).mono ?_
        rintro e w' ⟨rfl, rfl⟩
        go_wp2_with fail
        refine (rwhole_known _ _ HW.out _).mono ?_
        rintro e w' ⟨rfl, rfl⟩
        go_wp2_with fail
        go_ret
        exact ⟨by rw [HD.out]; (first | rfl | exact congrArg (fun x => Ending.returned (.string x)) (ByteArray.mk_append_mk ..)), hb⟩
end Go.Proofs.Ytkpbeljifpokdaa
