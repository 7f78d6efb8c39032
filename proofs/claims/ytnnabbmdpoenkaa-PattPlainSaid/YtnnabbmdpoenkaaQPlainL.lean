/-
  The law PattPlain, walked.
-/
import Derived.BigQuiet
import Derived.Lib.OthersKept
import Derived.Laws.RangeAny
import Derived.Test.YtnnabbmdpoenkaaQLaws
import Derived.Test.YtnnabbmdpoenkaaQAwake
namespace Go.Proofs.Ytnnabbmdpoenkaa
set_option maxRecDepth 100000
open Go Go.RowKit

theorem sum3p {a b c : ByteArray} (h : shB [a, b, c] = true) : a.size + (b.size + c.size) ≤ 400 := by
  unfold shB at h
  rw [decide_eq_true_iff] at h
  simpa [sumS] using h
theorem wide_q (s : ByteArray) (i : Nat) : 1 ≤ (Utf8.decode s i).2 := by
  unfold Utf8.decode
  simp only
  repeat' split
  all_goals simp
theorem text_eq (a b : ByteArray) : (a.toList == b.toList) = decide (b.data.toList = a.data.toList) := by
  rw [ByteArray.toList_eq, ByteArray.toList_eq]
  by_cases h : b.data.toList = a.data.toList
  · rw [decide_eq_true h, h]; simp
  · rw [decide_eq_false h, beq_eq_false_iff_ne]
    exact fun e => h e.symm

set_option maxHeartbeats 16000000 in
theorem pplain_walk (p q s : ByteArray) (lp : p.size ≤ 281474976710656) (lq : q.size ≤ 281474976710656) (ls : s.size ≤ 281474976710656) (w : World) : Calls Try.prog 4 #[.string p, .string q, .string s] w fun e w' => e = .returned (.bool true) ∧ Below w.heap.size w w' := by
  obtain ⟨w1, hw1⟩ : ∃ w1, w1 = w.alloc (.cells #[.string p, .string q, .string s] 9) := ⟨_, rfl⟩
  have hb1 : Below w.heap.size w w1 := by rw [hw1]; exact below_box _ _
  have hR1 : RowAt w1 w.heap.size ([p, q, s].map Value.string) 9 := by rw [hw1]; exact new_block _ _
  have C1 := lshort [p, q, s] (by simp) (fun x hx => by simp at hx; rcases hx with rfl | rfl | rfl <;> assumption) w.heap.size w1 hR1
  have CA := fun W => lawakeq W
  have HW1 := Lib.hid hw1
  have HB1 := Lib.hid hb1
  have HPS := Lib.hid (size_data p)
  clear hw1 hb1 hR1
  cases hsh : shB [p, q, s] with
  | false =>
    rw [hsh] at C1
    go_enter Try.func4, Try.ntmps4
    go_wp2_with fail
    rw [← HW1.out]
    refine C1.mono ?_
    rintro e w2 ⟨rfl, rfl⟩
    go_wp2_with fail
    refine (CA _).mono ?_
    rintro e w3 ⟨rfl, hb⟩
    have HB3 := Lib.hid (below_two HB1.out hb)
    clear hb
    go_wp2_with fail
    go_ret
    exact ⟨rfl, HB3.out⟩
  | true =>
    rw [hsh] at C1
    have h400 := sum3p hsh
    clear hsh
    have M1 := fun W => lmagic p q (by omega) W
    have D1 := fun W => lmatch p q s (by omega) (by omega) W
    have D2 := fun W => lmatch p q p (by omega) (by omega) W
    obtain ⟨b, hb⟩ : ∃ b, b = decide (s.data.toList = p.data.toList) := ⟨_, rfl⟩
    have hq1 : (p.toList == s.toList) = b := by rw [text_eq, hb]
    have HB := Lib.hid hb
    clear hb
    go_enter Try.func4, Try.ntmps4
    go_wp2_with fail
    rw [← HW1.out]
    refine C1.mono ?_
    rintro e w2 ⟨rfl, rfl⟩
    clear C1
    go_upto_region 3 with fail
    go_cut [35] from 8 (fun c wx => c = .bool false ∧ Below w.heap.size w wx)
    case first =>
      cases hm : magB (plL p.data.toList q.data.toList) with
      | true =>
        rw [hm] at M1
        go_wp2_with fail
        refine (M1 _).mono ?_
        rintro e w3 ⟨rfl, hb⟩
        have HB3 := Lib.hid (below_two HB1.out hb)
        clear hb
        go_wp2_with fail
        go_meet
        exact ⟨by rfl, HB3.out⟩
      | false =>
        rw [hm] at M1
        rw [plain_plain _ _ _ hm, ← HB.out] at D1
        rw [plain_plain _ _ _ hm, decide_eq_true rfl] at D2
        clear hm
        cases b
        all_goals
          go_wp2_with fail
          refine (M1 _).mono ?_
          rintro e w3 ⟨rfl, hb⟩
          have HB3 := Lib.hid (below_two HB1.out hb)
          clear hb
          go_wp2_with fail
          refine (D1 _).mono ?_
          rintro e w4 ⟨rfl, hb⟩
          have HB4 := Lib.hid (below_two HB3.out hb)
          clear hb
          go_wp2_with fail
          refine (D2 _).mono ?_
          rintro e w5 ⟨rfl, hb⟩
          have HB5 := Lib.hid (below_two HB4.out hb)
          clear hb
          go_wp2_with fail
          go_meet
          exact ⟨by rfl, HB5.out⟩
    case rest =>
    obtain ⟨rfl, hbc⟩ := hcut
    have HBC := Lib.hid hbc
    clear hbc M1 D1 D2
    go_wp2_with fail
    go_loopw [7] (fun v7 wr => ∃ (t : ByteArray) (m pos : Nat), v7 = .string t ∧ t.size = m ∧ m ≤ pos ∧ m ≤ p.size ∧ Hid (t.data.toList = List.replicate m 49) ∧ Hid (wr.heap[wc.heap.size]? = some (.stringIter p pos)) ∧ Hid (Below wc.heap.size wc wr)) (fun _ wr => p.size - wr.iterPos wc.heap.size)
    case atStart => exact ⟨⟨#[]⟩, 0, 0, rfl, rfl, Nat.le_refl _, Nat.zero_le _, (show (ByteArray.mk #[]).data.toList = List.replicate 0 49 from rfl), World.iter_heap _ _ _, (Below.refl _ _).alloc (Nat.le_refl _) _⟩
    case round =>
      obtain ⟨t, m, pos, rfl, hts, hmp, hms, HTD, HIT, HBR⟩ := hrel
      by_cases hp : pos < p.size
      · have hnx : ∀ ty, (Instr.next (.pointer (some ⟨wc.heap.size, 0, none⟩)) true ty).run Try.prog wr = _ := fun ty => Lib.run_next_any_at wr wc.heap.size p pos ty HIT.out hp
        have hwd := wide_q p pos
        obtain ⟨wd, hwde⟩ : ∃ wd, wd = (Utf8.decode p pos).2 := ⟨_, rfl⟩
        rw [← hwde] at hnx hwd
        have HI2 := Lib.hid (Lib.iterAt_heap wr wc.heap.size p pos (pos + wd) HIT.out)
        have HB2 := Lib.hid (Lib.below_iterAt HBR.out (k := wc.heap.size) (Nat.le_refl _) p (pos + wd))
        have hl1 : ¬ 9223372036854775807 < t.size + 1 := by omega
        have hsz : (t ++ (⟨#[49]⟩ : ByteArray)).size = t.size + 1 := by rw [ByteArray.size_append]; rfl
        have HSZ := Lib.hid hsz
        have HTN := Lib.hid (show (t ++ (⟨#[49]⟩ : ByteArray)).data.toList = List.replicate (m + 1) 49 by
          rw [ByteArray.data_append, Array.toList_append, HTD.out, List.replicate_succ'])
        have hm1 : m + 1 ≤ pos + wd := by omega
        have hm2 : m + 1 ≤ p.size := by omega
        have HTS := Lib.hid hts
        clear hwde hsz hts
        go_wp2_with fail
        go_roundw
        case rel => exact ⟨_, m + 1, pos + wd, rfl, by rw [HSZ.out, HTS.out], hm1, hm2, HTN, HI2, HB2⟩
        case measure =>
          simp only [World.iterPos, HI2.out, HIT.out]
          omega
      · have hnx : ∀ ty, (Instr.next (.pointer (some ⟨wc.heap.size, 0, none⟩)) true ty).run Try.prog wr = _ := fun ty => Lib.run_next_end_at wr wc.heap.size p pos ty HIT.out hp
        have HBW := Lib.hid (below_two HBC.out HBR.out)
        have HTS := Lib.hid hts
        clear hts
        go_wp2_with fail
        go_loopw [7] (fun v7 wy => ∃ (t : ByteArray) (m : Nat), v7 = .string t ∧ t.size = m ∧ m ≤ p.size ∧ Hid (t.data.toList = List.replicate m 49) ∧ wr = wy) (fun v7 _ => p.size - (match v7 with | .string t => t.size | _ => 0))
        case atStart => exact ⟨t, m, rfl, HTS.out, hms, HTD, rfl⟩
        case round =>
          obtain ⟨t, m, rfl, hts, hms, HTD, rfl⟩ := hrel
          by_cases htl : t.size < p.size
          · have htli : (t.size : Int) < (p.size : Int) := by omega
            have hl1 : ¬ 9223372036854775807 < t.size + 1 := by omega
            have hsz : (t ++ (⟨#[49]⟩ : ByteArray)).size = t.size + 1 := by rw [ByteArray.size_append]; rfl
            have HSZ := Lib.hid hsz
            have HTN := Lib.hid (show (t ++ (⟨#[49]⟩ : ByteArray)).data.toList = List.replicate (m + 1) 49 by
              rw [ByteArray.data_append, Array.toList_append, HTD.out, List.replicate_succ'])
            have hm2 : m + 1 ≤ p.size := by omega
            have HTS := Lib.hid hts
            clear hsz hts
            go_wp2_with fail
            go_roundw
            case rel => exact ⟨_, m + 1, rfl, by rw [HSZ.out, HTS.out], hm2, HTN, trivial⟩
            case measure => simp only [HSZ.out]; omega
          · have htli : ¬ (t.size : Int) < (p.size : Int) := by omega
            have hmp : m = p.data.toList.length := by rw [HPS.out]; omega
            have hqp := quoted_plain p.data.toList
            rw [← hmp, ← HTD.out] at hqp
            have M2 := fun W => lmagic p t (by omega) W
            have D3 := fun W => lmatch p t s (by omega) (by omega) W
            have D4 := fun W => lmatch p t p (by omega) (by omega) W
            rw [hqp] at M2
            rw [plain_plain _ _ _ hqp, ← HB.out] at D3
            rw [plain_plain _ _ _ hqp, decide_eq_true rfl] at D4
            clear hmp hqp hts
            cases b
            all_goals
              go_wp2_with fail
              refine (M2 _).mono ?_
              rintro e w3 ⟨rfl, hb⟩
              have HB3 := Lib.hid (below_two HBW.out hb)
              clear hb
              go_wp2_with fail
              refine (D3 _).mono ?_
              rintro e w4 ⟨rfl, hb⟩
              have HB4 := Lib.hid (below_two HB3.out hb)
              clear hb
              go_wp2_with fail
              refine (D4 _).mono ?_
              rintro e w5 ⟨rfl, hb⟩
              have HB5 := Lib.hid (below_two HB4.out hb)
              clear hb
              go_wp2_with fail
              refine (CA _).mono ?_
              rintro e w6 ⟨rfl, hb⟩
              have HB6 := Lib.hid (below_two HB5.out hb)
              clear hb
              go_wp2_with fail
              go_ret
              exact ⟨rfl, HB6.out⟩
end Go.Proofs.Ytnnabbmdpoenkaa
