/-
  tree's inodeFits and kidsFit, of the landed code.
-/
import Derived.Deep.QuietTactic
import Derived.BigQuiet
import Derived.Deep.Draws
import Derived.Laws.Cover1
import Derived.Test.YtdpfnnhlneapbaaTreeAlone
import Derived.Test.YtdpfnnhlneapbaaTLSame
import Derived.Test.YtdpfnnhlneapbaaTLPath
import Derived.Test.YtdpfnnhlneapbaaTLTells
namespace Go.Proofs.Ytdpfnnhlneapbaa
open Go Go.RowKit

theorem alone_free (mode links up : Int) (data : List UInt8) (kids : List (List UInt8 × Int)) :
    (⟨0, mode, links, data, kids, up⟩ : Ino) = ⟨0, 0, 0, [], [], 0⟩ ↔ aloneB ⟨0, mode, links, data, kids, up⟩ = true := by
  simp only [aloneB, if_true, Bool.and_eq_true, decide_eq_true_eq, beq_iff_eq, List.isEmpty_iff, List.length_eq_zero_iff, Ino.mk.injEq, true_and]
  exact ⟨fun ⟨a, b, c, d, e⟩ => ⟨⟨⟨⟨a, b⟩, c⟩, d⟩, e⟩, fun ⟨⟨⟨⟨a, b⟩, c⟩, d⟩, e⟩ => ⟨a, b, c, d, e⟩⟩

theorem nil_kids (w : World) : KidsIn w (.slice none 0 0) ([] : List (List UInt8 × Int)) := ⟨none, 0, rfl, Nat.le_refl _, Nat.zero_le _, fun _ hi => absurd hi (Nat.not_lt_zero _)⟩

set_option maxRecDepth 100000 in
set_option maxHeartbeats 4000000 in
theorem lino_any (kind mode links up : Int) (data : List UInt8) (hd : data.length ≤ 9223372036854775807) (kids : List (List UInt8 × Int)) (ka : Option Addr) (kcap : Nat) (w : World) (hK : KidsIn w (.slice ka kids.length kcap) kids) :
    Calls Try.prog 48 #[.agg #[.int .i64 kind, .int .i64 mode, .int .i64 links, .string ⟨data.toArray⟩, .slice ka kids.length kcap, .int .i64 up]] w fun e w' => TellsP (aloneB ⟨kind, mode, links, data, kids, up⟩ = true) e ∧ Below w.heap.size w w' := by
  have hs := str_len data
  obtain ⟨Ab, hAb⟩ : ∃ Ab, Ab = aloneB ⟨kind, mode, links, data, kids, up⟩ := ⟨_, rfl⟩
  rw [← hAb]
  have HBX := Lib.hid (show ∀ o, Below w.heap.size w (w.alloc o) from fun o => below_box w o)
  by_cases h0 : kind = 0
  · subst h0
    have HKX := Lib.hid (show ∀ o, KidsIn (w.alloc o) (.slice ka kids.length kcap) kids from fun o => hK.below (below_box w o))
    have HA := Lib.hid (show (⟨0, mode, links, data, kids, up⟩ : Ino) = ⟨0, 0, 0, [], [], 0⟩ ↔ Ab = true by rw [hAb]; exact alone_free mode links up data kids)
    clear hAb
    clear hK hs
    go_enter Try.func48, Try.ntmps48
    go_wp2_with fail
    refine (lsame_ino 0 mode links up 0 0 0 0 data [] kids [] ka none kcap 0 _ (HKX.out _) (nil_kids _)).mono ?_
    rintro e w' ⟨⟨v, rfl, hv⟩, hb3⟩
    have HB3 := Lib.hid ((HBX.out _).trans (hb3.mono (by simp)))
    have HV := Lib.hid hv
    clear hv hb3
    go_wp2_with fail
    go_ret
    exact ⟨TellsP.of rfl (HV.out.trans HA.out), HB3.out⟩
  · clear hK
    by_cases hm : mode < 0 ∨ 7 < mode
    · have hfin := Lib.hid (show ¬ Ab = true by rw [hAb]; unfold aloneB; rw [if_neg h0, if_pos hm]; simp)
      have e0 : (kind == 0) = false := by simpa using h0
      clear h0 hAb
      rcases hm with hm | hm
      all_goals
        go_enter Try.func48, Try.ntmps48
        go_wp2_with fail
        go_ret
        exact ⟨TellsP.no rfl hfin.out, HBX.out _⟩
    · have hm1 : 0 ≤ mode := by omega
      have hm2 : mode ≤ 7 := by omega
      by_cases h1 : kind = 1
      · subst h1
        have hfin := Lib.hid (show Ab = (decide (kids.length = 0) && (up == 0)) by rw [hAb]; unfold aloneB; rw [if_neg h0, if_neg hm, if_pos rfl])
        clear hm h0 hAb
        by_cases hk : kids.length = 0
        all_goals
          by_cases hu : up = 0
          all_goals
            go_enter Try.func48, Try.ntmps48
            go_wp2_with fail
            go_ret
            refine ⟨?_, HBX.out _⟩
            first
              | exact TellsP.yes rfl (by rw [hfin.out]; simp [hk, hu])
              | exact TellsP.no rfl (by rw [hfin.out]; simp [hk, hu])
              | exact TellsP.of rfl (by rw [hfin.out]; simp [hk, hu])
      · by_cases h3 : kind = 3
        · subst h3
          have hfin := Lib.hid (show Ab = (data.all (fun c => c != 0) && decide (kids.length = 0) && (up == 0) && !data.isEmpty && decide (data.length ≤ 1024)) by rw [hAb]; unfold aloneB; rw [if_neg h0, if_neg hm, if_neg h1, if_pos rfl])
          clear hm h0 h1 hAb
          have HN0 := Lib.hid (none_of data 0)
          obtain ⟨i0, hi0⟩ : ∃ i, Lib.indexByte data (0 : Int).toNat.toUInt8 = i := ⟨_, rfl⟩
          have HI := Lib.hid hi0
          clear hi0
          have hlist : (⟨data.toArray⟩ : ByteArray).toList.isEmpty = data.isEmpty := by rw [ByteArray.toList_eq]
          by_cases hk : kids.length = 0 <;> by_cases hu : up = 0 <;> cases he : data.isEmpty <;> by_cases hl : data.length ≤ 1024 <;> by_cases hn : i0 < 0
          all_goals
            go_enter Try.func48, Try.ntmps48
            go_wp2_with (first | (go_at_call 62; refine (ibyte_known ⟨data.toArray⟩ 0 i0 HI.out _).mono ?_; rintro e w' ⟨rfl, rfl⟩) | fail)
            go_ret
            refine ⟨?_, HBX.out _⟩
            have hN : data.all (fun c => c != 0) = decide (i0 < 0) := by rw [← HN0.out, ← HI.out]; rfl
            first
              | exact TellsP.yes rfl (by rw [hfin.out, hN]; simp [hk, hu, he, hl, hn])
              | exact TellsP.no rfl (by rw [hfin.out, hN]; simp [hk, hu, he, hl, hn])
              | exact TellsP.of rfl (by rw [hfin.out, hN]; simp [hk, hu, he, hl])
        · by_cases h2 : kind = 2
          · subst h2
            have hfin := Lib.hid (show Ab = data.isEmpty by rw [hAb]; unfold aloneB; rw [if_neg h0, if_neg hm, if_neg h1, if_neg h3, if_pos rfl])
            clear hm h0 h1 h3 hAb
            have hlist : (⟨data.toArray⟩ : ByteArray).toList.isEmpty = data.isEmpty := by rw [ByteArray.toList_eq]
            by_cases hk : kids.length = 0 <;> by_cases hu : up = 0 <;> cases he : data.isEmpty
            all_goals
              go_enter Try.func48, Try.ntmps48
              go_wp2_with fail
              go_ret
              refine ⟨?_, HBX.out _⟩
              first
                | exact TellsP.yes rfl (by rw [hfin.out, he])
                | exact TellsP.no rfl (by rw [hfin.out, he]; simp)
          · have hfin := Lib.hid (show ¬ Ab = true by rw [hAb]; unfold aloneB; rw [if_neg h0, if_neg hm, if_neg h1, if_neg h3, if_neg h2]; simp)
            have e0 : (kind == 0) = false := by simpa using h0
            have e1 : (kind == 1) = false := by simpa using h1
            have e2 : (kind == 2) = false := by simpa using h2
            have e3 : (kind == 3) = false := by simpa using h3
            clear hm h0 h1 h2 h3 hAb
            by_cases hk : kids.length = 0 <;> by_cases hu : up = 0
            all_goals
              go_enter Try.func48, Try.ntmps48
              go_wp2_with fail
              go_ret
              exact ⟨TellsP.no rfl hfin.out, HBX.out _⟩
end Go.Proofs.Ytdpfnnhlneapbaa
