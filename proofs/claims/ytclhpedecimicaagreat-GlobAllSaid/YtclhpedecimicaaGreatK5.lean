/-
  A quiet walk that comes back to the very world serves where a still one is asked for.
  The reference's rooted: going up from a directory leads to the root.
  strings.IndexByte, strings.Index and strings.Cut at a text of one slash: what stands ahead of the first slash, and what behind it.
  strings.Cut at a text of one slash.
-/
import Derived.StillTailTactics
import Derived.Deep.QuietTactic
import Derived.BigQuiet
import Derived.Test.YtclhpedecimicaaGreatProg
import Derived.Test.YtclhpedecimicaaGreatK4
import Derived.Test.YtclhpedecimicaaGreatK1
import Derived.Lib.Bytealg
import Derived.Lib.IndexLaws
import Derived.Lib.Strings
import Derived.Deep.Draws
import Derived.Laws.Strings3
import Derived.BigRegion
namespace Go.Proofs.YtclhpedecimicaaGreat
set_option maxRecDepth 100000
open Go Go.RowKit

theorem still_of_quiet {P : Program} {o : Oper} {a : Act} {w : World} {K : Act → Prop} (h : o.quiet P a (fun w' => w' = w) K) : o.still P a w K := by
  obtain ⟨v, h1, h2⟩ := h
  have h3 := h1 w rfl
  unfold Oper.quietAt at h3
  unfold Oper.still
  revert h3
  cases (execOp a.eval o).run P w with
  | ok x w' =>
    cases x with
    | value u => rintro ⟨rfl, rfl⟩; exact ⟨rfl, h2⟩
    | skip => rintro ⟨rfl, rfl⟩; exact ⟨rfl, h2⟩
    | enter f args => rintro ⟨rfl, h⟩; exact ⟨rfl, v, h, h2⟩
    | _ => intro h; exact h.elim
  | _ => intro h; exact h.elim
theorem wpStill_of_quiet {P : Program} {ops : Array Oper} {w : World} {Q : Act → Prop} : ∀ (l : List Oper) (a : Act), wpQuiet P ops (fun w' => w' = w) Q l a → wpStill P ops w Q l a
  | [], _, h => h
  | o :: rest, a, h => by
    unfold wpQuiet at h
    unfold wpStill
    split
    · rename_i hw
      rw [if_pos hw] at h
      exact still_of_quiet (Oper.quiet_mono (fun a' h' => wpStill_of_quiet rest a' h') h)
    · rename_i hw
      rw [if_neg hw] at h
      exact wpStill_of_quiet rest _ h
end Go.Proofs.YtclhpedecimicaaGreat

namespace Go.Proofs.YtclhpedecimicaaGreat
set_option maxRecDepth 100000
open Go Go.RowKit

def upFrom (L : List Ino) : Nat → Int → Bool
  | 0, _ => false
  | n + 1, k => if k = 0 then true else if dirB L (nodeAt L k).up then upFrom L n (nodeAt L k).up else false
theorem up_succ (L : List Ino) (n : Nat) (k : Int) : upFrom L (n + 1) k = if k = 0 then true else if dirB L (nodeAt L k).up then upFrom L n (nodeAt L k).up else false := rfl
def rootedB (L : List Ino) (k : Int) : Bool := upFrom L (L.length + 1) k

def RootRel (L : List Ino) (n0 : Nat) (w1 : World) (kv iv : Value) (wr : World) : Prop :=
  ∃ k i : Nat, k < L.length ∧ i ≤ L.length + 1 ∧ kv = .int .i64 k ∧ iv = .int .i64 i ∧ Hid (upFrom L (L.length + 1) (n0 : Int) = upFrom L (L.length + 1 - i) (k : Int)) ∧ Below w1.heap.size w1 wr

set_option maxHeartbeats 2000000 in
theorem rrooted_any (a : Option Addr) (cap : Nat) (m b : Int) (L : List Ino) (hL : L.length ≤ 1000) (n : Nat) (hn : n < L.length) (w : World) (hN : NodesIn w a cap L) :
    Calls Tryz.prog 31 #[.agg #[.slice a L.length cap, .int .i64 m, .int .i64 b], .int .i64 n] w fun e w' => e = .returned (.bool (rootedB L n)) ∧ Below w.heap.size w w' := by
  have hb1 := below_box w (.cells #[.slice a L.length cap, .int .i64 m, .int .i64 b] 24)
  obtain ⟨w1, hw1⟩ : ∃ w1, w1 = w.alloc (.cells #[.slice a L.length cap, .int .i64 m, .int .i64 b] 24) := ⟨_, rfl⟩
  have hM := hN.below hb1
  have hbox : ∀ W', Below w1.heap.size w1 W' → W'.cell? ⟨w.heap.size, 0, none⟩ = some (.slice a L.length cap) ∧ W'.cell? ⟨w.heap.size, 1, none⟩ = some (.int .i64 m) ∧ W'.cell? ⟨w.heap.size, 2, none⟩ = some (.int .i64 b) := fun W' h => box3 (by rw [← hw1]; exact h)
  rw [← hw1] at hM hb1
  have HM := Lib.hid hM
  have HX := Lib.hid hbox
  have HB := Lib.hid hb1
  clear hM hN hbox hb1
  unfold rootedB
  go_enter Tryz.func31, Tryz.ntmps31
  go_wp2_with fail
  rw [← hw1]
  clear hw1
  go_loopw [1, 5] (fun k i wr => RootRel L n w1 k i wr) (fun _ i _ => L.length + 1 - (intOf i).toNat)
  case atStart => exact ⟨n, 0, hn, by omega, rfl, rfl, Lib.hid rfl, Below.refl _ _⟩
  case round =>
    obtain ⟨k, i, hk, hi, rfl, rfl, hrest, hbr⟩ := hrel
    have HBR := Lib.hid hbr
    obtain ⟨q0, q1, q2⟩ := HX.out _ hbr
    clear hbr
    by_cases hil : i ≤ L.length
    · have hst : L.length + 1 - i = (L.length - i) + 1 := by omega
      have hsz := HBR.out.size
      by_cases hk0 : k = 0
      · subst hk0
        have hfin := Lib.hid (show upFrom L (L.length + 1) (n : Int) = true by rw [hrest.out, hst]; rfl)
        go_wp2_with fail
        go_ret
        exact ⟨by rw [hfin.out]; rfl, HB.out.trans (HBR.out.mono HB.out.size)⟩
      · obtain ⟨bb, o, rfl, hx⟩ := (HM.out.below HBR.out).2.2 k hk
        have h1 := hx.up
        have hu : upFrom L (L.length + 1) (n : Int) = if dirB L L[k].up then upFrom L (L.length - i) L[k].up else false := by
          rw [hrest.out, hst, up_succ, if_neg (by omega), node_nat L k hk]
        cases ht : thereB L L[k].up with
        | false =>
          have HT := Lib.hid ht
          have hfin := Lib.hid (show upFrom L (L.length + 1) (n : Int) = false by rw [hu, if_neg (by unfold dirB; rw [ht]; simp)])
          clear ht hu
          have hk1 : ((k : Int) == 0) = false := by simpa using hk0
          go_wp2_with (first | (go_at_call 27; refine (rthere_known _ _ _ _ _ _ _ HT.out _).mono ?_; rintro e w2 ⟨rfl, hb2⟩) | fail)
          go_ret
          exact ⟨by rw [hfin.out]; rfl, (HB.out.trans (HBR.out.mono HB.out.size)).trans (hb2.mono (Nat.le_trans HB.out.size hsz))⟩
        | true =>
          obtain ⟨u, hu1, hu2⟩ := there_nat ht
          have HT := Lib.hid ht
          obtain ⟨b', o', e1, hy⟩ := (HM.out.below HBR.out).2.2 u hu2
          have h2 := hy.kind
          obtain ⟨rfl, rfl⟩ : b' = bb ∧ o' = o := by simpa [eq_comm] using e1
          have hd : dirB L L[k].up = (L[u].kind == 2) := by unfold dirB; rw [ht, hu1, node_nat L u hu2]; rfl
          rw [hd, hu1] at hu
          rw [hu1] at h1 HT
          have hk1 : ((k : Int) == 0) = false := by simpa using hk0
          have hu0 : (0 : Int) ≤ (u : Int) := by omega
          clear ht hd e1
          cases hz : (L[u].kind != 2) with
          | true =>
            have hfin := Lib.hid (show upFrom L (L.length + 1) (n : Int) = false by rw [hu, if_neg (by simpa [bne] using hz)])
            clear hu
            go_wp2_with (first | (go_at_call 27; refine (rthere_known _ _ _ _ _ _ _ HT.out _).mono ?_; rintro e w2 ⟨rfl, hb2⟩; obtain ⟨r0, r1, r2⟩ := HX.out _ (HBR.out.trans (hb2.mono hsz)); have h3 := cell_below hb2 h2) | fail)
            go_ret
            exact ⟨by rw [hfin.out]; rfl, (HB.out.trans (HBR.out.mono HB.out.size)).trans (hb2.mono (Nat.le_trans HB.out.size hsz))⟩
          | false =>
            have hnext := Lib.hid (show upFrom L (L.length + 1) (n : Int) = upFrom L (L.length + 1 - (i + 1)) (u : Int) by rw [hu, if_pos (by simpa [bne] using hz)]; congr 1; omega)
            clear hu
            go_wp2_with (first | (go_at_call 27; refine (rthere_known _ _ _ _ _ _ _ HT.out _).mono ?_; rintro e w2 ⟨rfl, hb2⟩; obtain ⟨r0, r1, r2⟩ := HX.out _ (HBR.out.trans (hb2.mono hsz)); have h3 := cell_below hb2 h2) | fail)
            go_roundw
            case rel => exact ⟨u, i + 1, hu2, by omega, rfl, by go_num, hnext, HBR.out.trans (hb2.mono hsz)⟩
            case measure => simp [intOf] <;> omega
    · have hfin := Lib.hid (show upFrom L (L.length + 1) (n : Int) = false by rw [hrest.out, show L.length + 1 - i = 0 by omega]; rfl)
      go_wp2_with fail
      go_ret
      exact ⟨by rw [hfin.out]; rfl, HB.out.trans (HBR.out.mono HB.out.size)⟩
end Go.Proofs.YtclhpedecimicaaGreat

namespace Go.Proofs.YtclhpedecimicaaGreat
set_option maxRecDepth 100000
open Go Go.RowKit

/-- What stands ahead of the first slash; what stands behind it. -/
def headL : List UInt8 → List UInt8
  | [] => []
  | c :: r => if c = 47 then [] else c :: headL r
def tailL : List UInt8 → List UInt8
  | [] => []
  | c :: r => if c = 47 then r else tailL r

theorem tail_len : ∀ r : List UInt8, (tailL r).length ≤ r.length
  | [] => Nat.le_refl _
  | c :: r => by
    unfold tailL
    split
    · simp
    · have := tail_len r; simp only [List.length_cons]; omega
theorem tail_less (r : List UInt8) (h : r ≠ []) : (tailL r).length < r.length := by
  cases r with
  | nil => exact absurd rfl h
  | cons c r =>
    unfold tailL
    split
    · simp
    · have := tail_len r; simp only [List.length_cons]; omega
theorem head_len : ∀ r : List UInt8, (headL r).length ≤ r.length
  | [] => Nat.le_refl _
  | c :: r => by
    unfold headL
    split
    · simp
    · have := head_len r; simp only [List.length_cons]; omega

theorem go_step : ∀ (r cur : List UInt8), partsGo cur r = (if cur ++ headL r = [] then [] else [cur ++ headL r]) ++ partsL (tailL r)
  | [], cur => by simp [partsGo, headL, tailL, partsL]
  | c :: r, cur => by
    by_cases hc : c = 47
    · subst hc
      by_cases h : cur = []
      · simp [partsGo, headL, tailL, partsL, h]
      · simp [partsGo, headL, tailL, partsL, h]
    · have ih := go_step r (cur ++ [c])
      simp only [partsGo, headL, tailL, if_neg hc]
      rw [ih]
      simp
theorem parts_step (r : List UInt8) : partsL r = (if headL r = [] then [] else [headL r]) ++ partsL (tailL r) := go_step r []

theorem cut_none : ∀ (r : List UInt8), Lib.indexByte r 47 = -1 → headL r = r ∧ tailL r = []
  | [], _ => ⟨rfl, rfl⟩
  | c :: r, h => by
    have hn := Lib.indexByte_none h
    have hc : c ≠ 47 := fun e => hn 0 (by rw [e]; rfl)
    have hr : Lib.indexByte r 47 = -1 := by
      unfold Lib.indexByte at h
      rw [if_neg (by simpa using hc)] at h
      split at h
      · rename_i h1; simpa using h1
      · have := Lib.indexByte_ge r 47; omega
    have ih := cut_none r hr
    simp only [headL, tailL, if_neg hc]
    exact ⟨by rw [ih.1], ih.2⟩
theorem cut_at : ∀ (r : List UInt8) (i : Nat), Lib.indexByte r 47 = (i : Int) → i < r.length ∧ headL r = r.take i ∧ tailL r = r.drop (i + 1)
  | [], i, h => by
    simp only [Lib.indexByte] at h
    omega
  | c :: r, i, h => by
    unfold Lib.indexByte at h
    by_cases hc : c = 47
    · rw [if_pos (by simpa using hc)] at h
      obtain rfl : i = 0 := by omega
      simp [headL, tailL, hc]
    · rw [if_neg (by simpa using hc)] at h
      split at h
      · omega
      · rename_i hne
        have hge := Lib.indexByte_ge r 47
        have hne' : Lib.indexByte r 47 ≠ -1 := fun e => hne (by simpa using e)
        obtain ⟨j, rfl⟩ : ∃ j, i = j + 1 := ⟨i - 1, by omega⟩
        have ih := cut_at r j (by push_cast at h; omega)
        simp only [headL, tailL, if_neg hc]
        refine ⟨by simp only [List.length_cons]; omega, by rw [ih.2.1]; rfl, by rw [ih.2.2]; rfl⟩

theorem index_cases (r : List UInt8) : Lib.indexByte r 47 = -1 ∨ ∃ i : Nat, Lib.indexByte r 47 = (i : Int) := by
  have := Lib.indexByte_ge r 47
  by_cases h : Lib.indexByte r 47 = -1
  · exact Or.inl h
  · exact Or.inr ⟨(Lib.indexByte r 47).toNat, by omega⟩

set_option maxHeartbeats 1000000 in
theorem lite_any (s : ByteArray) (c : Int) (w : World) :
    Calls Tryz.prog 93 #[.string s, .int .u8 c] w fun e w' => e = .returned (.int .i64 (Lib.indexByte s.data.toList c.toNat.toUInt8)) ∧ w = w' := by
  go_enter Tryz.func93, Tryz.ntmps93
  go_wp2_with fail
  rw [run_callFunc_extern Tryz.func112 (by kernel_rfl) (by kernel_rfl) (by kernel_rfl) (e := Extern.BytealgIndexByte.indexByte) (by kernel_rfl), Lib.run_indexByteString]
  simp only [Result.andThen]
  rw [Oper.upon_value]
  go_wp2_with fail
  go_ret
  exact ⟨rfl, rfl⟩


set_option maxHeartbeats 1000000 in
theorem index_slash (s : ByteArray) (w : World) :
    Calls Tryz.prog 69 #[.string s, .string ⟨#[47]⟩] w fun e w' => e = .returned (.int .i64 (Lib.indexByte s.data.toList 47)) ∧ w = w' := by
  go_enter Tryz.func69, Tryz.ntmps69
  go_wp2_with (go_at_call 93; refine (lite_any _ _ _).mono ?_; rintro e w' ⟨rfl, rfl⟩)
  · rename_i h
    go_ret
    refine ⟨?_, rfl⟩
    have e : s.data.toList = [47] := by
      have h' := beq_iff_eq.1 h
      rw [ByteArray.toList_eq] at h'
      exact h'.symm
    rw [e]
    rfl
  · go_ret
    exact ⟨rfl, rfl⟩
end Go.Proofs.YtclhpedecimicaaGreat

namespace Go.Proofs.YtclhpedecimicaaGreat
set_option maxRecDepth 100000
open Go Go.RowKit

/-- A world that differs from another in how often order was drawn alone. -/
def Drawn (w w' : World) : Prop := ∃ n, w' = w.drewN n

theorem cut_strs (s : ByteArray) (i : Nat) (h : Lib.indexByte s.data.toList 47 = (i : Int)) :
    Value.string (s.extract 0 i) = .string ⟨(headL s.data.toList).toArray⟩ ∧ Value.string (s.extract (i + 1) s.size) = .string ⟨(tailL s.data.toList).toArray⟩ := by
  obtain ⟨_, h1, h2⟩ := cut_at _ _ h
  rw [extract_val, extract_val, h1, h2]
  refine ⟨rfl, ?_⟩
  unfold strv
  rw [List.take_of_length_le (by rw [size_list]; exact Nat.le_refl _)]

set_option maxRecDepth 100000 in
set_option maxHeartbeats 2000000 in
theorem litecut_any (s : ByteArray) (hs : s.size ≤ 1073741824) (w : World) :
    Calls Tryz.prog 51 #[.string s, .string ⟨#[47]⟩] w fun e w' => (∃ b, e = .returned (.tuple #[.string ⟨(headL s.data.toList).toArray⟩, .string ⟨(tailL s.data.toList).toArray⟩, .bool b])) ∧ Drawn w w' := by
  rcases index_cases s.data.toList with hix | ⟨i, hix⟩
  · obtain ⟨h1, h2⟩ := cut_none _ hix
    rw [h1, h2]
    have HI := Lib.hid hix
    clear hix h1 h2
    go_enter Tryz.func51, Tryz.ntmps51
    go_wp2_with (go_at_call 69; refine (index_slash _ _).mono ?_; rintro e w' ⟨rfl, rfl⟩; rw [HI.out])
    go_ret3
    exact ⟨⟨false, rfl⟩, 0, rfl⟩
  · obtain ⟨hi, -, -⟩ := cut_at _ _ hix
    rw [size_list] at hi
    obtain ⟨h1, h2⟩ := cut_strs s i hix
    rw [← h1, ← h2]
    have c1 : (0 : Int) ≤ ↑i := by omega
    have c2 : (↑i : Int) ≤ ↑s.size := by omega
    have c3 : (0 : Int) ≤ ↑i + 1 := by omega
    have c4 : (↑i + 1 : Int) ≤ ↑s.size := by omega
    have HI := Lib.hid hix
    clear hix h1 h2
    go_enter Tryz.func51, Tryz.ntmps51
    go_wp2_with (go_at_call 69; refine (index_slash _ _).mono ?_; rintro e w' ⟨rfl, rfl⟩; rw [HI.out])
    go_region
    go_wp2_with fail
    go_ret3
    exact ⟨⟨true, rfl⟩, 1, rfl⟩

set_option maxHeartbeats 1000000 in
theorem cut_any (s : ByteArray) (hs : s.size ≤ 1073741824) (w : World) :
    Calls Tryz.prog 36 #[.string s, .string ⟨#[47]⟩] w fun e w' => (∃ b, e = .returned (.tuple #[.string ⟨(headL s.data.toList).toArray⟩, .string ⟨(tailL s.data.toList).toArray⟩, .bool b])) ∧ Drawn w w' := by
  go_enter Tryz.func36, Tryz.ntmps36
  go_wp2_with (go_at_call 51; refine (litecut_any _ hs _).mono ?_; rintro e w' ⟨⟨b, rfl⟩, hd⟩)
  go_ret3
  exact ⟨⟨b, rfl⟩, hd⟩
end Go.Proofs.YtclhpedecimicaaGreat
