/-
  The reference's Used: how many inodes are used, how many bytes.
  strings.IndexByte, strings.Index and strings.Cut at a text of one slash: what stands ahead of the first slash, and what behind it.
  strings.Cut at a text of one slash.
  strings.HasPrefix and strings.HasSuffix at a slash.
-/
import Derived.Test.YtfmaagcomplooaaK1
import Derived.Lib.Bytealg
import Derived.Lib.IndexLaws
import Derived.Lib.Strings
import Derived.Deep.Draws
import Derived.Laws.Strings3
import Derived.BigRegion
namespace Go.Proofs.Ytfmaagcomplooaa
set_option maxRecDepth 100000
open Go Go.RowKit

set_option maxHeartbeats 1000000 in
theorem rused_any (a : Option Addr) (cap : Nat) (m b : Int) (L : List Ino) (hL : L.length ≤ 1000) (hB : usedB L ≤ 1099511627776) (w : World) (hN : NodesIn w a cap L) :
    Calls Try.prog 24 #[.agg #[.slice a L.length cap, .int .i64 m, .int .i64 b]] w fun e w' => e = .returned (.tuple #[.int .i64 (usedN L), .int .i64 (usedB L)]) ∧ Below w.heap.size w w' := by
  have hb1 := below_box w (.cells #[.slice a L.length cap, .int .i64 m, .int .i64 b] 24)
  have hM := hN.below hb1
  have HM := Lib.hid hM
  clear hM hN
  go_enter Try.func24, Try.ntmps24
  go_wp2_with fail
  go_loop [4, 5, 6] (fun n b i => ∃ k : Nat, k ≤ L.length ∧ i = .int .i64 k ∧ n = .int .i64 (usedN (L.take k)) ∧ b = .int .i64 (usedB (L.take k))) (fun _ _ i => L.length - (intOf i).toNat)
  case atStart => exact ⟨0, by omega, rfl, rfl, rfl⟩
  case round =>
    obtain ⟨k, hk, rfl, rfl, rfl⟩ := hrel
    by_cases hlt : k < L.length
    · obtain ⟨bb, o, rfl, hx⟩ := HM.out.2.2 k hlt
      have h1 := hx.kind
      have h2 := hx.data
      have hs := str_len L[k].data
      have hu1 := usedN_take L k
      have hu2 := usedB_take L (k + 1)
      have hn1 := usedN_snoc (L.take k) L[k]
      have hn2 := usedB_snoc (L.take k) L[k]
      rw [← List.take_succ_eq_append_getElem hlt] at hn1 hn2
      cases hz : (L[k].kind != 0) with
      | true =>
        have hz' : L[k].kind ≠ 0 := by simpa using hz
        rw [if_neg hz'] at hn1
        have H1 := Lib.hid hn1
        have H2 := Lib.hid hn2
        have hb2 : usedB (L.take k) + L[k].data.length ≤ 1099511627776 := by omega
        clear hn1 hn2 hu2 hz'
        go_wp2_with fail
        go_round
        case rel => exact ⟨k + 1, by omega, by go_num, by rw [H1.out]; go_num, by rw [H2.out]; go_num⟩
        case measure => simp [intOf] <;> omega
      | false =>
        have hz' : L[k].kind = 0 := by simpa using hz
        rw [if_pos hz'] at hn1
        have H1 := Lib.hid hn1
        have H2 := Lib.hid hn2
        have hb2 : usedB (L.take k) + L[k].data.length ≤ 1099511627776 := by omega
        clear hn1 hn2 hu2 hz'
        go_wp2_with fail
        go_round
        case rel => exact ⟨k + 1, by omega, by go_num, by rw [H1.out]; rfl, by rw [H2.out]; go_num⟩
        case measure => simp [intOf] <;> omega
    · go_wp2_with fail
      go_ret2
      rw [List.take_of_length_le (by omega)]
      exact ⟨rfl, below_box _ _⟩
end Go.Proofs.Ytfmaagcomplooaa

namespace Go.Proofs.Ytfmaagcomplooaa
set_option maxRecDepth 100000
open Go Go.RowKit

/-- What stands ahead of the first slash; what stands behind it. -/
def headL : List UInt8 → List UInt8
  | [] => []
  | c :: r => if c = 47 then [] else c :: headL r
def tailL : List UInt8 → List UInt8
  | [] => []
  | c :: r => if c = 47 then r else tailL r

theorem tail_len : ∀ r : List UInt8, (tailL r).length ≤ r.length
  | [] => Nat.le_refl _
  | c :: r => by
    unfold tailL
    split
    · simp
    · have := tail_len r; simp only [List.length_cons]; omega
theorem tail_less (r : List UInt8) (h : r ≠ []) : (tailL r).length < r.length := by
  cases r with
  | nil => exact absurd rfl h
  | cons c r =>
    unfold tailL
    split
    · simp
    · have := tail_len r; simp only [List.length_cons]; omega
theorem head_len : ∀ r : List UInt8, (headL r).length ≤ r.length
  | [] => Nat.le_refl _
  | c :: r => by
    unfold headL
    split
    · simp
    · have := head_len r; simp only [List.length_cons]; omega

theorem go_step : ∀ (r cur : List UInt8), partsGo cur r = (if cur ++ headL r = [] then [] else [cur ++ headL r]) ++ partsL (tailL r)
  | [], cur => by simp [partsGo, headL, tailL, partsL]
  | c :: r, cur => by
    by_cases hc : c = 47
    · subst hc
      by_cases h : cur = []
      · simp [partsGo, headL, tailL, partsL, h]
      · simp [partsGo, headL, tailL, partsL, h]
    · have ih := go_step r (cur ++ [c])
      simp only [partsGo, headL, tailL, if_neg hc]
      rw [ih]
      simp
theorem parts_step (r : List UInt8) : partsL r = (if headL r = [] then [] else [headL r]) ++ partsL (tailL r) := go_step r []

theorem cut_none : ∀ (r : List UInt8), Lib.indexByte r 47 = -1 → headL r = r ∧ tailL r = []
  | [], _ => ⟨rfl, rfl⟩
  | c :: r, h => by
    have hn := Lib.indexByte_none h
    have hc : c ≠ 47 := fun e => hn 0 (by rw [e]; rfl)
    have hr : Lib.indexByte r 47 = -1 := by
      unfold Lib.indexByte at h
      rw [if_neg (by simpa using hc)] at h
      split at h
      · rename_i h1; simpa using h1
      · have := Lib.indexByte_ge r 47; omega
    have ih := cut_none r hr
    simp only [headL, tailL, if_neg hc]
    exact ⟨by rw [ih.1], ih.2⟩
theorem cut_at : ∀ (r : List UInt8) (i : Nat), Lib.indexByte r 47 = (i : Int) → i < r.length ∧ headL r = r.take i ∧ tailL r = r.drop (i + 1)
  | [], i, h => by
    simp only [Lib.indexByte] at h
    omega
  | c :: r, i, h => by
    unfold Lib.indexByte at h
    by_cases hc : c = 47
    · rw [if_pos (by simpa using hc)] at h
      obtain rfl : i = 0 := by omega
      simp [headL, tailL, hc]
    · rw [if_neg (by simpa using hc)] at h
      split at h
      · omega
      · rename_i hne
        have hge := Lib.indexByte_ge r 47
        have hne' : Lib.indexByte r 47 ≠ -1 := fun e => hne (by simpa using e)
        obtain ⟨j, rfl⟩ : ∃ j, i = j + 1 := ⟨i - 1, by omega⟩
        have ih := cut_at r j (by push_cast at h; omega)
        simp only [headL, tailL, if_neg hc]
        refine ⟨by simp only [List.length_cons]; omega, by rw [ih.2.1]; rfl, by rw [ih.2.2]; rfl⟩

theorem index_cases (r : List UInt8) : Lib.indexByte r 47 = -1 ∨ ∃ i : Nat, Lib.indexByte r 47 = (i : Int) := by
  have := Lib.indexByte_ge r 47
  by_cases h : Lib.indexByte r 47 = -1
  · exact Or.inl h
  · exact Or.inr ⟨(Lib.indexByte r 47).toNat, by omega⟩

set_option maxHeartbeats 1000000 in
theorem lite_any (s : ByteArray) (c : Int) (w : World) :
    Calls Try.prog 51 #[.string s, .int .u8 c] w fun e w' => e = .returned (.int .i64 (Lib.indexByte s.data.toList c.toNat.toUInt8)) ∧ w = w' := by
  go_enter Try.func51, Try.ntmps51
  go_wp2_with fail
  rw [run_callFunc_extern Try.func67 (by kernel_rfl) (by kernel_rfl) (by kernel_rfl) (e := Extern.BytealgIndexByte.indexByte) (by kernel_rfl), Lib.run_indexByteString]
  simp only [Result.andThen]
  rw [Oper.upon_value]
  go_wp2_with fail
  go_ret
  exact ⟨rfl, rfl⟩

set_option maxHeartbeats 1000000 in
theorem ibyte_any (s : ByteArray) (c : Int) (w : World) :
    Calls Try.prog 30 #[.string s, .int .u8 c] w fun e w' => e = .returned (.int .i64 (Lib.indexByte s.data.toList c.toNat.toUInt8)) ∧ w = w' := by
  go_enter Try.func30, Try.ntmps30
  go_wp2_with fail
  refine (lite_any _ _ _).mono ?_
  rintro e w' ⟨rfl, rfl⟩
  go_wp2_with fail
  go_ret
  exact ⟨rfl, rfl⟩

set_option maxHeartbeats 1000000 in
theorem index_slash (s : ByteArray) (w : World) :
    Calls Try.prog 98 #[.string s, .string ⟨#[47]⟩] w fun e w' => e = .returned (.int .i64 (Lib.indexByte s.data.toList 47)) ∧ w = w' := by
  go_enter Try.func98, Try.ntmps98
  go_wp2_with (go_at_call 51; refine (lite_any _ _ _).mono ?_; rintro e w' ⟨rfl, rfl⟩)
  · rename_i h
    go_ret
    refine ⟨?_, rfl⟩
    have e : s.data.toList = [47] := by
      have h' := beq_iff_eq.1 h
      rw [ByteArray.toList_eq] at h'
      exact h'.symm
    rw [e]
    rfl
  · go_ret
    exact ⟨rfl, rfl⟩
end Go.Proofs.Ytfmaagcomplooaa

namespace Go.Proofs.Ytfmaagcomplooaa
set_option maxRecDepth 100000
open Go Go.RowKit

/-- A world that differs from another in how often order was drawn alone. -/
def Drawn (w w' : World) : Prop := ∃ n, w' = w.drewN n

theorem cut_strs (s : ByteArray) (i : Nat) (h : Lib.indexByte s.data.toList 47 = (i : Int)) :
    Value.string (s.extract 0 i) = .string ⟨(headL s.data.toList).toArray⟩ ∧ Value.string (s.extract (i + 1) s.size) = .string ⟨(tailL s.data.toList).toArray⟩ := by
  obtain ⟨_, h1, h2⟩ := cut_at _ _ h
  rw [extract_val, extract_val, h1, h2]
  refine ⟨rfl, ?_⟩
  unfold strv
  rw [List.take_of_length_le (by rw [size_list]; exact Nat.le_refl _)]

set_option maxRecDepth 100000 in
set_option maxHeartbeats 2000000 in
theorem litecut_any (s : ByteArray) (hs : s.size ≤ 1073741824) (w : World) :
    Calls Try.prog 96 #[.string s, .string ⟨#[47]⟩] w fun e w' => (∃ b, e = .returned (.tuple #[.string ⟨(headL s.data.toList).toArray⟩, .string ⟨(tailL s.data.toList).toArray⟩, .bool b])) ∧ Drawn w w' := by
  rcases index_cases s.data.toList with hix | ⟨i, hix⟩
  · obtain ⟨h1, h2⟩ := cut_none _ hix
    rw [h1, h2]
    have HI := Lib.hid hix
    clear hix h1 h2
    go_enter Try.func96, Try.ntmps96
    go_wp2_with (go_at_call 98; refine (index_slash _ _).mono ?_; rintro e w' ⟨rfl, rfl⟩; rw [HI.out])
    go_ret3
    exact ⟨⟨false, rfl⟩, 0, rfl⟩
  · obtain ⟨hi, -, -⟩ := cut_at _ _ hix
    rw [size_list] at hi
    obtain ⟨h1, h2⟩ := cut_strs s i hix
    rw [← h1, ← h2]
    have c1 : (0 : Int) ≤ ↑i := by omega
    have c2 : (↑i : Int) ≤ ↑s.size := by omega
    have c3 : (0 : Int) ≤ ↑i + 1 := by omega
    have c4 : (↑i + 1 : Int) ≤ ↑s.size := by omega
    have HI := Lib.hid hix
    clear hix h1 h2
    go_enter Try.func96, Try.ntmps96
    go_wp2_with (go_at_call 98; refine (index_slash _ _).mono ?_; rintro e w' ⟨rfl, rfl⟩; rw [HI.out])
    go_region
    go_wp2_with fail
    go_ret3
    exact ⟨⟨true, rfl⟩, 1, rfl⟩

set_option maxHeartbeats 1000000 in
theorem cut_any (s : ByteArray) (hs : s.size ≤ 1073741824) (w : World) :
    Calls Try.prog 93 #[.string s, .string ⟨#[47]⟩] w fun e w' => (∃ b, e = .returned (.tuple #[.string ⟨(headL s.data.toList).toArray⟩, .string ⟨(tailL s.data.toList).toArray⟩, .bool b])) ∧ Drawn w w' := by
  go_enter Try.func93, Try.ntmps93
  go_wp2_with (go_at_call 96; refine (litecut_any _ hs _).mono ?_; rintro e w' ⟨⟨b, rfl⟩, hd⟩)
  go_ret3
  exact ⟨⟨b, rfl⟩, hd⟩
end Go.Proofs.Ytfmaagcomplooaa

namespace Go.Proofs.Ytfmaagcomplooaa
set_option maxRecDepth 100000
open Go Go.RowKit

theorem str_eta (s : ByteArray) (l : List UInt8) (h : s.data.toList = l) : Value.string s = .string ⟨l.toArray⟩ := by
  subst h
  rfl
theorem list_ne (s : ByteArray) (h : 0 < s.size) : s.data.toList ≠ [] := by
  intro e
  have := size_list s
  rw [e] at this
  simp at this
  omega
theorem last_byte (s : ByteArray) (h : 0 < s.size) : s.data.toList.getLast? = some (s[s.size - 1]'(by omega)) := by
  rw [List.getLast?_eq_getElem?, size_list, List.getElem?_eq_getElem (by rw [size_list]; omega)]
  rfl
theorem cat_two (a b : ByteArray) : (a ++ b).data.toList = a.data.toList ++ b.data.toList := by
  rcases a with ⟨⟨x⟩⟩
  rcases b with ⟨⟨y⟩⟩
  rw [ByteArray.mk_append_mk]

theorem pre_eq (s : ByteArray) : ((s.extract 0 1).toList == [47]) = wholeL s.data.toList := by
  rw [ByteArray.toList_eq, extract_list]
  cases h : s.data.toList with
  | nil => rfl
  | cons c r =>
    simp only [wholeL, List.take_succ_cons, List.take_zero, List.drop_zero]
    by_cases hc : c = 47 <;> simp [hc]
def endL (l : List UInt8) : Bool := l.getLast? == some 47
theorem suf_eq (s : ByteArray) : ((s.extract (s.size - 1) s.size).toList == [47]) = endL s.data.toList := by
  rw [ByteArray.toList_eq, extract_list, ← size_list, List.take_length]
  unfold endL
  by_cases h : s.data.toList = []
  · rw [h]
    rfl
  · obtain ⟨L, x, hx⟩ : ∃ L x, s.data.toList = L ++ [x] := ⟨s.data.toList.dropLast, s.data.toList.getLast h, (List.dropLast_concat_getLast h).symm⟩
    rw [hx]
    simp only [List.length_append, List.length_cons, List.length_nil, Nat.zero_add, Nat.add_sub_cancel, List.drop_left, List.getLast?_concat]
    by_cases hc : x = 47 <;> simp [hc]

theorem none_pre (s : ByteArray) (h : ¬ 1 ≤ s.size) : wholeL s.data.toList = false := by
  have h0 : s.data.toList.length = 0 := by rw [size_list]; omega
  rw [List.length_eq_zero_iff.1 h0]
  rfl
theorem none_suf (s : ByteArray) (h : ¬ 1 ≤ s.size) : endL s.data.toList = false := by
  have h0 : s.data.toList.length = 0 := by rw [size_list]; omega
  rw [List.length_eq_zero_iff.1 h0]
  rfl

set_option maxHeartbeats 1000000 in
theorem litepre_any (s : ByteArray) (w : World) : Calls Try.prog 86 #[.string s, .string ⟨#[47]⟩] w fun e w' => e = .returned (.bool (wholeL s.data.toList)) ∧ w = w' := by
  by_cases h : 1 ≤ s.size
  · rw [← pre_eq]
    go_enter Try.func86, Try.ntmps86
    go_wp2_with fail
    go_ret
    exact ⟨rfl, rfl⟩
  · rw [none_pre s h]
    obtain h0 : s.size = 0 := by omega
    go_enter Try.func86, Try.ntmps86
    go_wp2_with fail
    go_ret
    exact ⟨rfl, rfl⟩
set_option maxHeartbeats 1000000 in
theorem litesuf_any (s : ByteArray) (hs : s.size ≤ 1073741824) (w : World) : Calls Try.prog 72 #[.string s, .string ⟨#[47]⟩] w fun e w' => e = .returned (.bool (endL s.data.toList)) ∧ w = w' := by
  by_cases h : 1 ≤ s.size
  · rw [← suf_eq]
    go_enter Try.func72, Try.ntmps72
    go_wp2_with fail
    go_ret
    exact ⟨rfl, rfl⟩
  · rw [none_suf s h]
    obtain h0 : s.size = 0 := by omega
    go_enter Try.func72, Try.ntmps72
    go_wp2_with fail
    go_ret
    exact ⟨rfl, rfl⟩

set_option maxHeartbeats 1000000 in
theorem hassuf_known (s : ByteArray) (hs : s.size ≤ 1073741824) (b : Bool) (h : endL s.data.toList = b) (w : World) : Calls Try.prog 57 #[.string s, .string ⟨#[47]⟩] w fun e w' => e = .returned (.bool b) ∧ w = w' := by
  subst h
  go_enter Try.func57, Try.ntmps57
  go_wp2_with (go_at_call 72; refine (litesuf_any _ hs _).mono ?_; rintro e w' ⟨rfl, rfl⟩)
  go_ret
  exact ⟨rfl, rfl⟩
end Go.Proofs.Ytfmaagcomplooaa
