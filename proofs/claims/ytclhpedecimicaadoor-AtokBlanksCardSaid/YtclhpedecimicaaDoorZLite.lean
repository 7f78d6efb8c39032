/-
  The landed code's blanks, operator, first, based: walked.
-/
import Derived.Deep.MidRow
import Derived.Deep.Cut
import Derived.Test.YtclhpedecimicaaDoorShelf
import Derived.Test.YtclhpedecimicaaDoorZNums
namespace Go.Proofs.YtclhpedecimicaaDoor
set_option maxRecDepth 100000
open Go Go.RowKit

abbrev sv (l : List UInt8) : Value := .string ⟨l.toArray⟩
theorem sv_size (l : List UInt8) : (⟨l.toArray⟩ : ByteArray).size = l.length := by show l.toArray.size = _; simp
theorem size_data (b : ByteArray) : b.data.toList.length = b.size := Array.length_toList
theorem sv_data (b : ByteArray) : (⟨b.data.toList.toArray⟩ : ByteArray) = b := by cases b; simp
theorem below_two {A B C : World} (h : Below A.heap.size A B) (k : Below B.heap.size B C) : Below A.heap.size A C := h.trans (k.mono h.size)

theorem set_blk : (fun c : UInt8 => [32, 9, 10].contains c) = blkZ := by
  funext c
  have h : ∀ n : Nat, n < 256 → [32, 9, 10].contains (UInt8.ofNat n) = blkZ (UInt8.ofNat n) := by decide
  have := h c.toNat c.toNat_lt
  simpa using this
theorem trim_blk (l : List UInt8) : Lib.trimLeftS l [32, 9, 10] = l.dropWhile blkZ := by
  unfold Lib.trimLeftS
  rw [set_blk]
theorem while_len (q : UInt8 → Bool) (l : List UInt8) : (l.takeWhile q).length + (l.dropWhile q).length = l.length := by
  rw [← List.length_append, List.takeWhile_append_dropWhile]

set_option maxHeartbeats 1000000 in
theorem lblanks (s : ByteArray) (hs : s.size ≤ 1000000) (w : World) : Calls Tryd.prog 24 #[.string s] w fun e w' => e = .returned (.int .i64 ((s.data.toList.takeWhile blkZ).length : Nat)) ∧ Below w.heap.size w w' := by
  have C := Tryd.strings_TrimLeft_set s ⟨#[32, 9, 10]⟩
  have e1 := trim_blk s.data.toList
  have hl := while_len blkZ s.data.toList
  rw [size_data] at hl
  obtain ⟨R, hR⟩ : ∃ R, R = s.data.toList.dropWhile blkZ := ⟨_, rfl⟩
  obtain ⟨n, hn⟩ : ∃ n, n = (s.data.toList.takeWhile blkZ).length := ⟨_, rfl⟩
  rw [← hn, ← hR] at hl
  rw [← hn]
  have hz := sv_size R
  have HC := Lib.hid (fun W => (C W (by decide) (by decide)).mono (fun e W' (h : e = .returned (.string ⟨(Lib.trimLeftS s.data.toList [32, 9, 10]).toArray⟩) ∧ Below W.heap.size W W') => (show e = .returned (sv R) ∧ Below W.heap.size W W' from ⟨by rw [h.1, e1, ← hR], h.2⟩)))
  clear C e1 hR hn
  have hA : (s.size : Int) - ((R.length : Nat) : Int) = (n : Int) := by omega
  have h0 : (R.length : Int) ≤ s.size := by omega
  have h1 : (s.size : Int) ≤ 1000000 := by omega
  go_enter Tryd.func24, Tryd.ntmps24
  go_wp2_with fail
  refine (HC.out _).mono ?_
  rintro e w1 ⟨rfl, hb⟩
  go_wp2_with fail
  go_ret
  exact ⟨by first | rfl | rw [hA] | (congr 2; omega), hb⟩

/-! ### The operators -/
def opsC : List Value := opsZ.map sv
/-- The table of operators, as the row's condition lays it. -/
structure Ops (W : World) : Prop where
  cells : ∀ i v, opsC[i]? = some v → W.cell? ⟨0, i, none⟩ = some v
theorem Ops.below {W W' : World} {n : Nat} (h : Ops W) (hb : Below n W W') (hn : W.heap.size ≤ n) : Ops W' := by
  refine ⟨fun i v hv => ?_⟩
  have hc := h.cells i v hv
  have hlt : 0 < W.heap.size := by
    unfold World.cell? at hc
    cases hb : W.heap[0]? with
    | none => rw [hb] at hc; cases hc
    | some o => exact (Array.getElem?_eq_some_iff.1 hb).1
  rw [World.cell?_of_block (hb.block _ (Nat.lt_of_lt_of_le hlt hn))]
  exact hc
theorem find_at {α : Type} (q : α → Bool) : ∀ (L : List α) (k : Nat) (x : α), (∀ j y, j < k → L[j]? = some y → q y = false) → L[k]? = some x → q x = true → L.find? q = some x
  | [], _, _, _, h, _ => by simp at h
  | y :: L, 0, x, _, h, hx => by
    have e : y = x := by simpa using h
    subst e
    exact List.find?_cons_of_pos hx
  | y :: L, k + 1, x, hn, h, hx => by
    rw [List.find?_cons_of_neg (by rw [hn 0 y (by omega) rfl]; decide)]
    exact find_at q L k x (fun j z hj hz => hn (j + 1) z (by omega) (by simpa using hz)) (by simpa using h) hx
theorem find_no {α : Type} (q : α → Bool) : ∀ (L : List α), (∀ (j : Nat) y, L[j]? = some y → q y = false) → L.find? q = none
  | [], _ => rfl
  | y :: L, hn => by
    rw [List.find?_cons_of_neg (by rw [hn 0 y rfl]; decide)]
    exact find_no q L (fun j z hz => hn (j + 1) z (by simpa using hz))
theorem op_at {l o : List UInt8} {k : Nat} (hn : ∀ j y, j < k → opsZ[j]? = some y → Lib.hasPrefix l y = false) (h : opsZ[k]? = some o) (ho : Lib.hasPrefix l o = true) : opZ l = o := by
  unfold opZ
  rw [show opsZ.find? (fun o => o.isPrefixOf l) = some o from find_at _ opsZ k o hn h ho]; rfl
theorem op_no {l : List UInt8} (hn : ∀ (j : Nat) y, opsZ[j]? = some y → Lib.hasPrefix l y = false) : opZ l = [] := by
  unfold opZ
  rw [show opsZ.find? (fun o => o.isPrefixOf l) = none from find_no _ opsZ hn]; rfl
theorem ops_len : opsZ.length = 35 := rfl
theorem ops_val {k : Nat} {o : List UInt8} (h : opsZ[k]? = some o) : opsC[k]? = some (sv o) := by
  unfold opsC; rw [List.getElem?_map, h]; rfl

theorem run_index_ops {T : List Value} {k : Nat} {u : Value} (hk : k < 35) (h : T[k]? = some u) (w : World) : (Instr.index 75 (.agg T.toArray) (.int .i64 k)).run Tryd.prog w = .ok u w := by
  have hn : 0 ≤ (k : Int) ∧ (k : Int) < 35 := by omega
  simp [Instr.index, run_underlying Tryd.underlying75, asIntOf, hn, go_sem, part, Tryd.isAgg9, Tryd.sizeOf9, h]
  exact fun h35 => absurd h35 (by omega)
set_option maxHeartbeats 2000000 in
theorem loperator (s : ByteArray) (w : World) (hO : Ops w) : Calls Tryd.prog 34 #[.string s] w fun e w' => e = .returned (sv (opZ s.data.toList)) ∧ w = w' := by
  obtain ⟨T, hT⟩ : ∃ T, T = opsC := ⟨_, rfl⟩
  have HTL := Lib.hid (show T.length = 35 by rw [hT]; rfl)
  have HG := Lib.hid (show ∀ k o, opsZ[k]? = some o → T[k]? = some (sv o) from fun k o h => by rw [hT]; exact ops_val h)
  have hR : w.rangeAt 0 0 T := fun j v hv => by rw [hT] at hv; rw [Nat.zero_add]; exact hO.cells j v hv
  clear hT hO
  go_enter Tryd.func34, Tryd.ntmps34
  go_upto_region 1 with fail
  refine wp_region_lit ?_
  refine wpList_load_mid (by rfl) 75 (.global 0) (by rfl) 0 0 (by rfl) T _ hR Tryd.underlying75 rfl (by rw [HTL.out]; kernel_rfl) ?_
  clear hR
  go_wp2_with fail
  go_loopw [6] (fun iv wr => ∃ k : Nat, k ≤ 35 ∧ iv = .int .i64 k ∧ wr = w ∧ Hid (∀ j y, j < k → opsZ[j]? = some y → Lib.hasPrefix s.data.toList y = false)) (fun iv _ => 35 - (intOf iv).toNat)
  case atStart => exact ⟨0, by omega, rfl, rfl, Lib.hid (fun j y hj => absurd hj (Nat.not_lt_zero _))⟩
  case round =>
    obtain ⟨k, hk, rfl, rfl, hn⟩ := hrel
    by_cases hlt : k < 35
    · obtain ⟨o, ho⟩ : ∃ o, opsZ[k]? = some o := ⟨_, List.getElem?_eq_getElem (by rw [ops_len]; exact hlt)⟩
      have hto := HG.out k o ho
      have hk1 : (k : Int) < 35 := by omega
      have C := Tryd.strings_HasPrefix s ⟨o.toArray⟩ wr
      have hix := run_index_ops hlt hto wr
      cases hp : Lib.hasPrefix s.data.toList o with
      | true =>
        have HE := Lib.hid (op_at hn.out ho hp)
        rw [show ((⟨o.toArray⟩ : ByteArray).data.toList) = o from rfl, hp] at C
        clear hp ho
        go_wp2_with fail
        refine C.mono ?_
        rintro e w1 ⟨rfl, rfl⟩
        go_wp2_with fail
        go_ret
        exact ⟨by rw [HE.out]; rfl, by first | rfl | trivial⟩
      | false =>
        have HN := Lib.hid (show ∀ j y, j < k + 1 → opsZ[j]? = some y → Lib.hasPrefix s.data.toList y = false from fun j y hj hy => by
          by_cases e : j = k
          · subst e
            rw [ho] at hy
            cases hy
            exact hp
          · exact hn.out j y (by omega) hy)
        rw [show ((⟨o.toArray⟩ : ByteArray).data.toList) = o from rfl, hp] at C
        clear hp ho
        go_wp2_with fail
        refine C.mono ?_
        rintro e w1 ⟨rfl, rfl⟩
        go_wp2_with fail
        go_roundw
        case rel => exact ⟨k + 1, by omega, by go_num, by first | rfl | trivial, HN⟩
        case measure => simp only [intOf]; omega
    · have hk2 : k = 35 := by omega
      subst hk2
      have HE := Lib.hid (op_no (l := s.data.toList) (fun j y hy => hn.out j y (by have := (List.getElem?_eq_some_iff.1 hy).1; rw [ops_len] at this; exact this) hy))
      go_wp2_with fail
      go_ret
      exact ⟨by rw [HE.out]; rfl, by first | rfl | trivial⟩

/-! ### The first token's bytes -/
theorem take_str (s : ByteArray) (k : Nat) : (s.extract 0 k) = ⟨(s.data.toList.take k).toArray⟩ := by
  have h : (s.extract 0 k).data.toList = s.data.toList.take k := by
    rw [ByteArray.data_extract, Array.toList_extract]
    simp
  rw [← h, sv_data]
theorem byte_at (s : ByteArray) (k : Nat) (hk : k < s.size) : s.data.toList[k]? = some s[k] := by
  rw [List.getElem?_eq_getElem (by rw [size_data]; exact hk)]
  rfl
theorem mem_while {q : UInt8 → Bool} : ∀ {l : List UInt8} {c : UInt8}, c ∈ l.takeWhile q → q c = true
  | [], c, h => by cases h
  | d :: l, c, h => by
    cases hd : q d with
    | false => rw [List.takeWhile_cons_of_neg (by rw [hd]; decide)] at h; cases h
    | true =>
      rw [List.takeWhile_cons_of_pos hd] at h
      rcases List.mem_cons.1 h with rfl | h
      · exact hd
      · exact mem_while h
/-- The first k bytes are a word's. -/
theorem take_more {q : UInt8 → Bool} {l : List UInt8} {k : Nat} {c : UInt8} (h : (l.take k).takeWhile q = l.take k) (hc : l[k]? = some c) (hq : q c = true) : (l.take (k + 1)).takeWhile q = l.take (k + 1) := by
  refine take_all fun d hd => ?_
  rw [List.take_add_one, hc] at hd
  simp only [Option.toList_some, List.mem_append, List.mem_singleton] at hd
  rcases hd with hd | rfl
  · rw [← h] at hd
    exact mem_while hd
  · exact hq
theorem take_end {q : UInt8 → Bool} {l : List UInt8} {k : Nat} (h : (l.take k).takeWhile q = l.take k) (hc : ∀ c, l[k]? = some c → q c = false) : l.takeWhile q = l.take k := by
  have h2 : ∀ c ∈ l.take k, q c = true := fun c hm => by rw [← h] at hm; exact mem_while hm
  cases hd : l.drop k with
  | nil =>
    have e := List.take_append_drop k l
    rw [hd, List.append_nil] at e
    rw [e] at h2 ⊢
    exact take_all h2
  | cons c r =>
    have e := List.take_append_drop k l
    rw [hd] at e
    have hc2 : l[k]? = some c := by
      have h3 : (l.drop k)[0]? = some c := by rw [hd]; rfl
      rw [List.getElem?_drop] at h3
      simpa using h3
    conv => lhs; rw [← e]
    exact take_until h2 (hc c hc2)
theorem first_word {l : List UInt8} {k : Nat} (h : l.takeWhile folB = l.take k) (hk : 0 < k) (hl : k ≤ l.length) : firstZ l = l.take k := by
  unfold firstZ
  rw [h, if_neg (by intro e; have := congrArg List.length e; rw [List.length_take, List.length_nil] at this; omega)]
theorem first_op {l : List UInt8} (h : l.takeWhile folB = l.take 0) : firstZ l = opZ l := by
  unfold firstZ
  rw [h, List.take_zero, if_pos rfl]

set_option maxHeartbeats 2000000 in
theorem lfirst (s : ByteArray) (hs : s.size ≤ 1000000) (w : World) (hO : Ops w) : Calls Tryd.prog 25 #[.string s] w fun e w' => e = .returned (sv (firstZ s.data.toList)) ∧ w = w' := by
  have HO := Lib.hid hO
  have HSL := Lib.hid (size_data s)
  clear hO
  go_enter Tryd.func25, Tryd.ntmps25
  go_wp2_with fail
  go_loopw [3] (fun iv wr => ∃ k : Nat, k ≤ s.size ∧ iv = .int .i64 k ∧ wr = w ∧ Hid ((s.data.toList.take k).takeWhile folB = s.data.toList.take k)) (fun iv _ => s.size - (intOf iv).toNat)
  case atStart => exact ⟨0, by omega, rfl, rfl, Lib.hid (by simp)⟩
  case round =>
    obtain ⟨k, hk, rfl, rfl, hn⟩ := hrel
    by_cases hlt : k < s.size
    · have hB := Lib.hid (byte_at s k hlt)
      have hmore := fun hq => Lib.hid (take_more hn.out hB.out hq)
      have hstop := fun hq => Lib.hid (take_end hn.out (fun c hc => by rw [hB.out] at hc; cases hc; exact hq))
      have c1 := begins_any (s[k].toNat : Int)
      have c2 := digit_any (s[k].toNat : Int)
      cases hb : begB (s[k].toNat : Int) with
      | true =>
        have HM := hmore (by simp [folB, hb])
        rw [hb] at c1
        clear hmore hstop hb
        go_wp2_with (go_at_call 32; refine (c1 _).mono ?_; rintro e w' ⟨rfl, rfl⟩)
        all_goals
          go_roundw
          case rel => exact ⟨k + 1, by omega, by go_num, by first | rfl | trivial, HM⟩
          case measure => simp only [intOf]; omega
      | false =>
        rw [hb] at c1
        cases hd : digB (s[k].toNat : Int) with
        | true =>
          have HM := hmore (by simp [folB, hb, hd])
          rw [hd] at c2
          clear hmore hstop hb hd
          go_wp2_with (first
            | (go_at_call 32; refine (c1 _).mono ?_; rintro e w' ⟨rfl, rfl⟩)
            | (go_at_call 33; refine (c2 _).mono ?_; rintro e w' ⟨rfl, rfl⟩))
          all_goals
            go_roundw
            case rel => exact ⟨k + 1, by omega, by go_num, by first | rfl | trivial, HM⟩
            case measure => simp only [intOf]; omega
        | false =>
          have HS := hstop (by simp [folB, hb, hd])
          rw [hd] at c2
          clear hmore hstop hb hd
          by_cases hk0 : 0 < k
          · have HE := Lib.hid (first_word HS.out hk0 (by rw [HSL.out]; exact hk))
            have HT := Lib.hid (take_str s k)
            have hk1 : (0 : Int) < (k : Int) := by omega
            go_wp2_with (first
              | (go_at_call 32; refine (c1 _).mono ?_; rintro e w' ⟨rfl, rfl⟩)
              | (go_at_call 33; refine (c2 _).mono ?_; rintro e w' ⟨rfl, rfl⟩))
            all_goals
              go_ret
              exact ⟨by rw [HE.out, HT.out]; rfl, by first | rfl | trivial⟩
          · have hkz : k = 0 := by omega
            subst hkz
            have HE := Lib.hid (first_op HS.out)
            have c3 := loperator s wr HO.out
            go_wp2_with (first
              | (go_at_call 32; refine (c1 _).mono ?_; rintro e w' ⟨rfl, rfl⟩)
              | (go_at_call 33; refine (c2 _).mono ?_; rintro e w' ⟨rfl, rfl⟩)
              | (go_at_call 34; refine c3.mono ?_; rintro e w' ⟨rfl, rfl⟩))
            all_goals
              go_ret
              exact ⟨by rw [HE.out]; rfl, by first | rfl | trivial⟩
    · have hkz : k = s.size := by omega
      have HS := Lib.hid (take_end (q := folB) (l := s.data.toList) (k := k) hn.out (fun c hc => by rw [List.getElem?_eq_none (by rw [HSL.out]; omega)] at hc; cases hc))
      clear hkz
      by_cases hk0 : 0 < k
      · have HE := Lib.hid (first_word HS.out hk0 (by rw [HSL.out]; exact hk))
        have HT := Lib.hid (take_str s k)
        have hk1 : (0 : Int) < (k : Int) := by omega
        go_wp2_with fail
        go_ret
        exact ⟨by rw [HE.out, HT.out]; rfl, by first | rfl | trivial⟩
      · have hkz : k = 0 := by omega
        subst hkz
        have HE := Lib.hid (first_op HS.out)
        have c3 := loperator s wr HO.out
        go_wp2_with (go_at_call 34; refine c3.mono ?_; rintro e w' ⟨rfl, rfl⟩)
        go_ret
        exact ⟨by rw [HE.out]; rfl, by first | rfl | trivial⟩

/-! ### A number's digits and base -/
theorem drop_str (s : ByteArray) (k : Nat) : (s.extract k s.size) = ⟨(s.data.toList.drop k).toArray⟩ := by
  have h : (s.extract k s.size).data.toList = s.data.toList.drop k := by
    rw [ByteArray.data_extract, Array.toList_extract, List.extract_eq_take_drop]
    show List.take (s.size - k) (List.drop k s.data.toList) = _
    exact List.take_of_length_le (by rw [List.length_drop, size_data]; exact Nat.le_refl _)
  rw [← h, sv_data]
theorem base_x {l : List UInt8} (h : Lib.hasPrefix l [48, 120] = true ∨ Lib.hasPrefix l [48, 88] = true) : baseZ l = (l.drop 2, 16) := by
  have h2 : ∃ d r, l = 48 :: d :: r ∧ (d = 120 ∨ d = 88) := by
    rcases h with h | h <;> obtain ⟨r, rfl⟩ := List.isPrefixOf_iff_prefix.1 h
    · exact ⟨120, r, rfl, .inl rfl⟩
    · exact ⟨88, r, rfl, .inr rfl⟩
  obtain ⟨d, r, rfl, hd⟩ := h2
  rw [base_hex hd]; rfl
theorem base_0 {l : List UInt8} (h1 : Lib.hasPrefix l [48, 120] = false) (h2 : Lib.hasPrefix l [48, 88] = false) (h : Lib.hasPrefix l [48] = true) : baseZ l = (l, 8) := by
  obtain ⟨r, rfl⟩ := List.isPrefixOf_iff_prefix.1 h
  cases r with
  | nil => rfl
  | cons d r =>
    refine base_oct ?_
    rintro (rfl | rfl)
    · have : Lib.hasPrefix ([48] ++ 120 :: r) [48, 120] = true := by simp [Lib.hasPrefix, List.isPrefixOf]
      rw [this] at h1; cases h1
    · have : Lib.hasPrefix ([48] ++ 88 :: r) [48, 88] = true := by simp [Lib.hasPrefix, List.isPrefixOf]
      rw [this] at h2; cases h2
theorem base_1 {l : List UInt8} (h : Lib.hasPrefix l [48] = false) : baseZ l = (l, 10) := by
  cases l with
  | nil => rfl
  | cons c r =>
    refine base_ten ?_
    rintro rfl
    have : Lib.hasPrefix (48 :: r) [48] = true := by simp [Lib.hasPrefix, List.isPrefixOf]
    rw [this] at h; cases h

set_option maxHeartbeats 2000000 in
theorem lbased (s : ByteArray) (w : World) : Calls Tryd.prog 19 #[.string s] w fun e w' => e = .returned (.tuple #[sv (baseZ s.data.toList).1, .int .i64 ((baseZ s.data.toList).2 : Nat)]) ∧ w = w' := by
  have C1 := Tryd.strings_HasPrefix s ⟨#[48, 120]⟩
  have C2 := Tryd.strings_HasPrefix s ⟨#[48, 88]⟩
  have C3 := Tryd.strings_HasPrefix s ⟨#[48]⟩
  have HD := Lib.hid (drop_str s 2)
  cases h1 : Lib.hasPrefix s.data.toList [48, 120] with
  | true =>
    have hsz : 2 ≤ s.size := by
      have := (List.isPrefixOf_iff_prefix.1 h1).length_le
      rw [size_data] at this
      exact this
    have HE := Lib.hid (base_x (.inl h1))
    rw [show ((⟨#[48, 120]⟩ : ByteArray).data.toList) = [48, 120] from rfl, h1] at C1
    clear h1
    go_enter Tryd.func19, Tryd.ntmps19
    go_wp2_with fail
    refine (C1 _).mono ?_
    rintro e w1 ⟨rfl, rfl⟩
    go_wp2_with fail
    go_ret2
    exact ⟨by rw [HE.out]; first | rfl | (rw [HD.out]; rfl), by first | rfl | trivial⟩
  | false =>
    rw [show ((⟨#[48, 120]⟩ : ByteArray).data.toList) = [48, 120] from rfl, h1] at C1
    cases h2 : Lib.hasPrefix s.data.toList [48, 88] with
    | true =>
      have hsz : 2 ≤ s.size := by
        have := (List.isPrefixOf_iff_prefix.1 h2).length_le
        rw [size_data] at this
        exact this
      have HE := Lib.hid (base_x (.inr h2))
      rw [show ((⟨#[48, 88]⟩ : ByteArray).data.toList) = [48, 88] from rfl, h2] at C2
      clear h1 h2
      go_enter Tryd.func19, Tryd.ntmps19
      go_wp2_with fail
      refine (C1 _).mono ?_
      rintro e w1 ⟨rfl, rfl⟩
      go_wp2_with fail
      refine (C2 _).mono ?_
      rintro e w1 ⟨rfl, rfl⟩
      go_wp2_with fail
      go_ret2
      exact ⟨by rw [HE.out]; first | rfl | (rw [HD.out]; rfl), by first | rfl | trivial⟩
    | false =>
      rw [show ((⟨#[48, 88]⟩ : ByteArray).data.toList) = [48, 88] from rfl, h2] at C2
      cases h3 : Lib.hasPrefix s.data.toList [48] with
      | true =>
        have HE := Lib.hid (base_0 h1 h2 h3)
        rw [show ((⟨#[48]⟩ : ByteArray).data.toList) = [48] from rfl, h3] at C3
        clear h1 h2 h3
        go_enter Tryd.func19, Tryd.ntmps19
        go_wp2_with fail
        refine (C1 _).mono ?_
        rintro e w1 ⟨rfl, rfl⟩
        go_wp2_with fail
        refine (C2 _).mono ?_
        rintro e w1 ⟨rfl, rfl⟩
        go_wp2_with fail
        refine (C3 _).mono ?_
        rintro e w1 ⟨rfl, rfl⟩
        go_wp2_with fail
        go_ret2
        exact ⟨by rw [HE.out]; show _ = Ending.returned (.tuple #[.string ⟨s.data.toList.toArray⟩, _]); rw [sv_data]; rfl, by first | rfl | trivial⟩
      | false =>
        have HE := Lib.hid (base_1 h3)
        rw [show ((⟨#[48]⟩ : ByteArray).data.toList) = [48] from rfl, h3] at C3
        clear h1 h2 h3
        go_enter Tryd.func19, Tryd.ntmps19
        go_wp2_with fail
        refine (C1 _).mono ?_
        rintro e w1 ⟨rfl, rfl⟩
        go_wp2_with fail
        refine (C2 _).mono ?_
        rintro e w1 ⟨rfl, rfl⟩
        go_wp2_with fail
        refine (C3 _).mono ?_
        rintro e w1 ⟨rfl, rfl⟩
        go_wp2_with fail
        go_ret2
        exact ⟨by rw [HE.out]; show _ = Ending.returned (.tuple #[.string ⟨s.data.toList.toArray⟩, _]); rw [sv_data]; rfl, by first | rfl | trivial⟩
end Go.Proofs.YtclhpedecimicaaDoor
