/-
  The law AtokNumbers, walked.
-/
import Derived.Test.YtclhpedecimicaaDoorZNamesL
namespace Go.Proofs.YtclhpedecimicaaDoor
set_option maxRecDepth 100000
open Go Go.RowKit

def hexZ : List UInt8 := [48, 49, 50, 51, 52, 53, 54, 55, 56, 57, 97, 98, 99, 100, 101, 102]
def lenZ : Value → Nat
  | .string b => b.size
  | _ => 0
def msZ (a b : Value) : Nat := 2 * atN b + (if lenZ a = 0 then 1 else 0)
theorem hex_idx (k : Nat) (h : k < (⟨#[48, 49, 50, 51, 52, 53, 54, 55, 56, 57, 97, 98, 99, 100, 101, 102]⟩ : ByteArray).size) : (⟨#[48, 49, 50, 51, 52, 53, 54, 55, 56, 57, 97, 98, 99, 100, 101, 102]⟩ : ByteArray)[k] = hexZ.getD k 0 := by
  have h1 := byte_at _ k h
  have h2 : (⟨#[48, 49, 50, 51, 52, 53, 54, 55, 56, 57, 97, 98, 99, 100, 101, 102]⟩ : ByteArray).data.toList = hexZ := rfl
  rw [h2] at h1
  rw [List.getD_eq_getElem?_getD, h1]; rfl
theorem enc_all : ∀ k : Fin 128, (Utf8.encode (k.val : Int)).data.toList = [UInt8.ofNat k.val] := by decide +kernel
theorem enc_ascii (d : UInt8) (h : d.toNat < 128) : Utf8.encode (d.toNat : Int) = ⟨#[d]⟩ := by
  have h1 := enc_all ⟨d.toNat, h⟩
  have h2 : UInt8.ofNat d.toNat = d := by simp
  simp only at h1
  rw [h2] at h1
  rw [← sv_data (Utf8.encode (d.toNat : Int)), h1]
theorem zero_text : Utf8.encode (((⟨#[48, 49, 50, 51, 52, 53, 54, 55, 56, 57, 97, 98, 99, 100, 101, 102]⟩ : ByteArray)[0]'(by decide)).toNat : Int) ++ (⟨#[]⟩ : ByteArray) = ⟨([48] : List UInt8).toArray⟩ := by
  have h : (⟨#[48, 49, 50, 51, 52, 53, 54, 55, 56, 57, 97, 98, 99, 100, 101, 102]⟩ : ByteArray)[0]'(by decide) = 48 := by rfl
  rw [h, enc_ascii 48 (by decide)]
  rfl
theorem hex_at : ∀ k : Fin 16, valZ (hexZ.getD k.val 0) = k.val ∧ folB (hexZ.getD k.val 0) = true ∧ (hexZ.getD k.val 0 = 48 ↔ k.val = 0) ∧ (hexZ.getD k.val 0).toNat < 128 := by decide +kernel

theorem enc_size (k : Nat) (h : k < (⟨#[48, 49, 50, 51, 52, 53, 54, 55, 56, 57, 97, 98, 99, 100, 101, 102]⟩ : ByteArray).size) : (Utf8.encode (((⟨#[48, 49, 50, 51, 52, 53, 54, 55, 56, 57, 97, 98, 99, 100, 101, 102]⟩ : ByteArray)[k]'h).toNat : Int)).size = 1 := by
  have h2 := hex_at ⟨k, h⟩
  simp only at h2
  rw [hex_idx k h, enc_ascii _ h2.2.2.2]
  rfl
theorem cat_digit (k : Nat) (h : k < (⟨#[48, 49, 50, 51, 52, 53, 54, 55, 56, 57, 97, 98, 99, 100, 101, 102]⟩ : ByteArray).size) (l : List UInt8) : Utf8.encode (((⟨#[48, 49, 50, 51, 52, 53, 54, 55, 56, 57, 97, 98, 99, 100, 101, 102]⟩ : ByteArray)[k]'h).toNat : Int) ++ (⟨l.toArray⟩ : ByteArray) = ⟨(hexZ.getD k 0 :: l).toArray⟩ := by
  have h2 := hex_at ⟨k, h⟩
  simp only at h2
  rw [hex_idx k h, enc_ascii _ h2.2.2.2, ← sv_data (⟨#[hexZ.getD k 0]⟩ ++ ⟨l.toArray⟩), app_data]
  rfl
theorem DigR.step_hex {b n m : Nat} {s : List UInt8} (h : DigR b n m s) (hgo : 0 < m) (hb : 8 ≤ b) (hb2 : b ≤ 16) (hm : m ≤ 9223372036854775807) : DigR b n (m / b) (hexZ.getD (m % b) 0 :: s) := by
  have hlt : m % b < b := Nat.mod_lt _ (by omega)
  have h2 := hex_at ⟨m % b, by omega⟩
  simp only at h2
  exact h.step (.inl hgo) hb hm h2.1 h2.2.1 h2.2.2.1
theorem ms_step {b m : Nat} (l : List UInt8) (hm : 0 < m) (hb : 2 ≤ b) (c : UInt8) : msZ (sv (c :: l)) (.int .u64 ((m : Int) / (b : Int))) < msZ (sv l) (.int .u64 (m : Int)) := by
  have h1 : m / b * 2 ≤ m := Nat.le_trans (Nat.mul_le_mul_left _ hb) (Nat.div_mul_le_self m b)
  have h2 : ((m : Int) / (b : Int)).toNat = m / b := by rw [← Int.natCast_ediv]; rfl
  have h3 : (⟨(c :: l).toArray⟩ : ByteArray).size = l.length + 1 := by rw [sv_size]; rfl
  show 2 * ((m : Int) / (b : Int)).toNat + (if (⟨(c :: l).toArray⟩ : ByteArray).size = 0 then 1 else 0) < 2 * (m : Int).toNat + (if (⟨l.toArray⟩ : ByteArray).size = 0 then 1 else 0)
  rw [h2, h3, if_neg (by omega)]
  have h4 : (m : Int).toNat = m := rfl
  rw [h4]
  split <;> omega
set_option maxHeartbeats 8000000 in
theorem anums_walk (n : Int) (h0 : -9223372036854775808 ≤ n) (h1 : n ≤ 9223372036854775807) (w : World) (hL : LaidZ w) :
    Calls Tryd.prog 5 #[.int .i64 n] w fun e w' => e = .returned (.bool true) ∧ Below w.heap.size w w' := by
  by_cases hn : n < 0
  · have CA := awake12 w hL
    go_enter Tryd.func5, Tryd.ntmps5
    go_wp2_with fail
    refine CA.mono ?_
    rintro e w1 ⟨rfl, hb⟩
    go_wp2_with fail
    go_ret
    exact ⟨rfl, hb⟩
  · have HL := Lib.hid hL
    obtain ⟨m, rfl⟩ : ∃ m : Nat, n = (m : Int) := ⟨n.toNat, by omega⟩
    have hm : m ≤ 9223372036854775807 := by omega
    have hwu : IntKind.u64.wrap (m : Int) = (m : Int) := by rw [IntKind.wrap_u64]; omega
    clear h0 h1 hL
    go_enter Tryd.func5, Tryd.ntmps5
    go_wp2_with fail
    obtain ⟨w1, hw1⟩ : ∃ w1, w1 = w.alloc (.cells #[.int .u64 10, .int .u64 8, .int .u64 16] 35) := ⟨_, rfl⟩
    have hnb := new_block w (.cells #[.int .u64 10, .int .u64 8, .int .u64 16] 35)
    have hbb := below_box w (.cells #[.int .u64 10, .int .u64 8, .int .u64 16] 35)
    rw [← hw1] at hnb hbb ⊢
    have HN := Lib.hid (show ∀ W, Below w1.heap.size w1 W → W.heap[w.heap.size]? = some (.cells #[.int .u64 10, .int .u64 8, .int .u64 16] 35 (0, 0)) from fun W hb => (hb.block _ (lt_of_block hnb)).trans hnb)
    have HBB := Lib.hid hbb
    have HL1 := Lib.hid (HL.out.below hbb)
    clear hnb hbb hw1
    go_loopw [17] (fun v wr => ∃ k : Nat, k ≤ 3 ∧ v = .int .i64 (k : Int) ∧ Hid (Below w1.heap.size w1 wr)) (fun v _ => 3 - atN v)
    case atStart => exact ⟨0, by omega, rfl, Lib.hid (Below.refl _ _)⟩
    case round =>
      obtain ⟨k, hk, rfl, HB⟩ := hrel
      have hbk := HN.out _ HB.out
      have b0 := blk_cell hbk 0
      have b1 := blk_cell hbk 1
      have b2 := blk_cell hbk 2
      by_cases hk3 : k = 3
      · subst hk3
        have CA := awake12 wr (HL1.out.below HB.out)
        have HBW := Lib.hid (HBB.out.trans (HB.out.mono HBB.out.size))
        go_wp2_with fail
        refine CA.mono ?_
        rintro e w2 ⟨rfl, hb2⟩
        have HB2 := Lib.hid (below_two HBW.out hb2)
        clear hb2
        go_wp2_with fail
        go_ret
        exact ⟨rfl, HB2.out⟩
      · have hk4 : k = 0 ∨ k = 1 ∨ k = 2 := by omega
        rcases hk4 with rfl | rfl | rfl
        · rw [show ((0 : Nat) : Int) = 0 from rfl]
          go_wp2_with fail
          go_loopw [5, 6] (fun v5 v6 wr2 => ∃ (l : List UInt8) (m' : Nat), v5 = sv l ∧ v6 = .int .u64 (m' : Int) ∧ m' ≤ 9223372036854775807 ∧ Hid (DigR 10 m m' l) ∧ l.length ≤ 64 ∧ wr2 = wr) (fun v5 v6 _ => msZ v5 v6)
          case atStart => exact ⟨[], m, rfl, by first | rfl | (rw [hwu]), hm, Lib.hid (DigR.start 10 m), by simp, rfl⟩
          case round =>
            obtain ⟨l, m', rfl, rfl, hm', HD, hll, rfl⟩ := hrel
            by_cases hgo : 0 < m'
            · have hg1 : (m' : Int) > 0 := by omega
              have hl62 := HD.out.len hgo hm
              have hE := fun h => enc_size (m' % 10) h
              have hsz2 := sv_size l
              go_wp2_with fail
              rw [cat_digit]
              go_roundw
              case rel => exact ⟨hexZ.getD (m' % 10) 0 :: l, m' / 10, by first | rfl | trivial, by congr 1, by have := Nat.div_le_self m' 10; omega, Lib.hid (HD.out.step_hex hgo (by decide) (by decide) hm'), by simp only [List.length_cons]; omega, by first | rfl | trivial⟩
              case measure => exact ms_step l hgo (by decide) _
            · have hm0 : m' = 0 := by omega
              subst hm0
              cases l with
              | nil =>
                have HN2 := Lib.hid (show DigR 10 m 0 [48] from HD.out.step (c := 48) (.inr rfl) (by decide) hm' (by decide) (by decide) (by decide))
                go_wp2_with fail
                rw [zero_text]
                go_roundw
                case rel => exact ⟨[48], 0, by first | rfl | trivial, by first | rfl | trivial, by omega, HN2, by simp, by first | rfl | trivial⟩
                case measure => simp only [msZ, atN, lenZ]; decide
              | cons lc lr =>
                obtain ⟨l, hl⟩ : ∃ l, l = lc :: lr := ⟨_, rfl⟩
                have hln : l ≠ [] := by rw [hl]; exact List.cons_ne_nil _ _
                rw [← hl] at HD hll ⊢
                have hne : (⟨l.toArray⟩ : ByteArray).toList.isEmpty = false := by rw [ByteArray.toList_eq]; cases hl2 : l with | nil => exact absurd hl2 hln | cons _ _ => rfl
                have hne2 : l.isEmpty = false := by cases hl2 : l with | nil => exact absurd hl2 hln | cons _ _ => rfl
                have hsz2 := sv_size l
                have C1 := fun W hW => lconst ⟨l.toArray⟩ (by rw [sv_size]; first | omega | (simp only [List.length_cons]; omega)) W hW
                have C2 := fun W hW => ltokens ⟨l.toArray⟩ (by rw [sv_size]; first | omega | (simp only [List.length_cons]; omega)) W hW
                rw [show (⟨l.toArray⟩ : ByteArray).data.toList = l from rfl] at C1 C2
                rw [HD.out.ten_toks hln] at C2
                unfold constV at C1
                rw [HD.out.ten hln] at C1
                have HLW := Lib.hid (HL1.out.below HB.out)
                have hmm : (((some m).getD 0 : Nat) : Int) = (m : Int) := rfl
                clear hl
                go_wp2_with fail
                refine (C1 _ HLW.out).mono ?_
                rintro e w2 ⟨rfl, hb2⟩
                have HB2 := Lib.hid (below_two HB.out hb2)
                have HL2 := Lib.hid (HLW.out.below hb2)
                clear hb2
                go_wp2_with fail
                refine (C2 _ HL2.out).mono ?_
                rintro e w3 ⟨hb3, v, rfl, ⟨a, c, rfl⟩, hown⟩
                obtain ⟨g, rfl, hat⟩ := TokRow.place (L := [⟨1, m, [], 0⟩, ⟨0, 0, [], l.length⟩]) ⟨⟨a, c, rfl⟩, hown⟩ (by simp)
                have HB3 := Lib.hid (below_two HB2.out hb3)
                obtain ⟨x0, x1, -, -⟩ := hat 0 ⟨1, m, [], 0⟩ rfl
                have x0' : w3.cell? ⟨g, 0, none⟩ = some (.int .i64 1) := x0
                have x1' : w3.cell? ⟨g, 1, none⟩ = some (.int .i64 (m : Int)) := x1
                have hmne : ((m : Int) != (m : Int)) = false := by simp
                clear hb3 hown hat x0 x1
                go_wp2_with fail
                refine ⟨⟨1, by omega, by first | rfl | go_num, HB3⟩, by simp only [atN]; omega⟩
        · rw [show ((1 : Nat) : Int) = 1 from rfl]
          go_wp2_with fail
          go_loopw [5, 6] (fun v5 v6 wr2 => ∃ (l : List UInt8) (m' : Nat), v5 = sv l ∧ v6 = .int .u64 (m' : Int) ∧ m' ≤ 9223372036854775807 ∧ Hid (DigR 8 m m' l) ∧ l.length ≤ 64 ∧ wr2 = wr) (fun v5 v6 _ => msZ v5 v6)
          case atStart => exact ⟨[], m, rfl, by first | rfl | (rw [hwu]), hm, Lib.hid (DigR.start 8 m), by simp, rfl⟩
          case round =>
            obtain ⟨l, m', rfl, rfl, hm', HD, hll, rfl⟩ := hrel
            by_cases hgo : 0 < m'
            · have hg1 : (m' : Int) > 0 := by omega
              have hl62 := HD.out.len hgo hm
              have hE := fun h => enc_size (m' % 8) h
              have hsz2 := sv_size l
              go_wp2_with fail
              rw [cat_digit]
              go_roundw
              case rel => exact ⟨hexZ.getD (m' % 8) 0 :: l, m' / 8, by first | rfl | trivial, by congr 1, by have := Nat.div_le_self m' 8; omega, Lib.hid (HD.out.step_hex hgo (by decide) (by decide) hm'), by simp only [List.length_cons]; omega, by first | rfl | trivial⟩
              case measure => exact ms_step l hgo (by decide) _
            · have hm0 : m' = 0 := by omega
              subst hm0
              cases l with
              | nil =>
                have HN2 := Lib.hid (show DigR 8 m 0 [48] from HD.out.step (c := 48) (.inr rfl) (by decide) hm' (by decide) (by decide) (by decide))
                go_wp2_with fail
                rw [zero_text]
                go_roundw
                case rel => exact ⟨[48], 0, by first | rfl | trivial, by first | rfl | trivial, by omega, HN2, by simp, by first | rfl | trivial⟩
                case measure => simp only [msZ, atN, lenZ]; decide
              | cons lc lr =>
                obtain ⟨l, hl⟩ : ∃ l, l = lc :: lr := ⟨_, rfl⟩
                have hln : l ≠ [] := by rw [hl]; exact List.cons_ne_nil _ _
                rw [← hl] at HD hll ⊢
                have hne : (⟨l.toArray⟩ : ByteArray).toList.isEmpty = false := by rw [ByteArray.toList_eq]; cases hl2 : l with | nil => exact absurd hl2 hln | cons _ _ => rfl
                have hne2 : l.isEmpty = false := by cases hl2 : l with | nil => exact absurd hl2 hln | cons _ _ => rfl
                have hsz2 := sv_size l
                have hcat2 : (⟨#[48]⟩ : ByteArray) ++ ⟨l.toArray⟩ = ⟨(48 :: l).toArray⟩ := by rw [← sv_data (⟨#[48]⟩ ++ ⟨l.toArray⟩), app_data]; rfl
                have hsz1 : (⟨#[48]⟩ : ByteArray).size = 1 := rfl
                have C1 := fun W hW => lconst ⟨(48 :: l).toArray⟩ (by rw [sv_size]; first | omega | (simp only [List.length_cons]; omega)) W hW
                have C2 := fun W hW => ltokens ⟨(48 :: l).toArray⟩ (by rw [sv_size]; first | omega | (simp only [List.length_cons]; omega)) W hW
                rw [show (⟨(48 :: l).toArray⟩ : ByteArray).data.toList = (48 :: l) from rfl] at C1 C2
                rw [HD.out.eight_toks hln] at C2
                unfold constV at C1
                rw [HD.out.eight hln] at C1
                have HLW := Lib.hid (HL1.out.below HB.out)
                have hmm : (((some m).getD 0 : Nat) : Int) = (m : Int) := rfl
                clear hl
                go_wp2_with fail
                refine (C1 _ HLW.out).mono ?_
                rintro e w2 ⟨rfl, hb2⟩
                have HB2 := Lib.hid (below_two HB.out hb2)
                have HL2 := Lib.hid (HLW.out.below hb2)
                clear hb2
                go_wp2_with fail
                refine (C2 _ HL2.out).mono ?_
                rintro e w3 ⟨hb3, v, rfl, ⟨a, c, rfl⟩, hown⟩
                obtain ⟨g, rfl, hat⟩ := TokRow.place (L := [⟨1, m, [], 0⟩, ⟨0, 0, [], l.length + 1⟩]) ⟨⟨a, c, rfl⟩, hown⟩ (by simp)
                have HB3 := Lib.hid (below_two HB2.out hb3)
                obtain ⟨x0, x1, -, -⟩ := hat 0 ⟨1, m, [], 0⟩ rfl
                have x0' : w3.cell? ⟨g, 0, none⟩ = some (.int .i64 1) := x0
                have x1' : w3.cell? ⟨g, 1, none⟩ = some (.int .i64 (m : Int)) := x1
                have hmne : ((m : Int) != (m : Int)) = false := by simp
                clear hb3 hown hat x0 x1
                go_wp2_with fail
                refine ⟨⟨2, by omega, by first | rfl | go_num, HB3⟩, by simp only [atN]; omega⟩
        · rw [show ((2 : Nat) : Int) = 2 from rfl]
          go_wp2_with fail
          go_loopw [5, 6] (fun v5 v6 wr2 => ∃ (l : List UInt8) (m' : Nat), v5 = sv l ∧ v6 = .int .u64 (m' : Int) ∧ m' ≤ 9223372036854775807 ∧ Hid (DigR 16 m m' l) ∧ l.length ≤ 64 ∧ wr2 = wr) (fun v5 v6 _ => msZ v5 v6)
          case atStart => exact ⟨[], m, rfl, by first | rfl | (rw [hwu]), hm, Lib.hid (DigR.start 16 m), by simp, rfl⟩
          case round =>
            obtain ⟨l, m', rfl, rfl, hm', HD, hll, rfl⟩ := hrel
            by_cases hgo : 0 < m'
            · have hg1 : (m' : Int) > 0 := by omega
              have hl62 := HD.out.len hgo hm
              have hE := fun h => enc_size (m' % 16) h
              have hsz2 := sv_size l
              go_wp2_with fail
              rw [cat_digit]
              go_roundw
              case rel => exact ⟨hexZ.getD (m' % 16) 0 :: l, m' / 16, by first | rfl | trivial, by congr 1, by have := Nat.div_le_self m' 16; omega, Lib.hid (HD.out.step_hex hgo (by decide) (by decide) hm'), by simp only [List.length_cons]; omega, by first | rfl | trivial⟩
              case measure => exact ms_step l hgo (by decide) _
            · have hm0 : m' = 0 := by omega
              subst hm0
              cases l with
              | nil =>
                have HN2 := Lib.hid (show DigR 16 m 0 [48] from HD.out.step (c := 48) (.inr rfl) (by decide) hm' (by decide) (by decide) (by decide))
                go_wp2_with fail
                rw [zero_text]
                go_roundw
                case rel => exact ⟨[48], 0, by first | rfl | trivial, by first | rfl | trivial, by omega, HN2, by simp, by first | rfl | trivial⟩
                case measure => simp only [msZ, atN, lenZ]; decide
              | cons lc lr =>
                obtain ⟨l, hl⟩ : ∃ l, l = lc :: lr := ⟨_, rfl⟩
                have hln : l ≠ [] := by rw [hl]; exact List.cons_ne_nil _ _
                rw [← hl] at HD hll ⊢
                have hne : (⟨l.toArray⟩ : ByteArray).toList.isEmpty = false := by rw [ByteArray.toList_eq]; cases hl2 : l with | nil => exact absurd hl2 hln | cons _ _ => rfl
                have hne2 : l.isEmpty = false := by cases hl2 : l with | nil => exact absurd hl2 hln | cons _ _ => rfl
                have hsz2 := sv_size l
                have hcat2 : (⟨#[48, 88]⟩ : ByteArray) ++ ⟨l.toArray⟩ = ⟨(48 :: 88 :: l).toArray⟩ := by rw [← sv_data (⟨#[48, 88]⟩ ++ ⟨l.toArray⟩), app_data]; rfl
                have hsz1 : (⟨#[48, 88]⟩ : ByteArray).size = 2 := rfl
                have C1 := fun W hW => lconst ⟨(48 :: 88 :: l).toArray⟩ (by rw [sv_size]; first | omega | (simp only [List.length_cons]; omega)) W hW
                have C2 := fun W hW => ltokens ⟨(48 :: 88 :: l).toArray⟩ (by rw [sv_size]; first | omega | (simp only [List.length_cons]; omega)) W hW
                rw [show (⟨(48 :: 88 :: l).toArray⟩ : ByteArray).data.toList = (48 :: 88 :: l) from rfl] at C1 C2
                rw [HD.out.hex_toks hln] at C2
                unfold constV at C1
                rw [HD.out.hex hln] at C1
                have HLW := Lib.hid (HL1.out.below HB.out)
                have hmm : (((some m).getD 0 : Nat) : Int) = (m : Int) := rfl
                clear hl
                go_wp2_with fail
                refine (C1 _ HLW.out).mono ?_
                rintro e w2 ⟨rfl, hb2⟩
                have HB2 := Lib.hid (below_two HB.out hb2)
                have HL2 := Lib.hid (HLW.out.below hb2)
                clear hb2
                go_wp2_with fail
                refine (C2 _ HL2.out).mono ?_
                rintro e w3 ⟨hb3, v, rfl, ⟨a, c, rfl⟩, hown⟩
                obtain ⟨g, rfl, hat⟩ := TokRow.place (L := [⟨1, m, [], 0⟩, ⟨0, 0, [], l.length + 2⟩]) ⟨⟨a, c, rfl⟩, hown⟩ (by simp)
                have HB3 := Lib.hid (below_two HB2.out hb3)
                obtain ⟨x0, x1, -, -⟩ := hat 0 ⟨1, m, [], 0⟩ rfl
                have x0' : w3.cell? ⟨g, 0, none⟩ = some (.int .i64 1) := x0
                have x1' : w3.cell? ⟨g, 1, none⟩ = some (.int .i64 (m : Int)) := x1
                have hmne : ((m : Int) != (m : Int)) = false := by simp
                clear hb3 hown hat x0 x1
                go_wp2_with fail
                refine ⟨⟨3, by omega, by first | rfl | go_num, HB3⟩, by simp only [atN]; omega⟩
end Go.Proofs.YtclhpedecimicaaDoor
