/-
  The document's own Tokens.
-/
import Derived.Deep.AppendLies
import Derived.Test.YtclhpedecimicaaDoorZRop
namespace Go.Proofs.YtclhpedecimicaaDoor
set_option maxRecDepth 100000
open Go Go.RowKit

/-- Behind the tokens D we stand at place p. -/
structure RowT (s : List UInt8) (D : List Tk) (p : Nat) : Prop where
  eq : toks s 0 = D.foldr pushZ (toks (s.drop p) p)
  le : p ≤ s.length
theorem RowT.start (s : List UInt8) : RowT s [] 0 := ⟨rfl, Nat.zero_le _⟩
theorem RowT.blank {s : List UInt8} {D : List Tk} {p : Nat} {c : UInt8} (h : RowT s D p) (hc : s[p]? = some c) (hb : blkZ c = true) : RowT s D (p + 1) := by
  have hp := (List.getElem?_eq_some_iff.1 hc).1
  have e : s.drop p = c :: s.drop (p + 1) := by
    rw [List.drop_eq_getElem_cons hp]
    rw [List.getElem?_eq_getElem hp] at hc
    rw [Option.some.inj hc]
  exact ⟨by rw [h.eq, e, toks_blank hb], by omega⟩
theorem drop_cons {s : List UInt8} {p : Nat} {c : UInt8} (hc : s[p]? = some c) : ∃ r, s.drop p = c :: r := by
  have hp := (List.getElem?_eq_some_iff.1 hc).1
  refine ⟨s.drop (p + 1), ?_⟩
  rw [List.drop_eq_getElem_cons hp]
  rw [List.getElem?_eq_getElem hp] at hc
  rw [Option.some.inj hc]
theorem RowT.next {s : List UInt8} {D : List Tk} {p : Nat} {c : UInt8} {x : Tk} (h : RowT s D p) (hc : s[p]? = some c) (hb : blkZ c = false) (ht : tokZ (firstZ (s.drop p)) p = .inl x) : RowT s (D ++ [x]) (p + (firstZ (s.drop p)).length) := by
  have hp := (List.getElem?_eq_some_iff.1 hc).1
  obtain ⟨r, e⟩ := drop_cons hc
  have hle := (first_pre (s.drop p)).length_le
  rw [List.length_drop] at hle
  refine ⟨?_, by omega⟩
  rw [h.eq, toks_one (by rw [e]; exact List.cons_ne_nil _ _) (fun c' r' e' => by rw [e] at e'; cases e'; exact hb) ht, List.drop_drop, List.foldr_append]
  rfl
theorem push_err (D : List Tk) (q : Nat × Nat) : D.foldr pushZ (.inr q) = .inr q := by
  induction D with
  | nil => rfl
  | cons x D ih => rw [List.foldr_cons, ih]; rfl
theorem push_ok (D L : List Tk) : D.foldr pushZ (.inl L) = .inl (D ++ L) := by
  induction D with
  | nil => rfl
  | cons x D ih => rw [List.foldr_cons, ih]; rfl
theorem RowT.err {s : List UInt8} {D : List Tk} {p e : Nat} {c : UInt8} (h : RowT s D p) (hc : s[p]? = some c) (hb : blkZ c = false) (ht : tokZ (firstZ (s.drop p)) p = .inr e) : toks s 0 = .inr (p, e) := by
  obtain ⟨r, e1⟩ := drop_cons hc
  rw [h.eq, toks_err (by rw [e1]; exact List.cons_ne_nil _ _) (fun c' r' e' => by rw [e1] at e'; cases e'; exact hb) ht, push_err]
theorem RowT.last {s : List UInt8} {D : List Tk} {p : Nat} (h : RowT s D p) (hp : ¬ p < s.length) : toks s 0 = .inl (D ++ [⟨0, 0, [], s.length⟩]) := by
  have e := h.le
  have e2 : p = s.length := by omega
  rw [h.eq, List.drop_eq_nil_of_le (by omega), toks_nil, push_ok, e2]
/-- Bytes of a word from p on, up to k. -/
theorem word_len {l : List UInt8} {c : UInt8} {r : List UInt8} (h : l = c :: r) (hf : folB c = true) : firstZ l = l.takeWhile folB := by
  unfold firstZ
  rw [if_neg (by rw [h, List.takeWhile_cons_of_pos hf]; exact List.cons_ne_nil _ _)]
theorem word_none {l : List UInt8} {c : UInt8} {r : List UInt8} (h : l = c :: r) (hf : folB c = false) : firstZ l = opZ l := by
  unfold firstZ
  rw [if_pos (by rw [h, List.takeWhile_cons_of_neg (by rw [hf]; decide)])]
/-- A row with one token more. -/
theorem TokRow.more {W : World} {B : Nat} {D : List Tk} {x : Tk} {g cap : Nat} (h : W.ownsRow B 34 4 (.slice (some ⟨g, 0, none⟩) (D.length + 1) cap) (D.length + 1) (rowZ D ++ [.int .i64 (x.kind : Int), .int .i64 (x.num : Int), sv x.text, .int .i64 (x.pos : Int)])) : TokRow W B (.slice (some ⟨g, 0, none⟩) (D.length + 1) cap) (D ++ [x]) := by
  refine ⟨⟨_, cap, by rw [List.length_append]; rfl⟩, ?_⟩
  rw [List.length_append, rowZ_app, rowZ_one]
  exact h
theorem TokRow.below {W W' : World} {B : Nat} {v : Value} {D : List Tk} (h : TokRow W B v D) (hb : Below W.heap.size W W') : TokRow W' B v D := by
  refine ⟨h.1, h.2.1, ?_⟩
  rcases h.2.2 with h1 | ⟨g, cap, cur, h1, h2, h3, h4⟩
  · exact .inl h1
  · exact .inr ⟨g, cap, cur, h1, h2, (hb.block g (lt_of_block h3)).trans h3, h4⟩
theorem rowsZ_below {W W' : World} {B : Nat} {e : TypeId} {k n : Nat} {v : Value} {xs : List Value} (h : W.ownsRow B e k v n xs) (hb : Below W.heap.size W W') : W'.ownsRow B e k v n xs := by
  refine ⟨h.1, ?_⟩
  rcases h.2 with h1 | ⟨g, cap, cur, h1, h2, h3, h4⟩
  · exact .inl h1
  · exact .inr ⟨g, cap, cur, h1, h2, (hb.block g (lt_of_block h3)).trans h3, h4⟩
/-- A walk stands still ahead of it. -/
def WallZ (p : Prop) : Prop := p
theorem wallZ {p : Prop} (h : WallZ p) : p := h
theorem unwallZ {p : Prop} (h : p) : WallZ p := h
def atN : Value → Nat
  | .int _ n => n.toNat
  | _ => 0
theorem fol_dig {c : UInt8} (h : digB (c.toNat : Int) = true) : folB c = true := by simp [folB, h]
theorem fol_beg {c : UInt8} (h : begB (c.toNat : Int) = true) : folB c = true := by simp [folB, h]
theorem fol_no {c : UInt8} (h : digB (c.toNat : Int) = false) (h2 : begB (c.toNat : Int) = false) : folB c = false := by simp [folB, h, h2]

set_option maxHeartbeats 32000000 in
theorem rtokens (s : ByteArray) (hs : s.size ≤ 100000) (w : World) : Calls Tryd.prog 9 #[.string s] w (TokensAns w (toks s.data.toList 0)) := by
  have HSL := Lib.hid (size_data s)
  obtain ⟨i0, hi0, hz0, hz1, hz2⟩ := info_parts infoTok
  go_enter Tryd.func9, Tryd.ntmps9
  go_wp2_with fail
  go_loopw [5, 6] (fun v5 v6 wr => ∃ (D : List Tk) (p : Nat) (a : Option Addr) (c : Nat), v5 = .slice a D.length c ∧ v6 = .int .i64 (p : Int) ∧ D.length ≤ p ∧ p ≤ s.size ∧ Hid (TokRow wr w.heap.size (.slice a D.length c) D) ∧ Hid (RowT s.data.toList D p) ∧ Hid (Below w.heap.size w wr)) (fun _ v6 _ => s.size - atN v6)
  case atStart => exact ⟨[], 0, none, 0, rfl, rfl, by simp, by omega, Lib.hid ⟨⟨none, 0, rfl⟩, World.ownsRow_nil _ _ _ _⟩, Lib.hid (RowT.start _), Lib.hid (Below.refl _ _)⟩
  case round =>
    obtain ⟨D, p, ra, rc, rfl, rfl, hDp, hp, HROW, HR, HB⟩ := hrel
    obtain ⟨dl, hdl⟩ : ∃ dl, dl = D.length := ⟨_, rfl⟩
    have HDL := Lib.hid hdl
    rw [← hdl] at hDp HROW ⊢
    clear hdl
    by_cases hlt : p < s.size
    · have HC := Lib.hid (byte_at s p hlt)
      cases hbk : blkZ s[p] with
      | true =>
        have HN := Lib.hid (HR.out.blank HC.out hbk)
        have hb3 : s[p].toNat = 32 ∨ s[p].toNat = 9 ∨ s[p].toNat = 10 := by
          simp only [blkZ, Bool.or_eq_true, beq_iff_eq] at hbk
          omega
        clear hbk
        rcases hb3 with hb3 | hb3 | hb3
        · have e1 : ((s[p].toNat : Int) == 32) = true := by rw [beq_iff_eq]; omega
          have e2 : ((s[p].toNat : Int) == 9) = false := by rw [beq_eq_false_iff_ne]; omega
          have e3 : ((s[p].toNat : Int) == 10) = false := by rw [beq_eq_false_iff_ne]; omega
          clear hb3
          go_wp2_with fail
          go_roundw
          case rel => exact ⟨D, p + 1, ra, rc, by rw [HDL.out], by go_num, by have := HDL.out; omega, by omega, by rw [← HDL.out]; exact HROW, HN, HB⟩
          case measure => simp only [atN]; omega
        · have e1 : ((s[p].toNat : Int) == 32) = false := by rw [beq_eq_false_iff_ne]; omega
          have e2 : ((s[p].toNat : Int) == 9) = true := by rw [beq_iff_eq]; omega
          have e3 : ((s[p].toNat : Int) == 10) = false := by rw [beq_eq_false_iff_ne]; omega
          clear hb3
          go_wp2_with fail
          go_roundw
          case rel => exact ⟨D, p + 1, ra, rc, by rw [HDL.out], by go_num, by have := HDL.out; omega, by omega, by rw [← HDL.out]; exact HROW, HN, HB⟩
          case measure => simp only [atN]; omega
        · have e1 : ((s[p].toNat : Int) == 32) = false := by rw [beq_eq_false_iff_ne]; omega
          have e2 : ((s[p].toNat : Int) == 9) = false := by rw [beq_eq_false_iff_ne]; omega
          have e3 : ((s[p].toNat : Int) == 10) = true := by rw [beq_iff_eq]; omega
          clear hb3
          go_wp2_with fail
          go_roundw
          case rel => exact ⟨D, p + 1, ra, rc, by rw [HDL.out], by go_num, by have := HDL.out; omega, by omega, by rw [← HDL.out]; exact HROW, HN, HB⟩
          case measure => simp only [atN]; omega
      | false =>
        have hb1 : ((s[p].toNat : Int) == 32) = false := by simp only [blkZ, Bool.or_eq_false_iff, beq_eq_false_iff_ne] at hbk; rw [beq_eq_false_iff_ne]; omega
        have hb2 : ((s[p].toNat : Int) == 9) = false := by simp only [blkZ, Bool.or_eq_false_iff, beq_eq_false_iff_ne] at hbk; rw [beq_eq_false_iff_ne]; omega
        have hb3 : ((s[p].toNat : Int) == 10) = false := by simp only [blkZ, Bool.or_eq_false_iff, beq_eq_false_iff_ne] at hbk; rw [beq_eq_false_iff_ne]; omega
        have HBK := Lib.hid hbk
        obtain ⟨cr, hcr⟩ := drop_cons HC.out
        have HCR := Lib.hid hcr
        clear hbk hcr
        go_wp2_with fail
        go_loopw [8] (fun v8 wr2 => ∃ k : Nat, p ≤ k ∧ k ≤ s.size ∧ v8 = .int .i64 (k : Int) ∧ wr2 = wr ∧ Hid (((s.data.toList.drop p).take (k - p)).takeWhile folB = (s.data.toList.drop p).take (k - p))) (fun v8 _ => s.size - atN v8)
        case atStart => exact ⟨p, Nat.le_refl _, hp, rfl, rfl, Lib.hid (by simp)⟩
        case round =>
          obtain ⟨k, hpk, hk, rfl, rfl, hn⟩ := hrel
          by_cases hkn : k < s.size
          · have HCK := Lib.hid (show (s.data.toList.drop p)[k - p]? = some s[k] by rw [List.getElem?_drop, show p + (k - p) = k by omega]; exact byte_at s k hkn)
            have c1 := rbegins_any (s[k].toNat : Int)
            have c2 := rdigit_any (s[k].toNat : Int)
            cases hb : begB (s[k].toNat : Int) with
            | true =>
              have HM := Lib.hid (show ((s.data.toList.drop p).take (k + 1 - p)).takeWhile folB = (s.data.toList.drop p).take (k + 1 - p) by
                rw [show k + 1 - p = k - p + 1 by omega]; exact take_more hn.out HCK.out (fol_beg hb))
              rw [hb] at c1
              clear hb
              go_wp2_with (first | (go_at_call 16; refine (c1 _).mono ?_; rintro e w' ⟨rfl, rfl⟩) | fail)
              go_roundw
              case rel => exact ⟨k + 1, by omega, by omega, by go_num, by first | rfl | trivial, HM⟩
              case measure => simp only [atN]; omega
            | false =>
              rw [hb] at c1
              cases hd : digB (s[k].toNat : Int) with
              | true =>
                have HM := Lib.hid (show ((s.data.toList.drop p).take (k + 1 - p)).takeWhile folB = (s.data.toList.drop p).take (k + 1 - p) by
                  rw [show k + 1 - p = k - p + 1 by omega]; exact take_more hn.out HCK.out (fol_dig hd))
                rw [hd] at c2
                clear hb hd
                go_wp2_with (first | (go_at_call 16; refine (c1 _).mono ?_; rintro e w' ⟨rfl, rfl⟩) | (go_at_call 17; refine (c2 _).mono ?_; rintro e w' ⟨rfl, rfl⟩) | fail)
                go_roundw
                case rel => exact ⟨k + 1, by omega, by omega, by go_num, by first | rfl | trivial, HM⟩
                case measure => simp only [atN]; omega
              | false =>
                have HS := Lib.hid (take_end hn.out (fun c hc => by rw [HCK.out] at hc; cases hc; exact fol_no hd hb))
                cases hd0 : digB (s[p].toNat : Int) with
                | true =>
                  have hfe : firstZ (s.data.toList.drop p) = (s.data.toList.drop p).take (k - p) := (word_len HCR.out (fol_dig hd0)).trans HS.out
                  obtain ⟨tx, htx⟩ : ∃ tx, tx = (s.data.toList.drop p).take (k - p) := ⟨_, rfl⟩
                  have hx : s.extract p k = ⟨tx.toArray⟩ := by have := sub_str s p (k - p); rw [show p + (k - p) = k by omega, ← htx] at this; exact this
                  have htl : tx.length = k - p := by rw [htx, List.length_take, List.length_drop, HSL.out]; omega
                  have hkp : p < k := by
                    rcases Nat.lt_or_ge p k with h | h
                    · exact h
                    · have h2 := HS.out
                      rw [show k - p = 0 by omega, List.take_zero, HCR.out, List.takeWhile_cons_of_pos (fol_dig hd0)] at h2
                      cases h2
                  obtain ⟨tr, htr⟩ : ∃ tr, tx = s[p] :: tr := ⟨cr.take (k - p - 1), by rw [htx, HCR.out, show k - p = k - p - 1 + 1 by omega, List.take_succ_cons]; rfl⟩
                  have C := fun W => rconstZ ⟨tx.toArray⟩ (by rw [sv_size]; omega) W
                  rw [show (⟨tx.toArray⟩ : ByteArray).data.toList = tx from rfl] at C
                  cases hk9 : constZ tx with
                  | none =>
                    have HRES := Lib.hid (HR.out.err HC.out HBK.out (by rw [hfe, ← htx, htr]; exact tok_bad hd0 (by rw [← htr]; exact hk9)))
                    rw [hk9] at C
                    unfold endZ at C
                    clear hfe htx htr hk9
                    go_wp2_with (first | (go_at_call 16; refine (rbegins_any _ _).mono ?_; rintro e w' ⟨rfl, rfl⟩) | (go_at_call 17; refine (rdigit_any _ _).mono ?_; rintro e w' ⟨rfl, rfl⟩) | (go_at_call 11; refine (C _).mono ?_; rintro e w' ⟨rfl, rfl⟩) | fail)
                    go_ret3
                    exact ⟨HB.out, by rw [HRES.out]; rfl⟩
                  | some n =>
                    have HNX := Lib.hid (HR.out.next HC.out HBK.out (by rw [hfe, ← htx, htr]; exact tok_num hd0 (by rw [← htr]; exact hk9)))
                    rw [hfe, ← htx, htl, show p + (k - p) = k by omega] at HNX
                    rw [hk9] at C
                    unfold endZ at C
                    have HOWN := Lib.hid (show World.ownsRow _ w.heap.size 34 4 (.slice ra dl rc) dl (rowZ D) from (by have h := HROW.out.2; rw [← HDL.out] at h; exact h))
                    clear hfe htx htr hk9
                    go_wp2_with (first | (go_at_call 16; refine (rbegins_any _ _).mono ?_; rintro e w' ⟨rfl, rfl⟩) | (go_at_call 17; refine (rdigit_any _ _).mono ?_; rintro e w' ⟨rfl, rfl⟩) | (go_at_call 11; refine (C _).mono ?_; rintro e w' ⟨rfl, rfl⟩) | (at_builtin; refine wallZ ?_) | fail)
                    refine unwallZ ?_
                    refine wpList_append_lies _ rfl _ _ 23 rfl w.heap.size 34 i0 _ 4 40 Tryd.underlying23 hi0 hz0 hz1 hz2 rfl (by decide) (.slice ra dl rc) dl (rowZ D) rfl (HOWN.out.alloc _) ⟨_, 0, none⟩ 1 1 [.int .i64 1, .int .i64 (n : Int), .string ⟨#[]⟩, .int .i64 (p : Int)] rfl rfl (World.news_of_block (cs := #[.int .i64 1, .int .i64 (n : Int), .string ⟨#[]⟩, .int .i64 (p : Int)]) (t := 34) (fr := (0, 0)) (heap_alloc_new _ _)) (by simp [Value.oneCell']) (by decide) (by unfold maxLen; omega) (by omega) (by have := HB.out.size; simp; omega) _ rfl ?_
                    intro gg cap w6 hown hgrow hat hlt6
                    have hbl : Below w.heap.size w w6 := (HB.out.alloc HB.out.size _).grown hgrow (by have := HB.out.size; simp; omega) (fun z hz => by have := (HOWN.out.lt z hz).1; omega)
                    have HBL := Lib.hid hbl
                    have HTR := Lib.hid (show TokRow w6 w.heap.size (.slice (some ⟨gg, 0, none⟩) (D ++ [(⟨1, n, [], p⟩ : Tk)]).length cap) (D ++ [(⟨1, n, [], p⟩ : Tk)]) by
                      rw [HDL.out] at hown
                      have h := TokRow.more (x := (⟨1, n, [], p⟩ : Tk)) hown
                      rw [List.length_append]
                      exact h)
                    clear hown hgrow hat hlt6 hbl
                    go_wp2_with fail
                    refine ⟨⟨D ++ [(⟨1, n, [], p⟩ : Tk)], k, some ⟨gg, 0, none⟩, cap, by rw [List.length_append, ← HDL.out]; rfl, by first | rfl | go_num, by rw [List.length_append, ← HDL.out]; simp only [List.length_singleton]; omega, by omega, HTR, HNX, HBL⟩, by simp only [atN]; omega⟩
                | false =>
                  have HOWN := Lib.hid (show World.ownsRow _ w.heap.size 34 4 (.slice ra dl rc) dl (rowZ D) from (by have h := HROW.out.2; rw [← HDL.out] at h; exact h))
                  cases hb0 : begB (s[p].toNat : Int) with
                  | true =>
                    have hfe : firstZ (s.data.toList.drop p) = (s.data.toList.drop p).take (k - p) := (word_len HCR.out (fol_beg hb0)).trans HS.out
                    obtain ⟨tx, htx⟩ : ∃ tx, tx = (s.data.toList.drop p).take (k - p) := ⟨_, rfl⟩
                    have hx : s.extract p k = ⟨tx.toArray⟩ := by have := sub_str s p (k - p); rw [show p + (k - p) = k by omega, ← htx] at this; exact this
                    have htl : tx.length = k - p := by rw [htx, List.length_take, List.length_drop, HSL.out]; omega
                    have hkp : p < k := by
                      rcases Nat.lt_or_ge p k with h | h
                      · exact h
                      · have h2 := HS.out
                        rw [show k - p = 0 by omega, List.take_zero, HCR.out, List.takeWhile_cons_of_pos (fol_beg hb0)] at h2
                        cases h2
                    obtain ⟨tr, htr⟩ : ∃ tr, tx = s[p] :: tr := ⟨cr.take (k - p - 1), by rw [htx, HCR.out, show k - p = k - p - 1 + 1 by omega, List.take_succ_cons]; rfl⟩
                    have HNX := Lib.hid (HR.out.next HC.out HBK.out (x := ⟨2, 0, tx, p⟩) (by rw [hfe, ← htx, htr]; exact tok_name hd0 hb0))
                    rw [hfe, ← htx, htl, show p + (k - p) = k by omega] at HNX
                    clear hfe htx htr
                    go_wp2_with (first | (go_at_call 16; refine (rbegins_any _ _).mono ?_; rintro e w' ⟨rfl, rfl⟩) | (go_at_call 17; refine (rdigit_any _ _).mono ?_; rintro e w' ⟨rfl, rfl⟩) | (at_builtin; refine wallZ ?_) | fail)
                    refine unwallZ ?_
                    refine wpList_append_lies _ rfl _ _ 23 rfl w.heap.size 34 i0 _ 4 40 Tryd.underlying23 hi0 hz0 hz1 hz2 rfl (by decide) (.slice ra dl rc) dl (rowZ D) rfl (HOWN.out.alloc _) ⟨_, 0, none⟩ 1 1 [.int .i64 2, .int .i64 0, .string ⟨tx.toArray⟩, .int .i64 (p : Int)] rfl rfl (World.news_of_block (cs := #[.int .i64 2, .int .i64 0, .string ⟨tx.toArray⟩, .int .i64 (p : Int)]) (t := 34) (fr := (0, 0)) (heap_alloc_new _ _)) (by simp [Value.oneCell']) (by decide) (by unfold maxLen; omega) (by omega) (by have := HB.out.size; simp; omega) _ rfl ?_
                    intro gg cap w6 hown hgrow hat hlt6
                    have hbl : Below w.heap.size w w6 := (HB.out.alloc HB.out.size _).grown hgrow (by have := HB.out.size; simp; omega) (fun z hz => by have := (HOWN.out.lt z hz).1; omega)
                    have HBL := Lib.hid hbl
                    have HTR := Lib.hid (show TokRow w6 w.heap.size (.slice (some ⟨gg, 0, none⟩) (D ++ [(⟨2, 0, tx, p⟩ : Tk)]).length cap) (D ++ [(⟨2, 0, tx, p⟩ : Tk)]) by
                      rw [HDL.out] at hown
                      have h := TokRow.more (x := (⟨2, 0, tx, p⟩ : Tk)) hown
                      rw [List.length_append]
                      exact h)
                    clear hown hgrow hat hlt6 hbl
                    go_wp2_with fail
                    refine ⟨⟨D ++ [(⟨2, 0, tx, p⟩ : Tk)], k, some ⟨gg, 0, none⟩, cap, by rw [List.length_append, ← HDL.out]; rfl, by first | rfl | go_num, by rw [List.length_append, ← HDL.out]; simp only [List.length_singleton]; omega, by omega, HTR, HNX, HBL⟩, by simp only [atN]; omega⟩
                  | false =>
                    have hfe : firstZ (s.data.toList.drop p) = opZ (s.data.toList.drop p) := word_none HCR.out (fol_no hd0 hb0)
                    have C5 := fun W => ropZ s p (by omega) hp W
                    obtain ⟨o, ho⟩ : ∃ o, o = opZ (s.data.toList.drop p) := ⟨_, rfl⟩
                    have hol : o.length ≤ s.size - p := by
                      have := (op_pre (s.data.toList.drop p)).length_le
                      rw [← ho, List.length_drop, HSL.out] at this
                      exact this
                    rw [← ho] at C5 hfe
                    have hosz := sv_size o
                    cases o with
                    | nil =>
                      have HRES := Lib.hid (HR.out.err HC.out HBK.out (by rw [hfe]; rfl))
                      clear hfe ho
                      go_wp2_with (first | (go_at_call 16; refine (rbegins_any _ _).mono ?_; rintro e w' ⟨rfl, rfl⟩) | (go_at_call 17; refine (rdigit_any _ _).mono ?_; rintro e w' ⟨rfl, rfl⟩) | (go_at_call 18; refine (C5 _).mono ?_; rintro e w5 ⟨rfl, hb5⟩) | fail)
                      go_ret3
                      exact ⟨below_two HB.out hb5, by rw [HRES.out]; rfl⟩
                    | cons oc orest =>
                      have hfol : digB (oc.toNat : Int) = false ∧ begB (oc.toNat : Int) = false := by
                        have h1 := op_pre (s.data.toList.drop p)
                        rw [← ho, HCR.out, List.cons_prefix_cons] at h1
                        rw [h1.1]; exact ⟨hd0, hb0⟩
                      have HNX := Lib.hid (HR.out.next HC.out HBK.out (x := ⟨3, 0, oc :: orest, p⟩) (by rw [hfe]; exact tok_op hfol.1 hfol.2))
                      rw [hfe] at HNX
                      obtain ⟨ol, hol2⟩ : ∃ ol, ol = (oc :: orest).length := ⟨_, rfl⟩
                      have hol3 : 0 < ol := by rw [hol2]; simp
                      rw [← hol2] at HNX hol hosz
                      obtain ⟨ob, hob⟩ : ∃ ob : ByteArray, ob = ⟨(oc :: orest).toArray⟩ := ⟨_, rfl⟩
                      have hone : ob.toList.isEmpty = false := by rw [hob, ByteArray.toList_eq]; rfl
                      have HOB := Lib.hid hob
                      rw [← hob] at hosz
                      have C5' : ∀ W, Calls Tryd.prog 18 #[.string s, .int .i64 (p : Int)] W fun e w' => e = .returned (.string ob) ∧ Below W.heap.size W w' := by rw [hob]; exact C5
                      clear hfe ho hfol hol2 C5 hob
                      go_wp2_with (first | (go_at_call 16; refine (rbegins_any _ _).mono ?_; rintro e w' ⟨rfl, rfl⟩) | (go_at_call 17; refine (rdigit_any _ _).mono ?_; rintro e w' ⟨rfl, rfl⟩) | (go_at_call 18; refine (C5' _).mono ?_; rintro e w5 ⟨rfl, hb5⟩; have HB5 := Lib.hid (below_two HB.out hb5); have HOWN := Lib.hid (rowsZ_below HOWN.out hb5); clear hb5) | (at_builtin; refine wallZ ?_) | fail)
                      have HB := HB5
                      refine unwallZ ?_
                      refine wpList_append_lies _ rfl _ _ 23 rfl w.heap.size 34 i0 _ 4 40 Tryd.underlying23 hi0 hz0 hz1 hz2 rfl (by decide) (.slice ra dl rc) dl (rowZ D) rfl (HOWN.out.alloc _) ⟨_, 0, none⟩ 1 1 [.int .i64 3, .int .i64 0, .string ob, .int .i64 (p : Int)] rfl rfl (World.news_of_block (cs := #[.int .i64 3, .int .i64 0, .string ob, .int .i64 (p : Int)]) (t := 34) (fr := (0, 0)) (heap_alloc_new _ _)) (by simp [Value.oneCell']) (by decide) (by unfold maxLen; omega) (by omega) (by have := HB.out.size; simp; omega) _ rfl ?_
                      intro gg cap w6 hown hgrow hat hlt6
                      have hbl : Below w.heap.size w w6 := (HB.out.alloc HB.out.size _).grown hgrow (by have := HB.out.size; simp; omega) (fun z hz => by have := (HOWN.out.lt z hz).1; omega)
                      have HBL := Lib.hid hbl
                      have HTR := Lib.hid (show TokRow w6 w.heap.size (.slice (some ⟨gg, 0, none⟩) (D ++ [(⟨3, 0, oc :: orest, p⟩ : Tk)]).length cap) (D ++ [(⟨3, 0, oc :: orest, p⟩ : Tk)]) by
                        rw [HDL.out, HOB.out] at hown
                        have h := TokRow.more (x := (⟨3, 0, oc :: orest, p⟩ : Tk)) hown
                        rw [List.length_append]
                        exact h)
                      clear hown hgrow hat hlt6 hbl
                      go_wp2_with fail
                      refine ⟨⟨D ++ [(⟨3, 0, oc :: orest, p⟩ : Tk)], p + ol, some ⟨gg, 0, none⟩, cap, by rw [List.length_append, ← HDL.out]; rfl, by first | rfl | go_num, by rw [List.length_append, ← HDL.out]; simp only [List.length_singleton]; omega, by omega, HTR, HNX, HBL⟩, by simp only [atN]; omega⟩

          · have hkz : k = s.size := by omega
            have HS := Lib.hid (take_end (q := folB) (l := s.data.toList.drop p) (k := k - p) hn.out (fun c hc => by rw [List.getElem?_drop, List.getElem?_eq_none (by rw [HSL.out]; omega)] at hc; cases hc))
            clear hkz
            cases hd0 : digB (s[p].toNat : Int) with
            | true =>
              have hfe : firstZ (s.data.toList.drop p) = (s.data.toList.drop p).take (k - p) := (word_len HCR.out (fol_dig hd0)).trans HS.out
              obtain ⟨tx, htx⟩ : ∃ tx, tx = (s.data.toList.drop p).take (k - p) := ⟨_, rfl⟩
              have hx : s.extract p k = ⟨tx.toArray⟩ := by have := sub_str s p (k - p); rw [show p + (k - p) = k by omega, ← htx] at this; exact this
              have htl : tx.length = k - p := by rw [htx, List.length_take, List.length_drop, HSL.out]; omega
              have hkp : p < k := by
                rcases Nat.lt_or_ge p k with h | h
                · exact h
                · have h2 := HS.out
                  rw [show k - p = 0 by omega, List.take_zero, HCR.out, List.takeWhile_cons_of_pos (fol_dig hd0)] at h2
                  cases h2
              obtain ⟨tr, htr⟩ : ∃ tr, tx = s[p] :: tr := ⟨cr.take (k - p - 1), by rw [htx, HCR.out, show k - p = k - p - 1 + 1 by omega, List.take_succ_cons]; rfl⟩
              have C := fun W => rconstZ ⟨tx.toArray⟩ (by rw [sv_size]; omega) W
              rw [show (⟨tx.toArray⟩ : ByteArray).data.toList = tx from rfl] at C
              cases hk9 : constZ tx with
              | none =>
                have HRES := Lib.hid (HR.out.err HC.out HBK.out (by rw [hfe, ← htx, htr]; exact tok_bad hd0 (by rw [← htr]; exact hk9)))
                rw [hk9] at C
                unfold endZ at C
                clear hfe htx htr hk9
                go_wp2_with (first | (go_at_call 16; refine (rbegins_any _ _).mono ?_; rintro e w' ⟨rfl, rfl⟩) | (go_at_call 17; refine (rdigit_any _ _).mono ?_; rintro e w' ⟨rfl, rfl⟩) | (go_at_call 11; refine (C _).mono ?_; rintro e w' ⟨rfl, rfl⟩) | fail)
                go_ret3
                exact ⟨HB.out, by rw [HRES.out]; rfl⟩
              | some n =>
                have HNX := Lib.hid (HR.out.next HC.out HBK.out (by rw [hfe, ← htx, htr]; exact tok_num hd0 (by rw [← htr]; exact hk9)))
                rw [hfe, ← htx, htl, show p + (k - p) = k by omega] at HNX
                rw [hk9] at C
                unfold endZ at C
                have HOWN := Lib.hid (show World.ownsRow _ w.heap.size 34 4 (.slice ra dl rc) dl (rowZ D) from (by have h := HROW.out.2; rw [← HDL.out] at h; exact h))
                clear hfe htx htr hk9
                go_wp2_with (first | (go_at_call 16; refine (rbegins_any _ _).mono ?_; rintro e w' ⟨rfl, rfl⟩) | (go_at_call 17; refine (rdigit_any _ _).mono ?_; rintro e w' ⟨rfl, rfl⟩) | (go_at_call 11; refine (C _).mono ?_; rintro e w' ⟨rfl, rfl⟩) | (at_builtin; refine wallZ ?_) | fail)
                refine unwallZ ?_
                refine wpList_append_lies _ rfl _ _ 23 rfl w.heap.size 34 i0 _ 4 40 Tryd.underlying23 hi0 hz0 hz1 hz2 rfl (by decide) (.slice ra dl rc) dl (rowZ D) rfl (HOWN.out.alloc _) ⟨_, 0, none⟩ 1 1 [.int .i64 1, .int .i64 (n : Int), .string ⟨#[]⟩, .int .i64 (p : Int)] rfl rfl (World.news_of_block (cs := #[.int .i64 1, .int .i64 (n : Int), .string ⟨#[]⟩, .int .i64 (p : Int)]) (t := 34) (fr := (0, 0)) (heap_alloc_new _ _)) (by simp [Value.oneCell']) (by decide) (by unfold maxLen; omega) (by omega) (by have := HB.out.size; simp; omega) _ rfl ?_
                intro gg cap w6 hown hgrow hat hlt6
                have hbl : Below w.heap.size w w6 := (HB.out.alloc HB.out.size _).grown hgrow (by have := HB.out.size; simp; omega) (fun z hz => by have := (HOWN.out.lt z hz).1; omega)
                have HBL := Lib.hid hbl
                have HTR := Lib.hid (show TokRow w6 w.heap.size (.slice (some ⟨gg, 0, none⟩) (D ++ [(⟨1, n, [], p⟩ : Tk)]).length cap) (D ++ [(⟨1, n, [], p⟩ : Tk)]) by
                  rw [HDL.out] at hown
                  have h := TokRow.more (x := (⟨1, n, [], p⟩ : Tk)) hown
                  rw [List.length_append]
                  exact h)
                clear hown hgrow hat hlt6 hbl
                go_wp2_with fail
                refine ⟨⟨D ++ [(⟨1, n, [], p⟩ : Tk)], k, some ⟨gg, 0, none⟩, cap, by rw [List.length_append, ← HDL.out]; rfl, by first | rfl | go_num, by rw [List.length_append, ← HDL.out]; simp only [List.length_singleton]; omega, by omega, HTR, HNX, HBL⟩, by simp only [atN]; omega⟩
            | false =>
              have HOWN := Lib.hid (show World.ownsRow _ w.heap.size 34 4 (.slice ra dl rc) dl (rowZ D) from (by have h := HROW.out.2; rw [← HDL.out] at h; exact h))
              cases hb0 : begB (s[p].toNat : Int) with
              | true =>
                have hfe : firstZ (s.data.toList.drop p) = (s.data.toList.drop p).take (k - p) := (word_len HCR.out (fol_beg hb0)).trans HS.out
                obtain ⟨tx, htx⟩ : ∃ tx, tx = (s.data.toList.drop p).take (k - p) := ⟨_, rfl⟩
                have hx : s.extract p k = ⟨tx.toArray⟩ := by have := sub_str s p (k - p); rw [show p + (k - p) = k by omega, ← htx] at this; exact this
                have htl : tx.length = k - p := by rw [htx, List.length_take, List.length_drop, HSL.out]; omega
                have hkp : p < k := by
                  rcases Nat.lt_or_ge p k with h | h
                  · exact h
                  · have h2 := HS.out
                    rw [show k - p = 0 by omega, List.take_zero, HCR.out, List.takeWhile_cons_of_pos (fol_beg hb0)] at h2
                    cases h2
                obtain ⟨tr, htr⟩ : ∃ tr, tx = s[p] :: tr := ⟨cr.take (k - p - 1), by rw [htx, HCR.out, show k - p = k - p - 1 + 1 by omega, List.take_succ_cons]; rfl⟩
                have HNX := Lib.hid (HR.out.next HC.out HBK.out (x := ⟨2, 0, tx, p⟩) (by rw [hfe, ← htx, htr]; exact tok_name hd0 hb0))
                rw [hfe, ← htx, htl, show p + (k - p) = k by omega] at HNX
                clear hfe htx htr
                go_wp2_with (first | (go_at_call 16; refine (rbegins_any _ _).mono ?_; rintro e w' ⟨rfl, rfl⟩) | (go_at_call 17; refine (rdigit_any _ _).mono ?_; rintro e w' ⟨rfl, rfl⟩) | (at_builtin; refine wallZ ?_) | fail)
                refine unwallZ ?_
                refine wpList_append_lies _ rfl _ _ 23 rfl w.heap.size 34 i0 _ 4 40 Tryd.underlying23 hi0 hz0 hz1 hz2 rfl (by decide) (.slice ra dl rc) dl (rowZ D) rfl (HOWN.out.alloc _) ⟨_, 0, none⟩ 1 1 [.int .i64 2, .int .i64 0, .string ⟨tx.toArray⟩, .int .i64 (p : Int)] rfl rfl (World.news_of_block (cs := #[.int .i64 2, .int .i64 0, .string ⟨tx.toArray⟩, .int .i64 (p : Int)]) (t := 34) (fr := (0, 0)) (heap_alloc_new _ _)) (by simp [Value.oneCell']) (by decide) (by unfold maxLen; omega) (by omega) (by have := HB.out.size; simp; omega) _ rfl ?_
                intro gg cap w6 hown hgrow hat hlt6
                have hbl : Below w.heap.size w w6 := (HB.out.alloc HB.out.size _).grown hgrow (by have := HB.out.size; simp; omega) (fun z hz => by have := (HOWN.out.lt z hz).1; omega)
                have HBL := Lib.hid hbl
                have HTR := Lib.hid (show TokRow w6 w.heap.size (.slice (some ⟨gg, 0, none⟩) (D ++ [(⟨2, 0, tx, p⟩ : Tk)]).length cap) (D ++ [(⟨2, 0, tx, p⟩ : Tk)]) by
                  rw [HDL.out] at hown
                  have h := TokRow.more (x := (⟨2, 0, tx, p⟩ : Tk)) hown
                  rw [List.length_append]
                  exact h)
                clear hown hgrow hat hlt6 hbl
                go_wp2_with fail
                refine ⟨⟨D ++ [(⟨2, 0, tx, p⟩ : Tk)], k, some ⟨gg, 0, none⟩, cap, by rw [List.length_append, ← HDL.out]; rfl, by first | rfl | go_num, by rw [List.length_append, ← HDL.out]; simp only [List.length_singleton]; omega, by omega, HTR, HNX, HBL⟩, by simp only [atN]; omega⟩
              | false =>
                have hfe : firstZ (s.data.toList.drop p) = opZ (s.data.toList.drop p) := word_none HCR.out (fol_no hd0 hb0)
                have C5 := fun W => ropZ s p (by omega) hp W
                obtain ⟨o, ho⟩ : ∃ o, o = opZ (s.data.toList.drop p) := ⟨_, rfl⟩
                have hol : o.length ≤ s.size - p := by
                  have := (op_pre (s.data.toList.drop p)).length_le
                  rw [← ho, List.length_drop, HSL.out] at this
                  exact this
                rw [← ho] at C5 hfe
                have hosz := sv_size o
                cases o with
                | nil =>
                  have HRES := Lib.hid (HR.out.err HC.out HBK.out (by rw [hfe]; rfl))
                  clear hfe ho
                  go_wp2_with (first | (go_at_call 16; refine (rbegins_any _ _).mono ?_; rintro e w' ⟨rfl, rfl⟩) | (go_at_call 17; refine (rdigit_any _ _).mono ?_; rintro e w' ⟨rfl, rfl⟩) | (go_at_call 18; refine (C5 _).mono ?_; rintro e w5 ⟨rfl, hb5⟩) | fail)
                  go_ret3
                  exact ⟨below_two HB.out hb5, by rw [HRES.out]; rfl⟩
                | cons oc orest =>
                  have hfol : digB (oc.toNat : Int) = false ∧ begB (oc.toNat : Int) = false := by
                    have h1 := op_pre (s.data.toList.drop p)
                    rw [← ho, HCR.out, List.cons_prefix_cons] at h1
                    rw [h1.1]; exact ⟨hd0, hb0⟩
                  have HNX := Lib.hid (HR.out.next HC.out HBK.out (x := ⟨3, 0, oc :: orest, p⟩) (by rw [hfe]; exact tok_op hfol.1 hfol.2))
                  rw [hfe] at HNX
                  obtain ⟨ol, hol2⟩ : ∃ ol, ol = (oc :: orest).length := ⟨_, rfl⟩
                  have hol3 : 0 < ol := by rw [hol2]; simp
                  rw [← hol2] at HNX hol hosz
                  obtain ⟨ob, hob⟩ : ∃ ob : ByteArray, ob = ⟨(oc :: orest).toArray⟩ := ⟨_, rfl⟩
                  have hone : ob.toList.isEmpty = false := by rw [hob, ByteArray.toList_eq]; rfl
                  have HOB := Lib.hid hob
                  rw [← hob] at hosz
                  have C5' : ∀ W, Calls Tryd.prog 18 #[.string s, .int .i64 (p : Int)] W fun e w' => e = .returned (.string ob) ∧ Below W.heap.size W w' := by rw [hob]; exact C5
                  clear hfe ho hfol hol2 C5 hob
                  go_wp2_with (first | (go_at_call 16; refine (rbegins_any _ _).mono ?_; rintro e w' ⟨rfl, rfl⟩) | (go_at_call 17; refine (rdigit_any _ _).mono ?_; rintro e w' ⟨rfl, rfl⟩) | (go_at_call 18; refine (C5' _).mono ?_; rintro e w5 ⟨rfl, hb5⟩; have HB5 := Lib.hid (below_two HB.out hb5); have HOWN := Lib.hid (rowsZ_below HOWN.out hb5); clear hb5) | (at_builtin; refine wallZ ?_) | fail)
                  have HB := HB5
                  refine unwallZ ?_
                  refine wpList_append_lies _ rfl _ _ 23 rfl w.heap.size 34 i0 _ 4 40 Tryd.underlying23 hi0 hz0 hz1 hz2 rfl (by decide) (.slice ra dl rc) dl (rowZ D) rfl (HOWN.out.alloc _) ⟨_, 0, none⟩ 1 1 [.int .i64 3, .int .i64 0, .string ob, .int .i64 (p : Int)] rfl rfl (World.news_of_block (cs := #[.int .i64 3, .int .i64 0, .string ob, .int .i64 (p : Int)]) (t := 34) (fr := (0, 0)) (heap_alloc_new _ _)) (by simp [Value.oneCell']) (by decide) (by unfold maxLen; omega) (by omega) (by have := HB.out.size; simp; omega) _ rfl ?_
                  intro gg cap w6 hown hgrow hat hlt6
                  have hbl : Below w.heap.size w w6 := (HB.out.alloc HB.out.size _).grown hgrow (by have := HB.out.size; simp; omega) (fun z hz => by have := (HOWN.out.lt z hz).1; omega)
                  have HBL := Lib.hid hbl
                  have HTR := Lib.hid (show TokRow w6 w.heap.size (.slice (some ⟨gg, 0, none⟩) (D ++ [(⟨3, 0, oc :: orest, p⟩ : Tk)]).length cap) (D ++ [(⟨3, 0, oc :: orest, p⟩ : Tk)]) by
                    rw [HDL.out, HOB.out] at hown
                    have h := TokRow.more (x := (⟨3, 0, oc :: orest, p⟩ : Tk)) hown
                    rw [List.length_append]
                    exact h)
                  clear hown hgrow hat hlt6 hbl
                  go_wp2_with fail
                  refine ⟨⟨D ++ [(⟨3, 0, oc :: orest, p⟩ : Tk)], p + ol, some ⟨gg, 0, none⟩, cap, by rw [List.length_append, ← HDL.out]; rfl, by first | rfl | go_num, by rw [List.length_append, ← HDL.out]; simp only [List.length_singleton]; omega, by omega, HTR, HNX, HBL⟩, by simp only [atN]; omega⟩

    · have hpe : p = s.size := by omega
      subst hpe
      have HRES := Lib.hid (HR.out.last (by rw [HSL.out]; omega))
      rw [HSL.out] at HRES
      have HOWN := Lib.hid (show World.ownsRow _ w.heap.size 34 4 (.slice ra dl rc) dl (rowZ D) from (by have h := HROW.out.2; rw [← HDL.out] at h; exact h))
      go_wp2_with (first | (at_builtin; refine wallZ ?_) | fail)
      refine unwallZ ?_
      refine wpList_append_lies _ rfl _ _ 23 rfl w.heap.size 34 i0 _ 4 40 Tryd.underlying23 hi0 hz0 hz1 hz2 rfl (by decide) (.slice ra dl rc) dl (rowZ D) rfl (HOWN.out.alloc _) ⟨_, 0, none⟩ 1 1 [.int .i64 0, .int .i64 0, .string ⟨#[]⟩, .int .i64 (s.size : Int)] rfl rfl (World.news_of_block (cs := #[.int .i64 0, .int .i64 0, .string ⟨#[]⟩, .int .i64 (s.size : Int)]) (t := 34) (fr := (0, 0)) (heap_alloc_new _ _)) (by simp [Value.oneCell']) (by decide) (by unfold maxLen; omega) (by omega) (by have := HB.out.size; simp; omega) _ rfl ?_
      intro gg cap w6 hown hgrow hat hlt6
      have hbl : Below w.heap.size w w6 := (HB.out.alloc HB.out.size _).grown hgrow (by have := HB.out.size; simp; omega) (fun z hz => by have := (HOWN.out.lt z hz).1; omega)
      have HBL := Lib.hid hbl
      have HTR := Lib.hid (show TokRow w6 w.heap.size (.slice (some ⟨gg, 0, none⟩) (D ++ [(⟨0, 0, [], s.size⟩ : Tk)]).length cap) (D ++ [(⟨0, 0, [], s.size⟩ : Tk)]) by
        rw [HDL.out] at hown
        have h := TokRow.more (x := (⟨0, 0, [], s.size⟩ : Tk)) hown
        rw [List.length_append]
        exact h)
      clear hown hgrow hat hlt6 hbl
      go_wp2_with fail
      go_ret3
      exact ⟨HBL.out, by rw [HRES.out]; exact ⟨_, rfl, by have h := HTR.out; rw [List.length_append, ← HDL.out] at h; exact h⟩⟩
end Go.Proofs.YtclhpedecimicaaDoor
