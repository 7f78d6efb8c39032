/-
  The paths of a tree but one, as the law of chapter 5 takes them.
-/
import Derived.Test.YtogheigpcppeiaaTreeListA
namespace Go.Proofs.Ytogheigpcppeiaa
set_option maxRecDepth 100000
open Go Go.RowKit

def butL (X : List (List UInt8)) (q : List UInt8) : List (List UInt8) := X.filter (fun p => p != q)
theorem but_take (X : List (List UInt8)) (q : List UInt8) (k : Nat) (h : k < X.length) : butL (X.take (k + 1)) q = butL (X.take k) q ++ (if X[k] = q then [] else [X[k]]) := by
  unfold butL
  rw [List.take_succ_eq_append_getElem h, List.filter_append]
  congr 1
  by_cases e : X[k] = q
  · rw [if_pos e, List.filter_cons, if_neg (by simpa using e)]
    rfl
  · rw [if_neg e, List.filter_cons, if_pos (by simpa using e)]
    rfl
theorem but_len (X : List (List UInt8)) (q : List UInt8) (k : Nat) : (butL (X.take k) q).length ≤ X.length := by
  unfold butL
  have h1 := List.length_filter_le (fun p => p != q) (X.take k)
  rw [List.length_take] at h1
  omega

def PRel (X : List (List UInt8)) (q : List UInt8) (w2 : World) (v i : Value) (wr : World) : Prop :=
  ∃ k : Nat, k ≤ X.length ∧ i = .int .i64 k ∧ Texts w2.heap.size wr v (butL (X.take k) q) ∧ Below w2.heap.size w2 wr

set_option maxHeartbeats 4000000 in
theorem lawpaths_any (a : Option Addr) (cap : Nat) (m b : Int) (q : List UInt8) (L : List Ino) (X : List (List UInt8)) (hX : X.length ≤ 1048576)
    (hlist : ∀ (w : World), NodesIn w a cap L → Calls Try.prog 18 #[.agg #[.slice a L.length cap, .int .i64 m, .int .i64 b]] w fun e W' => ∃ v, e = .returned v ∧ Texts w.heap.size W' v X ∧ Below w.heap.size w W') (w : World) (hN : NodesIn w a cap L) :
    Calls Try.prog 17 #[.agg #[.slice a L.length cap, .int .i64 m, .int .i64 b], .string ⟨q.toArray⟩] w fun e w' => ∃ v, e = .returned v ∧ Texts w.heap.size w' v (butL X q) ∧ Below w.heap.size w w' := by
  obtain ⟨i0, hi, hz0, hz1, hz2⟩ := info_parts infoS
  obtain ⟨w1, hw1⟩ : ∃ w1, w1 = w.alloc (.cells #[.slice a L.length cap, .int .i64 m, .int .i64 b] 24) := ⟨_, rfl⟩
  have hb1 : Below w.heap.size w w1 := by rw [hw1]; exact below_box w _
  have hM := hN.below hb1
  have hs1 : w1.heap.size = w.heap.size + 1 := by rw [hw1]; simp
  have HB := Lib.hid hb1
  have HL := Lib.hid (hlist w1 hM)
  obtain ⟨qb, hqb⟩ : ∃ qb : ByteArray, qb = ⟨q.toArray⟩ := ⟨_, rfl⟩
  have HQ := Lib.hid (show qb.data.toList = q by rw [hqb])
  rw [← hqb]
  clear hN hb1 hM hlist hqb
  go_enter Try.func17, Try.ntmps17
  go_wp2_with fail
  rw [← hw1]
  clear hw1
  refine HL.out.mono ?_
  rintro e w2 ⟨v, rfl, hT, hb2⟩
  obtain ⟨ra, rc, rfl, hrc, hrm⟩ := hT.slot3
  have HT := Lib.hid hT
  have HB2 := Lib.hid (HB.out.trans (hb2.mono (by omega)))
  have hs2 := hb2.size
  have hXl : (0 : Int) ≤ (X.length : Int) := by omega
  unfold maxLen at hrm
  clear hT hb2 HL
  go_wp2_with fail
  go_loopw [5, 7, 11] (fun v _ i wr => PRel X q w2 v i wr) (fun _ _ i _ => X.length - (intOf i).toNat)
  case atStart => exact ⟨0, by omega, rfl, World.ownsRow_nil _ _ _ _, Below.refl _ _⟩
  case round =>
    obtain ⟨k, hk, rfl, ht, hb⟩ := hrel
    have hbl := but_len X q k
    have HO := Lib.hid (show wr.ownsRow w2.heap.size 9 1 _ (butL (X.take k) q).length ((butL (X.take k) q).map strv) from ht)
    have HBR := Lib.hid hb
    have hszr := hb.size
    clear ht hb
    by_cases hlt : k < X.length
    · have hbt := Lib.hid (but_take X q k hlt)
      obtain ⟨x1, hx1⟩ : ∃ xs : ByteArray, xs = ⟨X[k].toArray⟩ := ⟨_, rfl⟩
      have HX1 := Lib.hid (show x1.data.toList = X[k] by rw [hx1])
      obtain ⟨g1, rfl, hy1⟩ : ∃ g, ra = some ⟨g, 0, none⟩ ∧ wr.cell? ⟨g, k, none⟩ = some (.string x1) := by
        rcases HT.out.forms with ⟨hv, hn⟩ | ⟨g, cap, hv, hB, hg, -, -, hcell⟩
        · rw [hn] at hlt; simp at hlt
        · simp only [Value.slice.injEq] at hv
          refine ⟨g, hv.1, ?_⟩
          rw [HBR.out.cell (p := ⟨g, k, none⟩) hg, hcell k hlt, hx1]
          rfl
      have HX2 := Lib.hid hx1
      clear hx1
      have b1 : (0 : Int) ≤ (k : Int) := by omega
      have b2 : (k : Int) < (X.length : Int) := by omega
      cases he : (x1.toList == qb.toList) with
      | true =>
        have HE := Lib.hid (show butL (X.take (k + 1)) q = butL (X.take k) q by
          rw [hbt.out, if_pos (HX1.out.symm.trans ((same_bytes x1 qb he).trans HQ.out)), List.append_nil])
        go_wp2_with fail
        go_roundw
        case rel => exact ⟨k + 1, by omega, by go_num, by rw [HE.out]; exact HO.out, HBR.out⟩
        case measure => simp [intOf] <;> omega
      | false =>
        have HE := Lib.hid (show butL (X.take (k + 1)) q = butL (X.take k) q ++ [X[k]] by
          rw [hbt.out, if_neg (fun e => diff_bytes x1 qb he (HX1.out.trans (e.trans HQ.out.symm)))])
        go_wp2_with (first | (at_builtin; (refine wpList_append_own _ rfl _ _ 42 rfl w2.heap.size 9 i0 (.string ByteArray.empty) 1 16 Try.underlying42 hi hz0 hz1 hz2 rfl (by decide) _ _ _ rfl (HO.out.alloc _) ⟨wr.heap.size, 0, none⟩ 1 1 [.string x1] rfl rfl (cell_one_new _ _ _) (fun x hx => by simp at hx; subst hx; rfl) (by unfold maxLen; omega) (by omega) (by simp; omega) ?_); intro v' w3 hown' hgrow3 hnil3) | fail)
        have hT3 : Texts w2.heap.size w3 v' (butL (X.take k) q ++ [X[k]]) := Texts.grow (by rw [HX2.out] at hown'; exact hown')
        have hb3 : Below w2.heap.size w2 w3 := HBR.out.trans (((Below.refl _ wr).alloc hszr _).grown hgrow3 (by simp; omega) (fun r hr => (HO.out.lt r hr).1))
        have HT3 := Lib.hid hT3
        have HB3 := Lib.hid hb3
        clear hT3 hb3 hown' hgrow3 hnil3
        go_wp2_with fail
        go_roundw
        case rel => exact ⟨k + 1, by omega, by go_num, by rw [HE.out]; exact HT3.out, HB3.out⟩
        case measure => simp [intOf] <;> omega
    · obtain rfl : k = X.length := by omega
      go_wp2_with fail
      go_ret
      exact ⟨_, rfl, own_less3 (by have h := HO.out; rw [List.take_length] at h; exact h) (show w.heap.size ≤ w2.heap.size by omega), HB2.out.trans (HBR.out.mono (by omega))⟩
end Go.Proofs.Ytogheigpcppeiaa
