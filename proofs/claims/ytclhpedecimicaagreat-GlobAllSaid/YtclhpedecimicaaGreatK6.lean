/-
  The reference's Place: a directory's path from the root.
  Parts of a text, as the walk slices them.
  Blocks of a world: their cells; boxes that are laid.
-/
import Derived.Test.YtclhpedecimicaaGreatK4
import Derived.Test.YtclhpedecimicaaGreatK1
import Derived.Test.YtclhpedecimicaaGreatProg
import Derived.Test.YtclhpedecimicaaGreatTrees
namespace Go.Proofs.YtclhpedecimicaaGreat
set_option maxRecDepth 100000
open Go Go.RowKit

def kidsTo (M : List (List UInt8 × Int)) (d : Int) (s : List UInt8) : List UInt8 := M.foldl (fun s e => if e.2 = d then 47 :: e.1 ++ s else s) s
def placeGo (L : List Ino) : Nat → Int → List UInt8 → List UInt8
  | 0, _, s => s
  | n + 1, d, s => if d = 0 then s else placeGo L n (nodeAt L d).up (kidsTo (nodeAt L (nodeAt L d).up).kids d s)
def placeL (L : List Ino) (d : Int) : List UInt8 := if dirB L d then (if placeGo L (L.length + 1) d [] = [] then [47] else placeGo L (L.length + 1) d []) else []

theorem place_succ (L : List Ino) (n : Nat) (d : Int) (s : List UInt8) : placeGo L (n + 1) d s = if d = 0 then s else placeGo L n (nodeAt L d).up (kidsTo (nodeAt L (nodeAt L d).up).kids d s) := rfl
theorem kidsTo_drop (M : List (List UInt8 × Int)) (k : Nat) (hk : k < M.length) (d : Int) (s : List UInt8) : kidsTo (M.drop k) d s = kidsTo (M.drop (k + 1)) d (if M[k].2 = d then 47 :: M[k].1 ++ s else s) := by
  rw [List.drop_eq_getElem_cons hk]
  rfl

/-- What going up asks of a tree: each directory's Up is one; names and directories are not too long. -/
def Climbs (L : List Ino) : Prop := ∀ k (h : k < L.length), (L[k].kind = 2 → dirB L L[k].up = true) ∧ L[k].kids.length ≤ 1024 ∧ ∀ e ∈ L[k].kids, e.1.length ≤ 64

theorem slash_cat3 (x s : List UInt8) : ((⟨#[47]⟩ : ByteArray) ++ (⟨x.toArray⟩ : ByteArray)) ++ (⟨s.toArray⟩ : ByteArray) = ⟨(47 :: x ++ s).toArray⟩ := by
  rw [show (⟨#[47]⟩ : ByteArray) = ⟨[47].toArray⟩ from rfl, ByteArray.mk_append_mk, ByteArray.mk_append_mk]
  rfl

def PlaceRel (L : List Ino) (n0 : Nat) (dv sv iv : Value) : Prop :=
  ∃ (d i : Nat) (s : List UInt8), d < L.length ∧ dirB L d = true ∧ i ≤ L.length + 1 ∧ dv = .int .i64 d ∧ iv = .int .i64 i ∧ sv = .string ⟨s.toArray⟩ ∧ s.length ≤ i * 66560 ∧ Hid (placeGo L (L.length + 1) (n0 : Int) [] = placeGo L (L.length + 1 - i) (d : Int) s)

set_option maxRecDepth 100000 in
set_option maxHeartbeats 2000000 in
theorem rplace_any (a : Option Addr) (cap : Nat) (m b d : Int) (L : List Ino) (hL : L.length ≤ 300) (hC : Climbs L) (w : World) (hN : NodesIn w a cap L) :
    Calls Tryz.prog 12 #[.agg #[.slice a L.length cap, .int .i64 m, .int .i64 b], .int .i64 d] w fun e w' => e = .returned (.string ⟨(placeL L d).toArray⟩) ∧ Below w.heap.size w w' := by
  have hb1 := below_box w (.cells #[.slice a L.length cap, .int .i64 m, .int .i64 b] 24)
  have hM := hN.below hb1
  have HM := Lib.hid hM
  have HC := Lib.hid hC
  clear hM hN hC
  cases ht : thereB L d with
  | false =>
    have HT := Lib.hid ht
    have hfin := Lib.hid (show placeL L d = [] by unfold placeL dirB; rw [ht]; rfl)
    clear ht
    rw [hfin.out]
    go_enter Tryz.func12, Tryz.ntmps12
    go_wp2_with (first | (go_at_call 27; refine (rthere_known _ _ _ _ _ _ _ HT.out _).mono ?_; rintro e w2 ⟨rfl, hb2⟩) | fail)
    go_ret
    exact ⟨rfl, hb1.trans (hb2.mono (by simp))⟩
  | true =>
    obtain ⟨n, rfl, hn⟩ := there_nat ht
    have HT := Lib.hid ht
    obtain ⟨bb, o, rfl, hx⟩ := HM.out.2.2 n hn
    have h1 := hx.kind
    have hd0 : (0 : Int) ≤ (n : Int) := by omega
    have hdir : dirB L (n : Int) = (L[n].kind == 2) := by unfold dirB; rw [ht, node_nat L n hn]; rfl
    clear ht
    cases hz : (L[n].kind != 2) with
    | true =>
      have hfin := Lib.hid (show placeL L (n : Int) = [] by
        unfold placeL
        rw [hdir, if_neg (by simpa [bne] using hz)])
      rw [hfin.out]
      clear hdir
      go_enter Tryz.func12, Tryz.ntmps12
      go_wp2_with (first | (go_at_call 27; refine (rthere_known _ _ _ _ _ _ _ HT.out _).mono ?_; rintro e w2 ⟨rfl, hb2⟩; obtain ⟨q0, q1, q2⟩ := box3 hb2; have h2 := cell_below hb2 h1) | fail)
      go_ret
      exact ⟨rfl, hb1.trans (hb2.mono (by simp))⟩
    | false =>
      have hdt : dirB L (n : Int) = true := by rw [hdir]; simpa [bne] using hz
      obtain ⟨Z, hZ⟩ : ∃ Z, Z = placeGo L (L.length + 1) (n : Int) [] := ⟨_, rfl⟩
      have hfin := Lib.hid (show placeL L (n : Int) = if Z = [] then [47] else Z by
        unfold placeL
        rw [hdt, if_pos rfl, hZ])
      obtain ⟨F, hF⟩ : ∃ F, F = placeL L (n : Int) := ⟨_, rfl⟩
      rw [← hF]
      have HF := Lib.hid (hF.trans hfin.out)
      clear hF
      have HZ := Lib.hid hZ
      have HDT := Lib.hid hdt
      clear hdir hZ hdt hfin
      go_enter Tryz.func12, Tryz.ntmps12
      go_wp2_with (first | (go_at_call 27; refine (rthere_known _ _ _ _ _ _ _ HT.out _).mono ?_; rintro e w2 ⟨rfl, hb2⟩; obtain ⟨q0, q1, q2⟩ := box3 hb2; have h2 := cell_below hb2 h1) | fail)
      have HB := Lib.hid (hb1.trans (hb2.mono (by simp)))
      have HN := Lib.hid (HM.out.below hb2)
      clear hb1 hb2 HM h1 h2 hx q1 q2
      go_loop [1, 5, 6, 7, 8, 9] (fun dv sv iv _ _ _ => PlaceRel L n dv sv iv) (fun _ _ iv _ _ _ => L.length + 1 - (intOf iv).toNat)
      case atStart => exact ⟨n, 0, [], hn, HDT.out, by omega, rfl, rfl, rfl, by simp, Lib.hid rfl⟩
      case round =>
        obtain ⟨d, i, s, hd, hdd, hi, rfl, rfl, rfl, hsl, hgo⟩ := hrel
        have HDD := Lib.hid hdd
        clear hdd
        by_cases hgo2 : (d : Int) = 0 ∨ L.length < i
        · have hs : Z = s := by
            rw [HZ.out, hgo.out]
            rcases hgo2 with h | h
            · cases hc : L.length + 1 - i with
              | zero => rfl
              | succ m => rw [place_succ, if_pos h]
            · rw [show L.length + 1 - i = 0 by omega]
              rfl
          have HS := Lib.hid hs
          clear hs
          have hcond : ((d : Int) != 0 && decide ((i : Int) ≤ (L.length : Int))) = false := by
            rcases hgo2 with h | h
            · simp [h]
            · rw [decide_eq_false (by omega)]
              simp
          cases hse : s.isEmpty with
          | true =>
            obtain rfl : s = [] := by simpa using hse
            have HR := Lib.hid (show F = [47] by rw [HF.out, HS.out, if_pos rfl])
            rcases hgo2 with h | h
            all_goals
              go_wp2_with fail
              all_goals
                go_ret
                exact ⟨by rw [HR.out]; rfl, HB.out⟩
          | false =>
            have hne : s ≠ [] := fun e => by rw [e] at hse; cases hse
            have HR := Lib.hid (show F = s by rw [HF.out, HS.out, if_neg hne])
            clear hne
            rcases hgo2 with h | h
            all_goals
              go_wp2_with fail
              all_goals
                go_ret
                exact ⟨by rw [HR.out]; rfl, HB.out⟩
        · have hd0' : ((d : Int) != 0) = true := by rw [bne_iff_ne]; exact fun e => hgo2 (Or.inl e)
          have hil : i ≤ L.length := by omega
          have hdn : ¬ (d : Int) = 0 := fun e => hgo2 (Or.inl e)
          obtain ⟨b1, o1, e1, hx⟩ := HN.out.2.2 d hd
          obtain ⟨rfl, rfl⟩ : b1 = bb ∧ o1 = o := by simpa [eq_comm] using e1
          have x1 := hx.up
          have hk2 : L[d].kind = 2 := by
            have h := HDD.out
            unfold dirB at h
            rw [node_nat L d hd, Bool.and_eq_true] at h
            simpa using h.2
          have hup := (HC.out d hd).1 hk2
          have hupt : thereB L L[d].up = true := by
            have h := hup
            unfold dirB at h
            rw [Bool.and_eq_true] at h
            exact h.1
          obtain ⟨u, hu1, hu2⟩ := there_nat hupt
          obtain ⟨b2, o2, e2, hy⟩ := HN.out.2.2 u hu2
          obtain ⟨rfl, rfl⟩ : b2 = b1 ∧ o2 = o1 := by simpa [eq_comm] using e2
          obtain ⟨kv, y4, hks⟩ := hy.kids
          obtain ⟨M, hMe⟩ : ∃ M, M = L[u].kids := ⟨_, rfl⟩
          have hM1 : M.length ≤ 1024 := by rw [hMe]; exact (HC.out u hu2).2.1
          have hM2 : ∀ e ∈ M, e.1.length ≤ 64 := by rw [hMe]; exact (HC.out u hu2).2.2
          rw [← hMe] at hks
          obtain ⟨ka, kcap, rfl, hkc, hkm, hkk⟩ := hks
          unfold maxLen at hkm
          rw [hu1] at x1 hup
          have hu0 : (0 : Int) ≤ (u : Int) := by omega
          have hst : placeGo L (L.length + 1) (n : Int) [] = placeGo L (L.length + 1 - (i + 1)) (u : Int) (kidsTo M (d : Int) s) := by
            rw [hgo.out, show L.length + 1 - i = (L.length + 1 - (i + 1)) + 1 by omega, place_succ, if_neg hdn, node_nat L d hd, hu1, node_nat L u hu2, hMe]
          have HST := Lib.hid hst
          have HM2 := Lib.hid hM2
          have HKK := Lib.hid hkk
          have HUP := Lib.hid hup
          clear hst hM2 hkk hMe hup hupt hgo hgo2 hk2 e1 e2 hx hy hu1 hdn
          go_wp2_with fail
          go_loop [5, 9] (fun sv kv => ∃ (t : Nat) (s' : List UInt8), t ≤ M.length ∧ kv = .int .i64 t ∧ sv = .string ⟨s'.toArray⟩ ∧ s'.length ≤ s.length + t * 65 ∧ Hid (kidsTo M (d : Int) s = kidsTo (M.drop t) (d : Int) s')) (fun _ kv => M.length - (intOf kv).toNat)
          case atStart => exact ⟨0, s, by omega, rfl, rfl, by omega, Lib.hid rfl⟩
          case round =>
            obtain ⟨t, s', htl, rfl, rfl, hsl', hkt⟩ := hrel
            by_cases htM : t < M.length
            · obtain ⟨c1, p1, rfl, z0, z1⟩ := HKK.out t htM
              have hnm := HM2.out M[t] (List.getElem_mem _)
              have hss := str_len s'
              have hsn := str_len M[t].1
              have hkd := kidsTo_drop M t htM (d : Int) s'
              have hcat := slash_cat3 M[t].1 s'
              cases hc : (M[t].2 == (d : Int)) with
              | true =>
                rw [if_pos (by simpa using hc)] at hkd
                have HKT := Lib.hid (hkt.out.trans hkd)
                clear hkd hkt
                go_wp2_with fail
                go_round
                case rel => exact ⟨t + 1, 47 :: M[t].1 ++ s', by omega, by go_num, rfl, by simp only [List.length_append, List.length_cons]; omega, HKT⟩
                case measure => simp [intOf] <;> omega
              | false =>
                rw [if_neg (by simpa using hc)] at hkd
                have HKT := Lib.hid (hkt.out.trans hkd)
                clear hkd hkt
                go_wp2_with fail
                go_round
                case rel => exact ⟨t + 1, s', by omega, by go_num, rfl, by omega, HKT⟩
                case measure => simp [intOf] <;> omega
            · have HKT := Lib.hid (show kidsTo M (d : Int) s = s' by rw [hkt.out, List.drop_eq_nil_of_le (by omega)]; rfl)
              clear hkt
              go_wp2_with fail
              go_round
              case rel => exact ⟨u, i + 1, s', hu2, HUP.out, by omega, rfl, by go_num, rfl, by omega, by rw [← HKT.out]; exact HST⟩
              case measure => simp [intOf] <;> omega
end Go.Proofs.YtclhpedecimicaaGreat

namespace Go.Proofs.YtclhpedecimicaaGreat
set_option maxRecDepth 100000
open Go Go.RowKit

theorem take_min (l : List UInt8) (n : Nat) : l.take (min n l.length) = l.take n := by
  rw [List.take_eq_take_iff]
  omega
theorem drop_min (l : List UInt8) (n : Nat) : l.drop (min n l.length) = l.drop n := by
  by_cases h : n ≤ l.length
  · rw [Nat.min_eq_left h]
  · rw [Nat.min_eq_right (by omega), List.drop_of_length_le (Nat.le_refl _), List.drop_of_length_le (by omega)]
/-- A part of a text, as a text. -/
theorem cut_text (s : ByteArray) (f k : Nat) (d : List UInt8) (h : (s.data.toList.take k).drop f = d) : s.extract f k = ⟨d.toArray⟩ := by
  apply ByteArray.ext
  apply Array.ext'
  rw [extract_list, h]
theorem slice_lo (s : ByteArray) (z : Int) (n : Nat) (hz : z = (n : Int)) (hn : n ≤ s.size) (W : World) : (Instr.slice 9 (.string s) (some (.int .i64 z)) none none).run Tryz.prog W = .ok (.string ⟨(s.data.toList.drop n).toArray⟩) W := by
  subst hz
  have h := run_slice_string_l (P := Tryz.prog) W 9 s Tryz.underlying9 .i64 (n : Int) (by omega) (by omega)
  rw [Int.toNat_natCast, cut_text s n s.size (s.data.toList.drop n) (by rw [List.take_of_length_le (by rw [Array.length_toList]; exact Nat.le_refl _)])] at h
  exact h
theorem slice_hi (s : ByteArray) (z : Int) (n : Nat) (hz : z = (n : Int)) (hn : n ≤ s.size) (W : World) : (Instr.slice 9 (.string s) none (some (.int .i64 z)) none).run Tryz.prog W = .ok (.string ⟨(s.data.toList.take n).toArray⟩) W := by
  subst hz
  have h := run_slice_string_h (P := Tryz.prog) W 9 s Tryz.underlying9 .i64 (n : Int) (by omega) (by omega)
  rw [Int.toNat_natCast, cut_text s 0 n (s.data.toList.take n) (by rw [List.drop_zero])] at h
  exact h
theorem text_nil {s : ByteArray} (h : s.data.toList = []) : s = ⟨#[]⟩ := by
  cases s with
  | mk d => simp at h; rw [h]
end Go.Proofs.YtclhpedecimicaaGreat

namespace Go.Proofs.YtclhpedecimicaaGreat
set_option maxRecDepth 100000
open Go Go.RowKit

theorem blk_cell {W : World} {k : Nat} {cs : Array Value} {t : TypeId} (h : W.heap[k]? = some (.cells cs t (0, 0))) (j : Nat) : W.cell? ⟨k, j, none⟩ = cs[j]? := cell_of_row W k j cs t (0, 0) h
theorem blk_free {W : World} {k : Nat} {cs : Array Value} {t : TypeId} (h : W.heap[k]? = some (.cells cs t (0, 0))) (j : Nat) : W.frozen? ⟨k, j, none⟩ = false := by simp [World.frozen?, h]
theorem blk_set {W : World} {k : Nat} {cs : Array Value} {t : TypeId} (h : W.heap[k]? = some (.cells cs t (0, 0))) (j : Nat) (u : Value) : (W.setCell ⟨k, j, none⟩ u).heap[k]? = some (.cells (cs.setIfInBounds j u) t (0, 0)) := by
  have hlt := lt_of_block h
  have h' : W.heap[k] = .cells cs t (0, 0) := by simpa [Array.getElem?_eq_getElem hlt] using h
  show (W.heap.modify k _)[k]? = _
  rw [Array.getElem?_eq_getElem (by simpa using hlt), Array.getElem_modify_self, h']
  rfl
/-- A tree is stored in a block of three. -/
def put3 (W : World) (k : Nat) (x y z : Value) : World := ((W.setCell ⟨k, 0, none⟩ x).setCell ⟨k, 1, none⟩ y).setCell ⟨k, 2, none⟩ z
theorem put3_block {W : World} {k : Nat} {a b c : Value} {t : TypeId} (h : W.heap[k]? = some (.cells #[a, b, c] t (0, 0))) (x y z : Value) : (put3 W k x y z).heap[k]? = some (.cells #[x, y, z] t (0, 0)) := blk_set (blk_set (blk_set h 0 x) 1 y) 2 z
theorem put3_cells {W : World} {k : Nat} {a b c : Value} {t : TypeId} (h : W.heap[k]? = some (.cells #[a, b, c] t (0, 0))) (x y z : Value) : (put3 W k x y z).cell? ⟨k, 0, none⟩ = some x ∧ (put3 W k x y z).cell? ⟨k, 1, none⟩ = some y ∧ (put3 W k x y z).cell? ⟨k, 2, none⟩ = some z :=
  ⟨blk_cell (put3_block h x y z) 0, blk_cell (put3_block h x y z) 1, blk_cell (put3_block h x y z) 2⟩
theorem put3_other {W : World} {k j : Nat} (h : j ≠ k) (x y z : Value) : (put3 W k x y z).heap[j]? = W.heap[j]? :=
  (Below.heap_setCell _ _ _ _ h).trans ((Below.heap_setCell _ _ _ _ h).trans (Below.heap_setCell _ _ _ _ h))
theorem put3_below {B : Nat} {w W : World} {k : Nat} (h : Below B w W) (hk : B ≤ k) (x y z : Value) : Below B w (put3 W k x y z) := ((h.setCell hk _).setCell hk _).setCell hk _
theorem put3_size (W : World) (k : Nat) (x y z : Value) : (put3 W k x y z).heap.size = W.heap.size := by unfold put3; simp [World.setCell]
/-- Two boxes that are laid one behind the other. -/
theorem two_boxes (w : World) (A B : Array Value) (s t : TypeId) : ∃ w2, w2 = (w.alloc (.cells A s)).alloc (.cells B t) ∧ Below w.heap.size w w2 ∧ w2.heap.size = w.heap.size + 2 ∧ w2.heap[w.heap.size]? = some (.cells A s (0, 0)) ∧ w2.heap[w.heap.size + 1]? = some (.cells B t (0, 0)) := by
  refine ⟨_, rfl, (below_box w _).alloc (by simp) _, by simp, ?_, ?_⟩
  · rw [Below.heap_alloc _ _ _ (by simp)]; exact new_block _ _
  · have := new_block (w.alloc (.cells A s)) (.cells B t)
    rw [World.size_alloc] at this
    exact this
end Go.Proofs.YtclhpedecimicaaGreat
