/-
  drop's spotAt of the landed code: where a path's last name stands, or could.
  drop's nameAt of the landed code: the spot of a name that is there and may go.
  Trees whose inodes lie in one block that may be written, whatever their names' slices are: for both sides of drop.
  nodes.Without, and the reference's: a directory's names without one.
  The reference's gone, of chapter 6: a name goes, in a tree that can be written.
  drop's take of the landed code: a name goes, in a tree that is one's own.
  The reference's Own: a copy of the slice of inodes, whose names' slices are shared.
  The reference's Named: the names of a directory with one more.
  The reference's Parent, walked.
  The reference's fresh, of chapter 5: a new name: its directory, and it.
-/
import Derived.Deep.RegionHeld3
import Derived.Test.YtmaiphibpdngnaaGreatK8
import Derived.Test.YtmaiphibpdngnaaGreatK6
import Derived.OrdersHeld
import Derived.Test.YtmaiphibpdngnaaGreatK7
import Derived.Test.YtmaiphibpdngnaaGreatK3
import Derived.BigRegion
import Derived.BigQuiet
import Derived.Deep.QuietTactic
import Derived.Laws.AppendOwnNone
import Derived.Test.YtmaiphibpdngnaaGreatK4
import Derived.Test.YtmaiphibpdngnaaGreatK1
import Derived.OwnWalk
namespace Go.Proofs.YtmaiphibpdngnaaGreat
set_option maxRecDepth 100000
open Go Go.RowKit

theorem findK_neg : ∀ (M : List (List UInt8 × Int)) (s : List UInt8), (∀ e ∈ M, 0 ≤ e.2) → findK M s < 0 → findK M s = -1
  | [], _, _, _ => rfl
  | e :: r, s, h, hn => by
    unfold findK at hn ⊢
    by_cases h1 : e.1 = s
    · rw [if_pos h1] at hn
      have := h e List.mem_cons_self
      omega
    · rw [if_neg h1] at hn ⊢
      exact findK_neg r s (fun x hx => h x (List.mem_cons_of_mem _ hx)) hn
theorem kid_neg {L : List Ino} {m b : Int} (hF : FitP L m b) {d : Int} {s : List UInt8} (h : kidL L d s < 0) : kidL L d s = -1 := by
  unfold kidL at h ⊢
  by_cases hd : dirB L d = true
  · rw [if_pos hd] at h ⊢
    obtain ⟨z, rfl, hz⟩ := dir_lt hd
    rw [node_nat L z hz] at h ⊢
    exact findK_neg _ _ (fun e he => there_pos (name_of hF.ins hz he).2) h
  · rw [if_neg hd]
theorem kid_lt {L : List Ino} {m b : Int} (hF : FitP L m b) {d : Int} {s : List UInt8} : kidL L d s < L.length := by
  rcases Int.lt_or_le (kidL L d s) 0 with h | h
  · omega
  · obtain ⟨z, hz, hzl⟩ := there_nat (live_there (kid_live hF h))
    rw [hz]
    omega

/-- A spot is stored in a block of four. -/
def put4 (W : World) (k : Nat) (x y z u : Value) : World := (((W.setCell ⟨k, 0, none⟩ x).setCell ⟨k, 1, none⟩ y).setCell ⟨k, 2, none⟩ z).setCell ⟨k, 3, none⟩ u
theorem put4_block {W : World} {k : Nat} {a b c d : Value} {t : TypeId} (h : W.heap[k]? = some (.cells #[a, b, c, d] t (0, 0))) (x y z u : Value) : (put4 W k x y z u).heap[k]? = some (.cells #[x, y, z, u] t (0, 0)) := blk_set (blk_set (blk_set (blk_set h 0 x) 1 y) 2 z) 3 u
theorem put4_cells {W : World} {k : Nat} {a b c d : Value} {t : TypeId} (h : W.heap[k]? = some (.cells #[a, b, c, d] t (0, 0))) (x y z u : Value) : (put4 W k x y z u).cell? ⟨k, 0, none⟩ = some x ∧ (put4 W k x y z u).cell? ⟨k, 1, none⟩ = some y ∧ (put4 W k x y z u).cell? ⟨k, 2, none⟩ = some z ∧ (put4 W k x y z u).cell? ⟨k, 3, none⟩ = some u :=
  ⟨blk_cell (put4_block h x y z u) 0, blk_cell (put4_block h x y z u) 1, blk_cell (put4_block h x y z u) 2, blk_cell (put4_block h x y z u) 3⟩
theorem put4_below {B : Nat} {w W : World} {k : Nat} (h : Below B w W) (hk : B ≤ k) (x y z u : Value) : Below B w (put4 W k x y z u) := (((h.setCell hk _).setCell hk _).setCell hk _).setCell hk _

/-- What spotAt tells: the directory, the name, its inode or -1, the slash, the error. -/
def dspotW (L : List Ino) (cwd : Int) (p : List UInt8) : Int × List UInt8 × Int × Bool × Int :=
  if (parentW L cwd p).2.2 ≠ 0 then (0, [], 0, false, (parentW L cwd p).2.2) else ((parentW L cwd p).1, (parentW L cwd p).2.1, kidL L (parentW L cwd p).1 (parentW L cwd p).2.1, endL p, 0)

set_option maxHeartbeats 4000000 in
theorem lspot_any (a : Option Addr) (cap : Nat) (m b cwd : Int) (pb : ByteArray) (hp : pb.size ≤ 1073741824) (L : List Ino) (hF : FitP L m b) (z : Int) (s : List UInt8) (k : Int) (sl : Bool) (er : Int) (hz : dspotW L cwd pb.data.toList = (z, s, k, sl, er)) (w : World) (hN : NodesIn w a cap L) :
    Calls Tryz.prog 45 #[.agg #[.slice a L.length cap, .int .i64 m, .int .i64 b], .int .i64 cwd, .string pb] w fun e w' => e = .returned (.tuple #[spotV z s k sl, .int .i64 er]) ∧ Below w.heap.size w w' := by
  obtain ⟨⟨d, nm, pe⟩, hpar⟩ : ∃ r, parentW L cwd pb.data.toList = r := ⟨_, rfl⟩
  obtain ⟨w2, hw2, hb2, hs2, hA, hB⟩ := two_boxes w #[.slice a L.length cap, .int .i64 m, .int .i64 b] #[.int .i64 0, .string ⟨#[]⟩, .int .i64 0, .bool false] 24 62
  have hL1 : L.length ≤ 256 := (fit_small hF).1
  have HP := Lib.hid hpar
  have HF := Lib.hid hF
  have HN := Lib.hid (hN.below hb2)
  have HZ := Lib.hid hz
  have HA := Lib.hid (show ∀ W, Below w2.heap.size w2 W → TreeBx W w.heap.size a cap L.length m b from fun W hW => tree_block ((hW.block w.heap.size (by omega)).trans hA))
  have HB := Lib.hid (show ∀ W, Below w2.heap.size w2 W → W.heap[w.heap.size + 1]? = some (.cells #[.int .i64 0, .string ⟨#[]⟩, .int .i64 0, .bool false] 62 (0, 0)) from fun W hW => (hW.block _ (by omega)).trans hB)
  have HE := Lib.hid (show ∀ W, Below w2.heap.size w2 W → ∀ x y z u, Below w.heap.size w (put4 W (w.heap.size + 1) x y z u) from fun W hW x y z u => put4_below (hb2.trans (hW.mono (by omega))) (by omega) x y z u)
  clear hpar hF hN hz hA hB hb2
  go_enter Tryz.func45, Tryz.ntmps45
  go_wp2_with fail
  rw [← hw2]
  clear hw2
  refine (lpar_known _ _ _ _ _ _ hp L HF.out _ _ _ HP.out _ HN.out).mono ?_
  rintro e w3 ⟨rfl, hb3⟩
  have HB3 := Lib.hid hb3
  have hs3 := hb3.size
  clear hb3
  have hz2 := HZ.out
  unfold dspotW at hz2
  rw [HP.out] at hz2
  by_cases h1 : pe = 0
  · subst h1
    simp only [ne_eq, not_true_eq_false, if_false, Prod.mk.injEq] at hz2
    obtain ⟨rfl, rfl, hk, hsl, rfl⟩ := hz2
    have HK := Lib.hid hk
    have HSL := Lib.hid hsl
    have q0 := (HA.out _ HB3.out).t0
    have q1 := (HA.out _ HB3.out).t1
    have q2 := (HA.out _ HB3.out).t2
    have hq := cell_lt q0
    clear hk hsl
    go_wp2_with fail
    refine (lkid_known _ _ _ _ _ _ L (kids_rise HF.out.ins) _ HK.out _ (HN.out.below HB3.out)).mono ?_
    rintro e w4 ⟨rfl, hb4⟩
    have HB4 := Lib.hid (HB3.out.trans (hb4.mono HB3.out.size))
    clear hb4 q0 q1 q2 hq
    have q0 := (HA.out _ HB4.out).t0
    have q1 := (HA.out _ HB4.out).t1
    have q2 := (HA.out _ HB4.out).t2
    have hq := cell_lt q0
    have hBx := HB.out _ HB4.out
    have r0 := blk_cell hBx 0
    have r1 := blk_cell hBx 1
    have r2 := blk_cell hBx 2
    have r3 := blk_cell hBx 3
    have s0 := blk_free hBx 0
    have s1 := blk_free hBx 1
    have s2 := blk_free hBx 2
    have s3 := blk_free hBx 3
    have hlx := lt_of_block hBx
    have HBX := Lib.hid hBx
    have hsz : pb.size ≤ 9223372036854775807 := by omega
    have hkl := kid_lt HF.out (d := d) (s := nm)
    rw [HK.out] at hkl
    have hkl' : ¬ ((L.length : Int) ≤ k) := by omega
    clear hBx hkl
    by_cases hk0 : k < 0
    · have hkm : k = -1 := by rw [← HK.out]; exact kid_neg HF.out (by rw [HK.out]; exact hk0)
      subst hkm
      go_wp2_with (first | (go_at_call 78; refine (hassuf_known _ hp _ HSL.out _).mono ?_; rintro e w' ⟨rfl, rfl⟩) | fail)
      change bodyPost _ _ _ _ _ (put4 w4 (w.heap.size + 1) (.int .i64 d) (.string ⟨nm.toArray⟩) (.int .i64 (-1)) (.bool sl))
      obtain ⟨c0, c1, c2, c3⟩ := put4_cells HBX.out (.int .i64 d) (.string ⟨nm.toArray⟩) (.int .i64 (-1)) (.bool sl)
      have HBF := Lib.hid (HE.out w4 HB4.out (.int .i64 d) (.string ⟨nm.toArray⟩) (.int .i64 (-1)) (.bool sl))
      generalize put4 w4 (w.heap.size + 1) (.int .i64 d) (.string ⟨nm.toArray⟩) (.int .i64 (-1)) (.bool sl) = wF at *
      exact bodyPost_ret (v := .tuple #[spotV d nm (-1) sl, .int .i64 0]) (by simp [results, Tryz.results45, go_sem, c0, c1, c2, c3, spotV]) rfl ⟨rfl, HBF.out⟩
    · have hk1 : ¬ (k < 0) := hk0
      go_wp2_with (first | (go_at_call 78; refine (hassuf_known _ hp _ HSL.out _).mono ?_; rintro e w' ⟨rfl, rfl⟩) | fail)
      change bodyPost _ _ _ _ _ (put4 w4 (w.heap.size + 1) (.int .i64 d) (.string ⟨nm.toArray⟩) (.int .i64 k) (.bool sl))
      obtain ⟨c0, c1, c2, c3⟩ := put4_cells HBX.out (.int .i64 d) (.string ⟨nm.toArray⟩) (.int .i64 k) (.bool sl)
      have HBF := Lib.hid (HE.out w4 HB4.out (.int .i64 d) (.string ⟨nm.toArray⟩) (.int .i64 k) (.bool sl))
      generalize put4 w4 (w.heap.size + 1) (.int .i64 d) (.string ⟨nm.toArray⟩) (.int .i64 k) (.bool sl) = wF at *
      exact bodyPost_ret (v := .tuple #[spotV d nm k sl, .int .i64 0]) (by simp [results, Tryz.results45, go_sem, c0, c1, c2, c3, spotV]) rfl ⟨rfl, HBF.out⟩
  · simp only [h1, ne_eq, not_false_eq_true, if_true, Prod.mk.injEq] at hz2
    obtain ⟨rfl, rfl, rfl, rfl, rfl⟩ := hz2
    have hb1 : (pe != 0) = true := by simpa using h1
    have hBx := HB.out _ HB3.out
    have r0 := blk_cell hBx 0
    have r1 := blk_cell hBx 1
    have r2 := blk_cell hBx 2
    have r3 := blk_cell hBx 3
    have s0 := blk_free hBx 0
    have s1 := blk_free hBx 1
    have s2 := blk_free hBx 2
    have s3 := blk_free hBx 3
    have hlx := lt_of_block hBx
    have HBX := Lib.hid hBx
    clear hBx
    go_wp2_with fail
    change bodyPost _ _ _ _ _ (put4 w3 (w.heap.size + 1) (.int .i64 0) (.string ⟨#[]⟩) (.int .i64 0) (.bool false))
    obtain ⟨c0, c1, c2, c3⟩ := put4_cells HBX.out (.int .i64 0) (.string ⟨#[]⟩) (.int .i64 0) (.bool false)
    have HBF := Lib.hid (HE.out w3 HB3.out (.int .i64 0) (.string ⟨#[]⟩) (.int .i64 0) (.bool false))
    generalize put4 w3 (w.heap.size + 1) (.int .i64 0) (.string ⟨#[]⟩) (.int .i64 0) (.bool false) = wF at *
    exact bodyPost_ret (v := .tuple #[spotV 0 [] 0 false, .int .i64 pe]) (by simp [results, Tryz.results45, go_sem, c0, c1, c2, c3, spotV]) rfl ⟨rfl, HBF.out⟩
end Go.Proofs.YtmaiphibpdngnaaGreat

namespace Go.Proofs.YtmaiphibpdngnaaGreat
set_option maxRecDepth 100000
open Go Go.RowKit

/-- What nameAt tells. -/
def dnameS (L : List Ino) (cwd : Int) (p : List UInt8) : Int × List UInt8 × Int × Bool × Int :=
  if (parentW L cwd p).2.2 ≠ 0 then (0, [], 0, false, (parentW L cwd p).2.2) else
  ((parentW L cwd p).1, (parentW L cwd p).2.1, kidL L (parentW L cwd p).1 (parentW L cwd p).2.1, endL p,
    if ((parentW L cwd p).2.1 == [46] || (parentW L cwd p).2.1 == [46, 46]) = true then 22 else if (kidL L (parentW L cwd p).1 (parentW L cwd p).2.1 == -1) = true then 2 else if (!mayL L (parentW L cwd p).1 3) = true then 13 else 0)
/-- The row of nameAt's questions. -/
def nameAsks (Bt Bs : Nat) (s : List UInt8) (k : Int) (v : Bool) : List Ask :=
  [⟨22, 72, #[.pointer (some ⟨Bs, 0, none⟩)], s == [46] || s == [46, 46]⟩, ⟨2, 73, #[.pointer (some ⟨Bs, 0, none⟩)], k == -1⟩, ⟨13, 74, #[.pointer (some ⟨Bt, 0, none⟩), .pointer (some ⟨Bs, 0, none⟩)], !v⟩]
/-- A row of questions as it lies. -/
def askC : List Ask → List Value
  | [] => []
  | x :: r => .int .i64 x.err :: .func (.func x.fid) #[] x.lb :: askC r
theorem askC_get : ∀ (A : List Ask) (i : Nat) (h : i < A.length), (askC A)[i * 2]? = some (.int .i64 A[i].err) ∧ (askC A)[i * 2 + 1]? = some (.func (.func A[i].fid) #[] A[i].lb)
  | x :: r, 0, _ => ⟨rfl, rfl⟩
  | x :: r, i + 1, h => by
    have := askC_get r i (Nat.lt_of_succ_lt_succ h)
    rw [show (i + 1) * 2 = i * 2 + 1 + 1 by omega, askC, List.getElem?_cons_succ, List.getElem?_cons_succ, List.getElem?_cons_succ, List.getElem?_cons_succ]
    exact this
theorem ask_block {W : World} {g : Nat} {A : List Ask} {t : TypeId} (h : W.heap[g]? = some (.cells (askC A).toArray t (0, 0))) (i : Nat) (hi : i < A.length) : W.cell? ⟨g, i * 2, none⟩ = some (.int .i64 A[i].err) ∧ W.cell? ⟨g, i * 2 + 1, none⟩ = some (.func (.func A[i].fid) #[] A[i].lb) := by
  rw [blk_cell h, blk_cell h]
  have := askC_get A i hi
  simpa using this

theorem put4_keep {W : World} {c k : Nat} (h : c ≠ k) {a b d e : Value} (h0 : W.cell? ⟨c, 0, none⟩ = some a) (h1 : W.cell? ⟨c, 1, none⟩ = some b) (h2 : W.cell? ⟨c, 2, none⟩ = some d) (h3 : W.cell? ⟨c, 3, none⟩ = some e) (x y z u : Value) :
    (put4 W k x y z u).cell? ⟨c, 0, none⟩ = some a ∧ (put4 W k x y z u).cell? ⟨c, 1, none⟩ = some b ∧ (put4 W k x y z u).cell? ⟨c, 2, none⟩ = some d ∧ (put4 W k x y z u).cell? ⟨c, 3, none⟩ = some e := by
  have hb : (put4 W k x y z u).heap[c]? = W.heap[c]? := (Below.heap_setCell _ _ _ _ h).trans ((Below.heap_setCell _ _ _ _ h).trans ((Below.heap_setCell _ _ _ _ h).trans (Below.heap_setCell _ _ _ _ h)))
  exact ⟨(World.cell?_of_block (a := ⟨c, 0, none⟩) hb).trans h0, (World.cell?_of_block (a := ⟨c, 1, none⟩) hb).trans h1, (World.cell?_of_block (a := ⟨c, 2, none⟩) hb).trans h2, (World.cell?_of_block (a := ⟨c, 3, none⟩) hb).trans h3⟩

set_option maxHeartbeats 4000000 in
theorem lname_at_any (a : Option Addr) (cap : Nat) (m b cwd : Int) (pb : ByteArray) (hp : pb.size ≤ 1073741824) (L : List Ino) (hF : FitP L m b) (z : Int) (s : List UInt8) (k : Int) (sl : Bool) (er : Int) (hz : dnameS L cwd pb.data.toList = (z, s, k, sl, er)) (w : World) (hN : NodesIn w a cap L) :
    Calls Tryz.prog 44 #[.agg #[.slice a L.length cap, .int .i64 m, .int .i64 b], .int .i64 cwd, .string pb] w fun e w' => e = .returned (.tuple #[spotV z s k sl, .int .i64 er]) ∧ Below w.heap.size w w' := by
  obtain ⟨⟨d, nm, pe⟩, hpar⟩ : ∃ r, parentW L cwd pb.data.toList = r := ⟨_, rfl⟩
  obtain ⟨w2, hw2, hb2, hs2, hA, hB⟩ := two_boxes w #[.slice a L.length cap, .int .i64 m, .int .i64 b] #[.int .i64 0, .string ⟨#[]⟩, .int .i64 0, .bool false] 24 62
  have hL1 : L.length ≤ 256 := (fit_small hF).1
  have HP := Lib.hid hpar
  have HF := Lib.hid hF
  have HN := Lib.hid (hN.below hb2)
  have HZ := Lib.hid hz
  have HA := Lib.hid (show ∀ W, Below w2.heap.size w2 W → TreeBx W w.heap.size a cap L.length m b from fun W hW => tree_block ((hW.block w.heap.size (by omega)).trans hA))
  have HB := Lib.hid (show ∀ W, Below w2.heap.size w2 W → W.heap[w.heap.size + 1]? = some (.cells #[.int .i64 0, .string ⟨#[]⟩, .int .i64 0, .bool false] 62 (0, 0)) from fun W hW => (hW.block _ (by omega)).trans hB)
  have HE := Lib.hid (show ∀ W, Below w2.heap.size w2 W → ∀ x y z u, Below w.heap.size w (put4 W (w.heap.size + 1) x y z u) from fun W hW x y z u => put4_below (hb2.trans (hW.mono (by omega))) (by omega) x y z u)
  clear hpar hF hN hz hA hB hb2
  have hz2 := HZ.out
  unfold dnameS at hz2
  rw [HP.out] at hz2
  by_cases h1 : pe = 0
  · subst h1
    simp only [ne_eq, not_true_eq_false, if_false, Prod.mk.injEq] at hz2
    obtain ⟨rfl, rfl, hk, hsl, her⟩ := hz2
    have HSP := Lib.hid (show dspotW L cwd pb.data.toList = (d, nm, k, sl, 0) by unfold dspotW; rw [HP.out]; simp [hk, hsl])
    obtain ⟨mv, hmv⟩ : ∃ v, mayL L d 3 = v := ⟨_, rfl⟩
    rw [hk, hmv] at her
    have HER := Lib.hid her
    have HMV := Lib.hid hmv
    clear hk hsl her hmv
    go_enter Tryz.func44, Tryz.ntmps44
    go_wp2_with fail
    rw [← hw2]
    clear hw2
    refine (lspot_any _ _ _ _ _ _ hp L HF.out _ _ _ _ _ HSP.out _ HN.out).mono ?_
    rintro e w3 ⟨rfl, hb3⟩
    have HB3 := Lib.hid hb3
    have hs3 := hb3.size
    unfold spotV
    clear hb3
    go_wp2_with fail
    obtain ⟨w4, hw4⟩ : ∃ w4, w4 = w3.alloc (.cells #[.int .i64 d, .string ⟨nm.toArray⟩, .int .i64 k, .bool sl] 62) := ⟨_, rfl⟩
    rw [← hw4]
    have hb4 : Below w3.heap.size w3 w4 := by rw [hw4]; exact below_box w3 _
    have hS4 : w4.heap[w3.heap.size]? = some (.cells #[.int .i64 d, .string ⟨nm.toArray⟩, .int .i64 k, .bool sl] 62 (0, 0)) := by rw [hw4]; exact new_block w3 _
    have hs4 : w4.heap.size = w3.heap.size + 1 := by rw [hw4]; simp
    have HB4 := Lib.hid (HB3.out.trans (hb4.mono hs3))
    have HS4 := Lib.hid hS4
    obtain ⟨x0, x1, x2, x3⟩ := spot_block hS4
    have gx := lt_of_block hS4
    have HALL := Lib.hid (show ∀ W, Below w4.heap.size w4 W → SpotIn W w3.heap.size d nm k sl ∧ TreeBx W w.heap.size a cap L.length m b ∧ NodesIn W a cap L from fun W hW => ⟨(spot_block hS4).below hW, HA.out _ (HB4.out.trans (hW.mono HB4.out.size)), HN.out.below (HB4.out.trans (hW.mono HB4.out.size))⟩)
    have HRES := Lib.hid (show ∀ W, Below w4.heap.size w4 W → W.heap[w.heap.size + 1]? = some (.cells #[.int .i64 0, .string ⟨#[]⟩, .int .i64 0, .bool false] 62 (0, 0)) ∧ Below w2.heap.size w2 W from fun W hW => ⟨HB.out _ (HB4.out.trans (hW.mono HB4.out.size)), HB4.out.trans (hW.mono HB4.out.size)⟩)
    have hcall : Calls Tryz.prog 46 #[.slice (some ⟨w3.heap.size + 1, 0, none⟩) 3 3] ((w4.alloc (.cells #[.int .i64 22, .func (.func 72) #[] #[.pointer (some ⟨w3.heap.size, 0, none⟩)], .int .i64 2, .func (.func 73) #[] #[.pointer (some ⟨w3.heap.size, 0, none⟩)], .int .i64 13, .func (.func 74) #[] #[.pointer (some ⟨w.heap.size, 0, none⟩), .pointer (some ⟨w3.heap.size, 0, none⟩)]] 66)).drew)
        fun e w' => e = .returned (.int .i64 er) ∧ Below w4.heap.size w4 w' := by
      obtain ⟨W, hW⟩ : ∃ W, W = (w4.alloc (.cells (askC (nameAsks w.heap.size w3.heap.size nm k mv)).toArray 66)).drew := ⟨_, rfl⟩
      have hbW : Below w4.heap.size w4 W := by rw [hW]; exact ((Below.refl _ w4).alloc (Nat.le_refl _) _).drew
      have hgW : W.heap[w3.heap.size + 1]? = some (.cells (askC (nameAsks w.heap.size w3.heap.size nm k mv)).toArray 66 (0, 0)) := by rw [hW, ← hs4]; exact new_block w4 _
      have hfst := lfirst_any (nameAsks w.heap.size w3.heap.size nm k mv) (show 3 ≤ 1000 by decide) (w3.heap.size + 1) 3 (show 3 ≤ 3 by decide) (by decide) W (fun i hi => ask_block hgW i hi) (fun i hi => by
        have hi3 : i < 3 := hi
        match i, hi3 with
        | 0, _ => exact ⟨enters_of Tryz.func72 (by kernel_rfl) rfl, fun V hV => cname1 _ _ _ _ _ V (HALL.out V (hbW.trans (hV.mono hbW.size))).1⟩
        | 1, _ => exact ⟨enters_of Tryz.func73 (by kernel_rfl) rfl, fun V hV => cname2 _ _ _ _ _ V (HALL.out V (hbW.trans (hV.mono hbW.size))).1⟩
        | 2, _ => exact ⟨enters_of Tryz.func74 (by kernel_rfl) rfl, fun V hV => by
            obtain ⟨g1, g2, g3⟩ := HALL.out V (hbW.trans (hV.mono hbW.size))
            exact cname3 _ _ _ _ _ L HF.out _ _ _ _ _ V g2 g3 g1 mv HMV.out⟩)
      have he : firstW (nameAsks w.heap.size w3.heap.size nm k mv) = er := HER.out
      rw [he] at hfst
      rw [hW] at hfst
      refine Calls.mono hfst ?_
      rintro e w' ⟨h1, h2⟩
      exact ⟨h1, by rw [← hW] at h2; exact hbW.trans (h2.mono hbW.size)⟩
    have HCALL := Lib.hid hcall
    clear hw4 hb4 hS4 hcall
    have HX := Lib.hid (show ∀ W, Below w4.heap.size w4 W → SpotIn W w3.heap.size d nm k sl from fun W hW => (HALL.out W hW).1)
    have hS0 : SpotIn w4.drew w3.heap.size d nm k sl := HX.out _ (by exact ⟨rfl, rfl, rfl, Nat.le_refl _, fun _ _ => rfl⟩)
    clear x0 x1 x2 x3
    refine wp_region_held (S := fun W => SpotIn W w3.heap.size d nm k sl) (by kernel_rfl) ?_
    refine wpAnyH_take (i := 0) (v := ?_) rfl (by kernel_rfl) (by kernel_rfl) (by kernel_rfl) (fun _ _ _ h => h) (Or.inl ⟨by rfl, ?hy0⟩) hS0 ?rest0
    case hy0 => intro W' hSw; (obtain ⟨x0, x1, x2, x3⟩ := hSw); go_simp <;> with_reducible rfl
    try simp only [Act.put, List.setIfInBounds_toArray]
    refine wpAnyH_take (i := 1) (v := ?_) rfl (by kernel_rfl) (by kernel_rfl) (by kernel_rfl) (fun _ _ _ h => h) (Or.inl ⟨by rfl, ?hy1⟩) hS0 ?rest1
    case hy1 => intro W' hSw; go_simp <;> with_reducible rfl
    try simp only [Act.put]
    refine wpAnyH_take (i := 2) (v := ?_) rfl (by kernel_rfl) (by kernel_rfl) (by kernel_rfl) (fun _ _ _ h => h) (Or.inl ⟨by rfl, ?hy2⟩) hS0 ?rest2
    case hy2 => intro W' hSw; go_simp <;> with_reducible rfl
    try simp only [Act.put]
    refine wpAnyH_take (i := 3) (v := ?_) rfl (by kernel_rfl) (by kernel_rfl) (by kernel_rfl) (fun _ _ _ h => h) (Or.inl ⟨by rfl, ?hy3⟩) hS0 ?rest3
    case hy3 => intro W' hSw; go_simp <;> with_reducible rfl
    try simp only [Act.put]
    refine wpAnyH_take (i := 4) (v := ?_) rfl (by kernel_rfl) (by kernel_rfl) (by kernel_rfl) (fun _ _ _ h => h) (Or.inl ⟨by rfl, ?hy4⟩) hS0 ?rest4
    case hy4 => intro W' hSw; go_simp <;> with_reducible rfl
    try simp only [Act.put]
    refine wpAnyH_take (i := 5) (v := ?_) rfl (by kernel_rfl) (by kernel_rfl) (by kernel_rfl) (fun _ _ _ h => h) (Or.inl ⟨by rfl, ?hy5⟩) hS0 ?rest5
    case hy5 => intro W' hSw; go_simp <;> with_reducible rfl
    try simp only [Act.put]
    refine wpAnyH_take (i := 6) (v := ?_) rfl (by kernel_rfl) (by kernel_rfl) (by kernel_rfl) (fun _ _ _ h => h) (Or.inl ⟨by rfl, ?hy6⟩) hS0 ?rest6
    case hy6 => intro W' hSw; go_simp <;> with_reducible rfl
    try simp only [Act.put]
    refine wpAnyH_ready (rs := [7]) (by kernel_rfl) (by simp) ?_
    refine AllReadyH.cons rfl (fun K hK => ?_) AllReadyH.nil
    go_simp
    refine hK.out _ _ (HX.out _ ((below_box w4 _).trans ⟨rfl, rfl, rfl, by simp, fun _ _ => rfl⟩)) (fun _ => ?_)
    clear hK K
    try simp only [Act.put]
    refine wpAnyH_ready (rs := [8]) (by kernel_rfl) (by simp) ?_
    refine AllReadyH.cons rfl (fun K hK => ?_) AllReadyH.nil
    go_simp
    refine HCALL.out.mono ?_
    rintro e wn ⟨rfl, hbn⟩
    refine hK.out _ _ (HX.out _ hbn) (fun _ => ?_)
    clear hK K
    try simp only [Act.put]
    have HBN := Lib.hid hbn
    have hBx := (HRES.out _ hbn).1
    have HBX := Lib.hid hBx
    have r0 := blk_cell hBx 0
    have r1 := blk_cell hBx 1
    have r2 := blk_cell hBx 2
    have r3 := blk_cell hBx 3
    have s0 := blk_free hBx 0
    have s1 := blk_free hBx 1
    have s2 := blk_free hBx 2
    have s3 := blk_free hBx 3
    have hlx := lt_of_block hBx
    obtain ⟨x0, x1, x2, x3⟩ := HX.out _ hbn
    have HSF := Lib.hid (put4_keep (show w3.heap.size ≠ w.heap.size + 1 by omega) x0 x1 x2 x3 (.int .i64 d) (.string ⟨nm.toArray⟩) (.int .i64 k) (.bool sl))
    clear hBx hbn
    refine wpAnyH_ready (rs := [9]) (by kernel_rfl) (by simp) ?_
    refine AllReadyH.cons rfl (fun K hK => ?_) AllReadyH.nil
    go_simp
    refine hK.out _ _ (by obtain ⟨y0, y1, y2, y3⟩ := HSF.out; exact ⟨y0, y1, y2, y3⟩) (fun _ => ?_)
    clear hK K r0 r1 r2 r3 s0 s1 s2 s3
    try simp only [Act.put]
    refine wpAnyH_ready (rs := [10]) (by kernel_rfl) (by simp) ?_
    refine AllReadyH.cons rfl (fun K hK => ?_) AllReadyH.nil
    go_simp
    refine hK.out _ _ (by obtain ⟨y0, y1, y2, y3⟩ := HSF.out; exact ⟨y0, y1, y2, y3⟩) (fun _ => ?_)
    clear hK K
    refine wpAnyH_done (by kernel_rfl) ?_ _
    go_wp2_with fail
    change bodyPost _ _ _ _ _ (put4 wn (w.heap.size + 1) (.int .i64 d) (.string ⟨nm.toArray⟩) (.int .i64 k) (.bool sl))
    obtain ⟨c0, c1, c2, c3⟩ := put4_cells HBX.out (.int .i64 d) (.string ⟨nm.toArray⟩) (.int .i64 k) (.bool sl)
    have HBF := Lib.hid (HE.out wn (HRES.out _ HBN.out).2 (.int .i64 d) (.string ⟨nm.toArray⟩) (.int .i64 k) (.bool sl))
    generalize put4 wn (w.heap.size + 1) (.int .i64 d) (.string ⟨nm.toArray⟩) (.int .i64 k) (.bool sl) = wF at *
    exact bodyPost_ret (v := .tuple #[spotV d nm k sl, .int .i64 er]) (by simp [results, Tryz.results44, go_sem, c0, c1, c2, c3, spotV]) rfl ⟨rfl, HBF.out⟩
  · simp only [h1, ne_eq, not_false_eq_true, if_true, Prod.mk.injEq] at hz2
    obtain ⟨rfl, rfl, rfl, rfl, rfl⟩ := hz2
    have HSP := Lib.hid (show dspotW L cwd pb.data.toList = (0, [], 0, false, pe) by unfold dspotW; rw [HP.out]; simp [h1])
    have hb1 : (pe != 0) = true := by simpa using h1
    go_enter Tryz.func44, Tryz.ntmps44
    go_wp2_with fail
    rw [← hw2]
    clear hw2
    refine (lspot_any _ _ _ _ _ _ hp L HF.out _ _ _ _ _ HSP.out _ HN.out).mono ?_
    rintro e w3 ⟨rfl, hb3⟩
    have HB3 := Lib.hid hb3
    have hs3 := hb3.size
    unfold spotV
    have hBx := HB.out _ HB3.out
    have r0 := blk_cell hBx 0
    have r1 := blk_cell hBx 1
    have r2 := blk_cell hBx 2
    have r3 := blk_cell hBx 3
    have s0 := blk_free hBx 0
    have s1 := blk_free hBx 1
    have s2 := blk_free hBx 2
    have s3 := blk_free hBx 3
    have hlx := lt_of_block hBx
    have HBX := Lib.hid hBx
    clear hb3 hBx
    go_wp2_with fail
    change bodyPost _ _ _ _ _ ((put4 w3 (w.heap.size + 1) (.int .i64 0) (.string ⟨#[]⟩) (.int .i64 0) (.bool false)).alloc (.cells #[.int .i64 0, .string ⟨#[]⟩, .int .i64 0, .bool false] 62))
    obtain ⟨c0, c1, c2, c3⟩ := put4_cells HBX.out (.int .i64 0) (.string ⟨#[]⟩) (.int .i64 0) (.bool false)
    have hbf := HE.out w3 HB3.out (.int .i64 0) (.string ⟨#[]⟩) (.int .i64 0) (.bool false)
    have hbx := below_box (put4 w3 (w.heap.size + 1) (.int .i64 0) (.string ⟨#[]⟩) (.int .i64 0) (.bool false)) (.cells #[.int .i64 0, .string ⟨#[]⟩, .int .i64 0, .bool false] 62)
    have d0 := cell_below hbx c0
    have d1 := cell_below hbx c1
    have d2 := cell_below hbx c2
    have d3 := cell_below hbx c3
    have HBF := Lib.hid (hbf.trans (hbx.mono hbf.size))
    clear c0 c1 c2 c3 hbf hbx
    generalize (put4 w3 (w.heap.size + 1) (.int .i64 0) (.string ⟨#[]⟩) (.int .i64 0) (.bool false)).alloc (.cells #[.int .i64 0, .string ⟨#[]⟩, .int .i64 0, .bool false] 62) = wF at *
    exact bodyPost_ret (v := .tuple #[spotV 0 [] 0 false, .int .i64 pe]) (by simp [results, Tryz.results44, go_sem, d0, d1, d2, d3, spotV]) rfl ⟨rfl, HBF.out⟩
end Go.Proofs.YtmaiphibpdngnaaGreat

namespace Go.Proofs.YtmaiphibpdngnaaGreat
set_option maxRecDepth 100000
open Go Go.RowKit

theorem sets_keep : ∀ (l : List Value) (b o : Nat) (W : World), (W.setCells b o l).os = W.os ∧ (W.setCells b o l).tape = W.tape ∧ (W.setCells b o l).output = W.output
  | [], _, _, _ => ⟨rfl, rfl, rfl⟩
  | v :: r, b, o, W => sets_keep r b (o + 1) (W.setCell ⟨b, o, none⟩ v)

/-- All that was there but block g is as it was. -/
structure Off (g : Nat) (w w' : World) : Prop where
  os : w'.os = w.os
  tape : w'.tape = w.tape
  output : w'.output = w.output
  size : w.heap.size ≤ w'.heap.size
  block : ∀ j, j ≠ g → j < w.heap.size → w'.heap[j]? = w.heap[j]?
section
variable {g : Nat} {w w' w'' : World}
theorem Off.refl (g : Nat) (w : World) : Off g w w := ⟨rfl, rfl, rfl, Nat.le_refl _, fun _ _ _ => rfl⟩
theorem Off.trans (h : Off g w w') (k : Off g w' w'') : Off g w w'' := ⟨k.os.trans h.os, k.tape.trans h.tape, k.output.trans h.output, Nat.le_trans h.size k.size, fun j hj hl => (k.block j hj (Nat.lt_of_lt_of_le hl h.size)).trans (h.block j hj hl)⟩
theorem Off.of_below (h : Below w.heap.size w w') : Off g w w' := ⟨h.os, h.tape, h.output, h.size, fun j _ hl => h.block j hl⟩
theorem Off.below (h : Off g w w') {B : Nat} (hg : B ≤ g) (hB : B ≤ w.heap.size) : Below B w w' := ⟨h.os, h.tape, h.output, h.size, fun j hj => h.block j (by omega) (by omega)⟩
theorem Off.set (h : Off g w w') (o : Nat) (v : Value) : Off g w (w'.setCell ⟨g, o, none⟩ v) := ⟨h.os, h.tape, h.output, by simpa [World.setCell] using h.size, fun j hj hl => (Below.heap_setCell _ _ _ _ hj).trans (h.block j hj hl)⟩
theorem Off.sets (h : Off g w w') (o : Nat) (l : List Value) : Off g w (w'.setCells g o l) := by
  obtain ⟨h1, h2, h3⟩ := sets_keep l g o w'
  exact ⟨h1.trans h.os, h2.trans h.tape, h3.trans h.output, by rw [size_sets]; exact h.size, fun j hj hl => (heap_sets _ _ _ _ _ hj).trans (h.block j hj hl)⟩
end

theorem KidsIn.cells {W W' : World} {v : Value} {K : List (List UInt8 × Int)} (h : KidsIn W v K) (hb : ∀ j, j < W.heap.size → W'.heap[j]? = W.heap[j]?) : KidsIn W' v K := by
  obtain ⟨a, cap, h1, h2, h3, h4⟩ := h
  refine ⟨a, cap, h1, h2, h3, fun i hi => ?_⟩
  obtain ⟨b, o, e1, e2, e3⟩ := h4 i hi
  have hl := cell_lt e2
  exact ⟨b, o, e1, (World.cell?_of_block (a := ⟨b, o + i * 2, none⟩) (hb b hl)).trans e2, (World.cell?_of_block (a := ⟨b, o + i * 2 + 1, none⟩) (hb b hl)).trans e3⟩

/-- Block g holds the inodes L, whose names' slices are vs and lie elsewhere. -/
structure RefT (W : World) (g cap : Nat) (L : List Ino) (vs : List Value) : Prop where
  nodes : NodesOwn W g cap L vs
  kids : ∀ i (hi : i < L.length) (hv : i < vs.length) (W' : World), (∀ j, j ≠ g → j < W.heap.size → W'.heap[j]? = W.heap[j]?) → KidsIn W' vs[i] L[i].kids
section
variable {W W' : World} {base g cap : Nat} {L : List Ino} {vs : List Value}
theorem RefT.nodesIn (h : RefT W g cap L vs) : NodesIn W (some ⟨g, 0, none⟩) cap L := h.nodes.nodesIn fun i hi hv => h.kids i hi hv W fun _ _ _ => rfl
theorem RefT.stay (h : RefT W g cap L vs) (hs : W.heap.size ≤ W'.heap.size) (hb : ∀ j, j < W.heap.size → W'.heap[j]? = W.heap[j]?) : RefT W' g cap L vs :=
  ⟨h.nodes.same (hb g h.nodes.lt), fun i hi hv W'' hw => h.kids i hi hv W'' fun j hj hl => (hw j hj (Nat.lt_of_lt_of_le hl hs)).trans (hb j hl)⟩
theorem RefT.below (h : RefT W g cap L vs) (hb : Below W.heap.size W W') : RefT W' g cap L vs := h.stay hb.size hb.block
theorem OwnT.refT (h : OwnT W base g cap L vs) : RefT W g cap L vs :=
  ⟨h.nodes, fun i hi hv _W' hw => ((h.kids i hi hv).same fun k hk => hw k (fun e => h.off i hv (e ▸ hk)) ((h.kids i hi hv).lt k hk).2).kidsIn⟩
/-- The reference's copy: the names' slices are those of before. -/
theorem RefT.of_kids {w : World} (hN : NodesOwn W g cap L vs) (hk : ∀ i (hi : i < L.length) (hv : i < vs.length), KidsIn w vs[i] L[i].kids) (hg : w.heap.size ≤ g) (hs : w.heap.size ≤ W.heap.size) (hb : ∀ j, j < w.heap.size → W.heap[j]? = w.heap[j]?) : RefT W g cap L vs :=
  ⟨hN, fun i hi hv _ hw => (hk i hi hv).cells fun j hj => (hw j (by omega) (by omega)).trans (hb j hj)⟩
theorem RefT.setKids (h : RefT W g cap L vs) {d : Nat} (hd : d < L.length) (hv : d < vs.length) {w5 : World} {v : Value} {M : List (List UInt8 × Int)} (hk : KidsOwn w5 W.heap.size v M) (hb : Below W.heap.size W w5) :
    RefT (w5.setCell ⟨g, d * 6 + 4, none⟩ v) g cap (L.set d { L[d] with kids := M }) (vs.set d v) := by
  refine ⟨(h.nodes.below hb).setKids hd hv v M, fun i hi hvi W' hw => ?_⟩
  have hw5 : ∀ j, j ≠ g → j < w5.heap.size → W'.heap[j]? = w5.heap[j]? := fun j hj hl => (hw j hj (by simpa [World.setCell] using hl)).trans (Below.heap_setCell _ _ _ _ hj)
  have hgl := h.nodes.lt
  by_cases e : d = i
  · subst e
    rw [List.getElem_set_self, List.getElem_set_self]
    exact (hk.same fun j hj => by
      have := hk.lt j hj
      exact hw5 j (by omega) this.2).kidsIn
  · rw [List.length_set] at hi hvi
    rw [List.getElem_set_ne e, List.getElem_set_ne e]
    exact h.kids i hi hvi W' fun j hj hl => (hw5 j hj (Nat.lt_of_lt_of_le hl hb.size)).trans (hb.block j hl)
/-- What is written of the block of the inodes alone. -/
theorem RefT.turn (h : RefT W g cap L vs) {L' : List Ino} {vs' : List Value} (hN : NodesOwn W' g cap L' vs') (hl : L'.length = L.length) (hs : W'.heap.size = W.heap.size) (hb : ∀ j, j ≠ g → W'.heap[j]? = W.heap[j]?)
    (hk : ∀ i (hi : i < L'.length) (hv : i < vs'.length) (hi2 : i < L.length) (hv2 : i < vs.length), (L'[i].kids = L[i].kids ∧ vs'[i] = vs[i]) ∨ (L'[i].kids = [] ∧ vs'[i] = .slice none 0 0)) : RefT W' g cap L' vs' := by
  refine ⟨hN, fun i hi hv W'' hw => ?_⟩
  have hi2 : i < L.length := by rw [← hl]; exact hi
  rcases hk i hi hv hi2 (by rw [h.nodes.len]; exact hi2) with ⟨e1, e2⟩ | ⟨e1, e2⟩
  · rw [e1, e2]
    exact h.kids i hi2 _ W'' fun j hj hjl => (hw j hj (by rw [hs]; exact hjl)).trans (hb j hj)
  · rw [e1, e2]
    exact ⟨none, 0, rfl, Nat.le_refl _, Nat.zero_le _, fun i hi => absurd hi (Nat.not_lt_zero _)⟩
theorem RefT.setLinks (h : RefT W g cap L vs) {i : Nat} (hi : i < L.length) (z : Int) : RefT (W.setCell ⟨g, i * 6 + 2, none⟩ (.int .i64 z)) g cap (L.set i { L[i] with links := z }) vs := by
  have hv : i < vs.length := by rw [h.nodes.len]; exact hi
  have hN := h.nodes.setLinks hi hv z
  rw [set_self] at hN
  refine h.turn hN (List.length_set ..) (size_set _ _) (fun j hj => Below.heap_setCell _ _ _ _ hj) fun j hj _ hj2 _ => .inl ⟨?_, rfl⟩
  rw [List.getElem_set]
  split
  · rename_i e; subst e; rfl
  · rfl
theorem NodesOwn.setUp (h : NodesOwn W g cap L vs) {i : Nat} (hi : i < L.length) (hv : i < vs.length) (z : Int) : NodesOwn (W.setCell ⟨g, i * 6 + 5, none⟩ (.int .i64 z)) g cap (L.set i { L[i] with up := z }) (vs.set i vs[i]) := by
  have hn := h.node i hi hv
  have hc := cell_set (u := .int .i64 z) hn.up
  refine h.put hi (size_set _ _) (fun j => World.frozen?_setCell ..) (fun j hj => by rw [hc, if_neg (by omega)]) ⟨?_, ?_, ?_, ?_, ?_, ?_⟩
  · rw [hc, if_neg (by omega)]; exact hn.kind
  · rw [hc, if_neg (by omega)]; exact hn.mode
  · rw [hc, if_neg (by omega)]; exact hn.links
  · rw [hc, if_neg (by omega)]; exact hn.data
  · rw [hc, if_neg (by omega)]; exact hn.kids
  · rw [hc, if_pos rfl]
theorem RefT.setUp (h : RefT W g cap L vs) {i : Nat} (hi : i < L.length) (z : Int) : RefT (W.setCell ⟨g, i * 6 + 5, none⟩ (.int .i64 z)) g cap (L.set i { L[i] with up := z }) vs := by
  have hv : i < vs.length := by rw [h.nodes.len]; exact hi
  have hN := h.nodes.setUp hi hv z
  rw [set_self] at hN
  refine h.turn hN (List.length_set ..) (size_set _ _) (fun j hj => Below.heap_setCell _ _ _ _ hj) fun j hj _ hj2 _ => .inl ⟨?_, rfl⟩
  rw [List.getElem_set]
  split
  · rename_i e; subst e; rfl
  · rfl
theorem RefT.setNode (h : RefT W g cap L vs) {i : Nat} (hi : i < L.length) (x : Ino) (hx : x.kids = []) : RefT (W.setCells g (i * 6) (inoC x (.slice none 0 0))) g cap (L.set i x) (vs.set i (.slice none 0 0)) := by
  have hv : i < vs.length := by rw [h.nodes.len]; exact hi
  refine h.turn (h.nodes.setNode hi hv x _) (List.length_set ..) (size_sets _ _ _ _) (fun j hj => heap_sets _ _ _ _ _ hj) fun j hj hvj _ _ => ?_
  rw [List.getElem_set, List.getElem_set]
  by_cases e : i = j
  · rw [if_pos e, if_pos e]; exact .inr ⟨hx, rfl⟩
  · rw [if_neg e, if_neg e]; exact .inl ⟨rfl, rfl⟩
theorem RefT.node (h : RefT W g cap L vs) {i : Nat} (hi : i < L.length) : ∃ v, NodeAt W g (i * 6) L[i] v ∧ KidsIn W v L[i].kids ∧ ∀ j, W.frozen? ⟨g, j, none⟩ = false := by
  have hv : i < vs.length := by rw [h.nodes.len]; exact hi
  exact ⟨vs[i], h.nodes.node i hi hv, h.kids i hi hv W fun _ _ _ => rfl, h.nodes.free⟩
end

/-- What is there behind the names of a directory were written. -/
structure Named1 (g cap d k : Nat) (M : List (List UInt8 × Int)) (L : List Ino) (w W : World) (vs : List Value) : Prop where
  ref : RefT W g cap (L.set d (withKids (nodeAt L d) M)) vs
  off : Off g w W
theorem Named1.links {g cap d k : Nat} {M : List (List UInt8 × Int)} {L : List Ino} {w W : World} {vs : List Value} (h : Named1 g cap d k M L w W vs) (hk : k < L.length) (hdk : d ≠ k) (z : Int) :
    RefT (W.setCell ⟨g, k * 6 + 2, none⟩ (.int .i64 z)) g cap ((L.set d (withKids (nodeAt L d) M)).set k { L[k] with links := z }) vs ∧ Off g w (W.setCell ⟨g, k * 6 + 2, none⟩ (.int .i64 z)) := by
  have hk' : k < (L.set d (withKids (nodeAt L d) M)).length := by rw [List.length_set]; exact hk
  have h1 := h.ref.setLinks hk' z
  rw [List.getElem_set_ne hdk] at h1
  exact ⟨h1, h.off.set _ _⟩
/-- What a change of a tree in its own block leaves. -/
def TurnAns (g cap : Nat) (L' : List Ino) (w : World) (e : Ending) (w' : World) : Prop := e = .returned (.tuple #[]) ∧ (∃ vs', RefT w' g cap L' vs') ∧ Off g w w'
end Go.Proofs.YtmaiphibpdngnaaGreat

namespace Go.Proofs.YtmaiphibpdngnaaGreat
set_option maxRecDepth 100000
open Go Go.RowKit

theorem ent_new2 (W : World) (x y : Value) (t : TypeId) : ∀ j u, [x, y][j]? = some u → (W.alloc (.cells #[x, y] t)).cell? ((⟨W.heap.size, 0, none⟩ : Addr).add j) = some u := fun j u hj => by
  rw [zero_add_addr, blk_cell (new_block W _) j]
  simpa using hj
theorem without_take (M : List (List UInt8 × Int)) (s : List UInt8) (k : Nat) (h : k < M.length) : withoutL (M.take (k + 1)) s = withoutL (M.take k) s ++ (if M[k].1 = s then [] else [M[k]]) := by
  unfold withoutL
  rw [List.take_succ_eq_append_getElem h, List.filter_append]
  congr 1
  by_cases e : M[k].1 = s
  · rw [if_pos e, List.filter_cons, if_neg (by simpa using e)]
    rfl
  · rw [if_neg e, List.filter_cons, if_pos (by simpa using e)]
    rfl
theorem without_short (M : List (List UInt8 × Int)) (s : List UInt8) (k : Nat) : (withoutL (M.take k) s).length ≤ M.length := by
  have h1 := without_le (M.take k) s
  rw [List.length_take] at h1
  omega
def WoRel (M : List (List UInt8 × Int)) (s : List UInt8) (w : World) (ov iv : Value) (wr : World) : Prop :=
  ∃ k : Nat, k ≤ M.length ∧ iv = .int .i64 k ∧ KidsOwn wr w.heap.size ov (withoutL (M.take k) s) ∧ Below w.heap.size w wr

set_option maxHeartbeats 4000000 in
theorem rwithout_any (v : Value) (M : List (List UInt8 × Int)) (hM : M.length ≤ 4096) (s : List UInt8) (w : World) (hK : KidsIn w v M) :
    Calls Tryz.prog 53 #[v, .string ⟨s.toArray⟩] w fun e w' => ∃ v', e = .returned v' ∧ KidsOwn w' w.heap.size v' (withoutL M s) ∧ Below w.heap.size w w' := by
  obtain ⟨i0, hi, hz0, hz1, hz2⟩ := info_parts infoE
  obtain ⟨a, cap, rfl, hc, hm, hk⟩ := hK
  have HK := Lib.hid hk
  unfold maxLen at hm
  clear hk
  go_enter Tryz.func53, Tryz.ntmps53
  go_wp2_with fail
  go_loopw [5, 6] (fun ov iv wr => WoRel M s w ov iv wr) (fun _ iv _ => M.length - (intOf iv).toNat)
  case atStart => exact ⟨0, by omega, rfl, KidsOwn.nil _ _, Below.refl _ _⟩
  case round =>
    obtain ⟨k, hk, rfl, ho, hb⟩ := hrel
    have hol := without_short M s k
    have HO := Lib.hid (show wr.ownsRow w.heap.size 59 2 _ (withoutL (M.take k) s).length (kidC (withoutL (M.take k) s)) from ho)
    have HB := Lib.hid hb
    have hsz := hb.size
    clear ho hb
    by_cases hlt : k < M.length
    · have hlz : (k : Int) < (M.length : Int) := by omega
      have hk0 : (0 : Int) ≤ (k : Int) := by omega
      obtain ⟨c1, p1, rfl, z0, z1⟩ := HK.out k hlt
      have HT := Lib.hid (without_take M s k hlt)
      obtain ⟨nm, hnm⟩ : ∃ x, x = M[k].1 := ⟨_, rfl⟩
      obtain ⟨zi, hzi⟩ : ∃ x, x = M[k].2 := ⟨_, rfl⟩
      have hpair := Lib.hid (show M[k] = (nm, zi) by rw [hnm, hzi])
      rw [← hnm] at z0
      rw [← hzi] at z1
      have y0 := cell_below HB.out z0
      have y1 := cell_below HB.out z1
      have hyl := cell_lt y0
      clear hnm hzi z0 z1
      by_cases hq : nm = s
      · have hne : (nm == s) = true := by simpa using hq
        have HE := Lib.hid (show withoutL (M.take (k + 1)) s = withoutL (M.take k) s by
          rw [HT.out, if_pos (by rw [hpair.out]; exact hq), List.append_nil])
        clear hq
        go_wp2_with fail
        go_roundw
        case rel => exact ⟨k + 1, by omega, by go_num, by rw [HE.out]; exact HO.out, HB.out⟩
        case measure => simp [intOf] <;> omega
      · have hne : (nm == s) = false := by simpa using hq
        have HE := Lib.hid (show withoutL (M.take (k + 1)) s = withoutL (M.take k) s ++ [(nm, zi)] by
          rw [HT.out, if_neg (by rw [hpair.out]; exact hq), hpair.out])
        clear hq
        go_wp2_with (first | (at_builtin; (refine wpList_append_own _ rfl _ _ 47 rfl w.heap.size 59 i0 _ 2 24 Tryz.underlying47 hi hz0 hz1 hz2 rfl (by decide) _ _ _ rfl (HO.out.alloc _) ⟨wr.heap.size, 0, none⟩ 1 1 [.string ⟨nm.toArray⟩, .int .i64 zi] rfl rfl (ent_new2 _ _ _ _) (fun x hx => by simp at hx; rcases hx with rfl | rfl <;> rfl) (by unfold maxLen; omega) (by omega) (by simp; omega) ?_); intro v3 w3 hown3 hgrow3 hnil3) | fail)
        have hb3 : Below w.heap.size w w3 := (HB.out.alloc HB.out.size _).grown hgrow3 (by simp; omega) (fun r hr => (HO.out.lt r hr).1)
        have HO3 := Lib.hid (show w3.ownsRow w.heap.size 59 2 _ (withoutL (M.take k) s ++ [(nm, zi)]).length (kidC (withoutL (M.take k) s ++ [(nm, zi)])) by rw [List.length_append, kidC_app]; exact hown3)
        have HB3 := Lib.hid hb3
        have hs3 := hb3.size
        clear hb3 hown3 hgrow3 hnil3
        go_wp2_with fail
        go_roundw
        case rel => exact ⟨k + 1, by omega, by go_num, by rw [HE.out]; exact HO3.out, HB3.out⟩
        case measure => simp [intOf] <;> omega
    · obtain rfl : k = M.length := by omega
      go_wp2_with fail
      go_ret
      exact ⟨_, rfl, by have h := HO.out; rw [List.take_length] at h; exact h, HB.out⟩

set_option maxHeartbeats 4000000 in
theorem lwithout_any (v : Value) (M : List (List UInt8 × Int)) (hM : M.length ≤ 4096) (s : List UInt8) (w : World) (hK : KidsIn w v M) :
    Calls Tryz.prog 93 #[v, .string ⟨s.toArray⟩] w fun e w' => ∃ v', e = .returned v' ∧ KidsOwn w' w.heap.size v' (withoutL M s) ∧ Below w.heap.size w w' := by
  obtain ⟨i0, hi, hz0, hz1, hz2⟩ := info_parts infoE
  obtain ⟨a, cap, rfl, hc, hm, hk⟩ := hK
  have HK := Lib.hid hk
  unfold maxLen at hm
  clear hk
  go_enter Tryz.func93, Tryz.ntmps93
  go_wp2_with fail
  go_loopw [5, 7, 10] (fun ov _ iv wr => WoRel M s w ov iv wr) (fun _ _ iv _ => M.length - (intOf iv).toNat)
  case atStart => exact ⟨0, by omega, rfl, KidsOwn.nil _ _, Below.refl _ _⟩
  case round =>
    obtain ⟨k, hk, rfl, ho, hb⟩ := hrel
    have hol := without_short M s k
    have HO := Lib.hid (show wr.ownsRow w.heap.size 59 2 _ (withoutL (M.take k) s).length (kidC (withoutL (M.take k) s)) from ho)
    have HB := Lib.hid hb
    have hsz := hb.size
    clear ho hb
    by_cases hlt : k < M.length
    · have hlz : (k : Int) < (M.length : Int) := by omega
      have hk0 : (0 : Int) ≤ (k : Int) := by omega
      obtain ⟨c1, p1, rfl, z0, z1⟩ := HK.out k hlt
      have HT := Lib.hid (without_take M s k hlt)
      obtain ⟨nm, hnm⟩ : ∃ x, x = M[k].1 := ⟨_, rfl⟩
      obtain ⟨zi, hzi⟩ : ∃ x, x = M[k].2 := ⟨_, rfl⟩
      have hpair := Lib.hid (show M[k] = (nm, zi) by rw [hnm, hzi])
      rw [← hnm] at z0
      rw [← hzi] at z1
      have y0 := cell_below HB.out z0
      have y1 := cell_below HB.out z1
      have hyl := cell_lt y0
      clear hnm hzi z0 z1
      by_cases hq : nm = s
      · have hne : (nm == s) = true := by simpa using hq
        have HE := Lib.hid (show withoutL (M.take (k + 1)) s = withoutL (M.take k) s by
          rw [HT.out, if_pos (by rw [hpair.out]; exact hq), List.append_nil])
        clear hq
        go_wp2_with fail
        go_roundw
        case rel => exact ⟨k + 1, by omega, by go_num, by rw [HE.out]; exact HO.out.alloc _, HB.out.alloc HB.out.size _⟩
        case measure => simp [intOf] <;> omega
      · have hne : (nm == s) = false := by simpa using hq
        have HE := Lib.hid (show withoutL (M.take (k + 1)) s = withoutL (M.take k) s ++ [(nm, zi)] by
          rw [HT.out, if_neg (by rw [hpair.out]; exact hq), hpair.out])
        clear hq
        go_wp2_with (first | (at_builtin; (refine wpList_append_own _ rfl _ _ 47 rfl w.heap.size 59 i0 _ 2 24 Tryz.underlying47 hi hz0 hz1 hz2 rfl (by decide) _ _ _ rfl ((HO.out.alloc _).alloc _) ⟨wr.heap.size + 1, 0, none⟩ 1 1 [.string ⟨nm.toArray⟩, .int .i64 zi] rfl rfl (by have := ent_new2 (wr.alloc (.cells #[.string ⟨nm.toArray⟩, .int .i64 zi] 59)) (.string ⟨nm.toArray⟩) (.int .i64 zi) 59; rw [World.size_alloc] at this; exact this) (fun x hx => by simp at hx; rcases hx with rfl | rfl <;> rfl) (by unfold maxLen; omega) (by omega) (by simp; omega) ?_); intro v3 w3 hown3 hgrow3 hnil3) | fail)
        have hb3 : Below w.heap.size w w3 := ((HB.out.alloc HB.out.size _).alloc (by simp; omega) _).grown hgrow3 (by simp; omega) (fun r hr => (HO.out.lt r hr).1)
        have HO3 := Lib.hid (show w3.ownsRow w.heap.size 59 2 _ (withoutL (M.take k) s ++ [(nm, zi)]).length (kidC (withoutL (M.take k) s ++ [(nm, zi)])) by rw [List.length_append, kidC_app]; exact hown3)
        have HB3 := Lib.hid hb3
        have hs3 := hb3.size
        clear hb3 hown3 hgrow3 hnil3
        go_wp2_with fail
        go_roundw
        case rel => exact ⟨k + 1, by omega, by go_num, by rw [HE.out]; exact HO3.out, HB3.out⟩
        case measure => simp [intOf] <;> omega
    · obtain rfl : k = M.length := by omega
      go_wp2_with fail
      go_ret
      exact ⟨_, rfl, by have h := HO.out; rw [List.take_length] at h; exact h, HB.out⟩

end Go.Proofs.YtmaiphibpdngnaaGreat

namespace Go.Proofs.YtmaiphibpdngnaaGreat
set_option maxRecDepth 100000
open Go Go.RowKit

theorem links_sub {z : Int} (h0 : 1 ≤ z) (h1 : z ≤ 4611686018427387904) : IntKind.i64.wrap (z - 1) = z - 1 := by rw [IntKind.wrap_i64]; omega
theorem gone_same {L : List Ino} {d k : Nat} (_hd : d < L.length) (hk : k < L.length) (s : List UInt8) (h1 : L[k].links ≠ 1) : (L.set d (withKids (nodeAt L d) (withoutL (nodeAt L d).kids s))).set k { L[k] with links := L[k].links - 1 } = goneL L d k s := by
  unfold goneL
  rw [node_nat L k hk]
  unfold goneIno
  rw [if_neg h1]
theorem gone_free {L : List Ino} {d k : Nat} (_hd : d < L.length) (hk : k < L.length) (s : List UInt8) (h1 : L[k].links = 1) (x : Ino) : ((L.set d (withKids (nodeAt L d) (withoutL (nodeAt L d).kids s))).set k x).set k noIno = goneL L d k s := by
  unfold goneL
  rw [node_nat L k hk, List.set_set]
  unfold goneIno
  rw [if_pos h1]

set_option maxHeartbeats 4000000 in
theorem rgone_any (g cap d k : Nat) (m b : Int) (s : List UInt8) (L : List Ino) (vs : List Value) (hd : d < L.length) (hk : k < L.length) (hdk : d ≠ k) (hl : L[d].kids.length ≤ 1024)
    (hlk0 : 1 ≤ L[k].links) (hlk : L[k].links ≤ 4611686018427387904) (w : World) (hO : RefT w g cap L vs) :
    Calls Tryz.prog 37 #[.agg #[.slice (some ⟨g, 0, none⟩) L.length cap, .int .i64 m, .int .i64 b], .int .i64 d, .string ⟨s.toArray⟩, .int .i64 k] w (TurnAns g cap (goneL L d k s) w) := by
  have hd0 : (0 : Int) ≤ (d : Int) := by omega
  have hdl : (d : Int) < (L.length : Int) := by omega
  have hk0 : (0 : Int) ≤ (k : Int) := by omega
  have hkl : (k : Int) < (L.length : Int) := by omega
  have hgl := hO.nodes.lt
  obtain ⟨w2, hw2⟩ : ∃ w2, w2 = w.alloc (.cells #[.slice (some ⟨g, 0, none⟩) L.length cap, .int .i64 m, .int .i64 b] 24) := ⟨_, rfl⟩
  have hb2 : Below w.heap.size w w2 := by rw [hw2]; exact below_box w _
  have hT2 : w2.heap[w.heap.size]? = some (.cells #[.slice (some ⟨g, 0, none⟩) L.length cap, .int .i64 m, .int .i64 b] 24 (0, 0)) := by rw [hw2]; exact new_block w _
  have hs2 : w2.heap.size = w.heap.size + 1 := by rw [hw2]; simp
  have HT2 := Lib.hid hT2
  have HO2 := Lib.hid (hO.below hb2)
  have HB2 := Lib.hid (show Off g w w2 from .of_below hb2)
  obtain ⟨v, hn, hki, hfr⟩ := HO2.out.node hd
  obtain ⟨ka, kc, hv, -⟩ := id hki
  subst hv
  have HI := Lib.hid (show ∀ W, Below w2.heap.size w2 W → Calls Tryz.prog 53 #[.slice ka L[d].kids.length kc, .string ⟨s.toArray⟩] W fun e w' => ∃ v', e = .returned v' ∧ KidsOwn w' W.heap.size v' (withoutL L[d].kids s) ∧ Below W.heap.size W w' from fun W hW => rwithout_any _ L[d].kids (by omega) s W (hki.below hW))
  have HST := Lib.hid (show ∀ w5, Below w2.heap.size w2 w5 → w5.cell? ⟨g, d * 6 + 4, none⟩ = some (.slice ka L[d].kids.length kc) ∧ w5.frozen? ⟨g, d * 6 + 4, none⟩ = false ∧ w5.cell? ⟨w.heap.size, 0, none⟩ = some (.slice (some ⟨g, 0, none⟩) L.length cap) from fun w5 h5 => ⟨cell_below h5 hn.kids, (HO2.out.nodes.below h5).free _, blk_cell ((h5.block _ (by omega)).trans HT2.out) 0⟩)
  have HQ := Lib.hid (show ∀ w5 v, KidsOwn w5 w2.heap.size v (withoutL L[d].kids s) → Below w2.heap.size w2 w5 → ∃ vs', Named1 g cap d k (withoutL (nodeAt L d).kids s) L w (w5.setCell ⟨g, d * 6 + 4, none⟩ v) vs' ∧ (w5.setCell ⟨g, d * 6 + 4, none⟩ v).cell? ⟨w.heap.size, 0, none⟩ = some (.slice (some ⟨g, 0, none⟩) L.length cap) from fun w5 v h1 h2 => by
    have hdv : d < vs.length := by rw [HO2.out.nodes.len]; exact hd
    have h3 := HO2.out.setKids hd hdv h1 h2
    refine ⟨vs.set d v, ⟨by rw [node_nat L d hd]; exact h3, (HB2.out.trans (.of_below h2)).set _ _⟩, blk_cell ((Below.heap_setCell _ _ _ _ (show w.heap.size ≠ g by omega)).trans ((h2.block _ (by omega)).trans HT2.out)) 0⟩)
  obtain ⟨z4, zf, z0⟩ := HST.out w2 (Below.refl _ _)
  have hzl := cell_lt z4
  have htl := cell_lt z0
  clear hn hki hfr hT2 hO hb2
  go_enter Tryz.func37, Tryz.ntmps37
  go_wp2_with fail
  rw [← hw2]
  clear hw2
  go_region_with (first | (go_at_call 53; refine (HI.out _ ?_).mono ?_; (exact ⟨rfl, rfl, rfl, Nat.le_refl _, fun _ _ => rfl⟩); rintro e w5 ⟨v', rfl, hk5, hb5⟩; obtain ⟨va, vc, rfl⟩ := hk5.form; have HB5 : Hid (Below w2.heap.size w2 w5) := Lib.hid ⟨hb5.os, hb5.tape, hb5.output, hb5.size, hb5.block⟩; have HK5 : Hid (KidsOwn w5 w2.heap.size (.slice va (withoutL L[d].kids s).length vc) (withoutL L[d].kids s)) := Lib.hid hk5; obtain ⟨z4', zf', z0'⟩ := HST.out w5 HB5.out; have hzl' := cell_lt z4'; have htl' := cell_lt z0'; clear hk5 hb5))
  all_goals
    obtain ⟨vs5, hN1, c0⟩ := HQ.out w5 _ HK5.out HB5.out
    have HN1 := Lib.hid hN1
    have hk' : k < (L.set d (withKids (nodeAt L d) (withoutL (nodeAt L d).kids s))).length := by rw [List.length_set]; exact hk
    obtain ⟨v6, hn6, -, hf6⟩ := hN1.ref.node hk'
    rw [List.getElem_set_ne hdk] at hn6
    have u2 := hn6.links
    have f2 := hf6 (k * 6 + 2)
    have hgu := cell_lt u2
    have hcu := cell_lt c0
    have hne : ¬ (w.heap.size = g) := by omega
    obtain ⟨lk, hlk'⟩ : ∃ lk, lk = L[k].links := ⟨_, rfl⟩
    have HLK := Lib.hid hlk'
    rw [← hlk'] at u2 hlk0 hlk
    have hsub := links_sub hlk0 hlk
    have HTN := Lib.hid (show RefT ((w5.setCell ⟨g, d * 6 + 4, none⟩ (.slice va (withoutL L[d].kids s).length vc)).setCell ⟨g, k * 6 + 2, none⟩ (.int .i64 (lk - 1))) g cap ((L.set d (withKids (nodeAt L d) (withoutL (nodeAt L d).kids s))).set k { L[k] with links := L[k].links - 1 }) vs5 ∧ Off g w ((w5.setCell ⟨g, d * 6 + 4, none⟩ (.slice va (withoutL L[d].kids s).length vc)).setCell ⟨g, k * 6 + 2, none⟩ (.int .i64 (lk - 1))) by
      rw [HLK.out]; exact HN1.out.links hk hdk _)
    have n0 := hn6.kind
    have n1 := hn6.mode
    have n3 := hn6.data
    have n4 := hn6.kids
    have n5 := hn6.up
    have f0 := hf6 (k * 6)
    have f1 := hf6 (k * 6 + 1)
    have f3 := hf6 (k * 6 + 3)
    have f4 := hf6 (k * 6 + 4)
    have f5 := hf6 (k * 6 + 5)
    clear hn6 hf6 hN1 hlk' z4 zf z0 hzl htl
    try clear z4' zf' z0' hzl' htl'
    generalize w5.setCell ⟨g, d * 6 + 4, none⟩ (.slice va (withoutL L[d].kids s).length vc) = w6 at *
    by_cases h1 : lk = 1
    · subst h1
      have HTN2 := Lib.hid (show RefT (w6.setCell ⟨g, k * 6 + 2, none⟩ (.int .i64 0)) g cap ((L.set d (withKids (nodeAt L d) (withoutL (nodeAt L d).kids s))).set k { L[k] with links := L[k].links - 1 }) vs5 ∧ Off g w (w6.setCell ⟨g, k * 6 + 2, none⟩ (.int .i64 0)) from HTN.out)
      clear hsub HTN
      go_wp2_with fail
      go_end0
      obtain ⟨hT7, hO7⟩ := HTN2.out
      refine ⟨rfl, ⟨vs5.set k (.slice none 0 0), ?_⟩, hO7.sets (k * 6) (inoC noIno (.slice none 0 0))⟩
      have h8 := hT7.setNode (i := k) (by rw [List.length_set, List.length_set]; exact hk) noIno rfl
      rw [gone_free hd hk s HLK.out.symm] at h8
      exact h8
    · have hz : (lk - 1 == 0) = false := by simpa using (show lk - 1 ≠ 0 by omega)
      have HL1 := Lib.hid h1
      clear h1
      go_wp2_with fail
      go_end0
      obtain ⟨hT7, hO7⟩ := HTN.out
      rw [gone_same hd hk s (by rw [← HLK.out]; exact HL1.out)] at hT7
      exact ⟨rfl, ⟨_, hT7⟩, hO7⟩
end Go.Proofs.YtmaiphibpdngnaaGreat

namespace Go.Proofs.YtmaiphibpdngnaaGreat
set_option maxRecDepth 100000
open Go Go.RowKit

set_option maxHeartbeats 4000000 in
theorem ltake_any (g cap d k : Nat) (m b : Int) (s : List UInt8) (slash : Bool) (L : List Ino) (vs : List Value) (hd : d < L.length) (hk : k < L.length) (hdk : d ≠ k) (hl : L[d].kids.length ≤ 1024)
    (hlk0 : 1 ≤ L[k].links) (hlk : L[k].links ≤ 4611686018427387904) (w : World) (hO : RefT w g cap L vs) :
    Calls Tryz.prog 69 #[spotV d s k slash, .agg #[.slice (some ⟨g, 0, none⟩) L.length cap, .int .i64 m, .int .i64 b]] w (TurnAns g cap (goneL L d k s) w) := by
  have HO := Lib.hid hO
  clear hO
  have hd0 : (0 : Int) ≤ (d : Int) := by omega
  have hdl : (d : Int) < (L.length : Int) := by omega
  have hk0 : (0 : Int) ≤ (k : Int) := by omega
  have hkl : (k : Int) < (L.length : Int) := by omega
  have hgl := HO.out.nodes.lt
  unfold spotV
  go_enter Tryz.func69, Tryz.ntmps69
  go_wp2_with fail
  obtain ⟨w2, hw2, hb2, hs2, hA, hB⟩ := two_boxes w #[.int .i64 d, .string ⟨s.toArray⟩, .int .i64 k, .bool slash] #[.slice (some ⟨g, 0, none⟩) L.length cap, .int .i64 m, .int .i64 b] 62 24
  rw [← hw2]
  have HB2 := Lib.hid (show Off g w w2 from .of_below hb2)
  have HO2 := Lib.hid (HO.out.below hb2)
  clear hw2 hb2
  have p0 := blk_cell hA 0
  have p2 := blk_cell hA 2
  have q0 := blk_cell hB 0
  have ha2 := lt_of_block hA
  have hb2' := lt_of_block hB
  have HA := Lib.hid hA
  clear hA hB
  go_quiet (fail)
  obtain ⟨w3, hw3⟩ : ∃ w3, w3 = w2.drewN nq := ⟨_, rfl⟩
  have hb3 : Below w2.heap.size w2 w3 := by rw [hw3]; exact ⟨rfl, rfl, rfl, Nat.le_refl _, fun _ _ => rfl⟩
  have hs3 : w3.heap.size = w2.heap.size := by rw [hw3]; rfl
  have hA3 := (hb3.block w.heap.size ha2).trans HA.out
  have HO3 := Lib.hid (HO2.out.below hb3)
  have HB3 := Lib.hid (HB2.out.trans (.of_below hb3))
  clear p0 p2 q0 HO2 HB2 HO
  rw [← hw3]
  clear hw3 hb3
  obtain ⟨v, hn, hki, hfr⟩ := HO3.out.node hd
  obtain ⟨ka, kc, hv, -⟩ := id hki
  subst hv
  have y4 := hn.kids
  have y1 := blk_cell hA3 1
  have f4' := hfr (d * 6 + 4)
  have hg3 : g < w3.heap.size := cell_lt y4
  have ha3 : w.heap.size < w3.heap.size := cell_lt y1
  have HI := Lib.hid (lwithout_any _ L[d].kids (by omega) s w3.drew hki)
  have HST := Lib.hid (show ∀ w5, Below w3.heap.size w3 w5 → w5.cell? ⟨g, d * 6 + 4, none⟩ = some (.slice ka L[d].kids.length kc) ∧ w5.frozen? ⟨g, d * 6 + 4, none⟩ = false from fun w5 h5 => by
    have h := (HO3.out.nodes.below h5)
    have hdv : d < vs.length := by rw [h.len]; exact hd
    have h1 := cell_below h5 y4
    exact ⟨h1, h.free _⟩)
  have HQ := Lib.hid (show ∀ w5 v, KidsOwn w5 w3.heap.size v (withoutL L[d].kids s) → Below w3.heap.size w3 w5 → ∃ vs', Named1 g cap d k (withoutL (nodeAt L d).kids s) L w (w5.setCell ⟨g, d * 6 + 4, none⟩ v) vs' from fun w5 v h1 h2 => by
    have hdv : d < vs.length := by rw [HO3.out.nodes.len]; exact hd
    have h3 := HO3.out.setKids hd hdv h1 h2
    exact ⟨vs.set d v, by rw [node_nat L d hd]; exact h3, (HB3.out.trans (.of_below h2)).set _ _⟩)
  clear hn hki hfr hA3
  go_wp2_with fail
  go_region_with (first | (go_at_call 93; refine HI.out.mono ?_; rintro e w5 ⟨v', rfl, hk5, hb5⟩; obtain ⟨va, vc, rfl⟩ := hk5.form; have HB5 : Hid (Below w3.heap.size w3 w5) := Lib.hid ⟨hb5.os, hb5.tape, hb5.output, hb5.size, hb5.block⟩; have HK5 : Hid (KidsOwn w5 w3.heap.size (.slice va (withoutL L[d].kids s).length vc) (withoutL L[d].kids s)) := Lib.hid hk5; obtain ⟨z4, zf⟩ := HST.out w5 HB5.out; clear hk5 hb5))
  all_goals
    obtain ⟨vs5, hN1⟩ := HQ.out w5 _ HK5.out HB5.out
    have HN1 := Lib.hid hN1
    have hk' : k < (L.set d (withKids (nodeAt L d) (withoutL (nodeAt L d).kids s))).length := by rw [List.length_set]; exact hk
    obtain ⟨v6, hn6, -, hf6⟩ := hN1.ref.node hk'
    rw [List.getElem_set_ne hdk] at hn6
    have u2 := hn6.links
    have f2 := hf6 (k * 6 + 2)
    have hgu := cell_lt u2
    obtain ⟨lk, hlk'⟩ : ∃ lk, lk = L[k].links := ⟨_, rfl⟩
    have HLK := Lib.hid hlk'
    rw [← hlk'] at u2 hlk0 hlk
    have hsub := links_sub hlk0 hlk
    have HTN := Lib.hid (show RefT ((w5.setCell ⟨g, d * 6 + 4, none⟩ (.slice va (withoutL L[d].kids s).length vc)).setCell ⟨g, k * 6 + 2, none⟩ (.int .i64 (lk - 1))) g cap ((L.set d (withKids (nodeAt L d) (withoutL (nodeAt L d).kids s))).set k { L[k] with links := L[k].links - 1 }) vs5 ∧ Off g w ((w5.setCell ⟨g, d * 6 + 4, none⟩ (.slice va (withoutL L[d].kids s).length vc)).setCell ⟨g, k * 6 + 2, none⟩ (.int .i64 (lk - 1))) by
      rw [HLK.out]; exact HN1.out.links hk hdk _)
    have n0 := hn6.kind
    have n1 := hn6.mode
    have n3 := hn6.data
    have n4 := hn6.kids
    have n5 := hn6.up
    have f0 := hf6 (k * 6)
    have f1 := hf6 (k * 6 + 1)
    have f3 := hf6 (k * 6 + 3)
    have f4 := hf6 (k * 6 + 4)
    have f5 := hf6 (k * 6 + 5)
    clear hn6 hf6 hN1 hlk' z4 zf y4 y1 f4'
    generalize w5.setCell ⟨g, d * 6 + 4, none⟩ (.slice va (withoutL L[d].kids s).length vc) = w6 at *
    by_cases h1 : lk = 1
    · subst h1
      have HTN2 := Lib.hid (show RefT (w6.setCell ⟨g, k * 6 + 2, none⟩ (.int .i64 0)) g cap ((L.set d (withKids (nodeAt L d) (withoutL (nodeAt L d).kids s))).set k { L[k] with links := L[k].links - 1 }) vs5 ∧ Off g w (w6.setCell ⟨g, k * 6 + 2, none⟩ (.int .i64 0)) from HTN.out)
      clear hsub HTN
      go_wp2_with fail
      go_end0
      obtain ⟨hT7, hO7⟩ := HTN2.out
      refine ⟨rfl, ⟨vs5.set k (.slice none 0 0), ?_⟩, hO7.sets (k * 6) (inoC noIno (.slice none 0 0))⟩
      have h8 := hT7.setNode (i := k) (by rw [List.length_set, List.length_set]; exact hk) noIno rfl
      rw [gone_free hd hk s HLK.out.symm] at h8
      exact h8
    · have hz : (lk - 1 == 0) = false := by simpa using (show lk - 1 ≠ 0 by omega)
      have HL1 := Lib.hid h1
      clear h1
      go_wp2_with fail
      go_end0
      obtain ⟨hT7, hO7⟩ := HTN.out
      rw [gone_same hd hk s (by rw [← HLK.out]; exact HL1.out)] at hT7
      exact ⟨rfl, ⟨_, hT7⟩, hO7⟩
end Go.Proofs.YtmaiphibpdngnaaGreat

namespace Go.Proofs.YtmaiphibpdngnaaGreat
set_option maxRecDepth 100000
open Go Go.RowKit

set_option maxHeartbeats 2000000 in
theorem rown_any (a : Option Addr) (cap : Nat) (m b : Int) (L : List Ino) (hL : 0 < L.length) (hb : L.length ≤ 1000) (w : World) (hN : NodesIn w a cap L) :
    Calls Tryz.prog 28 #[.agg #[.slice a L.length cap, .int .i64 m, .int .i64 b]] w fun e w' => ∃ g cap' vs, e = .returned (.agg #[.slice (some ⟨g, 0, none⟩) L.length cap', .int .i64 m, .int .i64 b]) ∧ NodesOwn w' g cap' L vs ∧ w.heap.size ≤ g ∧ (∀ i (hi : i < L.length) (hv : i < vs.length), KidsIn w vs[i] L[i].kids) ∧ Below w.heap.size w w' := by
  obtain ⟨i0, hi, hz0, hz1, hz2⟩ := info_parts infoIn
  obtain ⟨vs, hl, hone, hk, hcell⟩ := nodes_open hN
  obtain ⟨bb, o, rfl, hx⟩ := hN.2.2 0 hL
  have hbl := cell_lt hx.kind
  obtain ⟨w2, hw2, hb2, hs2, hA, hB⟩ := two_boxes w #[.slice (some ⟨bb, o, none⟩) L.length cap, .int .i64 m, .int .i64 b] #[.slice none 0 0, .int .i64 0, .int .i64 0] 24 24
  have AS : Aside (∀ j u, (nodeC L vs)[j]? = some u → w2.cell? ⟨bb, o + j, none⟩ = some u) := fun j u hj => by
    obtain ⟨b', o', e, hc⟩ := hcell j u hj
    cases e
    exact cell_below hb2 hc
  have HK := Lib.hid hk
  have HL := Lib.hid hl
  have HB2 := Lib.hid hb2
  have HA := Lib.hid hA
  have HR := Lib.hid hB
  have a0 := blk_cell hA 0
  have hal := lt_of_block hA
  clear hcell hk hN hl hx hbl hb2 hA hB
  go_enter Tryz.func28, Tryz.ntmps28
  go_wp2_with (at_builtin; refine wpList_append_own _ rfl _ _ 22 rfl (w.heap.size + 2) 49 i0 _ 6 72 Tryz.underlying22 hi hz0 hz1 hz2 rfl (by decide) (.slice none 0 0) 0 [] rfl (World.ownsRow_nil _ _ _ _) ⟨bb, o, none⟩ L.length cap (nodeC L vs) rfl (nodeC_len L vs HL.out) (fun j u hj => by rw [Addr.add_lit, ← hw2]; exact AS.out j u hj) (nodeC_one hone) (by unfold maxLen; omega) (by omega) (by rw [← hw2]; omega) ?_)
  intro v' w3 hown hgrow hnil
  rw [← hw2] at hgrow
  have hb3 : Below w2.heap.size w2 w3 := (Below.refl _ _).grown hgrow (Nat.le_refl _) (fun k hk => by cases hk)
  rcases hown.2 with ⟨rfl, h0⟩ | ⟨g, cap', cur, rfl, hgb, -⟩
  · omega
  have hown2 : w3.ownsRow (w.heap.size + 2) 49 6 (.slice (some ⟨g, 0, none⟩) L.length cap') L.length (nodeC L vs) := by simpa using hown
  have hN3 := (nodes_of_row HL.out hown2).1
  have hA3 := (hb3.block w.heap.size (by omega)).trans HA.out
  have hR3 := (hb3.block (w.heap.size + 1) (by omega)).trans HR.out
  have q0 := blk_cell hA3 0
  have q1 := blk_cell hA3 1
  have q2 := blk_cell hA3 2
  have f0 := blk_free hA3 0
  have r0 := blk_cell hR3 0
  have r1 := blk_cell hR3 1
  have r2 := blk_cell hR3 2
  have s0 := blk_free hR3 0
  have s1 := blk_free hR3 1
  have s2 := blk_free hR3 2
  have hrl := lt_of_block hR3
  have hq := lt_of_block hA3
  obtain ⟨w4, hw4⟩ : ∃ w4, w4 = w3.setCell ⟨w.heap.size, 0, none⟩ (.slice (some ⟨g, 0, none⟩) L.length cap') := ⟨_, rfl⟩
  have hA4 : w4.heap[w.heap.size]? = some (.cells #[.slice (some ⟨g, 0, none⟩) L.length cap', .int .i64 m, .int .i64 b] 24 (0, 0)) := by rw [hw4]; exact blk_set hA3 0 _
  have hst : ∀ k, k ≠ w.heap.size → w4.heap[k]? = w3.heap[k]? := fun k hk => by rw [hw4]; exact Below.heap_setCell _ _ _ _ hk
  have hR4 := (hst (w.heap.size + 1) (by omega)).trans hR3
  have hN4 : NodesOwn w4 g cap' L vs := hN3.same (hst g (by omega))
  have hb4 : Below w.heap.size w w4 := by rw [hw4]; exact (HB2.out.trans (hb3.mono (by omega))).setCell (show w.heap.size ≤ w.heap.size from Nat.le_refl _) _
  have HW4 := Lib.hid hw4
  have HN4 := Lib.hid hN4
  have HB4 := Lib.hid hb4
  have HR4 := Lib.hid hR4
  have HA4 := Lib.hid hA4
  clear hw4 hN4 hb4 hR4 hA4 hst hN3 hown hown2 hgrow hnil hb3 hA3 hR3 a0 hal hw2
  go_wp2_with fail
  change bodyPost _ _ _ _ _ (put3 (w3.setCell ⟨w.heap.size, 0, none⟩ (.slice (some ⟨g, 0, none⟩) L.length cap')) (w.heap.size + 1) (.slice (some ⟨g, 0, none⟩) L.length cap') (.int .i64 m) (.int .i64 b))
  rw [← HW4.out]
  obtain ⟨c0, c1, c2⟩ := put3_cells HR4.out (.slice (some ⟨g, 0, none⟩) L.length cap') (.int .i64 m) (.int .i64 b)
  have HNF := Lib.hid (HN4.out.same (W' := put3 w4 (w.heap.size + 1) (.slice (some ⟨g, 0, none⟩) L.length cap') (.int .i64 m) (.int .i64 b)) (put3_other (by omega) _ _ _))
  have HBF := Lib.hid (put3_below HB4.out (show w.heap.size ≤ w.heap.size + 1 by omega) (.slice (some ⟨g, 0, none⟩) L.length cap') (.int .i64 m) (.int .i64 b))
  generalize put3 w4 (w.heap.size + 1) (.slice (some ⟨g, 0, none⟩) L.length cap') (.int .i64 m) (.int .i64 b) = wF at *
  exact bodyPost_ret (v := .agg #[.slice (some ⟨g, 0, none⟩) L.length cap', .int .i64 m, .int .i64 b]) (by simp [results, Tryz.results28, go_sem, c0, c1, c2]) rfl ⟨g, cap', vs, rfl, HNF.out, by omega, HK.out, HBF.out⟩
end Go.Proofs.YtmaiphibpdngnaaGreat

namespace Go.Proofs.YtmaiphibpdngnaaGreat
set_option maxRecDepth 100000
open Go Go.RowKit

theorem ent_new (W : World) (x y : Value) (t : TypeId) : ∀ j u, [x, y][j]? = some u → (W.alloc (.cells #[x, y] t)).cell? ((⟨W.heap.size, 0, none⟩ : Addr).add j) = some u := fun j u hj => by
  rw [zero_add_addr, blk_cell (new_block W _) j]
  simpa using hj

theorem named_cons (e : List UInt8 × Int) (r : List (List UInt8 × Int)) (s : List UInt8) (k : Int) : namedL (e :: r) s k = if Op.bytesLess e.1 s = true then e :: namedL r s k else (s, k) :: (e :: r).filter fun e => e.1 != s := rfl

def NamRel (M : List (List UInt8 × Int)) (s : List UInt8) (z : Int) (w : World) (ov pv iv : Value) (wr : World) : Prop :=
  ∃ (k : Nat) (out : List (List UInt8 × Int)) (put : Bool), k ≤ M.length ∧ iv = .int .i64 k ∧ pv = .bool put ∧ out.length ≤ k + put.toNat ∧ namedL M s z = out ++ (if put = true then M.drop k else namedL (M.drop k) s z) ∧ KidsOwn wr w.heap.size ov out ∧ Below w.heap.size w wr

set_option maxHeartbeats 8000000 in
theorem rnamed_any (v : Value) (M : List (List UInt8 × Int)) (hM : M.length ≤ 4096) (s : List UInt8) (z : Int) (hnew : ∀ e ∈ M, e.1 ≠ s) (w : World) (hK : KidsIn w v M) :
    Calls Tryz.prog 54 #[v, .string ⟨s.toArray⟩, .int .i64 z] w fun e w' => ∃ v', e = .returned v' ∧ KidsOwn w' w.heap.size v' (namedL M s z) ∧ Below w.heap.size w w' := by
  obtain ⟨i0, hi, hz0, hz1, hz2⟩ := info_parts infoE
  obtain ⟨a, cap, rfl, hc, hm, hk⟩ := hK
  have HK := Lib.hid hk
  have HNEW := Lib.hid hnew
  unfold maxLen at hm
  clear hk hnew
  go_enter Tryz.func54, Tryz.ntmps54
  go_wp2_with fail
  go_loopw [7, 8, 9] (fun ov pv iv wr => NamRel M s z w ov pv iv wr) (fun _ _ iv _ => M.length - (intOf iv).toNat)
  case atStart => exact ⟨0, [], false, by omega, rfl, rfl, by simp, by simp, KidsOwn.nil _ _, Below.refl _ _⟩
  case round =>
    obtain ⟨k, out, put, hk, rfl, rfl, hol, he, ho, hb⟩ := hrel
    have HE0 := Lib.hid he
    have HO := Lib.hid (show wr.ownsRow w.heap.size 59 2 _ out.length (kidC out) from ho)
    have HB := Lib.hid hb
    have hsz := hb.size
    clear he ho hb
    by_cases hlt : k < M.length
    · have hlz : (k : Int) < (M.length : Int) := by omega
      have hk0 : (0 : Int) ≤ (k : Int) := by omega
      obtain ⟨c1, p1, rfl, z0, z1⟩ := HK.out k hlt
      have hx := List.drop_eq_getElem_cons hlt
      have hnew' := HNEW.out M[k] (List.getElem_mem _)
      obtain ⟨nm, hnm⟩ : ∃ x, x = M[k].1 := ⟨_, rfl⟩
      obtain ⟨zi, hzi⟩ : ∃ x, x = M[k].2 := ⟨_, rfl⟩
      have hpair : M[k] = (nm, zi) := by rw [hnm, hzi]
      rw [← hnm] at z0 hnew'
      rw [← hzi] at z1
      rw [hpair] at hx
      have HZ0 := Lib.hid z0
      have HZ1 := Lib.hid z1
      have HXD := Lib.hid hx
      have hne : (nm == s) = false := by simpa using hnew'
      have y0 := cell_below HB.out z0
      have y1 := cell_below HB.out z1
      have hyl := cell_lt y0
      clear hnm hzi hpair z0 z1 hx hnew'
      cases put with
      | true =>
        have hol' : out.length ≤ k + 1 := hol
        have HE := Lib.hid (show namedL M s z = (out ++ [(nm, zi)]) ++ (if true = true then M.drop (k + 1) else namedL (M.drop (k + 1)) s z) by
          have h := HE0.out
          rw [if_pos rfl, HXD.out] at h
          rw [if_pos rfl, h]
          simp)
        go_wp2_with (first | (at_builtin; (refine wpList_append_own _ rfl _ _ 47 rfl w.heap.size 59 i0 _ 2 24 Tryz.underlying47 hi hz0 hz1 hz2 rfl (by decide) _ _ _ rfl (HO.out.alloc _) ⟨wr.heap.size, 0, none⟩ 1 1 [.string ⟨nm.toArray⟩, .int .i64 zi] rfl rfl (ent_new _ _ _ _) (fun x hx => by simp at hx; rcases hx with rfl | rfl <;> rfl) (by unfold maxLen; omega) (by omega) (by simp; omega) ?_); intro v3 w3 hown3 hgrow3 hnil3) | fail)
        have hb3 : Below w.heap.size w w3 := (HB.out.alloc HB.out.size _).grown hgrow3 (by simp; omega) (fun r hr => (HO.out.lt r hr).1)
        have HO3 := Lib.hid (show w3.ownsRow w.heap.size 59 2 _ (out ++ [(nm, zi)]).length (kidC (out ++ [(nm, zi)])) by rw [List.length_append, kidC_app]; exact hown3)
        have HB3 := Lib.hid hb3
        have hs3 := hb3.size
        clear hb3 hown3 hgrow3 hnil3
        go_wp2_with fail
        go_roundw
        case rel => exact ⟨k + 1, out ++ [(nm, zi)], true, by omega, by go_num, rfl, by show _ ≤ k + 1 + 1; simp only [List.length_append, List.length_cons, List.length_nil]; omega, HE.out, HO3.out, HB3.out⟩
        case measure => simp [intOf] <;> omega
      | false =>
        have hol' : out.length ≤ k := hol
        cases hls : Op.bytesLess nm s with
        | true =>
          have HE := Lib.hid (show namedL M s z = (out ++ [(nm, zi)]) ++ (if false = true then M.drop (k + 1) else namedL (M.drop (k + 1)) s z) by
            have h := HE0.out
            rw [if_neg (by decide), HXD.out] at h
            rw [named_cons] at h
            rw [if_pos hls] at h
            rw [if_neg (by decide), List.append_assoc]
            exact h)
          go_wp2_with (first | (at_builtin; (refine wpList_append_own _ rfl _ _ 47 rfl w.heap.size 59 i0 _ 2 24 Tryz.underlying47 hi hz0 hz1 hz2 rfl (by decide) _ _ _ rfl (HO.out.alloc _) ⟨wr.heap.size, 0, none⟩ 1 1 [.string ⟨nm.toArray⟩, .int .i64 zi] rfl rfl (ent_new _ _ _ _) (fun x hx => by simp at hx; rcases hx with rfl | rfl <;> rfl) (by unfold maxLen; omega) (by omega) (by simp; omega) ?_); intro v3 w3 hown3 hgrow3 hnil3) | fail)
          have hb3 : Below w.heap.size w w3 := (HB.out.alloc HB.out.size _).grown hgrow3 (by simp; omega) (fun r hr => (HO.out.lt r hr).1)
          have HO3 := Lib.hid (show w3.ownsRow w.heap.size 59 2 _ (out ++ [(nm, zi)]).length (kidC (out ++ [(nm, zi)])) by rw [List.length_append, kidC_app]; exact hown3)
          have HB3 := Lib.hid hb3
          have hs3 := hb3.size
          clear hb3 hown3 hgrow3 hnil3
          go_wp2_with fail
          go_roundw
          case rel => exact ⟨k + 1, out ++ [(nm, zi)], false, by omega, by go_num, rfl, by show _ ≤ k + 1 + 0; simp only [List.length_append, List.length_cons, List.length_nil]; omega, HE.out, HO3.out, HB3.out⟩
          case measure => simp [intOf] <;> omega
        | false =>
          have HE := Lib.hid (show namedL M s z = ((out ++ [(s, z)]) ++ [(nm, zi)]) ++ (if true = true then M.drop (k + 1) else namedL (M.drop (k + 1)) s z) by
            have h := HE0.out
            rw [if_neg (by decide), HXD.out] at h
            rw [named_cons] at h
            rw [if_neg (by rw [hls]; decide), List.filter_eq_self.2 (fun e he => by
              have h1 := HNEW.out e (List.mem_of_mem_drop (i := k) (by rw [HXD.out]; exact he))
              simpa using h1)] at h
            rw [if_pos rfl, h]
            simp)
          go_wp2_with (first | (at_builtin; (refine wpList_append_own _ rfl _ _ 47 rfl w.heap.size 59 i0 _ 2 24 Tryz.underlying47 hi hz0 hz1 hz2 rfl (by decide) _ _ _ rfl (HO.out.alloc _) ⟨wr.heap.size, 0, none⟩ 1 1 [.string ⟨s.toArray⟩, .int .i64 z] rfl rfl (ent_new _ _ _ _) (fun x hx => by simp at hx; rcases hx with rfl | rfl <;> rfl) (by unfold maxLen; omega) (by omega) (by simp; omega) ?_); intro v3 w3 hown3 hgrow3 hnil3; have hb3 : Below w.heap.size w w3 := (HB.out.alloc HB.out.size _).grown hgrow3 (by simp; omega) (fun r hr => (HO.out.lt r hr).1); have y0' := cell_below hb3 HZ0.out; have y1' := cell_below hb3 HZ1.out; have hyl' := cell_lt y0'; have HB3 := Lib.hid hb3; have hs3 := hb3.size; have ho1 : (out ++ [(s, z)]).length = out.length + 1 := (by simp); have HO3 := Lib.hid (show w3.ownsRow w.heap.size 59 2 v3 (out ++ [(s, z)]).length (kidC (out ++ [(s, z)])) by rw [List.length_append, kidC_app]; exact hown3)) | (at_builtin; (refine wpList_append_own _ rfl _ _ 47 rfl w.heap.size 59 i0 _ 2 24 Tryz.underlying47 hi hz0 hz1 hz2 rfl (by decide) _ _ _ rfl (HO3.out.alloc _) ⟨w3.heap.size, 0, none⟩ 1 1 [.string ⟨nm.toArray⟩, .int .i64 zi] rfl rfl (ent_new _ _ _ _) (fun x hx => by simp at hx; rcases hx with rfl | rfl <;> rfl) (by unfold maxLen; omega) (by omega) (by simp; omega) ?_); intro v4 w4 hown4 hgrow4 hnil4) | fail)
          have HO4 := Lib.hid (show w4.ownsRow w.heap.size 59 2 _ ((out ++ [(s, z)]) ++ [(nm, zi)]).length (kidC ((out ++ [(s, z)]) ++ [(nm, zi)])) by rw [List.length_append, kidC_app]; exact hown4)
          have HB4 := Lib.hid (show Below w.heap.size w w4 from (HB3.out.alloc HB3.out.size _).grown hgrow4 (by simp; omega) (fun r hr => (HO3.out.lt r hr).1))
          clear hown4 hgrow4 hnil4 hown3 hgrow3 hnil3 hb3
          go_wp2_with fail
          go_roundw
          case rel => exact ⟨k + 1, (out ++ [(s, z)]) ++ [(nm, zi)], true, by omega, by go_num, rfl, by show _ ≤ k + 1 + 1; simp only [List.length_append, List.length_cons, List.length_nil]; omega, HE.out, HO4.out, HB4.out⟩
          case measure => simp [intOf] <;> omega
    · obtain rfl : k = M.length := by omega
      have hd : M.drop M.length = [] := List.drop_length
      cases put with
      | true =>
        have HE := Lib.hid (show namedL M s z = out by have h := HE0.out; rw [if_pos rfl, hd, List.append_nil] at h; exact h)
        clear hd
        go_wp2_with fail
        go_ret
        exact ⟨_, rfl, by rw [HE.out]; exact HO.out, HB.out⟩
      | false =>
        have hol' : out.length ≤ M.length := hol
        have HE := Lib.hid (show namedL M s z = out ++ [(s, z)] by have h := HE0.out; rw [if_neg (by decide), hd] at h; exact h)
        clear hd
        go_wp2_with (first | (at_builtin; (refine wpList_append_own _ rfl _ _ 47 rfl w.heap.size 59 i0 _ 2 24 Tryz.underlying47 hi hz0 hz1 hz2 rfl (by decide) _ _ _ rfl (HO.out.alloc _) ⟨wr.heap.size, 0, none⟩ 1 1 [.string ⟨s.toArray⟩, .int .i64 z] rfl rfl (ent_new _ _ _ _) (fun x hx => by simp at hx; rcases hx with rfl | rfl <;> rfl) (by unfold maxLen; omega) (by omega) (by simp; omega) ?_); intro v3 w3 hown3 hgrow3 hnil3) | fail)
        have hb3 : Below w.heap.size w w3 := (HB.out.alloc HB.out.size _).grown hgrow3 (by simp; omega) (fun r hr => (HO.out.lt r hr).1)
        have HO3 := Lib.hid (show w3.ownsRow w.heap.size 59 2 _ (out ++ [(s, z)]).length (kidC (out ++ [(s, z)])) by rw [List.length_append, kidC_app]; exact hown3)
        have HB3 := Lib.hid hb3
        have hs3 := hb3.size
        clear hb3 hown3 hgrow3 hnil3
        go_wp2_with fail
        go_ret
        exact ⟨_, rfl, by rw [HE.out]; exact HO3.out, HB3.out⟩
end Go.Proofs.YtmaiphibpdngnaaGreat

namespace Go.Proofs.YtmaiphibpdngnaaGreat
set_option maxRecDepth 100000
open Go Go.RowKit

theorem rparts_view (pb : ByteArray) (hp : pb.size ≤ 1073741824) (N : List (List UInt8)) (hN : partsL pb.data.toList = N) (w : World) :
    Calls Tryz.prog 56 #[.string pb] w fun e w' => ∃ v, e = .returned v ∧ View w' v N ∧ Below w.heap.size w w' := by
  subst hN
  exact (rparts_any pb hp w).mono fun e w' ⟨v, h1, h2, h3⟩ => ⟨v, h1, h2.view, h3⟩

set_option maxRecDepth 100000 in
set_option maxHeartbeats 8000000 in
theorem parent4_any (a : Option Addr) (cap : Nat) (m b cwd : Int) (pb : ByteArray) (hp : pb.size ≤ 1073741824) (L : List Ino) (hF : FitP L m b) (w : World) (hN : NodesIn w a cap L) :
    Calls Tryz.prog 17 #[.agg #[.slice a L.length cap, .int .i64 m, .int .i64 b], .int .i64 cwd, .string pb] w fun e w' => e = .returned (.tuple #[.int .i64 (parentW L cwd pb.data.toList).1, .string ⟨(parentW L cwd pb.data.toList).2.1.toArray⟩, .int .i64 (parentW L cwd pb.data.toList).2.2]) ∧ Below w.heap.size w w' := by
  obtain ⟨w1, hw1⟩ : ∃ w1, w1 = w.alloc (.cells #[.slice a L.length cap, .int .i64 m, .int .i64 b] 24) := ⟨_, rfl⟩
  have hb1 := below_box w (.cells #[.slice a L.length cap, .int .i64 m, .int .i64 b] 24)
  have hM := hN.below hb1
  have hsz : w1.heap.size = w.heap.size + 1 := by rw [hw1]; simp
  have hbox : ∀ W', Below w1.heap.size w1 W' → W'.cell? ⟨w.heap.size, 0, none⟩ = some (.slice a L.length cap) ∧ W'.cell? ⟨w.heap.size, 1, none⟩ = some (.int .i64 m) ∧ W'.cell? ⟨w.heap.size, 2, none⟩ = some (.int .i64 b) := fun W' h => box3 (by rw [← hw1]; exact h)
  rw [← hw1] at hM hb1
  have HM := Lib.hid hM
  have HB := Lib.hid hb1
  have HX := Lib.hid hbox
  have HEND := Lib.hid (show ∀ W', Below w1.heap.size w1 W' → Below w.heap.size w W' from fun W' h => HB.out.trans (h.mono (by rw [hsz]; omega)))
  have HF := Lib.hid hF
  obtain ⟨R, hR⟩ : ∃ R, R = parentW L cwd pb.data.toList := ⟨_, rfl⟩
  rw [← hR]
  have HR := Lib.hid hR
  obtain ⟨z, hz⟩ : ∃ z, badW L cwd pb.data.toList = z := ⟨_, rfl⟩
  have HZ := Lib.hid hz
  clear hM hN hb1 hbox hsz hF hR
  by_cases hbad : z ≠ 0
  · have hzb : (z != 0) = true := by simpa using hbad
    have HW := Lib.hid (show R = (0, [], z) by rw [HR.out]; unfold parentW; rw [hz, if_pos hbad])
    clear hbad hz
    go_enter Tryz.func17, Tryz.ntmps17
    go_wp2_with fail
    rw [← hw1]
    refine (bad4_known _ _ _ _ _ _ hp L z HZ.out _ HM.out).mono ?_
    rintro e w2 ⟨rfl, hb2⟩
    go_wp2_with fail
    go_ret3
    exact ⟨by rw [HW.out]; rfl, HEND.out _ hb2⟩
  · obtain rfl : z = 0 := by simpa using hbad
    obtain ⟨st, hst⟩ : ∃ st, beginW cwd pb.data.toList = st := ⟨_, rfl⟩
    have HST := Lib.hid hst
    obtain ⟨N, hNe⟩ : ∃ N, partsL pb.data.toList = N := ⟨_, rfl⟩
    have HNE := Lib.hid hNe
    have hlong : pb.size ≤ 1024 := by
      unfold badW at hz
      by_cases h2 : pb.data.toList = [] ∨ dirB L cwd = false
      · rw [if_pos h2] at hz; cases hz
      · rw [if_neg h2] at hz
        by_cases hl : longB pb.data.toList = true
        · rw [if_pos hl] at hz; cases hz
        · unfold longB at hl
          rw [Bool.or_eq_true, decide_eq_true_eq, size_list] at hl
          omega
    have hNL : N.length ≤ 1025 := by rw [← hNe]; have := count_parts pb.data.toList; rw [size_list] at this; omega
    have HW := Lib.hid (show R = if N = [] then (0, [], 17) else if (wayW L true 8 N.dropLast st).2 ≠ 0 then (0, [], (wayW L true 8 N.dropLast st).2) else if dirB L (wayW L true 8 N.dropLast st).1 = false then (0, [], 20) else ((wayW L true 8 N.dropLast st).1, N.getLastD [], 0) by
      rw [HR.out]
      unfold parentW
      rw [hz, if_neg (by simp), hst, hNe])
    clear hz hst hNe hbad HR
    rcases List.eq_nil_or_concat N with hn | ⟨M, y, hn⟩
    · subst hn
      have HW2 := Lib.hid (show R = (0, [], 17) by rw [HW.out, if_pos rfl])
      go_enter Tryz.func17, Tryz.ntmps17
      go_wp2_with fail
      rw [← hw1]
      refine (bad4_known _ _ _ _ _ _ hp L 0 HZ.out _ HM.out).mono ?_
      rintro e w2 ⟨rfl, hb2⟩
      have HB2 := Lib.hid hb2
      clear hb2
      go_wp2_with fail
      refine (rparts_view _ hp _ HNE.out _).mono ?_
      rintro e w3 ⟨v, rfl, ⟨na, nc, rfl, -, -, -⟩, hb3⟩
      have HB3 := Lib.hid (HB2.out.trans (hb3.mono HB2.out.size))
      clear hb3
      go_wp2_with fail
      go_ret3
      exact ⟨by rw [HW2.out]; rfl, HEND.out _ HB3.out⟩
    · rw [List.concat_eq_append] at hn
      have hlen : N.length = M.length + 1 := by rw [hn]; simp
      obtain ⟨kz, hkz⟩ : ∃ kz, kz = (wayW L true 8 M st).1 := ⟨_, rfl⟩
      obtain ⟨ez, hez⟩ : ∃ ez, ez = (wayW L true 8 M st).2 := ⟨_, rfl⟩
      have HWAY := Lib.hid (show ∀ W v, Below w1.heap.size w1 W → View W v M → Calls Tryz.prog 57 #[.agg #[.slice a L.length cap, .int .i64 m, .int .i64 b], .int .i64 st, v, .bool true] W fun e w' => e = .returned (.tuple #[.int .i64 kz, .int .i64 ez]) ∧ Below W.heap.size W w' from fun W v hW hv => by
        rw [hkz, hez]
        exact way4_any a cap m b st true M (by omega) v L HF.out W (HM.out.below hW) hv)
      obtain ⟨dz, hdz⟩ : ∃ dz, dirB L kz = dz := ⟨_, rfl⟩
      have HDZ := Lib.hid hdz
      have HW2 := Lib.hid (show R = if ez ≠ 0 then (0, [], ez) else if dz = false then (0, [], 20) else (kz, y, 0) by
        rw [HW.out, if_neg (by rw [hn]; simp), hn, List.dropLast_concat, ← hkz, ← hez, hdz]
        congr 3
        simp)
      have HN := Lib.hid hn
      clear hkz hez hdz hn HW
      go_enter Tryz.func17, Tryz.ntmps17
      go_wp2_with fail
      rw [← hw1]
      refine (bad4_known _ _ _ _ _ _ hp L 0 HZ.out _ HM.out).mono ?_
      rintro e w2 ⟨rfl, hb2⟩
      have HB2 := Lib.hid hb2
      obtain ⟨q0, q1, q2⟩ := HX.out _ HB2.out
      clear hb2
      go_wp2_with fail
      refine (rparts_view _ hp _ HNE.out _).mono ?_
      rintro e w3 ⟨v, rfl, hv, hb3⟩
      have HB3 := Lib.hid (HB2.out.trans (hb3.mono HB2.out.size))
      rw [HN.out] at hv
      obtain ⟨na, nc, rfl, hc1, hc2, hcell⟩ := hv
      obtain ⟨nb, no, rfl, hy⟩ := hcell M.length (by simp)
      have hy0 : (M ++ [y])[M.length]'(by simp) = y := by simp
      rw [hy0] at hy
      have hlen2 : (M ++ [y]).length = M.length + 1 := by simp
      rw [hlen2] at hc1
      have HV := Lib.hid (show View w3 (.slice (some ⟨nb, no, none⟩) M.length nc) M from View.init (x := y) (by
        refine ⟨_, nc, by rw [hlen2], by rw [hlen2]; exact hc1, hc2, hcell⟩))
      unfold maxLen at hc2
      unfold strv at hy
      have HBB := Lib.hid HB3.out
      clear hb3 hcell q0 q1 q2 hy0
      obtain ⟨q0, q1, q2⟩ := HX.out _ HBB.out
      have H1 := Lib.hid (grown_call (wb := w3) (fun W hW => (begin4_known cwd pb st HST.out W).mono fun e w' h => (⟨h.1, by rw [← h.2]; exact Below.refl _ _⟩ : _ ∧ Below W.heap.size W w')))
      have H2 := Lib.hid (grown_call (wb := w3) (fun W hW => HWAY.out W _ (HBB.out.trans (hW.mono HBB.out.size)) (HV.out.below hW)))
      have f0 := grown_cell q0
      have f1 := grown_cell q1
      have f2 := grown_cell q2
      have hi1 : (0 : Int) ≤ (M.length : Int) := by omega
      have hi2 : (M.length : Int) ≤ (nc : Int) := by omega
      have hi3 : ((M.length : Int) + 1) ≤ (nc : Int) := by omega
      go_wp2_with fail
      refine wp_region_grown (by kernel_rfl) (by kernel_rfl) ?_
      repeat (first | go_big_quiet_skip | (go_big_quiet_want; go_big_quiet_op; (first | go_big_quiet_on | (refine ⟨_, H1.out, ?_⟩; go_big_quiet_on) | (refine ⟨_, H2.out, ?_⟩; go_big_quiet_on))))
      refine wpQuiet_nil ?_
      intro w8 hw8
      have hbg : Below w3.heap.size w3 w8 := by obtain ⟨x, rfl⟩ := hw8; exact x.below
      have HB8 := Lib.hid (HBB.out.trans (hbg.mono HBB.out.size))
      obtain ⟨q0, q1, q2⟩ := HX.out _ HB8.out
      have hy8 := cell_below hbg hy
      clear hw8 hbg f0 f1 f2 H1 H2
      cases he : (ez != 0) with
      | true =>
        have HW3 := Lib.hid (show R = (0, [], ez) by rw [HW2.out, if_pos (by simpa using he)])
        go_wp2_with fail
        go_ret3
        exact ⟨by rw [HW3.out]; rfl, HEND.out _ HB8.out⟩
      | false =>
        have hz0 : ez = 0 := by simpa using he
        subst hz0
        cases dz with
        | false =>
          have HW3 := Lib.hid (show R = (0, [], 20) by rw [HW2.out, if_neg (by simp), if_pos rfl])
          go_wp2_with (first | (go_at_call 59; refine (dir4_known _ _ _ _ _ L _ HDZ.out _ (HM.out.below HB8.out)).mono ?_; rintro e w9 ⟨rfl, hb9⟩; have HB9 := Lib.hid (HB8.out.trans (hb9.mono HB8.out.size))) | fail)
          go_ret3
          exact ⟨by rw [HW3.out]; rfl, HEND.out _ HB9.out⟩
        | true =>
          have HW3 := Lib.hid (show R = (kz, y, 0) by rw [HW2.out, if_neg (by simp), if_neg (by simp)])
          go_wp2_with fail
          refine (dir4_known _ _ _ _ _ L _ HDZ.out _ (HM.out.below HB8.out)).mono ?_
          rintro e w9 ⟨rfl, hb9⟩
          have HB9 := Lib.hid (HB8.out.trans (hb9.mono HB8.out.size))
          have f0 := grown_cell (cell_below hb9 hy8)
          clear hb9 q0 q1 q2 hy8
          have hj1 : (M.length : Int) < ((M.length : Int) + 1) := by omega
          go_wp2_with fail
          refine wp_region_grown (by kernel_rfl) (by kernel_rfl) ?_
          repeat (first | go_big_quiet_skip | (go_big_quiet_want; go_big_quiet_op; go_big_quiet_on))
          refine wpQuiet_nil ?_
          intro w10 hw10
          have hbg : Below w9.heap.size w9 w10 := by obtain ⟨x, rfl⟩ := hw10; exact x.below
          have HB10 := Lib.hid (HB9.out.trans (hbg.mono HB9.out.size))
          clear hw10 hbg f0
          go_wp2_with fail
          go_ret3
          exact ⟨by rw [HW3.out]; rfl, HEND.out _ HB10.out⟩
end Go.Proofs.YtmaiphibpdngnaaGreat

namespace Go.Proofs.YtmaiphibpdngnaaGreat
set_option maxRecDepth 100000
open Go Go.RowKit

theorem end_byte5 (s : ByteArray) (n : Nat) (h : s.size = n + 1) : endL s.data.toList = ((s[n].toNat : Int) == 47) := by
  have e : s.data.toList.getLast? = some (s[n]'(by omega)) := by
    rw [List.getLast?_eq_getElem?, size_list, show s.size - 1 = n by omega, List.getElem?_eq_getElem (by rw [size_list]; omega), at_list s n (by omega)]
  unfold endL
  rw [e]
  rw [Bool.eq_iff_iff, beq_iff_eq, beq_iff_eq, Option.some.injEq]
  constructor
  · intro e
    rw [e]
    rfl
  · intro e
    exact UInt8.toNat_inj.1 (by show s[n].toNat = 47; omega)
theorem in_total : ∀ (M : List (List UInt8)) (x : List UInt8), x ∈ M → x.length + 1 ≤ total M
  | [], _, h => by cases h
  | y :: r, x, h => by
    unfold total
    rcases List.mem_cons.1 h with rfl | h
    · omega
    · have := in_total r x h
      omega
theorem par_name {L : List Ino} {cwd : Int} {p : List UInt8} {d : Int} {nm : List UInt8} (h : parentW L cwd p = (d, nm, 0)) : nm.length ≤ p.length ∧ p ≠ [] := by
  unfold parentW at h
  split at h
  · rename_i h1
    simp only [Prod.mk.injEq] at h
    exact absurd h.2.2 h1
  · split at h
    · simp only [Prod.mk.injEq] at h
      exact absurd h.2.2 (by decide)
    · rename_i h2
      have hp : p ≠ [] := fun e => h2 (by rw [e]; rfl)
      split at h
      · rename_i h3
        simp only [Prod.mk.injEq] at h
        exact absurd h.2.2 h3
      · split at h
        · simp only [Prod.mk.injEq] at h
          exact absurd h.2.2 (by decide)
        · simp only [Prod.mk.injEq] at h
          refine ⟨?_, hp⟩
          rw [← h.2.1, List.getLastD_eq_getLast?, List.getLast?_eq_some_getLast h2]
          have h4 := Nat.le_trans (in_total _ _ (List.getLast_mem h2)) (total_parts p)
          exact Nat.le_of_succ_le_succ h4

set_option maxHeartbeats 8000000 in
theorem rfresh_any (a : Option Addr) (cap : Nat) (m b cwd : Int) (pb : ByteArray) (hp : pb.size ≤ 1073741824) (dirs : Bool) (L : List Ino) (hF : FitP L m b) (z : Int) (s : List UInt8) (er : Int) (hz : freshW L cwd pb.data.toList dirs = (z, s, er)) (w : World) (hN : NodesIn w a cap L) :
    Calls Tryz.prog 67 #[.agg #[.slice a L.length cap, .int .i64 m, .int .i64 b], .int .i64 cwd, .string pb, .bool dirs] w fun e w' => e = .returned (.tuple #[.int .i64 z, .string ⟨s.toArray⟩, .int .i64 er]) ∧ Below w.heap.size w w' := by
  obtain ⟨⟨d, nm, pe⟩, hpar⟩ : ∃ r, parentW L cwd pb.data.toList = r := ⟨_, rfl⟩
  obtain ⟨w1, hw1⟩ : ∃ w1, w1 = w.alloc (.cells #[.slice a L.length cap, .int .i64 m, .int .i64 b] 24) := ⟨_, rfl⟩
  have hb1 : Below w.heap.size w w1 := by rw [hw1]; exact below_box w _
  have HX := Lib.hid (show ∀ W', Below w1.heap.size w1 W' → W'.cell? ⟨w.heap.size, 0, none⟩ = some (.slice a L.length cap) ∧ W'.cell? ⟨w.heap.size, 1, none⟩ = some (.int .i64 m) ∧ W'.cell? ⟨w.heap.size, 2, none⟩ = some (.int .i64 b) from fun W' h => box3 (by rw [← hw1]; exact h))
  have hs1 : w1.heap.size = w.heap.size + 1 := by rw [hw1]; simp
  have HM := Lib.hid (show ∀ W', Below w1.heap.size w1 W' → NodesIn W' a cap L from fun W' h => hN.below (hb1.trans (h.mono (by omega))))
  have HEND := Lib.hid (show ∀ W', Below w1.heap.size w1 W' → Below w.heap.size w W' from fun W' h => hb1.trans (h.mono (by omega)))
  have HP := Lib.hid hpar
  have HF := Lib.hid hF
  have HZ := Lib.hid hz
  clear hpar hF hz hN hb1
  go_enter Tryz.func67, Tryz.ntmps67
  go_wp2_with fail
  rw [← hw1]
  clear hw1
  have hpk := parent4_any a cap m b cwd pb hp L HF.out w1 (HM.out _ (Below.refl _ _))
  rw [HP.out] at hpk
  refine hpk.mono ?_
  rintro e w3 ⟨rfl, hb3⟩
  have HB3 := Lib.hid hb3
  have hs3 := hb3.size
  clear hb3 hpk
  by_cases h1 : pe = 0
  · subst h1
    obtain ⟨hnmp, hpne⟩ := par_name HP.out
    rw [size_list] at hnmp
    obtain ⟨n, hn⟩ : ∃ n, pb.size = n + 1 := ⟨pb.size - 1, by
      have h : pb.data.toList.length ≠ 0 := fun e => hpne (List.length_eq_zero_iff.1 e)
      rw [size_list] at h
      omega⟩
    have hnl : (⟨nm.toArray⟩ : ByteArray).size ≤ 9223372036854775807 := by rw [str_len]; omega
    have HEB := Lib.hid (end_byte5 pb n hn)
    obtain ⟨sf, hsf⟩ : ∃ v, endL pb.data.toList = v := ⟨_, rfl⟩
    obtain ⟨kz, hkz⟩ : ∃ v, kidL L d nm = v := ⟨_, rfl⟩
    obtain ⟨mv, hmv⟩ : ∃ v, mayL L d 3 = v := ⟨_, rfl⟩
    obtain ⟨nv, hnv⟩ : ∃ v, nameOkL nm = v := ⟨_, rfl⟩
    have HSF := Lib.hid hsf
    have HK := Lib.hid hkz
    have HMV := Lib.hid hmv
    have HNM := Lib.hid (show nameOkL (⟨nm.toArray⟩ : ByteArray).data.toList = nv from hnv)
    have hz2 := HZ.out
    unfold freshW at hz2
    rw [HP.out] at hz2
    simp only [hkz, hmv, hnv, hsf] at hz2
    clear hsf hkz hmv hnv hpne hnmp
    obtain ⟨q0, q1, q2⟩ := HX.out _ HB3.out
    have hq := cell_lt q0
    by_cases e1 : nm = [46]
    · subst e1
      simp at hz2
      obtain ⟨rfl, rfl, rfl⟩ := hz2
      go_wp2_with fail
      go_ret3
      exact ⟨rfl, HEND.out _ HB3.out⟩
    have e1b : (nm == [46]) = false := by simpa using e1
    by_cases e2 : nm = [46, 46]
    · subst e2
      simp at hz2
      obtain ⟨rfl, rfl, rfl⟩ := hz2
      clear e1 e1b
      go_wp2_with fail
      go_ret3
      exact ⟨rfl, HEND.out _ HB3.out⟩
    have e2b : (nm == [46, 46]) = false := by simpa using e2
    simp only [e1, e2, false_or, ne_eq, not_true_eq_false, if_false] at hz2
    have HZ2 := Lib.hid hz2
    clear e1 e2 hz2 HZ
    go_wp2_with fail
    refine (rkid_known _ _ _ _ _ _ L _ HK.out _ (HM.out _ HB3.out)).mono ?_
    rintro e w4 ⟨rfl, hb4⟩
    have HB4 := Lib.hid (HB3.out.trans (hb4.mono HB3.out.size))
    clear hb4 q0 q1 q2 hq
    obtain ⟨q0, q1, q2⟩ := HX.out _ HB4.out
    have hq := cell_lt q0
    have hz2 := HZ2.out
    by_cases e3 : 0 ≤ kz
    · simp only [e3, if_true, Prod.mk.injEq] at hz2
      obtain ⟨rfl, rfl, rfl⟩ := hz2
      go_wp2_with fail
      go_ret3
      exact ⟨rfl, HEND.out _ HB4.out⟩
    simp only [e3, if_false] at hz2
    cases nv with
    | false =>
      simp only [if_true, Prod.mk.injEq] at hz2
      obtain ⟨rfl, rfl, rfl⟩ := hz2
      go_wp2_with (first | (go_at_call 24; refine (rname_known _ hnl _ (HNM.out) _).mono ?_; rintro e w' ⟨rfl, rfl⟩) | fail)
      go_ret3
      exact ⟨rfl, HEND.out _ HB4.out⟩
    | true =>
      simp only [Bool.true_eq_false, if_false] at hz2
      go_wp2_with (first | (go_at_call 24; refine (rname_known _ hnl _ (HNM.out) _).mono ?_; rintro e w' ⟨rfl, rfl⟩) | fail)
      refine (may4_known _ _ _ _ _ _ L (by decide) (by decide) HF.out.ins _ (HM.out _ HB4.out)).mono ?_
      rintro e w5 ⟨rfl, hb5⟩
      rw [HMV.out]
      have HB5 := Lib.hid (HB4.out.trans (hb5.mono HB4.out.size))
      clear hb5 q0 q1 q2 hq
      cases mv with
      | false =>
        simp only [if_true, Prod.mk.injEq] at hz2
        obtain ⟨rfl, rfl, rfl⟩ := hz2
        go_wp2_with fail
        go_ret3
        exact ⟨rfl, HEND.out _ HB5.out⟩
      | true =>
        simp only [Bool.true_eq_false, if_false] at hz2
        cases dirs with
        | true =>
          simp only [Bool.true_eq_false, false_and, if_false, Prod.mk.injEq] at hz2
          obtain ⟨rfl, rfl, rfl⟩ := hz2
          go_wp2_with fail
          go_ret3
          exact ⟨rfl, HEND.out _ HB5.out⟩
        | false =>
          have hw : IntKind.i64.wrap ((pb.size : Int) - 1) = (n : Int) := by rw [IntWalk.i64_in _ ⟨by omega, by omega⟩]; omega
          have hn0 : (0 : Int) ≤ (n : Int) := by omega
          have hn1 : (n : Int) < (pb.size : Int) := by omega
          have hn2 : n < pb.size := by omega
          cases hl : ((pb[n].toNat : Int) == 47) with
          | true =>
            have hsf : sf = true := by rw [← HSF.out, HEB.out, hl]
            subst hsf
            simp only [and_self, if_true, Prod.mk.injEq] at hz2
            obtain ⟨rfl, rfl, rfl⟩ := hz2
            go_wp2_with fail
            go_ret3
            exact ⟨rfl, HEND.out _ HB5.out⟩
          | false =>
            have hsf : sf = false := by rw [← HSF.out, HEB.out, hl]
            subst hsf
            simp only [Bool.false_eq_true, and_false, if_false, Prod.mk.injEq] at hz2
            obtain ⟨rfl, rfl, rfl⟩ := hz2
            go_wp2_with fail
            go_ret3
            exact ⟨rfl, HEND.out _ HB5.out⟩
  · have hz2 := HZ.out
    unfold freshW at hz2
    rw [HP.out] at hz2
    simp only [h1, ne_eq, not_false_eq_true, if_true, Prod.mk.injEq] at hz2
    obtain ⟨rfl, rfl, rfl⟩ := hz2
    have hb1 : (pe != 0) = true := by simpa using h1
    go_wp2_with fail
    go_ret3
    exact ⟨rfl, HEND.out _ HB3.out⟩
end Go.Proofs.YtmaiphibpdngnaaGreat
