/-
  drop's Rename of the landed code: it answers what chapter 6 says.
  The reference's small questions of chapter 6: isDir, slash, named, within, over.
  The reference's Unlink and Rmdir, of chapter 6.
  The reference's list: all paths beneath a directory.
  The reference's List: all paths of a tree.
  The reference's Same: are two rows of texts the same?
-/
import Derived.Test.YtmaiphibpdngnaaGreatQ3
import Derived.Test.YtmaiphibpdngnaaGreatK10
import Derived.Test.YtmaiphibpdngnaaGreatK8
import Derived.Test.YtmaiphibpdngnaaGreatK9
import Derived.BigRegion
import Derived.Deep.Draws
import Derived.Test.YtmaiphibpdngnaaGreatK2
import Derived.Test.YtmaiphibpdngnaaGreatK7
import Derived.Deep.RegionHeld3
import Derived.Test.YtmaiphibpdngnaaGreatK1
import Derived.Deep.QuietTactic
import Derived.BigQuiet
namespace Go.Proofs.YtmaiphibpdngnaaGreat
set_option maxRecDepth 100000
open Go Go.RowKit

theorem dspot_ok {L : List Ino} {cwd : Int} {p : List UInt8} {tz : Int} {last : List UInt8} {ino : Int} {sl2 : Bool} {er1 : Int} (h : dspotW L cwd p = (tz, last, ino, sl2, er1)) :
    er1 = (parentW L cwd p).2.2 ∧ (er1 = 0 → (parentW L cwd p).1 = tz ∧ (parentW L cwd p).2.1 = last ∧ ino = kidL L tz last ∧ sl2 = endL p) := by
  unfold dspotW at h
  by_cases e : (parentW L cwd p).2.2 = 0
  · rw [if_neg (by simpa using e)] at h
    simp only [Prod.mk.injEq] at h
    obtain ⟨rfl, rfl, rfl, rfl, rfl⟩ := h
    exact ⟨e.symm, fun _ => ⟨rfl, rfl, rfl, rfl⟩⟩
  · rw [if_pos e] at h
    simp only [Prod.mk.injEq] at h
    obtain ⟨-, -, -, -, rfl⟩ := h
    exact ⟨rfl, fun h => absurd h e⟩
theorem over_pla {L : List Ino} {m b : Int} (hF : FitP L m b) {cwd : Int} (hc : dirB L cwd = true) {k : Int} {tn : Nat} (htn : tn < L.length) (rm : Bool) :
    firstP (plaP true (dirB L k) (dirB L (tn : Int)) (decide (0 < (nodeAt L (tn : Int)).kids.length)) ((tn : Int) == cwd) rm) = overW L cwd k (tn : Int) := by
  unfold overW plaP
  cases h1 : dirB L k <;> cases h2 : dirB L (tn : Int)
  · have h3 := file_empty hF htn h2
    have h4 : ¬ (tn : Int) = cwd := fun e => by rw [e, hc] at h2; cases h2
    have h5 : ((tn : Int) == cwd) = false := by simpa using h4
    rw [node_nat L tn htn, h3, h5]
    simp [firstP]
  · simp [firstP]
  · simp [firstP]
  · by_cases h3 : 0 < (nodeAt L (tn : Int)).kids.length
    · simp [firstP, h3]
    · by_cases h4 : (tn : Int) = cwd
      · have h5 : ((tn : Int) == cwd) = true := by simpa using h4
        rw [decide_eq_false h3, h5, if_neg (by simp), if_neg (by simp), if_neg (fun h => h3 h.2), if_pos ⟨rfl, h4⟩]
        rfl
      · have h5 : ((tn : Int) == cwd) = false := by simpa using h4
        rw [decide_eq_false h3, h5]
        simp [firstP, h3, h4]
theorem rename_cases {L : List Ino} {m b : Int} (hF : FitP L m b) {cwd : Int} {old p : List UInt8} {z : Int} {s : List UInt8} {k : Int} {sl : Bool} {er0 : Int} (h0 : dnameS L cwd old = (z, s, k, sl, er0))
    {tz : Int} {last : List UInt8} {ino : Int} {sl2 : Bool} {er1 : Int} (h1 : dspotW L cwd p = (tz, last, ino, sl2, er1)) {L' : List Ino} {er : Int} (hz : renameW L cwd old p = (L', er)) :
    (er0 ≠ 0 → L = L' ∧ er0 = er) ∧ (er0 = 0 → ∃ d kn : Nat, NameAt L m b cwd old d kn s ∧ z = (d : Int) ∧ k = (kn : Int) ∧ (er1 ≠ 0 → L = L' ∧ er1 = er) ∧
      (er1 = 0 → ∃ to : Nat, tz = (to : Int) ∧ to < L.length ∧ dirB L (to : Int) = true ∧ ∃ f, firstP [(22, !nameOkL last), (13, !mayL L (to : Int) 3), (20, !dirB L (kn : Int) && (sl || sl2)), (22, dirB L (kn : Int) && withinB L L.length (to : Int) (kn : Int))] = f ∧ (f ≠ 0 → L = L' ∧ f = er) ∧
        (f = 0 → (ino = (kn : Int) → L = L' ∧ 0 = er) ∧ (ino ≠ (kn : Int) → ∃ tn : Nat, tn < L.length ∧ (ino ≠ -1 → ino = (tn : Int)) ∧ ∃ q, firstP (plaP (ino != -1) (dirB L (kn : Int)) (dirB L ino) (decide (0 < (nodeAt L (tn : Int)).kids.length)) (ino == cwd) (decide (1024 ≤ (nodeAt L (to : Int)).kids.length))) = q ∧
          (q ≠ 0 → L = L' ∧ q = er) ∧ (q = 0 → 0 = er ∧ ((ino = -1 ∧ Moves L m b d kn to s last ∧ moveL L d kn to s last = L') ∨ (ino = (tn : Int) ∧ Takes L m b to tn last ∧ Moves (goneL L to tn last) m b d kn to s last ∧ moveL (goneL L to tn last) d kn to s last = L'))))))) := by
  obtain ⟨he, hok⟩ := dname_named hF h0
  obtain ⟨hs, hsk⟩ := dspot_ok h1
  unfold renameW at hz
  rw [← he, ← hs] at hz
  refine ⟨fun e0 => ?_, fun e0 => ?_⟩
  · rw [if_pos e0] at hz
    cases hz
    exact ⟨rfl, rfl⟩
  obtain ⟨d, kn, hn, rfl, rfl, rfl⟩ := hok e0
  rw [if_neg (by simpa using e0)] at hz
  refine ⟨d, kn, hn, rfl, rfl, fun e1 => ?_, fun e1 => ?_⟩
  · rw [if_pos e1] at hz
    cases hz
    exact ⟨rfl, rfl⟩
  rw [if_neg (by simpa using e1)] at hz
  obtain ⟨p1, p2, rfl, rfl⟩ := hsk e1
  have hdir := (parent_ok (hs.symm.trans e1)).2
  rw [p1] at hdir
  obtain ⟨to, rfl, htl⟩ := dir_lt hdir
  rw [p1, p2, hn.nam] at hz
  simp only at hz
  refine ⟨to, rfl, htl, hdir, _, rfl, ?_⟩
  by_cases g1 : nameOkL last = true
  case neg =>
    have g1' : nameOkL last = false := by simpa using g1
    rw [if_pos g1'] at hz
    cases hz
    rw [g1']
    exact ⟨fun _ => ⟨rfl, rfl⟩, fun h => absurd h (by simp [firstP])⟩
  rw [if_neg (by simpa using g1)] at hz
  by_cases g2 : mayL L (to : Int) 3 = true
  case neg =>
    have g2' : mayL L (to : Int) 3 = false := by simpa using g2
    rw [if_pos g2'] at hz
    cases hz
    rw [g1, g2']
    exact ⟨fun _ => ⟨rfl, rfl⟩, fun h => absurd h (by simp [firstP])⟩
  rw [if_neg (by simpa using g2)] at hz
  by_cases g3 : dirB L (kn : Int) = false ∧ (endL p = true ∨ endL old = true)
  · rw [if_pos g3] at hz
    cases hz
    rw [g1, g2, g3.1]
    have : (endL old || endL p) = true := by rcases g3.2 with h | h <;> simp [h]
    rw [this]
    exact ⟨fun _ => ⟨rfl, rfl⟩, fun h => absurd h (by simp [firstP])⟩
  rw [if_neg g3] at hz
  have g3' : (!dirB L (kn : Int) && (endL old || endL p)) = false := by
    cases h1 : dirB L (kn : Int) <;> cases h2 : endL p <;> cases h3 : endL old <;> simp_all
  by_cases g4 : dirB L (kn : Int) = true ∧ withinB L L.length (to : Int) (kn : Int) = true
  · rw [if_pos g4] at hz
    cases hz
    rw [g1, g2, g3', g4.1, g4.2]
    exact ⟨fun _ => ⟨rfl, rfl⟩, fun h => absurd h (by simp [firstP])⟩
  rw [if_neg g4] at hz
  have g4' : (dirB L (kn : Int) && withinB L L.length (to : Int) (kn : Int)) = false := by
    cases h1 : dirB L (kn : Int) <;> cases h2 : withinB L L.length (to : Int) (kn : Int) <;> simp_all
  rw [g1, g2, g3', g4']
  refine ⟨fun h => absurd (show firstP [(22, !true), (13, !true), (20, false), (22, false)] = 0 from rfl) h, fun _ => ⟨fun e2 => ?_, fun e2 => ?_⟩⟩
  · unfold placeW at hz
    rw [if_pos e2] at hz
    cases hz
    exact ⟨rfl, rfl⟩
  obtain ⟨hm1, hm2⟩ := moves_of hn htl hdir g1 g4
  unfold placeW at hz
  rw [if_neg e2] at hz
  by_cases g5 : 0 ≤ kidL L (to : Int) last
  · obtain ⟨tn, htn, htnl⟩ := there_nat (live_there (kid_live hF g5))
    rw [htn] at hz e2 ⊢
    refine ⟨tn, htnl, fun _ => rfl, ?_⟩
    have hx : ((tn : Int) != -1) = true := by simp
    rw [hx, over_pla hF hn.cwd htnl]
    rw [if_pos (by omega)] at hz
    refine ⟨_, rfl, fun e3 => ?_, fun e3 => ?_⟩
    · rw [if_pos e3] at hz
      cases hz
      exact ⟨rfl, rfl⟩
    · rw [if_neg (by simpa using e3)] at hz
      simp only [Int.toNat_natCast, Prod.mk.injEq] at hz
      have hT := over_takes hF htl htnl htn e3
      exact ⟨hz.2, .inr ⟨rfl, hT, hm2 tn hT (by omega), hz.1⟩⟩
  · have g6 := kid_neg hF (d := (to : Int)) (s := last) (by omega)
    rw [g6] at hz ⊢
    refine ⟨0, by omega, fun h => absurd rfl h, ?_⟩
    rw [if_neg (by decide)] at hz
    have hx : ((-1 : Int) != -1) = false := by decide
    rw [hx]
    by_cases g7 : 1024 ≤ (nodeAt L (to : Int)).kids.length
    · rw [if_pos g7] at hz
      cases hz
      rw [decide_eq_true g7]
      refine ⟨28, ?_, fun _ => ⟨rfl, rfl⟩, fun h => absurd h (by decide)⟩
      simp [plaP, firstP]
    · rw [if_neg g7] at hz
      simp only [Int.toNat_natCast, Prod.mk.injEq] at hz
      rw [decide_eq_false g7]
      rw [node_nat L to htl] at g7
      refine ⟨0, by simp [plaP, firstP], fun h => absurd rfl h, fun _ => ⟨hz.2, .inl ⟨rfl, hm1 g5 (by omega), hz.1⟩⟩⟩

set_option maxHeartbeats 16000000 in
theorem lrename_any (a : Option Addr) (cap : Nat) (m b cwd : Int) (pb pq : ByteArray) (hp : pb.size ≤ 1073741824) (hpq : pq.size ≤ 1073741824) (L : List Ino) (hF : FitP L m b) (L' : List Ino) (er : Int) (hz : renameW L cwd pb.data.toList pq.data.toList = (L', er)) (w : World) (hN : NodesIn w a cap L) :
    Calls Tryz.prog 14 #[.agg #[.slice a L.length cap, .int .i64 m, .int .i64 b], .int .i64 cwd, .string pb, .string pq] w (RefAns w m b L' [.int .i64 er]) := by
  obtain ⟨w2, hw2, hb2, hs2, hA, hB⟩ := two_boxes w #[.slice a L.length cap, .int .i64 m, .int .i64 b] #[.slice none 0 0, .int .i64 0, .int .i64 0] 24 24
  obtain ⟨l1, l2, l3, l4, l5⟩ := hF.limits
  have hL0 : 0 < L.length := by omega
  have hL1 : L.length ≤ 256 := by omega
  obtain ⟨⟨z, s, k, sl, er0⟩, hd⟩ : ∃ r, dnameS L cwd pb.data.toList = r := ⟨_, rfl⟩
  obtain ⟨⟨tz, last, ino, sl2, er1⟩, hp1⟩ : ∃ r, dspotW L cwd pq.data.toList = r := ⟨_, rfl⟩
  obtain ⟨hc0, hc1⟩ := rename_cases hF hd hp1 hz
  have HA := Lib.hid (show ∀ W, Below w2.heap.size w2 W → W.heap[w.heap.size]? = some (.cells #[.slice a L.length cap, .int .i64 m, .int .i64 b] 24 (0, 0)) from fun W hW => (hW.block w.heap.size (by omega)).trans hA)
  have HR := Lib.hid (show ∀ W, Below w2.heap.size w2 W → W.heap[w.heap.size + 1]? = some (.cells #[.slice none 0 0, .int .i64 0, .int .i64 0] 24 (0, 0)) from fun W hW => (hW.block _ (by omega)).trans hB)
  have HD := Lib.hid hd
  have HP1 := Lib.hid hp1
  have HF := Lib.hid hF
  have HN2 := Lib.hid (hN.below hb2)
  have HC0 := Lib.hid hc0
  have HC1 := Lib.hid hc1
  have HB2 := Lib.hid hb2
  clear hd hp1 hF hN hc0 hc1 hz hb2 hA hB
  go_enter Tryz.func14, Tryz.ntmps14
  go_wp2_with fail
  rw [← hw2]
  clear hw2
  refine (lcopied_any a cap m b L hL0 (by omega) (fun x hx => by obtain ⟨j, hj, rfl⟩ := List.getElem_of_mem hx; have := (HF.out.ins j hj).2.1; omega) _ HN2.out).mono ?_
  rintro e w3 ⟨g, cap', vs, rfl, hO3, hb3⟩
  have hgb := hO3.hbase
  have hgl := hO3.nodes.lt
  have HO3 := Lib.hid hO3.refT
  have HB3 := Lib.hid hb3
  have hs3 := hb3.size
  obtain ⟨q0, q1, q2⟩ := tree_block (HA.out _ hb3)
  have hq := cell_lt q0
  clear hO3 hb3
  go_wp2_with fail
  obtain ⟨w4, hw4⟩ : ∃ w4, w4 = w3.alloc (.cells #[.slice (some ⟨g, 0, none⟩) L.length cap', .int .i64 m, .int .i64 b] 24) := ⟨_, rfl⟩
  have hb4 : Below w3.heap.size w3 w4 := by rw [hw4]; exact below_box w3 _
  have hM4 : w4.heap[w3.heap.size]? = some (.cells #[.slice (some ⟨g, 0, none⟩) L.length cap', .int .i64 m, .int .i64 b] 24 (0, 0)) := by rw [hw4]; exact new_block w3 _
  have hs4 : w4.heap.size = w3.heap.size + 1 := by rw [hw4]; simp
  rw [← hw4]
  clear hw4 q0 q1 q2 hq
  have HB4 := Lib.hid (HB3.out.trans (hb4.mono hs3))
  have HO4 := Lib.hid (HO3.out.below hb4)
  have HM4 := Lib.hid hM4
  clear hb4 hM4 HO3
  refine (lname_at_any _ _ _ _ _ _ hp L HF.out _ _ _ _ _ HD.out _ (HN2.out.below HB4.out)).mono ?_
  rintro e w5 ⟨rfl, hb5⟩
  have HB5 := Lib.hid (HB4.out.trans (hb5.mono (by omega)))
  have HO5 := Lib.hid (HO4.out.below hb5)
  have HM5 := Lib.hid ((hb5.block w3.heap.size (by omega)).trans HM4.out)
  have hs5 := hb5.size
  unfold spotV
  clear hb5 HO4 HM4
  obtain ⟨w6, hw6⟩ : ∃ w6, w6 = w5.alloc (.cells #[.int .i64 z, .string ⟨s.toArray⟩, .int .i64 k, .bool sl] 62) := ⟨_, rfl⟩
  have hb6 : Below w5.heap.size w5 w6 := by rw [hw6]; exact below_box w5 _
  have hS6 : w6.heap[w5.heap.size]? = some (.cells #[.int .i64 z, .string ⟨s.toArray⟩, .int .i64 k, .bool sl] 62 (0, 0)) := by rw [hw6]; exact new_block w5 _
  have hs6 : w6.heap.size = w5.heap.size + 1 := by rw [hw6]; simp
  have HB6 := Lib.hid (HB5.out.trans (hb6.mono HB5.out.size))
  have HO6 := Lib.hid (HO5.out.below hb6)
  have HM6 := (hb6.block w3.heap.size (by omega)).trans HM5.out
  have HALL6 := Lib.hid (show ∀ W, Off g w6 W → W.heap[w.heap.size + 1]? = some (.cells #[.slice none 0 0, .int .i64 0, .int .i64 0] 24 (0, 0)) ∧ TreeBx W w3.heap.size (some ⟨g, 0, none⟩) cap' L.length m b ∧ TreeBx W w.heap.size a cap L.length m b ∧ SpotIn W w5.heap.size z s k sl ∧ Below w.heap.size w W from fun W hW =>
    ⟨(hW.block _ (by omega) (by omega)).trans (HR.out _ HB6.out), tree_block ((hW.block _ (by omega) (by omega)).trans HM6), tree_block ((hW.block _ (by omega) (by omega)).trans (HA.out _ HB6.out)), spot_block ((hW.block _ (by omega) (by omega)).trans hS6), (HB2.out.trans (HB6.out.mono (by omega))).trans (hW.below (by omega) (by have := HB6.out.size; omega))⟩)
  clear hb6 hS6 HM6 HO5 HM5
  have HEND := Lib.hid (show ∀ W, Off g w6 W → ∀ (L2 : List Ino) (vs2 : List Value), L2.length = L.length → RefT W g cap' L2 vs2 → ∀ x y v, NodesIn (put3 W (w.heap.size + 1) x y v) (some ⟨g, 0, none⟩) cap' L2 ∧ Below w.heap.size w (put3 W (w.heap.size + 1) x y v) from fun W hW L2 vs2 _ hR x y v => ⟨nodes_put3 hR.nodesIn (HALL6.out W hW).1 x y v, put3_below (HALL6.out W hW).2.2.2.2 (by omega) x y v⟩)
  by_cases h0 : er0 = 0
  · subst h0
    obtain ⟨d, kn, hna, rfl, rfl, hc2, hc3⟩ := HC1.out rfl
    have HNA := Lib.hid hna
    have HC2 := Lib.hid hc2
    have HC3 := Lib.hid hc3
    clear hna hc2 hc3 HC0 HC1
    obtain ⟨-, ⟨m0, m1, m2⟩, ⟨q0, q1, q2⟩, -, -⟩ := HALL6.out _ (Off.refl _ _)
    have hml := cell_lt m0
    have hql := cell_lt q0
    rw [hw6] at m0 m1 m2 q0 q1 q2 hml hql
    go_wp2_with fail
    rw [← hw6]
    clear hw6 m0 m1 m2 q0 q1 q2 hml hql
    refine (lspot_any _ _ _ _ _ _ hpq L HF.out _ _ _ _ _ HP1.out _ (HN2.out.below HB6.out)).mono ?_
    rintro e w7 ⟨rfl, hb7⟩
    have HB7 := Lib.hid (HB6.out.trans (hb7.mono (by omega)))
    have HO7 := Lib.hid (HO6.out.below hb7)
    have HF7 := Lib.hid (show Off g w6 w7 from .of_below hb7)
    have hs7 := hb7.size
    unfold spotV
    clear hb7 HO6
    obtain ⟨w8, hw8⟩ : ∃ w8, w8 = w7.alloc (.cells #[.int .i64 tz, .string ⟨last.toArray⟩, .int .i64 ino, .bool sl2] 62) := ⟨_, rfl⟩
    have hb8 : Below w7.heap.size w7 w8 := by rw [hw8]; exact below_box w7 _
    have hS8 : w8.heap[w7.heap.size]? = some (.cells #[.int .i64 tz, .string ⟨last.toArray⟩, .int .i64 ino, .bool sl2] 62 (0, 0)) := by rw [hw8]; exact new_block w7 _
    have hs8 : w8.heap.size = w7.heap.size + 1 := by rw [hw8]; simp
    have HB8 := Lib.hid (HB7.out.trans (hb8.mono HB7.out.size))
    have HO8 := Lib.hid (HO7.out.below hb8)
    have HF8 := Lib.hid (HF7.out.trans (.of_below hb8))
    have HALL := Lib.hid (show ∀ W, Off g w8 W → W.heap[w.heap.size + 1]? = some (.cells #[.slice none 0 0, .int .i64 0, .int .i64 0] 24 (0, 0)) ∧ TreeBx W w3.heap.size (some ⟨g, 0, none⟩) cap' L.length m b ∧ TreeBx W w.heap.size a cap L.length m b ∧ SpotIn W w5.heap.size d s kn sl ∧ SpotIn W w7.heap.size tz last ino sl2 ∧ Below w.heap.size w W from fun W hW => by
      obtain ⟨g1, g2, g3, g4, g5⟩ := HALL6.out W (HF8.out.trans hW)
      exact ⟨g1, g2, g3, g4, spot_block ((hW.block _ (by omega) (by omega)).trans hS8), g5⟩)
    clear hb8 hS8 HO7 HF7
    obtain ⟨hRx, ⟨m0, m1, m2⟩, ⟨q0, q1, q2⟩, ⟨x0, x1, x2, x3⟩, ⟨y0, y1, y2, y3⟩, -⟩ := HALL.out _ (Off.refl _ _)
    have HRX := Lib.hid hRx
    have r0 := blk_cell hRx 0
    have r1 := blk_cell hRx 1
    have r2 := blk_cell hRx 2
    have s0 := blk_free hRx 0
    have s1 := blk_free hRx 1
    have s2 := blk_free hRx 2
    have hrl := lt_of_block hRx
    have hml := cell_lt m0
    have hql := cell_lt q0
    have hxl := cell_lt x0
    have hyl := cell_lt y0
    clear hRx
    rw [hw8] at r0 r1 r2 s0 s1 s2 hrl hml hql hxl hyl m0 m1 m2 q0 q1 q2 x0 x1 x2 x3 y0 y1 y2 y3
    by_cases h1 : er1 = 0
    · subst h1
      obtain ⟨to, rfl, htl, htd, f, hf, hf1, hf2⟩ := HC3.out rfl
      have HF1 := Lib.hid hf1
      have HF2 := Lib.hid hf2
      have HMV := Lib.hid (lmov_row a cap m b L HF.out d s kn sl to last ino sl2 htd _ _ _ _ rfl rfl rfl rfl w8 (HN2.out.below HB8.out))
      unfold spotV at HMV
      have HFF := Lib.hid hf
      rw [hw8] at HMV
      clear hf1 hf2 hf HC2 HC3
      go_wp2_with fail
      refine HMV.out.mono ?_
      rintro e w9 ⟨ga, A, rfl, hP, hAl, hb9, hcs, hfs⟩
      rw [← hw8] at hb9
      have HC9 := Lib.hid (row_first hP hAl ga w9 hcs hfs)
      rw [HFF.out] at HC9
      have HF9 := Lib.hid (show Off g w8 w9 from .of_below hb9)
      have HO9 := Lib.hid (HO8.out.below hb9)
      have HB9 := Lib.hid (HB8.out.trans (hb9.mono HB8.out.size))
      have hs9 := hb9.size
      clear hP hAl hb9 hcs hfs hw8 HMV HO8
      go_wp2_with fail
      refine HC9.out.mono ?_
      rintro e w10 ⟨rfl, hb10⟩
      have HF10 := Lib.hid (HF9.out.trans (.of_below hb10))
      have HO10 := Lib.hid (HO9.out.below hb10)
      have HB10 := Lib.hid (HB9.out.trans (hb10.mono HB9.out.size))
      have hs10 := hb10.size
      clear HRX r0 r1 r2 s0 s1 s2 hrl hml hql hxl hyl m0 m1 m2 q0 q1 q2 x0 x1 x2 x3 y0 y1 y2 y3
      clear hb10 HC9 HF9 HO9 HB9
      obtain ⟨hRx, ⟨m0, m1, m2⟩, ⟨q0, q1, q2⟩, ⟨x0, x1, x2, x3⟩, ⟨y0, y1, y2, y3⟩, -⟩ := HALL.out _ HF10.out
      have HRX := Lib.hid hRx
      have r0 := blk_cell hRx 0
      have r1 := blk_cell hRx 1
      have r2 := blk_cell hRx 2
      have s0 := blk_free hRx 0
      have s1 := blk_free hRx 1
      have s2 := blk_free hRx 2
      have hrl := lt_of_block hRx
      have hml := cell_lt m0
      have hql := cell_lt q0
      have hxl := cell_lt x0
      have hyl := cell_lt y0
      clear hRx
      by_cases h2 : f = 0
      · subst h2
        obtain ⟨hk1, hk2⟩ := HF2.out rfl
        by_cases h3 : ino = (kn : Int)
        · obtain ⟨rfl, rfl⟩ := hk1 h3
          subst h3
          clear hk1 hk2 HF1 HF2
          go_wp2_with fail
          change bodyPost _ _ _ _ _ (put3 w10 (w.heap.size + 1) (.slice (some ⟨g, 0, none⟩) L.length cap') (.int .i64 m) (.int .i64 b))
          obtain ⟨c0, c1, c2⟩ := put3_cells HRX.out (.slice (some ⟨g, 0, none⟩) L.length cap') (.int .i64 m) (.int .i64 b)
          obtain ⟨hf1, hf2⟩ := HEND.out w10 (HF8.out.trans HF10.out) L vs rfl HO10.out (.slice (some ⟨g, 0, none⟩) L.length cap') (.int .i64 m) (.int .i64 b)
          exact bodyPost_ret (v := .tuple #[.agg #[.slice (some ⟨g, 0, none⟩) L.length cap', .int .i64 m, .int .i64 b], .int .i64 0]) (by simp [results, Tryz.results14, go_sem, c0, c1, c2]) rfl ⟨⟨_, _, rfl, hf1⟩, hf2⟩
        · obtain ⟨tn, htn, hin, qq, hqq, hq1, hq2⟩ := hk2 h3
          have hb3 : (ino == (kn : Int)) = false := by simpa using h3
          have HPL := Lib.hid (lpla_row a cap m b cwd L d s kn sl to htl last ino sl2 _ _ _ _ tn htn (fun e => hin (by simpa using e)) rfl rfl rfl rfl w10 (HN2.out.below HB10.out))
          unfold spotV at HPL
          have HQQ := Lib.hid hqq
          have HQ1 := Lib.hid hq1
          have HQ2 := Lib.hid hq2
          clear hk1 hk2 HF1 HF2 hqq hq1 hq2 h3
          go_wp2_with fail
          refine HPL.out.mono ?_
          rintro e w11 ⟨ga2, A2, rfl, hP, hAl, hb11, hcs, hfs⟩
          have HC11 := Lib.hid (row_first hP hAl ga2 w11 hcs hfs)
          rw [HQQ.out] at HC11
          have HF11 := Lib.hid (HF10.out.trans (.of_below hb11))
          have HO11 := Lib.hid (HO10.out.below hb11)
          have hs11 := hb11.size
          clear hP hAl hb11 hcs hfs HPL HO10 HF10
          go_wp2_with fail
          refine HC11.out.mono ?_
          rintro e w12 ⟨rfl, hb12⟩
          have HF12 := Lib.hid (HF11.out.trans (.of_below hb12))
          have HO12 := Lib.hid (HO11.out.below hb12)
          have hs12 := hb12.size
          clear HRX r0 r1 r2 s0 s1 s2 hrl hml hql hxl hyl m0 m1 m2 q0 q1 q2 x0 x1 x2 x3 y0 y1 y2 y3
          clear hb12 HC11 HF11 HO11
          obtain ⟨hRx, ⟨m0, m1, m2⟩, ⟨q0, q1, q2⟩, ⟨x0, x1, x2, x3⟩, ⟨y0, y1, y2, y3⟩, -⟩ := HALL.out _ HF12.out
          have HRX := Lib.hid hRx
          have r0 := blk_cell hRx 0
          have r1 := blk_cell hRx 1
          have r2 := blk_cell hRx 2
          have s0 := blk_free hRx 0
          have s1 := blk_free hRx 1
          have s2 := blk_free hRx 2
          have hrl := lt_of_block hRx
          have hml := cell_lt m0
          have hql := cell_lt q0
          have hxl := cell_lt x0
          have hyl := cell_lt y0
          clear hRx
          by_cases h4 : qq = 0
          · subst h4
            obtain ⟨rfl, hmm⟩ := HQ2.out rfl
            have hmove : ∃ L2, L2.length = L.length ∧ L' = L2 ∧ Calls Tryz.prog 49 #[.agg #[.slice (some ⟨g, 0, none⟩) L.length cap', .int .i64 m, .int .i64 b], .agg #[.int .i64 d, .string ⟨s.toArray⟩, .int .i64 kn, .bool sl], .agg #[.int .i64 to, .string ⟨last.toArray⟩, .int .i64 ino, .bool sl2]] w12 (TurnAns g cap' L2 w12) := by
              rcases hmm with ⟨rfl, hM, rfl⟩ | ⟨rfl, hT, hM, rfl⟩
              · exact ⟨_, by rw [move_len], rfl, lmove_none g cap' d kn to m b s last sl sl2 L vs hM w12 HO12.out⟩
              · exact ⟨_, by rw [move_len, gone_len], rfl, lmove_there g cap' d kn to m b s last sl sl2 L vs tn hT hM w12 HO12.out⟩
            obtain ⟨L2, hLl, rfl, hmc⟩ := hmove
            have HMC := Lib.hid hmc
            clear hmc hmm HQ1 HQ2
            go_wp2_with fail
            refine HMC.out.mono ?_
            rintro e w13 ⟨rfl, ⟨vs13, hR13⟩, hO13⟩
            have HR13 := Lib.hid hR13
            have HF13 := Lib.hid (HF12.out.trans hO13)
            clear HRX r0 r1 r2 s0 s1 s2 hrl hml hql hxl hyl m0 m1 m2 q0 q1 q2 x0 x1 x2 x3 y0 y1 y2 y3
            clear hR13 hO13 HMC
            obtain ⟨hRx, ⟨m0, m1, m2⟩, ⟨q0, q1, q2⟩, ⟨x0, x1, x2, x3⟩, ⟨y0, y1, y2, y3⟩, -⟩ := HALL.out _ HF13.out
            have HRX := Lib.hid hRx
            have r0 := blk_cell hRx 0
            have r1 := blk_cell hRx 1
            have r2 := blk_cell hRx 2
            have s0 := blk_free hRx 0
            have s1 := blk_free hRx 1
            have s2 := blk_free hRx 2
            have hrl := lt_of_block hRx
            have hml := cell_lt m0
            have hql := cell_lt q0
            have hxl := cell_lt x0
            have hyl := cell_lt y0
            clear hRx
            go_wp2_with fail
            change bodyPost _ _ _ _ _ (put3 w13 (w.heap.size + 1) (.slice (some ⟨g, 0, none⟩) L.length cap') (.int .i64 m) (.int .i64 b))
            obtain ⟨c0, c1, c2⟩ := put3_cells HRX.out (.slice (some ⟨g, 0, none⟩) L.length cap') (.int .i64 m) (.int .i64 b)
            obtain ⟨hf1, hf2⟩ := HEND.out w13 (HF8.out.trans HF13.out) L' vs13 hLl HR13.out (.slice (some ⟨g, 0, none⟩) L.length cap') (.int .i64 m) (.int .i64 b)
            exact bodyPost_ret (v := .tuple #[.agg #[.slice (some ⟨g, 0, none⟩) L'.length cap', .int .i64 m, .int .i64 b], .int .i64 0]) (by simp [results, Tryz.results14, go_sem, c0, c1, c2, hLl]) rfl ⟨⟨_, _, rfl, hf1⟩, hf2⟩
          · obtain ⟨rfl, rfl⟩ := HQ1.out h4
            have hb4 : (qq == 0) = false := by simpa using h4
            clear HQ1 HQ2
            go_wp2_with fail
            change bodyPost _ _ _ _ _ (put3 w12 (w.heap.size + 1) (.slice (some ⟨g, 0, none⟩) L.length cap') (.int .i64 m) (.int .i64 b))
            obtain ⟨c0, c1, c2⟩ := put3_cells HRX.out (.slice (some ⟨g, 0, none⟩) L.length cap') (.int .i64 m) (.int .i64 b)
            obtain ⟨hf1, hf2⟩ := HEND.out w12 (HF8.out.trans HF12.out) L vs rfl HO12.out (.slice (some ⟨g, 0, none⟩) L.length cap') (.int .i64 m) (.int .i64 b)
            exact bodyPost_ret (v := .tuple #[.agg #[.slice (some ⟨g, 0, none⟩) L.length cap', .int .i64 m, .int .i64 b], .int .i64 qq]) (by simp [results, Tryz.results14, go_sem, c0, c1, c2]) rfl ⟨⟨_, _, rfl, hf1⟩, hf2⟩
      · obtain ⟨rfl, rfl⟩ := HF1.out h2
        have hb2 : (f == 0) = false := by simpa using h2
        clear HF1 HF2
        go_wp2_with fail
        change bodyPost _ _ _ _ _ (put3 w10 (w.heap.size + 1) (.slice (some ⟨g, 0, none⟩) L.length cap') (.int .i64 m) (.int .i64 b))
        obtain ⟨c0, c1, c2⟩ := put3_cells HRX.out (.slice (some ⟨g, 0, none⟩) L.length cap') (.int .i64 m) (.int .i64 b)
        obtain ⟨hf1, hf2⟩ := HEND.out w10 (HF8.out.trans HF10.out) L vs rfl HO10.out (.slice (some ⟨g, 0, none⟩) L.length cap') (.int .i64 m) (.int .i64 b)
        exact bodyPost_ret (v := .tuple #[.agg #[.slice (some ⟨g, 0, none⟩) L.length cap', .int .i64 m, .int .i64 b], .int .i64 f]) (by simp [results, Tryz.results14, go_sem, c0, c1, c2]) rfl ⟨⟨_, _, rfl, hf1⟩, hf2⟩
    · obtain ⟨rfl, rfl⟩ := HC2.out h1
      have hb1 : (er1 == 0) = false := by simpa using h1
      clear HC2 HC3
      go_wp2_with fail
      rw [← hw8]
      change bodyPost _ _ _ _ _ (put3 w8 (w.heap.size + 1) (.slice (some ⟨g, 0, none⟩) L.length cap') (.int .i64 m) (.int .i64 b))
      obtain ⟨c0, c1, c2⟩ := put3_cells HRX.out (.slice (some ⟨g, 0, none⟩) L.length cap') (.int .i64 m) (.int .i64 b)
      obtain ⟨hf1, hf2⟩ := HEND.out w8 HF8.out L vs rfl HO8.out (.slice (some ⟨g, 0, none⟩) L.length cap') (.int .i64 m) (.int .i64 b)
      exact bodyPost_ret (v := .tuple #[.agg #[.slice (some ⟨g, 0, none⟩) L.length cap', .int .i64 m, .int .i64 b], .int .i64 er1]) (by simp [results, Tryz.results14, go_sem, c0, c1, c2]) rfl ⟨⟨_, _, rfl, hf1⟩, hf2⟩
  · obtain ⟨rfl, rfl⟩ := HC0.out h0
    have hb0 : (er0 == 0) = false := by simpa using h0
    obtain ⟨hRx, ⟨m0, m1, m2⟩, ⟨q0, q1, q2⟩, -, -⟩ := HALL6.out _ (Off.refl _ _)
    have HRX := Lib.hid hRx
    have r0 := blk_cell hRx 0
    have r1 := blk_cell hRx 1
    have r2 := blk_cell hRx 2
    have s0 := blk_free hRx 0
    have s1 := blk_free hRx 1
    have s2 := blk_free hRx 2
    have hrl := lt_of_block hRx
    have hml := cell_lt m0
    clear hRx
    rw [hw6] at r0 r1 r2 s0 s1 s2 hrl hml m0 m1 m2
    go_wp2_with fail
    rw [← hw6]
    change bodyPost _ _ _ _ _ (put3 w6 (w.heap.size + 1) (.slice (some ⟨g, 0, none⟩) L.length cap') (.int .i64 m) (.int .i64 b))
    obtain ⟨c0, c1, c2⟩ := put3_cells HRX.out (.slice (some ⟨g, 0, none⟩) L.length cap') (.int .i64 m) (.int .i64 b)
    obtain ⟨hf1, hf2⟩ := HEND.out w6 (Off.refl _ _) L vs rfl HO6.out (.slice (some ⟨g, 0, none⟩) L.length cap') (.int .i64 m) (.int .i64 b)
    exact bodyPost_ret (v := .tuple #[.agg #[.slice (some ⟨g, 0, none⟩) L.length cap', .int .i64 m, .int .i64 b], .int .i64 er0]) (by simp [results, Tryz.results14, go_sem, c0, c1, c2]) rfl ⟨⟨_, _, rfl, hf1⟩, hf2⟩
end Go.Proofs.YtmaiphibpdngnaaGreat

namespace Go.Proofs.YtmaiphibpdngnaaGreat
set_option maxRecDepth 100000
open Go Go.RowKit

set_option maxHeartbeats 1000000 in
theorem risdir6 (a : Option Addr) (cap : Nat) (m b : Int) (n : Nat) (L : List Ino) (hn : n < L.length) (v : Bool) (hv : dirB L (n : Int) = v) (w : World) (hN : NodesIn w a cap L) :
    Calls Tryz.prog 35 #[.agg #[.slice a L.length cap, .int .i64 m, .int .i64 b], .int .i64 n] w fun e w' => e = .returned (.bool v) ∧ Below w.heap.size w w' := by
  subst hv
  have hb1 := below_box w (.cells #[.slice a L.length cap, .int .i64 m, .int .i64 b] 24)
  have HB1 := Lib.hid hb1
  obtain ⟨bb, o, rfl, hx⟩ := (hN.below hb1).2.2 n hn
  have h1 := hx.kind
  have hd0 : (0 : Int) ≤ (n : Int) := by omega
  have hd1 : (n : Int) < (L.length : Int) := by omega
  have HV := Lib.hid (show dirB L (n : Int) = (L[n].kind == 2) by unfold dirB; rw [there_of L n hn, node_nat L n hn, Bool.true_and])
  clear hN hb1 hx
  go_enter Tryz.func35, Tryz.ntmps35
  go_wp2_with fail
  go_ret
  exact ⟨by rw [HV.out]; rfl, HB1.out⟩

set_option maxHeartbeats 1000000 in
theorem rslash6 (pb : ByteArray) (hp : pb.size ≤ 1073741824) (v : Bool) (hv : endL pb.data.toList = v) (w : World) :
    Calls Tryz.prog 36 #[.string pb] w fun e w' => e = .returned (.bool v) ∧ w' = w := by
  cases hn : pb.size with
  | zero =>
    have h0 : pb = ⟨#[]⟩ := by
      have : pb.data.size = 0 := hn
      have := Array.eq_empty_of_size_eq_zero this
      cases pb
      simp_all
    subst h0
    have hv' : false = v := hv
    subst hv'
    clear hv hn hp
    go_enter Tryz.func36, Tryz.ntmps36
    go_wp2_with fail
    go_ret
    exact ⟨by rfl, rfl⟩
  | succ n =>
    have HEB := Lib.hid (end_byte5 pb n hn)
    have hpl : (pb.data.toList == []) = false := by
      cases h : pb.data.toList with
      | nil => have h1 := size_list pb; rw [h] at h1; simp at h1; omega
      | cons c r => rfl
    have hpe : pb.toList.isEmpty = false := by
      rw [ByteArray.toList_eq]
      cases h : pb.data.toList with
      | nil => rw [h] at hpl; cases hpl
      | cons c r => rfl
    have hw : IntKind.i64.wrap ((pb.size : Int) - 1) = (n : Int) := by rw [IntWalk.i64_in _ ⟨by omega, by omega⟩]; omega
    have hn0 : (0 : Int) ≤ (n : Int) := by omega
    have hn1 : (n : Int) < (pb.size : Int) := by omega
    have hn2 : n < pb.size := by omega
    have hnv : ((pb[n].toNat : Int) == 47) = v := by rw [← hv, HEB.out]
    clear HEB hv hn
    cases v with
    | true =>
      go_enter Tryz.func36, Tryz.ntmps36
      go_wp2_with fail
      go_ret
      exact ⟨by rfl, rfl⟩
    | false =>
      go_enter Tryz.func36, Tryz.ntmps36
      go_wp2_with fail
      go_ret
      exact ⟨by rfl, rfl⟩

def WiRel (L : List Ino) (c0 k : Int) (w1 : World) (cv iv : Value) (wr : World) : Prop :=
  ∃ c i : Nat, c < L.length ∧ i ≤ L.length + 1 ∧ cv = .int .i64 c ∧ iv = .int .i64 i ∧ Hid (dirB L (c : Int) = true ∧ withinB L (L.length + 1) c0 k = withinB L (L.length + 1 - i) (c : Int) k) ∧ Below w1.heap.size w1 wr

set_option maxHeartbeats 2000000 in
theorem rwithin6 (a : Option Addr) (cap : Nat) (m b : Int) (L : List Ino) (hF : FitP L m b) (n : Nat) (hd : dirB L (n : Int) = true) (k : Int) (v : Bool) (hv : withinB L L.length (n : Int) k = v) (w : World) (hN : NodesIn w a cap L) :
    Calls Tryz.prog 51 #[.agg #[.slice a L.length cap, .int .i64 m, .int .i64 b], .int .i64 n, .int .i64 k] w fun e w' => e = .returned (.bool v) ∧ Below w.heap.size w w' := by
  obtain ⟨l1, l2, l3, l4, l5⟩ := hF.limits
  have hL : L.length ≤ 1000 := by omega
  obtain ⟨j, hj, hjl⟩ := rank_of hF hd
  rw [within_more j L.length (L.length + 1) _ hj hjl (by omega)] at hv
  obtain ⟨n', hnn, hn⟩ := dir_lt hd
  obtain rfl : n = n' := by omega
  obtain ⟨w1, hw1⟩ : ∃ w1, w1 = w.alloc (.cells #[.slice a L.length cap, .int .i64 m, .int .i64 b] 24) := ⟨_, rfl⟩
  have hb1 : Below w.heap.size w w1 := by rw [hw1]; exact below_box w _
  have HX := Lib.hid (show ∀ W', Below w1.heap.size w1 W' → W'.cell? ⟨w.heap.size, 0, none⟩ = some (.slice a L.length cap) ∧ W'.cell? ⟨w.heap.size, 1, none⟩ = some (.int .i64 m) ∧ W'.cell? ⟨w.heap.size, 2, none⟩ = some (.int .i64 b) from fun W' h => box3 (by rw [← hw1]; exact h))
  have HM := Lib.hid (hN.below hb1)
  have HB := Lib.hid hb1
  have HF := Lib.hid hF
  have HV := Lib.hid hv
  have HD := Lib.hid hd
  clear hN hb1 hF hv hd hj hjl hnn
  go_enter Tryz.func51, Tryz.ntmps51
  go_wp2_with fail
  rw [← hw1]
  clear hw1
  go_loopw [1, 7] (fun c i wr => WiRel L n k w1 c i wr) (fun _ i _ => L.length + 1 - (intOf i).toNat)
  case atStart => exact ⟨n, 0, hn, by omega, rfl, rfl, Lib.hid ⟨HD.out, rfl⟩, Below.refl _ _⟩
  case round =>
    obtain ⟨c, i, hc, hi, rfl, rfl, hrest, hbr⟩ := hrel
    have HBR := Lib.hid hbr
    obtain ⟨q0, q1, q2⟩ := HX.out _ hbr
    clear hbr
    by_cases hil : i ≤ L.length
    · have hst : L.length + 1 - i = (L.length - i) + 1 := by omega
      have hii : (i : Int) ≤ (L.length : Int) := by omega
      by_cases hck : (c : Int) = k
      · subst hck
        have hfin := Lib.hid (show true = v by rw [← HV.out, hrest.out.2, hst, within_succ, if_pos rfl])
        go_wp2_with fail
        go_ret
        exact ⟨by rw [← hfin.out]; rfl, HB.out.trans (HBR.out.mono HB.out.size)⟩
      have hckb : ((c : Int) == k) = false := by simpa using hck
      by_cases hc0 : c = 0
      · subst hc0
        have hfin := Lib.hid (show false = v by rw [← HV.out, hrest.out.2, hst, within_succ, if_neg hck, if_pos (show ((0 : Nat) : Int) = 0 from rfl)])
        clear hck
        go_wp2_with fail
        go_ret
        exact ⟨by rw [← hfin.out]; rfl, HB.out.trans (HBR.out.mono HB.out.size)⟩
      · have hc0b : ((c : Int) == 0) = false := by simpa using hc0
        obtain ⟨bb, o, rfl, hx⟩ := (HM.out.below HBR.out).2.2 c hc
        have h1 := hx.up
        obtain ⟨u, hu1, hu2⟩ := dir_lt (ups_of HF.out 1 (c : Int) hrest.out.1)
        have hue : L[c].up = (u : Int) := by rw [← hu1]; show _ = (nodeAt L (c : Int)).up; rw [node_nat L c hc]
        rw [hue] at h1
        have hnext := Lib.hid (show dirB L (u : Int) = true ∧ withinB L (L.length + 1) n k = withinB L (L.length + 1 - (i + 1)) (u : Int) k by
          refine ⟨by rw [← hu1]; exact ups_of HF.out 1 (c : Int) hrest.out.1, ?_⟩
          rw [hrest.out.2, hst, within_succ, if_neg hck, if_neg (by omega), node_nat L c hc, hue]
          congr 1
          omega)
        have hcl0 : (0 : Int) ≤ (c : Int) := by omega
        have hcl1 : (c : Int) < (L.length : Int) := by omega
        clear hck hx hu1 hue
        go_wp2_with fail
        go_roundw
        case rel => exact ⟨u, i + 1, hu2, by omega, rfl, by go_num, hnext, HBR.out⟩
        case measure => simp [intOf] <;> omega
    · have hii : ¬ (i : Int) ≤ (L.length : Int) := by omega
      have hfin := Lib.hid (show false = v by rw [← HV.out, hrest.out.2, show L.length + 1 - i = 0 by omega]; rfl)
      go_wp2_with fail
      go_ret
      exact ⟨by rw [← hfin.out]; rfl, HB.out.trans (HBR.out.mono HB.out.size)⟩

set_option maxHeartbeats 4000000 in
theorem rover6 (a : Option Addr) (cap : Nat) (m b cwd : Int) (L : List Ino) (kn tn : Nat) (hk : kn < L.length) (ht : tn < L.length) (er : Int) (hz : overW L cwd (kn : Int) (tn : Int) = er) (w : World) (hN : NodesIn w a cap L) :
    Calls Tryz.prog 52 #[.agg #[.slice a L.length cap, .int .i64 m, .int .i64 b], .int .i64 cwd, .int .i64 kn, .int .i64 tn] w fun e w' => e = .returned (.int .i64 er) ∧ Below w.heap.size w w' := by
  obtain ⟨w1, hw1⟩ : ∃ w1, w1 = w.alloc (.cells #[.slice a L.length cap, .int .i64 m, .int .i64 b] 24) := ⟨_, rfl⟩
  have hb1 : Below w.heap.size w w1 := by rw [hw1]; exact below_box w _
  obtain ⟨bb, o, rfl, -⟩ := hN.2.2 tn ht
  have HX := Lib.hid (show ∀ W', Below w1.heap.size w1 W' → W'.cell? ⟨w.heap.size, 0, none⟩ = some (.slice (some ⟨bb, o, none⟩) L.length cap) ∧ W'.cell? ⟨w.heap.size, 1, none⟩ = some (.int .i64 m) ∧ W'.cell? ⟨w.heap.size, 2, none⟩ = some (.int .i64 b) from fun W' h => box3 (by rw [← hw1]; exact h))
  have HM := Lib.hid (show ∀ W', Below w1.heap.size w1 W' → NodesIn W' (some ⟨bb, o, none⟩) cap L from fun W' h => hN.below (hb1.trans (h.mono (by rw [hw1]; simp))))
  have HEND := Lib.hid (show ∀ W', Below w1.heap.size w1 W' → Below w.heap.size w W' from fun W' h => hb1.trans (h.mono (by rw [hw1]; simp)))
  obtain ⟨K, hK⟩ : ∃ K, K = L[tn].kids := ⟨_, rfl⟩
  have HKC := Lib.hid (show ∃ ka kc, ∀ W', Below w1.heap.size w1 W' → W'.cell? ⟨bb, o + tn * 6 + 4, none⟩ = some (.slice ka K.length kc) by
    obtain ⟨bb', o', e1, hx⟩ := (hN.below hb1).2.2 tn ht
    obtain ⟨rfl, rfl⟩ : bb = bb' ∧ o = o' := by simpa using e1
    obtain ⟨kv, h4, hks⟩ := hx.kids
    rw [← hK] at hks
    obtain ⟨ka, kc, rfl, -⟩ := hks
    exact ⟨ka, kc, fun W' h => cell_below (by rw [← hw1] at *; exact h) (by rw [← hw1] at *; exact h4)⟩)
  obtain ⟨ka, kc, hkc⟩ := HKC.out
  have HKC := Lib.hid hkc
  have HKE := Lib.hid (show (nodeAt L (tn : Int)).kids = K by rw [node_nat L tn ht, hK])
  have hk0 : (0 : Int) ≤ (kn : Int) := by omega
  have ht0 : (0 : Int) ≤ (tn : Int) := by omega
  have ht1 : (tn : Int) < (L.length : Int) := by omega
  have HBC := Lib.hid (Below.refl w1.heap.size w1)
  unfold overW at hz
  rw [HKE.out] at hz
  clear hN hb1 hkc hK
  obtain ⟨d1, h1⟩ : ∃ v, dirB L (kn : Int) = v := ⟨_, rfl⟩
  obtain ⟨d2, h2⟩ : ∃ v, dirB L (tn : Int) = v := ⟨_, rfl⟩
  rw [h1, h2] at hz
  have HD1 := Lib.hid h1
  have HD2 := Lib.hid h2
  clear h1 h2
  obtain ⟨q0, q1, q2⟩ := HX.out _ HBC.out
  have x4 := HKC.out _ HBC.out
  have hql := cell_lt q0
  have hxl := cell_lt x4
  rw [hw1] at q0 q1 q2 x4 hql hxl
  go_enter Tryz.func52, Tryz.ntmps52
  go_wp2_with fail
  rw [← hw1]
  rw [← hw1] at q0 q1 q2 x4 hql hxl
  clear hw1
  cases d1 <;> cases d2
  · simp at hz
    subst hz
    go_wp2_with (first | (go_at_call 35; first | (with_reducible (show Calls _ _ #[_, .int .i64 (kn : Int)] _ _); refine (risdir6 _ _ _ _ kn L hk _ HD1.out _ (HM.out _ HBC.out)).mono ?_; rintro e w2 ⟨rfl, hb2⟩; have HBC := Lib.hid (HBC.out.trans (hb2.mono HBC.out.size)); obtain ⟨q0, q1, q2⟩ := HX.out _ HBC.out; have x4 := HKC.out _ HBC.out; have hql := cell_lt q0; have hxl := cell_lt x4; clear hb2) | (with_reducible (show Calls _ _ #[_, .int .i64 (tn : Int)] _ _); refine (risdir6 _ _ _ _ tn L ht _ HD2.out _ (HM.out _ HBC.out)).mono ?_; rintro e w2 ⟨rfl, hb2⟩; have HBC := Lib.hid (HBC.out.trans (hb2.mono HBC.out.size)); obtain ⟨q0, q1, q2⟩ := HX.out _ HBC.out; have x4 := HKC.out _ HBC.out; have hql := cell_lt q0; have hxl := cell_lt x4; clear hb2)) | fail)
    go_ret
    exact ⟨rfl, HEND.out _ HBC.out⟩
  · simp at hz
    subst hz
    go_wp2_with (first | (go_at_call 35; first | (with_reducible (show Calls _ _ #[_, .int .i64 (kn : Int)] _ _); refine (risdir6 _ _ _ _ kn L hk _ HD1.out _ (HM.out _ HBC.out)).mono ?_; rintro e w2 ⟨rfl, hb2⟩; have HBC := Lib.hid (HBC.out.trans (hb2.mono HBC.out.size)); obtain ⟨q0, q1, q2⟩ := HX.out _ HBC.out; have x4 := HKC.out _ HBC.out; have hql := cell_lt q0; have hxl := cell_lt x4; clear hb2) | (with_reducible (show Calls _ _ #[_, .int .i64 (tn : Int)] _ _); refine (risdir6 _ _ _ _ tn L ht _ HD2.out _ (HM.out _ HBC.out)).mono ?_; rintro e w2 ⟨rfl, hb2⟩; have HBC := Lib.hid (HBC.out.trans (hb2.mono HBC.out.size)); obtain ⟨q0, q1, q2⟩ := HX.out _ HBC.out; have x4 := HKC.out _ HBC.out; have hql := cell_lt q0; have hxl := cell_lt x4; clear hb2)) | fail)
    go_ret
    exact ⟨rfl, HEND.out _ HBC.out⟩
  · simp at hz
    subst hz
    go_wp2_with (first | (go_at_call 35; first | (with_reducible (show Calls _ _ #[_, .int .i64 (kn : Int)] _ _); refine (risdir6 _ _ _ _ kn L hk _ HD1.out _ (HM.out _ HBC.out)).mono ?_; rintro e w2 ⟨rfl, hb2⟩; have HBC := Lib.hid (HBC.out.trans (hb2.mono HBC.out.size)); obtain ⟨q0, q1, q2⟩ := HX.out _ HBC.out; have x4 := HKC.out _ HBC.out; have hql := cell_lt q0; have hxl := cell_lt x4; clear hb2) | (with_reducible (show Calls _ _ #[_, .int .i64 (tn : Int)] _ _); refine (risdir6 _ _ _ _ tn L ht _ HD2.out _ (HM.out _ HBC.out)).mono ?_; rintro e w2 ⟨rfl, hb2⟩; have HBC := Lib.hid (HBC.out.trans (hb2.mono HBC.out.size)); obtain ⟨q0, q1, q2⟩ := HX.out _ HBC.out; have x4 := HKC.out _ HBC.out; have hql := cell_lt q0; have hxl := cell_lt x4; clear hb2)) | fail)
    go_ret
    exact ⟨rfl, HEND.out _ HBC.out⟩
  · simp at hz
    by_cases h3 : 0 < K.length
    · rw [if_pos h3] at hz
      subst hz
      have h3i : (K.length : Int) > 0 := by omega
      go_wp2_with (first | (go_at_call 35; first | (with_reducible (show Calls _ _ #[_, .int .i64 (kn : Int)] _ _); refine (risdir6 _ _ _ _ kn L hk _ HD1.out _ (HM.out _ HBC.out)).mono ?_; rintro e w2 ⟨rfl, hb2⟩; have HBC := Lib.hid (HBC.out.trans (hb2.mono HBC.out.size)); obtain ⟨q0, q1, q2⟩ := HX.out _ HBC.out; have x4 := HKC.out _ HBC.out; have hql := cell_lt q0; have hxl := cell_lt x4; clear hb2) | (with_reducible (show Calls _ _ #[_, .int .i64 (tn : Int)] _ _); refine (risdir6 _ _ _ _ tn L ht _ HD2.out _ (HM.out _ HBC.out)).mono ?_; rintro e w2 ⟨rfl, hb2⟩; have HBC := Lib.hid (HBC.out.trans (hb2.mono HBC.out.size)); obtain ⟨q0, q1, q2⟩ := HX.out _ HBC.out; have x4 := HKC.out _ HBC.out; have hql := cell_lt q0; have hxl := cell_lt x4; clear hb2)) | fail)
      go_ret
      exact ⟨rfl, HEND.out _ HBC.out⟩
    · have h4 : K = [] := List.length_eq_zero_iff.1 (by omega)
      rw [if_neg h3] at hz
      have h3i : ¬ (K.length : Int) > 0 := by omega
      by_cases h5 : (tn : Int) = cwd
      · rw [if_pos h5] at hz
        subst hz
        subst h5
        clear h4
        go_wp2_with (first | (go_at_call 35; first | (with_reducible (show Calls _ _ #[_, .int .i64 (kn : Int)] _ _); refine (risdir6 _ _ _ _ kn L hk _ HD1.out _ (HM.out _ HBC.out)).mono ?_; rintro e w2 ⟨rfl, hb2⟩; have HBC := Lib.hid (HBC.out.trans (hb2.mono HBC.out.size)); obtain ⟨q0, q1, q2⟩ := HX.out _ HBC.out; have x4 := HKC.out _ HBC.out; have hql := cell_lt q0; have hxl := cell_lt x4; clear hb2) | (with_reducible (show Calls _ _ #[_, .int .i64 (tn : Int)] _ _); refine (risdir6 _ _ _ _ tn L ht _ HD2.out _ (HM.out _ HBC.out)).mono ?_; rintro e w2 ⟨rfl, hb2⟩; have HBC := Lib.hid (HBC.out.trans (hb2.mono HBC.out.size)); obtain ⟨q0, q1, q2⟩ := HX.out _ HBC.out; have x4 := HKC.out _ HBC.out; have hql := cell_lt q0; have hxl := cell_lt x4; clear hb2)) | fail)
        go_ret
        exact ⟨rfl, HEND.out _ HBC.out⟩
      · rw [if_neg h5] at hz
        subst hz
        have h5b : ((tn : Int) == cwd) = false := by simpa using h5
        clear h4 h5
        go_wp2_with (first | (go_at_call 35; first | (with_reducible (show Calls _ _ #[_, .int .i64 (kn : Int)] _ _); refine (risdir6 _ _ _ _ kn L hk _ HD1.out _ (HM.out _ HBC.out)).mono ?_; rintro e w2 ⟨rfl, hb2⟩; have HBC := Lib.hid (HBC.out.trans (hb2.mono HBC.out.size)); obtain ⟨q0, q1, q2⟩ := HX.out _ HBC.out; have x4 := HKC.out _ HBC.out; have hql := cell_lt q0; have hxl := cell_lt x4; clear hb2) | (with_reducible (show Calls _ _ #[_, .int .i64 (tn : Int)] _ _); refine (risdir6 _ _ _ _ tn L ht _ HD2.out _ (HM.out _ HBC.out)).mono ?_; rintro e w2 ⟨rfl, hb2⟩; have HBC := Lib.hid (HBC.out.trans (hb2.mono HBC.out.size)); obtain ⟨q0, q1, q2⟩ := HX.out _ HBC.out; have x4 := HKC.out _ HBC.out; have hql := cell_lt q0; have hxl := cell_lt x4; clear hb2)) | fail)
        go_ret
        exact ⟨rfl, HEND.out _ HBC.out⟩

set_option maxHeartbeats 4000000 in
theorem rnamed6 (a : Option Addr) (cap : Nat) (m b cwd : Int) (pb : ByteArray) (hp : pb.size ≤ 1073741824) (L : List Ino) (hF : FitP L m b) (z : Int) (s : List UInt8) (k er : Int) (hz : namedW L cwd pb.data.toList = (z, s, k, er)) (w : World) (hN : NodesIn w a cap L) :
    Calls Tryz.prog 34 #[.agg #[.slice a L.length cap, .int .i64 m, .int .i64 b], .int .i64 cwd, .string pb] w fun e w' => e = .returned (.tuple #[.int .i64 z, .string ⟨s.toArray⟩, .int .i64 k, .int .i64 er]) ∧ Below w.heap.size w w' := by
  obtain ⟨⟨d, nm, pe⟩, hpar⟩ : ∃ r, parentW L cwd pb.data.toList = r := ⟨_, rfl⟩
  obtain ⟨w1, hw1⟩ : ∃ w1, w1 = w.alloc (.cells #[.slice a L.length cap, .int .i64 m, .int .i64 b] 24) := ⟨_, rfl⟩
  have hb1 : Below w.heap.size w w1 := by rw [hw1]; exact below_box w _
  have hs1 : w1.heap.size = w.heap.size + 1 := by rw [hw1]; simp
  have HX := Lib.hid (show ∀ W', Below w1.heap.size w1 W' → W'.cell? ⟨w.heap.size, 0, none⟩ = some (.slice a L.length cap) ∧ W'.cell? ⟨w.heap.size, 1, none⟩ = some (.int .i64 m) ∧ W'.cell? ⟨w.heap.size, 2, none⟩ = some (.int .i64 b) from fun W' h => box3 (by rw [← hw1]; exact h))
  have HM := Lib.hid (show ∀ W', Below w1.heap.size w1 W' → NodesIn W' a cap L from fun W' h => hN.below (hb1.trans (h.mono (by omega))))
  have HEND := Lib.hid (show ∀ W', Below w1.heap.size w1 W' → Below w.heap.size w W' from fun W' h => hb1.trans (h.mono (by omega)))
  have HP := Lib.hid hpar
  have HF := Lib.hid hF
  have hz2 := hz
  unfold namedW at hz2
  rw [hpar] at hz2
  simp only at hz2
  clear hpar hF hz hN hb1
  go_enter Tryz.func34, Tryz.ntmps34
  go_wp2_with fail
  rw [← hw1]
  clear hw1
  have hpk := parent4_any a cap m b cwd pb hp L HF.out w1 (HM.out _ (Below.refl _ _))
  rw [HP.out] at hpk
  refine hpk.mono ?_
  rintro e w3 ⟨rfl, hb3⟩
  have HB3 := Lib.hid hb3
  have hs3 := hb3.size
  clear hb3 hpk
  by_cases h1 : pe = 0
  · subst h1
    rw [if_neg (by simp)] at hz2
    obtain ⟨q0, q1, q2⟩ := HX.out _ HB3.out
    have hq := cell_lt q0
    by_cases e1 : nm = [46]
    · subst e1
      rw [if_pos (Or.inl rfl)] at hz2
      simp only [Prod.mk.injEq] at hz2
      obtain ⟨rfl, rfl, rfl, rfl⟩ := hz2
      go_wp2_with fail
      exact bodyPost_ret (v := .tuple #[.int .i64 0, .string ⟨#[]⟩, .int .i64 0, .int .i64 22]) (by simp [results, Tryz.results34, go_sem]) rfl ⟨rfl, HEND.out _ HB3.out⟩
    have e1b : (nm == [46]) = false := by simpa using e1
    by_cases e2 : nm = [46, 46]
    · subst e2
      rw [if_pos (Or.inr rfl)] at hz2
      simp only [Prod.mk.injEq] at hz2
      obtain ⟨rfl, rfl, rfl, rfl⟩ := hz2
      clear e1 e1b
      go_wp2_with fail
      exact bodyPost_ret (v := .tuple #[.int .i64 0, .string ⟨#[]⟩, .int .i64 0, .int .i64 22]) (by simp [results, Tryz.results34, go_sem]) rfl ⟨rfl, HEND.out _ HB3.out⟩
    have e2b : (nm == [46, 46]) = false := by simpa using e2
    rw [if_neg (by rintro (h | h); exact e1 h; exact e2 h)] at hz2
    obtain ⟨kz, hkz⟩ : ∃ v, kidL L d nm = v := ⟨_, rfl⟩
    obtain ⟨mv, hmv⟩ : ∃ v, mayL L d 3 = v := ⟨_, rfl⟩
    rw [hkz, hmv] at hz2
    have HK := Lib.hid hkz
    have HMV := Lib.hid hmv
    have HZ2 := Lib.hid hz2
    clear e1 e2 hz2 hkz hmv
    go_wp2_with fail
    refine (rkid_known _ _ _ _ _ _ L _ HK.out _ (HM.out _ HB3.out)).mono ?_
    rintro e w4 ⟨rfl, hb4⟩
    have HB4 := Lib.hid (HB3.out.trans (hb4.mono HB3.out.size))
    clear hb4 q0 q1 q2 hq
    obtain ⟨q0, q1, q2⟩ := HX.out _ HB4.out
    have hq := cell_lt q0
    have hz2 := HZ2.out
    by_cases e3 : kz < 0
    · rw [if_pos e3] at hz2
      simp only [Prod.mk.injEq] at hz2
      obtain ⟨rfl, rfl, rfl, rfl⟩ := hz2
      go_wp2_with fail
      exact bodyPost_ret (v := .tuple #[.int .i64 0, .string ⟨#[]⟩, .int .i64 0, .int .i64 2]) (by simp [results, Tryz.results34, go_sem]) rfl ⟨rfl, HEND.out _ HB4.out⟩
    rw [if_neg e3] at hz2
    go_wp2_with fail
    refine (may4_at _ _ _ _ _ _ L HF.out.ins _ HMV.out _ (HM.out _ HB4.out)).mono ?_
    rintro e w5 ⟨rfl, hb5⟩
    have HB5 := Lib.hid (HB4.out.trans (hb5.mono HB4.out.size))
    clear hb5 q0 q1 q2 hq
    cases mv with
    | false =>
      rw [if_pos rfl] at hz2
      simp only [Prod.mk.injEq] at hz2
      obtain ⟨rfl, rfl, rfl, rfl⟩ := hz2
      go_wp2_with fail
      exact bodyPost_ret (v := .tuple #[.int .i64 0, .string ⟨#[]⟩, .int .i64 0, .int .i64 13]) (by simp [results, Tryz.results34, go_sem]) rfl ⟨rfl, HEND.out _ HB5.out⟩
    | true =>
      rw [if_neg (by decide)] at hz2
      simp only [Prod.mk.injEq] at hz2
      obtain ⟨rfl, rfl, rfl, rfl⟩ := hz2
      go_wp2_with fail
      exact bodyPost_ret (v := .tuple #[.int .i64 d, .string ⟨nm.toArray⟩, .int .i64 kz, .int .i64 0]) (by simp [results, Tryz.results34, go_sem]) rfl ⟨rfl, HEND.out _ HB5.out⟩
  · rw [if_pos h1] at hz2
    simp only [Prod.mk.injEq] at hz2
    obtain ⟨rfl, rfl, rfl, rfl⟩ := hz2
    have hb1 : (pe != 0) = true := by simpa using h1
    go_wp2_with fail
    exact bodyPost_ret (v := .tuple #[.int .i64 0, .string ⟨#[]⟩, .int .i64 0, .int .i64 pe]) (by simp [results, Tryz.results34, go_sem]) rfl ⟨rfl, HEND.out _ HB3.out⟩
end Go.Proofs.YtmaiphibpdngnaaGreat

namespace Go.Proofs.YtmaiphibpdngnaaGreat
set_option maxRecDepth 100000
open Go Go.RowKit

theorem rown6 (a : Option Addr) (cap : Nat) (m b : Int) (L : List Ino) (hF : FitP L m b) (w : World) (hN : NodesIn w a cap L) :
    Calls Tryz.prog 28 #[.agg #[.slice a L.length cap, .int .i64 m, .int .i64 b]] w fun e w' => ∃ g cap' vs, e = .returned (.agg #[.slice (some ⟨g, 0, none⟩) L.length cap', .int .i64 m, .int .i64 b]) ∧ RefT w' g cap' L vs ∧ w.heap.size ≤ g ∧ Below w.heap.size w w' := by
  obtain ⟨l1, l2, l3, l4, l5⟩ := hF.limits
  refine (rown_any a cap m b L (by omega) (by omega) w hN).mono ?_
  rintro e w' ⟨g, cap', vs, rfl, h1, h2, h3, h4⟩
  refine ⟨g, cap', vs, rfl, ?_, h2, h4⟩
  exact RefT.of_kids h1 h3 h2 h4.size h4.block


set_option maxHeartbeats 8000000 in
theorem runlink6 (a : Option Addr) (cap : Nat) (m b cwd : Int) (pb : ByteArray) (hp : pb.size ≤ 1073741824) (L : List Ino) (hF : FitP L m b) (L' : List Ino) (er : Int) (hz : unlinkW L cwd pb.data.toList = (L', er)) (w : World) (hN : NodesIn w a cap L) :
    Calls Tryz.prog 11 #[.agg #[.slice a L.length cap, .int .i64 m, .int .i64 b], .int .i64 cwd, .string pb] w (RefAns w m b L' [.int .i64 er]) := by
  have hL0 : 0 < L.length := by have := hF.limits; obtain ⟨_, _, _, _, _⟩ := this; omega
  obtain ⟨bb, o, rfl, -⟩ := hN.2.2 0 hL0
  obtain ⟨w2, hw2, hb2, hs2, hA, hB⟩ := two_boxes w #[.slice (some ⟨bb, o, none⟩) L.length cap, .int .i64 m, .int .i64 b] #[.slice none 0 0, .int .i64 0, .int .i64 0] 24 24
  have HX := Lib.hid (show ∀ W, Below w2.heap.size w2 W → W.heap[w.heap.size + 1]? = some (.cells #[.slice none 0 0, .int .i64 0, .int .i64 0] 24 (0, 0)) ∧ W.cell? ⟨w.heap.size, 0, none⟩ = some (.slice (some ⟨bb, o, none⟩) L.length cap) ∧ W.cell? ⟨w.heap.size, 1, none⟩ = some (.int .i64 m) ∧ W.cell? ⟨w.heap.size, 2, none⟩ = some (.int .i64 b) from fun W hW => by
    have h := (hW.block w.heap.size (by omega)).trans hA
    exact ⟨(hW.block _ (by omega)).trans hB, blk_cell h 0, blk_cell h 1, blk_cell h 2⟩)
  have HM := Lib.hid (show ∀ W, Below w2.heap.size w2 W → NodesIn W (some ⟨bb, o, none⟩) cap L from fun W hW => hN.below (hb2.trans (hW.mono (by omega))))
  have HB2 := Lib.hid hb2
  have HF := Lib.hid hF
  have hz2 := hz
  unfold unlinkW at hz2
  obtain ⟨⟨z, s, k, er0⟩, hn⟩ : ∃ r, namedW L cwd pb.data.toList = r := ⟨_, rfl⟩
  rw [hn] at hz2
  simp only at hz2
  have HNM := Lib.hid hn
  clear hz hN hb2 hA hB hF hn
  obtain ⟨hRx, q0, q1, q2⟩ := HX.out w2 (Below.refl _ _)
  have HRX := Lib.hid hRx
  have hq := cell_lt q0
  have r0 := blk_cell hRx 0
  have r1 := blk_cell hRx 1
  have r2 := blk_cell hRx 2
  have s0 := blk_free hRx 0
  have s1 := blk_free hRx 1
  have s2 := blk_free hRx 2
  have hrl := lt_of_block hRx
  clear hRx
  rw [hw2] at r0 r1 r2 s0 s1 s2 hrl q0 q1 q2 hq
  go_enter Tryz.func11, Tryz.ntmps11
  go_wp2_with fail
  rw [← hw2]
  clear HRX r0 r1 r2 s0 s1 s2 hrl q0 q1 q2 hq
  clear hw2
  refine (rnamed6 _ _ _ _ _ _ hp L HF.out _ _ _ _ HNM.out _ (HM.out _ (Below.refl _ _))).mono ?_
  rintro e w3 ⟨rfl, hb3⟩
  have HB3 := Lib.hid hb3
  have hs3 := hb3.size
  clear hb3
  obtain ⟨hRx, q0, q1, q2⟩ := HX.out _ HB3.out
  have HRX := Lib.hid hRx
  have hq := cell_lt q0
  have r0 := blk_cell hRx 0
  have r1 := blk_cell hRx 1
  have r2 := blk_cell hRx 2
  have s0 := blk_free hRx 0
  have s1 := blk_free hRx 1
  have s2 := blk_free hRx 2
  have hrl := lt_of_block hRx
  clear hRx
  by_cases h0 : er0 = 0
  · subst h0
    rw [if_neg (by simp)] at hz2
    obtain ⟨d, kn, s', hna⟩ := named_ok HF.out (by rw [HNM.out])
    have e1 := hna.nam
    rw [HNM.out] at e1
    simp only [Prod.mk.injEq] at e1
    obtain ⟨rfl, rfl, rfl, -⟩ := e1
    simp only [Int.toNat_natCast] at hz2
    have HNA := Lib.hid hna
    have hk0 : (0 : Int) ≤ (kn : Int) := by omega
    have hkl : kn < L.length := hna.klt
    have hkl1 : (kn : Int) < (L.length : Int) := by omega
    obtain ⟨dv, hdv⟩ : ∃ v, dirB L (kn : Int) = v := ⟨_, rfl⟩
    rw [hdv] at hz2
    have HDV := Lib.hid hdv
    have HZ2 := Lib.hid hz2
    clear hz2 hdv hna
    go_wp2_with fail
    refine (risdir6 _ _ _ _ kn L hkl _ HDV.out _ (HM.out _ HB3.out)).mono ?_
    rintro e w4 ⟨rfl, hb4⟩
    have hz2 := HZ2.out
    have HB4 := Lib.hid (HB3.out.trans (hb4.mono HB3.out.size))
    clear hb4
    clear HRX r0 r1 r2 s0 s1 s2 hrl q0 q1 q2 hq
    obtain ⟨hRx, q0, q1, q2⟩ := HX.out _ HB4.out
    have HRX := Lib.hid hRx
    have hq := cell_lt q0
    have r0 := blk_cell hRx 0
    have r1 := blk_cell hRx 1
    have r2 := blk_cell hRx 2
    have s0 := blk_free hRx 0
    have s1 := blk_free hRx 1
    have s2 := blk_free hRx 2
    have hrl := lt_of_block hRx
    clear hRx
    cases dv with
    | true =>
      rw [if_pos rfl] at hz2
      simp only [Prod.mk.injEq] at hz2
      obtain ⟨rfl, rfl⟩ := hz2
      go_wp2_with fail
      change bodyPost _ _ _ _ _ (put3 w4 (w.heap.size + 1) (.slice (some ⟨bb, o, none⟩) L.length cap) (.int .i64 m) (.int .i64 b))
      obtain ⟨c0, c1, c2⟩ := put3_cells HRX.out (.slice (some ⟨bb, o, none⟩) L.length cap) (.int .i64 m) (.int .i64 b)
      have hBF := put3_below (HB2.out.trans (HB4.out.mono (by omega))) (show w.heap.size ≤ w.heap.size + 1 by omega) (.slice (some ⟨bb, o, none⟩) L.length cap) (.int .i64 m) (.int .i64 b)
      exact bodyPost_ret (v := .tuple #[.agg #[.slice (some ⟨bb, o, none⟩) L.length cap, .int .i64 m, .int .i64 b], .int .i64 21]) (by simp [results, Tryz.results11, go_sem, c0, c1, c2]) rfl ⟨⟨_, _, rfl, nodes_put3 (HM.out _ HB4.out) HRX.out _ _ _⟩, hBF⟩
    | false =>
      rw [if_neg (by decide)] at hz2
      obtain ⟨sv, hsv⟩ : ∃ v, endL pb.data.toList = v := ⟨_, rfl⟩
      rw [hsv] at hz2
      have HSV := Lib.hid hsv
      have HZ3 := Lib.hid hz2
      clear hz2 hsv
      go_wp2_with fail
      refine (rslash6 pb hp _ HSV.out _).mono ?_
      rintro e w' ⟨rfl, rfl⟩
      have hz2 := HZ3.out
      cases sv with
      | true =>
        rw [if_pos rfl] at hz2
        simp only [Prod.mk.injEq] at hz2
        obtain ⟨rfl, rfl⟩ := hz2
        go_wp2_with fail
        change bodyPost _ _ _ _ _ (put3 w' (w.heap.size + 1) (.slice (some ⟨bb, o, none⟩) L.length cap) (.int .i64 m) (.int .i64 b))
        obtain ⟨c0, c1, c2⟩ := put3_cells HRX.out (.slice (some ⟨bb, o, none⟩) L.length cap) (.int .i64 m) (.int .i64 b)
        have hBF := put3_below (HB2.out.trans (HB4.out.mono (by omega))) (show w.heap.size ≤ w.heap.size + 1 by omega) (.slice (some ⟨bb, o, none⟩) L.length cap) (.int .i64 m) (.int .i64 b)
        exact bodyPost_ret (v := .tuple #[.agg #[.slice (some ⟨bb, o, none⟩) L.length cap, .int .i64 m, .int .i64 b], .int .i64 20]) (by simp [results, Tryz.results11, go_sem, c0, c1, c2]) rfl ⟨⟨_, _, rfl, nodes_put3 (HM.out _ HB4.out) HRX.out _ _ _⟩, hBF⟩
      | false =>
        rw [if_neg (by decide)] at hz2
        simp only [Prod.mk.injEq] at hz2
        obtain ⟨-, rfl⟩ := id hz2
        have HTK := Lib.hid (show Takes L m b d kn s from HNA.out.takes (file_empty HF.out hkl HDV.out))
        have HL2 := Lib.hid hz2.1
        clear hz2
        go_wp2_with fail
        refine (rown6 _ _ _ _ L HF.out _ (HM.out _ HB4.out)).mono ?_
        rintro e w5 ⟨g, cap', vs, rfl, hR5, hg5, hb5⟩
        have HR5 := Lib.hid hR5
        have hgl := hR5.nodes.lt
        have HB5 := Lib.hid (HB4.out.trans (hb5.mono HB4.out.size))
        have hs4 := HB4.out.size
        have hs5 := hb5.size
        clear hR5 hb5
        clear HRX r0 r1 r2 s0 s1 s2 hrl q0 q1 q2 hq
        obtain ⟨hRx, q0, q1, q2⟩ := HX.out _ HB5.out
        have HRX := Lib.hid hRx
        have hq := cell_lt q0
        have r0 := blk_cell hRx 0
        have r1 := blk_cell hRx 1
        have r2 := blk_cell hRx 2
        have s0 := blk_free hRx 0
        have s1 := blk_free hRx 1
        have s2 := blk_free hRx 2
        have hrl := lt_of_block hRx
        clear hRx
        go_wp2_with fail
        obtain ⟨w6, hw6⟩ : ∃ p, p = w5.alloc (.cells #[.slice (some ⟨g, 0, none⟩) L.length cap', .int .i64 m, .int .i64 b] 24) := ⟨_, rfl⟩
        rw [← hw6]
        have hb6 : Below w5.heap.size w5 w6 := by rw [hw6]; exact below_box w5 _
        have hs6 : w6.heap.size = w5.heap.size + 1 := by rw [hw6]; simp
        have HU6 := Lib.hid (show w6.heap[w5.heap.size]? = some (.cells #[.slice (some ⟨g, 0, none⟩) L.length cap', .int .i64 m, .int .i64 b] 24 (0, 0)) by rw [hw6]; exact new_block w5 _)
        have HR6 := Lib.hid (HR5.out.below hb6)
        have HB6 := Lib.hid (HB5.out.trans (hb6.mono HB5.out.size))
        clear hw6 hb6
        refine (rgone_any g cap' d kn m b s L vs HTK.out.dlt HTK.out.klt HTK.out.ne (HTK.out.fit.ins d HTK.out.dlt).2.1 (takes_links HTK.out).1 (takes_links HTK.out).2 _ HR6.out).mono ?_
        rintro e w7 ⟨rfl, ⟨vs7, hR7⟩, hO7⟩
        have HO7 := Lib.hid hO7
        have HR7 := Lib.hid hR7
        have hB7 : Below w.heap.size w w7 := (HB2.out.trans (HB6.out.mono (by omega))).trans (hO7.below (by omega) (by omega))
        have HB7 := Lib.hid hB7
        have hU7 := (hO7.block w5.heap.size (by omega) (by omega)).trans HU6.out
        have hRX7 := (hO7.block (w.heap.size + 1) (by omega) (by omega)).trans (HX.out _ HB6.out).1
        have u0 := blk_cell hU7 0
        have u1 := blk_cell hU7 1
        have u2 := blk_cell hU7 2
        have hul := lt_of_block hU7
        clear hO7 hR7 hB7 hU7
        clear HRX r0 r1 r2 s0 s1 s2 hrl q0 q1 q2 hq
        have HRX := Lib.hid hRX7
        have r0 := blk_cell hRX7 0
        have r1 := blk_cell hRX7 1
        have r2 := blk_cell hRX7 2
        have s0 := blk_free hRX7 0
        have s1 := blk_free hRX7 1
        have s2 := blk_free hRX7 2
        have hrl := lt_of_block hRX7
        clear hRX7
        have hLl : L'.length = L.length := by rw [← HL2.out, gone_len]
        go_wp2_with fail
        change bodyPost _ _ _ _ _ (put3 w7 (w.heap.size + 1) (.slice (some ⟨g, 0, none⟩) L.length cap') (.int .i64 m) (.int .i64 b))
        obtain ⟨c0, c1, c2⟩ := put3_cells HRX.out (.slice (some ⟨g, 0, none⟩) L.length cap') (.int .i64 m) (.int .i64 b)
        have hNf := HR7.out.nodesIn
        rw [HL2.out] at hNf
        exact bodyPost_ret (v := .tuple #[.agg #[.slice (some ⟨g, 0, none⟩) L'.length cap', .int .i64 m, .int .i64 b], .int .i64 0]) (by simp [results, Tryz.results11, go_sem, c0, c1, c2, hLl]) rfl ⟨⟨_, _, rfl, nodes_put3 hNf HRX.out _ _ _⟩, put3_below HB7.out (by omega) _ _ _⟩
  · rw [if_pos h0] at hz2
    have hb0 : (er0 != 0) = true := by simpa using h0
    simp only [Prod.mk.injEq] at hz2
    obtain ⟨rfl, rfl⟩ := hz2
    go_wp2_with fail
    change bodyPost _ _ _ _ _ (put3 w3 (w.heap.size + 1) (.slice (some ⟨bb, o, none⟩) L.length cap) (.int .i64 m) (.int .i64 b))
    obtain ⟨c0, c1, c2⟩ := put3_cells HRX.out (.slice (some ⟨bb, o, none⟩) L.length cap) (.int .i64 m) (.int .i64 b)
    have hBF := put3_below (HB2.out.trans (HB3.out.mono (by omega))) (show w.heap.size ≤ w.heap.size + 1 by omega) (.slice (some ⟨bb, o, none⟩) L.length cap) (.int .i64 m) (.int .i64 b)
    exact bodyPost_ret (v := .tuple #[.agg #[.slice (some ⟨bb, o, none⟩) L.length cap, .int .i64 m, .int .i64 b], .int .i64 er0]) (by simp [results, Tryz.results11, go_sem, c0, c1, c2]) rfl ⟨⟨_, _, rfl, nodes_put3 (HM.out _ HB3.out) HRX.out _ _ _⟩, hBF⟩

set_option maxHeartbeats 8000000 in
theorem rrmdir6 (a : Option Addr) (cap : Nat) (m b cwd : Int) (pb : ByteArray) (hp : pb.size ≤ 1073741824) (L : List Ino) (hF : FitP L m b) (L' : List Ino) (er : Int) (hz : rmdirW L cwd pb.data.toList = (L', er)) (w : World) (hN : NodesIn w a cap L) :
    Calls Tryz.prog 13 #[.agg #[.slice a L.length cap, .int .i64 m, .int .i64 b], .int .i64 cwd, .string pb] w (RefAns w m b L' [.int .i64 er]) := by
  have hL0 : 0 < L.length := by have := hF.limits; obtain ⟨_, _, _, _, _⟩ := this; omega
  obtain ⟨bb, o, rfl, -⟩ := hN.2.2 0 hL0
  obtain ⟨w2, hw2, hb2, hs2, hA, hB⟩ := two_boxes w #[.slice (some ⟨bb, o, none⟩) L.length cap, .int .i64 m, .int .i64 b] #[.slice none 0 0, .int .i64 0, .int .i64 0] 24 24
  have HX := Lib.hid (show ∀ W, Below w2.heap.size w2 W → W.heap[w.heap.size + 1]? = some (.cells #[.slice none 0 0, .int .i64 0, .int .i64 0] 24 (0, 0)) ∧ W.cell? ⟨w.heap.size, 0, none⟩ = some (.slice (some ⟨bb, o, none⟩) L.length cap) ∧ W.cell? ⟨w.heap.size, 1, none⟩ = some (.int .i64 m) ∧ W.cell? ⟨w.heap.size, 2, none⟩ = some (.int .i64 b) from fun W hW => by
    have h := (hW.block w.heap.size (by omega)).trans hA
    exact ⟨(hW.block _ (by omega)).trans hB, blk_cell h 0, blk_cell h 1, blk_cell h 2⟩)
  have HM := Lib.hid (show ∀ W, Below w2.heap.size w2 W → NodesIn W (some ⟨bb, o, none⟩) cap L from fun W hW => hN.below (hb2.trans (hW.mono (by omega))))
  have HB2 := Lib.hid hb2
  have HF := Lib.hid hF
  have hz2 := hz
  unfold rmdirW at hz2
  obtain ⟨⟨z, s, k, er0⟩, hn⟩ : ∃ r, namedW L cwd pb.data.toList = r := ⟨_, rfl⟩
  rw [hn] at hz2
  simp only at hz2
  have HNM := Lib.hid hn
  clear hz hN hb2 hA hB hF hn
  obtain ⟨hRx, q0, q1, q2⟩ := HX.out w2 (Below.refl _ _)
  have HRX := Lib.hid hRx
  have hq := cell_lt q0
  have r0 := blk_cell hRx 0
  have r1 := blk_cell hRx 1
  have r2 := blk_cell hRx 2
  have s0 := blk_free hRx 0
  have s1 := blk_free hRx 1
  have s2 := blk_free hRx 2
  have hrl := lt_of_block hRx
  clear hRx
  rw [hw2] at r0 r1 r2 s0 s1 s2 hrl q0 q1 q2 hq
  go_enter Tryz.func13, Tryz.ntmps13
  go_wp2_with fail
  rw [← hw2]
  clear HRX r0 r1 r2 s0 s1 s2 hrl q0 q1 q2 hq
  clear hw2
  refine (rnamed6 _ _ _ _ _ _ hp L HF.out _ _ _ _ HNM.out _ (HM.out _ (Below.refl _ _))).mono ?_
  rintro e w3 ⟨rfl, hb3⟩
  have HB3 := Lib.hid hb3
  have hs3 := hb3.size
  clear hb3
  obtain ⟨hRx, q0, q1, q2⟩ := HX.out _ HB3.out
  have HRX := Lib.hid hRx
  have hq := cell_lt q0
  have r0 := blk_cell hRx 0
  have r1 := blk_cell hRx 1
  have r2 := blk_cell hRx 2
  have s0 := blk_free hRx 0
  have s1 := blk_free hRx 1
  have s2 := blk_free hRx 2
  have hrl := lt_of_block hRx
  clear hRx
  by_cases h0 : er0 = 0
  · subst h0
    rw [if_neg (by simp)] at hz2
    obtain ⟨d, kn, s', hna⟩ := named_ok HF.out (by rw [HNM.out])
    have e1 := hna.nam
    rw [HNM.out] at e1
    simp only [Prod.mk.injEq] at e1
    obtain ⟨rfl, rfl, rfl, -⟩ := e1
    simp only [Int.toNat_natCast] at hz2
    have HNA := Lib.hid hna
    have hk0 : (0 : Int) ≤ (kn : Int) := by omega
    have hkl : kn < L.length := hna.klt
    have hkl1 : (kn : Int) < (L.length : Int) := by omega
    obtain ⟨dv, hdv⟩ : ∃ v, dirB L (kn : Int) = v := ⟨_, rfl⟩
    rw [hdv] at hz2
    have HDV := Lib.hid hdv
    have HZ2 := Lib.hid hz2
    clear hz2 hdv hna
    go_wp2_with fail
    refine (risdir6 _ _ _ _ kn L hkl _ HDV.out _ (HM.out _ HB3.out)).mono ?_
    rintro e w4 ⟨rfl, hb4⟩
    have hz2 := HZ2.out
    have HB4 := Lib.hid (HB3.out.trans (hb4.mono HB3.out.size))
    clear hb4
    clear HRX r0 r1 r2 s0 s1 s2 hrl q0 q1 q2 hq
    obtain ⟨hRx, q0, q1, q2⟩ := HX.out _ HB4.out
    have HRX := Lib.hid hRx
    have hq := cell_lt q0
    have r0 := blk_cell hRx 0
    have r1 := blk_cell hRx 1
    have r2 := blk_cell hRx 2
    have s0 := blk_free hRx 0
    have s1 := blk_free hRx 1
    have s2 := blk_free hRx 2
    have hrl := lt_of_block hRx
    clear hRx
    cases dv with
    | false =>
      rw [if_pos rfl] at hz2
      simp only [Prod.mk.injEq] at hz2
      obtain ⟨rfl, rfl⟩ := hz2
      go_wp2_with fail
      change bodyPost _ _ _ _ _ (put3 w4 (w.heap.size + 1) (.slice (some ⟨bb, o, none⟩) L.length cap) (.int .i64 m) (.int .i64 b))
      obtain ⟨c0, c1, c2⟩ := put3_cells HRX.out (.slice (some ⟨bb, o, none⟩) L.length cap) (.int .i64 m) (.int .i64 b)
      have hBF := put3_below (HB2.out.trans (HB4.out.mono (by omega))) (show w.heap.size ≤ w.heap.size + 1 by omega) (.slice (some ⟨bb, o, none⟩) L.length cap) (.int .i64 m) (.int .i64 b)
      exact bodyPost_ret (v := .tuple #[.agg #[.slice (some ⟨bb, o, none⟩) L.length cap, .int .i64 m, .int .i64 b], .int .i64 20]) (by simp [results, Tryz.results13, go_sem, c0, c1, c2]) rfl ⟨⟨_, _, rfl, nodes_put3 (HM.out _ HB4.out) HRX.out _ _ _⟩, hBF⟩
    | true =>
      rw [if_neg (by decide), node_nat L kn hkl] at hz2
      obtain ⟨bb', o', e1, hx⟩ := (HM.out _ HB4.out).2.2 kn hkl
      obtain ⟨rfl, rfl⟩ : bb = bb' ∧ o = o' := by simpa using e1
      obtain ⟨kv, x4, ka, kc, rfl, hkc, hkm, -⟩ := hx.kids
      unfold maxLen at hkm
      have hxl := cell_lt x4
      clear hx e1
      by_cases h3 : 0 < L[kn].kids.length
      · have h3i : (L[kn].kids.length : Int) > 0 := by omega
        rw [if_pos h3] at hz2
        simp only [Prod.mk.injEq] at hz2
        obtain ⟨rfl, rfl⟩ := hz2
        go_wp2_with fail
        change bodyPost _ _ _ _ _ (put3 w4 (w.heap.size + 1) (.slice (some ⟨bb, o, none⟩) L.length cap) (.int .i64 m) (.int .i64 b))
        obtain ⟨c0, c1, c2⟩ := put3_cells HRX.out (.slice (some ⟨bb, o, none⟩) L.length cap) (.int .i64 m) (.int .i64 b)
        have hBF := put3_below (HB2.out.trans (HB4.out.mono (by omega))) (show w.heap.size ≤ w.heap.size + 1 by omega) (.slice (some ⟨bb, o, none⟩) L.length cap) (.int .i64 m) (.int .i64 b)
        exact bodyPost_ret (v := .tuple #[.agg #[.slice (some ⟨bb, o, none⟩) L.length cap, .int .i64 m, .int .i64 b], .int .i64 39]) (by simp [results, Tryz.results13, go_sem, c0, c1, c2]) rfl ⟨⟨_, _, rfl, nodes_put3 (HM.out _ HB4.out) HRX.out _ _ _⟩, hBF⟩
      · have h3i : ¬ (L[kn].kids.length : Int) > 0 := by omega
        have h3e : L[kn].kids = [] := List.length_eq_zero_iff.1 (by omega)
        have H3E := Lib.hid h3e
        clear h3e
        rw [if_neg h3] at hz2
        by_cases h5 : (kn : Int) = cwd
        · rw [if_pos h5] at hz2
          subst h5
          simp only [Prod.mk.injEq] at hz2
          obtain ⟨rfl, rfl⟩ := hz2
          go_wp2_with fail
          change bodyPost _ _ _ _ _ (put3 w4 (w.heap.size + 1) (.slice (some ⟨bb, o, none⟩) L.length cap) (.int .i64 m) (.int .i64 b))
          obtain ⟨c0, c1, c2⟩ := put3_cells HRX.out (.slice (some ⟨bb, o, none⟩) L.length cap) (.int .i64 m) (.int .i64 b)
          have hBF := put3_below (HB2.out.trans (HB4.out.mono (by omega))) (show w.heap.size ≤ w.heap.size + 1 by omega) (.slice (some ⟨bb, o, none⟩) L.length cap) (.int .i64 m) (.int .i64 b)
          exact bodyPost_ret (v := .tuple #[.agg #[.slice (some ⟨bb, o, none⟩) L.length cap, .int .i64 m, .int .i64 b], .int .i64 22]) (by simp [results, Tryz.results13, go_sem, c0, c1, c2]) rfl ⟨⟨_, _, rfl, nodes_put3 (HM.out _ HB4.out) HRX.out _ _ _⟩, hBF⟩
        · rw [if_neg h5] at hz2
          have h5b : ((kn : Int) == cwd) = false := by simpa using h5
          clear h5
          simp only [Prod.mk.injEq] at hz2
          obtain ⟨-, rfl⟩ := id hz2
          have HTK := Lib.hid (show Takes L m b d kn s from HNA.out.takes H3E.out)
          have HL2 := Lib.hid hz2.1
          clear hz2
          go_wp2_with fail
          refine (rown6 _ _ _ _ L HF.out _ (HM.out _ HB4.out)).mono ?_
          rintro e w5 ⟨g, cap', vs, rfl, hR5, hg5, hb5⟩
          have HR5 := Lib.hid hR5
          have hgl := hR5.nodes.lt
          have HB5 := Lib.hid (HB4.out.trans (hb5.mono HB4.out.size))
          have hs4 := HB4.out.size
          have hs5 := hb5.size
          clear hR5 hb5
          clear HRX r0 r1 r2 s0 s1 s2 hrl q0 q1 q2 hq
          obtain ⟨hRx, q0, q1, q2⟩ := HX.out _ HB5.out
          have HRX := Lib.hid hRx
          have hq := cell_lt q0
          have r0 := blk_cell hRx 0
          have r1 := blk_cell hRx 1
          have r2 := blk_cell hRx 2
          have s0 := blk_free hRx 0
          have s1 := blk_free hRx 1
          have s2 := blk_free hRx 2
          have hrl := lt_of_block hRx
          clear hRx
          go_wp2_with fail
          obtain ⟨w6, hw6⟩ : ∃ p, p = w5.alloc (.cells #[.slice (some ⟨g, 0, none⟩) L.length cap', .int .i64 m, .int .i64 b] 24) := ⟨_, rfl⟩
          rw [← hw6]
          have hb6 : Below w5.heap.size w5 w6 := by rw [hw6]; exact below_box w5 _
          have hs6 : w6.heap.size = w5.heap.size + 1 := by rw [hw6]; simp
          have HU6 := Lib.hid (show w6.heap[w5.heap.size]? = some (.cells #[.slice (some ⟨g, 0, none⟩) L.length cap', .int .i64 m, .int .i64 b] 24 (0, 0)) by rw [hw6]; exact new_block w5 _)
          have HR6 := Lib.hid (HR5.out.below hb6)
          have HB6 := Lib.hid (HB5.out.trans (hb6.mono HB5.out.size))
          clear hw6 hb6
          refine (rgone_any g cap' d kn m b s L vs HTK.out.dlt HTK.out.klt HTK.out.ne (HTK.out.fit.ins d HTK.out.dlt).2.1 (takes_links HTK.out).1 (takes_links HTK.out).2 _ HR6.out).mono ?_
          rintro e w7 ⟨rfl, ⟨vs7, hR7⟩, hO7⟩
          have HO7 := Lib.hid hO7
          have HR7 := Lib.hid hR7
          have hB7 : Below w.heap.size w w7 := (HB2.out.trans (HB6.out.mono (by omega))).trans (hO7.below (by omega) (by omega))
          have HB7 := Lib.hid hB7
          have hU7 := (hO7.block w5.heap.size (by omega) (by omega)).trans HU6.out
          have hRX7 := (hO7.block (w.heap.size + 1) (by omega) (by omega)).trans (HX.out _ HB6.out).1
          have u0 := blk_cell hU7 0
          have u1 := blk_cell hU7 1
          have u2 := blk_cell hU7 2
          have hul := lt_of_block hU7
          clear hO7 hR7 hB7 hU7
          clear HRX r0 r1 r2 s0 s1 s2 hrl q0 q1 q2 hq
          have HRX := Lib.hid hRX7
          have r0 := blk_cell hRX7 0
          have r1 := blk_cell hRX7 1
          have r2 := blk_cell hRX7 2
          have s0 := blk_free hRX7 0
          have s1 := blk_free hRX7 1
          have s2 := blk_free hRX7 2
          have hrl := lt_of_block hRX7
          clear hRX7
          have hLl : L'.length = L.length := by rw [← HL2.out, gone_len]
          go_wp2_with fail
          change bodyPost _ _ _ _ _ (put3 w7 (w.heap.size + 1) (.slice (some ⟨g, 0, none⟩) L.length cap') (.int .i64 m) (.int .i64 b))
          obtain ⟨c0, c1, c2⟩ := put3_cells HRX.out (.slice (some ⟨g, 0, none⟩) L.length cap') (.int .i64 m) (.int .i64 b)
          have hNf := HR7.out.nodesIn
          rw [HL2.out] at hNf
          exact bodyPost_ret (v := .tuple #[.agg #[.slice (some ⟨g, 0, none⟩) L'.length cap', .int .i64 m, .int .i64 b], .int .i64 0]) (by simp [results, Tryz.results13, go_sem, c0, c1, c2, hLl]) rfl ⟨⟨_, _, rfl, nodes_put3 hNf HRX.out _ _ _⟩, put3_below HB7.out (by omega) _ _ _⟩
  · rw [if_pos h0] at hz2
    have hb0 : (er0 != 0) = true := by simpa using h0
    simp only [Prod.mk.injEq] at hz2
    obtain ⟨rfl, rfl⟩ := hz2
    go_wp2_with fail
    change bodyPost _ _ _ _ _ (put3 w3 (w.heap.size + 1) (.slice (some ⟨bb, o, none⟩) L.length cap) (.int .i64 m) (.int .i64 b))
    obtain ⟨c0, c1, c2⟩ := put3_cells HRX.out (.slice (some ⟨bb, o, none⟩) L.length cap) (.int .i64 m) (.int .i64 b)
    have hBF := put3_below (HB2.out.trans (HB3.out.mono (by omega))) (show w.heap.size ≤ w.heap.size + 1 by omega) (.slice (some ⟨bb, o, none⟩) L.length cap) (.int .i64 m) (.int .i64 b)
    exact bodyPost_ret (v := .tuple #[.agg #[.slice (some ⟨bb, o, none⟩) L.length cap, .int .i64 m, .int .i64 b], .int .i64 er0]) (by simp [results, Tryz.results13, go_sem, c0, c1, c2]) rfl ⟨⟨_, _, rfl, nodes_put3 (HM.out _ HB3.out) HRX.out _ _ _⟩, hBF⟩
end Go.Proofs.YtmaiphibpdngnaaGreat

namespace Go.Proofs.YtmaiphibpdngnaaGreat
set_option maxRecDepth 100000
open Go Go.RowKit

theorem wrap_succ (d : Nat) (h : d ≤ 100000) : Value.int .i64 (IntKind.i64.wrap ((d : Int) + 1)) = .int .i64 (((d + 1 : Nat)) : Int) := by
  rw [IntWalk.i64_in _ ⟨by omega, by omega⟩]
  rfl

def ListRel (w1 : World) (M : List (List UInt8 × Int)) (f : List UInt8 × Int → List (List UInt8)) (v iv : Value) (wr : World) : Prop :=
  ∃ k : Nat, k ≤ M.length ∧ iv = .int .i64 k ∧ Texts w1.heap.size wr v ((M.take k).flatMap f) ∧ Below w1.heap.size w1 wr

set_option maxRecDepth 100000 in
set_option maxHeartbeats 4000000 in
theorem rlist_any (a : Option Addr) (cap : Nat) (m b : Int) (L : List Ino) (hL : L.length ≤ 300) (hF : Falls L) : ∀ (n : Nat) (d deep : Nat) (p : List UInt8) (w : World), deep + n = L.length + 1 → d < L.length → p.length ≤ deep * 65 → (listGo L n d p).length ≤ 1048576 → NodesIn w a cap L →
    Calls Tryz.prog 64 #[.agg #[.slice a L.length cap, .int .i64 m, .int .i64 b], .int .i64 d, .string ⟨p.toArray⟩, .int .i64 deep] w fun e w' => ∃ v, e = .returned v ∧ Texts w.heap.size w' v (listGo L n d p) ∧ Below w.heap.size w w' := by
  intro n
  induction n with
  | zero =>
    intro d deep p w hdn hd hp hlen hN
    have hb1 := below_box w (.cells #[.slice a L.length cap, .int .i64 m, .int .i64 b] 24)
    obtain ⟨w1, hw1⟩ : ∃ w1, w1 = w.alloc (.cells #[.slice a L.length cap, .int .i64 m, .int .i64 b] 24) := ⟨_, rfl⟩
    have hbox : ∀ W', Below w1.heap.size w1 W' → W'.cell? ⟨w.heap.size, 0, none⟩ = some (.slice a L.length cap) ∧ W'.cell? ⟨w.heap.size, 1, none⟩ = some (.int .i64 m) ∧ W'.cell? ⟨w.heap.size, 2, none⟩ = some (.int .i64 b) := fun W' h => box3 (by rw [← hw1]; exact h)
    have hsz1 : w1.heap.size = w.heap.size + 1 := by rw [hw1]; simp
    rw [← hw1] at hb1
    obtain ⟨q0, q1, q2⟩ := hbox _ (Below.refl _ _)
    have g0 : w.heap.size < w1.heap.size := by omega
    have hd0 : (0 : Int) ≤ (d : Int) := by omega
    have hdl : (L.length : Int) < (deep : Int) := by omega
    have hdl2 : (deep : Int) ≤ 301 := by omega
    have HB1 := Lib.hid hb1
    have hNN := hN.below (below_box w (.cells #[.slice a L.length cap, .int .i64 m, .int .i64 b] 24))
    rw [← hw1] at hNN
    obtain ⟨bb, o, rfl, hx⟩ := hNN.2.2 d hd
    obtain ⟨kv, x4, hks⟩ := hx.kids
    obtain ⟨M, hMe⟩ : ∃ M, M = L[d].kids := ⟨_, rfl⟩
    rw [← hMe] at hks
    obtain ⟨ka, kcap, rfl, hkc, hkm, hkk⟩ := hks
    unfold maxLen at hkm
    have HX := Lib.hid hbox
    clear hN hNN hx hbox hb1 hMe hkk
    rw [hw1] at x4 q0 q1 q2 g0
    go_enter Tryz.func64, Tryz.ntmps64
    go_wp2_with fail
    rw [← hw1]
    clear hw1 x4 q0 q1 q2 g0
    go_loopw [9, 11, 12] (fun v iv _ wr => v = .slice none 0 0 ∧ iv = .int .i64 0 ∧ Below w1.heap.size w1 wr) (fun _ _ _ _ => 0)
    case atStart => exact ⟨rfl, rfl, Below.refl _ _⟩
    case round =>
      obtain ⟨rfl, rfl, hbr⟩ := hrel
      obtain ⟨q0, q1, q2⟩ := HX.out _ hbr
      have hszr := hbr.size
      have g0 : w.heap.size < wr.heap.size := by omega
      have HBR := Lib.hid hbr
      clear hbr
      cases M with
      | nil =>
        go_wp2_with fail
        go_ret
        exact ⟨_, rfl, World.ownsRow_nil _ _ _ _, HB1.out.trans (HBR.out.mono (by omega))⟩
      | cons e r =>
        have hlp : (0 : Int) < ((e :: r).length : Int) := by simp
        go_wp2_with fail
        go_ret
        exact ⟨_, rfl, World.ownsRow_nil _ _ _ _, HB1.out.trans (HBR.out.mono (by omega))⟩
  | succ n ih =>
    intro d deep p w hdn hd hp hlen hN
    have IH := Lib.hid ih
    clear ih
    have hb1 := below_box w (.cells #[.slice a L.length cap, .int .i64 m, .int .i64 b] 24)
    obtain ⟨w1, hw1⟩ : ∃ w1, w1 = w.alloc (.cells #[.slice a L.length cap, .int .i64 m, .int .i64 b] 24) := ⟨_, rfl⟩
    have hbox : ∀ W', Below w1.heap.size w1 W' → W'.cell? ⟨w.heap.size, 0, none⟩ = some (.slice a L.length cap) ∧ W'.cell? ⟨w.heap.size, 1, none⟩ = some (.int .i64 m) ∧ W'.cell? ⟨w.heap.size, 2, none⟩ = some (.int .i64 b) := fun W' h => box3 (by rw [← hw1]; exact h)
    have hsz1 : w1.heap.size = w.heap.size + 1 := by rw [hw1]; simp
    have hNN := hN.below hb1
    obtain ⟨bb, o, rfl, hx⟩ := hNN.2.2 d hd
    obtain ⟨kv, x4, hks⟩ := hx.kids
    obtain ⟨M, hMe⟩ : ∃ M, M = L[d].kids := ⟨_, rfl⟩
    rw [← hMe] at hks
    obtain ⟨ka, kcap, rfl, hkc, hkm, hkk⟩ := hks
    unfold maxLen at hkm
    obtain ⟨f, hfe⟩ : ∃ f, f = listOne L n p := ⟨_, rfl⟩
    have hlg : listGo L (n + 1) d p = M.flatMap f := by rw [list_succ, node_nat L d hd, hMe, hfe]
    rw [hlg] at hlen ⊢
    have HF := Lib.hid (show ∀ e ∈ M, thereB L e.2 = true ∧ e.1.length ≤ 64 by rw [hMe]; exact hF d hd)
    have HFE := Lib.hid hfe
    rw [← hw1] at hNN hkk hb1
    have HK := Lib.hid hkk
    have HN := Lib.hid hN
    have HN1 := Lib.hid hNN
    have HX := Lib.hid hbox
    have HB1 := Lib.hid hb1
    have hd0 : (0 : Int) ≤ (d : Int) := by omega
    have hdl : (deep : Int) ≤ (L.length : Int) := by omega
    clear hlg hMe hfe hkk hx hN hNN hbox hb1
    go_enter Tryz.func64, Tryz.ntmps64
    go_wp2_with fail
    rw [← hw1]
    clear hw1 x4
    go_loopw [9, 11, 12] (fun v iv _ wr => ListRel w1 M f v iv wr) (fun _ iv _ _ => M.length - (intOf iv).toNat)
    case atStart => exact ⟨0, by omega, rfl, World.ownsRow_nil _ _ _ _, Below.refl _ _⟩
    case round =>
      obtain ⟨k, hk, rfl, hT, hbr⟩ := hrel
      obtain ⟨i0, hi, hz0, hz1, hz2⟩ := info_parts infoS
      have hfl := flat_len M f k
      have HO := Lib.hid (show wr.ownsRow w1.heap.size 9 1 _ ((M.take k).flatMap f).length (((M.take k).flatMap f).map strv) from hT)
      have HBR := Lib.hid hbr
      obtain ⟨q0, q1, q2⟩ := HX.out _ hbr
      have hszr := hbr.size
      have g0 : w.heap.size < wr.heap.size := by omega
      clear hT hbr
      by_cases hlt : k < M.length
      · obtain ⟨c1, p1, rfl, z0, z1⟩ := HK.out k hlt
        have y0 := cell_below HBR.out z0
        have y1 := cell_below HBR.out z1
        have gc : c1 < wr.heap.size := cell_lt y0
        obtain ⟨hth, hnl⟩ := HF.out M[k] (List.getElem_mem _)
        obtain ⟨u, hu1, hu2⟩ := there_nat hth
        have hss := str_len p
        have hsn := str_len M[k].1
        have hcat := cat_slash p M[k].1
        have hfk := flat_take M f k hlt
        have hfl2 := flat_len M f (k + 1)
        rw [hu1] at y1
        have hu0 : (0 : Int) ≤ (u : Int) := by omega
        have HZ := Lib.hid z1
        obtain ⟨bb', o', e1, hy⟩ := HN1.out.2.2 u hu2
        obtain ⟨rfl, rfl⟩ : bb' = bb ∧ o' = o := by simpa [eq_comm] using e1
        have HY := Lib.hid hy.kind
        have hnu : (nodeAt L M[k].2).kind = L[u].kind := by rw [hu1, node_nat L u hu2]
        have hf1 : f M[k] = (p ++ 47 :: M[k].1) :: (if L[u].kind = 2 then listGo L n (u : Int) (p ++ 47 :: M[k].1) else []) := by rw [HFE.out, ← hu1, ← hnu]; rfl
        have HF1 := Lib.hid hf1
        have HFK := Lib.hid hfk
        have HU1 := Lib.hid hu1
        clear z0 z1 hth e1 hy hf1 hfk hnu hu1
        go_wp2_with (first | (at_builtin; (refine wpList_append_own _ rfl _ _ 41 rfl w1.heap.size 9 i0 (.string ByteArray.empty) 1 16 Tryz.underlying41 hi hz0 hz1 hz2 rfl (by decide) _ _ _ rfl (HO.out.alloc _) ⟨wr.heap.size, 0, none⟩ 1 1 [.string ⟨(p ++ 47 :: M[k].1).toArray⟩] rfl rfl (cell_one_new _ _ _) (fun x hx => by simp at hx; subst hx; rfl) (by unfold maxLen; omega) (by omega) (by simp; omega) ?_); intro v' w3 hown' hgrow3 hnil3) | fail)
        have hb3 : Below w1.heap.size wr w3 := ((Below.refl _ wr).alloc hszr _).grown hgrow3 (by simp; omega) (fun r hr => (HO.out.lt r hr).1)
        have hT3 : Texts w1.heap.size w3 v' ((M.take k).flatMap f ++ [p ++ 47 :: M[k].1]) := Texts.grow hown'
        have hb3w : Below w1.heap.size w1 w3 := HBR.out.trans hb3
        obtain ⟨r0, r1, r2⟩ := HX.out _ hb3w
        have s1 := cell_below hb3w HZ.out
        have s2 := cell_below hb3w HY.out
        rw [HU1.out] at s1
        have hsz3 := hb3w.size
        have HT3 := Lib.hid hT3
        have HB3 := Lib.hid hb3w
        clear hb3 hT3 hb3w hown' hgrow3 hnil3 q0 q1 q2 y0 y1 HO
        cases hz : (L[u].kind == 2) with
        | false =>
          have hnext := Lib.hid (show (M.take (k + 1)).flatMap f = (M.take k).flatMap f ++ [p ++ 47 :: M[k].1] by rw [HFK.out, HF1.out, if_neg (by simpa using hz)])
          go_region
          all_goals
            go_wp2_with fail
            go_roundw
            case rel => exact ⟨k + 1, by omega, by go_num, by rw [hnext.out]; exact HT3.out, ⟨HB3.out.os, HB3.out.tape, HB3.out.output, HB3.out.size, HB3.out.block⟩⟩
            case measure => simp [intOf] <;> omega
        | true =>
          have hnext := Lib.hid (show (M.take (k + 1)).flatMap f = ((M.take k).flatMap f ++ [p ++ 47 :: M[k].1]) ++ listGo L n (u : Int) (p ++ 47 :: M[k].1) by rw [HFK.out, HF1.out, if_pos (by simpa using hz)]; simp)
          have hcall := Lib.hid (show ∀ W, Below w1.heap.size w1 W → Calls Tryz.prog 64 #[.agg #[.slice (some ⟨bb', o', none⟩) L.length cap, .int .i64 m, .int .i64 b], .int .i64 u, .string ⟨(p ++ 47 :: M[k].1).toArray⟩, .int .i64 (IntKind.i64.wrap ((deep : Int) + 1))] W fun e w' => ∃ v, e = .returned v ∧ Texts W.heap.size w' v (listGo L n (u : Int) (p ++ 47 :: M[k].1)) ∧ Below W.heap.size W w' from fun W hW => by
            have hsub : (listGo L n (u : Int) (p ++ 47 :: M[k].1)).length ≤ 1048576 := by
              have h := congrArg List.length hnext.out
              simp only [List.length_append] at h
              omega
            have h := IH.out u (deep + 1) (p ++ 47 :: M[k].1) W (by omega) hu2 (by simp only [List.length_append, List.length_cons]; omega) hsub (HN1.out.below hW)
            rw [show Value.int .i64 (((deep + 1 : Nat)) : Int) = .int .i64 (IntKind.i64.wrap ((deep : Int) + 1)) from (wrap_succ deep (by omega)).symm] at h
            exact h)
          have HZ2 := Lib.hid (show w1.cell? ⟨c1, p1 + k * 2 + 1, none⟩ = some (.int .i64 (u : Int)) by
            have h := HZ.out
            rw [HU1.out] at h
            exact h)
          have hlen2 : ((M.take k).flatMap f ++ [p ++ 47 :: M[k].1]).length + (listGo L n (u : Int) (p ++ 47 :: M[k].1)).length ≤ 1048576 := by
            have h := congrArg List.length hnext.out
            rw [List.length_append] at h
            omega
          go_region
          go_wp2_with fail
          go_region_held3 (fun W => W.cell? ⟨w.heap.size, 0, none⟩ = some (.slice (some ⟨bb', o', none⟩) L.length cap) ∧ W.cell? ⟨w.heap.size, 1, none⟩ = some (.int .i64 m) ∧ W.cell? ⟨w.heap.size, 2, none⟩ = some (.int .i64 b) ∧ W.cell? ⟨c1, p1 + k * 2 + 1, none⟩ = some (.int .i64 (u : Int)))
            (first | (exact ⟨r0, r1, r2, s1⟩) | (exact ⟨cell_below hb5' r0, cell_below hb5' r1, cell_below hb5' r2, cell_below hb5' s1⟩) | (exact ⟨t0, t1, t2, t3⟩))
            (first
              | (refine step_append_texts hT4 hT5 hlen2 hb4 rfl _ _ rfl rfl rfl ?_; intro v6 w6 hT6 hb6; have hb6' : Below w1.heap.size w1 w6 := (HB3.out.trans (hb5'.mono hsz3)).trans hb6; obtain ⟨t0, t1, t2⟩ := HX.out _ hb6'; have t3 := cell_below hb6' HZ2.out)
              | (go_at_call 64; refine (hcall.out _ ?_).mono ?_; (exact ⟨HB3.out.os, HB3.out.tape, HB3.out.output, HB3.out.size, HB3.out.block⟩); rintro e w5 ⟨v5, rfl, hT5, hb5⟩; have hb5' : Below w3.heap.size w3 w5 := ⟨hb5.os, hb5.tape, hb5.output, hb5.size, hb5.block⟩; have hT4 : Texts w1.heap.size w5 v' ((M.take k).flatMap f ++ [p ++ 47 :: M[k].1]) := Texts.below HT3.out hb5'; have hb4 : w1.heap.size ≤ w5.heap.size := Nat.le_trans hsz3 hb5.size))
          all_goals
            have HT6 := Lib.hid hT6
            have HB6 := Lib.hid hb6'
            go_wp2_with fail
            go_roundw
            case rel => exact ⟨k + 1, by omega, by go_num, by rw [hnext.out]; exact HT6.out, HB6.out⟩
            case measure => simp [intOf] <;> omega
      · go_wp2_with fail
        go_ret
        exact ⟨_, rfl, by
          have h := own_less3 HO.out (show w.heap.size ≤ w1.heap.size by omega)
          rw [List.take_of_length_le (by omega)] at h
          exact h, HB1.out.trans (HBR.out.mono (by omega))⟩
end Go.Proofs.YtmaiphibpdngnaaGreat

namespace Go.Proofs.YtmaiphibpdngnaaGreat
open Go Go.RowKit

set_option maxHeartbeats 2000000 in
theorem rlistT_any (a : Option Addr) (cap : Nat) (m b : Int) (L : List Ino) (hL : L.length ≤ 300) (h0 : 0 < L.length) (hF : Falls L) (hlen : (listGo L (L.length + 1) 0 []).length ≤ 1048576) (w : World) (hN : NodesIn w a cap L) :
    Calls Tryz.prog 21 #[.agg #[.slice a L.length cap, .int .i64 m, .int .i64 b]] w fun e w' => ∃ v, e = .returned v ∧ Texts w.heap.size w' v (listGo L (L.length + 1) 0 []) ∧ Below w.heap.size w w' := by
  have hb1 := below_box w (.cells #[.slice a L.length cap, .int .i64 m, .int .i64 b] 24)
  have hM := hN.below hb1
  have hr := rlist_any a cap m b L hL hF (L.length + 1) 0 0 [] _ (by omega) h0 (by simp) hlen hM
  have HR := Lib.hid hr
  have HB := Lib.hid hb1
  clear hr hb1 hN hM
  go_enter Tryz.func21, Tryz.ntmps21
  go_wp2_with (first | (go_at_call 64; refine Calls.mono HR.out ?_; rintro e w2 ⟨v, rfl, hT, hb2⟩; have HT := Lib.hid hT; have HB2 := Lib.hid (HB.out.trans (hb2.mono (by simp))); clear hT hb2) | fail)
  go_ret
  exact ⟨_, rfl, own_less3 HT.out (by simp), HB2.out⟩
end Go.Proofs.YtmaiphibpdngnaaGreat

namespace Go.Proofs.YtmaiphibpdngnaaGreat
open Go Go.RowKit

theorem Texts.slot3 {B : Nat} {w : World} {v : Value} {L : List (List UInt8)} (h : Texts B w v L) : ∃ (a : Option Addr) (cap : Nat), v = .slice a L.length cap ∧ L.length ≤ cap ∧ cap ≤ maxLen := by
  rcases h.forms with ⟨rfl, rfl⟩ | ⟨g, cap, rfl, -, -, hc, hm, -⟩
  · exact ⟨none, 0, rfl, Nat.le_refl _, by decide⟩
  · exact ⟨_, cap, rfl, hc, hm⟩

def SRel (n : Nat) (L1 L2 : List (List UInt8)) (w0 : World) (i : Value) (wr : World) : Prop :=
  ∃ k : Nat, k ≤ n ∧ i = .int .i64 k ∧ L1.take k = L2.take k ∧ Below w0.heap.size w0 wr

theorem take_same (L1 L2 : List (List UInt8)) (k : Nat) (h1 : k < L1.length) (h2 : k < L2.length) (h : L1.take k = L2.take k) (he : L1[k] = L2[k]) : L1.take (k + 1) = L2.take (k + 1) := by
  rw [List.take_succ_eq_append_getElem h1, List.take_succ_eq_append_getElem h2, h, he]

theorem same_bytes (x y : ByteArray) (h : (x.toList == y.toList) = true) : x.data.toList = y.data.toList := by
  rw [ByteArray.toList_eq, ByteArray.toList_eq] at h
  exact beq_iff_eq.1 h
theorem diff_bytes (x y : ByteArray) (h : (x.toList == y.toList) = false) : x.data.toList ≠ y.data.toList := by
  rw [ByteArray.toList_eq, ByteArray.toList_eq] at h
  exact beq_eq_false_iff_ne.1 h

set_option maxHeartbeats 2000000 in
theorem rsame_any (L1 L2 : List (List UInt8)) (B1 B2 : Nat) (v1 v2 : Value) (w : World) (hT1 : Texts B1 w v1 L1) (hT2 : Texts B2 w v2 L2) :
    Calls Tryz.prog 22 #[v1, v2] w fun e w' => e = .returned (.bool (decide (L1 = L2))) ∧ Below w.heap.size w w' := by
  obtain ⟨a1, c1, rfl, hc1, hm1⟩ := hT1.slot3
  obtain ⟨a2, c2, rfl, hc2, hm2⟩ := hT2.slot3
  have HT1 := Lib.hid hT1
  have HT2 := Lib.hid hT2
  clear hT1 hT2
  unfold maxLen at hm1 hm2
  by_cases hlen : L1.length = L2.length
  · rw [← hlen]
    have HL := Lib.hid hlen
    have hc2' : L1.length ≤ c2 := by omega
    clear hlen hc2
    go_enter Tryz.func22, Tryz.ntmps22
    go_wp2_with fail
    go_loopw [5] (fun i wr => SRel L1.length L1 L2 w i wr) (fun i _ => L1.length - (intOf i).toNat)
    case atStart => exact ⟨0, by omega, rfl, by simp, Below.refl _ _⟩
    case round =>
      obtain ⟨k, hk, rfl, ht, hb⟩ := hrel
      have HTK := Lib.hid ht
      have HB := Lib.hid hb
      clear ht hb
      by_cases hlt : k < L1.length
      · have hlt2 : k < L2.length := by have := HL.out; omega
        obtain ⟨x1, hx1⟩ : ∃ xs : ByteArray, xs = ⟨L1[k].toArray⟩ := ⟨_, rfl⟩
        obtain ⟨x2, hx2⟩ : ∃ xs : ByteArray, xs = ⟨L2[k].toArray⟩ := ⟨_, rfl⟩
        have HX1 := Lib.hid (show x1.data.toList = L1[k] by rw [hx1])
        have HX2 := Lib.hid (show x2.data.toList = L2[k] by rw [hx2])
        obtain ⟨g1, rfl, hy1⟩ : ∃ g, a1 = some ⟨g, 0, none⟩ ∧ wr.cell? ⟨g, k, none⟩ = some (.string x1) := by
          rcases HT1.out.forms with ⟨hv, hn⟩ | ⟨g, cap, hv, hB, hg, -, -, hcell⟩
          · rw [hn] at hlt; simp at hlt
          · simp only [Value.slice.injEq] at hv
            refine ⟨g, hv.1, ?_⟩
            rw [HB.out.cell (p := ⟨g, k, none⟩) hg, hcell k hlt, hx1]
            rfl
        obtain ⟨g2, rfl, hy2⟩ : ∃ g, a2 = some ⟨g, 0, none⟩ ∧ wr.cell? ⟨g, k, none⟩ = some (.string x2) := by
          rcases HT2.out.forms with ⟨hv, hn⟩ | ⟨g, cap, hv, hB, hg, -, -, hcell⟩
          · rw [hn] at hlt2; simp at hlt2
          · simp only [Value.slice.injEq] at hv
            refine ⟨g, hv.1, ?_⟩
            rw [HB.out.cell (p := ⟨g, k, none⟩) hg, hcell k hlt2, hx2]
            rfl
        clear hx1 hx2
        have b1 : (0 : Int) ≤ (k : Int) := by omega
        have b2 : (k : Int) < (L1.length : Int) := by omega
        cases he : (x1.toList == x2.toList) with
        | true =>
          have HE := Lib.hid (take_same L1 L2 k hlt hlt2 HTK.out (HX1.out.symm.trans ((same_bytes x1 x2 he).trans HX2.out)))
          go_wp2_with fail
          go_quiet (fail)
          go_wp2_with fail
          go_roundw
          case rel => exact ⟨k + 1, by omega, by go_num, HE.out, HB.out.trans ⟨rfl, rfl, rfl, Nat.le_refl _, fun _ _ => rfl⟩⟩
          case measure => simp [intOf] <;> omega
        | false =>
          have hne : ¬ L1 = L2 := fun e => diff_bytes x1 x2 he (HX1.out.trans (Eq.trans (by congr 1) HX2.out.symm))
          have HN := Lib.hid (decide_eq_false hne)
          clear hne
          go_wp2_with fail
          go_quiet (fail)
          go_wp2_with fail
          go_ret
          exact ⟨by rw [HN.out]; rfl, HB.out.trans ⟨rfl, rfl, rfl, Nat.le_refl _, fun _ _ => rfl⟩⟩
      · obtain rfl : k = L1.length := by omega
        have HN := Lib.hid (decide_eq_true (p := L1 = L2) (by have h := HTK.out; rw [List.take_length, HL.out, List.take_length] at h; exact h))
        go_wp2_with fail
        go_ret
        exact ⟨by rw [HN.out]; rfl, HB.out⟩
  · have hd : ((L1.length : Int) == (L2.length : Int)) = false := by rw [beq_eq_false_iff_ne]; omega
    have HN := Lib.hid (decide_eq_false (p := L1 = L2) (fun e => hlen (by rw [e])))
    clear hlen
    go_enter Tryz.func22, Tryz.ntmps22
    go_wp2_with fail
    go_ret
    exact ⟨by rw [HN.out]; rfl, Below.refl _ _⟩
end Go.Proofs.YtmaiphibpdngnaaGreat
