/-
  The law MakeDoes, walked.
-/
import Derived.Test.YtfmaagcomplooaaGreatK13
import Derived.Test.YtfmaagcomplooaaGreatRLink
import Derived.Test.YtfmaagcomplooaaGreatK15
import Derived.Test.YtfmaagcomplooaaGreatK14
import Derived.Test.YtfmaagcomplooaaGreatK16
import Derived.Test.YtfmaagcomplooaaGreatTreeSame
namespace Go.Proofs.YtfmaagcomplooaaGreat
set_option maxRecDepth 100000
open Go Go.RowKit

theorem rsame5 (a a' : Option Addr) (cap cap' : Nat) (m b : Int) (L : List Ino) (hL : L.length ≤ 1000) (w : World) (hN : NodesIn w a cap L) (hN' : NodesIn w a' cap' L) :
    Calls Tryz.prog 10 #[.agg #[.slice a L.length cap, .int .i64 m, .int .i64 b], .agg #[.slice a' L.length cap', .int .i64 m, .int .i64 b]] w fun e w' => e = .returned (.bool true) ∧ Below w.heap.size w w' :=
  (rsame3_any a a' cap cap' m b m b L L hL w hN hN').mono fun e w' h => by
    obtain ⟨⟨v, he, hv⟩, hb⟩ := h
    exact ⟨by rw [he, hv.2 rfl], hb⟩

/-- A box of a tree is no part of a tree. -/
theorem nodes_box {W : World} {c : Nat} {t : TypeId} {a a0 : Option Addr} {cap n0 c0 : Nat} {z1 z2 : Int} {L : List Ino} (h : NodesIn W a cap L) (hc : W.heap[c]? = some (.cells #[.slice a0 n0 c0, .int .i64 z1, .int .i64 z2] t (0, 0))) (x y z : Value) : NodesIn (put3 W c x y z) a cap L := by
  have hcell : ∀ j u, W.cell? ⟨c, j, none⟩ = some u → (∀ s, u ≠ .string s) ∧ j < 3 := fun j u hu => by
    rw [blk_cell hc j] at hu
    match j, hu with
    | 0, hu => have h := Option.some.inj hu; subst h; exact ⟨(fun s e => by cases e), by omega⟩
    | 1, hu => have h := Option.some.inj hu; subst h; exact ⟨(fun s e => by cases e), by omega⟩
    | 2, hu => have h := Option.some.inj hu; subst h; exact ⟨(fun s e => by cases e), by omega⟩
    | j + 3, hu => simp at hu
  have hsame : ∀ b j, b ≠ c → (put3 W c x y z).cell? ⟨b, j, none⟩ = W.cell? ⟨b, j, none⟩ := fun b j hb => World.cell?_of_block (a := ⟨b, j, none⟩) (put3_other hb x y z)
  refine ⟨h.1, h.2.1, fun i hi => ?_⟩
  obtain ⟨b, o, e, hn⟩ := h.2.2 i hi
  have hb : b ≠ c := fun e => by
    subst e
    have := (hcell _ _ hn.up).2
    omega
  obtain ⟨v, hv, ka, kc, rfl, h1, h2, h3⟩ := hn.kids
  exact ⟨b, o, e, ⟨(hsame b _ hb).trans hn.kind, (hsame b _ hb).trans hn.mode, (hsame b _ hb).trans hn.links, (hsame b _ hb).trans hn.data, ⟨_, (hsame b _ hb).trans hv, ka, kc, rfl, h1, h2, fun j hj => by
    obtain ⟨b', o', e', c0, c1⟩ := h3 j hj
    have hb' : b' ≠ c := fun e => by
      subst e
      exact (hcell _ _ c0).1 _ rfl
    exact ⟨b', o', e', (hsame b' _ hb').trans c0, (hsame b' _ hb').trans c1⟩⟩, (hsame b _ hb).trans hn.up⟩⟩

set_option maxHeartbeats 8000000 in
theorem ldoes_walk (a : Option Addr) (cap : Nat) (m b cwd q : Int) (pb tb : ByteArray) (hpb : pb.size ≤ 281474976710656) (htb : tb.size ≤ 281474976710656) (L : List Ino) (hS : Sized L) (w : World) (hN : NodesIn w a cap L) :
    Calls Tryz.prog 3 #[.agg #[.slice a L.length cap, .int .i64 m, .int .i64 b], .int .i64 cwd, .string pb, .string tb, .int .i64 q] w fun e w' => e = .returned (.bool true) ∧ Below w.heap.size w w' := by
  obtain ⟨w1, hw1⟩ : ∃ w1, w1 = w.alloc (.cells #[.slice a L.length cap, .int .i64 m, .int .i64 b] 24) := ⟨_, rfl⟩
  have hb1 : Below w.heap.size w w1 := by rw [hw1]; exact below_box w _
  have hX : w1.heap[w.heap.size]? = some (.cells #[.slice a L.length cap, .int .i64 m, .int .i64 b] 24 (0, 0)) := by rw [hw1]; exact new_block w _
  have hs1 : w1.heap.size = w.heap.size + 1 := by rw [hw1]; simp
  have HB := Lib.hid hb1
  obtain ⟨w2, hw2⟩ : ∃ w2, w2 = w1.alloc (.cells #[.string pb, .string tb] 9) := ⟨_, rfl⟩
  have hb2 : Below w1.heap.size w1 w2 := by rw [hw2]; exact below_box w1 _
  have hs2 : w2.heap.size = w.heap.size + 2 := by rw [hw2, World.size_alloc, hs1]
  have hT2 : w2.heap[w.heap.size + 1]? = some (.cells #[.string pb, .string tb] 9 (0, 0)) := by rw [hw2, ← hs1]; exact new_block w1 _
  have HX := Lib.hid (show ∀ W, Below w2.heap.size w2 W → W.cell? ⟨w.heap.size, 0, none⟩ = some (.slice a L.length cap) ∧ W.cell? ⟨w.heap.size, 1, none⟩ = some (.int .i64 m) ∧ W.cell? ⟨w.heap.size, 2, none⟩ = some (.int .i64 b) from fun W hW => by
    have h := (hW.block w.heap.size (by omega)).trans ((hb2.block w.heap.size (by omega)).trans hX)
    exact ⟨blk_cell h 0, blk_cell h 1, blk_cell h 2⟩)
  have HEND := Lib.hid (show ∀ W', Below w2.heap.size w2 W' → Below w.heap.size w W' from fun W' h => HB.out.trans ((hb2.trans (h.mono (by omega))).mono (by omega)))
  have HM := Lib.hid (show ∀ W', Below w2.heap.size w2 W' → NodesIn W' a cap L from fun W' h => hN.below (HB.out.trans ((hb2.trans (h.mono (by omega))).mono (by omega))))
  have HS := Lib.hid hS
  have hgood := good5_any a cap m b L hS [pb, tb] (fun s hs => by
      simp only [List.mem_cons, List.not_mem_nil, or_false] at hs
      rcases hs with rfl | rfl
      · exact hpb
      · exact htb) (by simp) (w.heap.size + 1) 2 w2 (HM.out w2 (Below.refl _ _)) (fun i hi => by
      match i, hi with
      | 0, _ => exact blk_cell hT2 0
      | 1, _ => exact blk_cell hT2 1)
  have HGOOD := Lib.hid hgood
  clear hN hb1 hX hS hb2 hT2 hgood
  go_enter Tryz.func3, Tryz.ntmps3
  go_wp2_with fail
  rw [← hw1, ← hw2]
  clear hw1 hw2
  refine HGOOD.out.mono ?_
  rintro e w3 ⟨⟨v, rfl, hv⟩, hb3⟩
  have HV := Lib.hid hv
  have HB3 := Lib.hid hb3
  have hs3 := hb3.size
  obtain ⟨q0, q1, q2⟩ := HX.out _ hb3
  have hq := cell_lt q0
  clear hv hb3 HGOOD
  cases v with
  | false =>
    clear q0 q1 q2 hq
    go_wp2_with fail
    refine (awake5 _).mono ?_
    rintro e w4 ⟨rfl, hb4⟩
    have HB4 := Lib.hid (HB3.out.trans (hb4.mono hs3))
    clear hb4
    go_wp2_with fail
    go_ret
    exact ⟨rfl, HEND.out _ HB4.out⟩
  | true =>
    obtain ⟨hl, hF, hsz⟩ := HV.out rfl
    have HF := Lib.hid hF
    have hL0 : 0 < L.length := by have := hF.limits; obtain ⟨_, _, _, _, _⟩ := this; omega
    have hp3 : pb.size ≤ 1073741824 := by have := hsz pb (by simp); omega
    have ht3 : tb.size ≤ 1073741824 := by have := hsz tb (by simp); omega
    obtain ⟨to, rfl⟩ : ∃ to : List UInt8, tb = ⟨to.toArray⟩ := ⟨tb.data.toList, rfl⟩
    clear hsz hF HV HS
    have hw3 : w.heap.size + 2 ≤ w3.heap.size := by omega
    obtain ⟨⟨La, ka, ea⟩, hza⟩ : ∃ r, mkdirW L cwd pb.data.toList q = r := ⟨_, rfl⟩
    obtain ⟨⟨Lc, kc, ec⟩, hzc⟩ : ∃ r, createW L cwd pb.data.toList q = r := ⟨_, rfl⟩
    obtain ⟨⟨Ls, ks, es⟩, hzs⟩ : ∃ r, symlinkW L b cwd to pb.data.toList = r := ⟨_, rfl⟩
    obtain ⟨⟨Ll, el⟩, hzl⟩ : ∃ r, linkW L cwd to pb.data.toList = r := ⟨_, rfl⟩
    obtain ⟨⟨Lm, em⟩, hzm⟩ : ∃ r, chmodW L cwd pb.data.toList q = r := ⟨_, rfl⟩
    have hla : La.length ≤ 1000 := by
      by_cases e : ea = 0
      · obtain ⟨-, u, h⟩ := (mkdir_made HF.out hza).1 e
        obtain ⟨d, s, j, -, -, hL, -⟩ := h.made
        rw [hL, add_len]; omega
      · rw [((mkdir_made HF.out hza).2 e).1]; omega
    have hlc : Lc.length ≤ 1000 := by
      by_cases e : ec = 0
      · obtain ⟨-, h⟩ := (create_made HF.out hzc).1 e
        obtain ⟨d, s, j, -, -, hL, -⟩ := h.made
        rw [hL, add_len]; omega
      · rw [((create_made HF.out hzc).2 e).1]; omega
    have hls : Ls.length ≤ 1000 := by
      by_cases e : es = 0
      · have h := (symlink_made HF.out hzs).1 e
        obtain ⟨d, s, j, -, -, hL, -⟩ := h.made
        rw [hL, add_len]; omega
      · rw [((symlink_made HF.out hzs).2 e).1]; omega
    have hll : Ll.length ≤ 1000 := by
      by_cases e : el = 0
      · obtain ⟨d, s, k, hk, -, -, hL, -⟩ := (link_made HF.out hzl).1 e
        rw [hL, add_len]; omega
      · rw [(link_made HF.out hzl).2 e]; omega
    have hlm : Lm.length ≤ 1000 := by
      by_cases e : em = 0
      · obtain ⟨k, hk, -, hL, -⟩ := (chmod_made HF.out hzm).1 e
        rw [hL, List.length_set]; omega
      · rw [(chmod_made HF.out hzm).2 e]; omega
    have HZA := Lib.hid hza
    have HZC := Lib.hid hzc
    have HZS := Lib.hid hzs
    have HZL := Lib.hid hzl
    have HZM := Lib.hid hzm
    clear hza hzc hzs hzl hzm
    go_wp2_with fail
    clear q0 q1 q2 hq
    refine (lmkdir_any _ _ _ _ cwd q pb hp3 L HF.out La ka ea HZA.out _ (HM.out _ HB3.out)).mono ?_
    rintro e w4 hmade
    obtain ⟨gA, cA, vA, rfl, hO, hb⟩ := MadeAns.three hmade
    have NDA' := Lib.hid hO.nodesIn
    have HB4 := Lib.hid (HB3.out.trans (hb.mono HB3.out.size))
    have hs4 := hb.size
    clear hmade hO hb
    have NDA := NDA'
    clear NDA'
    obtain ⟨q0, q1, q2⟩ := HX.out _ HB4.out
    have hq := cell_lt q0
    go_wp2_with fail
    obtain ⟨w5, hw⟩ : ∃ p, p = w4.alloc (.cells #[.slice (some ⟨gA, 0, none⟩) La.length cA, .int .i64 m, .int .i64 b] 24) := ⟨_, rfl⟩
    rw [← hw]
    have hb : Below w4.heap.size w4 w5 := by rw [hw]; exact below_box w4 _
    have hz5 : w5.heap.size = w4.heap.size + 1 := by rw [hw]; simp
    have KB1' := Lib.hid (show w5.heap[w4.heap.size]? = some (.cells #[.slice (some ⟨gA, 0, none⟩) La.length cA, .int .i64 m, .int .i64 b] 24 (0, 0)) by rw [hw]; exact new_block w4 _)
    have HB5 := Lib.hid (HB4.out.trans (hb.mono HB4.out.size))
    have hs5 := hb.size
    replace NDA := Lib.hid (NDA.out.below hb)
    clear hw hb q0 q1 q2 hq
    have KB1 := KB1'
    clear KB1'
    refine (rmkdir_any _ _ _ _ cwd q pb hp3 L HF.out La ka ea HZA.out _ (HM.out _ HB5.out)).mono ?_
    rintro e w6 ⟨⟨gB, cB, he, hN5⟩, hb⟩
    have he' : e = .returned (.tuple #[.agg #[.slice gB La.length cB, .int .i64 m, .int .i64 b], .int .i64 ka, .int .i64 ea]) := he
    subst he'
    have NDB' := Lib.hid hN5
    have HB6 := Lib.hid (HB5.out.trans (hb.mono HB5.out.size))
    have hs6 := hb.size
    replace KB1 := Lib.hid ((hb.block _ (lt_of_block KB1.out)).trans KB1.out)
    replace NDA := Lib.hid (NDA.out.below hb)
    clear he hN5 hb
    have NDB := NDB'
    clear NDB'
    obtain ⟨q0, q1, q2⟩ := HX.out _ HB6.out
    have hq := cell_lt q0
    go_wp2_with fail
    obtain ⟨w7, hw⟩ : ∃ p, p = w6.alloc (.cells #[.slice gB La.length cB, .int .i64 m, .int .i64 b] 24) := ⟨_, rfl⟩
    rw [← hw]
    have hb : Below w6.heap.size w6 w7 := by rw [hw]; exact below_box w6 _
    have hz7 : w7.heap.size = w6.heap.size + 1 := by rw [hw]; simp
    have KB2' := Lib.hid (show w7.heap[w6.heap.size]? = some (.cells #[.slice gB La.length cB, .int .i64 m, .int .i64 b] 24 (0, 0)) by rw [hw]; exact new_block w6 _)
    have HB7 := Lib.hid (HB6.out.trans (hb.mono HB6.out.size))
    have hs7 := hb.size
    replace KB1 := Lib.hid ((hb.block _ (lt_of_block KB1.out)).trans KB1.out)
    replace NDA := Lib.hid (NDA.out.below hb)
    replace NDB := Lib.hid (NDB.out.below hb)
    clear hw hb q0 q1 q2 hq
    have KB2 := KB2'
    clear KB2'
    refine (lcreate_any _ _ _ _ cwd q pb hp3 L HF.out Lc kc ec HZC.out _ (HM.out _ HB7.out)).mono ?_
    rintro e w8 hmade
    obtain ⟨gC, cC, vC, rfl, hO, hb⟩ := MadeAns.three hmade
    have NDC' := Lib.hid hO.nodesIn
    have HB8 := Lib.hid (HB7.out.trans (hb.mono HB7.out.size))
    have hs8 := hb.size
    replace KB1 := Lib.hid ((hb.block _ (lt_of_block KB1.out)).trans KB1.out)
    replace KB2 := Lib.hid ((hb.block _ (lt_of_block KB2.out)).trans KB2.out)
    replace NDA := Lib.hid (NDA.out.below hb)
    replace NDB := Lib.hid (NDB.out.below hb)
    clear hmade hO hb
    have NDC := NDC'
    clear NDC'
    obtain ⟨q0, q1, q2⟩ := HX.out _ HB8.out
    have hq := cell_lt q0
    go_wp2_with fail
    obtain ⟨w9, hw⟩ : ∃ p, p = w8.alloc (.cells #[.slice (some ⟨gC, 0, none⟩) Lc.length cC, .int .i64 m, .int .i64 b] 24) := ⟨_, rfl⟩
    rw [← hw]
    have hb : Below w8.heap.size w8 w9 := by rw [hw]; exact below_box w8 _
    have hz9 : w9.heap.size = w8.heap.size + 1 := by rw [hw]; simp
    have KB3' := Lib.hid (show w9.heap[w8.heap.size]? = some (.cells #[.slice (some ⟨gC, 0, none⟩) Lc.length cC, .int .i64 m, .int .i64 b] 24 (0, 0)) by rw [hw]; exact new_block w8 _)
    have HB9 := Lib.hid (HB8.out.trans (hb.mono HB8.out.size))
    have hs9 := hb.size
    replace KB1 := Lib.hid ((hb.block _ (lt_of_block KB1.out)).trans KB1.out)
    replace KB2 := Lib.hid ((hb.block _ (lt_of_block KB2.out)).trans KB2.out)
    replace NDA := Lib.hid (NDA.out.below hb)
    replace NDB := Lib.hid (NDB.out.below hb)
    replace NDC := Lib.hid (NDC.out.below hb)
    clear hw hb q0 q1 q2 hq
    have KB3 := KB3'
    clear KB3'
    refine (rcreate_any _ _ _ _ cwd q pb hp3 L HF.out Lc kc ec HZC.out _ (HM.out _ HB9.out)).mono ?_
    rintro e w10 ⟨⟨gD, cD, he, hN5⟩, hb⟩
    have he' : e = .returned (.tuple #[.agg #[.slice gD Lc.length cD, .int .i64 m, .int .i64 b], .int .i64 kc, .int .i64 ec]) := he
    subst he'
    have NDD' := Lib.hid hN5
    have HB10 := Lib.hid (HB9.out.trans (hb.mono HB9.out.size))
    have hs10 := hb.size
    replace KB1 := Lib.hid ((hb.block _ (lt_of_block KB1.out)).trans KB1.out)
    replace KB2 := Lib.hid ((hb.block _ (lt_of_block KB2.out)).trans KB2.out)
    replace KB3 := Lib.hid ((hb.block _ (lt_of_block KB3.out)).trans KB3.out)
    replace NDA := Lib.hid (NDA.out.below hb)
    replace NDB := Lib.hid (NDB.out.below hb)
    replace NDC := Lib.hid (NDC.out.below hb)
    clear he hN5 hb
    have NDD := NDD'
    clear NDD'
    have a10 := blk_cell KB1.out 0
    have a11 := blk_cell KB1.out 1
    have a12 := blk_cell KB1.out 2
    have al1 := lt_of_block KB1.out
    have a20 := blk_cell KB2.out 0
    have a21 := blk_cell KB2.out 1
    have a22 := blk_cell KB2.out 2
    have al2 := lt_of_block KB2.out
    go_wp2_with fail
    obtain ⟨w11, hw⟩ : ∃ p, p = w10.alloc (.cells #[.slice gD Lc.length cD, .int .i64 m, .int .i64 b] 24) := ⟨_, rfl⟩
    rw [← hw]
    have hb : Below w10.heap.size w10 w11 := by rw [hw]; exact below_box w10 _
    have hz11 : w11.heap.size = w10.heap.size + 1 := by rw [hw]; simp
    have KB4' := Lib.hid (show w11.heap[w10.heap.size]? = some (.cells #[.slice gD Lc.length cD, .int .i64 m, .int .i64 b] 24 (0, 0)) by rw [hw]; exact new_block w10 _)
    clear a10 a11 a12 al1 a20 a21 a22 al2
    have HB11 := Lib.hid (HB10.out.trans (hb.mono HB10.out.size))
    have hs11 := hb.size
    replace KB1 := Lib.hid ((hb.block _ (lt_of_block KB1.out)).trans KB1.out)
    replace KB2 := Lib.hid ((hb.block _ (lt_of_block KB2.out)).trans KB2.out)
    replace KB3 := Lib.hid ((hb.block _ (lt_of_block KB3.out)).trans KB3.out)
    replace NDA := Lib.hid (NDA.out.below hb)
    replace NDB := Lib.hid (NDB.out.below hb)
    replace NDC := Lib.hid (NDC.out.below hb)
    replace NDD := Lib.hid (NDD.out.below hb)
    clear hw hb
    have KB4 := KB4'
    clear KB4'
    refine (rsame5 _ _ _ _ _ _ La hla _ NDA.out NDB.out).mono ?_
    rintro e w12 ⟨rfl, hb⟩
    have HB12 := Lib.hid (HB11.out.trans (hb.mono HB11.out.size))
    have hs12 := hb.size
    replace KB1 := Lib.hid ((hb.block _ (lt_of_block KB1.out)).trans KB1.out)
    replace KB2 := Lib.hid ((hb.block _ (lt_of_block KB2.out)).trans KB2.out)
    replace KB3 := Lib.hid ((hb.block _ (lt_of_block KB3.out)).trans KB3.out)
    replace KB4 := Lib.hid ((hb.block _ (lt_of_block KB4.out)).trans KB4.out)
    replace NDA := Lib.hid (NDA.out.below hb)
    replace NDB := Lib.hid (NDB.out.below hb)
    replace NDC := Lib.hid (NDC.out.below hb)
    replace NDD := Lib.hid (NDD.out.below hb)
    clear hb
    have a30 := blk_cell KB3.out 0
    have a31 := blk_cell KB3.out 1
    have a32 := blk_cell KB3.out 2
    have al3 := lt_of_block KB3.out
    have a40 := blk_cell KB4.out 0
    have a41 := blk_cell KB4.out 1
    have a42 := blk_cell KB4.out 2
    have al4 := lt_of_block KB4.out
    go_wp2_with fail
    clear a30 a31 a32 al3 a40 a41 a42 al4
    refine (rsame5 _ _ _ _ _ _ Lc hlc _ NDC.out NDD.out).mono ?_
    rintro e w13 ⟨rfl, hb⟩
    have HB13 := Lib.hid (HB12.out.trans (hb.mono HB12.out.size))
    have hs13 := hb.size
    replace KB1 := Lib.hid ((hb.block _ (lt_of_block KB1.out)).trans KB1.out)
    replace KB2 := Lib.hid ((hb.block _ (lt_of_block KB2.out)).trans KB2.out)
    replace KB3 := Lib.hid ((hb.block _ (lt_of_block KB3.out)).trans KB3.out)
    replace KB4 := Lib.hid ((hb.block _ (lt_of_block KB4.out)).trans KB4.out)
    replace NDA := Lib.hid (NDA.out.below hb)
    replace NDB := Lib.hid (NDB.out.below hb)
    replace NDC := Lib.hid (NDC.out.below hb)
    replace NDD := Lib.hid (NDD.out.below hb)
    clear hb
    obtain ⟨q0, q1, q2⟩ := HX.out _ HB13.out
    have hq := cell_lt q0
    go_wp2_with fail
    clear q0 q1 q2 hq
    refine (lsymlink_any _ _ _ _ cwd to pb hp3 L HF.out Ls ks es HZS.out _ (HM.out _ HB13.out)).mono ?_
    rintro e w14 hmade
    obtain ⟨gS, cS, vS, rfl, hO, hb⟩ := MadeAns.three hmade
    have NDS' := Lib.hid hO.nodesIn
    have HB14 := Lib.hid (HB13.out.trans (hb.mono HB13.out.size))
    have hs14 := hb.size
    replace KB1 := Lib.hid ((hb.block _ (lt_of_block KB1.out)).trans KB1.out)
    replace KB2 := Lib.hid ((hb.block _ (lt_of_block KB2.out)).trans KB2.out)
    replace KB3 := Lib.hid ((hb.block _ (lt_of_block KB3.out)).trans KB3.out)
    replace KB4 := Lib.hid ((hb.block _ (lt_of_block KB4.out)).trans KB4.out)
    replace NDA := Lib.hid (NDA.out.below hb)
    replace NDB := Lib.hid (NDB.out.below hb)
    replace NDC := Lib.hid (NDC.out.below hb)
    replace NDD := Lib.hid (NDD.out.below hb)
    clear hmade hO hb
    have NDS := NDS'
    clear NDS'
    clear NDA
    obtain ⟨q0, q1, q2⟩ := HX.out _ HB14.out
    have hq := cell_lt q0
    have r0 := blk_cell KB1.out 0
    have r1 := blk_cell KB1.out 1
    have r2 := blk_cell KB1.out 2
    have f0 := blk_free KB1.out 0
    have f1 := blk_free KB1.out 1
    have f2 := blk_free KB1.out 2
    have hrl := lt_of_block KB1.out
    go_wp2_with fail
    obtain ⟨w15, hw⟩ : ∃ p, p = ((w14.setCell ⟨w4.heap.size, 0, none⟩ (.slice (some ⟨gS, 0, none⟩) Ls.length cS)).setCell ⟨w4.heap.size, 1, none⟩ (.int .i64 m)).setCell ⟨w4.heap.size, 2, none⟩ (.int .i64 b) := ⟨_, rfl⟩
    rw [← hw]
    have hwp : w15 = put3 w14 w4.heap.size (.slice (some ⟨gS, 0, none⟩) Ls.length cS) (.int .i64 m) (.int .i64 b) := hw
    have hz15 : w15.heap.size = w14.heap.size := by rw [hwp, put3_size]
    have HB15 := Lib.hid (show Below w2.heap.size w2 w15 by rw [hwp]; exact put3_below HB14.out (by omega) _ _ _)
    replace NDB := Lib.hid (show NodesIn w15 _ _ _ by rw [hwp]; exact nodes_box NDB.out KB1.out _ _ _)
    replace NDC := Lib.hid (show NodesIn w15 _ _ _ by rw [hwp]; exact nodes_box NDC.out KB1.out _ _ _)
    replace NDD := Lib.hid (show NodesIn w15 _ _ _ by rw [hwp]; exact nodes_box NDD.out KB1.out _ _ _)
    replace NDS := Lib.hid (show NodesIn w15 _ _ _ by rw [hwp]; exact nodes_box NDS.out KB1.out _ _ _)
    have hk := (put3_other (W := w14) (k := w4.heap.size) (j := w6.heap.size) (by omega) (.slice (some ⟨gS, 0, none⟩) Ls.length cS) (.int .i64 m) (.int .i64 b)).trans KB2.out
    rw [← hwp] at hk
    replace KB2 := Lib.hid hk
    clear hk
    have hk := (put3_other (W := w14) (k := w4.heap.size) (j := w8.heap.size) (by omega) (.slice (some ⟨gS, 0, none⟩) Ls.length cS) (.int .i64 m) (.int .i64 b)).trans KB3.out
    rw [← hwp] at hk
    replace KB3 := Lib.hid hk
    clear hk
    have hk := (put3_other (W := w14) (k := w4.heap.size) (j := w10.heap.size) (by omega) (.slice (some ⟨gS, 0, none⟩) Ls.length cS) (.int .i64 m) (.int .i64 b)).trans KB4.out
    rw [← hwp] at hk
    replace KB4 := Lib.hid hk
    clear hk
    have hk := put3_block KB1.out (.slice (some ⟨gS, 0, none⟩) Ls.length cS) (.int .i64 m) (.int .i64 b)
    rw [← hwp] at hk
    replace KB1 := Lib.hid hk
    clear hk
    clear hw hwp r0 r1 r2 f0 f1 f2 hrl q0 q1 q2 hq
    refine (rsymlink_any _ _ _ _ cwd ⟨to.toArray⟩ pb ht3 hp3 L HF.out Ls ks es HZS.out _ (HM.out _ HB15.out)).mono ?_
    rintro e w16 ⟨⟨gT, cT, he, hN5⟩, hb⟩
    have he' : e = .returned (.tuple #[.agg #[.slice gT Ls.length cT, .int .i64 m, .int .i64 b], .int .i64 ks, .int .i64 es]) := he
    subst he'
    have NDT' := Lib.hid hN5
    have HB16 := Lib.hid (HB15.out.trans (hb.mono HB15.out.size))
    have hs16 := hb.size
    replace KB1 := Lib.hid ((hb.block _ (lt_of_block KB1.out)).trans KB1.out)
    replace KB2 := Lib.hid ((hb.block _ (lt_of_block KB2.out)).trans KB2.out)
    replace KB3 := Lib.hid ((hb.block _ (lt_of_block KB3.out)).trans KB3.out)
    replace KB4 := Lib.hid ((hb.block _ (lt_of_block KB4.out)).trans KB4.out)
    replace NDB := Lib.hid (NDB.out.below hb)
    replace NDC := Lib.hid (NDC.out.below hb)
    replace NDD := Lib.hid (NDD.out.below hb)
    replace NDS := Lib.hid (NDS.out.below hb)
    clear he hN5 hb
    have NDT := NDT'
    clear NDT'
    clear NDB
    obtain ⟨q0, q1, q2⟩ := HX.out _ HB16.out
    have hq := cell_lt q0
    have r0 := blk_cell KB2.out 0
    have r1 := blk_cell KB2.out 1
    have r2 := blk_cell KB2.out 2
    have f0 := blk_free KB2.out 0
    have f1 := blk_free KB2.out 1
    have f2 := blk_free KB2.out 2
    have hrl := lt_of_block KB2.out
    go_wp2_with fail
    obtain ⟨w17, hw⟩ : ∃ p, p = ((w16.setCell ⟨w6.heap.size, 0, none⟩ (.slice gT Ls.length cT)).setCell ⟨w6.heap.size, 1, none⟩ (.int .i64 m)).setCell ⟨w6.heap.size, 2, none⟩ (.int .i64 b) := ⟨_, rfl⟩
    rw [← hw]
    have hwp : w17 = put3 w16 w6.heap.size (.slice gT Ls.length cT) (.int .i64 m) (.int .i64 b) := hw
    have hz17 : w17.heap.size = w16.heap.size := by rw [hwp, put3_size]
    have HB17 := Lib.hid (show Below w2.heap.size w2 w17 by rw [hwp]; exact put3_below HB16.out (by omega) _ _ _)
    replace NDC := Lib.hid (show NodesIn w17 _ _ _ by rw [hwp]; exact nodes_box NDC.out KB2.out _ _ _)
    replace NDD := Lib.hid (show NodesIn w17 _ _ _ by rw [hwp]; exact nodes_box NDD.out KB2.out _ _ _)
    replace NDS := Lib.hid (show NodesIn w17 _ _ _ by rw [hwp]; exact nodes_box NDS.out KB2.out _ _ _)
    replace NDT := Lib.hid (show NodesIn w17 _ _ _ by rw [hwp]; exact nodes_box NDT.out KB2.out _ _ _)
    have hk := (put3_other (W := w16) (k := w6.heap.size) (j := w4.heap.size) (by omega) (.slice gT Ls.length cT) (.int .i64 m) (.int .i64 b)).trans KB1.out
    rw [← hwp] at hk
    replace KB1 := Lib.hid hk
    clear hk
    have hk := (put3_other (W := w16) (k := w6.heap.size) (j := w8.heap.size) (by omega) (.slice gT Ls.length cT) (.int .i64 m) (.int .i64 b)).trans KB3.out
    rw [← hwp] at hk
    replace KB3 := Lib.hid hk
    clear hk
    have hk := (put3_other (W := w16) (k := w6.heap.size) (j := w10.heap.size) (by omega) (.slice gT Ls.length cT) (.int .i64 m) (.int .i64 b)).trans KB4.out
    rw [← hwp] at hk
    replace KB4 := Lib.hid hk
    clear hk
    have hk := put3_block KB2.out (.slice gT Ls.length cT) (.int .i64 m) (.int .i64 b)
    rw [← hwp] at hk
    replace KB2 := Lib.hid hk
    clear hk
    clear hw hwp r0 r1 r2 f0 f1 f2 hrl q0 q1 q2 hq
    refine (llink_any _ _ _ _ cwd ⟨to.toArray⟩ pb ht3 hp3 L HF.out Ll el HZL.out _ (HM.out _ HB17.out)).mono ?_
    rintro e w18 hmade
    obtain ⟨gK, cK, vK, rfl, hO, hb⟩ := MadeAns.two hmade
    have NDK' := Lib.hid hO.nodesIn
    have HB18 := Lib.hid (HB17.out.trans (hb.mono HB17.out.size))
    have hs18 := hb.size
    replace KB1 := Lib.hid ((hb.block _ (lt_of_block KB1.out)).trans KB1.out)
    replace KB2 := Lib.hid ((hb.block _ (lt_of_block KB2.out)).trans KB2.out)
    replace KB3 := Lib.hid ((hb.block _ (lt_of_block KB3.out)).trans KB3.out)
    replace KB4 := Lib.hid ((hb.block _ (lt_of_block KB4.out)).trans KB4.out)
    replace NDC := Lib.hid (NDC.out.below hb)
    replace NDD := Lib.hid (NDD.out.below hb)
    replace NDS := Lib.hid (NDS.out.below hb)
    replace NDT := Lib.hid (NDT.out.below hb)
    clear hmade hO hb
    have NDK := NDK'
    clear NDK'
    clear NDC
    obtain ⟨q0, q1, q2⟩ := HX.out _ HB18.out
    have hq := cell_lt q0
    have r0 := blk_cell KB3.out 0
    have r1 := blk_cell KB3.out 1
    have r2 := blk_cell KB3.out 2
    have f0 := blk_free KB3.out 0
    have f1 := blk_free KB3.out 1
    have f2 := blk_free KB3.out 2
    have hrl := lt_of_block KB3.out
    go_wp2_with fail
    obtain ⟨w19, hw⟩ : ∃ p, p = ((w18.setCell ⟨w8.heap.size, 0, none⟩ (.slice (some ⟨gK, 0, none⟩) Ll.length cK)).setCell ⟨w8.heap.size, 1, none⟩ (.int .i64 m)).setCell ⟨w8.heap.size, 2, none⟩ (.int .i64 b) := ⟨_, rfl⟩
    rw [← hw]
    have hwp : w19 = put3 w18 w8.heap.size (.slice (some ⟨gK, 0, none⟩) Ll.length cK) (.int .i64 m) (.int .i64 b) := hw
    have hz19 : w19.heap.size = w18.heap.size := by rw [hwp, put3_size]
    have HB19 := Lib.hid (show Below w2.heap.size w2 w19 by rw [hwp]; exact put3_below HB18.out (by omega) _ _ _)
    replace NDD := Lib.hid (show NodesIn w19 _ _ _ by rw [hwp]; exact nodes_box NDD.out KB3.out _ _ _)
    replace NDS := Lib.hid (show NodesIn w19 _ _ _ by rw [hwp]; exact nodes_box NDS.out KB3.out _ _ _)
    replace NDT := Lib.hid (show NodesIn w19 _ _ _ by rw [hwp]; exact nodes_box NDT.out KB3.out _ _ _)
    replace NDK := Lib.hid (show NodesIn w19 _ _ _ by rw [hwp]; exact nodes_box NDK.out KB3.out _ _ _)
    have hk := (put3_other (W := w18) (k := w8.heap.size) (j := w4.heap.size) (by omega) (.slice (some ⟨gK, 0, none⟩) Ll.length cK) (.int .i64 m) (.int .i64 b)).trans KB1.out
    rw [← hwp] at hk
    replace KB1 := Lib.hid hk
    clear hk
    have hk := (put3_other (W := w18) (k := w8.heap.size) (j := w6.heap.size) (by omega) (.slice (some ⟨gK, 0, none⟩) Ll.length cK) (.int .i64 m) (.int .i64 b)).trans KB2.out
    rw [← hwp] at hk
    replace KB2 := Lib.hid hk
    clear hk
    have hk := (put3_other (W := w18) (k := w8.heap.size) (j := w10.heap.size) (by omega) (.slice (some ⟨gK, 0, none⟩) Ll.length cK) (.int .i64 m) (.int .i64 b)).trans KB4.out
    rw [← hwp] at hk
    replace KB4 := Lib.hid hk
    clear hk
    have hk := put3_block KB3.out (.slice (some ⟨gK, 0, none⟩) Ll.length cK) (.int .i64 m) (.int .i64 b)
    rw [← hwp] at hk
    replace KB3 := Lib.hid hk
    clear hk
    clear hw hwp r0 r1 r2 f0 f1 f2 hrl q0 q1 q2 hq
    refine (rlink_any _ _ _ _ cwd ⟨to.toArray⟩ pb ht3 hp3 L HF.out Ll el HZL.out _ (HM.out _ HB19.out)).mono ?_
    rintro e w20 ⟨⟨gR, cR, he, hN5⟩, hb⟩
    have he' : e = .returned (.tuple #[.agg #[.slice gR Ll.length cR, .int .i64 m, .int .i64 b], .int .i64 el]) := he
    subst he'
    have NDR' := Lib.hid hN5
    have HB20 := Lib.hid (HB19.out.trans (hb.mono HB19.out.size))
    have hs20 := hb.size
    replace KB1 := Lib.hid ((hb.block _ (lt_of_block KB1.out)).trans KB1.out)
    replace KB2 := Lib.hid ((hb.block _ (lt_of_block KB2.out)).trans KB2.out)
    replace KB3 := Lib.hid ((hb.block _ (lt_of_block KB3.out)).trans KB3.out)
    replace KB4 := Lib.hid ((hb.block _ (lt_of_block KB4.out)).trans KB4.out)
    replace NDD := Lib.hid (NDD.out.below hb)
    replace NDS := Lib.hid (NDS.out.below hb)
    replace NDT := Lib.hid (NDT.out.below hb)
    replace NDK := Lib.hid (NDK.out.below hb)
    clear he hN5 hb
    have NDR := NDR'
    clear NDR'
    clear NDD
    obtain ⟨q0, q1, q2⟩ := HX.out _ HB20.out
    have hq := cell_lt q0
    have r0 := blk_cell KB4.out 0
    have r1 := blk_cell KB4.out 1
    have r2 := blk_cell KB4.out 2
    have f0 := blk_free KB4.out 0
    have f1 := blk_free KB4.out 1
    have f2 := blk_free KB4.out 2
    have hrl := lt_of_block KB4.out
    go_wp2_with fail
    obtain ⟨w21, hw⟩ : ∃ p, p = ((w20.setCell ⟨w10.heap.size, 0, none⟩ (.slice gR Ll.length cR)).setCell ⟨w10.heap.size, 1, none⟩ (.int .i64 m)).setCell ⟨w10.heap.size, 2, none⟩ (.int .i64 b) := ⟨_, rfl⟩
    rw [← hw]
    have hwp : w21 = put3 w20 w10.heap.size (.slice gR Ll.length cR) (.int .i64 m) (.int .i64 b) := hw
    have hz21 : w21.heap.size = w20.heap.size := by rw [hwp, put3_size]
    have HB21 := Lib.hid (show Below w2.heap.size w2 w21 by rw [hwp]; exact put3_below HB20.out (by omega) _ _ _)
    replace NDS := Lib.hid (show NodesIn w21 _ _ _ by rw [hwp]; exact nodes_box NDS.out KB4.out _ _ _)
    replace NDT := Lib.hid (show NodesIn w21 _ _ _ by rw [hwp]; exact nodes_box NDT.out KB4.out _ _ _)
    replace NDK := Lib.hid (show NodesIn w21 _ _ _ by rw [hwp]; exact nodes_box NDK.out KB4.out _ _ _)
    replace NDR := Lib.hid (show NodesIn w21 _ _ _ by rw [hwp]; exact nodes_box NDR.out KB4.out _ _ _)
    have hk := (put3_other (W := w20) (k := w10.heap.size) (j := w4.heap.size) (by omega) (.slice gR Ll.length cR) (.int .i64 m) (.int .i64 b)).trans KB1.out
    rw [← hwp] at hk
    replace KB1 := Lib.hid hk
    clear hk
    have hk := (put3_other (W := w20) (k := w10.heap.size) (j := w6.heap.size) (by omega) (.slice gR Ll.length cR) (.int .i64 m) (.int .i64 b)).trans KB2.out
    rw [← hwp] at hk
    replace KB2 := Lib.hid hk
    clear hk
    have hk := (put3_other (W := w20) (k := w10.heap.size) (j := w8.heap.size) (by omega) (.slice gR Ll.length cR) (.int .i64 m) (.int .i64 b)).trans KB3.out
    rw [← hwp] at hk
    replace KB3 := Lib.hid hk
    clear hk
    have hk := put3_block KB4.out (.slice gR Ll.length cR) (.int .i64 m) (.int .i64 b)
    rw [← hwp] at hk
    replace KB4 := Lib.hid hk
    clear hk
    clear hw hwp r0 r1 r2 f0 f1 f2 hrl q0 q1 q2 hq
    refine (lchmod_any _ _ _ _ cwd q pb hp3 L HF.out Lm em HZM.out _ (HM.out _ HB21.out)).mono ?_
    rintro e w22 hmade
    obtain ⟨gM, cM, vM, rfl, hO, hb⟩ := MadeAns.two hmade
    have NDM' := Lib.hid hO.nodesIn
    have HB22 := Lib.hid (HB21.out.trans (hb.mono HB21.out.size))
    have hs22 := hb.size
    replace KB1 := Lib.hid ((hb.block _ (lt_of_block KB1.out)).trans KB1.out)
    replace KB2 := Lib.hid ((hb.block _ (lt_of_block KB2.out)).trans KB2.out)
    replace KB3 := Lib.hid ((hb.block _ (lt_of_block KB3.out)).trans KB3.out)
    replace KB4 := Lib.hid ((hb.block _ (lt_of_block KB4.out)).trans KB4.out)
    replace NDS := Lib.hid (NDS.out.below hb)
    replace NDT := Lib.hid (NDT.out.below hb)
    replace NDK := Lib.hid (NDK.out.below hb)
    replace NDR := Lib.hid (NDR.out.below hb)
    clear hmade hO hb
    have NDM := NDM'
    clear NDM'
    obtain ⟨q0, q1, q2⟩ := HX.out _ HB22.out
    have hq := cell_lt q0
    go_wp2_with fail
    obtain ⟨w23, hw⟩ : ∃ p, p = w22.alloc (.cells #[.slice (some ⟨gM, 0, none⟩) Lm.length cM, .int .i64 m, .int .i64 b] 24) := ⟨_, rfl⟩
    rw [← hw]
    have hb : Below w22.heap.size w22 w23 := by rw [hw]; exact below_box w22 _
    have hz23 : w23.heap.size = w22.heap.size + 1 := by rw [hw]; simp
    have KB5' := Lib.hid (show w23.heap[w22.heap.size]? = some (.cells #[.slice (some ⟨gM, 0, none⟩) Lm.length cM, .int .i64 m, .int .i64 b] 24 (0, 0)) by rw [hw]; exact new_block w22 _)
    have HB23 := Lib.hid (HB22.out.trans (hb.mono HB22.out.size))
    have hs23 := hb.size
    replace KB1 := Lib.hid ((hb.block _ (lt_of_block KB1.out)).trans KB1.out)
    replace KB2 := Lib.hid ((hb.block _ (lt_of_block KB2.out)).trans KB2.out)
    replace KB3 := Lib.hid ((hb.block _ (lt_of_block KB3.out)).trans KB3.out)
    replace KB4 := Lib.hid ((hb.block _ (lt_of_block KB4.out)).trans KB4.out)
    replace NDS := Lib.hid (NDS.out.below hb)
    replace NDT := Lib.hid (NDT.out.below hb)
    replace NDK := Lib.hid (NDK.out.below hb)
    replace NDR := Lib.hid (NDR.out.below hb)
    replace NDM := Lib.hid (NDM.out.below hb)
    clear hw hb q0 q1 q2 hq
    have KB5 := KB5'
    clear KB5'
    refine (rchmod_any _ _ _ _ cwd q pb hp3 L HF.out Lm em HZM.out _ (HM.out _ HB23.out)).mono ?_
    rintro e w24 ⟨⟨gY, cY, he, hN5⟩, hb⟩
    have he' : e = .returned (.tuple #[.agg #[.slice gY Lm.length cY, .int .i64 m, .int .i64 b], .int .i64 em]) := he
    subst he'
    have NDY' := Lib.hid hN5
    have HB24 := Lib.hid (HB23.out.trans (hb.mono HB23.out.size))
    have hs24 := hb.size
    replace KB1 := Lib.hid ((hb.block _ (lt_of_block KB1.out)).trans KB1.out)
    replace KB2 := Lib.hid ((hb.block _ (lt_of_block KB2.out)).trans KB2.out)
    replace KB3 := Lib.hid ((hb.block _ (lt_of_block KB3.out)).trans KB3.out)
    replace KB4 := Lib.hid ((hb.block _ (lt_of_block KB4.out)).trans KB4.out)
    replace KB5 := Lib.hid ((hb.block _ (lt_of_block KB5.out)).trans KB5.out)
    replace NDS := Lib.hid (NDS.out.below hb)
    replace NDT := Lib.hid (NDT.out.below hb)
    replace NDK := Lib.hid (NDK.out.below hb)
    replace NDR := Lib.hid (NDR.out.below hb)
    replace NDM := Lib.hid (NDM.out.below hb)
    clear he hN5 hb
    have NDY := NDY'
    clear NDY'
    have a10 := blk_cell KB1.out 0
    have a11 := blk_cell KB1.out 1
    have a12 := blk_cell KB1.out 2
    have al1 := lt_of_block KB1.out
    have a20 := blk_cell KB2.out 0
    have a21 := blk_cell KB2.out 1
    have a22 := blk_cell KB2.out 2
    have al2 := lt_of_block KB2.out
    go_wp2_with fail
    obtain ⟨w25, hw⟩ : ∃ p, p = w24.alloc (.cells #[.slice gY Lm.length cY, .int .i64 m, .int .i64 b] 24) := ⟨_, rfl⟩
    rw [← hw]
    have hb : Below w24.heap.size w24 w25 := by rw [hw]; exact below_box w24 _
    have hz25 : w25.heap.size = w24.heap.size + 1 := by rw [hw]; simp
    have KB6' := Lib.hid (show w25.heap[w24.heap.size]? = some (.cells #[.slice gY Lm.length cY, .int .i64 m, .int .i64 b] 24 (0, 0)) by rw [hw]; exact new_block w24 _)
    clear a10 a11 a12 al1 a20 a21 a22 al2
    have HB25 := Lib.hid (HB24.out.trans (hb.mono HB24.out.size))
    have hs25 := hb.size
    replace KB1 := Lib.hid ((hb.block _ (lt_of_block KB1.out)).trans KB1.out)
    replace KB2 := Lib.hid ((hb.block _ (lt_of_block KB2.out)).trans KB2.out)
    replace KB3 := Lib.hid ((hb.block _ (lt_of_block KB3.out)).trans KB3.out)
    replace KB4 := Lib.hid ((hb.block _ (lt_of_block KB4.out)).trans KB4.out)
    replace KB5 := Lib.hid ((hb.block _ (lt_of_block KB5.out)).trans KB5.out)
    replace NDS := Lib.hid (NDS.out.below hb)
    replace NDT := Lib.hid (NDT.out.below hb)
    replace NDK := Lib.hid (NDK.out.below hb)
    replace NDR := Lib.hid (NDR.out.below hb)
    replace NDM := Lib.hid (NDM.out.below hb)
    replace NDY := Lib.hid (NDY.out.below hb)
    clear hw hb
    have KB6 := KB6'
    clear KB6'
    refine (rsame5 _ _ _ _ _ _ Ls hls _ NDS.out NDT.out).mono ?_
    rintro e w26 ⟨rfl, hb⟩
    have HB26 := Lib.hid (HB25.out.trans (hb.mono HB25.out.size))
    have hs26 := hb.size
    replace KB1 := Lib.hid ((hb.block _ (lt_of_block KB1.out)).trans KB1.out)
    replace KB2 := Lib.hid ((hb.block _ (lt_of_block KB2.out)).trans KB2.out)
    replace KB3 := Lib.hid ((hb.block _ (lt_of_block KB3.out)).trans KB3.out)
    replace KB4 := Lib.hid ((hb.block _ (lt_of_block KB4.out)).trans KB4.out)
    replace KB5 := Lib.hid ((hb.block _ (lt_of_block KB5.out)).trans KB5.out)
    replace KB6 := Lib.hid ((hb.block _ (lt_of_block KB6.out)).trans KB6.out)
    replace NDS := Lib.hid (NDS.out.below hb)
    replace NDT := Lib.hid (NDT.out.below hb)
    replace NDK := Lib.hid (NDK.out.below hb)
    replace NDR := Lib.hid (NDR.out.below hb)
    replace NDM := Lib.hid (NDM.out.below hb)
    replace NDY := Lib.hid (NDY.out.below hb)
    clear hb
    have a30 := blk_cell KB3.out 0
    have a31 := blk_cell KB3.out 1
    have a32 := blk_cell KB3.out 2
    have al3 := lt_of_block KB3.out
    have a40 := blk_cell KB4.out 0
    have a41 := blk_cell KB4.out 1
    have a42 := blk_cell KB4.out 2
    have al4 := lt_of_block KB4.out
    go_wp2_with fail
    clear a30 a31 a32 al3 a40 a41 a42 al4
    refine (rsame5 _ _ _ _ _ _ Ll hll _ NDK.out NDR.out).mono ?_
    rintro e w27 ⟨rfl, hb⟩
    have HB27 := Lib.hid (HB26.out.trans (hb.mono HB26.out.size))
    have hs27 := hb.size
    replace KB1 := Lib.hid ((hb.block _ (lt_of_block KB1.out)).trans KB1.out)
    replace KB2 := Lib.hid ((hb.block _ (lt_of_block KB2.out)).trans KB2.out)
    replace KB3 := Lib.hid ((hb.block _ (lt_of_block KB3.out)).trans KB3.out)
    replace KB4 := Lib.hid ((hb.block _ (lt_of_block KB4.out)).trans KB4.out)
    replace KB5 := Lib.hid ((hb.block _ (lt_of_block KB5.out)).trans KB5.out)
    replace KB6 := Lib.hid ((hb.block _ (lt_of_block KB6.out)).trans KB6.out)
    replace NDS := Lib.hid (NDS.out.below hb)
    replace NDT := Lib.hid (NDT.out.below hb)
    replace NDK := Lib.hid (NDK.out.below hb)
    replace NDR := Lib.hid (NDR.out.below hb)
    replace NDM := Lib.hid (NDM.out.below hb)
    replace NDY := Lib.hid (NDY.out.below hb)
    clear hb
    have a50 := blk_cell KB5.out 0
    have a51 := blk_cell KB5.out 1
    have a52 := blk_cell KB5.out 2
    have al5 := lt_of_block KB5.out
    have a60 := blk_cell KB6.out 0
    have a61 := blk_cell KB6.out 1
    have a62 := blk_cell KB6.out 2
    have al6 := lt_of_block KB6.out
    go_wp2_with fail
    clear a50 a51 a52 al5 a60 a61 a62 al6
    refine (rsame5 _ _ _ _ _ _ Lm hlm _ NDM.out NDY.out).mono ?_
    rintro e w28 ⟨rfl, hb⟩
    have HB28 := Lib.hid (HB27.out.trans (hb.mono HB27.out.size))
    have hs28 := hb.size
    replace KB1 := Lib.hid ((hb.block _ (lt_of_block KB1.out)).trans KB1.out)
    replace KB2 := Lib.hid ((hb.block _ (lt_of_block KB2.out)).trans KB2.out)
    replace KB3 := Lib.hid ((hb.block _ (lt_of_block KB3.out)).trans KB3.out)
    replace KB4 := Lib.hid ((hb.block _ (lt_of_block KB4.out)).trans KB4.out)
    replace KB5 := Lib.hid ((hb.block _ (lt_of_block KB5.out)).trans KB5.out)
    replace KB6 := Lib.hid ((hb.block _ (lt_of_block KB6.out)).trans KB6.out)
    replace NDS := Lib.hid (NDS.out.below hb)
    replace NDT := Lib.hid (NDT.out.below hb)
    replace NDK := Lib.hid (NDK.out.below hb)
    replace NDR := Lib.hid (NDR.out.below hb)
    replace NDM := Lib.hid (NDM.out.below hb)
    replace NDY := Lib.hid (NDY.out.below hb)
    clear hb
    go_wp2_with fail
    refine (awake5 _).mono ?_
    rintro e w29 ⟨rfl, hb⟩
    have HB29 := Lib.hid (HB28.out.trans (hb.mono HB28.out.size))
    clear hb
    go_wp2_with fail
    go_ret
    exact ⟨rfl, HEND.out _ HB29.out⟩


end Go.Proofs.YtfmaagcomplooaaGreat
