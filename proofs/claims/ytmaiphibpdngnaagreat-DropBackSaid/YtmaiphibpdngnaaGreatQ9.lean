/-
  What follows where Rename tells no error, in plain words.
  The law DropMoves, walked.
-/
import Derived.Test.YtmaiphibpdngnaaGreatK10
import Derived.Test.YtmaiphibpdngnaaGreatK9
import Derived.Deep.Cut
import Derived.Test.YtmaiphibpdngnaaGreatQ8
import Derived.Test.YtmaiphibpdngnaaGreatK1
import Derived.BigQuiet
namespace Go.Proofs.YtmaiphibpdngnaaGreat
set_option maxRecDepth 100000
open Go Go.RowKit

theorem usedN_mono : ∀ (A B : List Ino), A.length = B.length → (∀ i (h : i < A.length) (h' : i < B.length), A[i].kind ≠ 0 → B[i].kind ≠ 0) → usedN A ≤ usedN B
  | [], [], _, _ => Nat.le_refl _
  | [], _ :: _, h, _ => by cases h
  | _ :: _, [], h, _ => by cases h
  | x :: r, y :: q, h, hk => by
    have h1 := usedN_mono r q (Nat.succ.inj h) fun i hi hi' => hk (i + 1) (Nat.succ_lt_succ hi) (Nat.succ_lt_succ hi')
    have h2 := hk 0 (Nat.succ_pos _) (Nat.succ_pos _)
    simp only [List.getElem_cons_zero] at h2
    unfold usedN
    by_cases e : x.kind = 0
    · rw [if_pos e]
      split <;> omega
    · rw [if_neg e, if_neg (h2 e)]
      omega
theorem gone_used {L : List Ino} {d k : Nat} (hd : d < L.length) (hk : k < L.length) (s : List UInt8) : usedN (goneL L d k s) ≤ usedN L := by
  refine usedN_mono _ _ (gone_len ..) fun i h h' hne => ?_
  rw [gone_get hd hk s i h'] at hne
  by_cases e : k = i
  · subst e
    rw [if_pos rfl] at hne
    unfold goneIno at hne
    split at hne
    · exact absurd rfl hne
    · exact hne
  · rw [if_neg e] at hne
    by_cases e2 : d = i
    · subst e2
      rw [if_pos rfl] at hne
      exact hne
    · rw [if_neg e2] at hne
      exact hne
section
variable {L : List Ino} {m b : Int} {d k to : Nat} {s last : List UInt8}
theorem Moves.fewer (h : Moves L m b d k to s last) : usedN (moveL L d k to s last) ≤ usedN L := by
  refine usedN_mono _ _ (move_len ..) fun i hi h' hne => ?_
  rw [h.get i h'] at hne
  exact hne
theorem Moves.kidTo (h : Moves L m b d k to s last) : kidL (moveL L d k to s last) (to : Int) last = (k : Int) := by
  have ht : to < (moveL L d k to s last).length := by rw [move_len]; exact h.tlt
  have hm : (last, (k : Int)) ∈ (moveL L d k to s last)[to].kids := by
    rw [h.get to h.tlt]
    exact (h.mem_kids to h.tlt).2 (.inl ⟨rfl, rfl⟩)
  obtain ⟨i, hi, he⟩ := List.getElem_of_mem hm
  have := kid_of h.fits to ht i hi
  rw [he] at this
  exact this
theorem Moves.kidD (h : Moves L m b d k to s last) (hsl : ¬ (d = to ∧ s = last)) : kidL (moveL L d k to s last) (d : Int) s < 0 := by
  have hd : d < (moveL L d k to s last).length := by rw [move_len]; exact h.dlt
  refine Int.not_le.1 fun h0 => ?_
  have hm := kid_mem hd h0
  rw [h.get d h.dlt] at hm
  rcases (h.mem_kids d h.dlt).1 hm with ⟨e1, e2⟩ | ⟨-, e2⟩
  · exact hsl ⟨e1, congrArg Prod.fst e2⟩
  · exact e2 rfl rfl
theorem Moves.atK (h : Moves L m b d k to s last) : (nodeAt (moveL L d k to s last) (k : Int)).data = (nodeAt L (k : Int)).data ∧ (nodeAt (moveL L d k to s last) (k : Int)).kids = (nodeAt L (k : Int)).kids := by
  rw [h.node k h.klt, node_nat L k h.klt]
  refine ⟨rfl, ?_⟩
  show kidsM (L[k]'h.klt).kids d k to k s last = _
  unfold kidsM
  rw [if_neg h.tk, if_neg h.dk]
theorem gone_atK {L : List Ino} {d k j : Nat} (hd : d < L.length) (hk : k < L.length) (hj : j < L.length) (s : List UInt8) (h1 : j ≠ k) (h2 : j ≠ d) : nodeAt (goneL L d k s) (j : Int) = nodeAt L (j : Int) := by
  rw [gone_node hd hk s j hj, if_neg (fun e => h1 e.symm), if_neg (fun e => h2 e.symm), node_nat L j hj]
end
/-- What is asked behind a Rename that told no error. -/
structure MovedW (L L' : List Ino) (m b : Int) (cwd : Int) (old p : List UInt8) (d k : Nat) (s : List UInt8) (to : Nat) (last : List UInt8) (same : Bool) : Prop where
  nam : NameAt L m b cwd old d k s
  par : parentW L cwd p = ((to : Int), last, 0)
  tlt : to < L.length
  tdir : dirB L (to : Int) = true
  okL : nameOkL last = true
  fit : FitP L' m b
  len : L'.length = L.length
  kid : kidL L' (to : Int) last = (k : Int)
  used : usedN L' ≤ usedN L
  data : (nodeAt L' (k : Int)).data = (nodeAt L (k : Int)).data
  kids : (nodeAt L' (k : Int)).kids = (nodeAt L (k : Int)).kids
  yes : same = true → L' = L ∧ kidL L (to : Int) last = (k : Int)
  no : same = false → L' ≠ L ∧ ¬ (d = to ∧ s = last) ∧ kidL L (to : Int) last ≠ (k : Int) ∧ kidL L' (d : Int) s < 0
theorem rename_moved {L : List Ino} {m b : Int} (hF : FitP L m b) {cwd : Int} {old p : List UInt8} {L' : List Ino} (hz : renameW L cwd old p = (L', 0)) : ∃ d k s to last same, MovedW L L' m b cwd old p d k s to last same := by
  obtain ⟨d, k, s, to, last, hn, hp, ht, hdir, hok, hc⟩ := (rename_ok hF hz).1 rfl
  rcases hc with ⟨h1, rfl⟩ | ⟨tn, htl, htn, hne, hT, hM, rfl⟩ | ⟨h1, hM, rfl⟩
  · exact ⟨d, k, s, to, last, true, hn, hp, ht, hdir, hok, hF, rfl, h1, Nat.le_refl _, rfl, rfl, fun _ => ⟨rfl, h1⟩, (fun h => by cases h)⟩
  · have hsl : ¬ (d = to ∧ s = last) := fun ⟨e1, e2⟩ => by
      have h2 := hn.kid
      rw [e1, e2, htn] at h2
      exact hne (by omega)
    have hkne : kidL L (to : Int) last ≠ (k : Int) := by rw [htn]; omega
    have hg := gone_atK hT.dlt hT.klt hn.klt last (fun e => hne e.symm) (fun e => hM.tk e.symm)
    refine ⟨d, k, s, to, last, false, hn, hp, ht, hdir, hok, hM.fits, by rw [move_len, gone_len], hM.kidTo, Nat.le_trans hM.fewer (gone_used hT.dlt hT.klt last), by rw [hM.atK.1, hg], by rw [hM.atK.2, hg], (fun h => by cases h), fun _ => ⟨fun e => hkne ?_, hsl, hkne, hM.kidD hsl⟩⟩
    have h3 := hM.kidTo
    rw [e] at h3
    exact h3
  · have hsl : ¬ (d = to ∧ s = last) := fun ⟨e1, e2⟩ => by
      have h2 := hn.kid
      rw [e1, e2] at h2
      omega
    have hkne : kidL L (to : Int) last ≠ (k : Int) := by omega
    refine ⟨d, k, s, to, last, false, hn, hp, ht, hdir, hok, hM.fits, by rw [move_len], hM.kidTo, hM.fewer, hM.atK.1, hM.atK.2, (fun h => by cases h), fun _ => ⟨fun e => hkne ?_, hsl, hkne, hM.kidD hsl⟩⟩
    have h3 := hM.kidTo
    rw [e] at h3
    exact h3
end Go.Proofs.YtmaiphibpdngnaaGreat

namespace Go.Proofs.YtmaiphibpdngnaaGreat
set_option maxRecDepth 100000
open Go Go.RowKit

theorem rsame_val6 (a a' : Option Addr) (cap cap' : Nat) (m b : Int) (L M : List Ino) (hL : L.length ≤ 1000) (v : Bool) (hv : v = true ↔ L = M) (w : World) (hN : NodesIn w a cap L) (hN' : NodesIn w a' cap' M) :
    Calls Tryz.prog 16 #[.agg #[.slice a L.length cap, .int .i64 m, .int .i64 b], .agg #[.slice a' M.length cap', .int .i64 m, .int .i64 b]] w fun e w' => e = .returned (.bool v) ∧ Below w.heap.size w w' :=
  (rsame3_any a a' cap cap' m b m b L M hL w hN hN').mono fun e w' h => by
    obtain ⟨⟨v', he, hv'⟩, hb⟩ := h
    refine ⟨?_, hb⟩
    rw [he]
    have : v' = v := by
      rw [Bool.eq_iff_iff, hv', hv]
      exact ⟨fun e => congrArg Tre.nodes e, fun e => by rw [e]⟩
    rw [this]
theorem rfit_yes6 (a : Option Addr) (cap : Nat) (m b : Int) (L : List Ino) (hL : L.length ≤ 300) (hF : FitP L m b) (w : World) (hN : NodesIn w a cap L) :
    Calls Tryz.prog 18 #[.agg #[.slice a L.length cap, .int .i64 m, .int .i64 b]] w fun e w' => e = .returned (.bool true) ∧ Below w.heap.size w w' :=
  (rfit_any a cap m b L hL (sized_fit hF) w hN).mono fun e w' h => by
    obtain ⟨⟨v, he, hv⟩, hb⟩ := h
    exact ⟨by rw [he, hv.2 (ref_iff.2 hF)], hb⟩
theorem rparent6 (a : Option Addr) (cap : Nat) (m b cwd : Int) (pb : ByteArray) (hp : pb.size ≤ 1073741824) (L : List Ino) (hF : FitP L m b) (z : Int) (s : List UInt8) (e : Int) (h : parentW L cwd pb.data.toList = (z, s, e)) (w : World) (hN : NodesIn w a cap L) :
    Calls Tryz.prog 17 #[.agg #[.slice a L.length cap, .int .i64 m, .int .i64 b], .int .i64 cwd, .string pb] w fun r w' => r = .returned (.tuple #[.int .i64 z, .string ⟨s.toArray⟩, .int .i64 e]) ∧ Below w.heap.size w w' := by
  have := parent4_any a cap m b cwd pb hp L hF w hN
  rw [h] at this
  exact this

set_option maxHeartbeats 16000000 in
theorem dmoves_walk (a : Option Addr) (cap : Nat) (m b cwd : Int) (pb tb : ByteArray) (hpb : pb.size ≤ 281474976710656) (htb : tb.size ≤ 281474976710656) (L : List Ino) (hS : Sized L) (w : World) (hN : NodesIn w a cap L) :
    Calls Tryz.prog 5 #[.agg #[.slice a L.length cap, .int .i64 m, .int .i64 b], .int .i64 cwd, .string pb, .string tb] w fun e w' => e = .returned (.bool true) ∧ Below w.heap.size w w' := by
  obtain ⟨w1, hw1⟩ : ∃ w1, w1 = w.alloc (.cells #[.slice a L.length cap, .int .i64 m, .int .i64 b] 24) := ⟨_, rfl⟩
  have hb1 : Below w.heap.size w w1 := by rw [hw1]; exact below_box w _
  have hX : w1.heap[w.heap.size]? = some (.cells #[.slice a L.length cap, .int .i64 m, .int .i64 b] 24 (0, 0)) := by rw [hw1]; exact new_block w _
  have hs1 : w1.heap.size = w.heap.size + 1 := by rw [hw1]; simp
  have HB := Lib.hid hb1
  obtain ⟨w2, hw2⟩ : ∃ w2, w2 = w1.alloc (.cells #[.string pb, .string tb] 9) := ⟨_, rfl⟩
  have hb2 : Below w1.heap.size w1 w2 := by rw [hw2]; exact below_box w1 _
  have hs2 : w2.heap.size = w.heap.size + 2 := by rw [hw2, World.size_alloc, hs1]
  have hT2 : w2.heap[w.heap.size + 1]? = some (.cells #[.string pb, .string tb] 9 (0, 0)) := by rw [hw2, ← hs1]; exact new_block w1 _
  have HX := Lib.hid (show ∀ W, Below w2.heap.size w2 W → W.cell? ⟨w.heap.size, 0, none⟩ = some (.slice a L.length cap) ∧ W.cell? ⟨w.heap.size, 1, none⟩ = some (.int .i64 m) ∧ W.cell? ⟨w.heap.size, 2, none⟩ = some (.int .i64 b) from fun W hW => by
    have h := (hW.block w.heap.size (by omega)).trans ((hb2.block w.heap.size (by omega)).trans hX)
    exact ⟨blk_cell h 0, blk_cell h 1, blk_cell h 2⟩)
  have HEND := Lib.hid (show ∀ W', Below w2.heap.size w2 W' → Below w.heap.size w W' from fun W' h => HB.out.trans ((hb2.trans (h.mono (by omega))).mono (by omega)))
  have HM := Lib.hid (show ∀ W', Below w2.heap.size w2 W' → NodesIn W' a cap L from fun W' h => hN.below (HB.out.trans ((hb2.trans (h.mono (by omega))).mono (by omega))))
  have HS := Lib.hid hS
  have hgood := good6_any a cap m b L hS [pb, tb] (fun s hs => by
      simp only [List.mem_cons, List.not_mem_nil, or_false] at hs
      rcases hs with rfl | rfl
      · exact hpb
      · exact htb) (by simp) (w.heap.size + 1) 2 w2 (HM.out w2 (Below.refl _ _)) (fun i hi => by
      match i, hi with
      | 0, _ => exact blk_cell hT2 0
      | 1, _ => exact blk_cell hT2 1)
  have HGOOD := Lib.hid hgood
  clear hN hb1 hX hS hb2 hT2 hgood
  go_enter Tryz.func5, Tryz.ntmps5
  go_wp2_with fail
  rw [← hw1, ← hw2]
  clear hw1 hw2
  refine HGOOD.out.mono ?_
  rintro e w3 ⟨⟨v, rfl, hv⟩, hb3⟩
  have HV := Lib.hid hv
  have HB3 := Lib.hid hb3
  have hs3 := hb3.size
  obtain ⟨q0, q1, q2⟩ := HX.out _ hb3
  have hq := cell_lt q0
  clear hv hb3 HGOOD
  cases v with
  | false =>
    clear q0 q1 q2 hq
    go_wp2_with fail
    refine (awake6 _).mono ?_
    rintro e w4 ⟨rfl, hb4⟩
    have HB4 := Lib.hid (HB3.out.trans (hb4.mono hs3))
    clear hb4
    go_wp2_with fail
    go_ret
    exact ⟨rfl, HEND.out _ HB4.out⟩
  | true =>
    obtain ⟨hl, hF, hsz⟩ := HV.out rfl
    have HF := Lib.hid hF
    have hL0 : 0 < L.length := by have := hF.limits; obtain ⟨_, _, _, _, _⟩ := this; omega
    have hp3 : pb.size ≤ 1073741824 := by have := hsz pb (by simp); omega
    have ht3 : tb.size ≤ 1073741824 := by have := hsz tb (by simp); omega
    clear hsz hF HV HS
    have hw3 : w.heap.size + 2 ≤ w3.heap.size := by omega
    obtain ⟨⟨L', er⟩, hz⟩ : ∃ r, renameW L cwd pb.data.toList tb.data.toList = r := ⟨_, rfl⟩
    have HZ := Lib.hid hz
    clear hz
    go_wp2_with fail
    clear q0 q1 q2 hq
    refine (lrename_any _ _ _ _ cwd pb tb hp3 ht3 L HF.out L' er HZ.out _ (HM.out _ HB3.out)).mono ?_
    rintro e w4 ⟨⟨g', c', he, hN4⟩, hb⟩
    have he' : e = .returned (.tuple #[.agg #[.slice g' L'.length c', .int .i64 m, .int .i64 b], .int .i64 er]) := he
    subst he'
    have HB4 := Lib.hid (HB3.out.trans (hb.mono HB3.out.size))
    have HN4 := Lib.hid hN4
    have hs4 := hb.size
    clear he hN4 hb
    obtain ⟨q0, q1, q2⟩ := HX.out _ HB4.out
    have hq := cell_lt q0
    obtain ⟨w5, hw5⟩ : ∃ p, p = w4.alloc (.cells #[.slice g' L'.length c', .int .i64 m, .int .i64 b] 24) := ⟨_, rfl⟩
    have hb5 : Below w4.heap.size w4 w5 := by rw [hw5]; exact below_box w4 _
    have hU : w5.heap[w4.heap.size]? = some (.cells #[.slice g' L'.length c', .int .i64 m, .int .i64 b] 24 (0, 0)) := by rw [hw5]; exact new_block w4 _
    have hs5 : w4.heap.size + 1 ≤ w5.heap.size ∧ w5.heap.size ≤ w4.heap.size + 1 := by rw [hw5, World.size_alloc]; exact ⟨Nat.le_refl _, Nat.le_refl _⟩
    have HB5 := Lib.hid (HB4.out.trans (hb5.mono HB4.out.size))
    have HN5 := Lib.hid (HN4.out.below hb5)
    have HU := Lib.hid (show ∀ W, Below w5.heap.size w5 W → (W.cell? ⟨w4.heap.size, 0, none⟩ = some (.slice g' L'.length c') ∧ W.cell? ⟨w4.heap.size, 1, none⟩ = some (.int .i64 m) ∧ W.cell? ⟨w4.heap.size, 2, none⟩ = some (.int .i64 b)) ∧ NodesIn W g' c' L' from fun W hW => by
      have h := (hW.block w4.heap.size (by omega)).trans hU
      exact ⟨⟨blk_cell h 0, blk_cell h 1, blk_cell h 2⟩, HN5.out.below hW⟩)
    have HC5 := Lib.hid (Below.refl w5.heap.size w5)
    clear hb5 hU HN4
    by_cases h1 : er = 0
    case neg =>
      have hLL := (rename_ok HF.out HZ.out).2 h1
      subst hLL
      have hb1 : (er != 0) = true := by simpa using h1
      clear HZ
      go_upto_region 5 with fail
      rw [← hw5]
      clear hw5 q0 q1 q2 hq
      obtain ⟨q0, q1, q2⟩ := HX.out _ HB5.out
      have hq := cell_lt q0
      obtain ⟨u0, u1, u2⟩ := (HU.out _ HC5.out).1
      have hu := cell_lt u0

      go_wp2_with (first | (go_at_call 16; refine (rsame6 _ _ _ _ m b L' (by omega) _ (HM.out _ HB5.out) HN5.out).mono ?_; rintro e w6 ⟨rfl, hb⟩; have HB6 := Lib.hid (HB5.out.trans (hb.mono HB5.out.size)); clear hb) | (go_at_call 9; refine (awake6 _).mono ?_; rintro e w7 ⟨rfl, hb⟩; have HB7 := Lib.hid (HB6.out.trans (hb.mono HB6.out.size)); clear hb) | fail)
      go_ret
      exact ⟨by rfl, HEND.out _ HB7.out⟩
    subst h1
    obtain ⟨d, k, s, to, last, same, hm⟩ := rename_moved HF.out HZ.out
    have HMV := Lib.hid hm
    have hkl : k < L.length := hm.nam.klt
    have hll : L'.length = L.length := hm.len
    have hkl2 : k < L'.length := by omega
    have hL3 : L'.length ≤ 300 := by omega
    have hk0 : (0 : Int) ≤ (k : Int) := by omega
    have hkl1 : (k : Int) < (L.length : Int) := by omega
    have hkl1' : (k : Int) < (L'.length : Int) := by omega
    obtain ⟨xd, hxd⟩ : ∃ v, v = L[k].data := ⟨_, rfl⟩
    obtain ⟨K, hK⟩ : ∃ v, v = L[k].kids := ⟨_, rfl⟩
    have hxd' : L'[k].data = xd := by
      have h := hm.data
      rw [node_nat L' k hkl2, node_nat L k hkl] at h
      rw [h, hxd]
    have hK' : L'[k].kids = K := by
      have h := hm.kids
      rw [node_nat L' k hkl2, node_nat L k hkl] at h
      rw [h, hK]
    obtain ⟨bb, o, rfl, hx⟩ := (HM.out _ HB5.out).2.2 k hkl
    have hx3 := hx.data
    obtain ⟨xv, hx4, xa, xc, rfl, -, hxm, -⟩ := hx.kids
    rw [← hxd] at hx3
    rw [← hK] at hx4
    obtain ⟨gb, go, rfl, hy⟩ := HN5.out.2.2 k hkl2
    have hy3 := hy.data
    obtain ⟨yv, hy4, ya, yc, rfl, -, -, -⟩ := hy.kids
    rw [hxd'] at hy3
    rw [hK'] at hy4
    have HNODE := Lib.hid (show ∀ W, Below w5.heap.size w5 W → W.cell? ⟨bb, o + k * 6 + 3, none⟩ = some (.string ⟨xd.toArray⟩) ∧ W.cell? ⟨bb, o + k * 6 + 4, none⟩ = some (.slice xa K.length xc) ∧ W.cell? ⟨gb, go + k * 6 + 3, none⟩ = some (.string ⟨xd.toArray⟩) ∧ W.cell? ⟨gb, go + k * 6 + 4, none⟩ = some (.slice ya K.length yc) from fun W hW => ⟨cell_below hW hx3, cell_below hW hx4, cell_below hW hy3, cell_below hW hy4⟩)
    obtain ⟨n0, hn0⟩ : ∃ v, v = usedN L := ⟨_, rfl⟩
    obtain ⟨n1, hn1⟩ : ∃ v, v = usedN L' := ⟨_, rfl⟩
    have hnn : n1 ≤ n0 := by rw [hn0, hn1]; exact hm.used
    have hnni : ¬ ((n1 : Int) > (n0 : Int)) := by omega
    have HN0 := Lib.hid hn0
    have HN1 := Lib.hid hn1
    have HUB0 := Lib.hid (show usedB L ≤ 1048576 from by have := HF.out.limits; obtain ⟨_, _, _, l4, l5⟩ := this; omega)
    have HUB1 := Lib.hid (show usedB L' ≤ 1048576 from by have := hm.fit.limits; obtain ⟨_, _, _, l4, l5⟩ := this; omega)
    have HL3 := Lib.hid hL3
    have HLL := Lib.hid hll
    clear hm hxd hK hxd' hK' hx hx3 hx4 hxm hy hy3 hy4 hn0 hn1 hL3 hll HZ hkl2 hnn
    go_wp2_with fail
    rw [← hw5]
    clear hw5 q0 q1 q2 hq
    refine (rparent6 _ _ _ _ _ _ hp3 L HF.out _ _ _ HMV.out.nam.par _ (HM.out _ HB5.out)).mono ?_
    rintro e w6 ⟨rfl, hb⟩
    have HB6 := Lib.hid (HB5.out.trans (hb.mono HB5.out.size))
    have HC6 := Lib.hid (HC5.out.trans (hb.mono HC5.out.size))
    have hs6 := hb.size
    clear hb
    obtain ⟨q0, q1, q2⟩ := HX.out _ HB6.out
    have hq := cell_lt q0
    obtain ⟨u0, u1, u2⟩ := (HU.out _ HC6.out).1
    have hu := cell_lt u0
    go_wp2_with fail
    clear q0 q1 q2 hq u0 u1 u2 hu
    refine (rparent6 _ _ _ _ _ _ ht3 L HF.out _ _ _ HMV.out.par _ (HM.out _ HB6.out)).mono ?_
    rintro e w7 ⟨rfl, hb⟩
    have HB7 := Lib.hid (HB6.out.trans (hb.mono HB6.out.size))
    have HC7 := Lib.hid (HC6.out.trans (hb.mono HC6.out.size))
    have hs7 := hb.size
    clear hb
    obtain ⟨q0, q1, q2⟩ := HX.out _ HB7.out
    have hq := cell_lt q0
    obtain ⟨u0, u1, u2⟩ := (HU.out _ HC7.out).1
    have hu := cell_lt u0
    go_wp2_with fail
    clear q0 q1 q2 hq u0 u1 u2 hu
    refine (rkid_known _ _ _ _ _ _ L _ HMV.out.nam.kid _ (HM.out _ HB7.out)).mono ?_
    rintro e w8 ⟨rfl, hb⟩
    have HB8 := Lib.hid (HB7.out.trans (hb.mono HB7.out.size))
    have HC8 := Lib.hid (HC7.out.trans (hb.mono HC7.out.size))
    have hs8 := hb.size
    clear hb
    obtain ⟨q0, q1, q2⟩ := HX.out _ HB8.out
    have hq := cell_lt q0
    obtain ⟨u0, u1, u2⟩ := (HU.out _ HC8.out).1
    have hu := cell_lt u0
    go_wp2_with fail
    clear q0 q1 q2 hq u0 u1 u2 hu
    refine (rused_any _ _ _ _ L (by omega) (by have := HUB0.out; omega) _ (HM.out _ HB8.out)).mono ?_
    rintro e w9 ⟨rfl, hb⟩
    have HB9 := Lib.hid (HB8.out.trans (hb.mono HB8.out.size))
    have HC9 := Lib.hid (HC8.out.trans (hb.mono HC8.out.size))
    have hs9 := hb.size
    clear hb
    obtain ⟨q0, q1, q2⟩ := HX.out _ HB9.out
    have hq := cell_lt q0
    obtain ⟨u0, u1, u2⟩ := (HU.out _ HC9.out).1
    have hu := cell_lt u0
    rw [← HN0.out]
    go_wp2_with fail
    clear q0 q1 q2 hq u0 u1 u2 hu
    refine (rused_any _ _ _ _ L' (by have := HL3.out; omega) (by have := HUB1.out; omega) _ (HU.out _ HC9.out).2).mono ?_
    rintro e w10 ⟨rfl, hb⟩
    have HB10 := Lib.hid (HB9.out.trans (hb.mono HB9.out.size))
    have HC10 := Lib.hid (HC9.out.trans (hb.mono HC9.out.size))
    have hs10 := hb.size
    clear hb
    obtain ⟨q0, q1, q2⟩ := HX.out _ HB10.out
    have hq := cell_lt q0
    obtain ⟨u0, u1, u2⟩ := (HU.out _ HC10.out).1
    have hu := cell_lt u0
    rw [← HN1.out]
    obtain ⟨x3, x4, y3, y4⟩ := HNODE.out _ HC10.out
    have f0 := grown_cell q0
    have f1 := grown_cell q1
    have f2 := grown_cell q2
    have e0 := grown_cell u0
    have e1 := grown_cell u1
    have e2 := grown_cell u2
    have gx3 := grown_cell x3
    have gx4 := grown_cell x4
    have gy3 := grown_cell y3
    have gy4 := grown_cell y4
    have h1 : ∀ W, Below w10.heap.size w10 W → Calls Tryz.prog 18 #[.agg #[.slice (some ⟨gb, go, none⟩) L'.length c', .int .i64 m, .int .i64 b]] W fun e w' => e = .returned (.bool true) ∧ Below W.heap.size W w' := fun W hW => rfit_yes6 _ c' m b L' HL3.out HMV.out.fit W ((HU.out _ HC10.out).2.below hW)
    have h2 : ∀ W, Below w10.heap.size w10 W → Calls Tryz.prog 19 #[.agg #[.slice (some ⟨gb, go, none⟩) L'.length c', .int .i64 m, .int .i64 b], .int .i64 to, .string ⟨last.toArray⟩] W fun e w' => e = .returned (.int .i64 k) ∧ Below W.heap.size W w' := fun W hW => rkid_known _ c' m b to last L' k HMV.out.kid W ((HU.out _ HC10.out).2.below hW)
    have G1 := Lib.hid (grown_call (wb := w10) h1)
    have G2 := Lib.hid (grown_call (wb := w10) h2)
    clear q0 q1 q2 hq u0 u1 u2 hu x3 x4 y3 y4 h1 h2
    have hkd1 : decide ((k : Int) < 0) = false := decide_eq_false (by omega)
    have hkd2 : decide ((n1 : Int) > (n0 : Int)) = false := decide_eq_false (by omega)
    have hkd3 : decide ((n0 : Int) < (n1 : Int)) = false := decide_eq_false (by omega)
    have hkd4 : decide (n0 < n1) = false := decide_eq_false (by omega)
    go_upto_region 11 with fail
    go_cut [135] from 76 (fun c wx => c = .bool false ∧ Below w10.heap.size w10 wx)
    case first =>
      refine wp_region_grown (by kernel_rfl) (by kernel_rfl) ?_
      repeat (first | go_big_quiet_skip | (go_big_quiet_want; go_big_quiet_op; (first | go_big_quiet_on | (refine ⟨_, G1.out, ?_⟩; go_big_quiet_on) | (refine ⟨_, G2.out, ?_⟩; go_big_quiet_on))))
      refine wpQuiet_nil ?_
      intro w11 hw11
      have hbg : Below w10.heap.size w10 w11 := by obtain ⟨x, rfl⟩ := hw11; exact x.below
      go_wp2_with fail
      go_meet
      exact ⟨by simp, hbg⟩
    case rest =>
    obtain ⟨rfl, hbc⟩ := hcut
    obtain ⟨w11, hw11⟩ : ∃ X, X = wc := ⟨_, rfl⟩
    rw [← hw11] at hbc ⊢
    have HB11 := Lib.hid (HB10.out.trans (hbc.mono HB10.out.size))
    have HC11 := Lib.hid (HC10.out.trans (hbc.mono HC10.out.size))
    clear hbc hw11 f0 f1 f2 e0 e1 e2 gx3 gx4 gy3 gy4 G1 G2
    obtain ⟨q0, q1, q2⟩ := HX.out _ HB11.out
    have hq := cell_lt q0
    obtain ⟨u0, u1, u2⟩ := (HU.out _ HC11.out).1
    have hu := cell_lt u0
    go_upto_region 13 with fail
    go_cut [22] from 136 (fun c wx => c = .bool same ∧ Below w11.heap.size w11 wx)
    case first =>
      cases hsame : same with
      | true =>
        subst hsame
        have HKV := Lib.hid (HMV.out.yes rfl).2
        by_cases e1 : d = to
        · subst e1
          by_cases e2 : s = last
          · subst e2
            go_wp2_with fail
            go_meet
            exact ⟨by simp, Below.refl _ _⟩
          · have e2b : (s == last) = false := by simpa using e2
            go_wp2_with (first | (go_at_call 19; refine (rkid_known _ _ _ _ _ _ L _ HKV.out _ (HM.out _ HB11.out)).mono ?_; rintro e w12 ⟨rfl, hb⟩) | fail)
            go_meet
            exact ⟨by simp, hb⟩
        · have e1b : ((d : Int) == (to : Int)) = false := by simpa using (show (d : Int) ≠ to by omega)
          go_wp2_with (first | (go_at_call 19; refine (rkid_known _ _ _ _ _ _ L _ HKV.out _ (HM.out _ HB11.out)).mono ?_; rintro e w12 ⟨rfl, hb⟩) | fail)
          go_meet
          exact ⟨by simp, hb⟩
      | false =>
        subst hsame
        obtain ⟨-, hne, hkne, -⟩ := HMV.out.no rfl
        obtain ⟨kv, hkv⟩ : ∃ v, kidL L (to : Int) last = v := ⟨_, rfl⟩
        rw [hkv] at hkne
        have HKV := Lib.hid hkv
        have hkb : (kv == (k : Int)) = false := by simpa using hkne
        clear hkv hkne
        by_cases e1 : d = to
        · subst e1
          have e2 : s ≠ last := fun e => hne ⟨rfl, e⟩
          have e2b : (s == last) = false := by simpa using e2
          clear hne
          go_wp2_with (first | (go_at_call 19; refine (rkid_known _ _ _ _ _ _ L _ HKV.out _ (HM.out _ HB11.out)).mono ?_; rintro e w12 ⟨rfl, hb⟩) | fail)
          go_meet
          exact ⟨by simp, hb⟩
        · have e1b : ((d : Int) == (to : Int)) = false := by simpa using (show (d : Int) ≠ to by omega)
          clear hne
          go_wp2_with (first | (go_at_call 19; refine (rkid_known _ _ _ _ _ _ L _ HKV.out _ (HM.out _ HB11.out)).mono ?_; rintro e w12 ⟨rfl, hb⟩) | fail)
          go_meet
          exact ⟨by simp, hb⟩
    case rest =>
    obtain ⟨rfl, hbc⟩ := hcut
    obtain ⟨w12, hw12⟩ : ∃ X, X = wc := ⟨_, rfl⟩
    rw [← hw12] at hbc ⊢
    have HB12 := Lib.hid (HB11.out.trans (hbc.mono HB11.out.size))
    have HC12 := Lib.hid (HC11.out.trans (hbc.mono HC11.out.size))
    clear hbc hw12 q0 q1 q2 hq u0 u1 u2 hu
    obtain ⟨q0, q1, q2⟩ := HX.out _ HB12.out
    have hq := cell_lt q0
    obtain ⟨u0, u1, u2⟩ := (HU.out _ HC12.out).1
    have hu := cell_lt u0
    obtain ⟨kd, hkd⟩ : ∃ v, kidL L' (d : Int) s = v := ⟨_, rfl⟩
    have HKD := Lib.hid hkd
    have HSV := Lib.hid (show same = true ↔ L = L' by
      cases hsame : same with
      | true => exact ⟨fun _ => (HMV.out.yes hsame).1.symm, fun _ => rfl⟩
      | false => exact ⟨(fun h => by cases h), fun e => absurd e.symm (HMV.out.no hsame).1⟩)
    have HBZ := Lib.hid (Below.refl w12.heap.size w12)
    cases hsame : same with
    | true =>
      subst hsame
      clear hkd
      go_wp2_with (first | (go_at_call 16; refine (rsame_val6 _ _ _ _ m b L L' (by omega) _ HSV.out _ (HM.out _ HB12.out) (HU.out _ HC12.out).2).mono ?_; rintro e w13 ⟨rfl, hb⟩; have HBZ := Lib.hid (HBZ.out.trans (hb.mono HBZ.out.size)); clear hb) | (go_at_call 9; refine (awake6 _).mono ?_; rintro e w14 ⟨rfl, hb⟩; have HBZ := Lib.hid (HBZ.out.trans (hb.mono HBZ.out.size)); clear hb) | fail)
      go_ret
      exact ⟨by rfl, HEND.out _ (HB12.out.trans (HBZ.out.mono HB12.out.size))⟩
    | false =>
      subst hsame
      have hkd0 : kd < 0 := by rw [← hkd]; exact (HMV.out.no rfl).2.2.2
      clear hkd
      go_wp2_with (first | (go_at_call 16; refine (rsame_val6 _ _ _ _ m b L L' (by omega) _ HSV.out _ (HM.out _ HB12.out) (HU.out _ HC12.out).2).mono ?_; rintro e w13 ⟨rfl, hb⟩; have HBZ := Lib.hid (HBZ.out.trans (hb.mono HBZ.out.size)); clear hb; obtain ⟨u0, u1, u2⟩ := (HU.out _ (HC12.out.trans (HBZ.out.mono HC12.out.size))).1; have hu := cell_lt u0) | (go_at_call 19; refine (rkid_known _ _ _ _ _ _ L' _ HKD.out _ (HU.out _ (HC12.out.trans (HBZ.out.mono HC12.out.size))).2).mono ?_; rintro e w13 ⟨rfl, hb⟩; have HBZ := Lib.hid (HBZ.out.trans (hb.mono HBZ.out.size)); clear hb) | (go_at_call 9; refine (awake6 _).mono ?_; rintro e w14 ⟨rfl, hb⟩; have HBZ := Lib.hid (HBZ.out.trans (hb.mono HBZ.out.size)); clear hb) | fail)
      go_ret
      exact ⟨by rfl, HEND.out _ (HB12.out.trans (HBZ.out.mono HB12.out.size))⟩

end Go.Proofs.YtmaiphibpdngnaaGreat
