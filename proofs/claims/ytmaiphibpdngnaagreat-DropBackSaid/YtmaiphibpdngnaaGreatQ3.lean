/-
  The row of questions of the new name's place, of the landed code.
-/
import Derived.OrdersHeld
import Derived.Test.YtmaiphibpdngnaaGreatK10
namespace Go.Proofs.YtmaiphibpdngnaaGreat
set_option maxRecDepth 100000
open Go Go.RowKit

def plaA (Bt Bs Cth Cd Cc : Nat) (q1 q2 q3 q4 q5 : Bool) : List Ask := [⟨20, 85, #[.pointer (some ⟨Cth, 0, none⟩), .pointer (some ⟨Cd, 0, none⟩), .pointer (some ⟨Bt, 0, none⟩), .pointer (some ⟨Bs, 0, none⟩)], q1⟩,
  ⟨21, 86, #[.pointer (some ⟨Cth, 0, none⟩), .pointer (some ⟨Cd, 0, none⟩), .pointer (some ⟨Bt, 0, none⟩), .pointer (some ⟨Bs, 0, none⟩)], q2⟩,
  ⟨39, 87, #[.pointer (some ⟨Cth, 0, none⟩), .pointer (some ⟨Bt, 0, none⟩), .pointer (some ⟨Bs, 0, none⟩)], q3⟩,
  ⟨22, 88, #[.pointer (some ⟨Cth, 0, none⟩), .pointer (some ⟨Bs, 0, none⟩), .pointer (some ⟨Cc, 0, none⟩)], q4⟩,
  ⟨28, 89, #[.pointer (some ⟨Cth, 0, none⟩), .pointer (some ⟨Bt, 0, none⟩), .pointer (some ⟨Bs, 0, none⟩)], q5⟩]
def plaP (th dd td hk ic rm : Bool) : List (Int × Bool) := [(20, th && dd && !td), (21, th && !dd && td), (39, th && hk), (22, th && ic), (28, !th && rm)]
theorem four_boxes (w : World) (A B C D : Array Value) (s t u v : TypeId) : ∃ w2, w2 = (((w.alloc (.cells A s)).alloc (.cells B t)).alloc (.cells C u)).alloc (.cells D v) ∧ Below w.heap.size w w2 ∧ w2.heap.size = w.heap.size + 4 ∧ w2.heap[w.heap.size]? = some (.cells A s (0, 0)) ∧ w2.heap[w.heap.size + 1]? = some (.cells B t (0, 0)) ∧ w2.heap[w.heap.size + 2]? = some (.cells C u (0, 0)) ∧ w2.heap[w.heap.size + 3]? = some (.cells D v (0, 0)) := by
  obtain ⟨w1, e1, b1, s1, h1, h2, h3⟩ := three_boxes w A B C s t u
  refine ⟨w1.alloc (.cells D v), by rw [e1], b1.alloc (by omega) _, by rw [World.size_alloc, s1], ?_, ?_, ?_, ?_⟩
  · rw [Below.heap_alloc _ _ _ (by omega)]; exact h1
  · rw [Below.heap_alloc _ _ _ (by omega)]; exact h2
  · rw [Below.heap_alloc _ _ _ (by omega)]; exact h3
  · have := new_block w1 (.cells D v)
    rw [s1] at this
    exact this

set_option maxHeartbeats 8000000 in
theorem lpla_row (a : Option Addr) (cap : Nat) (m b c : Int) (L : List Ino) (z : Int) (s : List UInt8) (k : Int) (sl : Bool) (tn : Nat) (htn : tn < L.length) (last : List UInt8) (ino : Int) (sl2 : Bool) (th dd td hk : Bool) (kn : Nat) (hkl : kn < L.length) (hki : th = true → ino = (kn : Int)) (hth : (ino != -1) = th) (hdd : dirB L k = dd) (htd : dirB L ino = td) (hhk : decide (0 < (nodeAt L (kn : Int)).kids.length) = hk) (w : World) (hN : NodesIn w a cap L) :
    Calls Tryz.prog 48 #[.agg #[.slice a L.length cap, .int .i64 m, .int .i64 b], .int .i64 c, spotV z s k sl, spotV tn last ino sl2] w (RowAns (plaP th dd td hk (ino == c) (decide (1024 ≤ (nodeAt L (tn : Int)).kids.length))) w) := by
  obtain ⟨w2, hw2, hb2, hs2, hA, hC, hB, hD⟩ := four_boxes w #[.slice a L.length cap, .int .i64 m, .int .i64 b] #[.int .i64 c] #[.int .i64 z, .string ⟨s.toArray⟩, .int .i64 k, .bool sl] #[.int .i64 tn, .string ⟨last.toArray⟩, .int .i64 ino, .bool sl2] 24 3 62 62
  have HALL := Lib.hid (show ∀ W, Below w2.heap.size w2 W → TreeBx W w.heap.size a cap L.length m b ∧ SpotIn W (w.heap.size + 2) z s k sl ∧ SpotIn W (w.heap.size + 3) tn last ino sl2 from fun W hW => ⟨tree_block ((hW.block _ (by omega)).trans hA), spot_block ((hW.block _ (by omega)).trans hB), spot_block ((hW.block _ (by omega)).trans hD)⟩)
  have HNC := Lib.hid (show ∀ W, Below w2.heap.size w2 W → NodesIn W a cap L ∧ W.cell? ⟨w.heap.size + 1, 0, none⟩ = some (.int .i64 c) ∧ Below w.heap.size w W from fun W hW => ⟨hN.below (hb2.trans (hW.mono (by omega))), blk_cell ((hW.block _ (by omega)).trans hC) 0, hb2.trans (hW.mono (by omega))⟩)
  have HD := Lib.hid hdd
  have HTD := Lib.hid htd
  have HHK := Lib.hid hhk
  have HKI := Lib.hid hki
  have HS2 := Lib.hid hs2
  have hS0 := HALL.out w2.drew ⟨rfl, rfl, rfl, Nat.le_refl _, fun _ _ => rfl⟩
  have HB0 := Lib.hid (show Below w2.heap.size w2 w2.drew from ⟨rfl, rfl, rfl, Nat.le_refl _, fun _ _ => rfl⟩)
  clear hN hb2 hA hB hC hD hdd htd hhk hki
  unfold spotV
  have hmf : ∀ (fn : Fn) (first cap : Array Value) (w : World), (Instr.makeFunc fn first cap).run Tryz.prog w = .ok (.func fn first cap) w := fun _ _ _ _ => rfl
  go_enter Tryz.func48, Tryz.ntmps48
  go_wp2_with fail
  rw [← hw2]
  simp only [Nat.add_assoc, Nat.reduceAdd]
  clear hw2
  refine wp_region_held (S := fun W => TreeBx W w.heap.size a cap L.length m b ∧ SpotIn W (w.heap.size + 2) z s k sl ∧ SpotIn W (w.heap.size + 3) tn last ino sl2) (by kernel_rfl) ?_
  change wpAnyH _ _ _ _ _ _ _ _ w2.drew
  obtain ⟨w3, hw3⟩ : ∃ p, p = w2.drew := ⟨_, rfl⟩
  rw [← hw3] at hS0 HB0 ⊢
  have HS3 := Lib.hid (show w3.heap.size = w2.heap.size by rw [hw3]; rfl)
  clear hw3
  refine wpAnyH_take (i := 0) (v := ?_) rfl (by kernel_rfl) (by kernel_rfl) (by kernel_rfl) (fun _ _ _ h => h) (Or.inl ⟨by rfl, ?hy0⟩) hS0 ?rest0
  case hy0 => intro W' hSw; (obtain ⟨⟨q0, q1, q2⟩, ⟨x0, x1, x2, x3⟩, ⟨y0, y1, y2, y3⟩⟩ := hSw); go_simp <;> with_reducible rfl
  try simp only [Act.put, List.setIfInBounds_toArray]
  refine wpAnyH_take (i := 1) (v := ?_) rfl (by kernel_rfl) (by kernel_rfl) (by kernel_rfl) (fun _ _ _ h => h) (Or.inl ⟨by rfl, ?hy1⟩) hS0 ?rest1
  case hy1 => intro W' hSw; (obtain ⟨⟨q0, q1, q2⟩, ⟨x0, x1, x2, x3⟩, ⟨y0, y1, y2, y3⟩⟩ := hSw); go_simp <;> with_reducible rfl
  try simp only [Act.put]
  refine wpAnyH_take (i := 2) (v := ?_) rfl (by kernel_rfl) (by kernel_rfl) (by kernel_rfl) (fun _ _ _ h => h) (Or.inl ⟨by rfl, ?hy2⟩) hS0 ?rest2
  case hy2 => intro W' hSw; (obtain ⟨⟨q0, q1, q2⟩, ⟨x0, x1, x2, x3⟩, ⟨y0, y1, y2, y3⟩⟩ := hSw); go_simp <;> with_reducible rfl
  try simp only [Act.put]
  refine wpAnyH_take (i := 3) (v := ?_) rfl (by kernel_rfl) (by kernel_rfl) (by kernel_rfl) (fun _ _ _ h => h) (Or.inl ⟨by rfl, ?hy3⟩) hS0 ?rest3
  case hy3 => intro W' hSw; (obtain ⟨⟨q0, q1, q2⟩, ⟨x0, x1, x2, x3⟩, ⟨y0, y1, y2, y3⟩⟩ := hSw); go_simp <;> with_reducible rfl
  try simp only [Act.put]
  refine wpAnyH_take (i := 4) (v := ?_) rfl (by kernel_rfl) (by kernel_rfl) (by kernel_rfl) (fun _ _ _ h => h) (Or.inl ⟨by rfl, ?hy4⟩) hS0 ?rest4
  case hy4 => intro W' hSw; (obtain ⟨⟨q0, q1, q2⟩, ⟨x0, x1, x2, x3⟩, ⟨y0, y1, y2, y3⟩⟩ := hSw); go_simp <;> with_reducible rfl
  try simp only [Act.put]
  refine wpAnyH_take (i := 5) (v := ?_) rfl (by kernel_rfl) (by kernel_rfl) (by kernel_rfl) (fun _ _ _ h => h) (Or.inl ⟨by rfl, ?hy5⟩) hS0 ?rest5
  case hy5 => intro W' hSw; (obtain ⟨⟨q0, q1, q2⟩, ⟨x0, x1, x2, x3⟩, ⟨y0, y1, y2, y3⟩⟩ := hSw); go_simp <;> with_reducible rfl
  try simp only [Act.put]
  refine wpAnyH_ready (rs := [6, 7, 8]) (by kernel_rfl) (by simp) ?_
  refine AllReadyH.cons rfl (fun K hK => ?_) (AllReadyH.cons rfl (fun K hK => ?_) (AllReadyH.cons rfl (fun K hK => ?_) (AllReadyH.nil)))
  · go_simp
    refine (ldisdir_known a cap m b _ L _ HD.out _ (HNC.out _ HB0.out).1).mono ?_
    rintro e u4 ⟨rfl, hb⟩
    have HBNu4 := Lib.hid hb
    have HBu4 := Lib.hid (HB0.out.trans (hb.mono HB0.out.size))
    clear hb
    refine hK.out _ _ (HALL.out _ HBu4.out) (fun _ => ?_)
    clear hK K
    try simp only [Act.put]
    refine wpAnyH_ready (rs := [7, 8]) (by kernel_rfl) (by simp) ?_
    refine AllReadyH.cons rfl (fun K hK => ?_) (AllReadyH.cons rfl (fun K hK => ?_) (AllReadyH.nil))
    · go_simp
      obtain ⟨u5, hu⟩ : ∃ p, p = u4.alloc (.cells #[.bool false] 4) := ⟨_, rfl⟩
      rw [← hu]
      have HBNu5 := Lib.hid (show Below u4.heap.size u4 u5 by rw [hu]; exact below_box u4 _)
      have HBu5 := Lib.hid (HBu4.out.trans (HBNu5.out.mono HBu4.out.size))
      have HK7 := Lib.hid (show u5.heap[u4.heap.size]? = some (.cells #[.bool false] 4 (0, 0)) by rw [hu]; exact new_block u4 _)
      clear hu
      refine hK.out _ _ (HALL.out _ HBu5.out) (fun _ => ?_)
      clear hK K
      try simp only [Act.put]
      refine wpAnyH_ready (rs := [8]) (by kernel_rfl) (by simp) ?_
      refine AllReadyH.cons rfl (fun K hK => ?_) (AllReadyH.nil)
      · go_simp
        have hlt := lt_of_block HK7.out
        obtain ⟨u6, hu⟩ : ∃ p, p = u5.alloc (.cells #[.bool false] 4) := ⟨_, rfl⟩
        rw [← hu]
        have HBNu6 := Lib.hid (show Below u5.heap.size u5 u6 by rw [hu]; exact below_box u5 _)
        have HBu6 := Lib.hid (HBu5.out.trans (HBNu6.out.mono HBu5.out.size))
        have HK8 := Lib.hid (show u6.heap[u5.heap.size]? = some (.cells #[.bool false] 4 (0, 0)) by rw [hu]; exact new_block u5 _)
        clear hu
        have HK7 := Lib.hid ((HBNu6.out.block _ (lt_of_block HK7.out)).trans HK7.out)
        refine hK.out _ _ (HALL.out _ HBu6.out) (fun _ => ?_)
        clear hK K
        try simp only [Act.put]
        have e9 := lt_of_block HK7.out
        have e10 := lt_of_block HK8.out
        have g9 := HBu4.out.size
        have g10 := HBu5.out.size
        have hne : u4.heap.size ≠ u5.heap.size := by omega
        obtain ⟨B9, hB9⟩ : ∃ p, p = u4.heap.size := ⟨_, rfl⟩
        obtain ⟨B10, hB10⟩ : ∃ p, p = u5.heap.size := ⟨_, rfl⟩
        rw [← hB9] at HK7 e9 g9 hne ⊢
        rw [← hB10] at HK8 e10 g10 hne ⊢
        have hne' : ¬ B10 = B9 := fun e => hne e.symm
        clear hB9 hB10
        have r9 := blk_cell HK7.out 0
        have s9 := blk_free HK7.out 0
        have r10 := blk_cell HK8.out 0
        have s10 := blk_free HK8.out 0
        refine wpAnyH_ready (rs := [9]) (by kernel_rfl) (by simp) ?_
        refine AllReadyH.cons rfl (fun K hK => ?_) AllReadyH.nil
        go_simp
        obtain ⟨v9, hv9⟩ : ∃ p, p = u6.setCell ⟨B9, 0, none⟩ (.bool th) := ⟨_, rfl⟩
        rw [← hv9]
        have HBv9 := Lib.hid (show Below w2.heap.size w2 v9 by rw [hv9]; exact HBu6.out.setCell (p := ⟨B9, 0, none⟩) g9 _)
        have HL7 := Lib.hid (show v9.heap[B9]? = some (.cells #[.bool th] 4 (0, 0)) by rw [hv9]; exact blk_set HK7.out 0 _)
        have HL8 := Lib.hid (show v9.heap[B10]? = some (.cells #[.bool false] 4 (0, 0)) by rw [hv9]; exact (Below.heap_setCell _ _ _ _ hne').trans HK8.out)
        refine hK.out _ _ (HALL.out _ HBv9.out) (fun _ => ?_)
        clear hK K hv9 r9 s9 r10 s10 e9 e10
        try simp only [Act.put]
        have r10 := blk_cell HL8.out 0
        have s10 := blk_free HL8.out 0
        have e10 := lt_of_block HL8.out
        refine wpAnyH_ready (rs := [10]) (by kernel_rfl) (by simp) ?_
        refine AllReadyH.cons rfl (fun K hK => ?_) AllReadyH.nil
        go_simp
        obtain ⟨v10, hv10⟩ : ∃ p, p = v9.setCell ⟨B10, 0, none⟩ (.bool dd) := ⟨_, rfl⟩
        rw [← hv10]
        have HBv10 := Lib.hid (show Below w2.heap.size w2 v10 by rw [hv10]; exact HBv9.out.setCell (p := ⟨B10, 0, none⟩) g10 _)
        have HM7 := Lib.hid (show v10.heap[B9]? = some (.cells #[.bool th] 4 (0, 0)) by rw [hv10]; exact (Below.heap_setCell _ _ _ _ hne).trans HL7.out)
        have HM8 := Lib.hid (show v10.heap[B10]? = some (.cells #[.bool dd] 4 (0, 0)) by rw [hv10]; exact blk_set HL8.out 0 _)
        refine hK.out _ _ (HALL.out _ HBv10.out) (fun _ => ?_)
        clear hK K hv10 r10 s10 e10
        refine wpAnyH_done (by kernel_rfl) ?_ _
        go_wp2_with fail
        go_ret
        obtain ⟨v11, hv11⟩ : ∃ p, p = v10.alloc (.cells (askC (plaA w.heap.size (w.heap.size + 3) B9 B10 (w.heap.size + 1) (th && dd && !td) (th && !dd && td) (th && hk) (th && ino == c) (!th && decide (1024 ≤ (nodeAt L (tn : Int)).kids.length)))).toArray 66) := ⟨_, rfl⟩
        have hb11 : Below v10.heap.size v10 v11 := by rw [hv11]; exact below_box v10 _
        have hg11 : v11.heap[v10.heap.size]? = some (.cells (askC (plaA w.heap.size (w.heap.size + 3) B9 B10 (w.heap.size + 1) (th && dd && !td) (th && !dd && td) (th && hk) (th && ino == c) (!th && decide (1024 ≤ (nodeAt L (tn : Int)).kids.length)))).toArray 66 (0, 0)) := by rw [hv11]; exact new_block v10 _
        have hs11 := hb11.size
        have hX : ∀ W, Below v11.heap.size v11 W → (TreeBx W w.heap.size a cap L.length m b ∧ SpotIn W (w.heap.size + 2) z s k sl ∧ SpotIn W (w.heap.size + 3) tn last ino sl2) ∧ (NodesIn W a cap L ∧ W.cell? ⟨w.heap.size + 1, 0, none⟩ = some (.int .i64 c) ∧ Below w.heap.size w W) ∧ W.cell? ⟨B9, 0, none⟩ = some (.bool th) ∧ W.cell? ⟨B10, 0, none⟩ = some (.bool dd) := fun W hW => by
          have h1 : Below v10.heap.size v10 W := hb11.trans (hW.mono hs11)
          have h2 := HBv10.out.trans (h1.mono HBv10.out.size)
          exact ⟨HALL.out W h2, HNC.out W h2, blk_cell ((h1.block _ (lt_of_block HM7.out)).trans HM7.out) 0, blk_cell ((h1.block _ (lt_of_block HM8.out)).trans HM8.out) 0⟩
        refine ⟨v10.heap.size, plaA w.heap.size (w.heap.size + 3) B9 B10 (w.heap.size + 1) (th && dd && !td) (th && !dd && td) (th && hk) (th && ino == c) (!th && decide (1024 ≤ (nodeAt L (tn : Int)).kids.length)), rfl, rfl, show 5 ≤ 10 by decide, ?_, fun i hi => ?_, fun i hi => ?_⟩
        · have h := (hX _ (Below.refl _ _)).2.1.2.2
          exact hv11 ▸ h
        · exact ask_block (t := 66) (hv11 ▸ hg11) i hi
        · rw [hv11] at hX
          have hi3 : i < 5 := hi
          match i, hi3 with
          | 0, _ => exact ⟨enters_of Tryz.func85 (by kernel_rfl) rfl, fun V hV => cpla1 _ th _ dd _ _ _ _ _ _ _ _ _ _ _ V (hX V hV).2.2.1 (hX V hV).2.2.2 (hX V hV).1.1 (hX V hV).2.1.1 (hX V hV).1.2.2 td HTD.out⟩
          | 1, _ => exact ⟨enters_of Tryz.func86 (by kernel_rfl) rfl, fun V hV => cpla2 _ th _ dd _ _ _ _ _ _ _ _ _ _ _ V (hX V hV).2.2.1 (hX V hV).2.2.2 (hX V hV).1.1 (hX V hV).2.1.1 (hX V hV).1.2.2 td HTD.out⟩
          | 2, _ => exact ⟨enters_of Tryz.func87 (by kernel_rfl) rfl, fun V hV => cpla3 _ th _ _ _ _ _ _ _ _ _ _ _ kn HKI.out hkl V (hX V hV).2.2.1 (hX V hV).1.1 (hX V hV).2.1.1 (hX V hV).1.2.2 hk HHK.out⟩
          | 3, _ => exact ⟨enters_of Tryz.func88 (by kernel_rfl) rfl, fun V hV => cpla4 _ th _ _ _ _ _ _ _ V (hX V hV).2.2.1 (hX V hV).1.2.2 (hX V hV).2.1.2.1⟩
          | 4, _ => exact ⟨enters_of Tryz.func89 (by kernel_rfl) rfl, fun V hV => cpla5 _ th _ _ _ _ _ _ _ tn _ _ _ htn V (hX V hV).2.2.1 (hX V hV).1.1 (hX V hV).2.1.1 (hX V hV).1.2.2⟩
    · go_simp
      obtain ⟨u5, hu⟩ : ∃ p, p = u4.alloc (.cells #[.bool false] 4) := ⟨_, rfl⟩
      rw [← hu]
      have HBNu5 := Lib.hid (show Below u4.heap.size u4 u5 by rw [hu]; exact below_box u4 _)
      have HBu5 := Lib.hid (HBu4.out.trans (HBNu5.out.mono HBu4.out.size))
      have HK8 := Lib.hid (show u5.heap[u4.heap.size]? = some (.cells #[.bool false] 4 (0, 0)) by rw [hu]; exact new_block u4 _)
      clear hu
      refine hK.out _ _ (HALL.out _ HBu5.out) (fun _ => ?_)
      clear hK K
      try simp only [Act.put]
      refine wpAnyH_ready (rs := [7]) (by kernel_rfl) (by simp) ?_
      refine AllReadyH.cons rfl (fun K hK => ?_) (AllReadyH.nil)
      · go_simp
        have hlt := lt_of_block HK8.out
        obtain ⟨u6, hu⟩ : ∃ p, p = u5.alloc (.cells #[.bool false] 4) := ⟨_, rfl⟩
        rw [← hu]
        have HBNu6 := Lib.hid (show Below u5.heap.size u5 u6 by rw [hu]; exact below_box u5 _)
        have HBu6 := Lib.hid (HBu5.out.trans (HBNu6.out.mono HBu5.out.size))
        have HK7 := Lib.hid (show u6.heap[u5.heap.size]? = some (.cells #[.bool false] 4 (0, 0)) by rw [hu]; exact new_block u5 _)
        clear hu
        have HK8 := Lib.hid ((HBNu6.out.block _ (lt_of_block HK8.out)).trans HK8.out)
        refine hK.out _ _ (HALL.out _ HBu6.out) (fun _ => ?_)
        clear hK K
        try simp only [Act.put]
        have e9 := lt_of_block HK7.out
        have e10 := lt_of_block HK8.out
        have g9 := HBu5.out.size
        have g10 := HBu4.out.size
        have hne : u5.heap.size ≠ u4.heap.size := by omega
        obtain ⟨B9, hB9⟩ : ∃ p, p = u5.heap.size := ⟨_, rfl⟩
        obtain ⟨B10, hB10⟩ : ∃ p, p = u4.heap.size := ⟨_, rfl⟩
        rw [← hB9] at HK7 e9 g9 hne ⊢
        rw [← hB10] at HK8 e10 g10 hne ⊢
        have hne' : ¬ B10 = B9 := fun e => hne e.symm
        clear hB9 hB10
        have r9 := blk_cell HK7.out 0
        have s9 := blk_free HK7.out 0
        have r10 := blk_cell HK8.out 0
        have s10 := blk_free HK8.out 0
        refine wpAnyH_ready (rs := [9]) (by kernel_rfl) (by simp) ?_
        refine AllReadyH.cons rfl (fun K hK => ?_) AllReadyH.nil
        go_simp
        obtain ⟨v9, hv9⟩ : ∃ p, p = u6.setCell ⟨B9, 0, none⟩ (.bool th) := ⟨_, rfl⟩
        rw [← hv9]
        have HBv9 := Lib.hid (show Below w2.heap.size w2 v9 by rw [hv9]; exact HBu6.out.setCell (p := ⟨B9, 0, none⟩) g9 _)
        have HL7 := Lib.hid (show v9.heap[B9]? = some (.cells #[.bool th] 4 (0, 0)) by rw [hv9]; exact blk_set HK7.out 0 _)
        have HL8 := Lib.hid (show v9.heap[B10]? = some (.cells #[.bool false] 4 (0, 0)) by rw [hv9]; exact (Below.heap_setCell _ _ _ _ hne').trans HK8.out)
        refine hK.out _ _ (HALL.out _ HBv9.out) (fun _ => ?_)
        clear hK K hv9 r9 s9 r10 s10 e9 e10
        try simp only [Act.put]
        have r10 := blk_cell HL8.out 0
        have s10 := blk_free HL8.out 0
        have e10 := lt_of_block HL8.out
        refine wpAnyH_ready (rs := [10]) (by kernel_rfl) (by simp) ?_
        refine AllReadyH.cons rfl (fun K hK => ?_) AllReadyH.nil
        go_simp
        obtain ⟨v10, hv10⟩ : ∃ p, p = v9.setCell ⟨B10, 0, none⟩ (.bool dd) := ⟨_, rfl⟩
        rw [← hv10]
        have HBv10 := Lib.hid (show Below w2.heap.size w2 v10 by rw [hv10]; exact HBv9.out.setCell (p := ⟨B10, 0, none⟩) g10 _)
        have HM7 := Lib.hid (show v10.heap[B9]? = some (.cells #[.bool th] 4 (0, 0)) by rw [hv10]; exact (Below.heap_setCell _ _ _ _ hne).trans HL7.out)
        have HM8 := Lib.hid (show v10.heap[B10]? = some (.cells #[.bool dd] 4 (0, 0)) by rw [hv10]; exact blk_set HL8.out 0 _)
        refine hK.out _ _ (HALL.out _ HBv10.out) (fun _ => ?_)
        clear hK K hv10 r10 s10 e10
        refine wpAnyH_done (by kernel_rfl) ?_ _
        go_wp2_with fail
        go_ret
        obtain ⟨v11, hv11⟩ : ∃ p, p = v10.alloc (.cells (askC (plaA w.heap.size (w.heap.size + 3) B9 B10 (w.heap.size + 1) (th && dd && !td) (th && !dd && td) (th && hk) (th && ino == c) (!th && decide (1024 ≤ (nodeAt L (tn : Int)).kids.length)))).toArray 66) := ⟨_, rfl⟩
        have hb11 : Below v10.heap.size v10 v11 := by rw [hv11]; exact below_box v10 _
        have hg11 : v11.heap[v10.heap.size]? = some (.cells (askC (plaA w.heap.size (w.heap.size + 3) B9 B10 (w.heap.size + 1) (th && dd && !td) (th && !dd && td) (th && hk) (th && ino == c) (!th && decide (1024 ≤ (nodeAt L (tn : Int)).kids.length)))).toArray 66 (0, 0)) := by rw [hv11]; exact new_block v10 _
        have hs11 := hb11.size
        have hX : ∀ W, Below v11.heap.size v11 W → (TreeBx W w.heap.size a cap L.length m b ∧ SpotIn W (w.heap.size + 2) z s k sl ∧ SpotIn W (w.heap.size + 3) tn last ino sl2) ∧ (NodesIn W a cap L ∧ W.cell? ⟨w.heap.size + 1, 0, none⟩ = some (.int .i64 c) ∧ Below w.heap.size w W) ∧ W.cell? ⟨B9, 0, none⟩ = some (.bool th) ∧ W.cell? ⟨B10, 0, none⟩ = some (.bool dd) := fun W hW => by
          have h1 : Below v10.heap.size v10 W := hb11.trans (hW.mono hs11)
          have h2 := HBv10.out.trans (h1.mono HBv10.out.size)
          exact ⟨HALL.out W h2, HNC.out W h2, blk_cell ((h1.block _ (lt_of_block HM7.out)).trans HM7.out) 0, blk_cell ((h1.block _ (lt_of_block HM8.out)).trans HM8.out) 0⟩
        refine ⟨v10.heap.size, plaA w.heap.size (w.heap.size + 3) B9 B10 (w.heap.size + 1) (th && dd && !td) (th && !dd && td) (th && hk) (th && ino == c) (!th && decide (1024 ≤ (nodeAt L (tn : Int)).kids.length)), rfl, rfl, show 5 ≤ 10 by decide, ?_, fun i hi => ?_, fun i hi => ?_⟩
        · have h := (hX _ (Below.refl _ _)).2.1.2.2
          exact hv11 ▸ h
        · exact ask_block (t := 66) (hv11 ▸ hg11) i hi
        · rw [hv11] at hX
          have hi3 : i < 5 := hi
          match i, hi3 with
          | 0, _ => exact ⟨enters_of Tryz.func85 (by kernel_rfl) rfl, fun V hV => cpla1 _ th _ dd _ _ _ _ _ _ _ _ _ _ _ V (hX V hV).2.2.1 (hX V hV).2.2.2 (hX V hV).1.1 (hX V hV).2.1.1 (hX V hV).1.2.2 td HTD.out⟩
          | 1, _ => exact ⟨enters_of Tryz.func86 (by kernel_rfl) rfl, fun V hV => cpla2 _ th _ dd _ _ _ _ _ _ _ _ _ _ _ V (hX V hV).2.2.1 (hX V hV).2.2.2 (hX V hV).1.1 (hX V hV).2.1.1 (hX V hV).1.2.2 td HTD.out⟩
          | 2, _ => exact ⟨enters_of Tryz.func87 (by kernel_rfl) rfl, fun V hV => cpla3 _ th _ _ _ _ _ _ _ _ _ _ _ kn HKI.out hkl V (hX V hV).2.2.1 (hX V hV).1.1 (hX V hV).2.1.1 (hX V hV).1.2.2 hk HHK.out⟩
          | 3, _ => exact ⟨enters_of Tryz.func88 (by kernel_rfl) rfl, fun V hV => cpla4 _ th _ _ _ _ _ _ _ V (hX V hV).2.2.1 (hX V hV).1.2.2 (hX V hV).2.1.2.1⟩
          | 4, _ => exact ⟨enters_of Tryz.func89 (by kernel_rfl) rfl, fun V hV => cpla5 _ th _ _ _ _ _ _ _ tn _ _ _ htn V (hX V hV).2.2.1 (hX V hV).1.1 (hX V hV).2.1.1 (hX V hV).1.2.2⟩
  · go_simp
    obtain ⟨u4, hu⟩ : ∃ p, p = w3.alloc (.cells #[.bool false] 4) := ⟨_, rfl⟩
    rw [← hu]
    have HBNu4 := Lib.hid (show Below w3.heap.size w3 u4 by rw [hu]; exact below_box w3 _)
    have HBu4 := Lib.hid (HB0.out.trans (HBNu4.out.mono HB0.out.size))
    have HK7 := Lib.hid (show u4.heap[w3.heap.size]? = some (.cells #[.bool false] 4 (0, 0)) by rw [hu]; exact new_block w3 _)
    clear hu
    refine hK.out _ _ (HALL.out _ HBu4.out) (fun _ => ?_)
    clear hK K
    try simp only [Act.put]
    refine wpAnyH_ready (rs := [6, 8]) (by kernel_rfl) (by simp) ?_
    refine AllReadyH.cons rfl (fun K hK => ?_) (AllReadyH.cons rfl (fun K hK => ?_) (AllReadyH.nil))
    · go_simp
      refine (ldisdir_known a cap m b _ L _ HD.out _ (HNC.out _ HBu4.out).1).mono ?_
      rintro e u5 ⟨rfl, hb⟩
      have HBNu5 := Lib.hid hb
      have HBu5 := Lib.hid (HBu4.out.trans (hb.mono HBu4.out.size))
      clear hb
      have HK7 := Lib.hid ((HBNu5.out.block _ (lt_of_block HK7.out)).trans HK7.out)
      refine hK.out _ _ (HALL.out _ HBu5.out) (fun _ => ?_)
      clear hK K
      try simp only [Act.put]
      refine wpAnyH_ready (rs := [8]) (by kernel_rfl) (by simp) ?_
      refine AllReadyH.cons rfl (fun K hK => ?_) (AllReadyH.nil)
      · go_simp
        have hlt := lt_of_block HK7.out
        obtain ⟨u6, hu⟩ : ∃ p, p = u5.alloc (.cells #[.bool false] 4) := ⟨_, rfl⟩
        rw [← hu]
        have HBNu6 := Lib.hid (show Below u5.heap.size u5 u6 by rw [hu]; exact below_box u5 _)
        have HBu6 := Lib.hid (HBu5.out.trans (HBNu6.out.mono HBu5.out.size))
        have HK8 := Lib.hid (show u6.heap[u5.heap.size]? = some (.cells #[.bool false] 4 (0, 0)) by rw [hu]; exact new_block u5 _)
        clear hu
        have HK7 := Lib.hid ((HBNu6.out.block _ (lt_of_block HK7.out)).trans HK7.out)
        refine hK.out _ _ (HALL.out _ HBu6.out) (fun _ => ?_)
        clear hK K
        try simp only [Act.put]
        have e9 := lt_of_block HK7.out
        have e10 := lt_of_block HK8.out
        have g9 := HB0.out.size
        have g10 := HBu5.out.size
        have hne : w3.heap.size ≠ u5.heap.size := by omega
        obtain ⟨B9, hB9⟩ : ∃ p, p = w3.heap.size := ⟨_, rfl⟩
        obtain ⟨B10, hB10⟩ : ∃ p, p = u5.heap.size := ⟨_, rfl⟩
        rw [← hB9] at HK7 e9 g9 hne ⊢
        rw [← hB10] at HK8 e10 g10 hne ⊢
        have hne' : ¬ B10 = B9 := fun e => hne e.symm
        clear hB9 hB10
        have r9 := blk_cell HK7.out 0
        have s9 := blk_free HK7.out 0
        have r10 := blk_cell HK8.out 0
        have s10 := blk_free HK8.out 0
        refine wpAnyH_ready (rs := [9]) (by kernel_rfl) (by simp) ?_
        refine AllReadyH.cons rfl (fun K hK => ?_) AllReadyH.nil
        go_simp
        obtain ⟨v9, hv9⟩ : ∃ p, p = u6.setCell ⟨B9, 0, none⟩ (.bool th) := ⟨_, rfl⟩
        rw [← hv9]
        have HBv9 := Lib.hid (show Below w2.heap.size w2 v9 by rw [hv9]; exact HBu6.out.setCell (p := ⟨B9, 0, none⟩) g9 _)
        have HL7 := Lib.hid (show v9.heap[B9]? = some (.cells #[.bool th] 4 (0, 0)) by rw [hv9]; exact blk_set HK7.out 0 _)
        have HL8 := Lib.hid (show v9.heap[B10]? = some (.cells #[.bool false] 4 (0, 0)) by rw [hv9]; exact (Below.heap_setCell _ _ _ _ hne').trans HK8.out)
        refine hK.out _ _ (HALL.out _ HBv9.out) (fun _ => ?_)
        clear hK K hv9 r9 s9 r10 s10 e9 e10
        try simp only [Act.put]
        have r10 := blk_cell HL8.out 0
        have s10 := blk_free HL8.out 0
        have e10 := lt_of_block HL8.out
        refine wpAnyH_ready (rs := [10]) (by kernel_rfl) (by simp) ?_
        refine AllReadyH.cons rfl (fun K hK => ?_) AllReadyH.nil
        go_simp
        obtain ⟨v10, hv10⟩ : ∃ p, p = v9.setCell ⟨B10, 0, none⟩ (.bool dd) := ⟨_, rfl⟩
        rw [← hv10]
        have HBv10 := Lib.hid (show Below w2.heap.size w2 v10 by rw [hv10]; exact HBv9.out.setCell (p := ⟨B10, 0, none⟩) g10 _)
        have HM7 := Lib.hid (show v10.heap[B9]? = some (.cells #[.bool th] 4 (0, 0)) by rw [hv10]; exact (Below.heap_setCell _ _ _ _ hne).trans HL7.out)
        have HM8 := Lib.hid (show v10.heap[B10]? = some (.cells #[.bool dd] 4 (0, 0)) by rw [hv10]; exact blk_set HL8.out 0 _)
        refine hK.out _ _ (HALL.out _ HBv10.out) (fun _ => ?_)
        clear hK K hv10 r10 s10 e10
        refine wpAnyH_done (by kernel_rfl) ?_ _
        go_wp2_with fail
        go_ret
        obtain ⟨v11, hv11⟩ : ∃ p, p = v10.alloc (.cells (askC (plaA w.heap.size (w.heap.size + 3) B9 B10 (w.heap.size + 1) (th && dd && !td) (th && !dd && td) (th && hk) (th && ino == c) (!th && decide (1024 ≤ (nodeAt L (tn : Int)).kids.length)))).toArray 66) := ⟨_, rfl⟩
        have hb11 : Below v10.heap.size v10 v11 := by rw [hv11]; exact below_box v10 _
        have hg11 : v11.heap[v10.heap.size]? = some (.cells (askC (plaA w.heap.size (w.heap.size + 3) B9 B10 (w.heap.size + 1) (th && dd && !td) (th && !dd && td) (th && hk) (th && ino == c) (!th && decide (1024 ≤ (nodeAt L (tn : Int)).kids.length)))).toArray 66 (0, 0)) := by rw [hv11]; exact new_block v10 _
        have hs11 := hb11.size
        have hX : ∀ W, Below v11.heap.size v11 W → (TreeBx W w.heap.size a cap L.length m b ∧ SpotIn W (w.heap.size + 2) z s k sl ∧ SpotIn W (w.heap.size + 3) tn last ino sl2) ∧ (NodesIn W a cap L ∧ W.cell? ⟨w.heap.size + 1, 0, none⟩ = some (.int .i64 c) ∧ Below w.heap.size w W) ∧ W.cell? ⟨B9, 0, none⟩ = some (.bool th) ∧ W.cell? ⟨B10, 0, none⟩ = some (.bool dd) := fun W hW => by
          have h1 : Below v10.heap.size v10 W := hb11.trans (hW.mono hs11)
          have h2 := HBv10.out.trans (h1.mono HBv10.out.size)
          exact ⟨HALL.out W h2, HNC.out W h2, blk_cell ((h1.block _ (lt_of_block HM7.out)).trans HM7.out) 0, blk_cell ((h1.block _ (lt_of_block HM8.out)).trans HM8.out) 0⟩
        refine ⟨v10.heap.size, plaA w.heap.size (w.heap.size + 3) B9 B10 (w.heap.size + 1) (th && dd && !td) (th && !dd && td) (th && hk) (th && ino == c) (!th && decide (1024 ≤ (nodeAt L (tn : Int)).kids.length)), rfl, rfl, show 5 ≤ 10 by decide, ?_, fun i hi => ?_, fun i hi => ?_⟩
        · have h := (hX _ (Below.refl _ _)).2.1.2.2
          exact hv11 ▸ h
        · exact ask_block (t := 66) (hv11 ▸ hg11) i hi
        · rw [hv11] at hX
          have hi3 : i < 5 := hi
          match i, hi3 with
          | 0, _ => exact ⟨enters_of Tryz.func85 (by kernel_rfl) rfl, fun V hV => cpla1 _ th _ dd _ _ _ _ _ _ _ _ _ _ _ V (hX V hV).2.2.1 (hX V hV).2.2.2 (hX V hV).1.1 (hX V hV).2.1.1 (hX V hV).1.2.2 td HTD.out⟩
          | 1, _ => exact ⟨enters_of Tryz.func86 (by kernel_rfl) rfl, fun V hV => cpla2 _ th _ dd _ _ _ _ _ _ _ _ _ _ _ V (hX V hV).2.2.1 (hX V hV).2.2.2 (hX V hV).1.1 (hX V hV).2.1.1 (hX V hV).1.2.2 td HTD.out⟩
          | 2, _ => exact ⟨enters_of Tryz.func87 (by kernel_rfl) rfl, fun V hV => cpla3 _ th _ _ _ _ _ _ _ _ _ _ _ kn HKI.out hkl V (hX V hV).2.2.1 (hX V hV).1.1 (hX V hV).2.1.1 (hX V hV).1.2.2 hk HHK.out⟩
          | 3, _ => exact ⟨enters_of Tryz.func88 (by kernel_rfl) rfl, fun V hV => cpla4 _ th _ _ _ _ _ _ _ V (hX V hV).2.2.1 (hX V hV).1.2.2 (hX V hV).2.1.2.1⟩
          | 4, _ => exact ⟨enters_of Tryz.func89 (by kernel_rfl) rfl, fun V hV => cpla5 _ th _ _ _ _ _ _ _ tn _ _ _ htn V (hX V hV).2.2.1 (hX V hV).1.1 (hX V hV).2.1.1 (hX V hV).1.2.2⟩
    · go_simp
      have hlt := lt_of_block HK7.out
      obtain ⟨u5, hu⟩ : ∃ p, p = u4.alloc (.cells #[.bool false] 4) := ⟨_, rfl⟩
      rw [← hu]
      have HBNu5 := Lib.hid (show Below u4.heap.size u4 u5 by rw [hu]; exact below_box u4 _)
      have HBu5 := Lib.hid (HBu4.out.trans (HBNu5.out.mono HBu4.out.size))
      have HK8 := Lib.hid (show u5.heap[u4.heap.size]? = some (.cells #[.bool false] 4 (0, 0)) by rw [hu]; exact new_block u4 _)
      clear hu
      have HK7 := Lib.hid ((HBNu5.out.block _ (lt_of_block HK7.out)).trans HK7.out)
      refine hK.out _ _ (HALL.out _ HBu5.out) (fun _ => ?_)
      clear hK K
      try simp only [Act.put]
      refine wpAnyH_ready (rs := [6]) (by kernel_rfl) (by simp) ?_
      refine AllReadyH.cons rfl (fun K hK => ?_) (AllReadyH.nil)
      · go_simp
        refine (ldisdir_known a cap m b _ L _ HD.out _ (HNC.out _ HBu5.out).1).mono ?_
        rintro e u6 ⟨rfl, hb⟩
        have HBNu6 := Lib.hid hb
        have HBu6 := Lib.hid (HBu5.out.trans (hb.mono HBu5.out.size))
        clear hb
        have HK7 := Lib.hid ((HBNu6.out.block _ (lt_of_block HK7.out)).trans HK7.out)
        have HK8 := Lib.hid ((HBNu6.out.block _ (lt_of_block HK8.out)).trans HK8.out)
        refine hK.out _ _ (HALL.out _ HBu6.out) (fun _ => ?_)
        clear hK K
        try simp only [Act.put]
        have e9 := lt_of_block HK7.out
        have e10 := lt_of_block HK8.out
        have g9 := HB0.out.size
        have g10 := HBu4.out.size
        have hne : w3.heap.size ≠ u4.heap.size := by omega
        obtain ⟨B9, hB9⟩ : ∃ p, p = w3.heap.size := ⟨_, rfl⟩
        obtain ⟨B10, hB10⟩ : ∃ p, p = u4.heap.size := ⟨_, rfl⟩
        rw [← hB9] at HK7 e9 g9 hne ⊢
        rw [← hB10] at HK8 e10 g10 hne ⊢
        have hne' : ¬ B10 = B9 := fun e => hne e.symm
        clear hB9 hB10
        have r9 := blk_cell HK7.out 0
        have s9 := blk_free HK7.out 0
        have r10 := blk_cell HK8.out 0
        have s10 := blk_free HK8.out 0
        refine wpAnyH_ready (rs := [9]) (by kernel_rfl) (by simp) ?_
        refine AllReadyH.cons rfl (fun K hK => ?_) AllReadyH.nil
        go_simp
        obtain ⟨v9, hv9⟩ : ∃ p, p = u6.setCell ⟨B9, 0, none⟩ (.bool th) := ⟨_, rfl⟩
        rw [← hv9]
        have HBv9 := Lib.hid (show Below w2.heap.size w2 v9 by rw [hv9]; exact HBu6.out.setCell (p := ⟨B9, 0, none⟩) g9 _)
        have HL7 := Lib.hid (show v9.heap[B9]? = some (.cells #[.bool th] 4 (0, 0)) by rw [hv9]; exact blk_set HK7.out 0 _)
        have HL8 := Lib.hid (show v9.heap[B10]? = some (.cells #[.bool false] 4 (0, 0)) by rw [hv9]; exact (Below.heap_setCell _ _ _ _ hne').trans HK8.out)
        refine hK.out _ _ (HALL.out _ HBv9.out) (fun _ => ?_)
        clear hK K hv9 r9 s9 r10 s10 e9 e10
        try simp only [Act.put]
        have r10 := blk_cell HL8.out 0
        have s10 := blk_free HL8.out 0
        have e10 := lt_of_block HL8.out
        refine wpAnyH_ready (rs := [10]) (by kernel_rfl) (by simp) ?_
        refine AllReadyH.cons rfl (fun K hK => ?_) AllReadyH.nil
        go_simp
        obtain ⟨v10, hv10⟩ : ∃ p, p = v9.setCell ⟨B10, 0, none⟩ (.bool dd) := ⟨_, rfl⟩
        rw [← hv10]
        have HBv10 := Lib.hid (show Below w2.heap.size w2 v10 by rw [hv10]; exact HBv9.out.setCell (p := ⟨B10, 0, none⟩) g10 _)
        have HM7 := Lib.hid (show v10.heap[B9]? = some (.cells #[.bool th] 4 (0, 0)) by rw [hv10]; exact (Below.heap_setCell _ _ _ _ hne).trans HL7.out)
        have HM8 := Lib.hid (show v10.heap[B10]? = some (.cells #[.bool dd] 4 (0, 0)) by rw [hv10]; exact blk_set HL8.out 0 _)
        refine hK.out _ _ (HALL.out _ HBv10.out) (fun _ => ?_)
        clear hK K hv10 r10 s10 e10
        refine wpAnyH_done (by kernel_rfl) ?_ _
        go_wp2_with fail
        go_ret
        obtain ⟨v11, hv11⟩ : ∃ p, p = v10.alloc (.cells (askC (plaA w.heap.size (w.heap.size + 3) B9 B10 (w.heap.size + 1) (th && dd && !td) (th && !dd && td) (th && hk) (th && ino == c) (!th && decide (1024 ≤ (nodeAt L (tn : Int)).kids.length)))).toArray 66) := ⟨_, rfl⟩
        have hb11 : Below v10.heap.size v10 v11 := by rw [hv11]; exact below_box v10 _
        have hg11 : v11.heap[v10.heap.size]? = some (.cells (askC (plaA w.heap.size (w.heap.size + 3) B9 B10 (w.heap.size + 1) (th && dd && !td) (th && !dd && td) (th && hk) (th && ino == c) (!th && decide (1024 ≤ (nodeAt L (tn : Int)).kids.length)))).toArray 66 (0, 0)) := by rw [hv11]; exact new_block v10 _
        have hs11 := hb11.size
        have hX : ∀ W, Below v11.heap.size v11 W → (TreeBx W w.heap.size a cap L.length m b ∧ SpotIn W (w.heap.size + 2) z s k sl ∧ SpotIn W (w.heap.size + 3) tn last ino sl2) ∧ (NodesIn W a cap L ∧ W.cell? ⟨w.heap.size + 1, 0, none⟩ = some (.int .i64 c) ∧ Below w.heap.size w W) ∧ W.cell? ⟨B9, 0, none⟩ = some (.bool th) ∧ W.cell? ⟨B10, 0, none⟩ = some (.bool dd) := fun W hW => by
          have h1 : Below v10.heap.size v10 W := hb11.trans (hW.mono hs11)
          have h2 := HBv10.out.trans (h1.mono HBv10.out.size)
          exact ⟨HALL.out W h2, HNC.out W h2, blk_cell ((h1.block _ (lt_of_block HM7.out)).trans HM7.out) 0, blk_cell ((h1.block _ (lt_of_block HM8.out)).trans HM8.out) 0⟩
        refine ⟨v10.heap.size, plaA w.heap.size (w.heap.size + 3) B9 B10 (w.heap.size + 1) (th && dd && !td) (th && !dd && td) (th && hk) (th && ino == c) (!th && decide (1024 ≤ (nodeAt L (tn : Int)).kids.length)), rfl, rfl, show 5 ≤ 10 by decide, ?_, fun i hi => ?_, fun i hi => ?_⟩
        · have h := (hX _ (Below.refl _ _)).2.1.2.2
          exact hv11 ▸ h
        · exact ask_block (t := 66) (hv11 ▸ hg11) i hi
        · rw [hv11] at hX
          have hi3 : i < 5 := hi
          match i, hi3 with
          | 0, _ => exact ⟨enters_of Tryz.func85 (by kernel_rfl) rfl, fun V hV => cpla1 _ th _ dd _ _ _ _ _ _ _ _ _ _ _ V (hX V hV).2.2.1 (hX V hV).2.2.2 (hX V hV).1.1 (hX V hV).2.1.1 (hX V hV).1.2.2 td HTD.out⟩
          | 1, _ => exact ⟨enters_of Tryz.func86 (by kernel_rfl) rfl, fun V hV => cpla2 _ th _ dd _ _ _ _ _ _ _ _ _ _ _ V (hX V hV).2.2.1 (hX V hV).2.2.2 (hX V hV).1.1 (hX V hV).2.1.1 (hX V hV).1.2.2 td HTD.out⟩
          | 2, _ => exact ⟨enters_of Tryz.func87 (by kernel_rfl) rfl, fun V hV => cpla3 _ th _ _ _ _ _ _ _ _ _ _ _ kn HKI.out hkl V (hX V hV).2.2.1 (hX V hV).1.1 (hX V hV).2.1.1 (hX V hV).1.2.2 hk HHK.out⟩
          | 3, _ => exact ⟨enters_of Tryz.func88 (by kernel_rfl) rfl, fun V hV => cpla4 _ th _ _ _ _ _ _ _ V (hX V hV).2.2.1 (hX V hV).1.2.2 (hX V hV).2.1.2.1⟩
          | 4, _ => exact ⟨enters_of Tryz.func89 (by kernel_rfl) rfl, fun V hV => cpla5 _ th _ _ _ _ _ _ _ tn _ _ _ htn V (hX V hV).2.2.1 (hX V hV).1.1 (hX V hV).2.1.1 (hX V hV).1.2.2⟩
  · go_simp
    obtain ⟨u4, hu⟩ : ∃ p, p = w3.alloc (.cells #[.bool false] 4) := ⟨_, rfl⟩
    rw [← hu]
    have HBNu4 := Lib.hid (show Below w3.heap.size w3 u4 by rw [hu]; exact below_box w3 _)
    have HBu4 := Lib.hid (HB0.out.trans (HBNu4.out.mono HB0.out.size))
    have HK8 := Lib.hid (show u4.heap[w3.heap.size]? = some (.cells #[.bool false] 4 (0, 0)) by rw [hu]; exact new_block w3 _)
    clear hu
    refine hK.out _ _ (HALL.out _ HBu4.out) (fun _ => ?_)
    clear hK K
    try simp only [Act.put]
    refine wpAnyH_ready (rs := [6, 7]) (by kernel_rfl) (by simp) ?_
    refine AllReadyH.cons rfl (fun K hK => ?_) (AllReadyH.cons rfl (fun K hK => ?_) (AllReadyH.nil))
    · go_simp
      refine (ldisdir_known a cap m b _ L _ HD.out _ (HNC.out _ HBu4.out).1).mono ?_
      rintro e u5 ⟨rfl, hb⟩
      have HBNu5 := Lib.hid hb
      have HBu5 := Lib.hid (HBu4.out.trans (hb.mono HBu4.out.size))
      clear hb
      have HK8 := Lib.hid ((HBNu5.out.block _ (lt_of_block HK8.out)).trans HK8.out)
      refine hK.out _ _ (HALL.out _ HBu5.out) (fun _ => ?_)
      clear hK K
      try simp only [Act.put]
      refine wpAnyH_ready (rs := [7]) (by kernel_rfl) (by simp) ?_
      refine AllReadyH.cons rfl (fun K hK => ?_) (AllReadyH.nil)
      · go_simp
        have hlt := lt_of_block HK8.out
        obtain ⟨u6, hu⟩ : ∃ p, p = u5.alloc (.cells #[.bool false] 4) := ⟨_, rfl⟩
        rw [← hu]
        have HBNu6 := Lib.hid (show Below u5.heap.size u5 u6 by rw [hu]; exact below_box u5 _)
        have HBu6 := Lib.hid (HBu5.out.trans (HBNu6.out.mono HBu5.out.size))
        have HK7 := Lib.hid (show u6.heap[u5.heap.size]? = some (.cells #[.bool false] 4 (0, 0)) by rw [hu]; exact new_block u5 _)
        clear hu
        have HK8 := Lib.hid ((HBNu6.out.block _ (lt_of_block HK8.out)).trans HK8.out)
        refine hK.out _ _ (HALL.out _ HBu6.out) (fun _ => ?_)
        clear hK K
        try simp only [Act.put]
        have e9 := lt_of_block HK7.out
        have e10 := lt_of_block HK8.out
        have g9 := HBu5.out.size
        have g10 := HB0.out.size
        have hne : u5.heap.size ≠ w3.heap.size := by omega
        obtain ⟨B9, hB9⟩ : ∃ p, p = u5.heap.size := ⟨_, rfl⟩
        obtain ⟨B10, hB10⟩ : ∃ p, p = w3.heap.size := ⟨_, rfl⟩
        rw [← hB9] at HK7 e9 g9 hne ⊢
        rw [← hB10] at HK8 e10 g10 hne ⊢
        have hne' : ¬ B10 = B9 := fun e => hne e.symm
        clear hB9 hB10
        have r9 := blk_cell HK7.out 0
        have s9 := blk_free HK7.out 0
        have r10 := blk_cell HK8.out 0
        have s10 := blk_free HK8.out 0
        refine wpAnyH_ready (rs := [9]) (by kernel_rfl) (by simp) ?_
        refine AllReadyH.cons rfl (fun K hK => ?_) AllReadyH.nil
        go_simp
        obtain ⟨v9, hv9⟩ : ∃ p, p = u6.setCell ⟨B9, 0, none⟩ (.bool th) := ⟨_, rfl⟩
        rw [← hv9]
        have HBv9 := Lib.hid (show Below w2.heap.size w2 v9 by rw [hv9]; exact HBu6.out.setCell (p := ⟨B9, 0, none⟩) g9 _)
        have HL7 := Lib.hid (show v9.heap[B9]? = some (.cells #[.bool th] 4 (0, 0)) by rw [hv9]; exact blk_set HK7.out 0 _)
        have HL8 := Lib.hid (show v9.heap[B10]? = some (.cells #[.bool false] 4 (0, 0)) by rw [hv9]; exact (Below.heap_setCell _ _ _ _ hne').trans HK8.out)
        refine hK.out _ _ (HALL.out _ HBv9.out) (fun _ => ?_)
        clear hK K hv9 r9 s9 r10 s10 e9 e10
        try simp only [Act.put]
        have r10 := blk_cell HL8.out 0
        have s10 := blk_free HL8.out 0
        have e10 := lt_of_block HL8.out
        refine wpAnyH_ready (rs := [10]) (by kernel_rfl) (by simp) ?_
        refine AllReadyH.cons rfl (fun K hK => ?_) AllReadyH.nil
        go_simp
        obtain ⟨v10, hv10⟩ : ∃ p, p = v9.setCell ⟨B10, 0, none⟩ (.bool dd) := ⟨_, rfl⟩
        rw [← hv10]
        have HBv10 := Lib.hid (show Below w2.heap.size w2 v10 by rw [hv10]; exact HBv9.out.setCell (p := ⟨B10, 0, none⟩) g10 _)
        have HM7 := Lib.hid (show v10.heap[B9]? = some (.cells #[.bool th] 4 (0, 0)) by rw [hv10]; exact (Below.heap_setCell _ _ _ _ hne).trans HL7.out)
        have HM8 := Lib.hid (show v10.heap[B10]? = some (.cells #[.bool dd] 4 (0, 0)) by rw [hv10]; exact blk_set HL8.out 0 _)
        refine hK.out _ _ (HALL.out _ HBv10.out) (fun _ => ?_)
        clear hK K hv10 r10 s10 e10
        refine wpAnyH_done (by kernel_rfl) ?_ _
        go_wp2_with fail
        go_ret
        obtain ⟨v11, hv11⟩ : ∃ p, p = v10.alloc (.cells (askC (plaA w.heap.size (w.heap.size + 3) B9 B10 (w.heap.size + 1) (th && dd && !td) (th && !dd && td) (th && hk) (th && ino == c) (!th && decide (1024 ≤ (nodeAt L (tn : Int)).kids.length)))).toArray 66) := ⟨_, rfl⟩
        have hb11 : Below v10.heap.size v10 v11 := by rw [hv11]; exact below_box v10 _
        have hg11 : v11.heap[v10.heap.size]? = some (.cells (askC (plaA w.heap.size (w.heap.size + 3) B9 B10 (w.heap.size + 1) (th && dd && !td) (th && !dd && td) (th && hk) (th && ino == c) (!th && decide (1024 ≤ (nodeAt L (tn : Int)).kids.length)))).toArray 66 (0, 0)) := by rw [hv11]; exact new_block v10 _
        have hs11 := hb11.size
        have hX : ∀ W, Below v11.heap.size v11 W → (TreeBx W w.heap.size a cap L.length m b ∧ SpotIn W (w.heap.size + 2) z s k sl ∧ SpotIn W (w.heap.size + 3) tn last ino sl2) ∧ (NodesIn W a cap L ∧ W.cell? ⟨w.heap.size + 1, 0, none⟩ = some (.int .i64 c) ∧ Below w.heap.size w W) ∧ W.cell? ⟨B9, 0, none⟩ = some (.bool th) ∧ W.cell? ⟨B10, 0, none⟩ = some (.bool dd) := fun W hW => by
          have h1 : Below v10.heap.size v10 W := hb11.trans (hW.mono hs11)
          have h2 := HBv10.out.trans (h1.mono HBv10.out.size)
          exact ⟨HALL.out W h2, HNC.out W h2, blk_cell ((h1.block _ (lt_of_block HM7.out)).trans HM7.out) 0, blk_cell ((h1.block _ (lt_of_block HM8.out)).trans HM8.out) 0⟩
        refine ⟨v10.heap.size, plaA w.heap.size (w.heap.size + 3) B9 B10 (w.heap.size + 1) (th && dd && !td) (th && !dd && td) (th && hk) (th && ino == c) (!th && decide (1024 ≤ (nodeAt L (tn : Int)).kids.length)), rfl, rfl, show 5 ≤ 10 by decide, ?_, fun i hi => ?_, fun i hi => ?_⟩
        · have h := (hX _ (Below.refl _ _)).2.1.2.2
          exact hv11 ▸ h
        · exact ask_block (t := 66) (hv11 ▸ hg11) i hi
        · rw [hv11] at hX
          have hi3 : i < 5 := hi
          match i, hi3 with
          | 0, _ => exact ⟨enters_of Tryz.func85 (by kernel_rfl) rfl, fun V hV => cpla1 _ th _ dd _ _ _ _ _ _ _ _ _ _ _ V (hX V hV).2.2.1 (hX V hV).2.2.2 (hX V hV).1.1 (hX V hV).2.1.1 (hX V hV).1.2.2 td HTD.out⟩
          | 1, _ => exact ⟨enters_of Tryz.func86 (by kernel_rfl) rfl, fun V hV => cpla2 _ th _ dd _ _ _ _ _ _ _ _ _ _ _ V (hX V hV).2.2.1 (hX V hV).2.2.2 (hX V hV).1.1 (hX V hV).2.1.1 (hX V hV).1.2.2 td HTD.out⟩
          | 2, _ => exact ⟨enters_of Tryz.func87 (by kernel_rfl) rfl, fun V hV => cpla3 _ th _ _ _ _ _ _ _ _ _ _ _ kn HKI.out hkl V (hX V hV).2.2.1 (hX V hV).1.1 (hX V hV).2.1.1 (hX V hV).1.2.2 hk HHK.out⟩
          | 3, _ => exact ⟨enters_of Tryz.func88 (by kernel_rfl) rfl, fun V hV => cpla4 _ th _ _ _ _ _ _ _ V (hX V hV).2.2.1 (hX V hV).1.2.2 (hX V hV).2.1.2.1⟩
          | 4, _ => exact ⟨enters_of Tryz.func89 (by kernel_rfl) rfl, fun V hV => cpla5 _ th _ _ _ _ _ _ _ tn _ _ _ htn V (hX V hV).2.2.1 (hX V hV).1.1 (hX V hV).2.1.1 (hX V hV).1.2.2⟩
    · go_simp
      have hlt := lt_of_block HK8.out
      obtain ⟨u5, hu⟩ : ∃ p, p = u4.alloc (.cells #[.bool false] 4) := ⟨_, rfl⟩
      rw [← hu]
      have HBNu5 := Lib.hid (show Below u4.heap.size u4 u5 by rw [hu]; exact below_box u4 _)
      have HBu5 := Lib.hid (HBu4.out.trans (HBNu5.out.mono HBu4.out.size))
      have HK7 := Lib.hid (show u5.heap[u4.heap.size]? = some (.cells #[.bool false] 4 (0, 0)) by rw [hu]; exact new_block u4 _)
      clear hu
      have HK8 := Lib.hid ((HBNu5.out.block _ (lt_of_block HK8.out)).trans HK8.out)
      refine hK.out _ _ (HALL.out _ HBu5.out) (fun _ => ?_)
      clear hK K
      try simp only [Act.put]
      refine wpAnyH_ready (rs := [6]) (by kernel_rfl) (by simp) ?_
      refine AllReadyH.cons rfl (fun K hK => ?_) (AllReadyH.nil)
      · go_simp
        refine (ldisdir_known a cap m b _ L _ HD.out _ (HNC.out _ HBu5.out).1).mono ?_
        rintro e u6 ⟨rfl, hb⟩
        have HBNu6 := Lib.hid hb
        have HBu6 := Lib.hid (HBu5.out.trans (hb.mono HBu5.out.size))
        clear hb
        have HK7 := Lib.hid ((HBNu6.out.block _ (lt_of_block HK7.out)).trans HK7.out)
        have HK8 := Lib.hid ((HBNu6.out.block _ (lt_of_block HK8.out)).trans HK8.out)
        refine hK.out _ _ (HALL.out _ HBu6.out) (fun _ => ?_)
        clear hK K
        try simp only [Act.put]
        have e9 := lt_of_block HK7.out
        have e10 := lt_of_block HK8.out
        have g9 := HBu4.out.size
        have g10 := HB0.out.size
        have hne : u4.heap.size ≠ w3.heap.size := by omega
        obtain ⟨B9, hB9⟩ : ∃ p, p = u4.heap.size := ⟨_, rfl⟩
        obtain ⟨B10, hB10⟩ : ∃ p, p = w3.heap.size := ⟨_, rfl⟩
        rw [← hB9] at HK7 e9 g9 hne ⊢
        rw [← hB10] at HK8 e10 g10 hne ⊢
        have hne' : ¬ B10 = B9 := fun e => hne e.symm
        clear hB9 hB10
        have r9 := blk_cell HK7.out 0
        have s9 := blk_free HK7.out 0
        have r10 := blk_cell HK8.out 0
        have s10 := blk_free HK8.out 0
        refine wpAnyH_ready (rs := [9]) (by kernel_rfl) (by simp) ?_
        refine AllReadyH.cons rfl (fun K hK => ?_) AllReadyH.nil
        go_simp
        obtain ⟨v9, hv9⟩ : ∃ p, p = u6.setCell ⟨B9, 0, none⟩ (.bool th) := ⟨_, rfl⟩
        rw [← hv9]
        have HBv9 := Lib.hid (show Below w2.heap.size w2 v9 by rw [hv9]; exact HBu6.out.setCell (p := ⟨B9, 0, none⟩) g9 _)
        have HL7 := Lib.hid (show v9.heap[B9]? = some (.cells #[.bool th] 4 (0, 0)) by rw [hv9]; exact blk_set HK7.out 0 _)
        have HL8 := Lib.hid (show v9.heap[B10]? = some (.cells #[.bool false] 4 (0, 0)) by rw [hv9]; exact (Below.heap_setCell _ _ _ _ hne').trans HK8.out)
        refine hK.out _ _ (HALL.out _ HBv9.out) (fun _ => ?_)
        clear hK K hv9 r9 s9 r10 s10 e9 e10
        try simp only [Act.put]
        have r10 := blk_cell HL8.out 0
        have s10 := blk_free HL8.out 0
        have e10 := lt_of_block HL8.out
        refine wpAnyH_ready (rs := [10]) (by kernel_rfl) (by simp) ?_
        refine AllReadyH.cons rfl (fun K hK => ?_) AllReadyH.nil
        go_simp
        obtain ⟨v10, hv10⟩ : ∃ p, p = v9.setCell ⟨B10, 0, none⟩ (.bool dd) := ⟨_, rfl⟩
        rw [← hv10]
        have HBv10 := Lib.hid (show Below w2.heap.size w2 v10 by rw [hv10]; exact HBv9.out.setCell (p := ⟨B10, 0, none⟩) g10 _)
        have HM7 := Lib.hid (show v10.heap[B9]? = some (.cells #[.bool th] 4 (0, 0)) by rw [hv10]; exact (Below.heap_setCell _ _ _ _ hne).trans HL7.out)
        have HM8 := Lib.hid (show v10.heap[B10]? = some (.cells #[.bool dd] 4 (0, 0)) by rw [hv10]; exact blk_set HL8.out 0 _)
        refine hK.out _ _ (HALL.out _ HBv10.out) (fun _ => ?_)
        clear hK K hv10 r10 s10 e10
        refine wpAnyH_done (by kernel_rfl) ?_ _
        go_wp2_with fail
        go_ret
        obtain ⟨v11, hv11⟩ : ∃ p, p = v10.alloc (.cells (askC (plaA w.heap.size (w.heap.size + 3) B9 B10 (w.heap.size + 1) (th && dd && !td) (th && !dd && td) (th && hk) (th && ino == c) (!th && decide (1024 ≤ (nodeAt L (tn : Int)).kids.length)))).toArray 66) := ⟨_, rfl⟩
        have hb11 : Below v10.heap.size v10 v11 := by rw [hv11]; exact below_box v10 _
        have hg11 : v11.heap[v10.heap.size]? = some (.cells (askC (plaA w.heap.size (w.heap.size + 3) B9 B10 (w.heap.size + 1) (th && dd && !td) (th && !dd && td) (th && hk) (th && ino == c) (!th && decide (1024 ≤ (nodeAt L (tn : Int)).kids.length)))).toArray 66 (0, 0)) := by rw [hv11]; exact new_block v10 _
        have hs11 := hb11.size
        have hX : ∀ W, Below v11.heap.size v11 W → (TreeBx W w.heap.size a cap L.length m b ∧ SpotIn W (w.heap.size + 2) z s k sl ∧ SpotIn W (w.heap.size + 3) tn last ino sl2) ∧ (NodesIn W a cap L ∧ W.cell? ⟨w.heap.size + 1, 0, none⟩ = some (.int .i64 c) ∧ Below w.heap.size w W) ∧ W.cell? ⟨B9, 0, none⟩ = some (.bool th) ∧ W.cell? ⟨B10, 0, none⟩ = some (.bool dd) := fun W hW => by
          have h1 : Below v10.heap.size v10 W := hb11.trans (hW.mono hs11)
          have h2 := HBv10.out.trans (h1.mono HBv10.out.size)
          exact ⟨HALL.out W h2, HNC.out W h2, blk_cell ((h1.block _ (lt_of_block HM7.out)).trans HM7.out) 0, blk_cell ((h1.block _ (lt_of_block HM8.out)).trans HM8.out) 0⟩
        refine ⟨v10.heap.size, plaA w.heap.size (w.heap.size + 3) B9 B10 (w.heap.size + 1) (th && dd && !td) (th && !dd && td) (th && hk) (th && ino == c) (!th && decide (1024 ≤ (nodeAt L (tn : Int)).kids.length)), rfl, rfl, show 5 ≤ 10 by decide, ?_, fun i hi => ?_, fun i hi => ?_⟩
        · have h := (hX _ (Below.refl _ _)).2.1.2.2
          exact hv11 ▸ h
        · exact ask_block (t := 66) (hv11 ▸ hg11) i hi
        · rw [hv11] at hX
          have hi3 : i < 5 := hi
          match i, hi3 with
          | 0, _ => exact ⟨enters_of Tryz.func85 (by kernel_rfl) rfl, fun V hV => cpla1 _ th _ dd _ _ _ _ _ _ _ _ _ _ _ V (hX V hV).2.2.1 (hX V hV).2.2.2 (hX V hV).1.1 (hX V hV).2.1.1 (hX V hV).1.2.2 td HTD.out⟩
          | 1, _ => exact ⟨enters_of Tryz.func86 (by kernel_rfl) rfl, fun V hV => cpla2 _ th _ dd _ _ _ _ _ _ _ _ _ _ _ V (hX V hV).2.2.1 (hX V hV).2.2.2 (hX V hV).1.1 (hX V hV).2.1.1 (hX V hV).1.2.2 td HTD.out⟩
          | 2, _ => exact ⟨enters_of Tryz.func87 (by kernel_rfl) rfl, fun V hV => cpla3 _ th _ _ _ _ _ _ _ _ _ _ _ kn HKI.out hkl V (hX V hV).2.2.1 (hX V hV).1.1 (hX V hV).2.1.1 (hX V hV).1.2.2 hk HHK.out⟩
          | 3, _ => exact ⟨enters_of Tryz.func88 (by kernel_rfl) rfl, fun V hV => cpla4 _ th _ _ _ _ _ _ _ V (hX V hV).2.2.1 (hX V hV).1.2.2 (hX V hV).2.1.2.1⟩
          | 4, _ => exact ⟨enters_of Tryz.func89 (by kernel_rfl) rfl, fun V hV => cpla5 _ th _ _ _ _ _ _ _ tn _ _ _ htn V (hX V hV).2.2.1 (hX V hV).1.1 (hX V hV).2.1.1 (hX V hV).1.2.2⟩
end Go.Proofs.YtmaiphibpdngnaaGreat
