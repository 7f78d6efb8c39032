/-
  Expand of the landed glob.
-/
import Derived.Test.YtclhpedecimicaaGreatK22
namespace Go.Proofs.YtclhpedecimicaaGreat
set_option maxRecDepth 100000
open Go Go.RowKit Go.Shelf

attribute [local go_sem] Oper.semAt_some

theorem exp_res (tmps : Array Value) (W : World) (k : Nat) (v : Value) (h8 : tmps.getD 8 undef = .pointer (some ⟨k, 0, none⟩)) (hl : W.cell? ⟨k, 0, none⟩ = some v) : (results Tryz.f10 tmps).run Tryz.prog W = .ok v W := by
  have g8 : tmps[8]?.getD undef = .pointer (some ⟨k, 0, none⟩) := by simpa using h8
  have hv : (loadVar 29 ⟨k, 0, none⟩).run Tryz.prog W = .ok v W := by
    simp [loadVar, hl, Result.andThen, go_sem]
  simp [results, Tryz.results10, asAddr, Sem.run_bind]
  rw [g8]
  simp [hv]

/-- What holds between two parts. -/
structure OutI (z : Nat) (w : World) (L : List Ino) (cwd : Int) (S : Array Value) (p : List UInt8) (br bs bp : Nat) (pre : List Pt) (W : World) : Prop where
  big : z ≤ W.heap.size
  res : Boxed W br 29 (.slice none 0 0)
  srch : W.heap[bs]? = some (.cells S 47 (0, 0))
  paths : ∃ G pa pc, runW L cwd (begW L cwd p) pre = some G ∧ Sz G pre.length ∧ Boxed W bp 48 (.slice pa G.length pc) ∧ W.ownsRow w.heap.size 59 2 (.slice pa G.length pc) G.length (flatF G)
  low : Below w.heap.size w W
theorem OutI.grown {z : Nat} {w : World} {L : List Ino} {cwd : Int} {S : Array Value} {p : List UInt8} {br bs bp : Nat} {pre : List Pt} {W W' : World} {row : Option Nat} (h : OutI z w L cwd S p br bs bp pre W) (hg : W.grownBy W' row) (hB : ∀ r, row = some r → w.heap.size ≤ r) (hr : ∀ r, row = some r → ∃ o : Obj, W.heap[r]? = some o ∧ o.isCells = false) : OutI z w L cwd S p br bs bp pre W' := by
  obtain ⟨G, pa, pc, h1, h2, h3, h4⟩ := h.paths
  exact ⟨Nat.le_trans h.big hg.size, cells_grown h.res hg hr, cells_grown h.srch hg hr, ⟨G, pa, pc, h1, h2, cells_grown h3 hg hr, own_grown h4 hg hr⟩, below_ge h.low hg h.low.size hB⟩
/-- What holds where it is given up. -/
structure OutX (w : World) (L : List Ino) (cwd : Int) (p : List UInt8) (br : Nat) (pre : List Pt) (W : World) : Prop where
  res : Boxed W br 29 (.slice none 0 0)
  none : runW L cwd (begW L cwd p) pre = none
  low : Below w.heap.size w W
theorem OutX.grown {w : World} {L : List Ino} {cwd : Int} {p : List UInt8} {br : Nat} {pre : List Pt} {W W' : World} {row : Option Nat} (h : OutX w L cwd p br pre W) (hg : W.grownBy W' row) (hB : ∀ r, row = some r → w.heap.size ≤ r) (hr : ∀ r, row = some r → ∃ o : Obj, W.heap[r]? = some o ∧ o.isCells = false) : OutX w L cwd p br pre W' :=
  ⟨cells_grown h.res hg hr, h.none, below_ge h.low hg h.low.size hB⟩

/-- What holds between two paths behind a part. -/
structure InnI (z : Nat) (X : World) (pre2 : List Fd) (Y : World) : Prop where
  big : z ≤ Y.heap.size
  next : ∃ na nc, Boxed Y X.heap.size 48 (.slice na pre2.length nc) ∧ Y.ownsRow X.heap.size 59 2 (.slice na pre2.length nc) pre2.length (flatF pre2)
  few : pre2.length ≤ 1024
  low : Below X.heap.size X Y
theorem InnI.grown {z : Nat} {X Y Z : World} {pre2 : List Fd} {row : Option Nat} (h : InnI z X pre2 Y) (hg : Y.grownBy Z row) (hB : ∀ r, row = some r → X.heap.size ≤ r) (hr : ∀ r, row = some r → ∃ o : Obj, Y.heap[r]? = some o ∧ o.isCells = false) : InnI z X pre2 Z := by
  obtain ⟨na, nc, h1, h2⟩ := h.next
  exact ⟨Nat.le_trans h.big hg.size, ⟨na, nc, cells_grown h1 hg hr, own_grown h2 hg hr⟩, h.few, below_ge h.low hg h.low.size hB⟩
theorem KpX.weak {n₀ n₁ B : Nat} {T : TypeId} {W W' : World} (h : KpX n₀ T B W W') (hn : n₁ ≤ n₀) : KpX n₁ T B W W' := ⟨h.low.mono hn, h.walks, h.box⟩
/-- A store of what lies there. -/
theorem same_cell {Y : World} {k : Nat} {t : TypeId} {v : Value} (h : Boxed Y k t v) (i : Nat) : (Y.setCell ⟨k, 0, none⟩ v).heap[i]? = Y.heap[i]? := by
  by_cases e : i = k
  · subst e
    exact (Boxed.set v h).trans (Eq.symm h)
  · exact Below.heap_setCell _ _ _ _ e
theorem size_ok {G : List Fd} {k : Nat} (h : Sz G k) (hk : k ≤ 400) : ∀ f ∈ G, f.1.length ≤ 90000000 := fun f hf => by
  have h1 := h.2.1 f hf
  have h2 : k * 200000 ≤ 400 * 200000 := Nat.mul_le_mul_right _ hk
  omega

set_option maxRecDepth 100000 in
set_option maxHeartbeats 16000000 in
theorem lexpand (a : Option Addr) (cap : Nat) (m b cwd : Int) (p q : List UInt8) (hp : p.length ≤ 400) (L : List Ino) (hF : FitP L m b) (w : World) (hN : NodesIn w a cap L) :
    Calls Tryz.prog 10 #[.agg #[.slice a L.length cap, .int .i64 m, .int .i64 b], .int .i64 cwd, sv p, sv q] w fun e W' => ∃ v, e = .returned v ∧ Texts w.heap.size W' v (globW L cwd p q) ∧ Below w.heap.size w W' := by
  have C1 := fun W => lmagic ⟨p.toArray⟩ ⟨q.toArray⟩ (by rw [sv_size]; omega) W
  rw [show plL (⟨p.toArray⟩ : ByteArray).data.toList (⟨q.toArray⟩ : ByteArray).data.toList = plL p q from rfl] at C1
  obtain ⟨⟨g1, g2⟩, hb0, hsz⟩ := two_laid w (.cells #[.slice a L.length cap, .int .i64 m, .int .i64 b] 24) (.cells #[.slice none 0 0] 29)
  obtain ⟨W2, hW2⟩ : ∃ W2, W2 = (w.alloc (.cells #[.slice a L.length cap, .int .i64 m, .int .i64 b] 24)).alloc (.cells #[.slice none 0 0] 29) := ⟨_, rfl⟩
  rw [← hW2] at g1 g2 hb0 hsz
  have HB0 := Lib.hid hb0
  have HW2 := Lib.hid hW2
  have HSZ := Lib.hid hsz
  have HG := Lib.hid (fun (W : World) (h : Below W2.heap.size W2 W) => And.intro (kept h g1) (kept h g2))
  have HN := Lib.hid hN
  have HPL := Lib.hid (fun (pre : List PtG) (h : pre.length < (ptsL p q).length) => show (pre.map Subtype.val).length ≤ 400 by have := (pts_sizes p q).1; rw [List.length_map]; omega)
  clear hW2 hsz g1 g2 hN hb0
  refine (callsIn_wide (n := 6)).1 ?_
  obtain ⟨F, hFF⟩ : ∃ F, F = Fence.wide := ⟨_, rfl⟩
  have hO : Open F := by rw [hFF]; exact open_wide
  rw [← hFF]
  clear hFF
  have hro : F.round = none := hO.ro
  have hf1 : F.fn 17 := hO.fn _
  have hf2 : F.fn 18 := hO.fn _
  have hf3 : F.fn 19 := hO.fn _
  have hf4 : F.fn 20 := hO.fn _
  have hf5 : F.fn 21 := hO.fn _
  refine callsIn_of_wp_marks Tryz.func10 rfl (hO.fn _) ?_ hro
  simp only [Tryz.ntmps10, List.size_toArray, List.length_cons, List.length_nil, Nat.reduceAdd, Nat.reduceSub, Array.replicate_succ, Array.replicate_zero, List.push_toArray, List.append_toArray, List.nil_append, List.cons_append]
  gi_wp2
  rw [← HW2.out]
  refine (hO.calls (C1 _)).mono ?_
  rintro e w1 ⟨rfl, hb1⟩
  obtain ⟨k1, k2⟩ := HG.out _ hb1
  have HB1 := Lib.hid (below_two HB0.out hb1)
  have t0 := blk_cell k1 0
  have t1 := blk_cell k1 1
  have t2 := blk_cell k1 2
  have r0 := blk_cell k2 0
  have rf := blk_free k2 0
  have HK2 := Lib.hid k2
  clear hb1 k1 k2 C1
  cases hm : magB (plL p q) with
  | false =>
    have HE := Lib.hid (show globW L cwd p q = [] by unfold globW; rw [hm, if_pos rfl])
    clear hm
    gi_wp2
    have hB : Boxed (w1.setCell ⟨w.heap.size + 1, 0, none⟩ (.slice none 0 0)) (w.heap.size + 1) 29 (.slice none 0 0) := Boxed.set (.slice none 0 0) HK2.out
    have hL : Below w.heap.size w (w1.setCell ⟨w.heap.size + 1, 0, none⟩ (.slice none 0 0)) := HB1.out.setCell (show w.heap.size ≤ w.heap.size + 1 by omega) _
    exact ⟨_, exp_res _ _ _ _ rfl hB.cell, _, rfl, by rw [HE.out]; exact World.ownsRow_nil _ _ _ _, hL⟩
  | true =>
    have HGL := Lib.hid (show globW L cwd p q = ansW (runW L cwd (begW L cwd p) (ptsL p q)) by unfold globW; rw [hm, if_neg (by simp)])
    clear hm rf r0
    have CB := fun (W : World) (h : NodesIn W a cap L) => lgbegin a cap m b cwd p L hF W h
    have hnew := new_block w1 (.cells (srC a L.length cap m b cwd) 47)
    have hbx := below_box w1 (.cells (srC a L.length cap m b cwd) 47)
    obtain ⟨w2, hw2⟩ : ∃ w2, w2 = w1.alloc (.cells (srC a L.length cap m b cwd) 47) := ⟨_, rfl⟩
    rw [← hw2] at hnew hbx
    unfold srC at hw2
    have HW2b := Lib.hid hw2
    have u0 := blk_cell hnew 0
    have u1 := blk_cell hnew 1
    have u2 := blk_cell hnew 2
    have u3 := blk_cell hnew 3
    unfold srC at u0 u1 u2 u3
    have HS2 := Lib.hid hnew
    have HK2b := Lib.hid (kept hbx HK2.out)
    have HB2 := Lib.hid (below_two HB1.out hbx)
    unfold srV at CB
    clear hw2 hnew hbx
    gi_wp2
    rw [← HW2b.out]
    refine (hO.calls (CB w2 (HN.out.below HB2.out))).mono ?_
    rintro e w3 ⟨pa, pc, rfl, hown, hb3⟩
    have HB3 := Lib.hid (below_two HB2.out hb3)
    have HK3 := Lib.hid (kept hb3 HK2b.out)
    have HS3 := Lib.hid (kept hb3 HS2.out)
    have HO3 := Lib.hid (own_less hown HB2.out.size)
    obtain ⟨n0, hn0⟩ : ∃ n0, n0 = (begW L cwd p).length := ⟨_, rfl⟩
    have HN0 := Lib.hid hn0
    rw [← hn0]
    generalize hbs : w1.heap.size = bs at HS3 ⊢
    clear hown hb3 hbs hn0 u0 u1 u2 u3 t0 t1 t2 CB
    gi_wp2
    refine (gparts_in F hO _ p q _).mono ?_
    rintro e w4 ⟨rfl, hw4⟩
    subst hw4
    gi_wp2
    obtain ⟨⟨y0, y1, y2⟩, hb5, hsz5⟩ := three_laid w3 (.cells #[.slice pa n0 pc] 48) (.cells #[sv p] 9) (.cells #[sv q] 9)
    obtain ⟨W5, hW5⟩ : ∃ W5, W5 = ((w3.alloc (.cells #[.slice pa n0 pc] 48)).alloc (.cells #[sv p] 9)).alloc (.cells #[sv q] 9) := ⟨_, rfl⟩
    rw [← hW5] at y0 y1 y2 hb5 hsz5 ⊢
    have hw3 := HB3.out.size
    have hOut : OutI W5.heap.size w L cwd (srC a L.length cap m b cwd) p (w.heap.size + 1) bs w3.heap.size [] W5 :=
      ⟨Nat.le_refl _, kept hb5 HK3.out, kept hb5 HS3.out, ⟨begW L cwd p, pa, pc, rfl, sz_beg hF cwd p, by rw [← HN0.out]; exact y0, own_grown HO3.out (below_row hb5) (fun _ e => by cases e)⟩, HB3.out.trans (hb5.mono hw3)⟩
    have HOUT := Lib.hid hOut
    have hc1 : W5.cell? ⟨w3.heap.size + 1, 0, none⟩ = some (sv p) := blk_cell y1 0
    have hc2 : W5.cell? ⟨w3.heap.size + 1 + 1, 0, none⟩ = some (sv q) := blk_cell y2 0
    clear hW5 y0 y1 y2 hb5 hOut
    generalize w3.heap.size = bp at HOUT hc1 hc2 hsz5 hw3 ⊢
    have hwW : w.heap.size ≤ W5.heap.size := by omega
    have hbp5 : bp + 1 + 1 < W5.heap.size := by omega
    clear hsz5
    have hro1 := hro
    refine wpIn_rangeFunc_ownH hro (by decide) (gf := 35) (lb := #[.pointer (some ⟨bp + 1, 0, none⟩), .pointer (some ⟨bp + 1 + 1, 0, none⟩)]) rfl (hO.fn _) (enters_of Tryz.func35 (by kernel_rfl) rfl)
      (gparts_stops F hO (6 - 1) (by decide) (bp + 1) (bp + 1 + 1) p q (by omega) W5 (by omega) (by omega) hc1 hc2)
      (fun h k => ⟨k.1.trans h.1, k.2.trans h.2⟩) (fun X l o o' hl _ _ _ => ⟨World.putObj_heap_other (by omega), World.putObj_heap_other (by omega)⟩) (Below.refl _ _) (fun _ => rfl)
      (fun (pre : List PtG) W => OutI W5.heap.size w L cwd (srC a L.length cap m b cwd) p (w.heap.size + 1) bs bp (pre.map Subtype.val) W)
      (fun c pre W => c = Code.ret ∧ OutX w L cwd p (w.heap.size + 1) (pre.map Subtype.val) W)
      (fun s X Y row h hg hr => h.grown hg (fun r e => by have := (hr r e).1; omega) (fun r e => (hr r e).2))
      (fun c s X Y row h hg hr => ⟨h.1, h.2.grown hg (fun r e => by have := (hr r e).1; omega) (fun r e => (hr r e).2)⟩)
      HOUT.out
      (fun x a' W => ∃ bx, W.heap[bx]? = some (.cells (ptC x.1) 54 (0, 0)) ∧ W5.heap.size ≤ bx ∧ a' = { tmps := #[.agg #[.slice a L.length cap, .int .i64 m, .int .i64 b], .int .i64 cwd, sv p, sv q, .pointer (some ⟨w.heap.size, 0, none⟩), undef, undef, undef, .pointer (some ⟨w.heap.size + 1, 0, none⟩), .pointer (some ⟨bs, 0, none⟩), .pointer (some ⟨bp, 0, none⟩), .pointer (some ⟨bx, 0, none⟩), undef, undef, sv p, sv q, .bool true, .bool false, .agg #[.slice a L.length cap, .int .i64 m, .int .i64 b], .int .i64 cwd, .agg #[.slice a L.length cap, .int .i64 m, .int .i64 b, .int .i64 cwd], .agg #[.slice a L.length cap, .int .i64 m, .int .i64 b, .int .i64 cwd], sv p, .slice pa n0 pc, sv p, sv q, .func (.func 35) #[] #[.pointer (some ⟨bp + 1, 0, none⟩), .pointer (some ⟨bp + 1 + 1, 0, none⟩)], ptV x.1, undef, undef, undef, undef, undef, undef, undef, undef, undef, undef, undef, undef, undef, undef, undef], defers := [] })
      (fun x a' s X Y row h hg hr => by obtain ⟨bx, h1, h2, h3⟩ := h; exact ⟨bx, cells_grown h1 hg (fun r e => (hr r e).2), h2, h3⟩)
      ?assign ?body ?done ?stop
    case assign =>
      intro l pre x X K hI hK
      have hb := below_box X (.cells (ptC x.1) 54)
      have hn := new_block X (.cells (ptC x.1) 54)
      have hbig := hI.big
      have hKK := hK { tmps := #[.agg #[.slice a L.length cap, .int .i64 m, .int .i64 b], .int .i64 cwd, sv p, sv q, .pointer (some ⟨w.heap.size, 0, none⟩), undef, undef, undef, .pointer (some ⟨w.heap.size + 1, 0, none⟩), .pointer (some ⟨bs, 0, none⟩), .pointer (some ⟨bp, 0, none⟩), .pointer (some ⟨X.heap.size, 0, none⟩), undef, undef, sv p, sv q, .bool true, .bool false, .agg #[.slice a L.length cap, .int .i64 m, .int .i64 b], .int .i64 cwd, .agg #[.slice a L.length cap, .int .i64 m, .int .i64 b, .int .i64 cwd], .agg #[.slice a L.length cap, .int .i64 m, .int .i64 b, .int .i64 cwd], sv p, .slice pa n0 pc, sv p, sv q, .func (.func 35) #[] #[.pointer (some ⟨bp + 1, 0, none⟩), .pointer (some ⟨bp + 1 + 1, 0, none⟩)], ptV x.1, undef, undef, undef, undef, undef, undef, undef, undef, undef, undef, undef, undef, undef, undef, undef], defers := [] } (X.alloc (.cells (ptC x.1) 54))
        ((KeepsOthers.alloc X _).from _) ⟨hb.block _ (by omega), hb.block _ (by omega)⟩ (hI.grown (World.grownBy_alloc X _ none) (fun r e => by cases e) (fun r e => by cases e)) ⟨X.heap.size, hn, hbig, rfl⟩
      clear hb hn hK
      unfold ptV ptC at hKK ⊢
      gi_wp2
      exact hKK
    case body =>
      intro l pre x a' X hl hlr hI hA hlen
      obtain ⟨bx, hxb, hbxW, rfl⟩ := hA
      obtain ⟨G, ga, gc, hrun, hsz', hbp, hrw⟩ := hI.paths
      obtain ⟨rl, hrl⟩ := hlr
      have hX1 := below_box X (.cells #[.slice none 0 0] 48)
      have hnx := new_block X (.cells #[.slice none 0 0] 48)
      obtain ⟨X1, hX1e⟩ : ∃ X1, X1 = X.alloc (.cells #[.slice none 0 0] 48) := ⟨_, rfl⟩
      rw [← hX1e] at hX1 hnx
      have hs1 : X1.heap.size = X.heap.size + 1 := by rw [hX1e]; simp
      have s0 := blk_cell hI.srch 0
      have s1 := blk_cell hI.srch 1
      have s2 := blk_cell hI.srch 2
      have s3 := blk_cell hI.srch 3
      have p0 := blk_cell hbp 0
      have x0 := blk_cell hxb 0
      have x1 := blk_cell hxb 1
      have x2 := blk_cell hxb 2
      have x3 := blk_cell hxb 3
      unfold srC at s0 s1 s2 s3
      unfold ptC at x0 x1 x2 x3
      have lbs : bs < X.heap.size := lt_of_block hI.srch
      have lbp : bp < X.heap.size := lt_of_block hbp
      have lbx : bx < X.heap.size := lt_of_block hxb
      have HX1E := Lib.hid hX1e
      have HI := Lib.hid hI
      have HRUN := Lib.hid hrun
      have HS := Lib.hid hsz'
      have HBP := Lib.hid hbp
      have HRW := Lib.hid hrw
      have HXB := Lib.hid hxb
      have HX1 := Lib.hid hX1
      have HNX := Lib.hid hnx
      have HS1 := Lib.hid hs1
      have HRL := Lib.hid hrl
      obtain ⟨g0, hg0⟩ : ∃ g0, g0 = G.length := ⟨_, rfl⟩
      rw [← hg0] at p0
      have HG0 := Lib.hid hg0
      have CBh := gbehind_in F hO (6 - 1 - 1 - 1) a L.length cap m b cwd ga G.length gc x.1 X1
      rw [← hg0] at CBh
      unfold srV ptV ptC at CBh
      unfold ptV ptC
      obtain ⟨mg, hmg⟩ : ∃ mg, mg = magB x.1.L := ⟨_, rfl⟩
      rw [← hmg] at CBh x0 x1 x2 x3 ⊢
      have HMG := Lib.hid hmg
      clear hX1e hI hrun hsz' hbp hrw hxb hX1 hnx hs1 hrl hg0 hmg
      gi_wp2
      rw [← HX1E.out]
      refine (CallsIn.inRound l CBh).mono ?_
      rintro e X2 ⟨rfl, hX2⟩
      have HX2E := Lib.hid hX2
      clear hX2 CBh s0 s1 s2 s3 p0 x0 x1 x2 x3
      gi_wp2
      obtain ⟨⟨y0, y1, y2⟩, hb2, hsz2⟩ := three_laid X1 (.cells (srC a L.length cap m b cwd) 47) (.cells #[.slice ga G.length gc] 48) (.cells (ptC x.1) 54)
      have hX2 : X2 = ((X1.alloc (.cells (srC a L.length cap m b cwd) 47)).alloc (.cells #[.slice ga G.length gc] 48)).alloc (.cells (ptC x.1) 54) := by
        rw [HX2E.out, HG0.out]
        unfold ptC
        rw [HMG.out]
      rw [← hX2] at y0 y1 y2 hb2 hsz2
      have hgd1 : GoodX 48 X.heap.size X1 := ⟨_, HNX.out, fun g e => by simp [Value.ownBlock] at e⟩
      have hnxt2 : Boxed X2 X.heap.size 48 (.slice none 0 0) := kept hb2 HNX.out
      have hgd2 : GoodX 48 X.heap.size X2 := ⟨_, hnxt2, fun g e => by simp [Value.ownBlock] at e⟩
      have hXX2 : Below X.heap.size X X2 := below_two HX1.out hb2
      have hs1 := HS1.out
      have HBE := Lib.hid (show BehAt 48 X.heap.size w L x.1 (srC a L.length cap m b cwd) ga G.length gc G X1.heap.size (X1.heap.size + 1) (X1.heap.size + 1 + 1) X2 from
        ⟨hgd2, HI.out.low.trans (hXX2.mono HI.out.low.size), ⟨y0, SafeX.new hgd1 hb2 (by omega) (by omega)⟩, ⟨y1, SafeX.new hgd1 hb2 (by omega) (by omega)⟩, ⟨y2, SafeX.new hgd1 hb2 (by omega) (by omega)⟩, fun hg => by
          obtain ⟨h1, ⟨h2, h3⟩ | ⟨g, cap', cur, hv, h0, hgb, r1, r2, r3, r4⟩⟩ := HRW.out
          · omega
          · simp only [Value.slice.injEq] at hv
            have hgl := lt_of_block hgb
            refine ⟨g, cur, hv.1, kept hXX2 hgb, ⟨by have := hXX2.size; omega, by omega, fun v hv2 e => ?_⟩, r4⟩
            rw [Boxed.oneT hv2 hnxt2] at e
            simp [Value.ownBlock] at e⟩)
      have HNXT := Lib.hid hnxt2
      have HXX2 := Lib.hid hXX2
      have HSX2 := Lib.hid hsz2
      have hlt2 : X1.heap.size + 1 + 1 < X2.heap.size := by omega
      have hXs2 : X.heap.size ≤ X2.heap.size := by omega
      have hrl2 : X2.heap[l]? = some (.loop rl) := kept hXX2 HRL.out
      clear y0 y1 y2 hb2 hX2 hgd1 hnxt2 hgd2 hXX2
      have hsG := HS.out
      clear hs1
      refine wpIn_rangeFunc_ownN (l₀ := l) (r₀ := rl) rfl hrl2 (by decide) (gf := 39) (lb := #[.pointer (some ⟨X1.heap.size, 0, none⟩), .pointer (some ⟨X1.heap.size + 2, 0, none⟩), .pointer (some ⟨X1.heap.size + 1, 0, none⟩)]) rfl (hO.fn _) (enters_of Tryz.func39 (by kernel_rfl) rfl)
        ((gbehind_stops F hO (6 - 1 - 1 - 1) (by decide) 48 X.heap.size w a cap m b cwd L hF HN.out x.1 x.2.1 x.2.2 ga gc G (by have := hsG.1; omega) (size_ok hsG (HPL.out _ hlen)) hsG.2.2 X1.heap.size (X1.heap.size + 1) (X1.heap.size + 2) X2 HBE.out).inRound l)
        (fun h k => h.trans k) (fun Y lo o o' hlo ho hc hw => KpX.put (m := X2.heap.size) (by have := HI.out.low.size; omega) Y lo o o' hlo ho hc hw) (Below.refl _ _) (fun _ => rfl)
        (fun pre2 Y => InnI X2.heap.size X pre2 Y)
        (fun c pre2 Y => c = Code.ret ∧ 1024 < pre2.length ∧ Below X.heap.size X Y)
        (fun s Y Z row h hg hr => h.grown hg (fun r e => by have := (hr r e).1; omega) (fun r e => (hr r e).2))
        (fun c s Y Z row h hg hr => ⟨h.1, h.2.1, below_ge h.2.2 hg h.2.2.size (fun r e => by have := (hr r e).1; omega)⟩)
        ⟨Nat.le_refl _, ⟨none, 0, HNXT.out, World.ownsRow_nil _ _ _ _⟩, Nat.zero_le _, HXX2.out⟩
        (fun f a' Y => ∃ bf, Y.heap[bf]? = some (.cells (fdC f) 59 (0, 0)) ∧ X2.heap.size ≤ bf ∧ a' = { tmps := #[.agg #[.slice a L.length cap, .int .i64 m, .int .i64 b], .int .i64 cwd, sv p, sv q, .pointer (some ⟨w.heap.size, 0, none⟩), undef, undef, undef, .pointer (some ⟨w.heap.size + 1, 0, none⟩), .pointer (some ⟨bs, 0, none⟩), .pointer (some ⟨bp, 0, none⟩), .pointer (some ⟨bx, 0, none⟩), .pointer (some ⟨X.heap.size, 0, none⟩), .pointer (some ⟨bf, 0, none⟩), sv p, sv q, .bool true, .bool false, .agg #[.slice a L.length cap, .int .i64 m, .int .i64 b], .int .i64 cwd, .agg #[.slice a L.length cap, .int .i64 m, .int .i64 b, .int .i64 cwd], .agg #[.slice a L.length cap, .int .i64 m, .int .i64 b, .int .i64 cwd], sv p, .slice pa n0 pc, sv p, sv q, .func (.func 35) #[] #[.pointer (some ⟨bp + 1, 0, none⟩), .pointer (some ⟨bp + 1 + 1, 0, none⟩)], .agg #[sv x.val.t, sv x.val.q, .bool mg, .bool x.val.sl], .agg #[.slice a L.length cap, .int .i64 m, .int .i64 b, .int .i64 cwd], .slice ga g0 gc, .agg #[sv x.val.t, sv x.val.q, .bool mg, .bool x.val.sl], .func (.func 39) #[] #[.pointer (some ⟨X1.heap.size, 0, none⟩), .pointer (some ⟨X1.heap.size + 2, 0, none⟩), .pointer (some ⟨X1.heap.size + 1, 0, none⟩)], fdV f, undef, undef, undef, undef, undef, undef, undef, undef, undef, undef], defers := [] })
        (fun f a' s Y Z row h hg hr => by obtain ⟨bf, h1, h2, h3⟩ := h; exact ⟨bf, cells_grown h1 hg (fun r e => (hr r e).2), h2, h3⟩)
        ?assign2 ?body2 ?done2 ?stop2
      case assign2 =>
        intro l2 pre2 f Y K hI2 hK
        have hb := below_box Y (.cells (fdC f) 59)
        have hn := new_block Y (.cells (fdC f) 59)
        have hYs := hI2.low.size
        have hKK := hK { tmps := #[.agg #[.slice a L.length cap, .int .i64 m, .int .i64 b], .int .i64 cwd, sv p, sv q, .pointer (some ⟨w.heap.size, 0, none⟩), undef, undef, undef, .pointer (some ⟨w.heap.size + 1, 0, none⟩), .pointer (some ⟨bs, 0, none⟩), .pointer (some ⟨bp, 0, none⟩), .pointer (some ⟨bx, 0, none⟩), .pointer (some ⟨X.heap.size, 0, none⟩), .pointer (some ⟨Y.heap.size, 0, none⟩), sv p, sv q, .bool true, .bool false, .agg #[.slice a L.length cap, .int .i64 m, .int .i64 b], .int .i64 cwd, .agg #[.slice a L.length cap, .int .i64 m, .int .i64 b, .int .i64 cwd], .agg #[.slice a L.length cap, .int .i64 m, .int .i64 b, .int .i64 cwd], sv p, .slice pa n0 pc, sv p, sv q, .func (.func 35) #[] #[.pointer (some ⟨bp + 1, 0, none⟩), .pointer (some ⟨bp + 1 + 1, 0, none⟩)], .agg #[sv x.val.t, sv x.val.q, .bool mg, .bool x.val.sl], .agg #[.slice a L.length cap, .int .i64 m, .int .i64 b, .int .i64 cwd], .slice ga g0 gc, .agg #[sv x.val.t, sv x.val.q, .bool mg, .bool x.val.sl], .func (.func 39) #[] #[.pointer (some ⟨X1.heap.size, 0, none⟩), .pointer (some ⟨X1.heap.size + 2, 0, none⟩), .pointer (some ⟨X1.heap.size + 1, 0, none⟩)], fdV f, undef, undef, undef, undef, undef, undef, undef, undef, undef, undef], defers := [] } (Y.alloc (.cells (fdC f) 59))
          ((KeepsOthers.alloc Y _).from _) (KpX.of_below (by have := HI.out.low.size; omega) hb) (hI2.grown (World.grownBy_alloc Y _ none) (fun r e => by cases e) (fun r e => by cases e)) ⟨Y.heap.size, hn, hI2.big, rfl⟩
        clear hb hn hK
        unfold fdV fdC at hKK ⊢
        gi_wp2
        exact hKK
      case body2 =>
        intro l2 pre2 f a2 Y hl2 hlr2 hI2 hA2 hlen2
        obtain ⟨bf, hbf, hbfX, rfl⟩ := hA2
        obtain ⟨na, nc, hnb, hno⟩ := hI2.next
        have hres := kept hI2.low HI.out.res
        have r0 := blk_cell hres 0
        have rf := blk_free hres 0
        have f0 := blk_cell hbf 0
        have f1 := blk_cell hbf 1
        have hlr : w.heap.size + 1 < Y.heap.size := lt_of_block hres
        have hXY := hI2.low.size
        have hwX := HI.out.low.size
        unfold fdC at f0 f1
        by_cases h1024 : pre2.length = 1024
        · rw [h1024] at hnb
          have n0' := hnb.cell
          have HFA := Lib.hid (show KeepsFrom X2.heap.size Y (Y.setCell ⟨w.heap.size + 1, 0, none⟩ (.slice none 0 0)) from (KeepsOthers.setCell Y _ _).from _)
          have HFB := Lib.hid (show 1024 < (pre2 ++ [f]).length by rw [List.length_append, List.length_singleton]; omega)
          have HFC := Lib.hid (show Below X.heap.size X (Y.setCell ⟨w.heap.size + 1, 0, none⟩ (.slice none 0 0)) from
            hI2.low.trans ⟨rfl, rfl, rfl, (KeepsWalks.setCell Y _ _).size, fun i _ => same_cell (show Boxed Y (w.heap.size + 1) 29 (.slice none 0 0) from hres) i⟩)
          clear hnb hno hres hI2 h1024
          gi_wp2
          exact ⟨HFA.out, rfl, HFB.out, HFC.out⟩
        · obtain ⟨k9, hk9⟩ : ∃ k9, k9 = pre2.length := ⟨_, rfl⟩
          rw [← hk9] at hnb hno h1024
          have n0' := hnb.cell
          have hne : ((k9 : Int) == 1024) = false := by rw [beq_eq_false_iff_ne]; omega
          have hkl : k9 ≤ 1024 := by have := hI2.few; omega
          have HNB := Lib.hid hnb
          have HO := Lib.hid hno
          have HI2 := Lib.hid hI2
          have HK9 := Lib.hid hk9
          obtain ⟨i0, hi0, hz0, hz1, hz2⟩ := info_parts found_parts
          have HNE := Lib.hid (show k9 < 1024 by omega)
          clear hnb hno hI2 hk9 h1024 hres
          gi_wp2_with (first | (gi_at_builtin; (refine wpListIn_append_lies _ rfl _ _ 48 rfl X.heap.size 59 i0 (.agg #[.string ByteArray.empty, .int .i64 0]) 2 24 Tryz.underlying48 hi0 hz0 hz1 hz2 rfl (by decide) _ _ _ rfl (HO.out.alloc _) ⟨Y.heap.size, 0, none⟩ 1 1 [sv f.1, .int .i64 f.2] rfl rfl (World.news_of_block (cs := #[sv f.1, .int .i64 f.2]) (t := 59) (fr := (0, 0)) (heap_alloc_new Y _)) (by simp [Value.oneCell']) (by decide) (by unfold maxLen; omega) (by omega) (by simp; omega) _ rfl ?_); intro g' cap' wa hown hgrow hat hlt'; rw [World.size_alloc] at hat; obtain ⟨hv1, hk2, hv2, hr2, ho2⟩ := kpx_append HNB.out HO.out (Nat.le_refl _) hXY (Nat.le_refl _) hown hgrow hat hlt'; have hc1 := hv1.cell; have hf1 := hv1.frozen) | fail)
          have hlen9 : (pre2 ++ [f]).length = k9 + 1 := by rw [List.length_append, List.length_singleton, ← HK9.out]
          refine ⟨ho2.from _, hk2.weak hwX, ⟨Nat.le_trans HI2.out.big ho2.size, ⟨some ⟨g', 0, none⟩, cap', by rw [hlen9]; exact hv2, by rw [hlen9, flatF_more]; exact hr2⟩, by rw [hlen9]; have := HNE.out; omega, HI2.out.low.trans hk2.low⟩⟩
      case done2 =>
        intro xs Y hxs hI2
        obtain ⟨na, nc, hnb, hno⟩ := hI2.next
        have n0' := hnb.cell
        have hbpY := kept hI2.low HBP.out
        have q0 := blk_cell hbpY 0
        have qf := blk_free hbpY 0
        have hlb : bp < Y.heap.size := lt_of_block hbpY
        obtain ⟨k9, hk9⟩ : ∃ k9, k9 = xs.length := ⟨_, rfl⟩
        rw [← hk9] at n0'
        have hX9 : Boxed (Y.setCell ⟨bp, 0, none⟩ (.slice na k9 nc)) bp 48 (.slice na k9 nc) := Boxed.set _ hbpY
        have hg9 := grownBy_setCell' Y bp (.slice na k9 nc)
        have hb9 : ∀ k, k ≠ bp → (Y.setCell ⟨bp, 0, none⟩ (.slice na k9 nc)).heap[k]? = Y.heap[k]? := fun k hk => Below.heap_setCell _ _ _ _ hk
        have hlow := hI2.low
        have hOI := HI.out
        have hfin : KeepsFrom W5.heap.size X (Y.setCell ⟨bp, 0, none⟩ (.slice na k9 nc)) ∧ KeepP (bp + 1) (bp + 1 + 1) X (Y.setCell ⟨bp, 0, none⟩ (.slice na k9 nc)) ∧ OutI W5.heap.size w L cwd (srC a L.length cap m b cwd) p (w.heap.size + 1) bs bp ((pre ++ [x]).map Subtype.val) (Y.setCell ⟨bp, 0, none⟩ (.slice na k9 nc)) := by
          have hbig := hOI.big
          refine ⟨⟨Nat.le_trans hlow.size hg9.size, fun k o _ hk hc => ?_⟩, ⟨?_, ?_⟩, ⟨?_, ?_, ?_, ?_, ?_⟩⟩
          · have hkl := (Array.getElem?_eq_some_iff.1 hk).1
            rw [hb9 k (fun e => by rw [e, HBP.out] at hk; cases hk; cases hc), hlow.block k hkl]; exact hk
          · rw [hb9 _ (by omega)]; exact hlow.block _ (by omega)
          · rw [hb9 _ (by omega)]; exact hlow.block _ (by omega)
          · exact Nat.le_trans hbig (Nat.le_trans hlow.size hg9.size)
          · exact (hb9 _ (fun e => by have h := hOI.res; rw [e] at h; have h2 := (show X.heap[bp]? = _ from h).symm.trans HBP.out; simp at h2)).trans (kept hlow hOI.res)
          · exact (hb9 _ (fun e => by have h := hOI.srch; rw [e] at h; have h2 := h.symm.trans HBP.out; simp at h2)).trans (kept hlow hOI.srch)
          · have hle : ¬ 1024 < (behW L cwd G x.1).length := by rw [← hxs]; have := hI2.few; omega
            refine ⟨behW L cwd G x.1, na, nc, ?_, ?_, ?_, ?_⟩
            · rw [List.map_append]
              show runW L cwd (begW L cwd p) (pre.map Subtype.val ++ [x.1]) = _
              rw [runW_snoc, HRUN.out]
              show (if 1024 < _ then none else some _) = _
              rw [if_neg hle]
            · have h := sz_next hF cwd hsG x.1 x.2.2 hle
              simpa using h
            · rw [← hxs, ← hk9]; exact hX9
            · rw [← hxs]
              refine World.ownsRow.kept (row := some bp) (own_less hno hOI.low.size) hg9 ?_
              cases hv : (Value.slice na xs.length nc).ownBlock with
              | none => exact Or.inl rfl
              | some g => exact Or.inr (fun e => by have h1 := (hno.lt g hv).1; have h2 := Option.some.inj e; omega)
          · exact (hOI.low.trans (hlow.mono hOI.low.size)).trans ⟨hg9.os, hg9.tape, hg9.output, hg9.size, fun k hk => hb9 k (by omega)⟩
        have HFI := Lib.hid hfin
        clear hfin hX9 hg9 hb9 hlow hOI hnb hno hbpY hI2 hk9 hxs
        gi_wp2
        exact HFI.out
      case stop2 =>
        intro c pre2 Y hpre2 hX2
        obtain ⟨rfl, h1024, hlow⟩ := hX2
        have hOI := HI.out
        have hfin : KeepsFrom W5.heap.size X Y ∧ (Code.ret = Code.ret ∧ OutX w L cwd p (w.heap.size + 1) ((pre ++ [x]).map Subtype.val) Y) := by
          refine ⟨⟨hlow.size, fun k o _ hk _ => (hlow.block k (Array.getElem?_eq_some_iff.1 hk).1).trans hk⟩, rfl, kept hlow hOI.res, ?_, hOI.low.trans (hlow.mono hOI.low.size)⟩
          rw [List.map_append]
          show runW L cwd (begW L cwd p) (pre.map Subtype.val ++ [x.1]) = none
          rw [runW_snoc, HRUN.out]
          show (if 1024 < _ then none else some _) = none
          rw [if_pos (Nat.lt_of_lt_of_le h1024 hpre2.length_le)]
        have HFA := Lib.hid hfin.1
        have HFB := Lib.hid hfin.2.2
        clear hfin hlow hOI
        gi_wp2
        exact ⟨HFA.out, rfl, HFB.out⟩
    case done =>
      intro D ys X hD hys hI hDk
      obtain ⟨G, pa', pc', hrun, hsz', hbx, hrw⟩ := hI.paths
      rw [hys] at hrun
      have HRUN := Lib.hid hrun
      have HI := Lib.hid hI
      have CRi := lrising pa' pc' G (by have := hsz'.1; omega) X (own_cells2 hrw)
      have p0 := hbx.cell
      clear hrun hI hbx hrw hsz'
      gi_wp2
      refine (hO.calls CRi).mono ?_
      rintro e w8 ⟨v, rfl, hT, hb8⟩
      obtain ⟨na, nc, hve, -⟩ := texts_slice (texts_zero hT)
      generalize hlen9 : ((G.map Prod.fst).mergeSort leB).length = nl at hve
      subst hve
      have hbx := kept hb8 HI.out.res
      have r0 := blk_cell hbx 0
      have rf := blk_free hbx 0
      have hD8 := kept hb8 hDk
      have hlt8 : w.heap.size + 1 < w8.heap.size := lt_of_block hbx
      have hl8 := HI.out.low.trans (hb8.mono HI.out.low.size)
      have hb9 : w.heap.size + 1 < X.heap.size := HI.out.res.lt
      have hT9 : (w8.setCell ⟨w.heap.size + 1, 0, none⟩ (.slice na nl nc)).ownsRow X.heap.size 9 1 (.slice na nl nc) ((G.map Prod.fst).mergeSort leB).length (((G.map Prod.fst).mergeSort leB).map strv) := by
        refine World.ownsRow.kept (row := some (w.heap.size + 1)) hT (grownBy_setCell' w8 _ _) ?_
        cases hv : (Value.slice na nl nc).ownBlock with
        | none => exact Or.inl rfl
        | some g => exact Or.inr (fun e => by have := (hT.lt g hv).1; have := Option.some.inj e; omega)
      have hB9 : Boxed (w8.setCell ⟨w.heap.size + 1, 0, none⟩ (.slice na nl nc)) (w.heap.size + 1) 29 (.slice na nl nc) := Boxed.set _ hbx
      have hL9 : Below w.heap.size w (w8.setCell ⟨w.heap.size + 1, 0, none⟩ (.slice na nl nc)) := hl8.setCell (show w.heap.size ≤ w.heap.size + 1 by omega) _
      have hD9 : (w8.setCell ⟨w.heap.size + 1, 0, none⟩ (.slice na nl nc)).heap[D]? = some (.deferred (some [])) := (Below.heap_setCell _ _ _ _ (show D ≠ w.heap.size + 1 by omega)).trans hD8
      have HGA := Lib.hid (show globW L cwd p q = (G.map Prod.fst).mergeSort leB by rw [HGL.out, HRUN.out]; rfl)
      have HFIN := Lib.hid (And.intro hT9 (And.intro hB9 (And.intro hL9 hD9)))
      clear hT hb8 hbx hD8 hl8 hT9 hB9 hL9 hD9 hDk hlen9
      gi_wp2
      obtain ⟨hT9, hB9, hL9, hD9⟩ := HFIN.out
      have hgp := grownBy_putObj' (w8.setCell ⟨w.heap.size + 1, 0, none⟩ (.slice na nl nc)) D (.deferred none)
      have hcp : ∀ r, some D = some r → ∃ o : Obj, (w8.setCell ⟨w.heap.size + 1, 0, none⟩ (.slice na nl nc)).heap[r]? = some o ∧ o.isCells = false := fun r e => by cases e; exact ⟨_, hD9, rfl⟩
      refine ⟨by simp, .inl ⟨_, _, rfl, run_takeDeferred hD9, ?_⟩⟩
      exact ⟨_, exp_res _ _ _ _ rfl (Boxed.cell (cells_grown hB9 hgp hcp)), _, rfl, by rw [HGA.out]; exact own_less (own_grown hT9 hgp hcp) HI.out.low.size, below_ge hL9 hgp hL9.size (fun r e => by cases e; omega)⟩
    case stop =>
      intro D c pre X hD hpre hX hDk
      obtain ⟨rfl, hX⟩ := hX
      have HX := Lib.hid hX
      have HDK := Lib.hid hDk
      have HGA := Lib.hid (show globW L cwd p q = [] by
        obtain ⟨r, hr⟩ := hpre
        rw [HGL.out, ← hr, runW_none _ r _ hX.none]; rfl)
      clear hX hDk
      gi_wp2
      have hgp := grownBy_putObj' X D (.deferred none)
      have hcp : ∀ r, some D = some r → ∃ o : Obj, X.heap[r]? = some o ∧ o.isCells = false := fun r e => by cases e; exact ⟨_, HDK.out, rfl⟩
      refine ⟨by simp, .inl ⟨_, _, rfl, run_takeDeferred HDK.out, ?_⟩⟩
      exact ⟨_, exp_res _ _ _ _ rfl (Boxed.cell (cells_grown HX.out.res hgp hcp)), _, rfl, by rw [HGA.out]; exact World.ownsRow_nil _ _ _ _, below_ge HX.out.low hgp HX.out.low.size (fun r e => by cases e; omega)⟩
end Go.Proofs.YtclhpedecimicaaGreat
