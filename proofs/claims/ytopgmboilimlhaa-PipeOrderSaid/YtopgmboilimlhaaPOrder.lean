/-
  The law PipeOrder, walked.
-/
import Derived.Test.YtopgmboilimlhaaPArgs
import Derived.Test.YtopgmboilimlhaaPMoves
import Derived.Test.YtopgmboilimlhaaPEndsL
namespace Go.Proofs.Ytopgmboilimlhaa
set_option maxRecDepth 100000
open Go Go.RowKit

theorem new_rd {size : Int} {a : Pip} (h : newPip size = (a, 0)) : a.rd ≠ 0 := by
  unfold newPip at h
  split at h
  · simp only [Prod.mk.injEq] at h; exact absurd h.2 (by decide)
  · simp only [Prod.mk.injEq] at h; rw [← h.1]; show (1 : Int) ≠ 0; decide
theorem new_err {size : Int} {a : Pip} {e : Int} (h : newPip size = (a, e)) (he : e ≠ 0) : e = 22 := by
  unfold newPip at h
  split at h
  · simp only [Prod.mk.injEq] at h; exact h.2.symm
  · simp only [Prod.mk.injEq] at h; exact absurd h.2.symm he
theorem write_rd {p q : Pip} {s : List UInt8} {k e : Int} (hz : writePip p s = (q, k, e)) : q.rd = p.rd := by
  unfold writePip at hz
  split at hz
  · simp only [Prod.mk.injEq] at hz; rw [← hz.1]
  split at hz
  · simp only [Prod.mk.injEq] at hz; rw [← hz.1]
  split at hz
  · simp only [Prod.mk.injEq] at hz; rw [← hz.1]
  · simp only [Prod.mk.injEq] at hz; rw [← hz.1]
theorem read_rd {p q : Pip} {n : Int} {t : List UInt8} {e : Int} (hz : readPip p n = (q, t, e)) : q.rd = p.rd := by
  unfold readPip at hz
  split at hz
  · simp only [Prod.mk.injEq] at hz; rw [← hz.1]
  split at hz
  · split at hz
    · simp only [Prod.mk.injEq] at hz; rw [← hz.1]
    · simp only [Prod.mk.injEq] at hz; rw [← hz.1]
  · simp only [Prod.mk.injEq] at hz; rw [← hz.1]
theorem below_drew8 {n : Nat} {A B : World} (h : Below n A B) : Below n A B.drew := ⟨h.os, h.tape, h.output, h.size, h.block⟩
/-- What holds at the loop's head: what was put in is what was told and what waits. -/
structure OrdRel (w : World) (b : Nat) (size : Int) (K : Nat) (A B : ByteArray) (p : Pip) (wr : World) : Prop where
  all : A.data.toList = B.data.toList ++ p.data
  few : A.data.toList.length ≤ K * 2000
  fit : fitPip p = true
  cap : p.cap = size
  read : p.rd ≠ 0
  below : Below w.heap.size w wr
  blk : wr.heap[b]? = some (.cells #[.string ⟨p.data.toArray⟩, .int .i64 p.rd, .int .i64 p.wr, .int .i64 p.cap] 23 (0, 0))

set_option maxHeartbeats 16000000 in
theorem porder_walk (size : Int) (v1 v2 : Value) (X : List ByteArray) (Y : List UInt8) (w : World) (hT : TextsIn w v1 X) (hB : BytesIn w v2 Y) :
    Calls Try.prog 4 #[.int .i64 size, v1, v2] w fun e w' => e = .returned (.bool true) ∧ Below w.heap.size w w' := by
  obtain ⟨al, cl, rfl, hl1, hl2, hlc⟩ := hT
  obtain ⟨ac, cc, rfl, hc1, hc2, hcc⟩ := hB
  unfold maxLen at hl2 hc2
  have HLC := Lib.hid hlc
  have HCC := Lib.hid hcc
  have HB0 := Lib.hid (Below.refl w.heap.size w)
  obtain ⟨⟨a, ea⟩, hza⟩ : ∃ z, newPip size = z := ⟨_, rfl⟩
  obtain ⟨DA, hDA⟩ : ∃ D : ByteArray, D = ⟨a.data.toArray⟩ := ⟨_, rfl⟩
  have HNL := Lib.hid (show ∀ W, Calls Try.prog 7 #[.int .i64 size] W fun e w' => e = .returned (.tuple #[.agg #[.string DA, .int .i64 a.rd, .int .i64 a.wr, .int .i64 a.cap], .int .i64 ea]) ∧ Below W.heap.size W w' from fun W => by rw [hDA]; exact lnew8 size a ea hza W)
  have HZA := Lib.hid hza
  have HDA := Lib.hid hDA
  clear hlc hcc hza hDA
  go_enter Try.func4, Try.ntmps4
  go_wp2_with fail
  refine (HNL.out _).mono ?_
  rintro e w2 ⟨rfl, hb2⟩
  obtain ⟨w3, hw3⟩ : ∃ z, z = w2.alloc (.cells #[.string DA, .int .i64 a.rd, .int .i64 a.wr, .int .i64 a.cap] 23) := ⟨_, rfl⟩
  have hb3 : Below w2.heap.size w2 w3 := by rw [hw3]; exact below_box w2 _
  have HB3 := Lib.hid (hb2.trans (hb3.mono hb2.size))
  have hK : w3.heap[w2.heap.size]? = some (.cells #[.string DA, .int .i64 a.rd, .int .i64 a.wr, .int .i64 a.cap] 23 (0, 0)) := by rw [hw3]; exact new_block w2 _
  have HK := Lib.hid hK
  have hwb : w.heap.size ≤ w2.heap.size := hb2.size
  clear hb2 hb3
  go_upto_region 2 with fail
  rw [← hw3]
  clear hw3
  have k0 := blk_cell hK 0
  have k1 := blk_cell hK 1
  have k2 := blk_cell hK 2
  have k3 := blk_cell hK 3
  have kl := lt_of_block hK
  clear hK
  have HEND := Lib.hid (show ∀ W', Below w.heap.size w W' → Below w.heap.size w W' from fun _ h => h)
  by_cases hea : ea = 0
  · subst hea
    obtain ⟨nf1, nf2, nf3⟩ := new_fits (size := size) (by rw [HZA.out])
    have nf4 : a.rd ≠ 0 := new_rd HZA.out
    rw [HZA.out] at nf1 nf2 nf3
    by_cases h60 : 60 < (X.length : Int)
    · have hd60 : decide (60 < (X.length : Int)) = true := decide_eq_true h60
      have hd60n : decide (60 < X.length) = true := decide_eq_true (by omega)
      go_wp2_with (first | (go_at_call 11; refine (awake8 _).mono ?_; rintro e wz ⟨rfl, hbz⟩; have HBZ := Lib.hid (HB3.out.trans (hbz.mono HB3.out.size)); clear hbz) | fail)
      go_ret
      exact ⟨by rfl, HEND.out _ HBZ.out⟩
    have hd60 : decide (60 < (X.length : Int)) = false := decide_eq_false h60
    have hd60n : decide (60 < X.length) = false := decide_eq_false (by omega)
    have HREL := Lib.hid (show OrdRel w w2.heap.size size 0 ⟨#[]⟩ ⟨#[]⟩ a w3 from ⟨by rw [nf3]; rfl, by simp, nf1, nf2, nf4, HB3.out, by rw [← HDA.out]; exact HK.out⟩)
    clear nf1 nf2 nf3 nf4 k0 k1 k2 k3 kl
    go_wp2_with fail
    go_loopw [9, 10, 43] (fun iv ov kv wr => ∃ K A B p, K ≤ X.length ∧ kv = .int .i64 K ∧ iv = .string A ∧ ov = .string B ∧ Hid (OrdRel w w2.heap.size size K A B p wr)) (fun _ _ kv _ => X.length - (intOf kv).toNat)
    case atStart => exact ⟨0, _, _, a, by omega, rfl, rfl, rfl, HREL⟩
    case round =>
      obtain ⟨K, A, B, p, hKl, rfl, rfl, rfl, HR⟩ := hrel
      have HBR := Lib.hid HR.out.below
      by_cases hlt : K < X.length
      · obtain ⟨bx, ox, rfl, hxc⟩ := HLC.out K hlt
        have x1 := cell_below HBR.out hxc
        obtain ⟨s, hs⟩ : ∃ s, s = X[K] := ⟨_, rfl⟩
        rw [← hs] at x1
        clear hxc hs
        have b1 : (0 : Int) ≤ (K : Int) := by omega
        have b2 : (K : Int) < (X.length : Int) := by omega
        by_cases h20 : 2000 < (s.size : Int)
        · have hd20 : decide (2000 < (s.size : Int)) = true := decide_eq_true h20
          go_wp2_with (first | (go_at_call 11; refine (awake8 _).mono ?_; rintro e wz ⟨rfl, hbz⟩; have HBZ := Lib.hid (HBR.out.trans (hbz.mono HBR.out.size)); clear hbz) | fail)
          go_ret
          exact ⟨by rfl, HEND.out _ HBZ.out⟩
        have hd20 : decide (2000 < (s.size : Int)) = false := decide_eq_false h20
        obtain ⟨⟨q, k, e1⟩, hzw⟩ : ∃ z, writePip p s.data.toList = z := ⟨_, rfl⟩
        obtain ⟨D, hD⟩ : ∃ D : ByteArray, D = ⟨p.data.toArray⟩ := ⟨_, rfl⟩
        obtain ⟨DQ, hDQ⟩ : ∃ D : ByteArray, D = ⟨q.data.toArray⟩ := ⟨_, rfl⟩
        have HD := Lib.hid hD
        have HDQ := Lib.hid hDQ
        have HWL := Lib.hid (show ∀ W, Calls Try.prog 14 #[.agg #[.string D, .int .i64 p.rd, .int .i64 p.wr, .int .i64 p.cap], .string s] W fun e w' => e = .returned (.tuple #[.agg #[.string DQ, .int .i64 q.rd, .int .i64 q.wr, .int .i64 q.cap], .int .i64 k, .int .i64 e1]) ∧ Below W.heap.size W w' from fun W => by rw [hD, hDQ]; exact lwrite8 p HR.out.fit s (by omega) q k e1 hzw W)
        have HBK := Lib.hid (show wr.heap[w2.heap.size]? = some (.cells #[.string D, .int .i64 p.rd, .int .i64 p.wr, .int .i64 p.cap] 23 (0, 0)) by rw [hD]; exact HR.out.blk)
        obtain ⟨m1, m2, m3, m4, m5⟩ := write_pip HR.out.fit _ hzw
        have M2 := Lib.hid m2
        have M6 := Lib.hid (write_rd hzw)
        have M7 := Lib.hid (write_moves HR.out.fit _ hzw)
        have M3 := Lib.hid m3
        have M4 := Lib.hid m4
        clear hzw hD hDQ m2 m3 m4 m5
        have k0 := blk_cell HBK.out 0
        have k1 := blk_cell HBK.out 1
        have k2 := blk_cell HBK.out 2
        have k3 := blk_cell HBK.out 3
        have kl := lt_of_block HBK.out
        go_wp2_with fail
        clear x1 k0 k1 k2 k3 kl
        refine (HWL.out _).mono ?_
        rintro e w5 ⟨rfl, hb5⟩
        obtain ⟨w6, hw6⟩ : ∃ z, z = w5.alloc (.cells #[.string DQ, .int .i64 q.rd, .int .i64 q.wr, .int .i64 q.cap] 23) := ⟨_, rfl⟩
        have hb6 : Below wr.heap.size wr w6 := by rw [hw6]; exact hb5.alloc hb5.size _
        have HB6 := Lib.hid (HBR.out.trans (hb6.mono HBR.out.size))
        have HK6 := Lib.hid ((hb6.block w2.heap.size (lt_of_block HBK.out)).trans HBK.out)
        have hU : w6.heap[w5.heap.size]? = some (.cells #[.string DQ, .int .i64 q.rd, .int .i64 q.wr, .int .i64 q.cap] 23 (0, 0)) := by rw [hw6]; exact new_block w5 _
        have HU := Lib.hid hU
        have hne : w2.heap.size < w5.heap.size := Nat.lt_of_lt_of_le (lt_of_block HBK.out) hb5.size
        clear hb5 hb6 hU
        go_upto_region 11 with fail
        rw [← hw6]
        clear hw6
        have k0 := blk_cell HK6.out 0
        have k1 := blk_cell HK6.out 1
        have k2 := blk_cell HK6.out 2
        have k3 := blk_cell HK6.out 3
        have s0 := blk_free HK6.out 0
        have s1 := blk_free HK6.out 1
        have s2 := blk_free HK6.out 2
        have s3 := blk_free HK6.out 3
        have kl := lt_of_block HK6.out
        have u0 := blk_cell HU.out 0
        have u1 := blk_cell HU.out 1
        have u2 := blk_cell HU.out 2
        have u3 := blk_cell HU.out 3
        by_cases he1 : e1 = 0
        · subst he1
          obtain ⟨n1, n2, n3⟩ := M3.out rfl
          have hkd1 : decide (k < 0) = false := decide_eq_false (by omega)
          have hsl : s.data.toList.length = s.size := Array.length_toList
          have hkd2 : decide ((s.size : Int) < k) = false := decide_eq_false (by omega)
          obtain ⟨kn, rfl⟩ : ∃ kn : Nat, k = (kn : Int) := ⟨k.toNat, by omega⟩
          have hkd3 : decide (s.size < kn) = false := decide_eq_false (by omega)
          obtain ⟨E, hE⟩ : ∃ E : ByteArray, E = ⟨(s.data.toList.take kn).toArray⟩ := ⟨_, rfl⟩
          have c2 := fun W => slice_hi s (kn : Int) kn rfl (by omega) W
          rw [← hE] at c2
          have hEl : E.data.toList = s.data.toList.take kn := by rw [hE]
          have hEs : E.size ≤ 2000 := by
            have e : E.size = E.data.toList.length := Array.length_toList.symm
            rw [e, hEl, List.length_take]
            omega
          have hAs : A.size ≤ K * 2000 := by
            have e : A.size = A.data.toList.length := Array.length_toList.symm
            rw [e]
            exact HR.out.few
          have hsum : ¬ 9223372036854775807 < A.size + E.size := by omega
          have HA2 := Lib.hid (show (A ++ E).data.toList = B.data.toList ++ q.data by
            have e : (A ++ E).data.toList = A.data.toList ++ E.data.toList := by simp
            rw [e, HR.out.all, hEl, n3, Int.toNat_natCast, List.append_assoc])
          have HA3 := Lib.hid (show (A ++ E).data.toList.length ≤ (K + 1) * 2000 by
            have e : (A ++ E).data.toList = A.data.toList ++ E.data.toList := by simp
            have e2 : E.data.toList.length = E.size := Array.length_toList
            have := HR.out.few
            rw [e, List.length_append, e2]
            omega)
          clear n1 n2 n3 hE hEl hsl
          have HA0 := Lib.hid (show OrdRel w w2.heap.size size (K + 1) (A ++ E) B q (put4 w6 w2.heap.size (.string DQ) (.int .i64 q.rd) (.int .i64 q.wr) (.int .i64 q.cap)) from ⟨HA2.out, HA3.out, m1, by rw [M2.out]; exact HR.out.cap, by rw [M6.out]; exact HR.out.read, put4_below HB6.out hwb _ _ _ _, by rw [← HDQ.out]; exact put4_block HK6.out _ _ _ _⟩)
          go_upto_region 18 with fail
          obtain ⟨w7, hw7⟩ : ∃ z, z = put4 w6 w2.heap.size (.string DQ) (.int .i64 q.rd) (.int .i64 q.wr) (.int .i64 q.cap) := ⟨_, rfl⟩
          change Code.wp _ _ _ _ (put4 w6 w2.heap.size (.string DQ) (.int .i64 q.rd) (.int .i64 q.wr) (.int .i64 q.cap))
          rw [← hw7]
          rw [← hw7] at HA0
          clear hw7 k0 k1 k2 k3 s0 s1 s2 s3 kl u0 u1 u2 u3
          have HK7 := Lib.hid (show w7.heap[w2.heap.size]? = some (.cells #[.string DQ, .int .i64 q.rd, .int .i64 q.wr, .int .i64 q.cap] 23 (0, 0)) by rw [HDQ.out]; exact HA0.out.blk)
          have k0 := blk_cell HK7.out 0
          have k1 := blk_cell HK7.out 1
          have k2 := blk_cell HK7.out 2
          have k3 := blk_cell HK7.out 3
          have s0 := blk_free HK7.out 0
          have s1 := blk_free HK7.out 1
          have s2 := blk_free HK7.out 2
          have s3 := blk_free HK7.out 3
          have kl := lt_of_block HK7.out
          by_cases hcn : K < Y.length
          · obtain ⟨by_, oy, rfl, hyc⟩ := HCC.out K hcn
            have y1 := cell_below HA0.out.below hyc
            have c1 : (K : Int) < (Y.length : Int) := by omega
            have c1d : decide ((K : Int) < (Y.length : Int)) = true := decide_eq_true c1
            obtain ⟨y, hy⟩ : ∃ y : Int, y = ((Y[K]).toNat : Int) := ⟨_, rfl⟩
            have hyr : 0 ≤ y ∧ y ≤ 255 := by
              have := (Y[K]).toNat_lt
              omega
            rw [← hy] at y1
            clear hy hyc
            obtain ⟨r, hr⟩ : ∃ r : Int, r = Int.tmod y 9 := ⟨_, rfl⟩
            have hrr : 0 ≤ r ∧ r ≤ 8 := by
              rw [hr, Int.tmod_eq_emod_of_nonneg hyr.1]
              omega
            have hw9 : IntKind.i64.wrap (Int.tmod y 9) = r := by rw [IntKind.wrap_i64, ← hr]; omega
            have hwr : IntKind.i64.wrap (r + 1) = r + 1 := by rw [IntKind.wrap_i64]; omega
            have hwy : IntKind.i64.wrap y = y := by rw [IntKind.wrap_i64]; omega
            have hrs := hr.symm
            obtain ⟨⟨q2, t, e2⟩, hzr⟩ : ∃ z, readPip q (r + 1) = z := ⟨_, rfl⟩
            obtain ⟨D2, hD2⟩ : ∃ D : ByteArray, D = ⟨q2.data.toArray⟩ := ⟨_, rfl⟩
            obtain ⟨TX, hTX⟩ : ∃ D : ByteArray, D = ⟨t.toArray⟩ := ⟨_, rfl⟩
            have HRD := Lib.hid (show ∀ W, Calls Try.prog 12 #[.agg #[.string DQ, .int .i64 q.rd, .int .i64 q.wr, .int .i64 q.cap], .int .i64 (r + 1)] W fun e w' => e = .returned (.tuple #[.agg #[.string D2, .int .i64 q2.rd, .int .i64 q2.wr, .int .i64 q2.cap], .string TX, .int .i64 e2]) ∧ Below W.heap.size W w' from fun W => by rw [HDQ.out, hD2, hTX]; exact lread8 q (fit_pip.1 HA0.out.fit).2.2.1 (r + 1) q2 t e2 hzr W)
            have HRP := Lib.hid (read_pip HA0.out.fit hzr)
            have HRR := Lib.hid (read_rd hzr)
            have HD2 := Lib.hid hD2
            have HTX := Lib.hid hTX
            have HPOS := Lib.hid (show 1 ≤ r + 1 by omega)
            have HSS := Lib.hid (show ∀ W, Below w7.heap.size w7 W → (W.cell? ⟨w2.heap.size, 0, none⟩ = some (.string DQ) ∧ W.cell? ⟨w2.heap.size, 1, none⟩ = some (.int .i64 q.rd) ∧ W.cell? ⟨w2.heap.size, 2, none⟩ = some (.int .i64 q.wr) ∧ W.cell? ⟨w2.heap.size, 3, none⟩ = some (.int .i64 q.cap)) ∧ W.cell? ⟨by_, oy + K, none⟩ = some (.int .u8 y) from fun W hW => by
              have h := (hW.block w2.heap.size (lt_of_block HK7.out)).trans HK7.out
              exact ⟨⟨blk_cell h 0, blk_cell h 1, blk_cell h 2, blk_cell h 3⟩, cell_below hW y1⟩)
            have HBB := Lib.hid (Below.refl w7.heap.size w7)
            have HSI := Lib.hid hw9
            clear hzr hD2 hTX hr hrr hyr
            go_upto_region 19 with fail
            go_region_held3 (fun W => (W.cell? ⟨w2.heap.size, 0, none⟩ = some (.string DQ) ∧ W.cell? ⟨w2.heap.size, 1, none⟩ = some (.int .i64 q.rd) ∧ W.cell? ⟨w2.heap.size, 2, none⟩ = some (.int .i64 q.wr) ∧ W.cell? ⟨w2.heap.size, 3, none⟩ = some (.int .i64 q.cap)) ∧ W.cell? ⟨by_, oy + K, none⟩ = some (.int .u8 y))
              (first | exact ⟨⟨k0, k1, k2, k3⟩, y1⟩ | exact HSS.out _ (below_box _ _) | exact HSS.out _ (below_drew8 (below_box _ _)) | exact HSS.out _ HBB.out | exact HSS.out _ (HBB.out.alloc HBB.out.size _) | exact HSS.out _ (below_drew8 (HBB.out.alloc HBB.out.size _)) | exact HSS.out _ (put4_below HBB.out (Nat.le_refl _) _ _ _ _) | exact HSS.out _ (below_drew8 (put4_below HBB.out (Nat.le_refl _) _ _ _ _)))
              (first
                | (go_at_call 12; refine (HRD.out _).mono ?_; rintro e wn ⟨rfl, hbn⟩; have HBB : Hid (Below w7.heap.size w7 wn) := Lib.hid (below_next8 (below_box w7 (.cells #[.string ⟨#[]⟩, .int .i64 0, .int .i64 0, .int .i64 0] 23)) hbn (below_box w7 _).size ⟨rfl, rfl, rfl, rfl⟩); have hzz : wn.heap[w7.heap.size]? = some (.cells #[.string ⟨#[]⟩, .int .i64 0, .int .i64 0, .int .i64 0] 23 (0, 0)) := (hbn.block w7.heap.size (Nat.lt_of_lt_of_eq (Nat.lt_succ_self _) (World.size_alloc _ _).symm)).trans (new_block w7 _); have HZZ := Lib.hid hzz; have e0 := blk_cell hzz 0; have e1 := blk_cell hzz 1; have e2_ := blk_cell hzz 2; have e3 := blk_cell hzz 3; have f0 := blk_free hzz 0; have f1 := blk_free hzz 1; have f2 := blk_free hzz 2; have f3 := blk_free hzz 3; have el := lt_of_block hzz; clear hzz; obtain ⟨⟨k0, k1, k2, k3⟩, y1⟩ := HSS.out _ HBB.out)
                | (go_at_call 12; refine (HRD.out _).mono ?_; rintro e wn ⟨rfl, hbn⟩; have HBB : Hid (Below w7.heap.size w7 wn) := Lib.hid (below_next8 HBB.out hbn HBB.out.size ⟨rfl, rfl, rfl, rfl⟩); obtain ⟨⟨k0, k1, k2, k3⟩, y1⟩ := HSS.out _ HBB.out))
            · obtain ⟨w9, h9⟩ : ∃ z, z = wn.alloc (.cells #[.string D2, .int .i64 q2.rd, .int .i64 q2.wr, .int .i64 q2.cap] 23) := ⟨_, rfl⟩
              have HB9 := Lib.hid (show Below w7.heap.size w7 w9 by rw [h9]; exact HBB.out.alloc HBB.out.size _)
              have HU9 := Lib.hid (show w9.heap[wn.heap.size]? = some (.cells #[.string D2, .int .i64 q2.rd, .int .i64 q2.wr, .int .i64 q2.cap] 23 (0, 0)) by rw [h9]; exact new_block wn _)
              have hl9 : w7.heap.size ≤ wn.heap.size := HBB.out.size
              rw [← h9]
              clear h9
              have HK9 := Lib.hid ((HB9.out.block w2.heap.size (lt_of_block HK7.out)).trans HK7.out)
              have hkn : w2.heap.size < w7.heap.size := lt_of_block HK7.out
              clear k0 k1 k2 k3 s0 s1 s2 s3 kl
              try clear y1
              try clear e0 e1 e2_ e3 f0 f1 f2 f3 el
              have k0 := blk_cell HK9.out 0
              have k1 := blk_cell HK9.out 1
              have k2 := blk_cell HK9.out 2
              have k3 := blk_cell HK9.out 3
              have s0 := blk_free HK9.out 0
              have s1 := blk_free HK9.out 1
              have s2 := blk_free HK9.out 2
              have s3 := blk_free HK9.out 3
              have kl := lt_of_block HK9.out
              have u0 := blk_cell HU9.out 0
              have u1 := blk_cell HU9.out 1
              have u2 := blk_cell HU9.out 2
              have u3 := blk_cell HU9.out 3
              have hfq := fit_pip.1 HA0.out.fit
              obtain ⟨p1, p2, p3, p4, p5⟩ := HRP.out
              have hfq2 := fit_pip.1 p1
              have hds := (data_text HD2.out).2
              have HTL := Lib.hid (show TX.data.toList = t by rw [HTX.out])
              have HN0 := Lib.hid (show OrdRel w w2.heap.size size (K + 1) (A ++ E) (B ++ TX) q2 (put4 w9 w2.heap.size (.string D2) (.int .i64 q2.rd) (.int .i64 q2.wr) (.int .i64 q2.cap)) from ⟨by rw [HA0.out.all, ← p3]; simp [HTL.out], HA0.out.few, p1, by rw [p2]; exact HA0.out.cap, by rw [HRR.out]; exact HA0.out.read, put4_below (HA0.out.below.trans (HB9.out.mono HA0.out.below.size)) hwb _ _ _ _, by rw [← HD2.out]; exact put4_block HK9.out _ _ _ _⟩)
              have hBs : B.size ≤ (K + 1) * 2000 := by
                have e : B.size = B.data.toList.length := Array.length_toList.symm
                have h1 := HA0.out.few
                rw [HA0.out.all, List.length_append] at h1
                omega
              have hTs : TX.size ≤ 65536 := by
                have e : TX.size = TX.data.toList.length := Array.length_toList.symm
                have h1 := congrArg List.length p3
                rw [List.length_append] at h1
                rw [e, HTL.out]
                omega
              have hsum : ¬ 9223372036854775807 < B.size + TX.size := by omega
              have c2d : decide (q2.cap < (D2.size : Int)) = false := decide_eq_false (by rw [hds]; omega)
              have c3d : (q2.cap != size) = false := by
                have h1 : q2.cap = size := p2.trans HA0.out.cap
                simpa using h1
              have P4 := Lib.hid p4
              have P5 := Lib.hid (p5 HPOS.out)
              clear hfq p1 p2 p3 p4 p5 hfq2 hds hBs hTs
              by_cases he2 : e2 = 0
              · subst he2
                go_wp2_with fail
                go_roundw
                case rel => exact ⟨K + 1, (A ++ E), B ++ TX, q2, by omega, by go_num, rfl, rfl, HN0⟩
                case measure => simp [intOf] <;> omega
              · have h11 : e2 = 11 := by
                  rcases P5.out with h | h
                  · exact absurd h he2
                  · exact h
                obtain ⟨hq2, ht⟩ := P4.out he2
                subst h11 hq2 ht
                obtain rfl : D2 = DQ := HD2.out.trans HDQ.out.symm
                have hT0 := text_nil HTL.out
                subst hT0
                have hE := fun W => neq_pip D2 q2.rd q2.wr q2.cap W
                have hG := pip_guard
                clear he2
                go_wp2_with fail
                go_roundw
                case rel => exact ⟨K + 1, (A ++ E), B ++ ⟨#[]⟩, q2, by omega, by go_num, rfl, rfl, HN0⟩
                case measure => simp [intOf] <;> omega

            · obtain ⟨w9, h9⟩ : ∃ z, z = (((wn.setCell ⟨w7.heap.size, 0, none⟩ (.string D2)).setCell ⟨w7.heap.size, 1, none⟩ (.int .i64 q2.rd)).setCell ⟨w7.heap.size, 2, none⟩ (.int .i64 q2.wr)).setCell ⟨w7.heap.size, 3, none⟩ (.int .i64 q2.cap) := ⟨_, rfl⟩
              have HB9 := Lib.hid (show Below w7.heap.size w7 w9 by rw [h9]; exact put4_below HBB.out (Nat.le_refl _) _ _ _ _)
              have HU9 := Lib.hid (show w9.heap[w7.heap.size]? = some (.cells #[.string D2, .int .i64 q2.rd, .int .i64 q2.wr, .int .i64 q2.cap] 23 (0, 0)) by rw [h9]; exact put4_block HZZ.out _ _ _ _)
              have hl9 : w7.heap.size ≤ w7.heap.size := Nat.le_refl _
              rw [← h9]
              clear h9
              have HK9 := Lib.hid ((HB9.out.block w2.heap.size (lt_of_block HK7.out)).trans HK7.out)
              have hkn : w2.heap.size < w7.heap.size := lt_of_block HK7.out
              clear k0 k1 k2 k3 s0 s1 s2 s3 kl
              try clear y1
              try clear e0 e1 e2_ e3 f0 f1 f2 f3 el
              have k0 := blk_cell HK9.out 0
              have k1 := blk_cell HK9.out 1
              have k2 := blk_cell HK9.out 2
              have k3 := blk_cell HK9.out 3
              have s0 := blk_free HK9.out 0
              have s1 := blk_free HK9.out 1
              have s2 := blk_free HK9.out 2
              have s3 := blk_free HK9.out 3
              have kl := lt_of_block HK9.out
              have u0 := blk_cell HU9.out 0
              have u1 := blk_cell HU9.out 1
              have u2 := blk_cell HU9.out 2
              have u3 := blk_cell HU9.out 3
              have hfq := fit_pip.1 HA0.out.fit
              obtain ⟨p1, p2, p3, p4, p5⟩ := HRP.out
              have hfq2 := fit_pip.1 p1
              have hds := (data_text HD2.out).2
              have HTL := Lib.hid (show TX.data.toList = t by rw [HTX.out])
              have HN0 := Lib.hid (show OrdRel w w2.heap.size size (K + 1) (A ++ E) (B ++ TX) q2 (put4 w9 w2.heap.size (.string D2) (.int .i64 q2.rd) (.int .i64 q2.wr) (.int .i64 q2.cap)) from ⟨by rw [HA0.out.all, ← p3]; simp [HTL.out], HA0.out.few, p1, by rw [p2]; exact HA0.out.cap, by rw [HRR.out]; exact HA0.out.read, put4_below (HA0.out.below.trans (HB9.out.mono HA0.out.below.size)) hwb _ _ _ _, by rw [← HD2.out]; exact put4_block HK9.out _ _ _ _⟩)
              have hBs : B.size ≤ (K + 1) * 2000 := by
                have e : B.size = B.data.toList.length := Array.length_toList.symm
                have h1 := HA0.out.few
                rw [HA0.out.all, List.length_append] at h1
                omega
              have hTs : TX.size ≤ 65536 := by
                have e : TX.size = TX.data.toList.length := Array.length_toList.symm
                have h1 := congrArg List.length p3
                rw [List.length_append] at h1
                rw [e, HTL.out]
                omega
              have hsum : ¬ 9223372036854775807 < B.size + TX.size := by omega
              have c2d : decide (q2.cap < (D2.size : Int)) = false := decide_eq_false (by rw [hds]; omega)
              have c3d : (q2.cap != size) = false := by
                have h1 : q2.cap = size := p2.trans HA0.out.cap
                simpa using h1
              have P4 := Lib.hid p4
              have P5 := Lib.hid (p5 HPOS.out)
              clear hfq p1 p2 p3 p4 p5 hfq2 hds hBs hTs
              by_cases he2 : e2 = 0
              · subst he2
                go_wp2_with fail
                go_roundw
                case rel => exact ⟨K + 1, (A ++ E), B ++ TX, q2, by omega, by go_num, rfl, rfl, HN0⟩
                case measure => simp [intOf] <;> omega
              · have h11 : e2 = 11 := by
                  rcases P5.out with h | h
                  · exact absurd h he2
                  · exact h
                obtain ⟨hq2, ht⟩ := P4.out he2
                subst h11 hq2 ht
                obtain rfl : D2 = DQ := HD2.out.trans HDQ.out.symm
                have hT0 := text_nil HTL.out
                subst hT0
                have hE := fun W => neq_pip D2 q2.rd q2.wr q2.cap W
                have hG := pip_guard
                clear he2
                go_wp2_with fail
                go_roundw
                case rel => exact ⟨K + 1, (A ++ E), B ++ ⟨#[]⟩, q2, by omega, by go_num, rfl, rfl, HN0⟩
                case measure => simp [intOf] <;> omega
          · have c1d : decide ((K : Int) < (Y.length : Int)) = false := decide_eq_false (by omega)
            have hfq := fit_pip.1 HA0.out.fit
            have hds := (data_text HDQ.out).2
            have c2d : decide (q.cap < (DQ.size : Int)) = false := decide_eq_false (by rw [hds]; omega)
            have c3d : (q.cap != size) = false := by simpa using HA0.out.cap
            clear hfq hds
            go_wp2_with fail
            go_roundw
            case rel => exact ⟨K + 1, (A ++ E), B, q, by omega, by go_num, rfl, rfl, HA0⟩
            case measure => simp [intOf] <;> omega
        · have h11 : e1 = 11 := by
            rcases M7.out with ⟨h, -⟩ | ⟨-, -, h⟩ | ⟨-, -, h, -⟩ | ⟨-, -, h, -⟩
            · exact absurd h HR.out.read
            · exact absurd h he1
            · exact h
            · exact absurd h he1
          subst h11
          obtain rfl := M4.out he1
          obtain rfl : DQ = D := HDQ.out.trans HD.out.symm
          have hE := fun W => neq_pip DQ q.rd q.wr q.cap W
          have hG := pip_guard
          have HA0 := Lib.hid (show OrdRel w w2.heap.size size (K + 1) A B q (put4 w6 w2.heap.size (.string DQ) (.int .i64 q.rd) (.int .i64 q.wr) (.int .i64 q.cap)) from ⟨HR.out.all, by have := HR.out.few; omega, m1, HR.out.cap, HR.out.read, put4_below HB6.out hwb _ _ _ _, by rw [← HDQ.out]; exact put4_block HK6.out _ _ _ _⟩)
          clear he1
          go_upto_region 18 with fail
          obtain ⟨w7, hw7⟩ : ∃ z, z = put4 w6 w2.heap.size (.string DQ) (.int .i64 q.rd) (.int .i64 q.wr) (.int .i64 q.cap) := ⟨_, rfl⟩
          change Code.wp _ _ _ _ (put4 w6 w2.heap.size (.string DQ) (.int .i64 q.rd) (.int .i64 q.wr) (.int .i64 q.cap))
          rw [← hw7]
          rw [← hw7] at HA0
          clear hw7 k0 k1 k2 k3 s0 s1 s2 s3 kl u0 u1 u2 u3
          have HK7 := Lib.hid (show w7.heap[w2.heap.size]? = some (.cells #[.string DQ, .int .i64 q.rd, .int .i64 q.wr, .int .i64 q.cap] 23 (0, 0)) by rw [HDQ.out]; exact HA0.out.blk)
          have k0 := blk_cell HK7.out 0
          have k1 := blk_cell HK7.out 1
          have k2 := blk_cell HK7.out 2
          have k3 := blk_cell HK7.out 3
          have s0 := blk_free HK7.out 0
          have s1 := blk_free HK7.out 1
          have s2 := blk_free HK7.out 2
          have s3 := blk_free HK7.out 3
          have kl := lt_of_block HK7.out
          by_cases hcn : K < Y.length
          · obtain ⟨by_, oy, rfl, hyc⟩ := HCC.out K hcn
            have y1 := cell_below HA0.out.below hyc
            have c1 : (K : Int) < (Y.length : Int) := by omega
            have c1d : decide ((K : Int) < (Y.length : Int)) = true := decide_eq_true c1
            obtain ⟨y, hy⟩ : ∃ y : Int, y = ((Y[K]).toNat : Int) := ⟨_, rfl⟩
            have hyr : 0 ≤ y ∧ y ≤ 255 := by
              have := (Y[K]).toNat_lt
              omega
            rw [← hy] at y1
            clear hy hyc
            obtain ⟨r, hr⟩ : ∃ r : Int, r = Int.tmod y 9 := ⟨_, rfl⟩
            have hrr : 0 ≤ r ∧ r ≤ 8 := by
              rw [hr, Int.tmod_eq_emod_of_nonneg hyr.1]
              omega
            have hw9 : IntKind.i64.wrap (Int.tmod y 9) = r := by rw [IntKind.wrap_i64, ← hr]; omega
            have hwr : IntKind.i64.wrap (r + 1) = r + 1 := by rw [IntKind.wrap_i64]; omega
            have hwy : IntKind.i64.wrap y = y := by rw [IntKind.wrap_i64]; omega
            have hrs := hr.symm
            obtain ⟨⟨q2, t, e2⟩, hzr⟩ : ∃ z, readPip q (r + 1) = z := ⟨_, rfl⟩
            obtain ⟨D2, hD2⟩ : ∃ D : ByteArray, D = ⟨q2.data.toArray⟩ := ⟨_, rfl⟩
            obtain ⟨TX, hTX⟩ : ∃ D : ByteArray, D = ⟨t.toArray⟩ := ⟨_, rfl⟩
            have HRD := Lib.hid (show ∀ W, Calls Try.prog 12 #[.agg #[.string DQ, .int .i64 q.rd, .int .i64 q.wr, .int .i64 q.cap], .int .i64 (r + 1)] W fun e w' => e = .returned (.tuple #[.agg #[.string D2, .int .i64 q2.rd, .int .i64 q2.wr, .int .i64 q2.cap], .string TX, .int .i64 e2]) ∧ Below W.heap.size W w' from fun W => by rw [HDQ.out, hD2, hTX]; exact lread8 q (fit_pip.1 HA0.out.fit).2.2.1 (r + 1) q2 t e2 hzr W)
            have HRP := Lib.hid (read_pip HA0.out.fit hzr)
            have HRR := Lib.hid (read_rd hzr)
            have HD2 := Lib.hid hD2
            have HTX := Lib.hid hTX
            have HPOS := Lib.hid (show 1 ≤ r + 1 by omega)
            have HSS := Lib.hid (show ∀ W, Below w7.heap.size w7 W → (W.cell? ⟨w2.heap.size, 0, none⟩ = some (.string DQ) ∧ W.cell? ⟨w2.heap.size, 1, none⟩ = some (.int .i64 q.rd) ∧ W.cell? ⟨w2.heap.size, 2, none⟩ = some (.int .i64 q.wr) ∧ W.cell? ⟨w2.heap.size, 3, none⟩ = some (.int .i64 q.cap)) ∧ W.cell? ⟨by_, oy + K, none⟩ = some (.int .u8 y) from fun W hW => by
              have h := (hW.block w2.heap.size (lt_of_block HK7.out)).trans HK7.out
              exact ⟨⟨blk_cell h 0, blk_cell h 1, blk_cell h 2, blk_cell h 3⟩, cell_below hW y1⟩)
            have HBB := Lib.hid (Below.refl w7.heap.size w7)
            have HSI := Lib.hid hw9
            clear hzr hD2 hTX hr hrr hyr
            go_upto_region 19 with fail
            go_region_held3 (fun W => (W.cell? ⟨w2.heap.size, 0, none⟩ = some (.string DQ) ∧ W.cell? ⟨w2.heap.size, 1, none⟩ = some (.int .i64 q.rd) ∧ W.cell? ⟨w2.heap.size, 2, none⟩ = some (.int .i64 q.wr) ∧ W.cell? ⟨w2.heap.size, 3, none⟩ = some (.int .i64 q.cap)) ∧ W.cell? ⟨by_, oy + K, none⟩ = some (.int .u8 y))
              (first | exact ⟨⟨k0, k1, k2, k3⟩, y1⟩ | exact HSS.out _ (below_box _ _) | exact HSS.out _ (below_drew8 (below_box _ _)) | exact HSS.out _ HBB.out | exact HSS.out _ (HBB.out.alloc HBB.out.size _) | exact HSS.out _ (below_drew8 (HBB.out.alloc HBB.out.size _)) | exact HSS.out _ (put4_below HBB.out (Nat.le_refl _) _ _ _ _) | exact HSS.out _ (below_drew8 (put4_below HBB.out (Nat.le_refl _) _ _ _ _)))
              (first
                | (go_at_call 12; refine (HRD.out _).mono ?_; rintro e wn ⟨rfl, hbn⟩; have HBB : Hid (Below w7.heap.size w7 wn) := Lib.hid (below_next8 (below_box w7 (.cells #[.string ⟨#[]⟩, .int .i64 0, .int .i64 0, .int .i64 0] 23)) hbn (below_box w7 _).size ⟨rfl, rfl, rfl, rfl⟩); have hzz : wn.heap[w7.heap.size]? = some (.cells #[.string ⟨#[]⟩, .int .i64 0, .int .i64 0, .int .i64 0] 23 (0, 0)) := (hbn.block w7.heap.size (Nat.lt_of_lt_of_eq (Nat.lt_succ_self _) (World.size_alloc _ _).symm)).trans (new_block w7 _); have HZZ := Lib.hid hzz; have e0 := blk_cell hzz 0; have e1 := blk_cell hzz 1; have e2_ := blk_cell hzz 2; have e3 := blk_cell hzz 3; have f0 := blk_free hzz 0; have f1 := blk_free hzz 1; have f2 := blk_free hzz 2; have f3 := blk_free hzz 3; have el := lt_of_block hzz; clear hzz; obtain ⟨⟨k0, k1, k2, k3⟩, y1⟩ := HSS.out _ HBB.out)
                | (go_at_call 12; refine (HRD.out _).mono ?_; rintro e wn ⟨rfl, hbn⟩; have HBB : Hid (Below w7.heap.size w7 wn) := Lib.hid (below_next8 HBB.out hbn HBB.out.size ⟨rfl, rfl, rfl, rfl⟩); obtain ⟨⟨k0, k1, k2, k3⟩, y1⟩ := HSS.out _ HBB.out))
            · obtain ⟨w9, h9⟩ : ∃ z, z = wn.alloc (.cells #[.string D2, .int .i64 q2.rd, .int .i64 q2.wr, .int .i64 q2.cap] 23) := ⟨_, rfl⟩
              have HB9 := Lib.hid (show Below w7.heap.size w7 w9 by rw [h9]; exact HBB.out.alloc HBB.out.size _)
              have HU9 := Lib.hid (show w9.heap[wn.heap.size]? = some (.cells #[.string D2, .int .i64 q2.rd, .int .i64 q2.wr, .int .i64 q2.cap] 23 (0, 0)) by rw [h9]; exact new_block wn _)
              have hl9 : w7.heap.size ≤ wn.heap.size := HBB.out.size
              rw [← h9]
              clear h9
              have HK9 := Lib.hid ((HB9.out.block w2.heap.size (lt_of_block HK7.out)).trans HK7.out)
              have hkn : w2.heap.size < w7.heap.size := lt_of_block HK7.out
              clear k0 k1 k2 k3 s0 s1 s2 s3 kl
              try clear y1
              try clear e0 e1 e2_ e3 f0 f1 f2 f3 el
              have k0 := blk_cell HK9.out 0
              have k1 := blk_cell HK9.out 1
              have k2 := blk_cell HK9.out 2
              have k3 := blk_cell HK9.out 3
              have s0 := blk_free HK9.out 0
              have s1 := blk_free HK9.out 1
              have s2 := blk_free HK9.out 2
              have s3 := blk_free HK9.out 3
              have kl := lt_of_block HK9.out
              have u0 := blk_cell HU9.out 0
              have u1 := blk_cell HU9.out 1
              have u2 := blk_cell HU9.out 2
              have u3 := blk_cell HU9.out 3
              have hfq := fit_pip.1 HA0.out.fit
              obtain ⟨p1, p2, p3, p4, p5⟩ := HRP.out
              have hfq2 := fit_pip.1 p1
              have hds := (data_text HD2.out).2
              have HTL := Lib.hid (show TX.data.toList = t by rw [HTX.out])
              have HN0 := Lib.hid (show OrdRel w w2.heap.size size (K + 1) A (B ++ TX) q2 (put4 w9 w2.heap.size (.string D2) (.int .i64 q2.rd) (.int .i64 q2.wr) (.int .i64 q2.cap)) from ⟨by rw [HA0.out.all, ← p3]; simp [HTL.out], HA0.out.few, p1, by rw [p2]; exact HA0.out.cap, by rw [HRR.out]; exact HA0.out.read, put4_below (HA0.out.below.trans (HB9.out.mono HA0.out.below.size)) hwb _ _ _ _, by rw [← HD2.out]; exact put4_block HK9.out _ _ _ _⟩)
              have hBs : B.size ≤ (K + 1) * 2000 := by
                have e : B.size = B.data.toList.length := Array.length_toList.symm
                have h1 := HA0.out.few
                rw [HA0.out.all, List.length_append] at h1
                omega
              have hTs : TX.size ≤ 65536 := by
                have e : TX.size = TX.data.toList.length := Array.length_toList.symm
                have h1 := congrArg List.length p3
                rw [List.length_append] at h1
                rw [e, HTL.out]
                omega
              have hsum : ¬ 9223372036854775807 < B.size + TX.size := by omega
              have c2d : decide (q2.cap < (D2.size : Int)) = false := decide_eq_false (by rw [hds]; omega)
              have c3d : (q2.cap != size) = false := by
                have h1 : q2.cap = size := p2.trans HA0.out.cap
                simpa using h1
              have P4 := Lib.hid p4
              have P5 := Lib.hid (p5 HPOS.out)
              clear hfq p1 p2 p3 p4 p5 hfq2 hds hBs hTs
              by_cases he2 : e2 = 0
              · subst he2
                go_wp2_with fail
                go_roundw
                case rel => exact ⟨K + 1, A, B ++ TX, q2, by omega, by go_num, rfl, rfl, HN0⟩
                case measure => simp [intOf] <;> omega
              · have h11 : e2 = 11 := by
                  rcases P5.out with h | h
                  · exact absurd h he2
                  · exact h
                obtain ⟨hq2, ht⟩ := P4.out he2
                subst h11 hq2 ht
                obtain rfl : D2 = DQ := HD2.out.trans HDQ.out.symm
                have hT0 := text_nil HTL.out
                subst hT0
                have hE := fun W => neq_pip D2 q2.rd q2.wr q2.cap W
                have hG := pip_guard
                clear he2
                go_wp2_with fail
                go_roundw
                case rel => exact ⟨K + 1, A, B ++ ⟨#[]⟩, q2, by omega, by go_num, rfl, rfl, HN0⟩
                case measure => simp [intOf] <;> omega

            · obtain ⟨w9, h9⟩ : ∃ z, z = (((wn.setCell ⟨w7.heap.size, 0, none⟩ (.string D2)).setCell ⟨w7.heap.size, 1, none⟩ (.int .i64 q2.rd)).setCell ⟨w7.heap.size, 2, none⟩ (.int .i64 q2.wr)).setCell ⟨w7.heap.size, 3, none⟩ (.int .i64 q2.cap) := ⟨_, rfl⟩
              have HB9 := Lib.hid (show Below w7.heap.size w7 w9 by rw [h9]; exact put4_below HBB.out (Nat.le_refl _) _ _ _ _)
              have HU9 := Lib.hid (show w9.heap[w7.heap.size]? = some (.cells #[.string D2, .int .i64 q2.rd, .int .i64 q2.wr, .int .i64 q2.cap] 23 (0, 0)) by rw [h9]; exact put4_block HZZ.out _ _ _ _)
              have hl9 : w7.heap.size ≤ w7.heap.size := Nat.le_refl _
              rw [← h9]
              clear h9
              have HK9 := Lib.hid ((HB9.out.block w2.heap.size (lt_of_block HK7.out)).trans HK7.out)
              have hkn : w2.heap.size < w7.heap.size := lt_of_block HK7.out
              clear k0 k1 k2 k3 s0 s1 s2 s3 kl
              try clear y1
              try clear e0 e1 e2_ e3 f0 f1 f2 f3 el
              have k0 := blk_cell HK9.out 0
              have k1 := blk_cell HK9.out 1
              have k2 := blk_cell HK9.out 2
              have k3 := blk_cell HK9.out 3
              have s0 := blk_free HK9.out 0
              have s1 := blk_free HK9.out 1
              have s2 := blk_free HK9.out 2
              have s3 := blk_free HK9.out 3
              have kl := lt_of_block HK9.out
              have u0 := blk_cell HU9.out 0
              have u1 := blk_cell HU9.out 1
              have u2 := blk_cell HU9.out 2
              have u3 := blk_cell HU9.out 3
              have hfq := fit_pip.1 HA0.out.fit
              obtain ⟨p1, p2, p3, p4, p5⟩ := HRP.out
              have hfq2 := fit_pip.1 p1
              have hds := (data_text HD2.out).2
              have HTL := Lib.hid (show TX.data.toList = t by rw [HTX.out])
              have HN0 := Lib.hid (show OrdRel w w2.heap.size size (K + 1) A (B ++ TX) q2 (put4 w9 w2.heap.size (.string D2) (.int .i64 q2.rd) (.int .i64 q2.wr) (.int .i64 q2.cap)) from ⟨by rw [HA0.out.all, ← p3]; simp [HTL.out], HA0.out.few, p1, by rw [p2]; exact HA0.out.cap, by rw [HRR.out]; exact HA0.out.read, put4_below (HA0.out.below.trans (HB9.out.mono HA0.out.below.size)) hwb _ _ _ _, by rw [← HD2.out]; exact put4_block HK9.out _ _ _ _⟩)
              have hBs : B.size ≤ (K + 1) * 2000 := by
                have e : B.size = B.data.toList.length := Array.length_toList.symm
                have h1 := HA0.out.few
                rw [HA0.out.all, List.length_append] at h1
                omega
              have hTs : TX.size ≤ 65536 := by
                have e : TX.size = TX.data.toList.length := Array.length_toList.symm
                have h1 := congrArg List.length p3
                rw [List.length_append] at h1
                rw [e, HTL.out]
                omega
              have hsum : ¬ 9223372036854775807 < B.size + TX.size := by omega
              have c2d : decide (q2.cap < (D2.size : Int)) = false := decide_eq_false (by rw [hds]; omega)
              have c3d : (q2.cap != size) = false := by
                have h1 : q2.cap = size := p2.trans HA0.out.cap
                simpa using h1
              have P4 := Lib.hid p4
              have P5 := Lib.hid (p5 HPOS.out)
              clear hfq p1 p2 p3 p4 p5 hfq2 hds hBs hTs
              by_cases he2 : e2 = 0
              · subst he2
                go_wp2_with fail
                go_roundw
                case rel => exact ⟨K + 1, A, B ++ TX, q2, by omega, by go_num, rfl, rfl, HN0⟩
                case measure => simp [intOf] <;> omega
              · have h11 : e2 = 11 := by
                  rcases P5.out with h | h
                  · exact absurd h he2
                  · exact h
                obtain ⟨hq2, ht⟩ := P4.out he2
                subst h11 hq2 ht
                obtain rfl : D2 = DQ := HD2.out.trans HDQ.out.symm
                have hT0 := text_nil HTL.out
                subst hT0
                have hE := fun W => neq_pip D2 q2.rd q2.wr q2.cap W
                have hG := pip_guard
                clear he2
                go_wp2_with fail
                go_roundw
                case rel => exact ⟨K + 1, A, B ++ ⟨#[]⟩, q2, by omega, by go_num, rfl, rfl, HN0⟩
                case measure => simp [intOf] <;> omega
          · have c1d : decide ((K : Int) < (Y.length : Int)) = false := decide_eq_false (by omega)
            have hfq := fit_pip.1 HA0.out.fit
            have hds := (data_text HDQ.out).2
            have c2d : decide (q.cap < (DQ.size : Int)) = false := decide_eq_false (by rw [hds]; omega)
            have c3d : (q.cap != size) = false := by simpa using HA0.out.cap
            clear hfq hds
            go_wp2_with fail
            go_roundw
            case rel => exact ⟨K + 1, A, B, q, by omega, by go_num, rfl, rfl, HA0⟩
            case measure => simp [intOf] <;> omega
      · have hKe : K = X.length := by omega
        have b2 : decide ((K : Int) < (X.length : Int)) = false := decide_eq_false (by omega)
        obtain ⟨D, hD⟩ : ∃ D : ByteArray, D = ⟨p.data.toArray⟩ := ⟨_, rfl⟩
        have HBK := Lib.hid (show wr.heap[w2.heap.size]? = some (.cells #[.string D, .int .i64 p.rd, .int .i64 p.wr, .int .i64 p.cap] 23 (0, 0)) by rw [hD]; exact HR.out.blk)
        obtain ⟨hDl, hDs⟩ := data_text hD
        obtain rfl : A = B ++ D := by
          apply ByteArray.ext
          apply Array.ext'
          have e1 : (B ++ D).data.toList = B.data.toList ++ D.data.toList := by simp
          rw [e1, hDl]
          exact HR.out.all
        have hsum : ¬ 9223372036854775807 < B.size + D.size := by
          have h1 := HR.out.few
          have e2 : (B ++ D).data.toList.length = (B ++ D).size := Array.length_toList
          rw [e2, ByteArray.size_append] at h1
          omega
        have k0 := blk_cell HBK.out 0
        have kl := lt_of_block HBK.out
        clear hD hDl hDs hlt
        go_wp2_with (first | (go_at_call 11; refine (awake8 _).mono ?_; rintro e wz ⟨rfl, hbz⟩; have HBZ := Lib.hid (HBR.out.trans (hbz.mono HBR.out.size)); clear hbz) | fail)
        go_ret
        exact ⟨by rfl, HEND.out _ HBZ.out⟩
  · have hez := new_zero (size := size) (by rw [HZA.out]; exact hea)
    have he22 : ea = 22 := new_err HZA.out hea
    rw [HZA.out] at hez
    subst hez he22
    have hD0 : DA = ⟨#[]⟩ := HDA.out
    subst hD0
    have hE := fun W => eq_pip ⟨#[]⟩ 0 0 0 W
    have hG := pip_guard
    clear hea
    go_wp2_with (first | (go_at_call 11; refine (awake8 _).mono ?_; rintro e wz ⟨rfl, hbz⟩; have HBZ := Lib.hid (HB3.out.trans (hbz.mono HB3.out.size)); clear hbz) | fail)
    go_ret
    exact ⟨by rfl, HEND.out _ HBZ.out⟩
end Go.Proofs.Ytopgmboilimlhaa
