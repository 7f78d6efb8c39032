/-
  Plain words for the reference's kids, and how the counts lie in memory.
  The reference's kids: a directory's names, and how many names each inode has.
-/
import Derived.BigRegion
import Derived.RangeFuncBox
import Derived.StillTailTactics
import Derived.Deep.Draws
import Derived.Laws.Cover1
import Derived.Test.YtclhpedecimicaaGreatK4
import Derived.Test.YtclhpedecimicaaGreatK7
import Derived.Deep.QuietTactic
import Derived.BigQuiet
import Derived.IntWalk
import Derived.Test.YtclhpedecimicaaGreatK5
namespace Go.Proofs.YtclhpedecimicaaGreat
set_option maxRecDepth 100000
open Go Go.RowKit

def intv (z : Int) : Value := .int .i64 z
/-- Block C holds the numbers c. -/
def CountIn (W : World) (C : Nat) (c : List Int) : Prop := W.heap[C]? = some (.cells (c.map intv).toArray 3 (0, 0))

theorem CountIn.cell {W : World} {C : Nat} {c : List Int} (h : CountIn W C c) (i : Nat) (hi : i < c.length) : W.cell? ⟨C, i, none⟩ = some (.int .i64 c[i]) := by
  simp only [World.cell?, show W.heap[C]? = _ from h]
  simp [hi, intv]
theorem CountIn.frozen {W : World} {C : Nat} {c : List Int} (h : CountIn W C c) (i : Nat) : W.frozen? ⟨C, i, none⟩ = false := by
  simp only [World.frozen?, show W.heap[C]? = _ from h]
  simp
theorem CountIn.below {W W' : World} {C : Nat} {c : List Int} (h : CountIn W C c) (hb : Below W.heap.size W W') : CountIn W' C c :=
  (hb.block C (Array.getElem?_eq_some_iff.1 h).1).trans h
theorem CountIn.set {W : World} {C : Nat} {c : List Int} (h : CountIn W C c) (i : Nat) (z : Int) : CountIn (W.setCell ⟨C, i, none⟩ (.int .i64 z)) C (c.set i z) := by
  show (W.setCell ⟨C, i, none⟩ (.int .i64 z)).heap[C]? = _
  have e : (c.map intv).toArray.setIfInBounds i (.int .i64 z) = ((c.set i z).map intv).toArray := by
    apply Array.ext'
    simp [intv, List.map_set]
  rw [← e]
  simp only [World.setCell, Array.getElem?_modify, show W.heap[C]? = _ from h, Option.map_some]
  simp

/-- What holds of a name of directory d, at its place. -/
structure KidOk (L : List Ino) (d : Nat) (M : List (List UInt8 × Int)) (k : Nat) (h : k < M.length) : Prop where
  name : nameOkL M[k].1 = true
  order : ∀ t (ht : k = t + 1), Op.bytesLess (M[t]'(by omega)).1 M[k].1 = true
  there : thereB L M[k].2 = true
  kind : (nodeAt L M[k].2).kind ≠ 0
  dir : ¬ ((nodeAt L M[k].2).kind = 2 ∧ (M[k].2 = 0 ∨ (nodeAt L M[k].2).up ≠ d))
def KidsOk (L : List Ino) (d : Nat) (M : List (List UInt8 × Int)) : Prop := ∀ k (h : k < M.length), KidOk L d M k h
def bump1 (c : List Int) (j : Int) : List Int := c.set j.toNat (c.getD j.toNat 0 + 1)
def bump (c : List Int) (M : List (List UInt8 × Int)) : List Int := M.foldl (fun c e => bump1 c e.2) c
theorem bump_len (M : List (List UInt8 × Int)) : ∀ c, (bump c M).length = c.length := by
  induction M with
  | nil => intro c; rfl
  | cons e r ih => intro c; show (bump (bump1 c e.2) r).length = _; rw [ih]; simp [bump1]
theorem bump_snoc (M : List (List UInt8 × Int)) (k : Nat) (hk : k < M.length) (c : List Int) : bump c (M.take (k + 1)) = bump1 (bump c (M.take k)) M[k].2 := by
  rw [List.take_succ_eq_append_getElem hk]
  unfold bump
  rw [List.foldl_append]
  rfl
/-- Numbers from 0 to x. -/
def Low (c : List Int) (x : Int) : Prop := ∀ z ∈ c, 0 ≤ z ∧ z ≤ x
theorem Low.bump1 {c : List Int} {x : Int} (h : Low c x) (j : Int) (hx : 0 ≤ x) : Low (bump1 c j) (x + 1) := by
  intro z hz
  unfold Proofs.YtclhpedecimicaaGreat.bump1 at hz
  rcases List.mem_or_eq_of_mem_set hz with h1 | rfl
  · have := h z h1; omega
  · rw [List.getD_eq_getElem?_getD]
    cases hc : c[j.toNat]? with
    | none => simp; omega
    | some y => have := h y (List.mem_of_getElem? hc); simp; omega

theorem rname_known (s : ByteArray) (hs : s.size ≤ 9223372036854775807) (v : Bool) (h : nameOkL s.data.toList = v) (w : World) : Calls Tryz.prog 48 #[.string s] w fun e w' => e = .returned (.bool v) ∧ w' = w := by
  subst h
  exact (rname_any s (by unfold maxLen; exact hs) w).mono fun e w' h => ⟨h.1, h.2.symm⟩

end Go.Proofs.YtclhpedecimicaaGreat

namespace Go.Proofs.YtclhpedecimicaaGreat
set_option maxRecDepth 100000
open Go Go.RowKit

/-- What kids answers. -/
def KidsAns (L : List Ino) (d C : Nat) (M : List (List UInt8 × Int)) (c : List Int) (w : World) (e : Ending) (w' : World) : Prop :=
  ∃ v, e = .returned (.bool v) ∧ Below C w w' ∧ (v = true → KidsOk L d M ∧ CountIn w' C (bump c M)) ∧ (v = false → ¬ KidsOk L d M)
theorem KidsAns.no {L : List Ino} {d C : Nat} {M : List (List UInt8 × Int)} {c : List Int} {w w' : World} {e : Ending} (he : e = .returned (.bool false)) (hb : Below C w w') (h : ¬ KidsOk L d M) : KidsAns L d C M c w e w' :=
  ⟨false, he, hb, fun h => (by cases h), fun _ => h⟩
theorem KidsAns.yes {L : List Ino} {d C : Nat} {M : List (List UInt8 × Int)} {c : List Int} {w w' : World} {e : Ending} (he : e = .returned (.bool true)) (hb : Below C w w') (h : KidsOk L d M) (hc : CountIn w' C (bump c M)) : KidsAns L d C M c w e w' :=
  ⟨true, he, hb, fun _ => ⟨h, hc⟩, fun h => (by cases h)⟩

def KRel (L : List Ino) (d C : Nat) (M : List (List UInt8 × Int)) (c : List Int) (x : Int) (w w1 : World) (iv : Value) (wr : World) : Prop :=
  ∃ k : Nat, k ≤ M.length ∧ iv = .int .i64 k ∧ Hid (∀ i (h : i < M.length), i < k → KidOk L d M i h) ∧ CountIn wr C (bump c (M.take k)) ∧ Low (bump c (M.take k)) (x + k) ∧ Below C w wr ∧ wr.heap[w.heap.size]? = w1.heap[w.heap.size]? ∧ w1.heap.size ≤ wr.heap.size

theorem KRel.next {L : List Ino} {d C k u : Nat} {M : List (List UInt8 × Int)} {c : List Int} {x z : Int} {w w1 wr w2 : World} (o : Obj) (hlt : k < M.length) (hok : ∀ i (h : i < M.length), i < k → KidOk L d M i h) (hkk : KidOk L d M k hlt)
    (hcnt : CountIn wr C (bump c (M.take k))) (hlw : Low (bump c (M.take k)) (x + k)) (hx0 : 0 ≤ x) (hbr : Below C w wr) (hbox : wr.heap[w.heap.size]? = w1.heap[w.heap.size]?) (hszr : w1.heap.size ≤ wr.heap.size)
    (hCw : C < w.heap.size) (gw : w.heap.size < wr.heap.size) (hb3 : Below wr.heap.size wr w2) (hbump : bump1 (bump c (M.take k)) M[k].2 = (bump c (M.take k)).set u (z + 1)) :
    KRel L d C M c x w w1 (.int .i64 ((k : Int) + 1)) ((w2.setCell ⟨C, u, none⟩ (.int .i64 (z + 1))).alloc o).drew := by
  have hs2 := hb3.size
  have hg := grownBy_setCell' w2 C (.int .i64 (z + 1))
  have hcnt2 : CountIn (w2.setCell ⟨C, u, none⟩ (.int .i64 (z + 1))) C ((bump c (M.take k)).set u (z + 1)) := (hcnt.below hb3).set u (z + 1)
  have hsz : (w2.setCell ⟨C, u, none⟩ (.int .i64 (z + 1))).heap.size = w2.heap.size := by simp [World.setCell]
  have hb4 : Below C w ((w2.setCell ⟨C, u, none⟩ (.int .i64 (z + 1))).alloc o) := (((hbr.trans (hb3.mono (by omega))).setCell (p := ⟨C, u, none⟩) (Nat.le_refl _) _)).alloc (by rw [hsz]; omega) o
  refine ⟨k + 1, by omega, by go_num, fun i h hi => ?_, ?_, ?_, ⟨hb4.os, hb4.tape, hb4.output, hb4.size, hb4.block⟩, ?_, ?_⟩
  · by_cases e : i = k
    · subst e
      exact hkk
    · exact hok i h (by omega)
  · rw [bump_snoc M k hlt, hbump]
    exact (show CountIn ((w2.setCell ⟨C, u, none⟩ (.int .i64 (z + 1))).alloc o) C _ from hcnt2.below (below_box _ o))
  · rw [bump_snoc M k hlt]
    intro y hy
    have h := hlw.bump1 M[k].2 (by omega) y hy
    omega
  · show ((w2.setCell ⟨C, u, none⟩ (.int .i64 (z + 1))).alloc o).heap[w.heap.size]? = _
    rw [Below.heap_alloc _ _ _ (by rw [hsz]; omega)]
    have h1 : (w2.setCell ⟨C, u, none⟩ (.int .i64 (z + 1))).heap[w.heap.size]? = w2.heap[w.heap.size]? := by
      simp only [World.setCell, Array.getElem?_modify]
      rw [if_neg (by omega)]
    rw [h1, hb3.block _ gw]
    exact hbox
  · show _ ≤ ((w2.setCell ⟨C, u, none⟩ (.int .i64 (z + 1))).alloc o).heap.size
    rw [World.size_alloc, hsz]
    omega

set_option maxRecDepth 100000 in
set_option maxHeartbeats 8000000 in
theorem rkids_any (C bb o d : Nat) (cap ccap : Nat) (m b : Int) (L : List Ino) (_hL : L.length ≤ 300) (hd : d < L.length) (hkl : (L[d]'hd).kids.length ≤ 1024) (hnl : ∀ e ∈ (L[d]'hd).kids, e.1.length ≤ 9223372036854775807) (c : List Int) (hc : c.length = L.length) (x : Int) (hx0 : 0 ≤ x) (hx1 : x ≤ 4294967296) (hlow : Low c x)
    (w0 w : World) (hN : NodesIn w0 (some ⟨bb, o, none⟩) cap L) (hb0 : Below w0.heap.size w0 w) (hC0 : w0.heap.size ≤ C) (hC : CountIn w C c) (_hcc : L.length ≤ ccap) (_hccm : ccap ≤ maxLen) :
    Calls Tryz.prog 30 #[.agg #[.slice (some ⟨bb, o, none⟩) L.length cap, .int .i64 m, .int .i64 b], .int .i64 d, .slice (some ⟨C, 0, none⟩) L.length ccap] w
      (KidsAns L d C (L[d]'hd).kids c w) := by
  have hCw : C < w.heap.size := (Array.getElem?_eq_some_iff.1 hC).1
  obtain ⟨w1, hw1⟩ : ∃ w1, w1 = w.alloc (.cells #[.slice (some ⟨bb, o, none⟩) L.length cap, .int .i64 m, .int .i64 b] 24) := ⟨_, rfl⟩
  have hsz1 : w1.heap.size = w.heap.size + 1 := by rw [hw1]; simp
  have hbx : w1.heap[w.heap.size]? = some (.cells #[.slice (some ⟨bb, o, none⟩) L.length cap, .int .i64 m, .int .i64 b] 24) := by rw [hw1]; exact new_block _ _
  obtain ⟨M, hMe⟩ : ∃ M, M = (L[d]'hd).kids := ⟨_, rfl⟩
  rw [← hMe] at hkl hnl ⊢
  obtain ⟨bb', o', e1, hx⟩ := hN.2.2 d hd
  obtain ⟨rfl, rfl⟩ : bb' = bb ∧ o' = o := by simpa [eq_comm] using e1
  obtain ⟨kv, x4, hks⟩ := hx.kids
  rw [← hMe] at hks
  obtain ⟨ka, kcap, rfl, hkc, hkm, hkk⟩ := hks
  have hx4 : w.cell? ⟨bb', o' + d * 6 + 4, none⟩ = some (.slice ka M.length kcap) := cell_below hb0 x4
  have gb : bb' < w.heap.size := cell_lt hx4
  unfold maxLen at hkm _hccm
  have HK := Lib.hid hkk
  have HNN := Lib.hid hN
  have HB0 := Lib.hid hb0
  have HNL0 := Lib.hid hnl
  have HBX := Lib.hid hbx
  have HC := Lib.hid hC
  have HLOW := Lib.hid hlow
  have HLEN := Lib.hid hc
  have hd0 : (0 : Int) ≤ (d : Int) := by omega
  clear hx hMe hkk e1 hN hb0 hnl hbx hC hlow hc x4
  go_enter Tryz.func30, Tryz.ntmps30
  go_wp2_with fail
  rw [← hw1]
  have hcw1 : CountIn w1 C c := by
    show w1.heap[C]? = _
    rw [hw1, Below.heap_alloc _ _ _ hCw]
    exact HC.out
  have hbw1 : Below C w w1 := by rw [hw1]; exact (Below.refl _ _).alloc (by omega) _
  clear hw1 hx4
  go_loopw [8, 9] (fun iv _ wr => KRel L d C M c x w w1 iv wr) (fun iv _ _ => M.length - (intOf iv).toNat)
  case atStart => exact ⟨0, by omega, rfl, fun _ _ h => absurd h (Nat.not_lt_zero _), hcw1, by simpa [bump] using HLOW.out, hbw1, rfl, Nat.le_refl _⟩
  case round =>
    obtain ⟨k, hk, rfl, hok, hcnt, hlw, hbr, hbox, hszr⟩ := hrel
    have HOK := Lib.hid hok
    have HCNT := Lib.hid hcnt
    have HLW := Lib.hid hlw
    have HBR := Lib.hid hbr
    have HBOX := Lib.hid hbox
    clear hok hcnt hlw hbr hbox hcw1 hbw1
    by_cases hlt : k < M.length
    · have hb00 := HB0.out.trans (HBR.out.mono hC0)
      obtain ⟨c1, p1, rfl, z0, z1⟩ := HK.out k hlt
      have y0 := cell_below hb00 z0
      have y1 := cell_below hb00 z1
      have hk0 : (0 : Int) ≤ (k : Int) := by omega
      have hkl' : (k : Int) < (M.length : Int) := by omega
      have q0 : wr.cell? ⟨w.heap.size, 0, none⟩ = some (.slice (some ⟨bb', o', none⟩) L.length cap) := by simp only [World.cell?, HBOX.out, HBX.out]; rfl
      have q1 : wr.cell? ⟨w.heap.size, 1, none⟩ = some (.int .i64 m) := by simp only [World.cell?, HBOX.out, HBX.out]; rfl
      have q2 : wr.cell? ⟨w.heap.size, 2, none⟩ = some (.int .i64 b) := by simp only [World.cell?, HBOX.out, HBX.out]; rfl
      have gw : w.heap.size < wr.heap.size := by omega
      have gc : c1 < wr.heap.size := cell_lt y0
      have HNL := Lib.hid (HNL0.out M[k] (List.getElem_mem _))
      have HB00 := Lib.hid hb00
      have HZ1 := Lib.hid z1
      clear hb00 z0 z1
      by_cases hkp : 0 < k
      · have hkp' : (0 : Int) < (k : Int) := by omega
        obtain ⟨t, ht⟩ : ∃ t, k = t + 1 := ⟨k - 1, by omega⟩
        have htl : t < M.length := by omega
        have htl' : (t : Int) < (M.length : Int) := by omega
        have ht0 : (0 : Int) ≤ (t : Int) := by omega
        have y2 : wr.cell? ⟨c1, p1 + t * 2, none⟩ = some (.string ⟨M[t].1.toArray⟩) := by
          obtain ⟨c1', p1', e, zz, -⟩ := HK.out t htl
          obtain ⟨rfl, rfl⟩ : c1 = c1' ∧ p1 = p1' := by simpa using e
          exact cell_below HB00.out zz
        have hsub : IntKind.i64.wrap ((k : Int) - 1) = (t : Int) := by rw [IntWalk.i64_in _ (by omega)]; omega
        have HT := Lib.hid ht
        clear ht
        cases hnm : nameOkL M[k].1 with
        | false =>
          have HN1 := Lib.hid (show nameOkL (⟨M[k].1.toArray⟩ : ByteArray).data.toList = false from hnm)
          have HNO := Lib.hid (show ¬ KidsOk L d M from fun h => by have h1 := (h k hlt).name; rw [hnm] at h1; cases h1)
          clear hnm
          go_wp2_with fail
          go_quiet ((go_at_call 48; exact Calls.quiet_of_same (rname_known _ (by rw [str_len]; exact HNL.out) _ HN1.out _)))
          go_wp2_with fail
          go_ret
          exact KidsAns.no rfl ⟨HBR.out.os, HBR.out.tape, HBR.out.output, HBR.out.size, HBR.out.block⟩ HNO.out
        | true =>
          have HN1 := Lib.hid (show nameOkL (⟨M[k].1.toArray⟩ : ByteArray).data.toList = true from hnm)
          cases hls : Op.bytesLess M[t].1 M[k].1 with
          | false =>
            have HNO := Lib.hid (show ¬ KidsOk L d M from fun h => by
              have h1 := (h k hlt).order t HT.out
              rw [hls] at h1
              cases h1)
            clear hnm
            go_wp2_with fail
            go_quiet ((go_at_call 48; exact Calls.quiet_of_same (rname_known _ (by rw [str_len]; exact HNL.out) _ HN1.out _)))
            go_wp2_with fail
            go_ret
            exact KidsAns.no rfl ⟨HBR.out.os, HBR.out.tape, HBR.out.output, HBR.out.size, HBR.out.block⟩ HNO.out
          | true =>
            cases hth : thereB L M[k].2 with
            | false =>
              have HTH := Lib.hid hth
              have HNO := Lib.hid (show ¬ KidsOk L d M from fun h => by have h1 := (h k hlt).there; rw [hth] at h1; cases h1)
              clear hnm hth
              go_wp2_with fail
              refine wp_region_still_tail 32 (by kernel_rfl) (by kernel_rfl) ?_
              simp only [List.take_succ_cons, List.take_zero, List.drop_succ_cons, List.drop_zero]
              refine wpStill_of_quiet _ _ ?_
              repeat (first | go_big_quiet_skip | (go_big_quiet_want; go_big_quiet_op; (first | go_big_quiet_on | (refine ⟨_, rname_known _ (by rw [str_len]; exact HNL.out) _ HN1.out _, ?_⟩; go_big_quiet_on))))
              refine wpQuiet_nil ?_
              change wpList _ _ _ _ _ wr.drew
              go_wp2_with (first | (go_at_call 27; refine (rthere_known _ _ _ _ _ _ _ HTH.out _).mono ?_; rintro e w2 ⟨rfl, hb2⟩) | fail)
              go_ret
              exact KidsAns.no rfl (HBR.out.trans ⟨hb2.os, hb2.tape, hb2.output, hb2.size, fun i hi => hb2.block i (show i < wr.heap.size by omega)⟩) HNO.out
            | true =>
              obtain ⟨u, hu1, hu2⟩ := there_nat hth
              have hth' : thereB L (u : Int) = true := by rw [← hu1]; exact hth
              have HTH := Lib.hid hth'
              have y1u : wr.cell? ⟨c1, p1 + k * 2 + 1, none⟩ = some (.int .i64 (u : Int)) := by rw [← hu1]; exact y1
              have hu0 : (0 : Int) ≤ (u : Int) := by omega
              have hul : (u : Int) < (L.length : Int) := by omega
              have HNR := Lib.hid (HNN.out.below HB00.out)
              have hclen : (bump c (M.take k)).length = L.length := by rw [bump_len]; exact HLEN.out
              have hcu := HCNT.out.cell u (by rw [hclen]; exact hu2)
              obtain ⟨z, hz⟩ : ∃ z, z = (bump c (M.take k))[u]'(by rw [hclen]; exact hu2) := ⟨_, rfl⟩
              rw [← hz] at hcu
              have hzl : 0 ≤ z ∧ z ≤ x + k := HLW.out z (by rw [hz]; exact List.getElem_mem _)
              have hcf := HCNT.out.frozen u
              have gC : C < wr.heap.size := by omega
              have hnode : nodeAt L M[k].2 = L[u] := by rw [hu1, node_nat L u hu2]
              have HNODE := Lib.hid hnode
              have HBUMP := Lib.hid (show bump1 (bump c (M.take k)) M[k].2 = (bump c (M.take k)).set u (z + 1) by
                unfold bump1
                rw [hu1, Int.toNat_natCast, List.getD_eq_getElem?_getD, List.getElem?_eq_getElem (by rw [hclen]; exact hu2), ← hz]
                rfl)
              have HU1 := Lib.hid hu1
              have HNM := Lib.hid hnm
              clear hnode hz hclen hth hth' hu1 y1 hnm
              obtain ⟨X, hX⟩ : ∃ X, X = L[u] := ⟨_, rfl⟩
              have HX2 := Lib.hid hX
              obtain ⟨b2, o2, e2, hy⟩ := HNR.out.2.2 u hu2
              obtain ⟨rfl, rfl⟩ : b2 = bb' ∧ o2 = o' := by simpa [eq_comm] using e2
              rw [← hX] at hy
              obtain ⟨jv, x4, jks⟩ := hy.kids
              obtain ⟨ja, jcap, rfl, jkc, jkm, jkk⟩ := jks
              have x0 := hy.kind
              have x1 := hy.mode
              have x2 := hy.links
              have x3 := hy.data
              have x5 := hy.up
              clear e2 hy jkk hX
              go_wp2_with fail
              refine wp_region_still_tail 32 (by kernel_rfl) (by kernel_rfl) ?_
              simp only [List.take_succ_cons, List.take_zero, List.drop_succ_cons, List.drop_zero]
              refine wpStill_of_quiet _ _ ?_
              repeat (first | go_big_quiet_skip | (go_big_quiet_want; go_big_quiet_op; (first | go_big_quiet_on | (refine ⟨_, rname_known _ (by rw [str_len]; exact HNL.out) _ HN1.out _, ?_⟩; go_big_quiet_on))))
              refine wpQuiet_nil ?_
              change wpList _ _ _ _ _ wr.drew
              go_wp2_with fail
              refine (rthere_known _ _ _ _ _ _ _ HTH.out _).mono ?_
              rintro e w2 ⟨rfl, hb2⟩
              have hb3 : Below wr.heap.size wr w2 := ⟨hb2.os, hb2.tape, hb2.output, hb2.size, hb2.block⟩
              have r0 := cell_below hb3 q0
              have r1 := cell_below hb3 y1u
              have s0 := cell_below hb3 x0
              have s1 := cell_below hb3 x1
              have s2 := cell_below hb3 x2
              have s3 := cell_below hb3 x3
              have s4 := cell_below hb3 x4
              have s5 := cell_below hb3 x5
              have hcu2 := cell_below hb3 hcu
              have hcf2 : w2.frozen? ⟨C, u, none⟩ = false := (HCNT.out.below hb3).frozen u
              have hsz3 := hb3.size
              have gC2 : C < w2.heap.size := by omega
              have gc2 : c1 < w2.heap.size := by omega
              have gw2 : w.heap.size < w2.heap.size := by omega
              have gb2 : b2 < w2.heap.size := cell_lt s0
              have HB3 := Lib.hid hb3
              clear hb2 hb3 q0 q1 q2 x0 x1 x2 x3 x4 x5 hcu hcf y0 y1u y2 hsub
              go_wp2_with fail
              go_region
              have HBA := Lib.hid (show ∀ o, Below C w (w2.alloc o).drew from fun o => (by have h := (HBR.out.trans (HB3.out.mono (show C ≤ wr.heap.size by omega))).alloc (show C ≤ w2.heap.size by omega) o; exact ⟨h.os, h.tape, h.output, h.size, h.block⟩))
              cases k0 : (X.kind == 0) with
              | true =>
                have HNO := Lib.hid (show ¬ KidsOk L d M from fun h => (h k hlt).kind (by rw [HNODE.out, ← HX2.out]; simpa using k0))
                go_wp2_with fail
                go_ret
                exact KidsAns.no rfl (HBA.out _) HNO.out
              | false =>
                cases k2 : (X.kind == 2) with
                | false =>
                  have HKK := Lib.hid (show KidOk L d M k hlt from ⟨HNM.out, fun t' ht' => by
                    obtain rfl : t' = t := by have := HT.out; omega
                    exact hls, by rw [HU1.out]; exact HTH.out, by rw [HNODE.out, ← HX2.out]; simpa using k0, by rw [HNODE.out, ← HX2.out, HU1.out]; simp only [not_and]; intro h; rw [beq_eq_false_iff_ne] at k2; exact absurd h k2⟩)
                  go_wp2_with fail
                  go_roundw
                  case rel => exact KRel.next _ hlt HOK.out HKK.out HCNT.out HLW.out hx0 HBR.out HBOX.out hszr hCw gw HB3.out HBUMP.out
                  case measure => simp [intOf] <;> omega
                | true =>
                  cases ku : ((u : Int) == 0) with
                  | true =>
                    have HNO := Lib.hid (show ¬ KidsOk L d M from fun h => (h k hlt).dir (by rw [HNODE.out, ← HX2.out, HU1.out]; exact ⟨by simpa using k2, Or.inl (by simpa using ku)⟩))
                    go_wp2_with fail
                    go_ret
                    exact KidsAns.no rfl (HBA.out _) HNO.out
                  | false =>
                    cases kd : (X.up != (d : Int)) with
                    | true =>
                      have HNO := Lib.hid (show ¬ KidsOk L d M from fun h => (h k hlt).dir (by rw [HNODE.out, ← HX2.out, HU1.out]; exact ⟨by simpa using k2, Or.inr (by simpa using kd)⟩))
                      go_wp2_with fail
                      go_ret
                      exact KidsAns.no rfl (HBA.out _) HNO.out
                    | false =>
                      have HKK := Lib.hid (show KidOk L d M k hlt from ⟨HNM.out, fun t' ht' => by
                        obtain rfl : t' = t := by have := HT.out; omega
                        exact hls, by rw [HU1.out]; exact HTH.out, by rw [HNODE.out, ← HX2.out]; simpa using k0, by rw [HNODE.out, ← HX2.out, HU1.out]; rintro ⟨-, h | h⟩; exact absurd h (by simpa using ku); exact h (by simpa using kd)⟩)
                      go_wp2_with fail
                      go_roundw
                      case rel => exact KRel.next _ hlt HOK.out HKK.out HCNT.out HLW.out hx0 HBR.out HBOX.out hszr hCw gw HB3.out HBUMP.out
                      case measure => simp [intOf] <;> omega
      · have hg : decide (0 < k) = false := decide_eq_false (by omega)
        have HK0 := Lib.hid (show k = 0 by omega)
        clear hkp
        cases hnm : nameOkL M[k].1 with
        | false =>
          have HN1 := Lib.hid (show nameOkL (⟨M[k].1.toArray⟩ : ByteArray).data.toList = false from hnm)
          have HNO := Lib.hid (show ¬ KidsOk L d M from fun h => by have h1 := (h k hlt).name; rw [hnm] at h1; cases h1)
          clear hnm
          go_wp2_with fail
          go_quiet ((go_at_call 48; exact Calls.quiet_of_same (rname_known _ (by rw [str_len]; exact HNL.out) _ HN1.out _)))
          go_wp2_with fail
          go_ret
          exact KidsAns.no rfl ⟨HBR.out.os, HBR.out.tape, HBR.out.output, HBR.out.size, HBR.out.block⟩ HNO.out
        | true =>
          have HN1 := Lib.hid (show nameOkL (⟨M[k].1.toArray⟩ : ByteArray).data.toList = true from hnm)
          cases hth : thereB L M[k].2 with
          | false =>
            have HTH := Lib.hid hth
            have HNO := Lib.hid (show ¬ KidsOk L d M from fun h => by have h1 := (h k hlt).there; rw [hth] at h1; cases h1)
            clear hnm hth
            go_wp2_with fail
            refine wp_region_still_tail 32 (by kernel_rfl) (by kernel_rfl) ?_
            simp only [List.take_succ_cons, List.take_zero, List.drop_succ_cons, List.drop_zero]
            refine wpStill_of_quiet _ _ ?_
            repeat (first | go_big_quiet_skip | (go_big_quiet_want; go_big_quiet_op; (first | go_big_quiet_on | (refine ⟨_, rname_known _ (by rw [str_len]; exact HNL.out) _ HN1.out _, ?_⟩; go_big_quiet_on))))
            refine wpQuiet_nil ?_
            change wpList _ _ _ _ _ wr.drew
            go_wp2_with (first | (go_at_call 27; refine (rthere_known _ _ _ _ _ _ _ HTH.out _).mono ?_; rintro e w2 ⟨rfl, hb2⟩) | fail)
            go_ret
            exact KidsAns.no rfl (HBR.out.trans ⟨hb2.os, hb2.tape, hb2.output, hb2.size, fun i hi => hb2.block i (show i < wr.heap.size by omega)⟩) HNO.out
          | true =>
            obtain ⟨u, hu1, hu2⟩ := there_nat hth
            have hth' : thereB L (u : Int) = true := by rw [← hu1]; exact hth
            have HTH := Lib.hid hth'
            have y1u : wr.cell? ⟨c1, p1 + k * 2 + 1, none⟩ = some (.int .i64 (u : Int)) := by rw [← hu1]; exact y1
            have hu0 : (0 : Int) ≤ (u : Int) := by omega
            have hul : (u : Int) < (L.length : Int) := by omega
            have HNR := Lib.hid (HNN.out.below HB00.out)
            have hclen : (bump c (M.take k)).length = L.length := by rw [bump_len]; exact HLEN.out
            have hcu := HCNT.out.cell u (by rw [hclen]; exact hu2)
            obtain ⟨z, hz⟩ : ∃ z, z = (bump c (M.take k))[u]'(by rw [hclen]; exact hu2) := ⟨_, rfl⟩
            rw [← hz] at hcu
            have hzl : 0 ≤ z ∧ z ≤ x + k := HLW.out z (by rw [hz]; exact List.getElem_mem _)
            have hcf := HCNT.out.frozen u
            have gC : C < wr.heap.size := by omega
            have hnode : nodeAt L M[k].2 = L[u] := by rw [hu1, node_nat L u hu2]
            have HNODE := Lib.hid hnode
            have HBUMP := Lib.hid (show bump1 (bump c (M.take k)) M[k].2 = (bump c (M.take k)).set u (z + 1) by
              unfold bump1
              rw [hu1, Int.toNat_natCast, List.getD_eq_getElem?_getD, List.getElem?_eq_getElem (by rw [hclen]; exact hu2), ← hz]
              rfl)
            have HU1 := Lib.hid hu1
            have HNM := Lib.hid hnm
            clear hnode hz hclen hth hth' hu1 y1 hnm
            obtain ⟨X, hX⟩ : ∃ X, X = L[u] := ⟨_, rfl⟩
            have HX2 := Lib.hid hX
            obtain ⟨b2, o2, e2, hy⟩ := HNR.out.2.2 u hu2
            obtain ⟨rfl, rfl⟩ : b2 = bb' ∧ o2 = o' := by simpa [eq_comm] using e2
            rw [← hX] at hy
            obtain ⟨jv, x4, jks⟩ := hy.kids
            obtain ⟨ja, jcap, rfl, jkc, jkm, jkk⟩ := jks
            have x0 := hy.kind
            have x1 := hy.mode
            have x2 := hy.links
            have x3 := hy.data
            have x5 := hy.up
            clear e2 hy jkk hX
            go_wp2_with fail
            refine wp_region_still_tail 32 (by kernel_rfl) (by kernel_rfl) ?_
            simp only [List.take_succ_cons, List.take_zero, List.drop_succ_cons, List.drop_zero]
            refine wpStill_of_quiet _ _ ?_
            repeat (first | go_big_quiet_skip | (go_big_quiet_want; go_big_quiet_op; (first | go_big_quiet_on | (refine ⟨_, rname_known _ (by rw [str_len]; exact HNL.out) _ HN1.out _, ?_⟩; go_big_quiet_on))))
            refine wpQuiet_nil ?_
            change wpList _ _ _ _ _ wr.drew
            go_wp2_with fail
            refine (rthere_known _ _ _ _ _ _ _ HTH.out _).mono ?_
            rintro e w2 ⟨rfl, hb2⟩
            have hb3 : Below wr.heap.size wr w2 := ⟨hb2.os, hb2.tape, hb2.output, hb2.size, hb2.block⟩
            have r0 := cell_below hb3 q0
            have r1 := cell_below hb3 y1u
            have s0 := cell_below hb3 x0
            have s1 := cell_below hb3 x1
            have s2 := cell_below hb3 x2
            have s3 := cell_below hb3 x3
            have s4 := cell_below hb3 x4
            have s5 := cell_below hb3 x5
            have hcu2 := cell_below hb3 hcu
            have hcf2 : w2.frozen? ⟨C, u, none⟩ = false := (HCNT.out.below hb3).frozen u
            have hsz3 := hb3.size
            have gC2 : C < w2.heap.size := by omega
            have gc2 : c1 < w2.heap.size := by omega
            have gw2 : w.heap.size < w2.heap.size := by omega
            have gb2 : b2 < w2.heap.size := cell_lt s0
            have HB3 := Lib.hid hb3
            clear hb2 hb3 q0 q1 q2 x0 x1 x2 x3 x4 x5 hcu hcf y0 y1u
            go_wp2_with fail
            go_region
            have HBA := Lib.hid (show ∀ o, Below C w (w2.alloc o).drew from fun o => (by have h := (HBR.out.trans (HB3.out.mono (show C ≤ wr.heap.size by omega))).alloc (show C ≤ w2.heap.size by omega) o; exact ⟨h.os, h.tape, h.output, h.size, h.block⟩))
            cases k0 : (X.kind == 0) with
            | true =>
              have HNO := Lib.hid (show ¬ KidsOk L d M from fun h => (h k hlt).kind (by rw [HNODE.out, ← HX2.out]; simpa using k0))
              go_wp2_with fail
              go_ret
              exact KidsAns.no rfl (HBA.out _) HNO.out
            | false =>
              cases k2 : (X.kind == 2) with
              | false =>
                have HKK := Lib.hid (show KidOk L d M k hlt from ⟨HNM.out, fun t' ht' => by have := HK0.out; omega, by rw [HU1.out]; exact HTH.out, by rw [HNODE.out, ← HX2.out]; simpa using k0, by rw [HNODE.out, ← HX2.out, HU1.out]; simp only [not_and]; intro h; rw [beq_eq_false_iff_ne] at k2; exact absurd h k2⟩)
                go_wp2_with fail
                go_roundw
                case rel => exact KRel.next _ hlt HOK.out HKK.out HCNT.out HLW.out hx0 HBR.out HBOX.out hszr hCw gw HB3.out HBUMP.out
                case measure => simp [intOf] <;> omega
              | true =>
                cases ku : ((u : Int) == 0) with
                | true =>
                  have HNO := Lib.hid (show ¬ KidsOk L d M from fun h => (h k hlt).dir (by rw [HNODE.out, ← HX2.out, HU1.out]; exact ⟨by simpa using k2, Or.inl (by simpa using ku)⟩))
                  go_wp2_with fail
                  go_ret
                  exact KidsAns.no rfl (HBA.out _) HNO.out
                | false =>
                  cases kd : (X.up != (d : Int)) with
                  | true =>
                    have HNO := Lib.hid (show ¬ KidsOk L d M from fun h => (h k hlt).dir (by rw [HNODE.out, ← HX2.out, HU1.out]; exact ⟨by simpa using k2, Or.inr (by simpa using kd)⟩))
                    go_wp2_with fail
                    go_ret
                    exact KidsAns.no rfl (HBA.out _) HNO.out
                  | false =>
                    have HKK := Lib.hid (show KidOk L d M k hlt from ⟨HNM.out, fun t' ht' => by have := HK0.out; omega, by rw [HU1.out]; exact HTH.out, by rw [HNODE.out, ← HX2.out]; simpa using k0, by rw [HNODE.out, ← HX2.out, HU1.out]; rintro ⟨-, h | h⟩; exact absurd h (by simpa using ku); exact h (by simpa using kd)⟩)
                    go_wp2_with fail
                    go_roundw
                    case rel => exact KRel.next _ hlt HOK.out HKK.out HCNT.out HLW.out hx0 HBR.out HBOX.out hszr hCw gw HB3.out HBUMP.out
                    case measure => simp [intOf] <;> omega
    · have hall := Lib.hid (show KidsOk L d M from fun i h => HOK.out i h (by omega))
      go_wp2_with fail
      go_ret
      refine KidsAns.yes rfl HBR.out hall.out ?_
      have h := HCNT.out
      rw [List.take_of_length_le (by omega)] at h
      exact h
end Go.Proofs.YtclhpedecimicaaGreat
