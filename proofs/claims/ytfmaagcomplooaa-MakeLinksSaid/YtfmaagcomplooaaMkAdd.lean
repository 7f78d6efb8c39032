/-
  make's closures that tell a new inode, and add.
-/
import Derived.Shelf.Abstract
import Derived.Test.YtfmaagcomplooaaK10
import Derived.Test.YtfmaagcomplooaaK12
namespace Go.Proofs.Ytfmaagcomplooaa
set_option maxRecDepth 100000
open Go Go.RowKit

/-- An inode as a value. -/
def newV (x : Ino) : Value := .agg #[.int .i64 x.kind, .int .i64 x.mode, .int .i64 x.links, .string ⟨x.data.toArray⟩, .slice none 0 0, .int .i64 x.up]

set_option maxHeartbeats 1000000 in
theorem lmkdir1_any (up q : Int) (B : Nat) (w : World) (hc : w.cell? ⟨B, 0, none⟩ = some (.int .i64 q)) : Calls Try.prog 28 #[.int .i64 up, .pointer (some ⟨B, 0, none⟩)] w fun e w' => e = .returned (newV (newIno 2 q [] up)) ∧ Below w.heap.size w w' := by
  have hl := cell_lt hc
  have HB := Lib.hid (below_box w (.cells #[.int .i64 2, .int .i64 q, .int .i64 0, .string ⟨#[]⟩, .slice none 0 0, .int .i64 up] 29))
  go_enter Try.func28, Try.ntmps28
  go_wp2_with fail
  exact bodyPost_ret (v := newV (newIno 2 q [] up)) (by simp [results, Try.results28, go_sem, newV, newIno]) rfl ⟨rfl, HB.out⟩
set_option maxHeartbeats 1000000 in
theorem lcreate1_any (up q : Int) (B : Nat) (w : World) (hc : w.cell? ⟨B, 0, none⟩ = some (.int .i64 q)) : Calls Try.prog 29 #[.int .i64 up, .pointer (some ⟨B, 0, none⟩)] w fun e w' => e = .returned (newV (newIno 1 q [] 0)) ∧ Below w.heap.size w w' := by
  have hl := cell_lt hc
  have HB := Lib.hid (below_box w (.cells #[.int .i64 1, .int .i64 q, .int .i64 0, .string ⟨#[]⟩, .slice none 0 0, .int .i64 0] 29))
  go_enter Try.func29, Try.ntmps29
  go_wp2_with fail
  exact bodyPost_ret (v := newV (newIno 1 q [] 0)) (by simp [results, Try.results29, go_sem, newV, newIno]) rfl ⟨rfl, HB.out⟩
set_option maxHeartbeats 1000000 in
theorem lsymlink1_any (up : Int) (to : List UInt8) (B : Nat) (w : World) (hc : w.cell? ⟨B, 0, none⟩ = some (.string ⟨to.toArray⟩)) : Calls Try.prog 31 #[.int .i64 up, .pointer (some ⟨B, 0, none⟩)] w fun e w' => e = .returned (newV (newIno 3 7 to 0)) ∧ Below w.heap.size w w' := by
  have hl := cell_lt hc
  have HB := Lib.hid (below_box w (.cells #[.int .i64 3, .int .i64 7, .int .i64 0, .string ⟨to.toArray⟩, .slice none 0 0, .int .i64 0] 29))
  go_enter Try.func31, Try.ntmps31
  go_wp2_with fail
  exact bodyPost_ret (v := newV (newIno 3 7 to 0)) (by simp [results, Try.results31, go_sem, newV, newIno]) rfl ⟨rfl, HB.out⟩

/-- What add tells: the tree, the inode, the error. -/
def addS (L : List Ino) (b : Int) (cwd : Int) (p : List UInt8) (X : Int → Ino) : List Ino × Int × Int :=
  if (spotW L cwd p).2.2.2 ≠ 0 then (L, 0, (spotW L cwd p).2.2.2) else
  if refuseW L (spotW L cwd p).1 (spotW L cwd p).2.2.1 (X (spotW L cwd p).1).kind ≠ 0 then (L, 0, refuseW L (spotW L cwd p).1 (spotW L cwd p).2.2.1 (X (spotW L cwd p).1).kind) else
  if freeN L < 0 ∨ b < (usedB L : Int) + (X (spotW L cwd p).1).data.length then (L, 0, 28) else
  (addL L (spotW L cwd p).1.toNat (freeN L).toNat (spotW L cwd p).2.1 { X (spotW L cwd p).1 with links := 1 }, freeN L, 0)

/-- What a call of make leaves: the tree that it tells is its own. -/
def MadeAns (base : Nat) (w : World) (m b : Int) (L' : List Ino) (rest : List Value) (e : Ending) (w' : World) : Prop :=
  (∃ g cap vs, e = .returned (.tuple (#[.agg #[.slice (some ⟨g, 0, none⟩) L'.length cap, .int .i64 m, .int .i64 b]] ++ rest.toArray)) ∧ OwnT w' base g cap L' vs) ∧ Below w.heap.size w w'

/-- The end: a tree of the call's own is laid into the result's box. -/
theorem end_made {w W : World} {g cap : Nat} {L : List Ino} {vs : List Value} (hO : OwnT W (w.heap.size + 2) g cap L vs) (hB : Below w.heap.size w W) (x y z : Value) :
    OwnT (put3 W (w.heap.size + 1) x y z) w.heap.size g cap L vs ∧ Below w.heap.size w (put3 W (w.heap.size + 1) x y z) :=
  ⟨(hO.low fun k hk => put3_other (by omega) x y z).lower (by omega), put3_below hB (by omega) x y z⟩

theorem set_both {L : List Ino} {d k : Nat} (hd : d < L.length) (hdk : d ≠ k) (x : Ino) (s : List UInt8) (z : Int) :
    (((L.set k x).set d (withKids ((L.set k x)[d]'(by rw [List.length_set]; exact hd)) (namedL ((L.set k x)[d]'(by rw [List.length_set]; exact hd)).kids s k))).set k { x with links := z }) = addL L d k s { x with links := z } := by
  have e : (L.set k x)[d]'(by rw [List.length_set]; exact hd) = L[d] := List.getElem_set_ne (fun e => hdk e.symm) _
  rw [e]
  unfold addL
  rw [node_nat L d hd, List.set_comm _ _ hdk, List.set_set]

set_option maxHeartbeats 4000000 in
theorem ladd_any (a : Option Addr) (cap : Nat) (m b cwd : Int) (pb : ByteArray) (hp : pb.size ≤ 1073741824) (L : List Ino) (hF : FitP L m b) (X : Int → Ino) (hX0 : ∀ d, (X d).kids = []) (hX1 : ∀ d, (X d).links = 0) (hX2 : ∀ d, (X d).data.length ≤ 1024) (fid : FuncId) (lb : Array Value)
    (eg : ∀ args w, (callFunc fid args).run Try.prog w = .ok (.enter fid args) w) (w : World) (hN : NodesIn w a cap L)
    (hmk : ∀ W d, Below w.heap.size w W → Calls Try.prog fid (#[.int .i64 d] ++ lb) W fun e w' => e = .returned (newV (X d)) ∧ Below W.heap.size W w')
    (L' : List Ino) (kz ez : Int) (hz : addS L b cwd pb.data.toList X = (L', kz, ez)) :
    Calls Try.prog 27 #[.agg #[.slice a L.length cap, .int .i64 m, .int .i64 b], .int .i64 cwd, .string pb, .func (.func fid) #[] lb] w (MadeAns w.heap.size w m b L' [.int .i64 kz, .int .i64 ez]) := by
  obtain ⟨⟨d, nm, sl, pe⟩, hsp⟩ : ∃ r, spotW L cwd pb.data.toList = r := ⟨_, rfl⟩
  obtain ⟨w2, hw2, hb2, hs2, hA, hB⟩ := two_boxes w #[.slice a L.length cap, .int .i64 m, .int .i64 b] #[.slice none 0 0, .int .i64 0, .int .i64 0] 24 24
  obtain ⟨l1, l2, l3, l4, l5⟩ := hF.limits
  have hL0 : 0 < L.length := by omega
  have hL1 : L.length ≤ 256 := by omega
  have hAll := Lib.hid (show ∀ W, Below w2.heap.size w2 W → W.cell? ⟨w.heap.size, 0, none⟩ = some (.slice a L.length cap) ∧ W.cell? ⟨w.heap.size, 1, none⟩ = some (.int .i64 m) ∧ W.cell? ⟨w.heap.size, 2, none⟩ = some (.int .i64 b) from fun W hW => by
    have h := (hW.block w.heap.size (by omega)).trans hA
    exact ⟨blk_cell h 0, blk_cell h 1, blk_cell h 2⟩)
  have HSP := Lib.hid hsp
  have HF := Lib.hid hF
  have HN2 := Lib.hid (hN.below hb2)
  have HZ := Lib.hid hz
  have HMK := Lib.hid hmk
  have HB2 := Lib.hid hb2
  have HA := Lib.hid hA
  have HR := Lib.hid hB
  clear hsp hF hN hz hmk hb2 hA hB
  go_enter Try.func27, Try.ntmps27
  go_wp2_with fail
  rw [← hw2]
  clear hw2
  refine (lcopied_any a cap m b L hL0 (by omega) (fun x hx => by obtain ⟨j, hj, rfl⟩ := List.getElem_of_mem hx; have := (HF.out.ins j hj).2.1; omega) _ HN2.out).mono ?_
  rintro e w3 ⟨g, cap', vs, rfl, hO3, hb3⟩
  have HO3 := Lib.hid hO3
  have HB3 := Lib.hid hb3
  have hs3 := hb3.size
  obtain ⟨q0, q1, q2⟩ := hAll.out _ hb3
  have hq := cell_lt q0
  clear hO3 hb3
  go_wp2_with fail
  obtain ⟨w4, hw4⟩ : ∃ w4, w4 = w3.alloc (.cells #[.slice (some ⟨g, 0, none⟩) L.length cap', .int .i64 m, .int .i64 b] 24) := ⟨_, rfl⟩
  have hb4 : Below w3.heap.size w3 w4 := by rw [hw4]; exact below_box w3 _
  have hM4 : w4.heap[w3.heap.size]? = some (.cells #[.slice (some ⟨g, 0, none⟩) L.length cap', .int .i64 m, .int .i64 b] 24 (0, 0)) := by rw [hw4]; exact new_block w3 _
  have hs4 : w4.heap.size = w3.heap.size + 1 := by rw [hw4]; simp
  rw [← hw4]
  clear hw4 q0 q1 q2 hq
  have HB4 := Lib.hid (HB3.out.trans (hb4.mono hs3))
  have HB34 := Lib.hid hb4
  have HM4 := Lib.hid hM4
  clear hb4 hM4
  refine (lnew_any _ _ _ _ _ _ hp L HF.out _ _ _ _ HSP.out _ (HN2.out.below HB4.out)).mono ?_
  rintro e w5 ⟨rfl, hb5⟩
  have HB5 := Lib.hid (HB4.out.trans (hb5.mono (by omega)))
  have HB35 := Lib.hid (HB34.out.trans (hb5.mono (by omega)))
  have hM5 := (hb5.block w3.heap.size (by omega)).trans HM4.out
  have HM5 := Lib.hid hM5
  have hs5 := hb5.size
  have HS5 := Lib.hid hs5
  clear hb5 hM5
  by_cases h1 : pe = 0
  · subst h1
    obtain ⟨w6, hw6⟩ : ∃ w6, w6 = w5.alloc (.cells #[.int .i64 d, .string ⟨nm.toArray⟩, .bool sl] 74) := ⟨_, rfl⟩
    have hb6 : Below w5.heap.size w5 w6 := by rw [hw6]; exact below_box w5 _
    have hS6 : w6.heap[w5.heap.size]? = some (.cells #[.int .i64 d, .string ⟨nm.toArray⟩, .bool sl] 74 (0, 0)) := by rw [hw6]; exact new_block w5 _
    have hs6 : w6.heap.size = w5.heap.size + 1 := by rw [hw6]; simp
    have HB56 := Lib.hid hb6
    have HS6 := Lib.hid hS6
    have HARM := Lib.hid (show ∀ W, Below w6.heap.size w6 W → W.cell? ⟨w5.heap.size, 0, none⟩ = some (.int .i64 d) ∧ W.cell? ⟨w5.heap.size, 1, none⟩ = some (.string ⟨nm.toArray⟩) ∧ W.cell? ⟨w5.heap.size, 2, none⟩ = some (.bool sl) from fun W hW => by
      have h := (hW.block w5.heap.size (by omega)).trans HS6.out
      exact ⟨blk_cell h 0, blk_cell h 1, blk_cell h 2⟩)
    have hAll2 := Lib.hid (show ∀ W, Below w6.heap.size w6 W → W.cell? ⟨w.heap.size, 0, none⟩ = some (.slice a L.length cap) ∧ W.cell? ⟨w.heap.size, 1, none⟩ = some (.int .i64 m) ∧ W.cell? ⟨w.heap.size, 2, none⟩ = some (.int .i64 b) from fun W hW => hAll.out W (HB5.out.trans ((HB56.out.mono (by omega)).trans (hW.mono (by omega)))))
    have HW6 := Lib.hid (show Below w.heap.size w w6 from HB2.out.trans (((HB5.out).trans (HB56.out.mono (by omega))).mono (by omega)))
    obtain ⟨xk, hxk⟩ : ∃ v, (X d).kind = v := ⟨_, rfl⟩
    obtain ⟨xm, hxm⟩ : ∃ v, (X d).mode = v := ⟨_, rfl⟩
    obtain ⟨xd, hxd⟩ : ∃ v, (X d).data = v := ⟨_, rfl⟩
    obtain ⟨xu, hxu⟩ : ∃ v, (X d).up = v := ⟨_, rfl⟩
    have hxl := hX1 d
    have hc6 := HMK.out w6 d HW6.out
    unfold newV at hc6
    rw [hxk, hxm, hxl, hxd, hxu] at hc6
    have HXE := Lib.hid (show X d = ⟨xk, xm, 0, xd, [], xu⟩ by have h0 := hX0 d; cases hx : X d; rw [hx] at hxk hxm hxl hxd hxu h0; simp only at hxk hxm hxl hxd hxu h0; subst hxk hxm hxl hxd hxu h0; rfl)
    have HC6 := Lib.hid hc6
    rw [hw6] at HC6
    have hxdl : xd.length ≤ 1024 := by rw [← hxd]; exact hX2 d
    clear hxk hxm hxl hxd hxu hc6 hX0 hX1 hX2 HMK hAll
    clear hb6 hS6
    go_wp2_with fail
    refine HC6.out.mono ?_
    rintro e w7 ⟨rfl, hb7⟩
    have hb7' : Below w6.heap.size w6 w7 := by rw [hw6]; exact hb7
    obtain ⟨q0, q1, q2⟩ := hAll2.out w7 hb7'
    obtain ⟨u0, u1, u2⟩ := HARM.out w7 hb7'
    have HB7 := Lib.hid hb7'
    have hs7 := hb7'.size
    have hq := cell_lt q0
    have hu := cell_lt u0
    clear hb7 hb7' hw6 HC6
    go_wp2_with fail
    obtain ⟨w8, hw8⟩ : ∃ w8, w8 = w7.alloc (.cells #[.int .i64 xk, .int .i64 xm, .int .i64 0, .string ⟨xd.toArray⟩, .slice none 0 0, .int .i64 xu] 29) := ⟨_, rfl⟩
    have hb78 : Below w7.heap.size w7 w8 := by rw [hw8]; exact below_box w7 _
    have hI8 : w8.heap[w7.heap.size]? = some (.cells #[.int .i64 xk, .int .i64 xm, .int .i64 0, .string ⟨xd.toArray⟩, .slice none 0 0, .int .i64 xu] 29 (0, 0)) := by rw [hw8]; exact new_block w7 _
    have hs8 : w8.heap.size = w7.heap.size + 1 := by rw [hw8]; simp
    rw [← hw8]
    clear hw8 q0 q1 q2 u0 u1 u2 hq hu
    have HB68 := Lib.hid (HB7.out.trans (hb78.mono hs7))
    have HB58 := Lib.hid (HB56.out.trans (HB68.out.mono (by omega)))
    have HA8 := Lib.hid (show ∀ W, Below w8.heap.size w8 W → W.cell? ⟨w.heap.size, 0, none⟩ = some (.slice a L.length cap) ∧ W.cell? ⟨w.heap.size, 1, none⟩ = some (.int .i64 m) ∧ W.cell? ⟨w.heap.size, 2, none⟩ = some (.int .i64 b) from fun W hW => hAll2.out W (HB68.out.trans (hW.mono (by omega))))
    have HS8 := Lib.hid (show ∀ W, Below w8.heap.size w8 W → W.cell? ⟨w5.heap.size, 0, none⟩ = some (.int .i64 d) ∧ W.cell? ⟨w5.heap.size, 1, none⟩ = some (.string ⟨nm.toArray⟩) ∧ W.cell? ⟨w5.heap.size, 2, none⟩ = some (.bool sl) from fun W hW => HARM.out W (HB68.out.trans (hW.mono (by omega))))
    have HM8 := Lib.hid (show ∀ W, Below w8.heap.size w8 W → W.cell? ⟨w3.heap.size, 0, none⟩ = some (.slice (some ⟨g, 0, none⟩) L.length cap') ∧ W.cell? ⟨w3.heap.size, 1, none⟩ = some (.int .i64 m) ∧ W.cell? ⟨w3.heap.size, 2, none⟩ = some (.int .i64 b) from fun W hW => by
      have h := ((HB58.out.trans (hW.mono (by omega))).block w3.heap.size (by omega)).trans HM5.out
      exact ⟨blk_cell h 0, blk_cell h 1, blk_cell h 2⟩)
    have HI8 := Lib.hid (show ∀ W, Below w8.heap.size w8 W → W.heap[w7.heap.size]? = some (.cells #[.int .i64 xk, .int .i64 xm, .int .i64 0, .string ⟨xd.toArray⟩, .slice none 0 0, .int .i64 xu] 29 (0, 0)) from fun W hW => (hW.block _ (by omega)).trans hI8)
    have HR8 := Lib.hid (show ∀ W, Below w8.heap.size w8 W → W.heap[w.heap.size + 1]? = some (.cells #[.slice none 0 0, .int .i64 0, .int .i64 0] 24 (0, 0)) from fun W hW => ((HB5.out.trans (HB58.out.mono (by omega))).block _ (by omega) |> (hW.block _ (by omega)).trans).trans HR.out)
    have HO8 := Lib.hid (show ∀ W, Below w8.heap.size w8 W → OwnT W (w.heap.size + 2) g cap' L vs from fun W hW => by
      have := HO3.out.below (HB35.out.trans ((HB58.out.mono (by omega)).trans (hW.mono (by omega))))
      rw [hs2] at this
      exact this)
    have HN8 := Lib.hid (show ∀ W, Below w8.heap.size w8 W → NodesIn W a cap L from fun W hW => HN2.out.below (HB5.out.trans ((HB58.out.mono (by omega)).trans (hW.mono (by omega)))))
    have HBW := Lib.hid (show ∀ W, Below w8.heap.size w8 W → Below w.heap.size w W from fun W hW => HB2.out.trans ((HB5.out.trans ((HB58.out.mono (by omega)).trans (hW.mono (by omega)))).mono (by omega)))
    have hsp0 := HSP.out
    obtain ⟨dn, s', hdn, hpw, hfw, hkd, hnk, hnew, hmay⟩ := fresh_ok HF.out (cwd := cwd) (p := pb.data.toList) (dirs := true) (by
      unfold spotW at hsp0
      split at hsp0
      · rename_i h0
        exfalso
        exact h0 (by simpa using (Prod.mk.inj (Prod.mk.inj (Prod.mk.inj hsp0).2).2).2)
      · rename_i h0
        simpa using h0)
    have hdd : d = (dn : Int) ∧ nm = s' := by
      unfold spotW at hsp0
      rw [hfw] at hsp0
      simp at hsp0
      exact ⟨hsp0.1.symm, hsp0.2.1.symm⟩
    obtain ⟨rfl, rfl⟩ := hdd
    have HNEW := Lib.hid (show L[dn].kind = 2 ∧ nameOkL nm = true ∧ ∀ e ∈ L[dn].kids, e.1 ≠ nm from ⟨hkd, hnk, hnew⟩)
    clear hsp0 hpw hfw hkd hnk hnew hmay HARM hAll2 hb78 hI8 HB7 HB56 HS6 HW6
    obtain ⟨rf, hrf⟩ : ∃ v, refuseW L (dn : Int) sl xk = v := ⟨_, rfl⟩
    have HRF := Lib.hid hrf
    refine (lrefuse_any a cap m b dn ⟨nm.toArray⟩ sl xk L (by omega) hdn _ (HN8.out _ (Below.refl _ _))).mono ?_
    rw [hrf]
    rintro e w9 ⟨rfl, hb9⟩
    have HB8w9 := Lib.hid hb9
    have hs9 := hb9.size
    clear hb9 hrf
    have hz2 := HZ.out
    unfold addS at hz2
    rw [HSP.out] at hz2
    simp only [ne_eq, not_true_eq_false, if_false, HXE.out, HRF.out] at hz2
    by_cases h2 : rf = 0
    · subst h2
      obtain ⟨q0, q1, q2⟩ := HA8.out w9 HB8w9.out
      have hq := cell_lt q0
      go_wp2_with fail
      refine (lfree_any a cap L (by omega) _ (HN8.out w9 HB8w9.out)).mono ?_
      rintro e w10 ⟨rfl, hb10⟩
      have HB8w10 := Lib.hid (HB8w9.out.trans (hb10.mono hs9))
      have hs10 := hb10.size
      clear hb10 q0 q1 q2 hq
      obtain ⟨fz, hfz⟩ : ∃ v, freeN L = v := ⟨_, rfl⟩
      rw [hfz] at hz2 ⊢
      have HFZ := Lib.hid hfz
      clear hfz
      by_cases h3 : fz < 0
      · simp only [h3, true_or, not_true_eq_false, if_false, if_true, Prod.mk.injEq] at hz2
        obtain ⟨rfl, rfl, rfl⟩ := hz2
        have HRX := Lib.hid (HR8.out w10 HB8w10.out)
        have r0 := blk_cell HRX.out 0
        have r1 := blk_cell HRX.out 1
        have r2 := blk_cell HRX.out 2
        have s0 := blk_free HRX.out 0
        have s1 := blk_free HRX.out 1
        have s2 := blk_free HRX.out 2
        have hrl := lt_of_block HRX.out
        obtain ⟨m0, m1, m2⟩ := HM8.out w10 HB8w10.out
        have hml := cell_lt m0
        go_wp2_with fail
        change bodyPost _ _ _ _ _ (put3 w10 (w.heap.size + 1) (.slice (some ⟨g, 0, none⟩) L.length cap') (.int .i64 m) (.int .i64 b))
        obtain ⟨c0, c1, c2⟩ := put3_cells HRX.out (.slice (some ⟨g, 0, none⟩) L.length cap') (.int .i64 m) (.int .i64 b)
        obtain ⟨hOF, hBF⟩ := end_made (HO8.out w10 HB8w10.out) (HBW.out w10 HB8w10.out) (.slice (some ⟨g, 0, none⟩) L.length cap') (.int .i64 m) (.int .i64 b)
        have HOG := Lib.hid hOF
        have HBG := Lib.hid hBF
        clear hOF hBF
        generalize put3 w10 (w.heap.size + 1) (.slice (some ⟨g, 0, none⟩) L.length cap') (.int .i64 m) (.int .i64 b) = wF at *
        exact bodyPost_ret (v := .tuple #[.agg #[.slice (some ⟨g, 0, none⟩) L.length cap', .int .i64 m, .int .i64 b], .int .i64 0, .int .i64 28]) (by simp [results, Try.results27, go_sem, c0, c1, c2]) rfl ⟨⟨g, cap', vs, rfl, HOG.out⟩, HBG.out⟩
      · obtain ⟨k, hk, hkf⟩ : ∃ k : Nat, fz = (k : Int) ∧ freeW L L.length 0 = some k := by
          have h4 := HFZ.out
          unfold freeN at h4
          cases hw : freeW L L.length 0 with
          | none => rw [hw] at h4; simp only at h4; omega
          | some k => rw [hw] at h4; exact ⟨k, h4.symm, rfl⟩
        subst hk
        obtain ⟨-, hk1, hk2⟩ := free_some L.length 0 hkf
        have hkl : k < L.length := by omega
        rw [node_nat L k hkl] at hk2
        have HK2 := Lib.hid hk2
        clear hk2 hkf
        obtain ⟨q0, q1, q2⟩ := HA8.out w10 HB8w10.out
        have hq := cell_lt q0
        have i3 := blk_cell (HI8.out w10 HB8w10.out) 3
        have hil := lt_of_block (HI8.out w10 HB8w10.out)
        have hsl := str_len xd
        go_wp2_with fail
        refine (lroom_any a cap m b xd.length (by omega) L (by omega) (by omega) _ (HN8.out w10 HB8w10.out)).mono ?_
        rintro e w11 ⟨rfl, hb11⟩
        have HB8w11 := Lib.hid (HB8w10.out.trans (hb11.mono (by omega)))
        have hs11 := hb11.size
        clear hb11 q0 q1 q2 hq i3 hil
        have h3' : ¬ ((k : Int) < 0) := by omega
        simp only [h3', false_or, not_true_eq_false, if_false] at hz2
        by_cases h5 : (usedB L : Int) + (xd.length : Int) ≤ b
        · have h5b : decide ((usedB L : Int) + (xd.length : Int) ≤ b) = true := decide_eq_true h5
          rw [if_neg (by omega)] at hz2
          simp only [Prod.mk.injEq] at hz2
          obtain ⟨hL', rfl, rfl⟩ := hz2
          have HL' := Lib.hid hL'
          have hO11 := HO8.out w11 HB8w11.out
          have hkv : k < vs.length := by rw [hO11.nodes.len]; exact hkl
          have hnk := hO11.nodes.node k hkl hkv
          have n0 := hnk.kind
          have n1 := hnk.mode
          have n2 := hnk.links
          have n3 := hnk.data
          have n4 := hnk.kids
          have n5 := hnk.up
          have fr0 := hO11.nodes.free (k * 6)
          have fr1 := hO11.nodes.free (k * 6 + 1)
          have fr2 := hO11.nodes.free (k * 6 + 2)
          have fr3 := hO11.nodes.free (k * 6 + 3)
          have fr4 := hO11.nodes.free (k * 6 + 4)
          have fr5 := hO11.nodes.free (k * 6 + 5)
          have hgl := hO11.nodes.lt
          have hB11 := HI8.out w11 HB8w11.out
          have i0 := blk_cell hB11 0
          have i1 := blk_cell hB11 1
          have i2 := blk_cell hB11 2
          have i3 := blk_cell hB11 3
          have i4 := blk_cell hB11 4
          have i5 := blk_cell hB11 5
          have hil := lt_of_block hB11
          obtain ⟨m0, m1, m2⟩ := HM8.out w11 HB8w11.out
          obtain ⟨u0, u1, u2⟩ := HS8.out w11 HB8w11.out
          have hml := cell_lt m0
          have hul := cell_lt u0
          have hg3 : g < w3.heap.size := HO3.out.nodes.lt
          have hne1 : ¬ (g = w3.heap.size) := by omega
          have hne2 : ¬ (g = w5.heap.size) := by omega
          have hkl' : (k : Int) < (L.length : Int) := by omega
          have hk0 : (0 : Int) ≤ (k : Int) := by omega
          obtain ⟨kv, hkvv⟩ : ∃ v, v = vs[k] := ⟨_, rfl⟩
          rw [← hkvv] at n4
          clear hB11 hnk hkvv hO11
          go_wp2_with fail
          change Calls _ _ _ (w11.setCells g (k * 6) (inoC (⟨xk, xm, 0, xd, [], xu⟩ : Ino) (.slice none 0 0))) _
          obtain ⟨w12, hw12⟩ : ∃ w12, w12 = w11.setCells g (k * 6) (inoC (⟨xk, xm, 0, xd, [], xu⟩ : Ino) (.slice none 0 0)) := ⟨_, rfl⟩
          rw [← hw12]
          have hO12 : OwnT w12 (w.heap.size + 2) g cap' (L.set k (⟨xk, xm, 0, xd, [], xu⟩ : Ino)) (vs.set k (.slice none 0 0)) := by rw [hw12]; exact (HO8.out w11 HB8w11.out).setNode hkl (⟨xk, xm, 0, xd, [], xu⟩ : Ino) rfl
          have hst12 : ∀ j, j ≠ g → w12.heap[j]? = w11.heap[j]? := fun j hj => by rw [hw12]; exact heap_sets _ _ _ _ _ hj
          have hs12 : w12.heap.size = w11.heap.size := by rw [hw12]; exact size_sets _ _ _ _
          have hb12 : Below w.heap.size w w12 := by
            have h1 := HBW.out w11 HB8w11.out
            have h2 := HO3.out.hbase
            have hsts : ∀ (l : List Value) (b o : Nat) (W : World), (W.setCells b o l).os = W.os ∧ (W.setCells b o l).tape = W.tape ∧ (W.setCells b o l).output = W.output := fun l => by
              induction l with
              | nil => exact fun _ _ _ => ⟨rfl, rfl, rfl⟩
              | cons v r ih => exact fun b o W => ih b (o + 1) (W.setCell ⟨b, o, none⟩ v)
            have h3 := hsts (inoC (⟨xk, xm, 0, xd, [], xu⟩ : Ino) (.slice none 0 0)) g (k * 6) w11
            exact ⟨by rw [hw12]; exact h3.1.trans h1.os, by rw [hw12]; exact h3.2.1.trans h1.tape, by rw [hw12]; exact h3.2.2.trans h1.output, by rw [hs12]; exact h1.size, fun j hj => (hst12 j (by omega)).trans (h1.block j hj)⟩
          have HO12 := Lib.hid hO12
          have HST12 := Lib.hid hst12
          have HB12 := Lib.hid hb12
          clear n0 n1 n2 n3 n4 n5 fr0 fr1 fr2 fr3 fr4 fr5 i0 i1 i2 i3 i4 i5 hil m0 m1 m2 u0 u1 u2 hml hul hw12 hO12 hst12 hb12
          have hdk : dn ≠ k := fun e => by
            have h1 := HNEW.out.1
            have h2 := HK2.out
            subst e
            rw [h2] at h1
            exact absurd h1 (by decide)
          have hdl' : dn < (L.set k (⟨xk, xm, 0, xd, [], xu⟩ : Ino)).length := by rw [List.length_set]; exact hdn
          have hkl2 : k < (L.set k (⟨xk, xm, 0, xd, [], xu⟩ : Ino)).length := by rw [List.length_set]; exact hkl
          have ed : (L.set k (⟨xk, xm, 0, xd, [], xu⟩ : Ino))[dn] = L[dn] := List.getElem_set_ne (fun e => hdk e.symm) _
          have ek : (L.set k (⟨xk, xm, 0, xd, [], xu⟩ : Ino))[k] = (⟨xk, xm, 0, xd, [], xu⟩ : Ino) := List.getElem_set_self ..
          have hgive := lgive_any (w.heap.size + 2) g cap' dn k m b nm sl (L.set k (⟨xk, xm, 0, xd, [], xu⟩ : Ino)) (vs.set k (.slice none 0 0)) hdl' hkl2 hdk (by rw [ed]; exact (kids_rise HF.out.ins dn hdn).2) (by rw [ed]; exact (HF.out.ins dn hdn).2.1) (by rw [ed]; exact HNEW.out.2.2) (by rw [ek]; exact Int.le_refl _) (by rw [ek]; show (0 : Int) ≤ 4611686018427387904; decide) w12 (by have := (HBW.out w11 HB8w11.out).size; omega) HO12.out
          rw [ek] at hgive
          simp only [set_both hdn hdk] at hgive
          rw [List.length_set] at hgive
          have HGIVE := Lib.hid hgive
          have HUN := Lib.hid (show Under g (vs.set k (.slice none 0 0)) w3.heap.size from ⟨HO3.out.nodes.lt, fun j hj r hr => by
            rw [List.length_set] at hj
            rw [List.getElem_set] at hr
            split at hr
            · cases hr
            · exact HO3.out.under.own j hj r hr⟩)
          clear hgive ed ek
          refine HGIVE.out.mono ?_
          rintro e w13 ⟨rfl, ⟨vs', hO13⟩, hb13, hkeep⟩
          have hM13 : w13.heap[w3.heap.size]? = w11.heap[w3.heap.size]? := (hkeep _ HUN.out _ (Nat.le_refl _) (by rw [hs12]; exact Nat.lt_of_lt_of_le (by omega) HB8w11.out.size)).trans (HST12.out _ (by omega))
          have hc0 := (World.cell?_of_block (a := ⟨w3.heap.size, 0, none⟩) hM13).trans (HM8.out w11 HB8w11.out).1
          have hc1 := (World.cell?_of_block (a := ⟨w3.heap.size, 1, none⟩) hM13).trans (HM8.out w11 HB8w11.out).2.1
          have hc2 := (World.cell?_of_block (a := ⟨w3.heap.size, 2, none⟩) hM13).trans (HM8.out w11 HB8w11.out).2.2
          have hml := cell_lt hc0
          have hR13 : w13.heap[w.heap.size + 1]? = some (.cells #[.slice none 0 0, .int .i64 0, .int .i64 0] 24 (0, 0)) := (hb13.block _ (by omega)).trans ((HST12.out _ (by have := HO3.out.hbase; omega)).trans (HR8.out w11 HB8w11.out))
          have HRX := Lib.hid hR13
          have r0 := blk_cell hR13 0
          have r1 := blk_cell hR13 1
          have r2 := blk_cell hR13 2
          have s0 := blk_free hR13 0
          have s1 := blk_free hR13 1
          have s2 := blk_free hR13 2
          have hrl := lt_of_block hR13
          have HO13 := Lib.hid hO13
          have HB13 := Lib.hid (HB12.out.trans (hb13.mono (show w.heap.size ≤ w.heap.size + 2 by omega)))
          clear hO13 hb13 hkeep hM13 hR13
          go_wp2_with fail
          change bodyPost _ _ _ _ _ (put3 w13 (w.heap.size + 1) (.slice (some ⟨g, 0, none⟩) L.length cap') (.int .i64 m) (.int .i64 b))
          obtain ⟨c0, c1, c2⟩ := put3_cells HRX.out (.slice (some ⟨g, 0, none⟩) L.length cap') (.int .i64 m) (.int .i64 b)
          obtain ⟨hOF, hBF⟩ := end_made HO13.out HB13.out (.slice (some ⟨g, 0, none⟩) L.length cap') (.int .i64 m) (.int .i64 b)
          have HOG := Lib.hid hOF
          have HBG := Lib.hid hBF
          clear hOF hBF
          generalize put3 w13 (w.heap.size + 1) (.slice (some ⟨g, 0, none⟩) L.length cap') (.int .i64 m) (.int .i64 b) = wF at *
          have hLl : L'.length = L.length := by rw [← HL'.out, Int.toNat_natCast, Int.toNat_natCast]; exact add_len ..
          exact bodyPost_ret (v := .tuple #[.agg #[.slice (some ⟨g, 0, none⟩) L.length cap', .int .i64 m, .int .i64 b], .int .i64 k, .int .i64 0]) (by simp [results, Try.results27, go_sem, c0, c1, c2]) rfl ⟨⟨g, cap', vs', by rw [hLl]; rfl, by rw [← HL'.out, Int.toNat_natCast, Int.toNat_natCast]; exact HOG.out⟩, HBG.out⟩
        · have h5b : decide ((usedB L : Int) + (xd.length : Int) ≤ b) = false := decide_eq_false h5
          rw [if_pos (by omega)] at hz2
          simp only [Prod.mk.injEq] at hz2
          obtain ⟨rfl, rfl, rfl⟩ := hz2
          have HRX := Lib.hid (HR8.out w11 HB8w11.out)
          have r0 := blk_cell HRX.out 0
          have r1 := blk_cell HRX.out 1
          have r2 := blk_cell HRX.out 2
          have s0 := blk_free HRX.out 0
          have s1 := blk_free HRX.out 1
          have s2 := blk_free HRX.out 2
          have hrl := lt_of_block HRX.out
          obtain ⟨m0, m1, m2⟩ := HM8.out w11 HB8w11.out
          have hml := cell_lt m0
          go_wp2_with fail
          change bodyPost _ _ _ _ _ (put3 w11 (w.heap.size + 1) (.slice (some ⟨g, 0, none⟩) L.length cap') (.int .i64 m) (.int .i64 b))
          obtain ⟨c0, c1, c2⟩ := put3_cells HRX.out (.slice (some ⟨g, 0, none⟩) L.length cap') (.int .i64 m) (.int .i64 b)
          obtain ⟨hOF, hBF⟩ := end_made (HO8.out w11 HB8w11.out) (HBW.out w11 HB8w11.out) (.slice (some ⟨g, 0, none⟩) L.length cap') (.int .i64 m) (.int .i64 b)
          have HOG := Lib.hid hOF
          have HBG := Lib.hid hBF
          clear hOF hBF
          generalize put3 w11 (w.heap.size + 1) (.slice (some ⟨g, 0, none⟩) L.length cap') (.int .i64 m) (.int .i64 b) = wF at *
          exact bodyPost_ret (v := .tuple #[.agg #[.slice (some ⟨g, 0, none⟩) L.length cap', .int .i64 m, .int .i64 b], .int .i64 0, .int .i64 28]) (by simp [results, Try.results27, go_sem, c0, c1, c2]) rfl ⟨⟨g, cap', vs, rfl, HOG.out⟩, HBG.out⟩

    · simp only [h2, not_false_eq_true, if_true, Prod.mk.injEq] at hz2
      obtain ⟨rfl, rfl, rfl⟩ := hz2
      have hb2 : (rf != 0) = true := by simpa using h2
      have HRX := Lib.hid (HR8.out w9 HB8w9.out)
      have r0 := blk_cell HRX.out 0
      have r1 := blk_cell HRX.out 1
      have r2 := blk_cell HRX.out 2
      have s0 := blk_free HRX.out 0
      have s1 := blk_free HRX.out 1
      have s2 := blk_free HRX.out 2
      have hrl := lt_of_block HRX.out
      obtain ⟨m0, m1, m2⟩ := HM8.out w9 HB8w9.out
      have hml := cell_lt m0
      go_wp2_with fail
      change bodyPost _ _ _ _ _ (put3 w9 (w.heap.size + 1) (.slice (some ⟨g, 0, none⟩) L.length cap') (.int .i64 m) (.int .i64 b))
      obtain ⟨c0, c1, c2⟩ := put3_cells HRX.out (.slice (some ⟨g, 0, none⟩) L.length cap') (.int .i64 m) (.int .i64 b)
      obtain ⟨hOF, hBF⟩ := end_made (HO8.out w9 HB8w9.out) (HBW.out w9 HB8w9.out) (.slice (some ⟨g, 0, none⟩) L.length cap') (.int .i64 m) (.int .i64 b)
      have HOG := Lib.hid hOF
      have HBG := Lib.hid hBF
      clear hOF hBF
      generalize put3 w9 (w.heap.size + 1) (.slice (some ⟨g, 0, none⟩) L.length cap') (.int .i64 m) (.int .i64 b) = wF at *
      exact bodyPost_ret (v := .tuple #[.agg #[.slice (some ⟨g, 0, none⟩) L.length cap', .int .i64 m, .int .i64 b], .int .i64 0, .int .i64 rf]) (by simp [results, Try.results27, go_sem, c0, c1, c2]) rfl ⟨⟨g, cap', vs, rfl, HOG.out⟩, HBG.out⟩
  · have hz2 := HZ.out
    unfold addS at hz2
    rw [HSP.out] at hz2
    simp only [h1, ne_eq, not_false_eq_true, if_true, Prod.mk.injEq] at hz2
    obtain ⟨rfl, rfl, rfl⟩ := hz2
    have hb1 : (pe != 0) = true := by simpa using h1
    have m0 := blk_cell HM5.out 0
    have m1 := blk_cell HM5.out 1
    have m2 := blk_cell HM5.out 2
    have hml := lt_of_block HM5.out
    have hR5 : w5.heap[w.heap.size + 1]? = some (.cells #[.slice none 0 0, .int .i64 0, .int .i64 0] 24 (0, 0)) := (HB5.out.block _ (by omega)).trans HR.out
    have r0 := blk_cell hR5 0
    have r1 := blk_cell hR5 1
    have r2 := blk_cell hR5 2
    have s0 := blk_free hR5 0
    have s1 := blk_free hR5 1
    have s2 := blk_free hR5 2
    have hrl := lt_of_block hR5
    have HRX := Lib.hid hR5
    clear hAll HMK eg hR5
    go_wp2_with fail
    change bodyPost _ _ _ _ _ ((put3 w5 (w.heap.size + 1) (.slice (some ⟨g, 0, none⟩) L.length cap') (.int .i64 m) (.int .i64 b)).alloc (.cells #[.int .i64 d, .string ⟨nm.toArray⟩, .bool sl] 74))
    have hO5 : OwnT w5 (w.heap.size + 2) g cap' L vs := by
      have := HO3.out.below HB35.out
      rw [hs2] at this
      exact this
    obtain ⟨c0, c1, c2⟩ := put3_cells HRX.out (.slice (some ⟨g, 0, none⟩) L.length cap') (.int .i64 m) (.int .i64 b)
    obtain ⟨hOF, hBF⟩ := end_made hO5 (HB2.out.trans (HB5.out.mono (by omega))) (.slice (some ⟨g, 0, none⟩) L.length cap') (.int .i64 m) (.int .i64 b)
    have hbx := below_box (put3 w5 (w.heap.size + 1) (.slice (some ⟨g, 0, none⟩) L.length cap') (.int .i64 m) (.int .i64 b)) (.cells #[.int .i64 d, .string ⟨nm.toArray⟩, .bool sl] 74)
    have d0 := cell_below hbx c0
    have d1 := cell_below hbx c1
    have d2 := cell_below hbx c2
    have HOG := Lib.hid (hOF.below hbx)
    have HBG := Lib.hid (hBF.trans (hbx.mono hBF.size))
    clear c0 c1 c2 hOF hBF hbx
    generalize (put3 w5 (w.heap.size + 1) (.slice (some ⟨g, 0, none⟩) L.length cap') (.int .i64 m) (.int .i64 b)).alloc (.cells #[.int .i64 d, .string ⟨nm.toArray⟩, .bool sl] 74) = wF at *
    exact bodyPost_ret (v := .tuple #[.agg #[.slice (some ⟨g, 0, none⟩) L.length cap', .int .i64 m, .int .i64 b], .int .i64 0, .int .i64 pe]) (by simp [results, Try.results27, go_sem, d0, d1, d2]) rfl ⟨⟨g, cap', vs, rfl, HOG.out⟩, HBG.out⟩
end Go.Proofs.Ytfmaagcomplooaa
