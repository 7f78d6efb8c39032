/-
  make's give: a name is given to an inode, where the order by bytes has it.
  make's closures that tell a new inode, and add.
  make's Mkdir, Create, Symlink of the landed code: they answer what chapter 5 says.
  make's Mkdir, Create, Symlink of the landed code: they answer what chapter 5 says.
  make's Symlink of the landed code: it answers what chapter 5 says.
  make's Chmod of the landed code: it answers what chapter 5 says.
-/
import Derived.Test.YtogheigpcppeiaaGreatK6
import Derived.Test.YtogheigpcppeiaaGreatK2
import Derived.Test.YtogheigpcppeiaaGreatK1
import Derived.Shelf.Abstract
namespace Go.Proofs.YtogheigpcppeiaaGreat
set_option maxRecDepth 100000
open Go Go.RowKit

/-- Where a new name stands. -/
theorem place_new {K : List (List UInt8 × Int)} {s : List UInt8} (k : Int) (_hR : Rises K) (hn : ∀ e ∈ K, e.1 ≠ s) : ∃ i, i ≤ K.length ∧ namedL K s k = insK K i (s, k) ∧ ∀ e, BAns K s e → e = .returned (.tuple #[.int .i64 i, .bool false]) := by
  obtain ⟨A, B, h1, h2, h3, h4⟩ := named_at K s k hn
  have hA : K.take A.length = A := by rw [h1]; simp
  have hB : K.drop A.length = B := by rw [h1]; simp
  refine ⟨A.length, by rw [h1, List.length_append]; omega, by rw [h2]; unfold insK; rw [hA, hB], ?_⟩
  rintro e ⟨i, v, rfl, hi, hv, hlo, hhi⟩
  have hlen : K.length = A.length + B.length := by rw [h1, List.length_append]
  have hvf : v = false := by
    cases v with
    | false => rfl
    | true =>
      obtain ⟨h, he⟩ := hv.1 rfl
      exact absurd he (hn _ (List.getElem_mem h))
  have hiA : i = A.length := by
    rcases Nat.lt_trichotomy i A.length with h | h | h
    · exfalso
      have hx := hhi i (by omega) (Nat.le_refl _)
      have hm : K[i]'(by omega) = A[i] := by simp only [h1, List.getElem_append_left h]
      rw [hm, h3 _ (List.getElem_mem h)] at hx
      cases hx
    · exact h
    · exfalso
      cases B with
      | nil => simp only [List.length_nil] at hlen; omega
      | cons b r =>
        have hl : A.length < K.length := by rw [hlen, List.length_cons]; omega
        have hx := hlo A.length hl h
        have hm : K[A.length] = b := by simp only [h1]; rw [List.getElem_append_right (Nat.le_refl _)]; simp
        rw [hm] at hx
        have hy := h4 b r rfl
        have h0 := less_trans _ _ _ hx hy
        rw [less_irrefl] at h0
        cases h0
  rw [hiA, hvf]

theorem gsearch_known (M : List (List UInt8 × Int)) (hM : M.length ≤ 1024) (hR : Rises M) (s : List UInt8) (i : Nat) (hans : ∀ e, BAns M s e → e = .returned (.tuple #[.int .i64 i, .bool false])) (ka : Option Addr) (kcap : Nat) (w : World) (hK : KidsIn w (.slice ka M.length kcap) M) :
    Calls Tryz.prog 60 #[.slice ka M.length kcap, .string ⟨s.toArray⟩, .func (.func 61) #[] #[]] w fun e w' => e = .returned (.tuple #[.int .i64 i, .bool false]) ∧ Below w.heap.size w w' :=
  (gsearch_any M hM hR s ka kcap w hK).mono fun e _ h => ⟨hans e h.1, h.2⟩

/-- All that a tree owns lies below n. -/
structure Under (g : Nat) (vs : List Value) (n : Nat) : Prop where
  g : g < n
  own : ∀ i (hi : i < vs.length) k, vs[i].ownBlock = some k → k < n
theorem OwnT.under {W : World} {base g cap : Nat} {L : List Ino} {vs : List Value} (h : OwnT W base g cap L vs) : Under g vs W.heap.size :=
  ⟨h.nodes.lt, fun i hi k hk => ((h.kids i (by rw [← h.nodes.len]; exact hi) hi).lt k hk).2⟩

set_option maxHeartbeats 2000000 in
theorem lgive_any (base g cap d k : Nat) (m b : Int) (s : List UInt8) (slash : Bool) (L : List Ino) (vs : List Value) (hd : d < L.length) (hk : k < L.length) (hdk : d ≠ k) (hR : Rises L[d].kids) (hl : L[d].kids.length ≤ 1024) (hn : ∀ e ∈ L[d].kids, e.1 ≠ s)
    (hlk0 : 0 ≤ L[k].links) (hlk : L[k].links ≤ 4611686018427387904) (w : World) (hbs : base ≤ w.heap.size) (hO : OwnT w base g cap L vs) :
    Calls Tryz.prog 33 #[.agg #[.int .i64 d, .string ⟨s.toArray⟩, .bool slash], .agg #[.slice (some ⟨g, 0, none⟩) L.length cap, .int .i64 m, .int .i64 b], .int .i64 k] w fun e w' => e = .returned (.tuple #[]) ∧ (∃ vs', OwnT w' base g cap ((L.set d (withKids L[d] (namedL L[d].kids s k))).set k { L[k] with links := L[k].links + 1 }) vs') ∧ Below base w w' ∧ ∀ n, Under g vs n → ∀ j, n ≤ j → j < w.heap.size → w'.heap[j]? = w.heap[j]? := by
  obtain ⟨i, hi, hins, hans⟩ := place_new k hR hn
  have HO := Lib.hid hO
  have HINS := Lib.hid hins
  have HU := Lib.hid hO.under
  have HR := Lib.hid hR
  have HANS := Lib.hid hans
  have HN := Lib.hid hn
  clear hO hins hR hans hn
  have hd0 : (0 : Int) ≤ (d : Int) := by omega
  have hdl : (d : Int) < (L.length : Int) := by omega
  have hk0 : (0 : Int) ≤ (k : Int) := by omega
  have hkl : (k : Int) < (L.length : Int) := by omega
  have hdv : d < vs.length := by rw [HO.out.nodes.len]; exact hd
  have hgl := HO.out.nodes.lt
  obtain ⟨ka, kc, hkv⟩ := (HO.out.kids d hd hdv).form
  have HKV := Lib.hid hkv
  clear hkv
  go_enter Tryz.func33, Tryz.ntmps33
  go_wp2_with fail
  obtain ⟨w2, hw2⟩ : ∃ w2, w2 = (w.alloc (.cells #[.int .i64 d, .string ⟨s.toArray⟩, .bool slash] 63)).alloc (.cells #[.slice (some ⟨g, 0, none⟩) L.length cap, .int .i64 m, .int .i64 b] 24) := ⟨_, rfl⟩
  have hb2 : Below w.heap.size w w2 := by rw [hw2]; exact (below_box w _).alloc (by simp) _
  have hs2 : w2.heap.size = w.heap.size + 2 := by rw [hw2]; simp
  have hA : w2.heap[w.heap.size]? = some (.cells #[.int .i64 d, .string ⟨s.toArray⟩, .bool slash] 63 (0, 0)) := by rw [hw2, Below.heap_alloc _ _ _ (by simp)]; exact new_block _ _
  have hB : w2.heap[w.heap.size + 1]? = some (.cells #[.slice (some ⟨g, 0, none⟩) L.length cap, .int .i64 m, .int .i64 b] 24 (0, 0)) := by
    rw [hw2]
    have := new_block (w.alloc (.cells #[.int .i64 d, .string ⟨s.toArray⟩, .bool slash] 63)) (.cells #[.slice (some ⟨g, 0, none⟩) L.length cap, .int .i64 m, .int .i64 b] 24)
    rw [World.size_alloc] at this
    exact this
  rw [← hw2]
  have HB2 := Lib.hid hb2
  have HA := Lib.hid hA
  have HBB := Lib.hid hB
  have HS2 := Lib.hid hs2
  clear hw2 hb2 hA hB
  have x4 : w2.cell? ⟨g, d * 6 + 4, none⟩ = some (.slice ka L[d].kids.length kc) := by
    have := (HO.out.nodes.node d hd hdv).kids
    rw [HKV.out] at this
    exact cell_below HB2.out this
  have c4 := grown_cell x4
  have c1 := grown_cell (blk_cell HA.out 1)
  have HKI := Lib.hid (show ∀ W, Below w2.heap.size w2 W → KidsIn W (.slice ka L[d].kids.length kc) L[d].kids from fun W hW => by
    have := ((HO.out.kids d hd hdv).kidsIn.below (HB2.out.trans (hW.mono (by have := HS2.out; omega))))
    rw [HKV.out] at this
    exact this)
  have G0 : ∀ W, Below w2.heap.size w2 W → Calls Tryz.prog 60 #[.slice ka L[d].kids.length kc, .string ⟨s.toArray⟩, .func (.func 61) #[] #[]] W fun e w' => e = .returned (.tuple #[.int .i64 i, .bool false]) ∧ Below W.heap.size W w' := fun W hW => gsearch_known L[d].kids hl HR.out s i HANS.out ka kc W (HKI.out W hW)
  have G1 := Lib.hid (grown_call (wb := w2) G0)
  clear G0
  refine wp_region_grown (by kernel_rfl) (by kernel_rfl) ?_
  repeat (first | go_big_quiet_skip | (go_big_quiet_want; go_big_quiet_op; (first | go_big_quiet_on | (refine ⟨_, G1.out, ?_⟩; go_big_quiet_on))))
  refine wpQuiet_nil ?_
  intro w3 hw3
  have hb3 : Below w2.heap.size w2 w3 := by obtain ⟨x, rfl⟩ := hw3; exact x.below
  have HB3 := Lib.hid hb3
  clear hw3 hb3 c4 c1 x4
  obtain ⟨W4, hW4⟩ : ∃ W4, W4 = w3.drew.alloc (.cells #[.string ⟨s.toArray⟩, .int .i64 k] 58) := ⟨_, rfl⟩
  have hb4 : Below w2.heap.size w2 W4 := by rw [hW4]; exact (HB3.out.drew).alloc HB3.out.size _
  have hs34 : W4.heap.size = w3.heap.size + 1 := by rw [hW4]; simp
  have hs3 := HB3.out.size
  have HB4 := Lib.hid hb4
  have HO4 := Lib.hid (HO.out.below (HB2.out.trans (hb4.mono (by have := HS2.out; omega))))
  have HE4 := Lib.hid (show W4.heap[w3.heap.size]? = some (.cells (entC (s, (k : Int))).toArray 58 (0, 0)) by rw [hW4]; exact new_block w3.drew _)
  have HI := Lib.hid (linsert_any base (.slice ka L[d].kids.length kc) L[d].kids i (s, (k : Int)) w3.heap.size 1 W4 (by have := HO4.out.kids d hd hdv; rw [HKV.out] at this; exact this) hi (by omega) (by omega) HE4.out (by
    intro e
    have h1 := ((HO.out.kids d hd hdv).lt w3.heap.size (by rw [HKV.out]; exact e)).2
    have h2 := HS2.out
    omega))
  have y4 : w3.cell? ⟨g, d * 6 + 4, none⟩ = some (.slice ka L[d].kids.length kc) := by
    have := (HO.out.nodes.node d hd hdv).kids
    rw [HKV.out] at this
    exact cell_below (HB2.out.trans (HB3.out.mono (by have := HS2.out; omega))) this
  have y1 : w3.cell? ⟨w.heap.size, 1, none⟩ = some (.string ⟨s.toArray⟩) := blk_cell ((HB3.out.block _ (by have := HS2.out; omega)).trans HA.out) 1
  have hg3 : g < w3.heap.size := cell_lt y4
  have ha3 : w.heap.size < w3.heap.size := cell_lt y1
  have HST := Lib.hid (show ∀ w5, W4.grownBy w5 (.slice ka L[d].kids.length kc : Value).ownBlock → w5.cell? ⟨g, d * 6 + 4, none⟩ = some (.slice ka L[d].kids.length kc) ∧ w5.frozen? ⟨g, d * 6 + 4, none⟩ = false from fun w5 h5 => by
    have e5 : w5.heap[g]? = W4.heap[g]? := h5.block g HO4.out.nodes.lt (fun e => HO.out.off d hdv (by rw [HKV.out]; exact e.symm))
    have hN5 := HO4.out.nodes.same e5
    have h1 := (hN5.node d hd hdv).kids
    rw [HKV.out] at h1
    exact ⟨h1, hN5.free _⟩)
  have hdk' : (L.set d { L[d] with kids := insK L[d].kids i (s, (k : Int)) })[k]'(by rw [List.length_set]; exact hk) = L[k] := List.getElem_set_ne hdk _
  have HQ := Lib.hid (show ∀ w5 v, KidsOwn w5 base v (insK L[d].kids i (s, (k : Int))) → W4.grownBy w5 (.slice ka L[d].kids.length kc : Value).ownBlock → (∀ j, v.ownBlock = some j → (.slice ka L[d].kids.length kc : Value).ownBlock = some j ∨ W4.heap.size ≤ j) →
      (w5.setCell ⟨g, d * 6 + 4, none⟩ v).cell? ⟨w.heap.size + 1, 0, none⟩ = some (.slice (some ⟨g, 0, none⟩) L.length cap) ∧ (w5.setCell ⟨g, d * 6 + 4, none⟩ v).cell? ⟨g, k * 6 + 2, none⟩ = some (.int .i64 L[k].links) ∧ (w5.setCell ⟨g, d * 6 + 4, none⟩ v).frozen? ⟨g, k * 6 + 2, none⟩ = false ∧
      (∃ vs', OwnT ((w5.setCell ⟨g, d * 6 + 4, none⟩ v).setCell ⟨g, k * 6 + 2, none⟩ (.int .i64 (L[k].links + 1))) base g cap ((L.set d (withKids L[d] (namedL L[d].kids s k))).set k { L[k] with links := L[k].links + 1 }) vs') ∧ Below base w ((w5.setCell ⟨g, d * 6 + 4, none⟩ v).setCell ⟨g, k * 6 + 2, none⟩ (.int .i64 (L[k].links + 1))) ∧ ∀ n, Under g vs n → ∀ j, n ≤ j → j < w.heap.size → ((w5.setCell ⟨g, d * 6 + 4, none⟩ v).setCell ⟨g, k * 6 + 2, none⟩ (.int .i64 (L[k].links + 1))).heap[j]? = w.heap[j]? from fun w5 v h1 h2 h3 => by
    have hS2 := HS2.out
    have hO6 := HO4.out.setKids hd hdv (v := v) (M := insK L[d].kids i (s, (k : Int))) (W' := w5) (by rw [HKV.out]; exact h2) h1 (by rw [HKV.out]; exact h3)
    have hkL : k < (L.set d { L[d] with kids := insK L[d].kids i (s, (k : Int)) }).length := by rw [List.length_set]; exact hk
    have hkv : k < (vs.set d v).length := by rw [List.length_set, HO.out.nodes.len]; exact hk
    have hn6 := hO6.nodes.node k hkL hkv
    have hO7 := hO6.setLinks hkL (L[k].links + 1)
    have hoff : ∀ j, w.heap.size ≤ j → (.slice ka L[d].kids.length kc : Value).ownBlock ≠ some j := fun j hj e => by
      have := ((HO.out.kids d hd hdv).lt j (by rw [HKV.out]; exact e)).2
      omega
    have h5 : w5.heap[w.heap.size + 1]? = some (.cells #[.slice (some ⟨g, 0, none⟩) L.length cap, .int .i64 m, .int .i64 b] 24 (0, 0)) := by
      rw [h2.block _ (by have := HB4.out.size; omega) (fun e => hoff _ (by omega) e.symm), HB4.out.block _ (by omega)]
      exact HBB.out
    refine ⟨?_, ?_, hO6.nodes.free _, ⟨vs.set d v, ?_⟩, ?_, fun n hn j hnj hj => ?_⟩
    · rw [World.cell?_setCell_other _ _ _ _ (fun e => by have := (Addr.mk.inj e).1; omega)]
      exact blk_cell h5 0
    · have := hn6.links
      rw [hdk'] at this
      exact this
    · rw [hdk'] at hO7
      rw [HINS.out]
      exact hO7
    · have hbg := HO.out.hbase
      have h6 : Below base w w5 := ((HB2.out.mono hbs).trans (HB4.out.mono (by omega))).grown h2 (by have := HB4.out.size; omega) (fun r hr => ((HO.out.kids d hd hdv).lt r (by rw [HKV.out]; exact hr)).1)
      exact (h6.setCell (show base ≤ g from hbg) _).setCell (show base ≤ g from hbg) _
    · rw [Below.heap_setCell _ _ _ _ (show j ≠ g by have := hn.g; omega), Below.heap_setCell _ _ _ _ (show j ≠ g by have := hn.g; omega), h2.block j (by have := HB4.out.size; omega) (fun e => by have := hn.own d hdv j (by rw [HKV.out]; exact e.symm); omega), HB4.out.block j (by omega)]
      exact HB2.out.block j hj)
  have HW4 := Lib.hid hW4
  rw [hW4] at HI HST HQ
  clear hb4 hW4
  go_wp2_with fail
  go_region_with (first | (go_at_call 63; refine HI.out.mono ?_; rintro e w5 ⟨v', rfl, hk5, hg5, hv5⟩; obtain ⟨va, vc, rfl⟩ := hk5.form; obtain ⟨z4, zf⟩ := HST.out w5 hg5; have HK5 := Lib.hid hk5; have HG5 := Lib.hid hg5; have HV5 := Lib.hid hv5; clear hk5 hg5 hv5))
  all_goals
    obtain ⟨u1, u2, u3, hfin⟩ := HQ.out w5 _ HK5.out HG5.out HV5.out
    have HFIN := Lib.hid hfin
    have hgu : g < (w5.setCell ⟨g, d * 6 + 4, none⟩ (.slice va (insK L[d].kids i (s, (k : Int))).length vc)).heap.size := cell_lt u2
    clear hfin z4 zf
    generalize w5.setCell ⟨g, d * 6 + 4, none⟩ (.slice va (insK L[d].kids i (s, (k : Int))).length vc) = w6 at *
    go_wp2_with fail
    go_end0
    exact ⟨rfl, HFIN.out⟩
end Go.Proofs.YtogheigpcppeiaaGreat

namespace Go.Proofs.YtogheigpcppeiaaGreat
set_option maxRecDepth 100000
open Go Go.RowKit

/-- An inode as a value. -/
def newV (x : Ino) : Value := .agg #[.int .i64 x.kind, .int .i64 x.mode, .int .i64 x.links, .string ⟨x.data.toArray⟩, .slice none 0 0, .int .i64 x.up]

set_option maxHeartbeats 1000000 in
theorem lmkdir1_any (up q : Int) (B : Nat) (w : World) (hc : w.cell? ⟨B, 0, none⟩ = some (.int .i64 q)) : Calls Tryz.prog 23 #[.int .i64 up, .pointer (some ⟨B, 0, none⟩)] w fun e w' => e = .returned (newV (newIno 2 q [] up)) ∧ Below w.heap.size w w' := by
  have hl := cell_lt hc
  have HB := Lib.hid (below_box w (.cells #[.int .i64 2, .int .i64 q, .int .i64 0, .string ⟨#[]⟩, .slice none 0 0, .int .i64 up] 49))
  go_enter Tryz.func23, Tryz.ntmps23
  go_wp2_with fail
  exact bodyPost_ret (v := newV (newIno 2 q [] up)) (by simp [results, Tryz.results23, go_sem, newV, newIno]) rfl ⟨rfl, HB.out⟩
set_option maxHeartbeats 1000000 in
theorem lcreate1_any (up q : Int) (B : Nat) (w : World) (hc : w.cell? ⟨B, 0, none⟩ = some (.int .i64 q)) : Calls Tryz.prog 27 #[.int .i64 up, .pointer (some ⟨B, 0, none⟩)] w fun e w' => e = .returned (newV (newIno 1 q [] 0)) ∧ Below w.heap.size w w' := by
  have hl := cell_lt hc
  have HB := Lib.hid (below_box w (.cells #[.int .i64 1, .int .i64 q, .int .i64 0, .string ⟨#[]⟩, .slice none 0 0, .int .i64 0] 49))
  go_enter Tryz.func27, Tryz.ntmps27
  go_wp2_with fail
  exact bodyPost_ret (v := newV (newIno 1 q [] 0)) (by simp [results, Tryz.results27, go_sem, newV, newIno]) rfl ⟨rfl, HB.out⟩
set_option maxHeartbeats 1000000 in
theorem lsymlink1_any (up : Int) (to : List UInt8) (B : Nat) (w : World) (hc : w.cell? ⟨B, 0, none⟩ = some (.string ⟨to.toArray⟩)) : Calls Tryz.prog 29 #[.int .i64 up, .pointer (some ⟨B, 0, none⟩)] w fun e w' => e = .returned (newV (newIno 3 7 to 0)) ∧ Below w.heap.size w w' := by
  have hl := cell_lt hc
  have HB := Lib.hid (below_box w (.cells #[.int .i64 3, .int .i64 7, .int .i64 0, .string ⟨to.toArray⟩, .slice none 0 0, .int .i64 0] 49))
  go_enter Tryz.func29, Tryz.ntmps29
  go_wp2_with fail
  exact bodyPost_ret (v := newV (newIno 3 7 to 0)) (by simp [results, Tryz.results29, go_sem, newV, newIno]) rfl ⟨rfl, HB.out⟩

/-- What add tells: the tree, the inode, the error. -/
def addS (L : List Ino) (b : Int) (cwd : Int) (p : List UInt8) (X : Int → Ino) : List Ino × Int × Int :=
  if (spotW L cwd p).2.2.2 ≠ 0 then (L, 0, (spotW L cwd p).2.2.2) else
  if refuseW L (spotW L cwd p).1 (spotW L cwd p).2.2.1 (X (spotW L cwd p).1).kind ≠ 0 then (L, 0, refuseW L (spotW L cwd p).1 (spotW L cwd p).2.2.1 (X (spotW L cwd p).1).kind) else
  if freeN L < 0 ∨ b < (usedB L : Int) + (X (spotW L cwd p).1).data.length then (L, 0, 28) else
  (addL L (spotW L cwd p).1.toNat (freeN L).toNat (spotW L cwd p).2.1 { X (spotW L cwd p).1 with links := 1 }, freeN L, 0)

/-- What a call of make leaves: the tree that it tells is its own. -/
def MadeAns (base : Nat) (w : World) (m b : Int) (L' : List Ino) (rest : List Value) (e : Ending) (w' : World) : Prop :=
  (∃ g cap vs, e = .returned (.tuple (#[.agg #[.slice (some ⟨g, 0, none⟩) L'.length cap, .int .i64 m, .int .i64 b]] ++ rest.toArray)) ∧ OwnT w' base g cap L' vs) ∧ Below w.heap.size w w'

/-- The end: a tree of the call's own is laid into the result's box. -/
theorem end_made {w W : World} {g cap : Nat} {L : List Ino} {vs : List Value} (hO : OwnT W (w.heap.size + 2) g cap L vs) (hB : Below w.heap.size w W) (x y z : Value) :
    OwnT (put3 W (w.heap.size + 1) x y z) w.heap.size g cap L vs ∧ Below w.heap.size w (put3 W (w.heap.size + 1) x y z) :=
  ⟨(hO.low fun k hk => put3_other (by omega) x y z).lower (by omega), put3_below hB (by omega) x y z⟩

theorem set_both {L : List Ino} {d k : Nat} (hd : d < L.length) (hdk : d ≠ k) (x : Ino) (s : List UInt8) (z : Int) :
    (((L.set k x).set d (withKids ((L.set k x)[d]'(by rw [List.length_set]; exact hd)) (namedL ((L.set k x)[d]'(by rw [List.length_set]; exact hd)).kids s k))).set k { x with links := z }) = addL L d k s { x with links := z } := by
  have e : (L.set k x)[d]'(by rw [List.length_set]; exact hd) = L[d] := List.getElem_set_ne (fun e => hdk e.symm) _
  rw [e]
  unfold addL
  rw [node_nat L d hd, List.set_comm _ _ hdk, List.set_set]

set_option maxHeartbeats 4000000 in
theorem ladd_any (a : Option Addr) (cap : Nat) (m b cwd : Int) (pb : ByteArray) (hp : pb.size ≤ 1073741824) (L : List Ino) (hF : FitP L m b) (X : Int → Ino) (hX0 : ∀ d, (X d).kids = []) (hX1 : ∀ d, (X d).links = 0) (hX2 : ∀ d, (X d).data.length ≤ 1024) (fid : FuncId) (lb : Array Value)
    (eg : ∀ args w, (callFunc fid args).run Tryz.prog w = .ok (.enter fid args) w) (w : World) (hN : NodesIn w a cap L)
    (hmk : ∀ W d, Below w.heap.size w W → Calls Tryz.prog fid (#[.int .i64 d] ++ lb) W fun e w' => e = .returned (newV (X d)) ∧ Below W.heap.size W w')
    (L' : List Ino) (kz ez : Int) (hz : addS L b cwd pb.data.toList X = (L', kz, ez)) :
    Calls Tryz.prog 22 #[.agg #[.slice a L.length cap, .int .i64 m, .int .i64 b], .int .i64 cwd, .string pb, .func (.func fid) #[] lb] w (MadeAns w.heap.size w m b L' [.int .i64 kz, .int .i64 ez]) := by
  obtain ⟨⟨d, nm, sl, pe⟩, hsp⟩ : ∃ r, spotW L cwd pb.data.toList = r := ⟨_, rfl⟩
  obtain ⟨w2, hw2, hb2, hs2, hA, hB⟩ := two_boxes w #[.slice a L.length cap, .int .i64 m, .int .i64 b] #[.slice none 0 0, .int .i64 0, .int .i64 0] 24 24
  obtain ⟨l1, l2, l3, l4, l5⟩ := hF.limits
  have hL0 : 0 < L.length := by omega
  have hL1 : L.length ≤ 256 := by omega
  have hAll := Lib.hid (show ∀ W, Below w2.heap.size w2 W → W.cell? ⟨w.heap.size, 0, none⟩ = some (.slice a L.length cap) ∧ W.cell? ⟨w.heap.size, 1, none⟩ = some (.int .i64 m) ∧ W.cell? ⟨w.heap.size, 2, none⟩ = some (.int .i64 b) from fun W hW => by
    have h := (hW.block w.heap.size (by omega)).trans hA
    exact ⟨blk_cell h 0, blk_cell h 1, blk_cell h 2⟩)
  have HSP := Lib.hid hsp
  have HF := Lib.hid hF
  have HN2 := Lib.hid (hN.below hb2)
  have HZ := Lib.hid hz
  have HMK := Lib.hid hmk
  have HB2 := Lib.hid hb2
  have HA := Lib.hid hA
  have HR := Lib.hid hB
  clear hsp hF hN hz hmk hb2 hA hB
  go_enter Tryz.func22, Tryz.ntmps22
  go_wp2_with fail
  rw [← hw2]
  clear hw2
  refine (lcopied_any a cap m b L hL0 (by omega) (fun x hx => by obtain ⟨j, hj, rfl⟩ := List.getElem_of_mem hx; have := (HF.out.ins j hj).2.1; omega) _ HN2.out).mono ?_
  rintro e w3 ⟨g, cap', vs, rfl, hO3, hb3⟩
  have HO3 := Lib.hid hO3
  have HB3 := Lib.hid hb3
  have hs3 := hb3.size
  obtain ⟨q0, q1, q2⟩ := hAll.out _ hb3
  have hq := cell_lt q0
  clear hO3 hb3
  go_wp2_with fail
  obtain ⟨w4, hw4⟩ : ∃ w4, w4 = w3.alloc (.cells #[.slice (some ⟨g, 0, none⟩) L.length cap', .int .i64 m, .int .i64 b] 24) := ⟨_, rfl⟩
  have hb4 : Below w3.heap.size w3 w4 := by rw [hw4]; exact below_box w3 _
  have hM4 : w4.heap[w3.heap.size]? = some (.cells #[.slice (some ⟨g, 0, none⟩) L.length cap', .int .i64 m, .int .i64 b] 24 (0, 0)) := by rw [hw4]; exact new_block w3 _
  have hs4 : w4.heap.size = w3.heap.size + 1 := by rw [hw4]; simp
  rw [← hw4]
  clear hw4 q0 q1 q2 hq
  have HB4 := Lib.hid (HB3.out.trans (hb4.mono hs3))
  have HB34 := Lib.hid hb4
  have HM4 := Lib.hid hM4
  clear hb4 hM4
  refine (lnew_any _ _ _ _ _ _ hp L HF.out _ _ _ _ HSP.out _ (HN2.out.below HB4.out)).mono ?_
  rintro e w5 ⟨rfl, hb5⟩
  have HB5 := Lib.hid (HB4.out.trans (hb5.mono (by omega)))
  have HB35 := Lib.hid (HB34.out.trans (hb5.mono (by omega)))
  have hM5 := (hb5.block w3.heap.size (by omega)).trans HM4.out
  have HM5 := Lib.hid hM5
  have hs5 := hb5.size
  have HS5 := Lib.hid hs5
  clear hb5 hM5
  by_cases h1 : pe = 0
  · subst h1
    obtain ⟨w6, hw6⟩ : ∃ w6, w6 = w5.alloc (.cells #[.int .i64 d, .string ⟨nm.toArray⟩, .bool sl] 63) := ⟨_, rfl⟩
    have hb6 : Below w5.heap.size w5 w6 := by rw [hw6]; exact below_box w5 _
    have hS6 : w6.heap[w5.heap.size]? = some (.cells #[.int .i64 d, .string ⟨nm.toArray⟩, .bool sl] 63 (0, 0)) := by rw [hw6]; exact new_block w5 _
    have hs6 : w6.heap.size = w5.heap.size + 1 := by rw [hw6]; simp
    have HB56 := Lib.hid hb6
    have HS6 := Lib.hid hS6
    have HARM := Lib.hid (show ∀ W, Below w6.heap.size w6 W → W.cell? ⟨w5.heap.size, 0, none⟩ = some (.int .i64 d) ∧ W.cell? ⟨w5.heap.size, 1, none⟩ = some (.string ⟨nm.toArray⟩) ∧ W.cell? ⟨w5.heap.size, 2, none⟩ = some (.bool sl) from fun W hW => by
      have h := (hW.block w5.heap.size (by omega)).trans HS6.out
      exact ⟨blk_cell h 0, blk_cell h 1, blk_cell h 2⟩)
    have hAll2 := Lib.hid (show ∀ W, Below w6.heap.size w6 W → W.cell? ⟨w.heap.size, 0, none⟩ = some (.slice a L.length cap) ∧ W.cell? ⟨w.heap.size, 1, none⟩ = some (.int .i64 m) ∧ W.cell? ⟨w.heap.size, 2, none⟩ = some (.int .i64 b) from fun W hW => hAll.out W (HB5.out.trans ((HB56.out.mono (by omega)).trans (hW.mono (by omega)))))
    have HW6 := Lib.hid (show Below w.heap.size w w6 from HB2.out.trans (((HB5.out).trans (HB56.out.mono (by omega))).mono (by omega)))
    obtain ⟨xk, hxk⟩ : ∃ v, (X d).kind = v := ⟨_, rfl⟩
    obtain ⟨xm, hxm⟩ : ∃ v, (X d).mode = v := ⟨_, rfl⟩
    obtain ⟨xd, hxd⟩ : ∃ v, (X d).data = v := ⟨_, rfl⟩
    obtain ⟨xu, hxu⟩ : ∃ v, (X d).up = v := ⟨_, rfl⟩
    have hxl := hX1 d
    have hc6 := HMK.out w6 d HW6.out
    unfold newV at hc6
    rw [hxk, hxm, hxl, hxd, hxu] at hc6
    have HXE := Lib.hid (show X d = ⟨xk, xm, 0, xd, [], xu⟩ by have h0 := hX0 d; cases hx : X d; rw [hx] at hxk hxm hxl hxd hxu h0; simp only at hxk hxm hxl hxd hxu h0; subst hxk hxm hxl hxd hxu h0; rfl)
    have HC6 := Lib.hid hc6
    rw [hw6] at HC6
    have hxdl : xd.length ≤ 1024 := by rw [← hxd]; exact hX2 d
    clear hxk hxm hxl hxd hxu hc6 hX0 hX1 hX2 HMK hAll
    clear hb6 hS6
    go_wp2_with fail
    refine HC6.out.mono ?_
    rintro e w7 ⟨rfl, hb7⟩
    have hb7' : Below w6.heap.size w6 w7 := by rw [hw6]; exact hb7
    obtain ⟨q0, q1, q2⟩ := hAll2.out w7 hb7'
    obtain ⟨u0, u1, u2⟩ := HARM.out w7 hb7'
    have HB7 := Lib.hid hb7'
    have hs7 := hb7'.size
    have hq := cell_lt q0
    have hu := cell_lt u0
    clear hb7 hb7' hw6 HC6
    go_wp2_with fail
    obtain ⟨w8, hw8⟩ : ∃ w8, w8 = w7.alloc (.cells #[.int .i64 xk, .int .i64 xm, .int .i64 0, .string ⟨xd.toArray⟩, .slice none 0 0, .int .i64 xu] 49) := ⟨_, rfl⟩
    have hb78 : Below w7.heap.size w7 w8 := by rw [hw8]; exact below_box w7 _
    have hI8 : w8.heap[w7.heap.size]? = some (.cells #[.int .i64 xk, .int .i64 xm, .int .i64 0, .string ⟨xd.toArray⟩, .slice none 0 0, .int .i64 xu] 49 (0, 0)) := by rw [hw8]; exact new_block w7 _
    have hs8 : w8.heap.size = w7.heap.size + 1 := by rw [hw8]; simp
    rw [← hw8]
    clear hw8 q0 q1 q2 u0 u1 u2 hq hu
    have HB68 := Lib.hid (HB7.out.trans (hb78.mono hs7))
    have HB58 := Lib.hid (HB56.out.trans (HB68.out.mono (by omega)))
    have HA8 := Lib.hid (show ∀ W, Below w8.heap.size w8 W → W.cell? ⟨w.heap.size, 0, none⟩ = some (.slice a L.length cap) ∧ W.cell? ⟨w.heap.size, 1, none⟩ = some (.int .i64 m) ∧ W.cell? ⟨w.heap.size, 2, none⟩ = some (.int .i64 b) from fun W hW => hAll2.out W (HB68.out.trans (hW.mono (by omega))))
    have HS8 := Lib.hid (show ∀ W, Below w8.heap.size w8 W → W.cell? ⟨w5.heap.size, 0, none⟩ = some (.int .i64 d) ∧ W.cell? ⟨w5.heap.size, 1, none⟩ = some (.string ⟨nm.toArray⟩) ∧ W.cell? ⟨w5.heap.size, 2, none⟩ = some (.bool sl) from fun W hW => HARM.out W (HB68.out.trans (hW.mono (by omega))))
    have HM8 := Lib.hid (show ∀ W, Below w8.heap.size w8 W → W.cell? ⟨w3.heap.size, 0, none⟩ = some (.slice (some ⟨g, 0, none⟩) L.length cap') ∧ W.cell? ⟨w3.heap.size, 1, none⟩ = some (.int .i64 m) ∧ W.cell? ⟨w3.heap.size, 2, none⟩ = some (.int .i64 b) from fun W hW => by
      have h := ((HB58.out.trans (hW.mono (by omega))).block w3.heap.size (by omega)).trans HM5.out
      exact ⟨blk_cell h 0, blk_cell h 1, blk_cell h 2⟩)
    have HI8 := Lib.hid (show ∀ W, Below w8.heap.size w8 W → W.heap[w7.heap.size]? = some (.cells #[.int .i64 xk, .int .i64 xm, .int .i64 0, .string ⟨xd.toArray⟩, .slice none 0 0, .int .i64 xu] 49 (0, 0)) from fun W hW => (hW.block _ (by omega)).trans hI8)
    have HR8 := Lib.hid (show ∀ W, Below w8.heap.size w8 W → W.heap[w.heap.size + 1]? = some (.cells #[.slice none 0 0, .int .i64 0, .int .i64 0] 24 (0, 0)) from fun W hW => ((HB5.out.trans (HB58.out.mono (by omega))).block _ (by omega) |> (hW.block _ (by omega)).trans).trans HR.out)
    have HO8 := Lib.hid (show ∀ W, Below w8.heap.size w8 W → OwnT W (w.heap.size + 2) g cap' L vs from fun W hW => by
      have := HO3.out.below (HB35.out.trans ((HB58.out.mono (by omega)).trans (hW.mono (by omega))))
      rw [hs2] at this
      exact this)
    have HN8 := Lib.hid (show ∀ W, Below w8.heap.size w8 W → NodesIn W a cap L from fun W hW => HN2.out.below (HB5.out.trans ((HB58.out.mono (by omega)).trans (hW.mono (by omega)))))
    have HBW := Lib.hid (show ∀ W, Below w8.heap.size w8 W → Below w.heap.size w W from fun W hW => HB2.out.trans ((HB5.out.trans ((HB58.out.mono (by omega)).trans (hW.mono (by omega)))).mono (by omega)))
    have hsp0 := HSP.out
    obtain ⟨dn, s', hdn, hpw, hfw, hkd, hnk, hnew, hmay⟩ := fresh_ok HF.out (cwd := cwd) (p := pb.data.toList) (dirs := true) (by
      unfold spotW at hsp0
      split at hsp0
      · rename_i h0
        exfalso
        exact h0 (by simpa using (Prod.mk.inj (Prod.mk.inj (Prod.mk.inj hsp0).2).2).2)
      · rename_i h0
        simpa using h0)
    have hdd : d = (dn : Int) ∧ nm = s' := by
      unfold spotW at hsp0
      rw [hfw] at hsp0
      simp at hsp0
      exact ⟨hsp0.1.symm, hsp0.2.1.symm⟩
    obtain ⟨rfl, rfl⟩ := hdd
    have HNEW := Lib.hid (show L[dn].kind = 2 ∧ nameOkL nm = true ∧ ∀ e ∈ L[dn].kids, e.1 ≠ nm from ⟨hkd, hnk, hnew⟩)
    clear hsp0 hpw hfw hkd hnk hnew hmay HARM hAll2 hb78 hI8 HB7 HB56 HS6 HW6
    obtain ⟨rf, hrf⟩ : ∃ v, refuseW L (dn : Int) sl xk = v := ⟨_, rfl⟩
    have HRF := Lib.hid hrf
    refine (lrefuse_any a cap m b dn ⟨nm.toArray⟩ sl xk L (by omega) hdn _ (HN8.out _ (Below.refl _ _))).mono ?_
    rw [hrf]
    rintro e w9 ⟨rfl, hb9⟩
    have HB8w9 := Lib.hid hb9
    have hs9 := hb9.size
    clear hb9 hrf
    have hz2 := HZ.out
    unfold addS at hz2
    rw [HSP.out] at hz2
    simp only [ne_eq, not_true_eq_false, if_false, HXE.out, HRF.out] at hz2
    by_cases h2 : rf = 0
    · subst h2
      obtain ⟨q0, q1, q2⟩ := HA8.out w9 HB8w9.out
      have hq := cell_lt q0
      go_wp2_with fail
      refine (lfree_any a cap L (by omega) _ (HN8.out w9 HB8w9.out)).mono ?_
      rintro e w10 ⟨rfl, hb10⟩
      have HB8w10 := Lib.hid (HB8w9.out.trans (hb10.mono hs9))
      have hs10 := hb10.size
      clear hb10 q0 q1 q2 hq
      obtain ⟨fz, hfz⟩ : ∃ v, freeN L = v := ⟨_, rfl⟩
      rw [hfz] at hz2 ⊢
      have HFZ := Lib.hid hfz
      clear hfz
      by_cases h3 : fz < 0
      · simp only [h3, true_or, not_true_eq_false, if_false, if_true, Prod.mk.injEq] at hz2
        obtain ⟨rfl, rfl, rfl⟩ := hz2
        have HRX := Lib.hid (HR8.out w10 HB8w10.out)
        have r0 := blk_cell HRX.out 0
        have r1 := blk_cell HRX.out 1
        have r2 := blk_cell HRX.out 2
        have s0 := blk_free HRX.out 0
        have s1 := blk_free HRX.out 1
        have s2 := blk_free HRX.out 2
        have hrl := lt_of_block HRX.out
        obtain ⟨m0, m1, m2⟩ := HM8.out w10 HB8w10.out
        have hml := cell_lt m0
        go_wp2_with fail
        change bodyPost _ _ _ _ _ (put3 w10 (w.heap.size + 1) (.slice (some ⟨g, 0, none⟩) L.length cap') (.int .i64 m) (.int .i64 b))
        obtain ⟨c0, c1, c2⟩ := put3_cells HRX.out (.slice (some ⟨g, 0, none⟩) L.length cap') (.int .i64 m) (.int .i64 b)
        obtain ⟨hOF, hBF⟩ := end_made (HO8.out w10 HB8w10.out) (HBW.out w10 HB8w10.out) (.slice (some ⟨g, 0, none⟩) L.length cap') (.int .i64 m) (.int .i64 b)
        have HOG := Lib.hid hOF
        have HBG := Lib.hid hBF
        clear hOF hBF
        generalize put3 w10 (w.heap.size + 1) (.slice (some ⟨g, 0, none⟩) L.length cap') (.int .i64 m) (.int .i64 b) = wF at *
        exact bodyPost_ret (v := .tuple #[.agg #[.slice (some ⟨g, 0, none⟩) L.length cap', .int .i64 m, .int .i64 b], .int .i64 0, .int .i64 28]) (by simp [results, Tryz.results22, go_sem, c0, c1, c2]) rfl ⟨⟨g, cap', vs, rfl, HOG.out⟩, HBG.out⟩
      · obtain ⟨k, hk, hkf⟩ : ∃ k : Nat, fz = (k : Int) ∧ freeW L L.length 0 = some k := by
          have h4 := HFZ.out
          unfold freeN at h4
          cases hw : freeW L L.length 0 with
          | none => rw [hw] at h4; simp only at h4; omega
          | some k => rw [hw] at h4; exact ⟨k, h4.symm, rfl⟩
        subst hk
        obtain ⟨-, hk1, hk2⟩ := free_some L.length 0 hkf
        have hkl : k < L.length := by omega
        rw [node_nat L k hkl] at hk2
        have HK2 := Lib.hid hk2
        clear hk2 hkf
        obtain ⟨q0, q1, q2⟩ := HA8.out w10 HB8w10.out
        have hq := cell_lt q0
        have i3 := blk_cell (HI8.out w10 HB8w10.out) 3
        have hil := lt_of_block (HI8.out w10 HB8w10.out)
        have hsl := str_len xd
        go_wp2_with fail
        refine (lroom_any a cap m b xd.length (by omega) L (by omega) (by omega) _ (HN8.out w10 HB8w10.out)).mono ?_
        rintro e w11 ⟨rfl, hb11⟩
        have HB8w11 := Lib.hid (HB8w10.out.trans (hb11.mono (by omega)))
        have hs11 := hb11.size
        clear hb11 q0 q1 q2 hq i3 hil
        have h3' : ¬ ((k : Int) < 0) := by omega
        simp only [h3', false_or, not_true_eq_false, if_false] at hz2
        by_cases h5 : (usedB L : Int) + (xd.length : Int) ≤ b
        · have h5b : decide ((usedB L : Int) + (xd.length : Int) ≤ b) = true := decide_eq_true h5
          rw [if_neg (by omega)] at hz2
          simp only [Prod.mk.injEq] at hz2
          obtain ⟨hL', rfl, rfl⟩ := hz2
          have HL' := Lib.hid hL'
          have hO11 := HO8.out w11 HB8w11.out
          have hkv : k < vs.length := by rw [hO11.nodes.len]; exact hkl
          have hnk := hO11.nodes.node k hkl hkv
          have n0 := hnk.kind
          have n1 := hnk.mode
          have n2 := hnk.links
          have n3 := hnk.data
          have n4 := hnk.kids
          have n5 := hnk.up
          have fr0 := hO11.nodes.free (k * 6)
          have fr1 := hO11.nodes.free (k * 6 + 1)
          have fr2 := hO11.nodes.free (k * 6 + 2)
          have fr3 := hO11.nodes.free (k * 6 + 3)
          have fr4 := hO11.nodes.free (k * 6 + 4)
          have fr5 := hO11.nodes.free (k * 6 + 5)
          have hgl := hO11.nodes.lt
          have hB11 := HI8.out w11 HB8w11.out
          have i0 := blk_cell hB11 0
          have i1 := blk_cell hB11 1
          have i2 := blk_cell hB11 2
          have i3 := blk_cell hB11 3
          have i4 := blk_cell hB11 4
          have i5 := blk_cell hB11 5
          have hil := lt_of_block hB11
          obtain ⟨m0, m1, m2⟩ := HM8.out w11 HB8w11.out
          obtain ⟨u0, u1, u2⟩ := HS8.out w11 HB8w11.out
          have hml := cell_lt m0
          have hul := cell_lt u0
          have hg3 : g < w3.heap.size := HO3.out.nodes.lt
          have hne1 : ¬ (g = w3.heap.size) := by omega
          have hne2 : ¬ (g = w5.heap.size) := by omega
          have hkl' : (k : Int) < (L.length : Int) := by omega
          have hk0 : (0 : Int) ≤ (k : Int) := by omega
          obtain ⟨kv, hkvv⟩ : ∃ v, v = vs[k] := ⟨_, rfl⟩
          rw [← hkvv] at n4
          clear hB11 hnk hkvv hO11
          go_wp2_with fail
          change Calls _ _ _ (w11.setCells g (k * 6) (inoC (⟨xk, xm, 0, xd, [], xu⟩ : Ino) (.slice none 0 0))) _
          obtain ⟨w12, hw12⟩ : ∃ w12, w12 = w11.setCells g (k * 6) (inoC (⟨xk, xm, 0, xd, [], xu⟩ : Ino) (.slice none 0 0)) := ⟨_, rfl⟩
          rw [← hw12]
          have hO12 : OwnT w12 (w.heap.size + 2) g cap' (L.set k (⟨xk, xm, 0, xd, [], xu⟩ : Ino)) (vs.set k (.slice none 0 0)) := by rw [hw12]; exact (HO8.out w11 HB8w11.out).setNode hkl (⟨xk, xm, 0, xd, [], xu⟩ : Ino) rfl
          have hst12 : ∀ j, j ≠ g → w12.heap[j]? = w11.heap[j]? := fun j hj => by rw [hw12]; exact heap_sets _ _ _ _ _ hj
          have hs12 : w12.heap.size = w11.heap.size := by rw [hw12]; exact size_sets _ _ _ _
          have hb12 : Below w.heap.size w w12 := by
            have h1 := HBW.out w11 HB8w11.out
            have h2 := HO3.out.hbase
            have hsts : ∀ (l : List Value) (b o : Nat) (W : World), (W.setCells b o l).os = W.os ∧ (W.setCells b o l).tape = W.tape ∧ (W.setCells b o l).output = W.output := fun l => by
              induction l with
              | nil => exact fun _ _ _ => ⟨rfl, rfl, rfl⟩
              | cons v r ih => exact fun b o W => ih b (o + 1) (W.setCell ⟨b, o, none⟩ v)
            have h3 := hsts (inoC (⟨xk, xm, 0, xd, [], xu⟩ : Ino) (.slice none 0 0)) g (k * 6) w11
            exact ⟨by rw [hw12]; exact h3.1.trans h1.os, by rw [hw12]; exact h3.2.1.trans h1.tape, by rw [hw12]; exact h3.2.2.trans h1.output, by rw [hs12]; exact h1.size, fun j hj => (hst12 j (by omega)).trans (h1.block j hj)⟩
          have HO12 := Lib.hid hO12
          have HST12 := Lib.hid hst12
          have HB12 := Lib.hid hb12
          clear n0 n1 n2 n3 n4 n5 fr0 fr1 fr2 fr3 fr4 fr5 i0 i1 i2 i3 i4 i5 hil m0 m1 m2 u0 u1 u2 hml hul hw12 hO12 hst12 hb12
          have hdk : dn ≠ k := fun e => by
            have h1 := HNEW.out.1
            have h2 := HK2.out
            subst e
            rw [h2] at h1
            exact absurd h1 (by decide)
          have hdl' : dn < (L.set k (⟨xk, xm, 0, xd, [], xu⟩ : Ino)).length := by rw [List.length_set]; exact hdn
          have hkl2 : k < (L.set k (⟨xk, xm, 0, xd, [], xu⟩ : Ino)).length := by rw [List.length_set]; exact hkl
          have ed : (L.set k (⟨xk, xm, 0, xd, [], xu⟩ : Ino))[dn] = L[dn] := List.getElem_set_ne (fun e => hdk e.symm) _
          have ek : (L.set k (⟨xk, xm, 0, xd, [], xu⟩ : Ino))[k] = (⟨xk, xm, 0, xd, [], xu⟩ : Ino) := List.getElem_set_self ..
          have hgive := lgive_any (w.heap.size + 2) g cap' dn k m b nm sl (L.set k (⟨xk, xm, 0, xd, [], xu⟩ : Ino)) (vs.set k (.slice none 0 0)) hdl' hkl2 hdk (by rw [ed]; exact (kids_rise HF.out.ins dn hdn).2) (by rw [ed]; exact (HF.out.ins dn hdn).2.1) (by rw [ed]; exact HNEW.out.2.2) (by rw [ek]; exact Int.le_refl _) (by rw [ek]; show (0 : Int) ≤ 4611686018427387904; decide) w12 (by have := (HBW.out w11 HB8w11.out).size; omega) HO12.out
          rw [ek] at hgive
          simp only [set_both hdn hdk] at hgive
          rw [List.length_set] at hgive
          have HGIVE := Lib.hid hgive
          have HUN := Lib.hid (show Under g (vs.set k (.slice none 0 0)) w3.heap.size from ⟨HO3.out.nodes.lt, fun j hj r hr => by
            rw [List.length_set] at hj
            rw [List.getElem_set] at hr
            split at hr
            · cases hr
            · exact HO3.out.under.own j hj r hr⟩)
          clear hgive ed ek
          refine HGIVE.out.mono ?_
          rintro e w13 ⟨rfl, ⟨vs', hO13⟩, hb13, hkeep⟩
          have hM13 : w13.heap[w3.heap.size]? = w11.heap[w3.heap.size]? := (hkeep _ HUN.out _ (Nat.le_refl _) (by rw [hs12]; exact Nat.lt_of_lt_of_le (by omega) HB8w11.out.size)).trans (HST12.out _ (by omega))
          have hc0 := (World.cell?_of_block (a := ⟨w3.heap.size, 0, none⟩) hM13).trans (HM8.out w11 HB8w11.out).1
          have hc1 := (World.cell?_of_block (a := ⟨w3.heap.size, 1, none⟩) hM13).trans (HM8.out w11 HB8w11.out).2.1
          have hc2 := (World.cell?_of_block (a := ⟨w3.heap.size, 2, none⟩) hM13).trans (HM8.out w11 HB8w11.out).2.2
          have hml := cell_lt hc0
          have hR13 : w13.heap[w.heap.size + 1]? = some (.cells #[.slice none 0 0, .int .i64 0, .int .i64 0] 24 (0, 0)) := (hb13.block _ (by omega)).trans ((HST12.out _ (by have := HO3.out.hbase; omega)).trans (HR8.out w11 HB8w11.out))
          have HRX := Lib.hid hR13
          have r0 := blk_cell hR13 0
          have r1 := blk_cell hR13 1
          have r2 := blk_cell hR13 2
          have s0 := blk_free hR13 0
          have s1 := blk_free hR13 1
          have s2 := blk_free hR13 2
          have hrl := lt_of_block hR13
          have HO13 := Lib.hid hO13
          have HB13 := Lib.hid (HB12.out.trans (hb13.mono (show w.heap.size ≤ w.heap.size + 2 by omega)))
          clear hO13 hb13 hkeep hM13 hR13
          go_wp2_with fail
          change bodyPost _ _ _ _ _ (put3 w13 (w.heap.size + 1) (.slice (some ⟨g, 0, none⟩) L.length cap') (.int .i64 m) (.int .i64 b))
          obtain ⟨c0, c1, c2⟩ := put3_cells HRX.out (.slice (some ⟨g, 0, none⟩) L.length cap') (.int .i64 m) (.int .i64 b)
          obtain ⟨hOF, hBF⟩ := end_made HO13.out HB13.out (.slice (some ⟨g, 0, none⟩) L.length cap') (.int .i64 m) (.int .i64 b)
          have HOG := Lib.hid hOF
          have HBG := Lib.hid hBF
          clear hOF hBF
          generalize put3 w13 (w.heap.size + 1) (.slice (some ⟨g, 0, none⟩) L.length cap') (.int .i64 m) (.int .i64 b) = wF at *
          have hLl : L'.length = L.length := by rw [← HL'.out, Int.toNat_natCast, Int.toNat_natCast]; exact add_len ..
          exact bodyPost_ret (v := .tuple #[.agg #[.slice (some ⟨g, 0, none⟩) L.length cap', .int .i64 m, .int .i64 b], .int .i64 k, .int .i64 0]) (by simp [results, Tryz.results22, go_sem, c0, c1, c2]) rfl ⟨⟨g, cap', vs', by rw [hLl]; rfl, by rw [← HL'.out, Int.toNat_natCast, Int.toNat_natCast]; exact HOG.out⟩, HBG.out⟩
        · have h5b : decide ((usedB L : Int) + (xd.length : Int) ≤ b) = false := decide_eq_false h5
          rw [if_pos (by omega)] at hz2
          simp only [Prod.mk.injEq] at hz2
          obtain ⟨rfl, rfl, rfl⟩ := hz2
          have HRX := Lib.hid (HR8.out w11 HB8w11.out)
          have r0 := blk_cell HRX.out 0
          have r1 := blk_cell HRX.out 1
          have r2 := blk_cell HRX.out 2
          have s0 := blk_free HRX.out 0
          have s1 := blk_free HRX.out 1
          have s2 := blk_free HRX.out 2
          have hrl := lt_of_block HRX.out
          obtain ⟨m0, m1, m2⟩ := HM8.out w11 HB8w11.out
          have hml := cell_lt m0
          go_wp2_with fail
          change bodyPost _ _ _ _ _ (put3 w11 (w.heap.size + 1) (.slice (some ⟨g, 0, none⟩) L.length cap') (.int .i64 m) (.int .i64 b))
          obtain ⟨c0, c1, c2⟩ := put3_cells HRX.out (.slice (some ⟨g, 0, none⟩) L.length cap') (.int .i64 m) (.int .i64 b)
          obtain ⟨hOF, hBF⟩ := end_made (HO8.out w11 HB8w11.out) (HBW.out w11 HB8w11.out) (.slice (some ⟨g, 0, none⟩) L.length cap') (.int .i64 m) (.int .i64 b)
          have HOG := Lib.hid hOF
          have HBG := Lib.hid hBF
          clear hOF hBF
          generalize put3 w11 (w.heap.size + 1) (.slice (some ⟨g, 0, none⟩) L.length cap') (.int .i64 m) (.int .i64 b) = wF at *
          exact bodyPost_ret (v := .tuple #[.agg #[.slice (some ⟨g, 0, none⟩) L.length cap', .int .i64 m, .int .i64 b], .int .i64 0, .int .i64 28]) (by simp [results, Tryz.results22, go_sem, c0, c1, c2]) rfl ⟨⟨g, cap', vs, rfl, HOG.out⟩, HBG.out⟩

    · simp only [h2, not_false_eq_true, if_true, Prod.mk.injEq] at hz2
      obtain ⟨rfl, rfl, rfl⟩ := hz2
      have hb2 : (rf != 0) = true := by simpa using h2
      have HRX := Lib.hid (HR8.out w9 HB8w9.out)
      have r0 := blk_cell HRX.out 0
      have r1 := blk_cell HRX.out 1
      have r2 := blk_cell HRX.out 2
      have s0 := blk_free HRX.out 0
      have s1 := blk_free HRX.out 1
      have s2 := blk_free HRX.out 2
      have hrl := lt_of_block HRX.out
      obtain ⟨m0, m1, m2⟩ := HM8.out w9 HB8w9.out
      have hml := cell_lt m0
      go_wp2_with fail
      change bodyPost _ _ _ _ _ (put3 w9 (w.heap.size + 1) (.slice (some ⟨g, 0, none⟩) L.length cap') (.int .i64 m) (.int .i64 b))
      obtain ⟨c0, c1, c2⟩ := put3_cells HRX.out (.slice (some ⟨g, 0, none⟩) L.length cap') (.int .i64 m) (.int .i64 b)
      obtain ⟨hOF, hBF⟩ := end_made (HO8.out w9 HB8w9.out) (HBW.out w9 HB8w9.out) (.slice (some ⟨g, 0, none⟩) L.length cap') (.int .i64 m) (.int .i64 b)
      have HOG := Lib.hid hOF
      have HBG := Lib.hid hBF
      clear hOF hBF
      generalize put3 w9 (w.heap.size + 1) (.slice (some ⟨g, 0, none⟩) L.length cap') (.int .i64 m) (.int .i64 b) = wF at *
      exact bodyPost_ret (v := .tuple #[.agg #[.slice (some ⟨g, 0, none⟩) L.length cap', .int .i64 m, .int .i64 b], .int .i64 0, .int .i64 rf]) (by simp [results, Tryz.results22, go_sem, c0, c1, c2]) rfl ⟨⟨g, cap', vs, rfl, HOG.out⟩, HBG.out⟩
  · have hz2 := HZ.out
    unfold addS at hz2
    rw [HSP.out] at hz2
    simp only [h1, ne_eq, not_false_eq_true, if_true, Prod.mk.injEq] at hz2
    obtain ⟨rfl, rfl, rfl⟩ := hz2
    have hb1 : (pe != 0) = true := by simpa using h1
    have m0 := blk_cell HM5.out 0
    have m1 := blk_cell HM5.out 1
    have m2 := blk_cell HM5.out 2
    have hml := lt_of_block HM5.out
    have hR5 : w5.heap[w.heap.size + 1]? = some (.cells #[.slice none 0 0, .int .i64 0, .int .i64 0] 24 (0, 0)) := (HB5.out.block _ (by omega)).trans HR.out
    have r0 := blk_cell hR5 0
    have r1 := blk_cell hR5 1
    have r2 := blk_cell hR5 2
    have s0 := blk_free hR5 0
    have s1 := blk_free hR5 1
    have s2 := blk_free hR5 2
    have hrl := lt_of_block hR5
    have HRX := Lib.hid hR5
    clear hAll HMK eg hR5
    go_wp2_with fail
    change bodyPost _ _ _ _ _ ((put3 w5 (w.heap.size + 1) (.slice (some ⟨g, 0, none⟩) L.length cap') (.int .i64 m) (.int .i64 b)).alloc (.cells #[.int .i64 d, .string ⟨nm.toArray⟩, .bool sl] 63))
    have hO5 : OwnT w5 (w.heap.size + 2) g cap' L vs := by
      have := HO3.out.below HB35.out
      rw [hs2] at this
      exact this
    obtain ⟨c0, c1, c2⟩ := put3_cells HRX.out (.slice (some ⟨g, 0, none⟩) L.length cap') (.int .i64 m) (.int .i64 b)
    obtain ⟨hOF, hBF⟩ := end_made hO5 (HB2.out.trans (HB5.out.mono (by omega))) (.slice (some ⟨g, 0, none⟩) L.length cap') (.int .i64 m) (.int .i64 b)
    have hbx := below_box (put3 w5 (w.heap.size + 1) (.slice (some ⟨g, 0, none⟩) L.length cap') (.int .i64 m) (.int .i64 b)) (.cells #[.int .i64 d, .string ⟨nm.toArray⟩, .bool sl] 63)
    have d0 := cell_below hbx c0
    have d1 := cell_below hbx c1
    have d2 := cell_below hbx c2
    have HOG := Lib.hid (hOF.below hbx)
    have HBG := Lib.hid (hBF.trans (hbx.mono hBF.size))
    clear c0 c1 c2 hOF hBF hbx
    generalize (put3 w5 (w.heap.size + 1) (.slice (some ⟨g, 0, none⟩) L.length cap') (.int .i64 m) (.int .i64 b)).alloc (.cells #[.int .i64 d, .string ⟨nm.toArray⟩, .bool sl] 63) = wF at *
    exact bodyPost_ret (v := .tuple #[.agg #[.slice (some ⟨g, 0, none⟩) L.length cap', .int .i64 m, .int .i64 b], .int .i64 0, .int .i64 pe]) (by simp [results, Tryz.results22, go_sem, d0, d1, d2]) rfl ⟨⟨g, cap', vs, rfl, HOG.out⟩, HBG.out⟩
end Go.Proofs.YtogheigpcppeiaaGreat

namespace Go.Proofs.YtogheigpcppeiaaGreat
set_option maxRecDepth 100000
open Go Go.RowKit

/-- Three boxes that are laid one behind the other. -/
theorem three_boxes (w : World) (A B C : Array Value) (s t u : TypeId) : ∃ w2, w2 = ((w.alloc (.cells A s)).alloc (.cells B t)).alloc (.cells C u) ∧ Below w.heap.size w w2 ∧ w2.heap.size = w.heap.size + 3 ∧ w2.heap[w.heap.size]? = some (.cells A s (0, 0)) ∧ w2.heap[w.heap.size + 1]? = some (.cells B t (0, 0)) ∧ w2.heap[w.heap.size + 2]? = some (.cells C u (0, 0)) := by
  obtain ⟨w1, e1, b1, s1, h1, h2⟩ := two_boxes w A B s t
  refine ⟨w1.alloc (.cells C u), by rw [e1], b1.alloc (by omega) _, by rw [World.size_alloc, s1], ?_, ?_, ?_⟩
  · rw [Below.heap_alloc _ _ _ (by omega)]; exact h1
  · rw [Below.heap_alloc _ _ _ (by omega)]; exact h2
  · have := new_block w1 (.cells C u)
    rw [s1] at this
    exact this
theorem end_made3 {w W : World} {base g cap c : Nat} {L : List Ino} {vs : List Value} (hO : OwnT W base g cap L vs) (hB : Below w.heap.size w W) (hc : c < base) (hc2 : w.heap.size ≤ c) (x y z : Value) :
    OwnT (put3 W c x y z) w.heap.size g cap L vs ∧ Below w.heap.size w (put3 W c x y z) :=
  ⟨(hO.low fun k hk => put3_other (by omega) x y z).lower (by omega), put3_below hB hc2 x y z⟩

/-! ### The words of the landed code and the chapter's -/

theorem spot_fresh (L : List Ino) (cwd : Int) (p : List UInt8) : freshW L cwd p false = if (freshW L cwd p true).2.2 ≠ 0 then freshW L cwd p true else if endL p = true then (0, [], 20) else freshW L cwd p true := by
  unfold freshW
  split
  · rename_i h; simp []
  · split
    · simp
    · split
      · simp
      · split
        · simp
        · cases endL p <;> simp
theorem fresh_zero {L : List Ino} {cwd : Int} {p : List UInt8} {dirs : Bool} (h : (freshW L cwd p dirs).2.2 ≠ 0) : freshW L cwd p dirs = (0, [], (freshW L cwd p dirs).2.2) := by
  unfold freshW at h ⊢
  split
  · rfl
  · rename_i h1
    rw [if_neg h1] at h
    split
    · rfl
    · rename_i h2
      rw [if_neg h2] at h
      split
      · rfl
      · rename_i h3
        rw [if_neg h3] at h
        split
        · rfl
        · rename_i h4
          rw [if_neg h4] at h
          split
          · rfl
          · rename_i h5
            rw [if_neg h5] at h
            exact absurd rfl h
/-- add tells what the chapter says of a new inode of a new name. -/
theorem addS_words {L : List Ino} {m b : Int} (hF : FitP L m b) (cwd : Int) (p : List UInt8) (X : Int → Ino) (dirs : Bool) (hd : ∀ d, dirs = true ↔ (X d).kind = 2) :
    addS L b cwd p X = if (freshW L cwd p dirs).2.2 ≠ 0 then (L, 0, (freshW L cwd p dirs).2.2) else if b < (usedB L : Int) + (X (freshW L cwd p dirs).1).data.length then (L, 0, 28) else addedW L (freshW L cwd p dirs).1 (freshW L cwd p dirs).2.1 (X (freshW L cwd p dirs).1) := by
  unfold addS spotW
  by_cases h0 : (freshW L cwd p true).2.2 = 0
  · obtain ⟨d, s, hdl, hp, hf, -⟩ := fresh_ok hF h0
    have hdd := hd (d : Int)
    have key : ∀ (f : Int × List UInt8 × Int), f = ((d : Int), s, 0) → (if 1024 ≤ (nodeAt L (d : Int)).kids.length then (L, (0 : Int), (28 : Int)) else if freeN L < 0 ∨ b < (usedB L : Int) + (X (d : Int)).data.length then (L, 0, 28) else (addL L d (freeN L).toNat s { X (d : Int) with links := 1 }, freeN L, 0)) =
        (if b < (usedB L : Int) + (X f.1).data.length then (L, 0, 28) else addedW L f.1 f.2.1 (X f.1)) := fun f hf => by
      rw [hf]
      show _ = if b < (usedB L : Int) + (X (d : Int)).data.length then (L, 0, 28) else addedW L (d : Int) s (X (d : Int))
      unfold addedW freeN
      by_cases h1 : 1024 ≤ (nodeAt L (d : Int)).kids.length
      · rw [if_pos h1, if_pos h1]
        split <;> rfl
      · rw [if_neg h1, if_neg h1]
        cases freeW L L.length 0 with
        | none =>
          rw [if_pos (Or.inl (by decide))]
          split <;> rfl
        | some k =>
          by_cases h2 : b < (usedB L : Int) + (X (d : Int)).data.length
          · rw [if_pos (Or.inr h2), if_pos h2]
          · rw [if_neg h2, if_neg (by rintro (h3 | h3); · simp only at h3; omega
                                      · exact h2 h3)]
            rfl
    rw [hf]
    simp only [ne_eq, not_true_eq_false, if_false]
    cases dirs with
    | true =>
      have hk : (X (d : Int)).kind = 2 := hdd.1 rfl
      have hr : refuseW L (d : Int) (endL p) (X (d : Int)).kind = if 1024 ≤ (nodeAt L (d : Int)).kids.length then 28 else 0 := by
        unfold refuseW
        rw [if_neg (by simp [hk])]
      have hq := key ((d : Int), s, 0) rfl
      rw [hf, hr]
      by_cases h1 : 1024 ≤ (nodeAt L (d : Int)).kids.length
      · rw [if_pos h1] at hq ⊢
        exact hq
      · rw [if_neg h1] at hq ⊢
        exact hq
    | false =>
      have hk : (X (d : Int)).kind ≠ 2 := fun e => by have := hdd.2 e; cases this
      have hq := key ((d : Int), s, 0) rfl
      rw [spot_fresh, hf]
      cases he : endL p with
      | true =>
        have hr : refuseW L (d : Int) true (X (d : Int)).kind = 20 := by
          unfold refuseW
          rw [if_pos ⟨rfl, hk⟩]
        rw [hr]
        rfl
      | false =>
        have hr : refuseW L (d : Int) false (X (d : Int)).kind = if 1024 ≤ (nodeAt L (d : Int)).kids.length then 28 else 0 := by
          unfold refuseW
          rw [if_neg (by simp)]
        rw [hr]
        by_cases h1 : 1024 ≤ (nodeAt L (d : Int)).kids.length
        · rw [if_pos h1] at hq ⊢
          exact hq
        · rw [if_neg h1] at hq ⊢
          exact hq
  · rw [if_pos h0]
    simp only [ne_eq, h0, not_false_eq_true, if_true]
    cases dirs with
    | true => simp [h0]
    | false => rw [spot_fresh]; simp [h0]
theorem mkdir_words {L : List Ino} {m b : Int} (hF : FitP L m b) (cwd : Int) (p : List UInt8) (q : Int) (h : modeB q = true) : mkdirW L cwd p q = addS L b cwd p (fun d => newIno 2 q [] d) := by
  obtain ⟨-, -, -, l4, -⟩ := hF.limits
  rw [addS_words hF cwd p _ true (fun d => by simp [newIno])]
  unfold mkdirW
  rw [if_neg (by simp [h])]
  split
  · rfl
  · show _ = if b < (usedB L : Int) + (0 : Nat) then _ else _
    rw [if_neg (by omega)]
theorem create_words {L : List Ino} {m b : Int} (hF : FitP L m b) (cwd : Int) (p : List UInt8) (q : Int) (h : modeB q = true) : createW L cwd p q = addS L b cwd p (fun _ => newIno 1 q [] 0) := by
  obtain ⟨-, -, -, l4, -⟩ := hF.limits
  rw [addS_words hF cwd p _ false (fun d => by simp [newIno])]
  unfold createW
  rw [if_neg (by simp [h])]
  split
  · rfl
  · show _ = if b < (usedB L : Int) + (0 : Nat) then _ else _
    rw [if_neg (by omega)]
theorem symlink_words {L : List Ino} {m b : Int} (hF : FitP L m b) (cwd : Int) (to p : List UInt8) (h1 : to ≠ []) (h2 : to.any (fun c => c == 0) = false) (h3 : to.length ≤ 1024) : symlinkW L b cwd to p = addS L b cwd p (fun _ => newIno 3 7 to 0) := by
  rw [addS_words hF cwd p _ false (fun d => by simp [newIno])]
  unfold symlinkW
  rw [if_neg (by simp [h1, h2]), if_neg (by omega)]
  rfl
end Go.Proofs.YtogheigpcppeiaaGreat

namespace Go.Proofs.YtogheigpcppeiaaGreat
set_option maxRecDepth 100000
open Go Go.RowKit

set_option maxHeartbeats 4000000 in
theorem lmkdir_any (a : Option Addr) (cap : Nat) (m b cwd q : Int) (pb : ByteArray) (hp : pb.size ≤ 1073741824) (L : List Ino) (hF : FitP L m b) (L' : List Ino) (kz ez : Int) (hz : mkdirW L cwd pb.data.toList q = (L', kz, ez)) (w : World) (hN : NodesIn w a cap L) :
    Calls Tryz.prog 6 #[.agg #[.slice a L.length cap, .int .i64 m, .int .i64 b], .int .i64 cwd, .string pb, .int .i64 q] w (MadeAns w.heap.size w m b L' [.int .i64 kz, .int .i64 ez]) := by
  obtain ⟨w2, hw2, hb2, hs2, hA, hQ, hB⟩ := three_boxes w #[.slice a L.length cap, .int .i64 m, .int .i64 b] #[.int .i64 q] #[.slice none 0 0, .int .i64 0, .int .i64 0] 24 3 24
  obtain ⟨l1, l2, l3, l4, l5⟩ := hF.limits
  have hL0 : 0 < L.length := by omega
  have hL1 : L.length ≤ 256 := by omega
  have HF := Lib.hid hF
  have HN2 := Lib.hid (hN.below hb2)
  have HZ := Lib.hid hz
  have HB2 := Lib.hid hb2
  have HK := Lib.hid (show ∀ x ∈ L, x.kids.length ≤ 4096 from fun x hx => by obtain ⟨j, hj, rfl⟩ := List.getElem_of_mem hx; have := (hF.ins j hj).2.1; omega)
  have HR := Lib.hid (show ∀ W, Below w2.heap.size w2 W → W.heap[w.heap.size + 2]? = some (.cells #[.slice none 0 0, .int .i64 0, .int .i64 0] 24 (0, 0)) from fun W hW => (hW.block _ (by omega)).trans hB)
  have HQ := Lib.hid (show ∀ W, Below w2.heap.size w2 W → W.cell? ⟨w.heap.size + 1, 0, none⟩ = some (.int .i64 q) from fun W hW => blk_cell ((hW.block (w.heap.size + 1) (by omega)).trans hQ) 0)
  clear hF hN hz hb2 hA hQ hB
  have q0 := HQ.out _ (Below.refl _ _)
  cases hq : modeB q with
  | false =>
    have HM := Lib.hid hq
    have hz2 := HZ.out
    unfold mkdirW at hz2
    rw [if_pos hq] at hz2
    simp only [Prod.mk.injEq] at hz2
    obtain ⟨rfl, rfl, rfl⟩ := hz2
    clear hq
    go_enter Tryz.func6, Tryz.ntmps6
    go_wp2_with (first | (go_at_call 20; refine (lismode_known _ _ HM.out _).mono ?_; rintro e w' ⟨rfl, rfl⟩) | fail)
    rw [← hw2]
    clear hw2 q0
    refine (lcopied_any a cap m b L hL0 (by omega) HK.out _ HN2.out).mono ?_
    rintro e w3 ⟨g, cap', vs, rfl, hO3, hb3⟩
    have HO3 := Lib.hid hO3
    have HB3 := Lib.hid (HB2.out.trans (hb3.mono (by omega)))
    have HRX := Lib.hid (HR.out w3 hb3)
    have r0 := blk_cell HRX.out 0
    have r1 := blk_cell HRX.out 1
    have r2 := blk_cell HRX.out 2
    have s0 := blk_free HRX.out 0
    have s1 := blk_free HRX.out 1
    have s2 := blk_free HRX.out 2
    have hrl := lt_of_block HRX.out
    clear hO3 hb3
    go_wp2_with fail
    change bodyPost _ _ _ _ _ (put3 w3 (w.heap.size + 2) (.slice (some ⟨g, 0, none⟩) L.length cap') (.int .i64 m) (.int .i64 b))
    obtain ⟨c0, c1, c2⟩ := put3_cells HRX.out (.slice (some ⟨g, 0, none⟩) L.length cap') (.int .i64 m) (.int .i64 b)
    obtain ⟨hOF, hBF⟩ := end_made3 (c := w.heap.size + 2) HO3.out HB3.out (by omega) (by omega) (.slice (some ⟨g, 0, none⟩) L.length cap') (.int .i64 m) (.int .i64 b)
    have HOG := Lib.hid hOF
    have HBG := Lib.hid hBF
    clear hOF hBF
    generalize put3 w3 (w.heap.size + 2) (.slice (some ⟨g, 0, none⟩) L.length cap') (.int .i64 m) (.int .i64 b) = wF at *
    exact bodyPost_ret (v := .tuple #[.agg #[.slice (some ⟨g, 0, none⟩) L.length cap', .int .i64 m, .int .i64 b], .int .i64 0, .int .i64 22]) (by simp [results, Tryz.results6, go_sem, c0, c1, c2]) rfl ⟨⟨g, cap', vs, rfl, HOG.out⟩, HBG.out⟩
  | true =>
    have HM := Lib.hid hq
    have hz2 := HZ.out
    rw [mkdir_words HF.out cwd pb.data.toList q hq] at hz2
    clear hq
    go_enter Tryz.func6, Tryz.ntmps6
    go_wp2_with (first | (go_at_call 20; refine (lismode_known _ _ HM.out _).mono ?_; rintro e w' ⟨rfl, rfl⟩) | fail)
    rw [← hw2]
    clear hw2 q0
    have hadd := ladd_any a cap m b cwd pb hp L HF.out (fun d => newIno 2 q [] d) (fun _ => rfl) (fun _ => rfl) (fun _ => Nat.zero_le _) 23 #[.pointer (some ⟨w.heap.size + 1, 0, none⟩)] (enters_of Tryz.func23 (by kernel_rfl) rfl) w2 HN2.out (fun W d hW => lmkdir1_any d _ _ W (HQ.out W hW)) L' kz ez hz2
    have HADD := Lib.hid hadd
    clear hadd
    have hmf : ∀ (fn : Fn) (first cap : Array Value) (w : World), (Instr.makeFunc fn first cap).run Tryz.prog w = .ok (.func fn first cap) w := fun _ _ _ _ => rfl
    go_wp2_with fail
    refine HADD.out.mono ?_
    rintro e w3 ⟨⟨g, cap', vs, he, hO3⟩, hb3⟩
    have he' : e = .returned (.tuple #[.agg #[.slice (some ⟨g, 0, none⟩) L'.length cap', .int .i64 m, .int .i64 b], .int .i64 kz, .int .i64 ez]) := he
    subst he'
    have HO3 := Lib.hid hO3
    have HB3 := Lib.hid (HB2.out.trans (hb3.mono (by omega)))
    have HRX := Lib.hid (HR.out w3 hb3)
    have r0 := blk_cell HRX.out 0
    have r1 := blk_cell HRX.out 1
    have r2 := blk_cell HRX.out 2
    have s0 := blk_free HRX.out 0
    have s1 := blk_free HRX.out 1
    have s2 := blk_free HRX.out 2
    have hrl := lt_of_block HRX.out
    clear hO3 hb3 he
    go_wp2_with fail
    change bodyPost _ _ _ _ _ (put3 w3 (w.heap.size + 2) (.slice (some ⟨g, 0, none⟩) L'.length cap') (.int .i64 m) (.int .i64 b))
    obtain ⟨c0, c1, c2⟩ := put3_cells HRX.out (.slice (some ⟨g, 0, none⟩) L'.length cap') (.int .i64 m) (.int .i64 b)
    obtain ⟨hOF, hBF⟩ := end_made3 (c := w.heap.size + 2) HO3.out HB3.out (by omega) (by omega) (.slice (some ⟨g, 0, none⟩) L'.length cap') (.int .i64 m) (.int .i64 b)
    have HOG := Lib.hid hOF
    have HBG := Lib.hid hBF
    clear hOF hBF
    generalize put3 w3 (w.heap.size + 2) (.slice (some ⟨g, 0, none⟩) L'.length cap') (.int .i64 m) (.int .i64 b) = wF at *
    exact bodyPost_ret (v := .tuple #[.agg #[.slice (some ⟨g, 0, none⟩) L'.length cap', .int .i64 m, .int .i64 b], .int .i64 kz, .int .i64 ez]) (by simp [results, Tryz.results6, go_sem, c0, c1, c2]) rfl ⟨⟨g, cap', vs, rfl, HOG.out⟩, HBG.out⟩

set_option maxHeartbeats 4000000 in
theorem lcreate_any (a : Option Addr) (cap : Nat) (m b cwd q : Int) (pb : ByteArray) (hp : pb.size ≤ 1073741824) (L : List Ino) (hF : FitP L m b) (L' : List Ino) (kz ez : Int) (hz : createW L cwd pb.data.toList q = (L', kz, ez)) (w : World) (hN : NodesIn w a cap L) :
    Calls Tryz.prog 8 #[.agg #[.slice a L.length cap, .int .i64 m, .int .i64 b], .int .i64 cwd, .string pb, .int .i64 q] w (MadeAns w.heap.size w m b L' [.int .i64 kz, .int .i64 ez]) := by
  obtain ⟨w2, hw2, hb2, hs2, hA, hQ, hB⟩ := three_boxes w #[.slice a L.length cap, .int .i64 m, .int .i64 b] #[.int .i64 q] #[.slice none 0 0, .int .i64 0, .int .i64 0] 24 3 24
  obtain ⟨l1, l2, l3, l4, l5⟩ := hF.limits
  have hL0 : 0 < L.length := by omega
  have hL1 : L.length ≤ 256 := by omega
  have HF := Lib.hid hF
  have HN2 := Lib.hid (hN.below hb2)
  have HZ := Lib.hid hz
  have HB2 := Lib.hid hb2
  have HK := Lib.hid (show ∀ x ∈ L, x.kids.length ≤ 4096 from fun x hx => by obtain ⟨j, hj, rfl⟩ := List.getElem_of_mem hx; have := (hF.ins j hj).2.1; omega)
  have HR := Lib.hid (show ∀ W, Below w2.heap.size w2 W → W.heap[w.heap.size + 2]? = some (.cells #[.slice none 0 0, .int .i64 0, .int .i64 0] 24 (0, 0)) from fun W hW => (hW.block _ (by omega)).trans hB)
  have HQ := Lib.hid (show ∀ W, Below w2.heap.size w2 W → W.cell? ⟨w.heap.size + 1, 0, none⟩ = some (.int .i64 q) from fun W hW => blk_cell ((hW.block (w.heap.size + 1) (by omega)).trans hQ) 0)
  clear hF hN hz hb2 hA hQ hB
  have q0 := HQ.out _ (Below.refl _ _)
  cases hq : modeB q with
  | false =>
    have HM := Lib.hid hq
    have hz2 := HZ.out
    unfold createW at hz2
    rw [if_pos hq] at hz2
    simp only [Prod.mk.injEq] at hz2
    obtain ⟨rfl, rfl, rfl⟩ := hz2
    clear hq
    go_enter Tryz.func8, Tryz.ntmps8
    go_wp2_with (first | (go_at_call 20; refine (lismode_known _ _ HM.out _).mono ?_; rintro e w' ⟨rfl, rfl⟩) | fail)
    rw [← hw2]
    clear hw2 q0
    refine (lcopied_any a cap m b L hL0 (by omega) HK.out _ HN2.out).mono ?_
    rintro e w3 ⟨g, cap', vs, rfl, hO3, hb3⟩
    have HO3 := Lib.hid hO3
    have HB3 := Lib.hid (HB2.out.trans (hb3.mono (by omega)))
    have HRX := Lib.hid (HR.out w3 hb3)
    have r0 := blk_cell HRX.out 0
    have r1 := blk_cell HRX.out 1
    have r2 := blk_cell HRX.out 2
    have s0 := blk_free HRX.out 0
    have s1 := blk_free HRX.out 1
    have s2 := blk_free HRX.out 2
    have hrl := lt_of_block HRX.out
    clear hO3 hb3
    go_wp2_with fail
    change bodyPost _ _ _ _ _ (put3 w3 (w.heap.size + 2) (.slice (some ⟨g, 0, none⟩) L.length cap') (.int .i64 m) (.int .i64 b))
    obtain ⟨c0, c1, c2⟩ := put3_cells HRX.out (.slice (some ⟨g, 0, none⟩) L.length cap') (.int .i64 m) (.int .i64 b)
    obtain ⟨hOF, hBF⟩ := end_made3 (c := w.heap.size + 2) HO3.out HB3.out (by omega) (by omega) (.slice (some ⟨g, 0, none⟩) L.length cap') (.int .i64 m) (.int .i64 b)
    have HOG := Lib.hid hOF
    have HBG := Lib.hid hBF
    clear hOF hBF
    generalize put3 w3 (w.heap.size + 2) (.slice (some ⟨g, 0, none⟩) L.length cap') (.int .i64 m) (.int .i64 b) = wF at *
    exact bodyPost_ret (v := .tuple #[.agg #[.slice (some ⟨g, 0, none⟩) L.length cap', .int .i64 m, .int .i64 b], .int .i64 0, .int .i64 22]) (by simp [results, Tryz.results8, go_sem, c0, c1, c2]) rfl ⟨⟨g, cap', vs, rfl, HOG.out⟩, HBG.out⟩
  | true =>
    have HM := Lib.hid hq
    have hz2 := HZ.out
    rw [create_words HF.out cwd pb.data.toList q hq] at hz2
    clear hq
    go_enter Tryz.func8, Tryz.ntmps8
    go_wp2_with (first | (go_at_call 20; refine (lismode_known _ _ HM.out _).mono ?_; rintro e w' ⟨rfl, rfl⟩) | fail)
    rw [← hw2]
    clear hw2 q0
    have hadd := ladd_any a cap m b cwd pb hp L HF.out (fun _ => newIno 1 q [] 0) (fun _ => rfl) (fun _ => rfl) (fun _ => Nat.zero_le _) 27 #[.pointer (some ⟨w.heap.size + 1, 0, none⟩)] (enters_of Tryz.func27 (by kernel_rfl) rfl) w2 HN2.out (fun W d hW => lcreate1_any d _ _ W (HQ.out W hW)) L' kz ez hz2
    have HADD := Lib.hid hadd
    clear hadd
    have hmf : ∀ (fn : Fn) (first cap : Array Value) (w : World), (Instr.makeFunc fn first cap).run Tryz.prog w = .ok (.func fn first cap) w := fun _ _ _ _ => rfl
    go_wp2_with fail
    refine HADD.out.mono ?_
    rintro e w3 ⟨⟨g, cap', vs, he, hO3⟩, hb3⟩
    have he' : e = .returned (.tuple #[.agg #[.slice (some ⟨g, 0, none⟩) L'.length cap', .int .i64 m, .int .i64 b], .int .i64 kz, .int .i64 ez]) := he
    subst he'
    have HO3 := Lib.hid hO3
    have HB3 := Lib.hid (HB2.out.trans (hb3.mono (by omega)))
    have HRX := Lib.hid (HR.out w3 hb3)
    have r0 := blk_cell HRX.out 0
    have r1 := blk_cell HRX.out 1
    have r2 := blk_cell HRX.out 2
    have s0 := blk_free HRX.out 0
    have s1 := blk_free HRX.out 1
    have s2 := blk_free HRX.out 2
    have hrl := lt_of_block HRX.out
    clear hO3 hb3 he
    go_wp2_with fail
    change bodyPost _ _ _ _ _ (put3 w3 (w.heap.size + 2) (.slice (some ⟨g, 0, none⟩) L'.length cap') (.int .i64 m) (.int .i64 b))
    obtain ⟨c0, c1, c2⟩ := put3_cells HRX.out (.slice (some ⟨g, 0, none⟩) L'.length cap') (.int .i64 m) (.int .i64 b)
    obtain ⟨hOF, hBF⟩ := end_made3 (c := w.heap.size + 2) HO3.out HB3.out (by omega) (by omega) (.slice (some ⟨g, 0, none⟩) L'.length cap') (.int .i64 m) (.int .i64 b)
    have HOG := Lib.hid hOF
    have HBG := Lib.hid hBF
    clear hOF hBF
    generalize put3 w3 (w.heap.size + 2) (.slice (some ⟨g, 0, none⟩) L'.length cap') (.int .i64 m) (.int .i64 b) = wF at *
    exact bodyPost_ret (v := .tuple #[.agg #[.slice (some ⟨g, 0, none⟩) L'.length cap', .int .i64 m, .int .i64 b], .int .i64 kz, .int .i64 ez]) (by simp [results, Tryz.results8, go_sem, c0, c1, c2]) rfl ⟨⟨g, cap', vs, rfl, HOG.out⟩, HBG.out⟩

end Go.Proofs.YtogheigpcppeiaaGreat

namespace Go.Proofs.YtogheigpcppeiaaGreat
set_option maxRecDepth 100000
open Go Go.RowKit

theorem any_zero (l : List UInt8) : l.any (fun c => c == 0) = decide (0 ≤ Lib.indexByte l 0) := by
  have h := none_of l 0
  have e : l.any (fun c => c == 0) = !(l.all fun x => x != 0) := by
    induction l with
    | nil => rfl
    | cons a r ih =>
      have ih' := ih (none_of r 0)
      simp only [List.any_cons, List.all_cons, ih']
      cases ha : (a == 0) <;> simp [bne, ha]
  rw [e, ← h]
  by_cases h0 : Lib.indexByte l 0 < 0
  · rw [decide_eq_true h0, decide_eq_false (by omega)]; rfl
  · rw [decide_eq_false h0, decide_eq_true (by omega)]; rfl

set_option maxHeartbeats 4000000 in
theorem lsymlink_any (a : Option Addr) (cap : Nat) (m b cwd : Int) (to : List UInt8) (pb : ByteArray) (hp : pb.size ≤ 1073741824) (L : List Ino) (hF : FitP L m b) (L' : List Ino) (kz ez : Int) (hz : symlinkW L b cwd to pb.data.toList = (L', kz, ez)) (w : World) (hN : NodesIn w a cap L) :
    Calls Tryz.prog 11 #[.agg #[.slice a L.length cap, .int .i64 m, .int .i64 b], .int .i64 cwd, .string ⟨to.toArray⟩, .string pb] w (MadeAns w.heap.size w m b L' [.int .i64 kz, .int .i64 ez]) := by
  obtain ⟨w2, hw2, hb2, hs2, hA, hQ, hB⟩ := three_boxes w #[.slice a L.length cap, .int .i64 m, .int .i64 b] #[.string ⟨to.toArray⟩] #[.slice none 0 0, .int .i64 0, .int .i64 0] 24 9 24
  obtain ⟨l1, l2, l3, l4, l5⟩ := hF.limits
  have hL0 : 0 < L.length := by omega
  have hL1 : L.length ≤ 256 := by omega
  have HF := Lib.hid hF
  have HN2 := Lib.hid (hN.below hb2)
  have HZ := Lib.hid hz
  have HB2 := Lib.hid hb2
  have HK := Lib.hid (show ∀ x ∈ L, x.kids.length ≤ 4096 from fun x hx => by obtain ⟨j, hj, rfl⟩ := List.getElem_of_mem hx; have := (hF.ins j hj).2.1; omega)
  have HR := Lib.hid (show ∀ W, Below w2.heap.size w2 W → W.heap[w.heap.size + 2]? = some (.cells #[.slice none 0 0, .int .i64 0, .int .i64 0] 24 (0, 0)) from fun W hW => (hW.block _ (by omega)).trans hB)
  have HQ := Lib.hid (show ∀ W, Below w2.heap.size w2 W → W.cell? ⟨w.heap.size + 1, 0, none⟩ = some (.string ⟨to.toArray⟩) from fun W hW => blk_cell ((hW.block (w.heap.size + 1) (by omega)).trans hQ) 0)
  clear hF hN hz hb2 hA hQ hB
  have q0 := HQ.out _ (Below.refl _ _)
  obtain ⟨ib, hib⟩ : ∃ i, Lib.indexByte to 0 = i := ⟨_, rfl⟩
  have HIB := Lib.hid (show Lib.indexByte (⟨to.toArray⟩ : ByteArray).data.toList (0 : Int).toNat.toUInt8 = ib from hib)
  have HANY := Lib.hid (show to.any (fun c => c == 0) = decide (0 ≤ ib) by rw [any_zero, hib])
  have hsl := str_len to
  clear hib
  by_cases e0 : to = []
  · subst e0
    have hz2 := HZ.out
    unfold symlinkW at hz2
    rw [if_pos (Or.inl rfl)] at hz2
    simp only [Prod.mk.injEq] at hz2
    obtain ⟨rfl, rfl, rfl⟩ := hz2
    go_enter Tryz.func11, Tryz.ntmps11
    go_wp2_with (first | (go_at_call 28; refine (ibyte_known _ _ _ HIB.out _).mono ?_; rintro e w' ⟨rfl, rfl⟩) | fail)
    rw [← hw2]
    clear hw2 q0
    refine (lcopied_any a cap m b L hL0 (by omega) HK.out _ HN2.out).mono ?_
    rintro e w3 ⟨g, cap', vs, rfl, hO3, hb3⟩
    have HO3 := Lib.hid hO3
    have HB3 := Lib.hid (HB2.out.trans (hb3.mono (by omega)))
    have HRX := Lib.hid (HR.out w3 hb3)
    have r0 := blk_cell HRX.out 0
    have r1 := blk_cell HRX.out 1
    have r2 := blk_cell HRX.out 2
    have s0 := blk_free HRX.out 0
    have s1 := blk_free HRX.out 1
    have s2 := blk_free HRX.out 2
    have hrl := lt_of_block HRX.out
    clear hO3 hb3
    go_wp2_with fail
    change bodyPost _ _ _ _ _ (put3 w3 (w.heap.size + 2) (.slice (some ⟨g, 0, none⟩) L.length cap') (.int .i64 m) (.int .i64 b))
    obtain ⟨c0, c1, c2⟩ := put3_cells HRX.out (.slice (some ⟨g, 0, none⟩) L.length cap') (.int .i64 m) (.int .i64 b)
    obtain ⟨hOF, hBF⟩ := end_made3 (c := w.heap.size + 2) HO3.out HB3.out (by omega) (by omega) (.slice (some ⟨g, 0, none⟩) L.length cap') (.int .i64 m) (.int .i64 b)
    have HOG := Lib.hid hOF
    have HBG := Lib.hid hBF
    clear hOF hBF
    generalize put3 w3 (w.heap.size + 2) (.slice (some ⟨g, 0, none⟩) L.length cap') (.int .i64 m) (.int .i64 b) = wF at *
    exact bodyPost_ret (v := .tuple #[.agg #[.slice (some ⟨g, 0, none⟩) L.length cap', .int .i64 m, .int .i64 b], .int .i64 0, .int .i64 22]) (by simp [results, Tryz.results11, go_sem, c0, c1, c2]) rfl ⟨⟨g, cap', vs, rfl, HOG.out⟩, HBG.out⟩
  have e0b : (to == []) = false := by simpa using e0
  have e0c : to.isEmpty = false := by simpa using e0
  by_cases e1 : 0 ≤ ib
  · have hz2 := HZ.out
    unfold symlinkW at hz2
    rw [if_pos (Or.inr (by rw [HANY.out]; exact decide_eq_true e1))] at hz2
    simp only [Prod.mk.injEq] at hz2
    obtain ⟨rfl, rfl, rfl⟩ := hz2
    clear e0
    go_enter Tryz.func11, Tryz.ntmps11
    go_wp2_with (first | (go_at_call 28; refine (ibyte_known _ _ _ HIB.out _).mono ?_; rintro e w' ⟨rfl, rfl⟩) | fail)
    rw [← hw2]
    clear hw2 q0
    refine (lcopied_any a cap m b L hL0 (by omega) HK.out _ HN2.out).mono ?_
    rintro e w3 ⟨g, cap', vs, rfl, hO3, hb3⟩
    have HO3 := Lib.hid hO3
    have HB3 := Lib.hid (HB2.out.trans (hb3.mono (by omega)))
    have HRX := Lib.hid (HR.out w3 hb3)
    have r0 := blk_cell HRX.out 0
    have r1 := blk_cell HRX.out 1
    have r2 := blk_cell HRX.out 2
    have s0 := blk_free HRX.out 0
    have s1 := blk_free HRX.out 1
    have s2 := blk_free HRX.out 2
    have hrl := lt_of_block HRX.out
    clear hO3 hb3
    go_wp2_with fail
    change bodyPost _ _ _ _ _ (put3 w3 (w.heap.size + 2) (.slice (some ⟨g, 0, none⟩) L.length cap') (.int .i64 m) (.int .i64 b))
    obtain ⟨c0, c1, c2⟩ := put3_cells HRX.out (.slice (some ⟨g, 0, none⟩) L.length cap') (.int .i64 m) (.int .i64 b)
    obtain ⟨hOF, hBF⟩ := end_made3 (c := w.heap.size + 2) HO3.out HB3.out (by omega) (by omega) (.slice (some ⟨g, 0, none⟩) L.length cap') (.int .i64 m) (.int .i64 b)
    have HOG := Lib.hid hOF
    have HBG := Lib.hid hBF
    clear hOF hBF
    generalize put3 w3 (w.heap.size + 2) (.slice (some ⟨g, 0, none⟩) L.length cap') (.int .i64 m) (.int .i64 b) = wF at *
    exact bodyPost_ret (v := .tuple #[.agg #[.slice (some ⟨g, 0, none⟩) L.length cap', .int .i64 m, .int .i64 b], .int .i64 0, .int .i64 22]) (by simp [results, Tryz.results11, go_sem, c0, c1, c2]) rfl ⟨⟨g, cap', vs, rfl, HOG.out⟩, HBG.out⟩
  have e1' : ib < 0 := by omega
  have hcond : ¬ (to = [] ∨ to.any (fun c => c == 0) = true) := by
    rintro (h | h)
    · exact e0 h
    · rw [HANY.out] at h
      exact e1 (of_decide_eq_true h)
  have HCOND := Lib.hid hcond
  clear hcond
  by_cases e2 : 1024 < to.length
  · have hz2 := HZ.out
    unfold symlinkW at hz2
    rw [if_neg HCOND.out, if_pos e2] at hz2
    simp only [Prod.mk.injEq] at hz2
    obtain ⟨rfl, rfl, rfl⟩ := hz2
    have e2' : (1024 : Int) < (to.length : Int) := by omega
    clear e0
    go_enter Tryz.func11, Tryz.ntmps11
    go_wp2_with (first | (go_at_call 28; refine (ibyte_known _ _ _ HIB.out _).mono ?_; rintro e w' ⟨rfl, rfl⟩) | fail)
    rw [← hw2]
    clear hw2 q0
    refine (lcopied_any a cap m b L hL0 (by omega) HK.out _ HN2.out).mono ?_
    rintro e w3 ⟨g, cap', vs, rfl, hO3, hb3⟩
    have HO3 := Lib.hid hO3
    have HB3 := Lib.hid (HB2.out.trans (hb3.mono (by omega)))
    have HRX := Lib.hid (HR.out w3 hb3)
    have r0 := blk_cell HRX.out 0
    have r1 := blk_cell HRX.out 1
    have r2 := blk_cell HRX.out 2
    have s0 := blk_free HRX.out 0
    have s1 := blk_free HRX.out 1
    have s2 := blk_free HRX.out 2
    have hrl := lt_of_block HRX.out
    clear hO3 hb3
    go_wp2_with fail
    change bodyPost _ _ _ _ _ (put3 w3 (w.heap.size + 2) (.slice (some ⟨g, 0, none⟩) L.length cap') (.int .i64 m) (.int .i64 b))
    obtain ⟨c0, c1, c2⟩ := put3_cells HRX.out (.slice (some ⟨g, 0, none⟩) L.length cap') (.int .i64 m) (.int .i64 b)
    obtain ⟨hOF, hBF⟩ := end_made3 (c := w.heap.size + 2) HO3.out HB3.out (by omega) (by omega) (.slice (some ⟨g, 0, none⟩) L.length cap') (.int .i64 m) (.int .i64 b)
    have HOG := Lib.hid hOF
    have HBG := Lib.hid hBF
    clear hOF hBF
    generalize put3 w3 (w.heap.size + 2) (.slice (some ⟨g, 0, none⟩) L.length cap') (.int .i64 m) (.int .i64 b) = wF at *
    exact bodyPost_ret (v := .tuple #[.agg #[.slice (some ⟨g, 0, none⟩) L.length cap', .int .i64 m, .int .i64 b], .int .i64 0, .int .i64 36]) (by simp [results, Tryz.results11, go_sem, c0, c1, c2]) rfl ⟨⟨g, cap', vs, rfl, HOG.out⟩, HBG.out⟩
  have hto : to.length ≤ 1024 := by omega
  have e2' : ¬ (1024 : Int) < (to.length : Int) := by omega
  have hz2 := HZ.out
  rw [symlink_words HF.out cwd to pb.data.toList e0 (by
    cases h : to.any (fun c => c == 0) with
    | false => rfl
    | true => exact absurd (Or.inr h) HCOND.out) hto] at hz2
  clear e0
  go_enter Tryz.func11, Tryz.ntmps11
  go_wp2_with (first | (go_at_call 28; refine (ibyte_known _ _ _ HIB.out _).mono ?_; rintro e w' ⟨rfl, rfl⟩) | fail)
  rw [← hw2]
  clear hw2 q0
  have hadd := ladd_any a cap m b cwd pb hp L HF.out (fun _ => newIno 3 7 to 0) (fun _ => rfl) (fun _ => rfl) (fun _ => hto) 29 #[.pointer (some ⟨w.heap.size + 1, 0, none⟩)] (enters_of Tryz.func29 (by kernel_rfl) rfl) w2 HN2.out (fun W d hW => lsymlink1_any d _ _ W (HQ.out W hW)) L' kz ez hz2
  have HADD := Lib.hid hadd
  clear hadd
  have hmf : ∀ (fn : Fn) (first cap : Array Value) (w : World), (Instr.makeFunc fn first cap).run Tryz.prog w = .ok (.func fn first cap) w := fun _ _ _ _ => rfl
  go_wp2_with fail
  refine HADD.out.mono ?_
  rintro e w3 ⟨⟨g, cap', vs, he, hO3⟩, hb3⟩
  have he' : e = .returned (.tuple #[.agg #[.slice (some ⟨g, 0, none⟩) L'.length cap', .int .i64 m, .int .i64 b], .int .i64 kz, .int .i64 ez]) := he
  subst he'
  have HO3 := Lib.hid hO3
  have HB3 := Lib.hid (HB2.out.trans (hb3.mono (by omega)))
  have HRX := Lib.hid (HR.out w3 hb3)
  have r0 := blk_cell HRX.out 0
  have r1 := blk_cell HRX.out 1
  have r2 := blk_cell HRX.out 2
  have s0 := blk_free HRX.out 0
  have s1 := blk_free HRX.out 1
  have s2 := blk_free HRX.out 2
  have hrl := lt_of_block HRX.out
  clear hO3 hb3 he
  go_wp2_with fail
  change bodyPost _ _ _ _ _ (put3 w3 (w.heap.size + 2) (.slice (some ⟨g, 0, none⟩) L'.length cap') (.int .i64 m) (.int .i64 b))
  obtain ⟨c0, c1, c2⟩ := put3_cells HRX.out (.slice (some ⟨g, 0, none⟩) L'.length cap') (.int .i64 m) (.int .i64 b)
  obtain ⟨hOF, hBF⟩ := end_made3 (c := w.heap.size + 2) HO3.out HB3.out (by omega) (by omega) (.slice (some ⟨g, 0, none⟩) L'.length cap') (.int .i64 m) (.int .i64 b)
  have HOG := Lib.hid hOF
  have HBG := Lib.hid hBF
  clear hOF hBF
  generalize put3 w3 (w.heap.size + 2) (.slice (some ⟨g, 0, none⟩) L'.length cap') (.int .i64 m) (.int .i64 b) = wF at *
  exact bodyPost_ret (v := .tuple #[.agg #[.slice (some ⟨g, 0, none⟩) L'.length cap', .int .i64 m, .int .i64 b], .int .i64 kz, .int .i64 ez]) (by simp [results, Tryz.results11, go_sem, c0, c1, c2]) rfl ⟨⟨g, cap', vs, rfl, HOG.out⟩, HBG.out⟩
end Go.Proofs.YtogheigpcppeiaaGreat

namespace Go.Proofs.YtogheigpcppeiaaGreat
set_option maxRecDepth 100000
open Go Go.RowKit

theorem lwalk_kn (a : Option Addr) (cap : Nat) (m b cwd : Int) (pb : ByteArray) (hp : pb.size ≤ 1073741824) (follow : Bool) (L : List Ino) (hF : FitP L m b) (z e : Int) (h : walkW L cwd pb.data.toList follow = (z, e)) (w : World) (hN : NodesIn w a cap L) :
    Calls Tryz.prog 30 #[.agg #[.slice a L.length cap, .int .i64 m, .int .i64 b], .int .i64 cwd, .string pb, .bool follow] w fun r w' => r = .returned (.tuple #[.int .i64 z, .int .i64 e]) ∧ Below w.heap.size w w' := by
  have := lwalk_any a cap m b cwd pb hp follow L hF w hN
  rw [h] at this
  exact this

set_option maxHeartbeats 4000000 in
theorem lchmod_any (a : Option Addr) (cap : Nat) (m b cwd q : Int) (pb : ByteArray) (hp : pb.size ≤ 1073741824) (L : List Ino) (hF : FitP L m b) (L' : List Ino) (ez : Int) (hz : chmodW L cwd pb.data.toList q = (L', ez)) (w : World) (hN : NodesIn w a cap L) :
    Calls Tryz.prog 15 #[.agg #[.slice a L.length cap, .int .i64 m, .int .i64 b], .int .i64 cwd, .string pb, .int .i64 q] w (MadeAns w.heap.size w m b L' [.int .i64 ez]) := by
  obtain ⟨⟨wz, we⟩, hwk⟩ : ∃ r, walkW L cwd pb.data.toList true = r := ⟨_, rfl⟩
  have HWK := Lib.hid hwk
  clear hwk
  obtain ⟨w2, hw2, hb2, hs2, hA, hB⟩ := two_boxes w #[.slice a L.length cap, .int .i64 m, .int .i64 b] #[.slice none 0 0, .int .i64 0, .int .i64 0] 24 24
  obtain ⟨l1, l2, l3, l4, l5⟩ := hF.limits
  have hL0 : 0 < L.length := by omega
  have hL1 : L.length ≤ 256 := by omega
  have HF := Lib.hid hF
  have HN2 := Lib.hid (hN.below hb2)
  have HZ := Lib.hid hz
  have HB2 := Lib.hid hb2
  have HK := Lib.hid (show ∀ x ∈ L, x.kids.length ≤ 4096 from fun x hx => by obtain ⟨j, hj, rfl⟩ := List.getElem_of_mem hx; have := (hF.ins j hj).2.1; omega)
  have HR := Lib.hid (show ∀ W, Below w2.heap.size w2 W → W.heap[w.heap.size + 1]? = some (.cells #[.slice none 0 0, .int .i64 0, .int .i64 0] 24 (0, 0)) from fun W hW => (hW.block _ (by omega)).trans hB)
  have HAll := Lib.hid (show ∀ W, Below w2.heap.size w2 W → W.cell? ⟨w.heap.size, 0, none⟩ = some (.slice a L.length cap) ∧ W.cell? ⟨w.heap.size, 1, none⟩ = some (.int .i64 m) ∧ W.cell? ⟨w.heap.size, 2, none⟩ = some (.int .i64 b) from fun W hW => by
    have h := (hW.block w.heap.size (by omega)).trans hA
    exact ⟨blk_cell h 0, blk_cell h 1, blk_cell h 2⟩)
  clear hF hN hz hb2 hA hB
  go_enter Tryz.func15, Tryz.ntmps15
  go_wp2_with fail
  rw [← hw2]
  clear hw2
  refine (lcopied_any a cap m b L hL0 (by omega) HK.out _ HN2.out).mono ?_
  rintro e w3 ⟨g, cap', vs, rfl, hO3, hb3⟩
  have HO3 := Lib.hid hO3
  have HB3 := Lib.hid hb3
  have hs3 := hb3.size
  obtain ⟨q0, q1, q2⟩ := HAll.out _ hb3
  have hq := cell_lt q0
  clear hO3 hb3
  have hz2 := HZ.out
  unfold chmodW at hz2
  rw [HWK.out] at hz2
  cases hq2 : modeB q with
  | false =>
    have HM := Lib.hid hq2
    rw [if_pos hq2] at hz2
    simp only [Prod.mk.injEq] at hz2
    obtain ⟨rfl, rfl⟩ := hz2
    clear hq2
    go_wp2_with fail
    obtain ⟨w4, hw4⟩ : ∃ w4, w4 = w3.alloc (.cells #[.slice (some ⟨g, 0, none⟩) L.length cap', .int .i64 m, .int .i64 b] 24) := ⟨_, rfl⟩
    have hb4 : Below w3.heap.size w3 w4 := by rw [hw4]; exact below_box w3 _
    have hM4 : w4.heap[w3.heap.size]? = some (.cells #[.slice (some ⟨g, 0, none⟩) L.length cap', .int .i64 m, .int .i64 b] 24 (0, 0)) := by rw [hw4]; exact new_block w3 _
    have hs4 : w4.heap.size = w3.heap.size + 1 := by rw [hw4]; simp
    rw [← hw4]
    clear hw4 q0 q1 q2 hq
    have HB34 := Lib.hid hb4
    have HB24 := Lib.hid (HB3.out.trans (hb4.mono hs3))
    have HR4 := Lib.hid (show ∀ W, Below w4.heap.size w4 W → W.heap[w.heap.size + 1]? = some (.cells #[.slice none 0 0, .int .i64 0, .int .i64 0] 24 (0, 0)) from fun W hW => HR.out W (HB24.out.trans (hW.mono (by omega))))
    have HA4 := Lib.hid (show ∀ W, Below w4.heap.size w4 W → W.cell? ⟨w.heap.size, 0, none⟩ = some (.slice a L.length cap) ∧ W.cell? ⟨w.heap.size, 1, none⟩ = some (.int .i64 m) ∧ W.cell? ⟨w.heap.size, 2, none⟩ = some (.int .i64 b) from fun W hW => HAll.out W (HB24.out.trans (hW.mono (by omega))))
    have HM4 := Lib.hid (show ∀ W, Below w4.heap.size w4 W → W.cell? ⟨w3.heap.size, 0, none⟩ = some (.slice (some ⟨g, 0, none⟩) L.length cap') ∧ W.cell? ⟨w3.heap.size, 1, none⟩ = some (.int .i64 m) ∧ W.cell? ⟨w3.heap.size, 2, none⟩ = some (.int .i64 b) from fun W hW => by
      have h := (hW.block w3.heap.size (by omega)).trans hM4
      exact ⟨blk_cell h 0, blk_cell h 1, blk_cell h 2⟩)
    have HN4 := Lib.hid (show ∀ W, Below w4.heap.size w4 W → NodesIn W a cap L from fun W hW => HN2.out.below (HB24.out.trans (hW.mono (by omega))))
    have HO4 := Lib.hid (show ∀ W, Below w4.heap.size w4 W → OwnT W (w.heap.size + 2) g cap' L vs from fun W hW => by
      have := HO3.out.below (HB34.out.trans (hW.mono (by omega)))
      rw [hs2] at this
      exact this)
    have HBW := Lib.hid (show ∀ W, Below w4.heap.size w4 W → Below w.heap.size w W from fun W hW => HB2.out.trans ((HB24.out.trans (hW.mono (by omega))).mono (by omega)))
    clear hb4 hM4 HAll HR
    refine (lismode_known _ _ HM.out _).mono ?_
    rintro e w' ⟨rfl, rfl⟩
    have HRX := Lib.hid (HR4.out w4 (Below.refl _ _))
    have r0 := blk_cell HRX.out 0
    have r1 := blk_cell HRX.out 1
    have r2 := blk_cell HRX.out 2
    have s0 := blk_free HRX.out 0
    have s1 := blk_free HRX.out 1
    have s2 := blk_free HRX.out 2
    have hrl := lt_of_block HRX.out
    obtain ⟨m0, m1, m2⟩ := HM4.out w4 (Below.refl _ _)
    have hml := cell_lt m0
    go_wp2_with fail
    change bodyPost _ _ _ _ _ (put3 w4 (w.heap.size + 1) (.slice (some ⟨g, 0, none⟩) L.length cap') (.int .i64 m) (.int .i64 b))
    obtain ⟨c0, c1, c2⟩ := put3_cells HRX.out (.slice (some ⟨g, 0, none⟩) L.length cap') (.int .i64 m) (.int .i64 b)
    obtain ⟨hOF, hBF⟩ := end_made3 (c := w.heap.size + 1) (HO4.out w4 (Below.refl _ _)) (HBW.out w4 (Below.refl _ _)) (by omega) (by omega) (.slice (some ⟨g, 0, none⟩) L.length cap') (.int .i64 m) (.int .i64 b)
    have HOG := Lib.hid hOF
    have HBG := Lib.hid hBF
    clear hOF hBF
    generalize put3 w4 (w.heap.size + 1) (.slice (some ⟨g, 0, none⟩) L.length cap') (.int .i64 m) (.int .i64 b) = wF at *
    exact bodyPost_ret (v := .tuple #[.agg #[.slice (some ⟨g, 0, none⟩) L.length cap', .int .i64 m, .int .i64 b], .int .i64 22]) (by simp [results, Tryz.results15, go_sem, c0, c1, c2]) rfl ⟨⟨g, cap', vs, rfl, HOG.out⟩, HBG.out⟩
  | true =>
    have HM := Lib.hid hq2
    rw [if_neg (by simp [hq2])] at hz2
    have HQ := Lib.hid hq2
    clear hq2
    go_wp2_with fail
    obtain ⟨w4, hw4⟩ : ∃ w4, w4 = w3.alloc (.cells #[.slice (some ⟨g, 0, none⟩) L.length cap', .int .i64 m, .int .i64 b] 24) := ⟨_, rfl⟩
    have hb4 : Below w3.heap.size w3 w4 := by rw [hw4]; exact below_box w3 _
    have hM4 : w4.heap[w3.heap.size]? = some (.cells #[.slice (some ⟨g, 0, none⟩) L.length cap', .int .i64 m, .int .i64 b] 24 (0, 0)) := by rw [hw4]; exact new_block w3 _
    have hs4 : w4.heap.size = w3.heap.size + 1 := by rw [hw4]; simp
    rw [← hw4]
    clear hw4 q0 q1 q2 hq
    have HB34 := Lib.hid hb4
    have HB24 := Lib.hid (HB3.out.trans (hb4.mono hs3))
    have HR4 := Lib.hid (show ∀ W, Below w4.heap.size w4 W → W.heap[w.heap.size + 1]? = some (.cells #[.slice none 0 0, .int .i64 0, .int .i64 0] 24 (0, 0)) from fun W hW => HR.out W (HB24.out.trans (hW.mono (by omega))))
    have HA4 := Lib.hid (show ∀ W, Below w4.heap.size w4 W → W.cell? ⟨w.heap.size, 0, none⟩ = some (.slice a L.length cap) ∧ W.cell? ⟨w.heap.size, 1, none⟩ = some (.int .i64 m) ∧ W.cell? ⟨w.heap.size, 2, none⟩ = some (.int .i64 b) from fun W hW => HAll.out W (HB24.out.trans (hW.mono (by omega))))
    have HM4 := Lib.hid (show ∀ W, Below w4.heap.size w4 W → W.cell? ⟨w3.heap.size, 0, none⟩ = some (.slice (some ⟨g, 0, none⟩) L.length cap') ∧ W.cell? ⟨w3.heap.size, 1, none⟩ = some (.int .i64 m) ∧ W.cell? ⟨w3.heap.size, 2, none⟩ = some (.int .i64 b) from fun W hW => by
      have h := (hW.block w3.heap.size (by omega)).trans hM4
      exact ⟨blk_cell h 0, blk_cell h 1, blk_cell h 2⟩)
    have HN4 := Lib.hid (show ∀ W, Below w4.heap.size w4 W → NodesIn W a cap L from fun W hW => HN2.out.below (HB24.out.trans (hW.mono (by omega))))
    have HO4 := Lib.hid (show ∀ W, Below w4.heap.size w4 W → OwnT W (w.heap.size + 2) g cap' L vs from fun W hW => by
      have := HO3.out.below (HB34.out.trans (hW.mono (by omega)))
      rw [hs2] at this
      exact this)
    have HBW := Lib.hid (show ∀ W, Below w4.heap.size w4 W → Below w.heap.size w W from fun W hW => HB2.out.trans ((HB24.out.trans (hW.mono (by omega))).mono (by omega)))
    clear hb4 hM4 HAll HR
    refine (lismode_known _ _ HM.out _).mono ?_
    rintro e w' ⟨rfl, rfl⟩
    obtain ⟨q0, q1, q2⟩ := HA4.out w4 (Below.refl _ _)
    have hq := cell_lt q0
    go_wp2_with fail
    refine (lwalk_kn _ _ _ _ _ _ hp _ L HF.out _ _ HWK.out _ (HN4.out w4 (Below.refl _ _))).mono ?_
    rintro e w5 ⟨rfl, hb5⟩
    have HB45 := Lib.hid hb5
    have hs5 := hb5.size
    clear hb5 q0 q1 q2 hq
    by_cases h1 : we = 0
    · subst h1
      simp only [ne_eq, not_true_eq_false, if_false, Prod.mk.injEq] at hz2
      obtain ⟨hL', rfl⟩ := hz2
      have hlive := walk_live HF.out (cwd := cwd) (p := pb.data.toList) (f := true) (by rw [HWK.out])
      rw [HWK.out] at hlive
      obtain ⟨k, hk, hwz, hk0⟩ := live_ino hlive
      have hwz' : wz = (k : Int) := hwz
      subst hwz'
      have HL' := Lib.hid (show L' = L.set k { L[k] with mode := q } by rw [← hL', Int.toNat_natCast, node_nat L k hk])
      have hO5 := HO4.out w5 HB45.out
      have hkv : k < vs.length := by rw [hO5.nodes.len]; exact hk
      have hn := hO5.nodes.node k hk hkv
      have n1 := hn.mode
      have f1 := hO5.nodes.free (k * 6 + 1)
      have hgl := hO5.nodes.lt
      have hg3 : g < w3.heap.size := HO3.out.nodes.lt
      have hgb := hO5.hbase
      have hne1 : ¬ (g = w3.heap.size) := by omega
      have hne2 : ¬ (g = w.heap.size + 1) := by omega
      have hkl' : (k : Int) < (L.length : Int) := by omega
      have hk0' : (0 : Int) ≤ (k : Int) := by omega
      obtain ⟨w6, hw6⟩ : ∃ w6, w6 = w5.setCell ⟨g, k * 6 + 1, none⟩ (.int .i64 q) := ⟨_, rfl⟩
      have hO6 : OwnT w6 (w.heap.size + 2) g cap' L' vs := by rw [hw6, HL'.out]; exact hO5.setMode hk q
      have hB6 : Below w.heap.size w w6 := by rw [hw6]; exact (HBW.out w5 HB45.out).setCell (show w.heap.size ≤ g by omega) _
      have hL6 : L'.length = L.length := by rw [HL'.out, List.length_set]
      have HO6 := Lib.hid hO6
      have HB6 := Lib.hid hB6
      have HW6 := Lib.hid hw6
      clear hL' hlive hwz hn hO5 hO6 hB6 hw6
      have HRX := Lib.hid (HR4.out w5 HB45.out)
      have r0 := blk_cell HRX.out 0
      have r1 := blk_cell HRX.out 1
      have r2 := blk_cell HRX.out 2
      have s0 := blk_free HRX.out 0
      have s1 := blk_free HRX.out 1
      have s2 := blk_free HRX.out 2
      have hrl := lt_of_block HRX.out
      obtain ⟨m0, m1, m2⟩ := HM4.out w5 HB45.out
      have hml := cell_lt m0
      go_wp2_with fail
      rw [← HW6.out]
      have HRX := Lib.hid (show w6.heap[w.heap.size + 1]? = some (.cells #[.slice none 0 0, .int .i64 0, .int .i64 0] 24 (0, 0)) from by rw [HW6.out, Below.heap_setCell _ _ _ _ (show w.heap.size + 1 ≠ g by omega)]; exact HR4.out w5 HB45.out)
      change bodyPost _ _ _ _ _ (put3 w6 (w.heap.size + 1) (.slice (some ⟨g, 0, none⟩) L.length cap') (.int .i64 m) (.int .i64 b))
      obtain ⟨c0, c1, c2⟩ := put3_cells HRX.out (.slice (some ⟨g, 0, none⟩) L.length cap') (.int .i64 m) (.int .i64 b)
      obtain ⟨hOF, hBF⟩ := end_made3 (c := w.heap.size + 1) HO6.out HB6.out (by omega) (by omega) (.slice (some ⟨g, 0, none⟩) L.length cap') (.int .i64 m) (.int .i64 b)
      have HOG := Lib.hid hOF
      have HBG := Lib.hid hBF
      clear hOF hBF
      generalize put3 w6 (w.heap.size + 1) (.slice (some ⟨g, 0, none⟩) L.length cap') (.int .i64 m) (.int .i64 b) = wF at *
      exact bodyPost_ret (v := .tuple #[.agg #[.slice (some ⟨g, 0, none⟩) L.length cap', .int .i64 m, .int .i64 b], .int .i64 0]) (by simp [results, Tryz.results15, go_sem, c0, c1, c2]) rfl ⟨⟨g, cap', vs, by rw [hL6]; rfl, HOG.out⟩, HBG.out⟩
    · rw [if_pos h1] at hz2
      simp only [Prod.mk.injEq] at hz2
      obtain ⟨rfl, rfl⟩ := hz2
      have hb1 : (we != 0) = true := by simpa using h1
      have HRX := Lib.hid (HR4.out w5 HB45.out)
      have r0 := blk_cell HRX.out 0
      have r1 := blk_cell HRX.out 1
      have r2 := blk_cell HRX.out 2
      have s0 := blk_free HRX.out 0
      have s1 := blk_free HRX.out 1
      have s2 := blk_free HRX.out 2
      have hrl := lt_of_block HRX.out
      obtain ⟨m0, m1, m2⟩ := HM4.out w5 HB45.out
      have hml := cell_lt m0
      go_wp2_with fail
      change bodyPost _ _ _ _ _ (put3 w5 (w.heap.size + 1) (.slice (some ⟨g, 0, none⟩) L.length cap') (.int .i64 m) (.int .i64 b))
      obtain ⟨c0, c1, c2⟩ := put3_cells HRX.out (.slice (some ⟨g, 0, none⟩) L.length cap') (.int .i64 m) (.int .i64 b)
      obtain ⟨hOF, hBF⟩ := end_made3 (c := w.heap.size + 1) (HO4.out w5 HB45.out) (HBW.out w5 HB45.out) (by omega) (by omega) (.slice (some ⟨g, 0, none⟩) L.length cap') (.int .i64 m) (.int .i64 b)
      have HOG := Lib.hid hOF
      have HBG := Lib.hid hBF
      clear hOF hBF
      generalize put3 w5 (w.heap.size + 1) (.slice (some ⟨g, 0, none⟩) L.length cap') (.int .i64 m) (.int .i64 b) = wF at *
      exact bodyPost_ret (v := .tuple #[.agg #[.slice (some ⟨g, 0, none⟩) L.length cap', .int .i64 m, .int .i64 b], .int .i64 we]) (by simp [results, Tryz.results15, go_sem, c0, c1, c2]) rfl ⟨⟨g, cap', vs, rfl, HOG.out⟩, HBG.out⟩
end Go.Proofs.YtogheigpcppeiaaGreat
