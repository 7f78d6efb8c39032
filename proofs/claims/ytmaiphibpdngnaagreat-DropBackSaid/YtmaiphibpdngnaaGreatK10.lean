/-
  The reference's Mkdir, Create, of chapter 5.
  drop's drop of the landed code: a name goes, if nothing of what a row asks of it holds.
  The rows of questions of drop's calls, of the landed code.
  Chapter 6 in plain words: a name that may go, the three calls, what follows where they tell no error.
  drop's Unlink and Rmdir of the landed code: they answer what chapter 6 says.
  drop's give of the landed code: a name is given, in a tree that is one's own; a move is a name given, and one that goes.
  drop's move of the landed code: it moves.
-/
import Derived.Test.YtmaiphibpdngnaaGreatQ2
import Derived.Test.YtmaiphibpdngnaaGreatK9
import Derived.Test.YtmaiphibpdngnaaGreatK7
import Derived.Test.YtmaiphibpdngnaaGreatK6
import Derived.Test.YtmaiphibpdngnaaGreatK3
import Derived.Test.YtmaiphibpdngnaaGreatK8
namespace Go.Proofs.YtmaiphibpdngnaaGreat
set_option maxRecDepth 100000
open Go Go.RowKit

/-- A result's box that is still empty is no part of a tree. -/
theorem nodes_put3 {W : World} {c : Nat} {t : TypeId} {a : Option Addr} {cap : Nat} {L : List Ino} (h : NodesIn W a cap L) (hc : W.heap[c]? = some (.cells #[.slice none 0 0, .int .i64 0, .int .i64 0] t (0, 0))) (x y z : Value) : NodesIn (put3 W c x y z) a cap L := by
  have hcell : ∀ j u, W.cell? ⟨c, j, none⟩ = some u → (∀ s, u ≠ .string s) ∧ j < 3 := fun j u hu => by
    rw [blk_cell hc j] at hu
    match j, hu with
    | 0, hu => have h := Option.some.inj hu; subst h; exact ⟨(fun s e => by cases e), by omega⟩
    | 1, hu => have h := Option.some.inj hu; subst h; exact ⟨(fun s e => by cases e), by omega⟩
    | 2, hu => have h := Option.some.inj hu; subst h; exact ⟨(fun s e => by cases e), by omega⟩
    | j + 3, hu => simp at hu
  have hsame : ∀ b j, b ≠ c → (put3 W c x y z).cell? ⟨b, j, none⟩ = W.cell? ⟨b, j, none⟩ := fun b j hb => World.cell?_of_block (a := ⟨b, j, none⟩) (put3_other hb x y z)
  refine ⟨h.1, h.2.1, fun i hi => ?_⟩
  obtain ⟨b, o, e, hn⟩ := h.2.2 i hi
  have hb : b ≠ c := fun e => by
    subst e
    have := (hcell _ _ hn.up).2
    omega
  obtain ⟨v, hv, ka, kc, rfl, h1, h2, h3⟩ := hn.kids
  exact ⟨b, o, e, ⟨(hsame b _ hb).trans hn.kind, (hsame b _ hb).trans hn.mode, (hsame b _ hb).trans hn.links, (hsame b _ hb).trans hn.data, ⟨_, (hsame b _ hb).trans hv, ka, kc, rfl, h1, h2, fun j hj => by
    obtain ⟨b', o', e', c0, c1⟩ := h3 j hj
    have hb' : b' ≠ c := fun e => by
      subst e
      exact (hcell _ _ c0).1 _ rfl
    exact ⟨b', o', e', (hsame b' _ hb').trans c0, (hsame b' _ hb').trans c1⟩⟩, (hsame b _ hb).trans hn.up⟩⟩

theorem rmode5 (q : Int) (v : Bool) (h : modeB q = v) (w : World) : Calls Tryz.prog 66 #[.int .i64 q] w fun e w' => e = .returned (.bool v) ∧ w = w' := by
  subst h
  unfold modeB
  by_cases h0 : 0 ≤ q
  · have hb0 : decide ((0 : Int) ≤ q) = true := decide_eq_true h0
    rw [hb0]
    go_enter Tryz.func66, Tryz.ntmps66
    go_wp2_with fail
    go_ret
    exact ⟨by rfl, rfl⟩
  · have hb0 : decide ((0 : Int) ≤ q) = false := decide_eq_false h0
    rw [hb0]
    go_enter Tryz.func66, Tryz.ntmps66
    go_wp2_with fail
    go_ret
    exact ⟨by rfl, rfl⟩


set_option maxHeartbeats 8000000 in
theorem rcreate_any (a : Option Addr) (cap : Nat) (m b cwd q : Int) (pb : ByteArray) (hp : pb.size ≤ 1073741824) (L : List Ino) (hF : FitP L m b) (L' : List Ino) (kz er : Int) (hz : createW L cwd pb.data.toList q = (L', kz, er)) (w : World) (hN : NodesIn w a cap L) :
    Calls Tryz.prog 26 #[.agg #[.slice a L.length cap, .int .i64 m, .int .i64 b], .int .i64 cwd, .string pb, .int .i64 q] w (RefAns w m b L' [.int .i64 kz, .int .i64 er]) := by
  obtain ⟨w2, hw2, hb2, hs2, hA, hB⟩ := two_boxes w #[.slice a L.length cap, .int .i64 m, .int .i64 b] #[.slice none 0 0, .int .i64 0, .int .i64 0] 24 24
  obtain ⟨l1, l2, l3, l4, l5⟩ := hF.limits
  have HX := Lib.hid (show ∀ W, Below w2.heap.size w2 W → W.cell? ⟨w.heap.size, 0, none⟩ = some (.slice a L.length cap) ∧ W.cell? ⟨w.heap.size, 1, none⟩ = some (.int .i64 m) ∧ W.cell? ⟨w.heap.size, 2, none⟩ = some (.int .i64 b) from fun W hW => by
    have h := (hW.block w.heap.size (by omega)).trans hA
    exact ⟨blk_cell h 0, blk_cell h 1, blk_cell h 2⟩)
  have HR := Lib.hid (show ∀ W, Below w2.heap.size w2 W → W.heap[w.heap.size + 1]? = some (.cells #[.slice none 0 0, .int .i64 0, .int .i64 0] 24 (0, 0)) from fun W hW => (hW.block _ (by omega)).trans hB)
  have HM := Lib.hid (show ∀ W, Below w2.heap.size w2 W → NodesIn W a cap L from fun W hW => hN.below (hb2.trans (hW.mono (by omega))))
  have HB2 := Lib.hid hb2
  have HZ := Lib.hid hz
  have HF := Lib.hid hF
  have HBW2 := Lib.hid (Below.refl w2.heap.size w2)
  clear hz hN hb2 hA hB hF
  have HBW := HBW2
  cases hqv : modeB q with
  | false =>
    have HQ := Lib.hid hqv
    have hz2 := HZ.out
    unfold createW at hz2
    rw [if_pos hqv] at hz2
    simp only [Prod.mk.injEq] at hz2
    obtain ⟨rfl, rfl, rfl⟩ := hz2
    clear hqv
    go_enter Tryz.func26, Tryz.ntmps26
    obtain ⟨q0, q1, q2⟩ := HX.out _ HBW.out
    have hq := cell_lt q0
    have hRx := HR.out _ HBW.out
    have HRX := Lib.hid hRx
    have r0 := blk_cell hRx 0
    have r1 := blk_cell hRx 1
    have r2 := blk_cell hRx 2
    have s0 := blk_free hRx 0
    have s1 := blk_free hRx 1
    have s2 := blk_free hRx 2
    have hrl := lt_of_block hRx
    clear hRx
    go_wp2_with fail
    rw [← hw2]
    clear hw2
    refine (rmode5 _ _ HQ.out _).mono ?_
    rintro e w' ⟨rfl, rfl⟩
    go_wp2_with fail
    change bodyPost _ _ _ _ _ (put3 w2 (w.heap.size + 1) (.slice a L.length cap) (.int .i64 m) (.int .i64 b))
    obtain ⟨c0, c1, c2⟩ := put3_cells HRX.out (.slice a L.length cap) (.int .i64 m) (.int .i64 b)
    have hBF := put3_below (HB2.out.trans (HBW.out.mono (by omega))) (show w.heap.size ≤ w.heap.size + 1 by omega) (.slice a L.length cap) (.int .i64 m) (.int .i64 b)
    exact bodyPost_ret (v := .tuple #[.agg #[.slice a L.length cap, .int .i64 m, .int .i64 b], .int .i64 0, .int .i64 22]) (by simp [results, Tryz.results26, go_sem, c0, c1, c2]) rfl ⟨⟨_, _, rfl, nodes_put3 (HM.out _ HBW.out) HRX.out _ _ _⟩, hBF⟩
  | true =>
    have HQ := Lib.hid hqv
    have hz2 := HZ.out
    unfold createW at hz2
    rw [if_neg (by rw [hqv]; decide)] at hz2
    obtain ⟨⟨z, s, fe⟩, hf⟩ : ∃ r, freshW L cwd pb.data.toList false = r := ⟨_, rfl⟩
    rw [hf] at hz2
    have HFR := Lib.hid hf
    have HZ2 := Lib.hid hz2
    clear hqv hf hz2
    obtain ⟨q0, q1, q2⟩ := HX.out _ HBW.out
    have hq := cell_lt q0
    go_enter Tryz.func26, Tryz.ntmps26
    go_wp2_with fail
    rw [← hw2]
    clear hw2
    refine (rmode5 _ _ HQ.out _).mono ?_
    rintro e w' ⟨rfl, rfl⟩
    go_wp2_with fail
    clear q0 q1 q2 hq
    refine (rfresh_any _ _ _ _ _ _ hp false L HF.out _ _ _ HFR.out _ (HM.out _ HBW.out)).mono ?_
    rintro e w3 ⟨rfl, hb3⟩
    have HB3 := Lib.hid hb3
    have hs3 := hb3.size
    clear hb3
    obtain ⟨q0, q1, q2⟩ := HX.out _ HB3.out
    have hq := cell_lt q0
    have hRx := HR.out _ HB3.out
    have HRX := Lib.hid hRx
    have r0 := blk_cell hRx 0
    have r1 := blk_cell hRx 1
    have r2 := blk_cell hRx 2
    have s0 := blk_free hRx 0
    have s1 := blk_free hRx 1
    have s2 := blk_free hRx 2
    have hrl := lt_of_block hRx
    clear hRx
    by_cases h1 : fe = 0
    · subst h1
      have hz2 := HZ2.out
      rw [if_neg (by simp)] at hz2
      obtain ⟨d, s2', hd, -, hf2, hdir, -, hn, -⟩ := fresh_ok HF.out (by rw [HFR.out])
      rw [HFR.out] at hf2
      simp only [Prod.mk.injEq, and_true] at hf2
      obtain ⟨rfl, rfl⟩ := hf2
      have HZ3 := Lib.hid hz2
      have HN := Lib.hid hn
      have hkl : L[d].kids.length ≤ 1024 := (HF.out.ins d hd).2.1
      have hdk : L[d].kind ≠ 0 := by rw [hdir]; decide
      clear hz2 hn
      go_wp2_with fail
      refine (radded_any _ _ _ _ d s 1 q 0 [] 0 L hd (by omega) hkl HN.out hdk L' kz er HZ3.out _ (HM.out _ HB3.out)).mono ?_
      rintro e w5 ⟨⟨a', cap', he, hN5⟩, hb5⟩
      have he' : e = .returned (.tuple #[.agg #[.slice a' L'.length cap', .int .i64 m, .int .i64 b], .int .i64 kz, .int .i64 er]) := he
      subst he'
      have HB5 := Lib.hid (HB3.out.trans (hb5.mono HB3.out.size))
      have HN5 := Lib.hid hN5
      have hs5 := hb5.size
      clear he hN5 hb5
      clear q0 q1 q2 hq HRX r0 r1 r2 s0 s1 s2 hrl
      obtain ⟨q0, q1, q2⟩ := HX.out _ HB5.out
      have hq := cell_lt q0
      have hRx := HR.out _ HB5.out
      have HRX := Lib.hid hRx
      have r0 := blk_cell hRx 0
      have r1 := blk_cell hRx 1
      have r2 := blk_cell hRx 2
      have s0 := blk_free hRx 0
      have s1 := blk_free hRx 1
      have s2 := blk_free hRx 2
      have hrl := lt_of_block hRx
      clear hRx
      go_wp2_with fail
      change bodyPost _ _ _ _ _ (put3 w5 (w.heap.size + 1) (.slice a' L'.length cap') (.int .i64 m) (.int .i64 b))
      obtain ⟨c0, c1, c2⟩ := put3_cells HRX.out (.slice a' L'.length cap') (.int .i64 m) (.int .i64 b)
      have hBF := put3_below (HB2.out.trans (HB5.out.mono (by omega))) (show w.heap.size ≤ w.heap.size + 1 by omega) (.slice a' L'.length cap') (.int .i64 m) (.int .i64 b)
      exact bodyPost_ret (v := .tuple #[.agg #[.slice a' L'.length cap', .int .i64 m, .int .i64 b], .int .i64 kz, .int .i64 er]) (by simp [results, Tryz.results26, go_sem, c0, c1, c2]) rfl ⟨⟨_, _, rfl, nodes_put3 HN5.out HRX.out _ _ _⟩, hBF⟩
    · have hb1 : (fe != 0) = true := by simpa using h1
      have hz2 := HZ2.out
      rw [if_pos (by simpa using h1)] at hz2
      simp only [Prod.mk.injEq] at hz2
      obtain ⟨rfl, rfl, rfl⟩ := hz2
      go_wp2_with fail
      change bodyPost _ _ _ _ _ (put3 w3 (w.heap.size + 1) (.slice a L.length cap) (.int .i64 m) (.int .i64 b))
      obtain ⟨c0, c1, c2⟩ := put3_cells HRX.out (.slice a L.length cap) (.int .i64 m) (.int .i64 b)
      have hBF := put3_below (HB2.out.trans (HB3.out.mono (by omega))) (show w.heap.size ≤ w.heap.size + 1 by omega) (.slice a L.length cap) (.int .i64 m) (.int .i64 b)
      exact bodyPost_ret (v := .tuple #[.agg #[.slice a L.length cap, .int .i64 m, .int .i64 b], .int .i64 0, .int .i64 fe]) (by simp [results, Tryz.results26, go_sem, c0, c1, c2]) rfl ⟨⟨_, _, rfl, nodes_put3 (HM.out _ HB3.out) HRX.out _ _ _⟩, hBF⟩

end Go.Proofs.YtmaiphibpdngnaaGreat

namespace Go.Proofs.YtmaiphibpdngnaaGreat
set_option maxRecDepth 100000
open Go Go.RowKit

def firstP : List (Int × Bool) → Int
  | [] => 0
  | x :: r => if x.2 then x.1 else firstP r
theorem first_pairs : ∀ A : List Ask, firstW A = firstP (A.map fun x => (x.err, x.ans))
  | [] => rfl
  | x :: r => by show (if x.ans then x.err else firstW r) = if x.ans then x.err else _; rw [first_pairs r]
/-- What a call leaves that tells a row of questions. -/
def RowAns (P : List (Int × Bool)) (w : World) (e : Ending) (w' : World) : Prop :=
  ∃ (g : Nat) (A : List Ask), e = .returned (.slice (some ⟨g, 0, none⟩) A.length A.length) ∧ A.map (fun x => (x.err, x.ans)) = P ∧ A.length ≤ 10 ∧ Below w.heap.size w w' ∧
    (∀ i (hi : i < A.length), w'.cell? ⟨g, i * 2, none⟩ = some (.int .i64 A[i].err) ∧ w'.cell? ⟨g, i * 2 + 1, none⟩ = some (.func (.func A[i].fid) #[] A[i].lb)) ∧
    ∀ i (hi : i < A.length), (∀ args w, (callFunc A[i].fid args).run Tryz.prog w = .ok (.enter A[i].fid args) w) ∧ ∀ W, Below w'.heap.size w' W → Calls Tryz.prog A[i].fid A[i].lb W fun e w' => e = .returned (.bool A[i].ans) ∧ Below W.heap.size W w'
theorem row_first {A : List Ask} {P : List (Int × Bool)} (hP : A.map (fun x => (x.err, x.ans)) = P) (hl : A.length ≤ 10) (g : Nat) (w : World)
    (hc : ∀ i (hi : i < A.length), w.cell? ⟨g, i * 2, none⟩ = some (.int .i64 A[i].err) ∧ w.cell? ⟨g, i * 2 + 1, none⟩ = some (.func (.func A[i].fid) #[] A[i].lb))
    (hf : ∀ i (hi : i < A.length), (∀ args w, (callFunc A[i].fid args).run Tryz.prog w = .ok (.enter A[i].fid args) w) ∧ ∀ W, Below w.heap.size w W → Calls Tryz.prog A[i].fid A[i].lb W fun e w' => e = .returned (.bool A[i].ans) ∧ Below W.heap.size W w') :
    Calls Tryz.prog 46 #[.slice (some ⟨g, 0, none⟩) A.length A.length] w fun e w' => e = .returned (.int .i64 (firstP P)) ∧ Below w.heap.size w w' := by
  rw [← hP, ← first_pairs]
  exact lfirst_any A (by omega) g A.length (Nat.le_refl _) (by omega) w hc hf

/-- What drop tells, of the spot that nameAt tells. -/
def dropS (L : List Ino) (z k : Int) (s : List UInt8) (er0 : Int) (P : List (Int × Bool)) : List Ino × Int :=
  if er0 ≠ 0 then (L, er0) else if firstP P ≠ 0 then (L, firstP P) else (goneL L z.toNat k.toNat s, 0)

theorem takes_links {L : List Ino} {m b : Int} {d k : Nat} {s : List UInt8} (h : Takes L m b d k s) : 1 ≤ (L[k]'h.klt).links ∧ (L[k]'h.klt).links ≤ 4611686018427387904 := by
  obtain ⟨t1, t2, t3, t4⟩ := h.count
  have t5 := few_names h.fit k
  exact ⟨by omega, by omega⟩

set_option maxHeartbeats 8000000 in
theorem ldrop_any (a : Option Addr) (cap : Nat) (m b cwd : Int) (pb : ByteArray) (hp : pb.size ≤ 1073741824) (L : List Ino) (hF : FitP L m b) (z : Int) (s : List UInt8) (k : Int) (sl : Bool) (er0 : Int) (hsp : dnameS L cwd pb.data.toList = (z, s, k, sl, er0))
    (fid : FuncId) (lb : Array Value) (eg : ∀ args w, (callFunc fid args).run Tryz.prog w = .ok (.enter fid args) w) (P : List (Int × Bool)) (w : World) (hN : NodesIn w a cap L)
    (hrow : er0 = 0 → ∀ W, Below w.heap.size w W → Calls Tryz.prog fid (#[spotV z s k sl] ++ lb) W (RowAns P W))
    (hT : er0 = 0 → firstP P = 0 → ∃ zn kn : Nat, z = zn ∧ k = kn ∧ Takes L m b zn kn s) (L' : List Ino) (er : Int) (hz : dropS L z k s er0 P = (L', er)) :
    Calls Tryz.prog 29 #[.agg #[.slice a L.length cap, .int .i64 m, .int .i64 b], .int .i64 cwd, .string pb, .func (.func fid) #[] lb] w (RefAns w m b L' [.int .i64 er]) := by
  obtain ⟨w2, hw2, hb2, hs2, hA, hB⟩ := two_boxes w #[.slice a L.length cap, .int .i64 m, .int .i64 b] #[.slice none 0 0, .int .i64 0, .int .i64 0] 24 24
  obtain ⟨l1, l2, l3, l4, l5⟩ := hF.limits
  have hL0 : 0 < L.length := by omega
  have hL1 : L.length ≤ 256 := by omega
  have HA := Lib.hid (show ∀ W, Below w2.heap.size w2 W → TreeBx W w.heap.size a cap L.length m b from fun W hW => tree_block ((hW.block w.heap.size (by omega)).trans hA))
  have HR := Lib.hid (show ∀ W, Below w2.heap.size w2 W → W.heap[w.heap.size + 1]? = some (.cells #[.slice none 0 0, .int .i64 0, .int .i64 0] 24 (0, 0)) from fun W hW => (hW.block _ (by omega)).trans hB)
  have HSP := Lib.hid hsp
  have HF := Lib.hid hF
  have HN2 := Lib.hid (hN.below hb2)
  have HZ := Lib.hid hz
  have HROW := Lib.hid hrow
  have HT := Lib.hid hT
  have HB2 := Lib.hid hb2
  clear hsp hF hN hz hrow hT hb2 hA hB
  go_enter Tryz.func29, Tryz.ntmps29
  go_wp2_with fail
  rw [← hw2]
  clear hw2
  refine (lcopied_any a cap m b L hL0 (by omega) (fun x hx => by obtain ⟨j, hj, rfl⟩ := List.getElem_of_mem hx; have := (HF.out.ins j hj).2.1; omega) _ HN2.out).mono ?_
  rintro e w3 ⟨g, cap', vs, rfl, hO3, hb3⟩
  have hgb := hO3.hbase
  have hgl := hO3.nodes.lt
  have HO3 := Lib.hid hO3.refT
  have HB3 := Lib.hid hb3
  have hs3 := hb3.size
  obtain ⟨q0, q1, q2⟩ := HA.out _ hb3
  have hq := cell_lt q0
  clear hO3 hb3
  go_wp2_with fail
  obtain ⟨w4, hw4⟩ : ∃ w4, w4 = w3.alloc (.cells #[.slice (some ⟨g, 0, none⟩) L.length cap', .int .i64 m, .int .i64 b] 24) := ⟨_, rfl⟩
  have hb4 : Below w3.heap.size w3 w4 := by rw [hw4]; exact below_box w3 _
  have hM4 : w4.heap[w3.heap.size]? = some (.cells #[.slice (some ⟨g, 0, none⟩) L.length cap', .int .i64 m, .int .i64 b] 24 (0, 0)) := by rw [hw4]; exact new_block w3 _
  have hs4 : w4.heap.size = w3.heap.size + 1 := by rw [hw4]; simp
  rw [← hw4]
  clear hw4 q0 q1 q2 hq
  have HB4 := Lib.hid (HB3.out.trans (hb4.mono hs3))
  have HO4 := Lib.hid (HO3.out.below hb4)
  have HM4 := Lib.hid hM4
  clear hb4 hM4 HO3
  refine (lname_at_any _ _ _ _ _ _ hp L HF.out _ _ _ _ _ HSP.out _ (HN2.out.below HB4.out)).mono ?_
  rintro e w5 ⟨rfl, hb5⟩
  have HB5 := Lib.hid (HB4.out.trans (hb5.mono (by omega)))
  have HO5 := Lib.hid (HO4.out.below hb5)
  have HM5 := Lib.hid ((hb5.block w3.heap.size (by omega)).trans HM4.out)
  have hs5 := hb5.size
  unfold spotV
  clear hb5 HO4 HM4
  obtain ⟨w6, hw6⟩ : ∃ w6, w6 = w5.alloc (.cells #[.int .i64 z, .string ⟨s.toArray⟩, .int .i64 k, .bool sl] 62) := ⟨_, rfl⟩
  have hb6 : Below w5.heap.size w5 w6 := by rw [hw6]; exact below_box w5 _
  have hS6 : w6.heap[w5.heap.size]? = some (.cells #[.int .i64 z, .string ⟨s.toArray⟩, .int .i64 k, .bool sl] 62 (0, 0)) := by rw [hw6]; exact new_block w5 _
  have hs6 : w6.heap.size = w5.heap.size + 1 := by rw [hw6]; simp
  have HB6 := Lib.hid (HB5.out.trans (hb6.mono HB5.out.size))
  have HO6 := Lib.hid (HO5.out.below hb6)
  have HM6 := (hb6.block w3.heap.size (by omega)).trans HM5.out
  have HALL := Lib.hid (show ∀ W, Off g w6 W → W.heap[w.heap.size + 1]? = some (.cells #[.slice none 0 0, .int .i64 0, .int .i64 0] 24 (0, 0)) ∧ TreeBx W w3.heap.size (some ⟨g, 0, none⟩) cap' L.length m b ∧ SpotIn W w5.heap.size z s k sl ∧ Below w.heap.size w W from fun W hW =>
    ⟨(hW.block _ (by omega) (by omega)).trans (HR.out _ HB6.out), tree_block ((hW.block _ (by omega) (by omega)).trans HM6), spot_block ((hW.block _ (by omega) (by omega)).trans hS6), (HB2.out.trans (HB6.out.mono (by omega))).trans (hW.below (by omega) (by have := HB6.out.size; omega))⟩)
  clear hb6 hS6 HM6 HO5 HM5
  have HEND := Lib.hid (show ∀ W, Off g w6 W → ∀ (L2 : List Ino) (vs2 : List Value), L2.length = L.length → RefT W g cap' L2 vs2 → ∀ x y v, NodesIn (put3 W (w.heap.size + 1) x y v) (some ⟨g, 0, none⟩) cap' L2 ∧ Below w.heap.size w (put3 W (w.heap.size + 1) x y v) from fun W hW L2 vs2 _ hR x y v => ⟨nodes_put3 hR.nodesIn (HALL.out W hW).1 x y v, put3_below (HALL.out W hW).2.2.2 (by omega) x y v⟩)
  have hzz := HZ.out
  unfold dropS at hzz
  by_cases h0 : er0 = 0
  · subst h0
    rw [if_neg (by simp)] at hzz
    have HC6 := Lib.hid (HROW.out rfl w6 (HALL.out _ (Off.refl _ _)).2.2.2)
    unfold spotV at HC6
    rw [hw6] at HC6
    go_wp2_with fail
    refine HC6.out.mono ?_
    rintro e w7 ⟨ga, A, rfl, hP, hAl, hb7, hcs, hfs⟩
    rw [← hw6] at hb7
    have HC7 := Lib.hid (row_first hP hAl ga w7 hcs hfs)
    have HF7 := Lib.hid (show Off g w6 w7 from .of_below hb7)
    have HO7 := Lib.hid (HO6.out.below hb7)
    clear hP hAl hb7 hcs hfs hw6 HC6
    go_wp2_with fail
    refine HC7.out.mono ?_
    rintro e w8 ⟨rfl, hb8⟩
    have HF8 := Lib.hid (HF7.out.trans (.of_below hb8))
    have HO8 := Lib.hid (HO7.out.below hb8)
    clear hb8 HC7 HF7 HO7
    obtain ⟨hRx, ⟨m0, m1, m2⟩, ⟨x0, x1, x2, x3⟩, -⟩ := HALL.out _ HF8.out
    have HRX := Lib.hid hRx
    have r0 := blk_cell hRx 0
    have r1 := blk_cell hRx 1
    have r2 := blk_cell hRx 2
    have s0 := blk_free hRx 0
    have s1 := blk_free hRx 1
    have s2 := blk_free hRx 2
    have hrl := lt_of_block hRx
    have hml := cell_lt m0
    have hxl := cell_lt x0
    clear hRx
    obtain ⟨fp, hfp⟩ : ∃ fp, firstP P = fp := ⟨_, rfl⟩
    rw [hfp] at hzz
    rw [hfp]
    by_cases h1 : fp = 0
    · subst h1
      rw [if_neg (by simp)] at hzz
      simp only [Prod.mk.injEq] at hzz
      obtain ⟨hL2, rfl⟩ := hzz
      obtain ⟨zn, kn, rfl, rfl, htk⟩ := HT.out (by simp) hfp
      simp only [Int.toNat_natCast] at hL2
      have HL2 := Lib.hid hL2
      have hT9 := ltake_any g cap' zn kn m b s sl L vs htk.dlt htk.klt htk.ne (htk.fit.ins zn htk.dlt).2.1 (takes_links htk).1 (takes_links htk).2 w8 HO8.out
      rw [hL2] at hT9
      have HT9 := Lib.hid hT9
      clear hT9 hL2 hfp htk
      go_wp2_with fail
      refine HT9.out.mono ?_
      rintro e w9 ⟨rfl, ⟨vs9, hR9⟩, hO9⟩
      have HR9 := Lib.hid hR9
      have HF9 := Lib.hid (HF8.out.trans hO9)
      clear hR9 hO9 HT9 HRX r0 r1 r2 s0 s1 s2 hrl hml hxl m0 m1 m2 x0 x1 x2 x3
      obtain ⟨hRx, ⟨m0, m1, m2⟩, -, -⟩ := HALL.out _ HF9.out
      have HRX := Lib.hid hRx
      have r0 := blk_cell hRx 0
      have r1 := blk_cell hRx 1
      have r2 := blk_cell hRx 2
      have s0 := blk_free hRx 0
      have s1 := blk_free hRx 1
      have s2 := blk_free hRx 2
      have hrl := lt_of_block hRx
      have hml := cell_lt m0
      clear hRx
      go_wp2_with fail
      have hLl : L'.length = L.length := by rw [← HL2.out, gone_len]
      change bodyPost _ _ _ _ _ (put3 w9 (w.heap.size + 1) (.slice (some ⟨g, 0, none⟩) L.length cap') (.int .i64 m) (.int .i64 b))
      obtain ⟨c0, c1, c2⟩ := put3_cells HRX.out (.slice (some ⟨g, 0, none⟩) L.length cap') (.int .i64 m) (.int .i64 b)
      obtain ⟨hf1, hf2⟩ := HEND.out w9 HF9.out L' vs9 hLl HR9.out (.slice (some ⟨g, 0, none⟩) L.length cap') (.int .i64 m) (.int .i64 b)
      exact bodyPost_ret (v := .tuple #[.agg #[.slice (some ⟨g, 0, none⟩) L'.length cap', .int .i64 m, .int .i64 b], .int .i64 0]) (by simp [results, Tryz.results29, go_sem, c0, c1, c2, hLl]) rfl ⟨⟨_, _, rfl, hf1⟩, hf2⟩
    · rw [if_pos h1] at hzz
      simp only [Prod.mk.injEq] at hzz
      obtain ⟨rfl, rfl⟩ := hzz
      have hb1 : (fp == 0) = false := by simpa using h1
      clear hfp
      go_wp2_with fail
      change bodyPost _ _ _ _ _ (put3 w8 (w.heap.size + 1) (.slice (some ⟨g, 0, none⟩) L.length cap') (.int .i64 m) (.int .i64 b))
      obtain ⟨c0, c1, c2⟩ := put3_cells HRX.out (.slice (some ⟨g, 0, none⟩) L.length cap') (.int .i64 m) (.int .i64 b)
      obtain ⟨hf1, hf2⟩ := HEND.out w8 HF8.out L vs rfl HO8.out (.slice (some ⟨g, 0, none⟩) L.length cap') (.int .i64 m) (.int .i64 b)
      exact bodyPost_ret (v := .tuple #[.agg #[.slice (some ⟨g, 0, none⟩) L.length cap', .int .i64 m, .int .i64 b], .int .i64 fp]) (by simp [results, Tryz.results29, go_sem, c0, c1, c2]) rfl ⟨⟨_, _, rfl, hf1⟩, hf2⟩
  · rw [if_pos h0] at hzz
    simp only [Prod.mk.injEq] at hzz
    obtain ⟨rfl, rfl⟩ := hzz
    have hb0 : (er0 == 0) = false := by simpa using h0
    obtain ⟨hRx, ⟨m0, m1, m2⟩, -, -⟩ := HALL.out _ (Off.refl _ _)
    have HRX := Lib.hid hRx
    have r0 := blk_cell hRx 0
    have r1 := blk_cell hRx 1
    have r2 := blk_cell hRx 2
    have s0 := blk_free hRx 0
    have s1 := blk_free hRx 1
    have s2 := blk_free hRx 2
    have hrl := lt_of_block hRx
    have hml := cell_lt m0
    clear hRx
    rw [hw6] at r0 r1 r2 s0 s1 s2 hrl hml m0 m1 m2
    go_wp2_with fail
    rw [← hw6]
    change bodyPost _ _ _ _ _ (put3 w6 (w.heap.size + 1) (.slice (some ⟨g, 0, none⟩) L.length cap') (.int .i64 m) (.int .i64 b))
    obtain ⟨c0, c1, c2⟩ := put3_cells HRX.out (.slice (some ⟨g, 0, none⟩) L.length cap') (.int .i64 m) (.int .i64 b)
    obtain ⟨hf1, hf2⟩ := HEND.out w6 (Off.refl _ _) L vs rfl HO6.out (.slice (some ⟨g, 0, none⟩) L.length cap') (.int .i64 m) (.int .i64 b)
    exact bodyPost_ret (v := .tuple #[.agg #[.slice (some ⟨g, 0, none⟩) L.length cap', .int .i64 m, .int .i64 b], .int .i64 er0]) (by simp [results, Tryz.results29, go_sem, c0, c1, c2]) rfl ⟨⟨_, _, rfl, hf1⟩, hf2⟩
end Go.Proofs.YtmaiphibpdngnaaGreat

namespace Go.Proofs.YtmaiphibpdngnaaGreat
set_option maxRecDepth 100000
open Go Go.RowKit

def unlA (Bt Bs : Nat) (v sl : Bool) : List Ask := [⟨21, 31, #[.pointer (some ⟨Bt, 0, none⟩), .pointer (some ⟨Bs, 0, none⟩)], v⟩, ⟨20, 33, #[.pointer (some ⟨Bs, 0, none⟩)], sl⟩]
set_option maxHeartbeats 4000000 in
theorem lunl_row (Bt : Nat) (a : Option Addr) (cap : Nat) (m b : Int) (L : List Ino) (z : Int) (s : List UInt8) (k : Int) (sl : Bool) (v : Bool) (hv : dirB L k = v) (w : World) (hT : TreeBx w Bt a cap L.length m b) (hN : NodesIn w a cap L) :
    Calls Tryz.prog 30 #[spotV z s k sl, .pointer (some ⟨Bt, 0, none⟩)] w (RowAns [(21, v), (20, sl)] w) := by
  have HT := Lib.hid hT
  have HN := Lib.hid hN
  have HV := Lib.hid hv
  clear hT hN hv
  unfold spotV
  have hmf : ∀ (fn : Fn) (first cap : Array Value) (w : World), (Instr.makeFunc fn first cap).run Tryz.prog w = .ok (.func fn first cap) w := fun _ _ _ _ => rfl
  go_enter Tryz.func30, Tryz.ntmps30
  go_wp2_with fail
  go_ret
  obtain ⟨w2, hw2, hb2, hs2, hA, hB⟩ := two_boxes w #[.int .i64 z, .string ⟨s.toArray⟩, .int .i64 k, .bool sl] (askC (unlA Bt w.heap.size v sl)).toArray 62 66
  refine ⟨w.heap.size + 1, unlA Bt w.heap.size v sl, rfl, rfl, show 2 ≤ 10 by decide, ?_, fun i hi => ?_, fun i hi => ?_⟩
  · exact hw2 ▸ hb2
  · exact ask_block (A := unlA Bt w.heap.size v sl) (t := 66) (hw2 ▸ hB) i hi
  · have HALL : ∀ W, Below w2.heap.size w2 W → TreeBx W Bt a cap L.length m b ∧ SpotIn W w.heap.size z s k sl ∧ NodesIn W a cap L := fun W hW => ⟨HT.out.below (hb2.trans (hW.mono (by omega))), spot_block ((hW.block _ (by omega)).trans hA), HN.out.below (hb2.trans (hW.mono (by omega)))⟩
    rw [hw2] at HALL
    have hi3 : i < 2 := hi
    match i, hi3 with
    | 0, _ => exact ⟨enters_of Tryz.func31 (by kernel_rfl) rfl, fun V hV => cunl1 _ _ _ _ _ _ _ _ _ _ _ V (HALL V hV).1 (HALL V hV).2.2 (HALL V hV).2.1 v HV.out⟩
    | 1, _ => exact ⟨enters_of Tryz.func33 (by kernel_rfl) rfl, fun V hV => cunl2 _ _ _ _ _ V (HALL V hV).2.1⟩

def rmdA (Bt Bs Cc : Nat) (v u c : Bool) : List Ask := [⟨20, 39, #[.pointer (some ⟨Bt, 0, none⟩), .pointer (some ⟨Bs, 0, none⟩)], !v⟩, ⟨39, 40, #[.pointer (some ⟨Bt, 0, none⟩), .pointer (some ⟨Bs, 0, none⟩)], u⟩, ⟨22, 42, #[.pointer (some ⟨Bs, 0, none⟩), .pointer (some ⟨Cc, 0, none⟩)], c⟩]
set_option maxHeartbeats 4000000 in
theorem lrmd_row (Bt Cc : Nat) (a : Option Addr) (cap : Nat) (m b c : Int) (L : List Ino) (z : Int) (s : List UInt8) (kn : Nat) (hkl : kn < L.length) (sl : Bool) (v u : Bool) (hv : dirB L (kn : Int) = v) (hu : decide (0 < (nodeAt L (kn : Int)).kids.length) = u) (w : World) (hT : TreeBx w Bt a cap L.length m b) (hN : NodesIn w a cap L) (hc : w.cell? ⟨Cc, 0, none⟩ = some (.int .i64 c)) :
    Calls Tryz.prog 38 #[spotV z s kn sl, .pointer (some ⟨Bt, 0, none⟩), .pointer (some ⟨Cc, 0, none⟩)] w (RowAns [(20, !v), (39, u), (22, (kn : Int) == c)] w) := by
  have HT := Lib.hid hT
  have HN := Lib.hid hN
  have HV := Lib.hid hv
  have HU := Lib.hid hu
  have HC := Lib.hid hc
  clear hT hN hv hu hc
  unfold spotV
  have hmf : ∀ (fn : Fn) (first cap : Array Value) (w : World), (Instr.makeFunc fn first cap).run Tryz.prog w = .ok (.func fn first cap) w := fun _ _ _ _ => rfl
  go_enter Tryz.func38, Tryz.ntmps38
  go_wp2_with fail
  go_ret
  obtain ⟨w2, hw2, hb2, hs2, hA, hB⟩ := two_boxes w #[.int .i64 z, .string ⟨s.toArray⟩, .int .i64 kn, .bool sl] (askC (rmdA Bt w.heap.size Cc v u ((kn : Int) == c))).toArray 62 66
  refine ⟨w.heap.size + 1, rmdA Bt w.heap.size Cc v u ((kn : Int) == c), rfl, rfl, show 3 ≤ 10 by decide, ?_, fun i hi => ?_, fun i hi => ?_⟩
  · exact hw2 ▸ hb2
  · exact ask_block (A := rmdA Bt w.heap.size Cc v u ((kn : Int) == c)) (t := 66) (hw2 ▸ hB) i hi
  · have HALL : ∀ W, Below w2.heap.size w2 W → TreeBx W Bt a cap L.length m b ∧ SpotIn W w.heap.size z s kn sl ∧ NodesIn W a cap L ∧ W.cell? ⟨Cc, 0, none⟩ = some (.int .i64 c) := fun W hW => ⟨HT.out.below (hb2.trans (hW.mono (by omega))), spot_block ((hW.block _ (by omega)).trans hA), HN.out.below (hb2.trans (hW.mono (by omega))), cell_below (hb2.trans (hW.mono (by omega))) HC.out⟩
    rw [hw2] at HALL
    have hi3 : i < 3 := hi
    match i, hi3 with
    | 0, _ => exact ⟨enters_of Tryz.func39 (by kernel_rfl) rfl, fun V hV => crmd1 _ _ _ _ _ _ _ _ _ _ _ V (HALL V hV).1 (HALL V hV).2.2.1 (HALL V hV).2.1 v HV.out⟩
    | 1, _ => exact ⟨enters_of Tryz.func40 (by kernel_rfl) rfl, fun V hV => crmd2 _ _ _ _ _ _ _ _ _ _ _ kn rfl hkl V (HALL V hV).1 (HALL V hV).2.2.1 (HALL V hV).2.1 u HU.out⟩
    | 2, _ => exact ⟨enters_of Tryz.func42 (by kernel_rfl) rfl, fun V hV => crmd3 _ _ _ _ _ _ _ V (HALL V hV).2.1 (HALL V hV).2.2.2⟩

def movA (Bt Bf Bs Cd : Nat) (_dd n v l r : Bool) : List Ask := [⟨22, 79, #[.pointer (some ⟨Bs, 0, none⟩)], !n⟩, ⟨13, 81, #[.pointer (some ⟨Bt, 0, none⟩), .pointer (some ⟨Bs, 0, none⟩)], !v⟩, ⟨20, 82, #[.pointer (some ⟨Cd, 0, none⟩), .pointer (some ⟨Bf, 0, none⟩), .pointer (some ⟨Bs, 0, none⟩)], l⟩, ⟨22, 83, #[.pointer (some ⟨Cd, 0, none⟩), .pointer (some ⟨Bt, 0, none⟩), .pointer (some ⟨Bs, 0, none⟩), .pointer (some ⟨Bf, 0, none⟩)], r⟩]
set_option maxHeartbeats 4000000 in
theorem lmov_row (a : Option Addr) (cap : Nat) (m b : Int) (L : List Ino) (hF : FitP L m b) (z : Int) (s : List UInt8) (k : Int) (sl : Bool) (to : Int) (last : List UInt8) (ino : Int) (sl2 : Bool) (hto : dirB L to = true) (dd n v i4 : Bool) (hdd : dirB L k = dd) (hn : nameOkL last = n) (hv : mayL L to 3 = v) (hi4 : withinB L L.length to k = i4) (w : World) (hN : NodesIn w a cap L) :
    Calls Tryz.prog 47 #[.agg #[.slice a L.length cap, .int .i64 m, .int .i64 b], spotV z s k sl, spotV to last ino sl2] w (RowAns [(22, !n), (13, !v), (20, !dd && (sl || sl2)), (22, dd && i4)] w) := by
  obtain ⟨w2, hw2, hb2, hs2, hA, hB, hC⟩ := three_boxes w #[.slice a L.length cap, .int .i64 m, .int .i64 b] #[.int .i64 z, .string ⟨s.toArray⟩, .int .i64 k, .bool sl] #[.int .i64 to, .string ⟨last.toArray⟩, .int .i64 ino, .bool sl2] 24 62 62
  have HALL := Lib.hid (show ∀ W, Below w2.heap.size w2 W → TreeBx W w.heap.size a cap L.length m b ∧ SpotIn W (w.heap.size + 1) z s k sl ∧ SpotIn W (w.heap.size + 2) to last ino sl2 ∧ NodesIn W a cap L from fun W hW => ⟨tree_block ((hW.block _ (by omega)).trans hA), spot_block ((hW.block _ (by omega)).trans hB), spot_block ((hW.block _ (by omega)).trans hC), hN.below (hb2.trans (hW.mono (by omega)))⟩)
  have HB2 := Lib.hid hb2
  have HF := Lib.hid hF
  have HTO := Lib.hid hto
  have HD := Lib.hid hdd
  have HNM := Lib.hid hn
  have HV := Lib.hid hv
  have HI := Lib.hid hi4
  obtain ⟨⟨q0, q1, q2⟩, ⟨x0, x1, x2, x3⟩, -, hN2⟩ := HALL.out _ (Below.refl _ _)
  have gq := cell_lt q0
  have gx := cell_lt x0
  have HN2 := Lib.hid hN2
  clear hN hb2 hA hB hC hF hto hdd hn hv hi4 hN2
  unfold spotV
  have hmf : ∀ (fn : Fn) (first cap : Array Value) (w : World), (Instr.makeFunc fn first cap).run Tryz.prog w = .ok (.func fn first cap) w := fun _ _ _ _ => rfl
  go_enter Tryz.func47, Tryz.ntmps47
  go_wp2_with fail
  rw [← hw2]
  clear hw2
  refine (ldisdir_known a cap m b _ L _ HD.out _ HN2.out).mono ?_
  rintro e w3 ⟨rfl, hb3⟩
  have HB3 := Lib.hid hb3
  have hs3 := hb3.size
  clear hb3 q0 q1 q2 x0 x1 x2 x3 gq gx
  go_wp2_with fail
  go_ret
  obtain ⟨w5, hw5, hb5, hs5, hA, hB⟩ := two_boxes w3 #[.bool dd] (askC (movA w.heap.size (w.heap.size + 1) (w.heap.size + 2) w3.heap.size dd n v (!dd && (sl || sl2)) (dd && i4))).toArray 4 66
  refine ⟨w3.heap.size + 1, movA w.heap.size (w.heap.size + 1) (w.heap.size + 2) w3.heap.size dd n v (!dd && (sl || sl2)) (dd && i4), rfl, rfl, show 4 ≤ 10 by decide, ?_, fun i hi => ?_, fun i hi => ?_⟩
  · have h := HB2.out.trans ((HB3.out.trans (hb5.mono hs3)).mono (by omega))
    exact hw5 ▸ h
  · exact ask_block (A := movA w.heap.size (w.heap.size + 1) (w.heap.size + 2) w3.heap.size dd n v (!dd && (sl || sl2)) (dd && i4)) (t := 66) (hw5 ▸ hB) i hi
  · have HX : ∀ W, Below w5.heap.size w5 W → (TreeBx W w.heap.size a cap L.length m b ∧ SpotIn W (w.heap.size + 1) z s k sl ∧ SpotIn W (w.heap.size + 2) to last ino sl2 ∧ NodesIn W a cap L) ∧ W.cell? ⟨w3.heap.size, 0, none⟩ = some (.bool dd) := fun W hW => ⟨HALL.out W (HB3.out.trans ((hb5.trans (hW.mono (by omega))).mono hs3)), blk_cell ((hW.block _ (by omega)).trans hA) 0⟩
    rw [hw5] at HX
    have hi3 : i < 4 := hi
    match i, hi3 with
    | 0, _ => exact ⟨enters_of Tryz.func79 (by kernel_rfl) rfl, fun V hV => cmov1 _ _ _ _ _ V (HX V hV).1.2.2.1 n HNM.out⟩
    | 1, _ => exact ⟨enters_of Tryz.func81 (by kernel_rfl) rfl, fun V hV => cmov2 _ _ _ _ _ L HF.out _ _ _ _ _ V (HX V hV).1.1 (HX V hV).1.2.2.2 (HX V hV).1.2.2.1 v HV.out⟩
    | 2, _ => exact ⟨enters_of Tryz.func82 (by kernel_rfl) rfl, fun V hV => cmov3 _ dd _ _ _ _ _ _ _ _ _ _ V (HX V hV).2 (HX V hV).1.2.1 (HX V hV).1.2.2.1⟩
    | 3, _ => exact ⟨enters_of Tryz.func83 (by kernel_rfl) rfl, fun V hV => cmov4 _ dd _ _ _ _ _ L HF.out _ _ _ _ _ HTO.out _ _ _ _ _ V (HX V hV).2 (HX V hV).1.1 (HX V hV).1.2.2.2 (HX V hV).1.2.2.1 (HX V hV).1.2.1 i4 HI.out⟩
end Go.Proofs.YtmaiphibpdngnaaGreat

namespace Go.Proofs.YtmaiphibpdngnaaGreat
set_option maxRecDepth 100000
open Go Go.RowKit

/-- A name that is there and may go: its directory, it, its inode, the error. -/
def namedW (L : List Ino) (cwd : Int) (p : List UInt8) : Int × List UInt8 × Int × Int :=
  if (parentW L cwd p).2.2 ≠ 0 then (0, [], 0, (parentW L cwd p).2.2) else
  if (parentW L cwd p).2.1 = [46] ∨ (parentW L cwd p).2.1 = [46, 46] then (0, [], 0, 22) else
  if kidL L (parentW L cwd p).1 (parentW L cwd p).2.1 < 0 then (0, [], 0, 2) else
  if mayL L (parentW L cwd p).1 3 = false then (0, [], 0, 13) else
  ((parentW L cwd p).1, (parentW L cwd p).2.1, kidL L (parentW L cwd p).1 (parentW L cwd p).2.1, 0)
def unlinkW (L : List Ino) (cwd : Int) (p : List UInt8) : List Ino × Int :=
  if (namedW L cwd p).2.2.2 ≠ 0 then (L, (namedW L cwd p).2.2.2) else
  if dirB L (namedW L cwd p).2.2.1 = true then (L, 21) else
  if endL p = true then (L, 20) else
  (goneL L (namedW L cwd p).1.toNat (namedW L cwd p).2.2.1.toNat (namedW L cwd p).2.1, 0)
def rmdirW (L : List Ino) (cwd : Int) (p : List UInt8) : List Ino × Int :=
  if (namedW L cwd p).2.2.2 ≠ 0 then (L, (namedW L cwd p).2.2.2) else
  if dirB L (namedW L cwd p).2.2.1 = false then (L, 20) else
  if 0 < (nodeAt L (namedW L cwd p).2.2.1).kids.length then (L, 39) else
  if (namedW L cwd p).2.2.1 = cwd then (L, 22) else
  (goneL L (namedW L cwd p).1.toNat (namedW L cwd p).2.2.1.toNat (namedW L cwd p).2.1, 0)
/-- The error of a name that is there already. -/
def overW (L : List Ino) (cwd k t : Int) : Int :=
  if dirB L k = true ∧ dirB L t = false then 20 else
  if dirB L k = false ∧ dirB L t = true then 21 else
  if dirB L t = true ∧ 0 < (nodeAt L t).kids.length then 39 else
  if dirB L t = true ∧ t = cwd then 22 else 0
/-- The move itself: d, s, k, and the new name's directory, it, and what has it. -/
def placeW (L : List Ino) (cwd : Int) (d : Int) (s : List UInt8) (k : Int) (to : Int) (last : List UInt8) (t : Int) : List Ino × Int :=
  if t = k then (L, 0) else
  if 0 ≤ t then (if overW L cwd k t ≠ 0 then (L, overW L cwd k t) else (moveL (goneL L to.toNat t.toNat last) d.toNat k.toNat to.toNat s last, 0)) else
  if 1024 ≤ (nodeAt L to).kids.length then (L, 28) else (moveL L d.toNat k.toNat to.toNat s last, 0)
def renameW (L : List Ino) (cwd : Int) (old p : List UInt8) : List Ino × Int :=
  if (namedW L cwd old).2.2.2 ≠ 0 then (L, (namedW L cwd old).2.2.2) else
  if (parentW L cwd p).2.2 ≠ 0 then (L, (parentW L cwd p).2.2) else
  if nameOkL (parentW L cwd p).2.1 = false then (L, 22) else
  if mayL L (parentW L cwd p).1 3 = false then (L, 13) else
  if dirB L (namedW L cwd old).2.2.1 = false ∧ (endL p = true ∨ endL old = true) then (L, 20) else
  if dirB L (namedW L cwd old).2.2.1 = true ∧ withinB L L.length (parentW L cwd p).1 (namedW L cwd old).2.2.1 = true then (L, 22) else
  placeW L cwd (namedW L cwd old).1 (namedW L cwd old).2.1 (namedW L cwd old).2.2.1 (parentW L cwd p).1 (parentW L cwd p).2.1 (kidL L (parentW L cwd p).1 (parentW L cwd p).2.1)

theorem parent_ok {L : List Ino} {cwd : Int} {p : List UInt8} (h : (parentW L cwd p).2.2 = 0) : dirB L cwd = true ∧ dirB L (parentW L cwd p).1 = true := by
  unfold parentW at h ⊢
  split at h
  · rename_i g1; exact absurd h g1
  · rename_i g1
    rw [if_neg g1]
    have hc : dirB L cwd = true := by
      have g2 : badW L cwd p = 0 := by simpa using g1
      unfold badW at g2
      split at g2
      · exact absurd g2 (by decide)
      · rename_i g3
        simpa using fun e => g3 (Or.inr e)
    split at h
    · exact absurd h (by decide)
    · rename_i g2
      rw [if_neg g2]
      split at h
      · rename_i g3; exact absurd h g3
      · rename_i g3
        rw [if_neg g3]
        split at h
        · exact absurd h (by decide)
        · rename_i g4
          rw [if_neg g4]
          exact ⟨hc, by simpa using g4⟩
theorem kid_mem {L : List Ino} {d : Nat} (hd : d < L.length) {s : List UInt8} (h : 0 ≤ kidL L (d : Int) s) : (s, kidL L (d : Int) s) ∈ L[d].kids := by
  have hf : ∀ M : List (List UInt8 × Int), 0 ≤ findK M s → (s, findK M s) ∈ M := fun M => by
    induction M with
    | nil => intro h; exact absurd h (show ¬ (0 : Int) ≤ -1 by decide)
    | cons e r ih =>
      intro h
      unfold findK at h ⊢
      by_cases e1 : e.1 = s
      · rw [if_pos e1]
        rw [← e1]
        exact List.mem_cons_self
      · rw [if_neg e1] at h ⊢
        exact List.mem_cons_of_mem _ (ih h)
  unfold kidL at h ⊢
  by_cases hdir : dirB L (d : Int) = true
  · rw [if_pos hdir] at h ⊢
    rw [node_nat L d hd] at h ⊢
    exact hf _ h
  · rw [if_neg hdir] at h
    exact absurd h (by decide)
/-- A name that is there and may go. -/
structure NameAt (L : List Ino) (m b : Int) (cwd : Int) (p : List UInt8) (d k : Nat) (s : List UInt8) : Prop where
  fit : FitP L m b
  par : parentW L cwd p = ((d : Int), s, 0)
  nam : namedW L cwd p = ((d : Int), s, (k : Int), 0)
  cwd : dirB L cwd = true
  dlt : d < L.length
  klt : k < L.length
  kid : kidL L (d : Int) s = (k : Int)
  mem : (s, (k : Int)) ∈ L[d].kids
  may : mayL L (d : Int) 3 = true
  ndot : s ≠ [46] ∧ s ≠ [46, 46]
theorem named_ok {L : List Ino} {m b : Int} (hF : FitP L m b) {cwd : Int} {p : List UInt8} (h : (namedW L cwd p).2.2.2 = 0) : ∃ d k s, NameAt L m b cwd p d k s := by
  unfold namedW at h
  split at h
  · rename_i h1; exact absurd h h1
  rename_i h1
  split at h
  · exact absurd h (by decide)
  rename_i h2
  split at h
  · exact absurd h (by decide)
  rename_i h3
  split at h
  · exact absurd h (by decide)
  rename_i h4
  have h1' : (parentW L cwd p).2.2 = 0 := by simpa using h1
  obtain ⟨hc, hd⟩ := parent_ok h1'
  obtain ⟨d, hde, hdl⟩ := dir_lt hd
  have hk0 : 0 ≤ kidL L (d : Int) (parentW L cwd p).2.1 := by rw [← hde]; omega
  obtain ⟨k, hk, hkl⟩ := there_nat (live_there (kid_live hF hk0))
  have hm := kid_mem hdl hk0
  rw [hk] at hm
  have hp : parentW L cwd p = ((d : Int), (parentW L cwd p).2.1, 0) := Prod.ext hde (Prod.ext rfl h1')
  refine ⟨d, k, (parentW L cwd p).2.1, hF, hp, ?_, hc, hdl, hkl, hk, hm, by rw [← hde]; simpa using h4, fun e => h2 (Or.inl e), fun e => h2 (Or.inr e)⟩
  unfold namedW
  rw [if_neg h1, if_neg h2, if_neg h3, if_neg h4, hde, hk]
section
variable {L : List Ino} {m b : Int} {cwd : Int} {p : List UInt8} {d k : Nat} {s : List UInt8}
theorem NameAt.takes (h : NameAt L m b cwd p d k s) (he : (L[k]'h.klt).kids = []) : Takes L m b d k s := ⟨h.fit, h.dlt, h.klt, h.mem, he⟩
theorem file_empty {L : List Ino} {m b : Int} (hF : FitP L m b) {k : Nat} (hk : k < L.length) (h : dirB L (k : Int) = false) : L[k].kids = [] := by
  cases hc : L[k].kids with
  | nil => rfl
  | cons e r =>
    have h1 := dir_of_kids (hF.ins k hk).1 (by rw [hc]; exact List.cons_ne_nil _ _)
    rw [(dir_nat hk).2 h1] at h
    cases h
end

/-- What Unlink and Rmdir tell, where they tell no error. -/
theorem unlink_ok {L : List Ino} {m b : Int} (hF : FitP L m b) {cwd : Int} {p : List UInt8} {L' : List Ino} {e : Int} (hz : unlinkW L cwd p = (L', e)) :
    (e = 0 → ∃ d k s, NameAt L m b cwd p d k s ∧ Takes L m b d k s ∧ dirB L (k : Int) = false ∧ endL p = false ∧ L' = goneL L d k s) ∧ (e ≠ 0 → L' = L) := by
  unfold unlinkW at hz
  by_cases h0 : (namedW L cwd p).2.2.2 = 0
  · rw [if_neg (by simpa using h0)] at hz
    obtain ⟨d, k, s, h⟩ := named_ok hF h0
    rw [h.nam] at hz
    simp only [Int.toNat_natCast] at hz
    split at hz
    · cases hz; exact ⟨fun e => absurd e (by decide), fun _ => rfl⟩
    · rename_i h1
      split at hz
      · cases hz; exact ⟨fun e => absurd e (by decide), fun _ => rfl⟩
      · rename_i h2
        cases hz
        have h1' : dirB L (k : Int) = false := by simpa using h1
        exact ⟨fun _ => ⟨d, k, s, h, h.takes (file_empty hF h.klt h1'), h1', by simpa using h2, rfl⟩, fun e => absurd rfl e⟩
  · rw [if_pos h0] at hz
    cases hz
    exact ⟨fun e => absurd e h0, fun _ => rfl⟩
theorem rmdir_ok {L : List Ino} {m b : Int} (hF : FitP L m b) {cwd : Int} {p : List UInt8} {L' : List Ino} {e : Int} (hz : rmdirW L cwd p = (L', e)) :
    (e = 0 → ∃ d k s, NameAt L m b cwd p d k s ∧ Takes L m b d k s ∧ L' = goneL L d k s) ∧ (e ≠ 0 → L' = L) := by
  unfold rmdirW at hz
  by_cases h0 : (namedW L cwd p).2.2.2 = 0
  · rw [if_neg (by simpa using h0)] at hz
    obtain ⟨d, k, s, h⟩ := named_ok hF h0
    rw [h.nam] at hz
    simp only [Int.toNat_natCast] at hz
    split at hz
    · cases hz; exact ⟨fun e => absurd e (by decide), fun _ => rfl⟩
    · split at hz
      · cases hz; exact ⟨fun e => absurd e (by decide), fun _ => rfl⟩
      · rename_i h2
        split at hz
        · cases hz; exact ⟨fun e => absurd e (by decide), fun _ => rfl⟩
        · cases hz
          refine ⟨fun _ => ⟨d, k, s, h, h.takes ?_, rfl⟩, fun e => absurd rfl e⟩
          rw [node_nat L k h.klt] at h2
          exact List.length_eq_zero_iff.1 (by omega)
  · rw [if_pos h0] at hz
    cases hz
    exact ⟨fun e => absurd e h0, fun _ => rfl⟩

/-- Where a name went, the way up is the same. -/
theorem Takes.ups {L : List Ino} {m b : Int} {d k : Nat} {s : List UInt8} (h : Takes L m b d k s) {c : Int} (hc : dirB L c = true) (hck : c ≠ (k : Int)) : ∀ i, upN (goneL L d k s) i c = upN L i c ∧ upN L i c ≠ (k : Int)
  | 0 => ⟨rfl, hck⟩
  | i + 1 => by
    obtain ⟨h1, h2⟩ := Takes.ups h hc hck i
    have h3 := ups_of h.fit i c hc
    rw [up_next, up_next, h1]
    refine ⟨(h.isdir (h.dirs h3 h2)).2.2, ?_⟩
    by_cases h0 : upN L i c = 0
    · rw [h0, h.fit.rootUp]
      have := h.k0
      omega
    · exact h.upk h3 h0
theorem moves_of {L : List Ino} {m b : Int} {cwd : Int} {p : List UInt8} {d k : Nat} {s : List UInt8} (h : NameAt L m b cwd p d k s) {to : Nat} {last : List UInt8} (ht : to < L.length) (hdir : dirB L (to : Int) = true) (hname : nameOkL last = true) (hw : ¬ (dirB L (k : Int) = true ∧ withinB L L.length (to : Int) (k : Int) = true)) :
    (¬ 0 ≤ kidL L (to : Int) last → L[to].kids.length < 1024 → Moves L m b d k to s last) ∧ (∀ tn, Takes L m b to tn last → tn ≠ k → Moves (goneL L to tn last) m b d k to s last) := by
  have hk0 : k ≠ 0 := fun e => name_pos h.fit h.dlt h.mem (by show (k : Int) = 0; omega)
  have hout : dirB L (k : Int) = true → ∀ i, upN L i (to : Int) ≠ (k : Int) := fun hd => by
    have hf : withinB L L.length (to : Int) (k : Int) = false := by
      cases hc : withinB L L.length (to : Int) (k : Int) with
      | false => rfl
      | true => exact absurd ⟨hd, hc⟩ hw
    obtain ⟨j, hj, hjl⟩ := rank_of h.fit hdir
    exact within_no h.fit.rootUp (by omega) j L.length _ hj hjl hf
  refine ⟨fun hn hr => ⟨h.fit, h.dlt, h.klt, ht, h.mem, (dir_nat ht).1 hdir, hname, kid_new h.fit ht hn, hr, fun e => hout ((dir_nat h.klt).2 e)⟩, fun tn hT hne => ?_⟩
  have hd' : d < (goneL L to tn last).length := by rw [gone_len]; exact h.dlt
  have hk' : k < (goneL L to tn last).length := by rw [gone_len]; exact h.klt
  have ht' : to < (goneL L to tn last).length := by rw [gone_len]; exact ht
  have hsl : d = to → s ≠ last := fun e e2 => by
    have h1 := (kids_rise h.fit.ins to ht).2
    have h2 := h.mem
    have h3 := hT.mem
    subst e e2
    obtain ⟨i, hi, e1⟩ := List.getElem_of_mem h2
    obtain ⟨j, hj, e2⟩ := List.getElem_of_mem h3
    have h4 := kid_of h.fit d h.dlt i hi
    have h5 := kid_of h.fit d h.dlt j hj
    rw [e1] at h4
    rw [e2] at h5
    simp only at h4 h5
    rw [h4] at h5
    exact hne (by omega)
  have hkt : ∀ j (hj : j < L.length), (goneL L to tn last)[j]'(by rw [gone_len]; exact hj) = nodeAt (goneL L to tn last) (j : Int) := fun j hj => (node_nat _ j (by rw [gone_len]; exact hj)).symm
  refine ⟨hT.fits, hd', hk', ht', ?_, ?_, hname, ?_, ?_, fun e i => ?_⟩
  · rw [hkt d h.dlt, hT.kids d h.dlt]
    by_cases e : to = d
    · rw [if_pos e]
      exact without_mem.2 ⟨h.mem, hsl e.symm⟩
    · rw [if_neg e]
      exact h.mem
  · rw [← dir_nat ht']
    exact hT.dirs hdir (by have := hT.ne; omega)
  · rw [hkt to ht, hT.kids to ht, if_pos rfl]
    exact without_new
  · rw [hkt to ht, hT.kids to ht, if_pos rfl]
    have h1 := without_len hT.rises hT.mem
    have h2 := (h.fit.ins to ht).2.1
    omega
  · rw [(hT.ups hdir (by have := hT.ne; omega) i).1]
    refine hout ?_ i
    have h1 := (dir_nat hk').2 e
    exact (hT.isdir h1).1
theorem over_takes {L : List Ino} {m b : Int} (hF : FitP L m b) {cwd k : Int} {to tn : Nat} {last : List UInt8} (ht : to < L.length) (hn : tn < L.length) (hkid : kidL L (to : Int) last = (tn : Int)) (ho : overW L cwd k (tn : Int) = 0) : Takes L m b to tn last := by
  have hm := kid_mem ht (s := last) (by omega)
  rw [hkid] at hm
  refine ⟨hF, ht, hn, hm, ?_⟩
  cases hd : dirB L (tn : Int) with
  | false => exact file_empty hF hn hd
  | true =>
    unfold overW at ho
    split at ho
    · exact absurd ho (by decide)
    split at ho
    · exact absurd ho (by decide)
    split at ho
    · exact absurd ho (by decide)
    rename_i h3
    rw [node_nat L tn hn] at h3
    refine List.length_eq_zero_iff.1 ?_
    have : ¬ 0 < L[tn].kids.length := fun h => h3 ⟨hd, h⟩
    omega
/-- What Rename tells. -/
theorem rename_ok {L : List Ino} {m b : Int} (hF : FitP L m b) {cwd : Int} {old p : List UInt8} {L' : List Ino} {e : Int} (hz : renameW L cwd old p = (L', e)) :
    (e = 0 → ∃ d k s to last, NameAt L m b cwd old d k s ∧ parentW L cwd p = (((to : Nat) : Int), last, 0) ∧ to < L.length ∧ dirB L (to : Int) = true ∧ nameOkL last = true ∧
      ((kidL L (to : Int) last = (k : Int) ∧ L' = L) ∨ (∃ tn : Nat, tn < L.length ∧ kidL L (to : Int) last = (tn : Int) ∧ tn ≠ k ∧ Takes L m b to tn last ∧ Moves (goneL L to tn last) m b d k to s last ∧ L' = moveL (goneL L to tn last) d k to s last) ∨
        (kidL L (to : Int) last < 0 ∧ Moves L m b d k to s last ∧ L' = moveL L d k to s last))) ∧ (e ≠ 0 → L' = L) := by
  unfold renameW at hz
  by_cases h0 : (namedW L cwd old).2.2.2 = 0
  · rw [if_neg (by simpa using h0)] at hz
    obtain ⟨d, k, s, h⟩ := named_ok hF h0
    rw [h.nam] at hz
    simp only at hz
    by_cases h1 : (parentW L cwd p).2.2 = 0
    · rw [if_neg (by simpa using h1)] at hz
      have hdir := (parent_ok h1).2
      obtain ⟨⟨tz, last, pe⟩, hp⟩ : ∃ r, parentW L cwd p = r := ⟨_, rfl⟩
      rw [hp] at hz hdir h1
      simp only at hz hdir h1
      subst h1
      obtain ⟨to, rfl, ht⟩ := dir_lt hdir
      split at hz
      · cases hz; exact ⟨fun e => absurd e (by decide), fun _ => rfl⟩
      rename_i hname
      split at hz
      · cases hz; exact ⟨fun e => absurd e (by decide), fun _ => rfl⟩
      split at hz
      · cases hz; exact ⟨fun e => absurd e (by decide), fun _ => rfl⟩
      split at hz
      · cases hz; exact ⟨fun e => absurd e (by decide), fun _ => rfl⟩
      rename_i hw
      have hname' : nameOkL last = true := by simpa using hname
      obtain ⟨hm1, hm2⟩ := moves_of h ht hdir hname' hw
      unfold placeW at hz
      split at hz
      · rename_i hkk
        cases hz
        exact ⟨fun _ => ⟨d, k, s, to, last, h, hp, ht, hdir, hname', .inl ⟨hkk, rfl⟩⟩, fun e => absurd rfl e⟩
      rename_i hkk
      split at hz
      · rename_i h5
        obtain ⟨tn, htn, htl⟩ := there_nat (live_there (kid_live hF h5))
        rw [htn] at hz hkk
        split at hz
        · rename_i h6
          cases hz
          exact ⟨fun e => absurd e h6, fun _ => rfl⟩
        · rename_i h6
          cases hz
          simp only [Int.toNat_natCast]
          have hT := over_takes hF ht htl htn (by simpa using h6)
          exact ⟨fun _ => ⟨d, k, s, to, last, h, hp, ht, hdir, hname', .inr (.inl ⟨tn, htl, htn, by omega, hT, hm2 tn hT (by omega), rfl⟩)⟩, fun e => absurd rfl e⟩
      · rename_i h5
        split at hz
        · cases hz; exact ⟨fun e => absurd e (by decide), fun _ => rfl⟩
        · rename_i h6
          cases hz
          simp only [Int.toNat_natCast]
          rw [node_nat L to ht] at h6
          exact ⟨fun _ => ⟨d, k, s, to, last, h, hp, ht, hdir, hname', .inr (.inr ⟨by omega, hm1 h5 (by omega), rfl⟩)⟩, fun e => absurd rfl e⟩
    · rw [if_pos h1] at hz
      cases hz
      exact ⟨fun e => absurd e h1, fun _ => rfl⟩
  · rw [if_pos h0] at hz
    cases hz
    exact ⟨fun e => absurd e h0, fun _ => rfl⟩
end Go.Proofs.YtmaiphibpdngnaaGreat

namespace Go.Proofs.YtmaiphibpdngnaaGreat
set_option maxRecDepth 100000
open Go Go.RowKit

theorem parse_kid {L : List Ino} {m b : Int} (hF : FitP L m b) {d : Int} {s : List UInt8} : (kidL L d s == -1) = true ↔ kidL L d s < 0 := by
  rw [beq_iff_eq]
  exact ⟨fun e => by omega, fun e => kid_neg hF e⟩
/-- What nameAt tells is what the chapter says. -/
theorem dname_named {L : List Ino} {m b : Int} (hF : FitP L m b) {cwd : Int} {p : List UInt8} {z : Int} {s : List UInt8} {k : Int} {sl : Bool} {er0 : Int} (h : dnameS L cwd p = (z, s, k, sl, er0)) :
    er0 = (namedW L cwd p).2.2.2 ∧ (er0 = 0 → ∃ d kn : Nat, NameAt L m b cwd p d kn s ∧ z = (d : Int) ∧ k = (kn : Int) ∧ sl = endL p) := by
  have he : er0 = (namedW L cwd p).2.2.2 := by
    have h1 : er0 = (dnameS L cwd p).2.2.2.2 := by rw [h]
    rw [h1]
    unfold dnameS namedW
    by_cases e0 : (parentW L cwd p).2.2 = 0
    · have e0' : ¬ ((parentW L cwd p).2.2 ≠ 0) := fun h => h e0
      rw [if_neg e0', if_neg e0']
      by_cases e1 : (parentW L cwd p).2.1 = [46] ∨ (parentW L cwd p).2.1 = [46, 46]
      · have e1' : ((parentW L cwd p).2.1 == [46] || (parentW L cwd p).2.1 == [46, 46]) = true := by simpa using e1
        rw [if_pos e1, if_pos e1']
      · have e1' : ¬ ((parentW L cwd p).2.1 == [46] || (parentW L cwd p).2.1 == [46, 46]) = true := by simpa using e1
        rw [if_neg e1, if_neg e1']
        by_cases e2 : kidL L (parentW L cwd p).1 (parentW L cwd p).2.1 < 0
        · rw [if_pos e2, if_pos ((parse_kid hF).2 e2)]
        · rw [if_neg e2, if_neg (fun h => e2 ((parse_kid hF).1 h))]
          by_cases e3 : mayL L (parentW L cwd p).1 3 = false
          · have e3' : (!mayL L (parentW L cwd p).1 3) = true := by rw [e3]; rfl
            rw [if_pos e3, if_pos e3']
          · have e3' : ¬ (!mayL L (parentW L cwd p).1 3) = true := by simpa using e3
            rw [if_neg e3, if_neg e3']
    · rw [if_pos e0, if_pos e0]
  refine ⟨he, fun e0 => ?_⟩
  obtain ⟨d, kn, s', hn⟩ := named_ok hF (he.symm.trans e0)
  have h2 := h
  unfold dnameS at h2
  rw [hn.par, if_neg (by simp)] at h2
  simp only [Prod.mk.injEq] at h2
  obtain ⟨rfl, rfl, h3, h4, -⟩ := h2
  exact ⟨d, kn, hn, rfl, by rw [← h3, hn.kid], h4.symm⟩

theorem unlink_drop {L : List Ino} {m b : Int} (hF : FitP L m b) {cwd : Int} {p : List UInt8} {z : Int} {s : List UInt8} {k : Int} {sl : Bool} {er0 : Int} (h : dnameS L cwd p = (z, s, k, sl, er0)) {L' : List Ino} {er : Int} (hz : unlinkW L cwd p = (L', er)) :
    dropS L z k s er0 [(21, dirB L k), (20, sl)] = (L', er) ∧ (er0 = 0 → firstP [(21, dirB L k), (20, sl)] = 0 → ∃ zn kn : Nat, z = zn ∧ k = kn ∧ Takes L m b zn kn s) := by
  obtain ⟨he, hok⟩ := dname_named hF h
  unfold unlinkW at hz
  unfold dropS
  rw [← he] at hz
  by_cases e0 : er0 = 0
  · obtain ⟨d, kn, hn, rfl, rfl, rfl⟩ := hok e0
    subst e0
    rw [if_neg (by simp)] at hz ⊢
    rw [hn.nam] at hz
    simp only [Int.toNat_natCast] at hz ⊢
    cases hd : dirB L (kn : Int) with
    | true =>
      rw [hd] at hz
      rw [if_pos rfl] at hz
      exact ⟨hz, fun _ h => absurd h (by simp [firstP])⟩
    | false =>
      rw [hd] at hz
      rw [if_neg (by decide)] at hz
      cases hs : endL p with
      | true =>
        rw [hs, if_pos rfl] at hz
        exact ⟨hz, fun _ h => absurd h (by simp [firstP])⟩
      | false =>
        rw [hs, if_neg (by decide)] at hz
        exact ⟨hz, fun _ _ => ⟨d, kn, rfl, rfl, hn.takes (file_empty hF hn.klt hd)⟩⟩
  · rw [if_pos e0] at hz ⊢
    exact ⟨hz, fun h => absurd h e0⟩
theorem rmdir_drop {L : List Ino} {m b : Int} (hF : FitP L m b) {cwd : Int} {p : List UInt8} {z : Int} {s : List UInt8} {k : Int} {sl : Bool} {er0 : Int} (h : dnameS L cwd p = (z, s, k, sl, er0)) {L' : List Ino} {er : Int} (hz : rmdirW L cwd p = (L', er)) :
    dropS L z k s er0 [(20, !dirB L k), (39, decide (0 < (nodeAt L k).kids.length)), (22, k == cwd)] = (L', er) ∧ (er0 = 0 → firstP [(20, !dirB L k), (39, decide (0 < (nodeAt L k).kids.length)), (22, k == cwd)] = 0 → ∃ zn kn : Nat, z = zn ∧ k = kn ∧ Takes L m b zn kn s) := by
  obtain ⟨he, hok⟩ := dname_named hF h
  unfold rmdirW at hz
  unfold dropS
  rw [← he] at hz
  by_cases e0 : er0 = 0
  · obtain ⟨d, kn, hn, rfl, rfl, rfl⟩ := hok e0
    subst e0
    rw [if_neg (by simp)] at hz ⊢
    rw [hn.nam] at hz
    simp only [Int.toNat_natCast] at hz ⊢
    cases hd : dirB L (kn : Int) with
    | false =>
      rw [hd, if_pos rfl] at hz
      exact ⟨hz, fun _ h => absurd h (by simp [firstP])⟩
    | true =>
      rw [hd, if_neg (by decide)] at hz
      by_cases hk : 0 < (nodeAt L (kn : Int)).kids.length
      · rw [if_pos hk] at hz
        rw [decide_eq_true hk]
        exact ⟨hz, fun _ h => absurd h (by simp [firstP])⟩
      · rw [if_neg hk] at hz
        rw [decide_eq_false hk]
        by_cases hc : (kn : Int) = cwd
        · rw [if_pos hc] at hz
          rw [show ((kn : Int) == cwd) = true by simpa using hc]
          exact ⟨hz, fun _ h => absurd h (by simp [firstP])⟩
        · rw [if_neg hc] at hz
          rw [show ((kn : Int) == cwd) = false by simpa using hc]
          refine ⟨hz, fun _ _ => ⟨d, kn, rfl, rfl, hn.takes ?_⟩⟩
          rw [node_nat L kn hn.klt] at hk
          exact List.length_eq_zero_iff.1 (by omega)
  · rw [if_pos e0] at hz ⊢
    exact ⟨hz, fun h => absurd h e0⟩

set_option maxHeartbeats 4000000 in
theorem lunlink_any (a : Option Addr) (cap : Nat) (m b cwd : Int) (pb : ByteArray) (hp : pb.size ≤ 1073741824) (L : List Ino) (hF : FitP L m b) (L' : List Ino) (er : Int) (hz : unlinkW L cwd pb.data.toList = (L', er)) (w : World) (hN : NodesIn w a cap L) :
    Calls Tryz.prog 10 #[.agg #[.slice a L.length cap, .int .i64 m, .int .i64 b], .int .i64 cwd, .string pb] w (RefAns w m b L' [.int .i64 er]) := by
  obtain ⟨w2, hw2, hb2, hs2, hA, hB⟩ := two_boxes w #[.slice a L.length cap, .int .i64 m, .int .i64 b] #[.slice none 0 0, .int .i64 0, .int .i64 0] 24 24
  obtain ⟨⟨z, s, k, sl, er0⟩, hd⟩ : ∃ r, dnameS L cwd pb.data.toList = r := ⟨_, rfl⟩
  obtain ⟨h1, h2⟩ := unlink_drop hF hd hz
  have hcall := ldrop_any a cap m b cwd pb hp L hF z s k sl er0 hd 30 #[.pointer (some ⟨w.heap.size, 0, none⟩)] (enters_of Tryz.func30 (by kernel_rfl) rfl) _ w2 (hN.below hb2)
    (fun _ W hW => lunl_row w.heap.size a cap m b L z s k sl _ rfl W (tree_block ((hW.block _ (by omega)).trans hA)) (hN.below (hb2.trans (hW.mono (by omega))))) h2 L' er h1
  have HCALL := Lib.hid hcall
  have HB2 := Lib.hid hb2
  have HR := Lib.hid (show ∀ W, Below w2.heap.size w2 W → W.heap[w.heap.size + 1]? = some (.cells #[.slice none 0 0, .int .i64 0, .int .i64 0] 24 (0, 0)) from fun W hW => (hW.block _ (by omega)).trans hB)
  have q0 := blk_cell hA 0
  have q1 := blk_cell hA 1
  have q2 := blk_cell hA 2
  have hq := lt_of_block hA
  clear hcall hF hN hz hd h1 h2 hb2 hA hB
  have hmf : ∀ (fn : Fn) (first cap : Array Value) (w : World), (Instr.makeFunc fn first cap).run Tryz.prog w = .ok (.func fn first cap) w := fun _ _ _ _ => rfl
  go_enter Tryz.func10, Tryz.ntmps10
  go_wp2_with fail
  rw [← hw2]
  refine HCALL.out.mono ?_
  rintro e w3 ⟨⟨a', cap', he, hN3⟩, hb3⟩
  have he' : e = .returned (.tuple #[.agg #[.slice a' L'.length cap', .int .i64 m, .int .i64 b], .int .i64 er]) := he
  subst he'
  have HN3 := Lib.hid hN3
  have HB3 := Lib.hid (HB2.out.trans (hb3.mono (by omega)))
  have HRX := Lib.hid (HR.out w3 hb3)
  have r0 := blk_cell HRX.out 0
  have r1 := blk_cell HRX.out 1
  have r2 := blk_cell HRX.out 2
  have s0 := blk_free HRX.out 0
  have s1 := blk_free HRX.out 1
  have s2 := blk_free HRX.out 2
  have hrl := lt_of_block HRX.out
  clear hN3 hb3 he hw2 q0 q1 q2 hq
  go_wp2_with fail
  change bodyPost _ _ _ _ _ (put3 w3 (w.heap.size + 1) (.slice a' L'.length cap') (.int .i64 m) (.int .i64 b))
  obtain ⟨c0, c1, c2⟩ := put3_cells HRX.out (.slice a' L'.length cap') (.int .i64 m) (.int .i64 b)
  exact bodyPost_ret (v := .tuple #[.agg #[.slice a' L'.length cap', .int .i64 m, .int .i64 b], .int .i64 er]) (by simp [results, Tryz.results10, go_sem, c0, c1, c2]) rfl ⟨⟨_, _, rfl, nodes_put3 HN3.out HRX.out _ _ _⟩, put3_below HB3.out (by omega) _ _ _⟩

set_option maxHeartbeats 4000000 in
theorem lrmdir_any (a : Option Addr) (cap : Nat) (m b cwd : Int) (pb : ByteArray) (hp : pb.size ≤ 1073741824) (L : List Ino) (hF : FitP L m b) (L' : List Ino) (er : Int) (hz : rmdirW L cwd pb.data.toList = (L', er)) (w : World) (hN : NodesIn w a cap L) :
    Calls Tryz.prog 12 #[.agg #[.slice a L.length cap, .int .i64 m, .int .i64 b], .int .i64 cwd, .string pb] w (RefAns w m b L' [.int .i64 er]) := by
  obtain ⟨w2, hw2, hb2, hs2, hA, hC, hB⟩ := three_boxes w #[.slice a L.length cap, .int .i64 m, .int .i64 b] #[.int .i64 cwd] #[.slice none 0 0, .int .i64 0, .int .i64 0] 24 3 24
  obtain ⟨⟨z, s, k, sl, er0⟩, hd⟩ : ∃ r, dnameS L cwd pb.data.toList = r := ⟨_, rfl⟩
  obtain ⟨h1, h2⟩ := rmdir_drop hF hd hz
  have hcall := ldrop_any a cap m b cwd pb hp L hF z s k sl er0 hd 38 #[.pointer (some ⟨w.heap.size, 0, none⟩), .pointer (some ⟨w.heap.size + 1, 0, none⟩)] (enters_of Tryz.func38 (by kernel_rfl) rfl) _ w2 (hN.below hb2)
    (fun e0 W hW => by
      obtain ⟨d, kn, hn, rfl, rfl, rfl⟩ := (dname_named hF hd).2 e0
      exact lrmd_row w.heap.size (w.heap.size + 1) a cap m b cwd L _ s kn hn.klt _ _ _ rfl rfl W (tree_block ((hW.block _ (by omega)).trans hA)) (hN.below (hb2.trans (hW.mono (by omega)))) (blk_cell ((hW.block _ (by omega)).trans hC) 0)) h2 L' er h1
  have HCALL := Lib.hid hcall
  have HB2 := Lib.hid hb2
  have HR := Lib.hid (show ∀ W, Below w2.heap.size w2 W → W.heap[w.heap.size + 2]? = some (.cells #[.slice none 0 0, .int .i64 0, .int .i64 0] 24 (0, 0)) from fun W hW => (hW.block _ (by omega)).trans hB)
  have q0 := blk_cell hA 0
  have q1 := blk_cell hA 1
  have q2 := blk_cell hA 2
  have x0 := blk_cell hC 0
  have hq := lt_of_block hA
  have hx := lt_of_block hC
  clear hcall hF hN hz hd h1 h2 hb2 hA hB hC
  have hmf : ∀ (fn : Fn) (first cap : Array Value) (w : World), (Instr.makeFunc fn first cap).run Tryz.prog w = .ok (.func fn first cap) w := fun _ _ _ _ => rfl
  go_enter Tryz.func12, Tryz.ntmps12
  go_wp2_with fail
  rw [← hw2]
  refine HCALL.out.mono ?_
  rintro e w3 ⟨⟨a', cap', he, hN3⟩, hb3⟩
  have he' : e = .returned (.tuple #[.agg #[.slice a' L'.length cap', .int .i64 m, .int .i64 b], .int .i64 er]) := he
  subst he'
  have HN3 := Lib.hid hN3
  have HB3 := Lib.hid (HB2.out.trans (hb3.mono (by omega)))
  have HRX := Lib.hid (HR.out w3 hb3)
  have r0 := blk_cell HRX.out 0
  have r1 := blk_cell HRX.out 1
  have r2 := blk_cell HRX.out 2
  have s0 := blk_free HRX.out 0
  have s1 := blk_free HRX.out 1
  have s2 := blk_free HRX.out 2
  have hrl := lt_of_block HRX.out
  clear hN3 hb3 he hw2 q0 q1 q2 hq x0 hx
  go_wp2_with fail
  change bodyPost _ _ _ _ _ (put3 w3 (w.heap.size + 2) (.slice a' L'.length cap') (.int .i64 m) (.int .i64 b))
  obtain ⟨c0, c1, c2⟩ := put3_cells HRX.out (.slice a' L'.length cap') (.int .i64 m) (.int .i64 b)
  exact bodyPost_ret (v := .tuple #[.agg #[.slice a' L'.length cap', .int .i64 m, .int .i64 b], .int .i64 er]) (by simp [results, Tryz.results12, go_sem, c0, c1, c2]) rfl ⟨⟨_, _, rfl, nodes_put3 HN3.out HRX.out _ _ _⟩, put3_below HB3.out (by omega) _ _ _⟩
end Go.Proofs.YtmaiphibpdngnaaGreat

namespace Go.Proofs.YtmaiphibpdngnaaGreat
set_option maxRecDepth 100000
open Go Go.RowKit

theorem named_put : ∀ (A B : List (List UInt8 × Int)) (s : List UInt8) (k : Int), (∀ e ∈ A, Op.bytesLess e.1 s = true) → (∀ e ∈ B, Op.bytesLess s e.1 = true) → namedL (A ++ B) s k = A ++ (s, k) :: B
  | [], [], _, _, _, _ => rfl
  | [], e :: r, s, k, _, h => by
    have h1 : ¬ Op.bytesLess e.1 s = true := fun h2 => by
      have := less_trans _ _ _ h2 (h e List.mem_cons_self)
      rw [less_irrefl] at this
      cases this
    show (if Op.bytesLess e.1 s = true then _ else _) = _
    rw [if_neg h1, filter_out fun x hx hxs => by
      have := h x hx
      rw [hxs, less_irrefl] at this
      cases this]
    rfl
  | e :: r, B, s, k, h1, h2 => by
    show (if Op.bytesLess e.1 s = true then e :: namedL (r ++ B) s k else _) = _
    rw [if_pos (h1 e List.mem_cons_self), named_put r B s k (fun x hx => h1 x (List.mem_cons_of_mem _ hx)) h2]
    rfl
/-- A name given, and another one gone: whichever comes first. -/
theorem without_other {K : List (List UInt8 × Int)} {s last : List UInt8} (k : Int) (hR : Rises K) (hn : ∀ e ∈ K, e.1 ≠ last) (hsl : s ≠ last) : withoutL (namedL K last k) s = namedL (withoutL K s) last k := by
  obtain ⟨A, B, h1, h2, h3, h4⟩ := named_at K last k hn
  have hP := (rises_pair K).1 hR
  rw [h1] at hP
  have hB := (List.pairwise_append.1 hP).2.1
  have h5 : ∀ e ∈ B, Op.bytesLess last e.1 = true := fun e he => by
    cases B with
    | nil => cases he
    | cons f r =>
      have h6 := h4 f r rfl
      rcases List.mem_cons.1 he with rfl | h7
      · exact h6
      · exact less_trans _ _ _ h6 ((List.pairwise_cons.1 hB).1 e h7)
  have hw : ∀ X Y, withoutL (X ++ Y) s = withoutL X s ++ withoutL Y s := fun X Y => by unfold withoutL; rw [List.filter_append]
  have hc : withoutL ((last, k) :: B) s = (last, k) :: withoutL B s := by
    unfold withoutL
    rw [List.filter_cons, if_pos (by simpa using fun e => hsl e.symm)]
  rw [h2, hw, hc, h1, hw, named_put]
  · exact fun e he => h3 e (without_mem.1 he).1
  · exact fun e he => h5 e (without_mem.1 he).1

/-- An inode with one name more, in a directory. -/
def giveIno (x : Ino) (d : Int) : Ino := { x with links := x.links + 1, up := if x.kind = 2 then d else x.up }
/-- A tree in which the directory d has the name s more, of inode k. -/
def giveL (L : List Ino) (d k : Nat) (s : List UInt8) : List Ino := (L.set d (withKids (nodeAt L d) (namedL (nodeAt L d).kids s k))).set k (giveIno (nodeAt L k) d)
theorem give_len (L : List Ino) (d k : Nat) (s : List UInt8) : (giveL L d k s).length = L.length := by unfold giveL; rw [List.length_set, List.length_set]
theorem give_get {L : List Ino} {d k : Nat} (hd : d < L.length) (hk : k < L.length) (s : List UInt8) (j : Nat) (hj : j < L.length) :
    (giveL L d k s)[j]'(by rw [give_len]; exact hj) = if k = j then giveIno L[k] d else if d = j then withKids L[d] (namedL L[d].kids s k) else L[j] := by
  simp only [giveL, List.getElem_set, node_nat L d hd, node_nat L k hk]

/-- A name given, and the elder one gone, is a move. -/
theorem give_gone {L : List Ino} {d k to : Nat} (hd : d < L.length) (hk : k < L.length) (ht : to < L.length) {s last : List UInt8} (hdk : d ≠ k) (htk : to ≠ k) (hR : Rises L[to].kids) (hn : ∀ e ∈ L[to].kids, e.1 ≠ last) (hsl : d = to → s ≠ last) (hl : 1 ≤ L[k].links) :
    goneL (giveL L to k last) d k s = moveL L d k to s last := by
  refine List.ext_getElem (by rw [gone_len, give_len, move_len]) fun j h1 h2 => ?_
  rw [move_len] at h2
  have hd' : d < (giveL L to k last).length := by rw [give_len]; exact hd
  have hk' : k < (giveL L to k last).length := by rw [give_len]; exact hk
  have hj' : j < (giveL L to k last).length := by rw [give_len]; exact h2
  rw [gone_get hd' hk' s j hj', move_get hd hk ht s last j h2, give_get ht hk last k hk, give_get ht hk last d hd, give_get ht hk last j h2]
  unfold kidsM
  rw [if_pos rfl, if_neg (show ¬ k = d from fun e => hdk e.symm)]
  by_cases e1 : k = j
  · subst e1
    rw [if_pos rfl, if_neg htk, if_neg hdk]
    unfold goneIno giveIno
    rw [if_neg (by show ¬ L[k].links + 1 = 1; omega)]
    show ({ L[k] with links := L[k].links + 1 - 1, up := _ } : Ino) = _
    rw [Int.add_sub_cancel]
    by_cases e2 : L[k].kind = 2
    · rw [if_pos e2, if_pos ⟨rfl, e2⟩]
    · rw [if_neg e2, if_neg (fun h => e2 h.2)]
  · rw [if_neg e1, if_neg (show ¬ (k = j ∧ L[j].kind = 2) from fun h => e1 h.1)]
    by_cases e2 : d = j
    · subst e2
      rw [if_pos rfl, if_pos rfl]
      by_cases e3 : to = d
      · subst e3
        rw [if_pos rfl, if_pos rfl]
        show ({ L[to] with kids := withoutL (namedL L[to].kids last k) s } : Ino) = _
        rw [without_other _ hR hn (hsl rfl)]
      · rw [if_neg e3, if_neg e3]
        rfl
    · rw [if_neg e2, if_neg e2, if_neg e1]
      by_cases e3 : to = j
      · subst e3
        rw [if_pos rfl, if_pos rfl]
        rfl
      · rw [if_neg e3, if_neg e3]

theorem links_add {z : Int} (h0 : 1 ≤ z) (h1 : z ≤ 4611686018427387904) : IntKind.i64.wrap (z + 1) = z + 1 := by rw [IntKind.wrap_i64]; omega

set_option maxHeartbeats 4000000 in
theorem lgive6_any (g cap d k : Nat) (ino : Int) (m b : Int) (s : List UInt8) (slash : Bool) (L : List Ino) (vs : List Value) (hd : d < L.length) (hk : k < L.length) (hdk : d ≠ k) (hl : L[d].kids.length ≤ 1024) (hR : Rises L[d].kids) (hnw : ∀ e ∈ L[d].kids, e.1 ≠ s)
    (hlk0 : 1 ≤ L[k].links) (hlk : L[k].links ≤ 4611686018427387904) (w : World) (hO : RefT w g cap L vs) :
    Calls Tryz.prog 90 #[spotV d s ino slash, .agg #[.slice (some ⟨g, 0, none⟩) L.length cap, .int .i64 m, .int .i64 b], .int .i64 k] w (TurnAns g cap (giveL L d k s) w) := by
  have HO := Lib.hid hO
  have HR := Lib.hid hR
  have HN := Lib.hid hnw
  clear hO hR hnw
  have hd0 : (0 : Int) ≤ (d : Int) := by omega
  have hdl : (d : Int) < (L.length : Int) := by omega
  have hk0 : (0 : Int) ≤ (k : Int) := by omega
  have hkl : (k : Int) < (L.length : Int) := by omega
  have hgl := HO.out.nodes.lt
  unfold spotV
  go_enter Tryz.func90, Tryz.ntmps90
  go_wp2_with fail
  obtain ⟨w2, hw2, hb2, hs2, hA, hB⟩ := two_boxes w #[.int .i64 d, .string ⟨s.toArray⟩, .int .i64 ino, .bool slash] #[.slice (some ⟨g, 0, none⟩) L.length cap, .int .i64 m, .int .i64 b] 62 24
  rw [← hw2]
  have HB2 := Lib.hid (show Off g w w2 from .of_below hb2)
  have HO2 := Lib.hid (HO.out.below hb2)
  clear hw2 hb2
  have p0 := blk_cell hA 0
  have q0 := blk_cell hB 0
  have ha2 := lt_of_block hA
  have hb2' := lt_of_block hB
  have HA := Lib.hid hA
  clear hA hB
  go_quiet (fail)
  obtain ⟨w3, hw3⟩ : ∃ w3, w3 = w2.drewN nq := ⟨_, rfl⟩
  have hb3 : Below w2.heap.size w2 w3 := by rw [hw3]; exact ⟨rfl, rfl, rfl, Nat.le_refl _, fun _ _ => rfl⟩
  have hs3 : w3.heap.size = w2.heap.size := by rw [hw3]; rfl
  have hA3 := (hb3.block w.heap.size ha2).trans HA.out
  have HO3 := Lib.hid (HO2.out.below hb3)
  have HB3 := Lib.hid (HB2.out.trans (.of_below hb3))
  have HA3 := Lib.hid hA3
  clear p0 q0 HO2 HB2 HO
  rw [← hw3]
  clear hw3 hb3
  obtain ⟨v, hn, hki, hfr⟩ := HO3.out.node hd
  obtain ⟨ka, kc, hv, -⟩ := id hki
  subst hv
  have y4 := hn.kids
  have y1 := blk_cell hA3 1
  have f4' := hfr (d * 6 + 4)
  have hg3 : g < w3.heap.size := cell_lt y4
  have ha3 : w.heap.size < w3.heap.size := cell_lt y1
  have HI := Lib.hid (lwith_any L[d].kids s k (by omega) hl HR.out HN.out _ w3.drew hki)
  have HST := Lib.hid (show ∀ w5, Below w3.heap.size w3 w5 → w5.cell? ⟨g, d * 6 + 4, none⟩ = some (.slice ka L[d].kids.length kc) ∧ w5.frozen? ⟨g, d * 6 + 4, none⟩ = false from fun w5 h5 => ⟨cell_below h5 y4, (HO3.out.nodes.below h5).free _⟩)
  have HQ := Lib.hid (show ∀ w5 v, KidsOwn w5 w3.heap.size v (namedL L[d].kids s k) → Below w3.heap.size w3 w5 → (∃ vs', Named1 g cap d k (namedL (nodeAt L d).kids s k) L w (w5.setCell ⟨g, d * 6 + 4, none⟩ v) vs') ∧ (w5.setCell ⟨g, d * 6 + 4, none⟩ v).cell? ⟨w.heap.size, 0, none⟩ = some (.int .i64 d) from fun w5 v h1 h2 => by
    have hdv : d < vs.length := by rw [HO3.out.nodes.len]; exact hd
    have h3 := HO3.out.setKids hd hdv h1 h2
    exact ⟨⟨vs.set d v, by rw [node_nat L d hd]; exact h3, (HB3.out.trans (.of_below h2)).set _ _⟩, blk_cell ((Below.heap_setCell _ _ _ _ (show w.heap.size ≠ g by omega)).trans ((h2.block _ ha3).trans HA3.out)) 0⟩)
  clear hn hki hfr hA3
  go_wp2_with fail
  go_region_with (first | (go_at_call 106; refine HI.out.mono ?_; rintro e w5 ⟨v', rfl, hk5, hb5⟩; obtain ⟨va, vc, rfl⟩ := hk5.form; have HB5 : Hid (Below w3.heap.size w3 w5) := Lib.hid ⟨hb5.os, hb5.tape, hb5.output, hb5.size, hb5.block⟩; have HK5 : Hid (KidsOwn w5 w3.heap.size (.slice va (namedL L[d].kids s k).length vc) (namedL L[d].kids s k)) := Lib.hid hk5; obtain ⟨z4, zf⟩ := HST.out w5 HB5.out; clear hk5 hb5))
  all_goals
    obtain ⟨⟨vs5, hN1⟩, c0⟩ := HQ.out w5 _ HK5.out HB5.out
    have HN1 := Lib.hid hN1
    have hk' : k < (L.set d (withKids (nodeAt L d) (namedL (nodeAt L d).kids s k))).length := by rw [List.length_set]; exact hk
    obtain ⟨v6, hn6, -, hf6⟩ := hN1.ref.node hk'
    rw [List.getElem_set_ne hdk] at hn6
    have n0 := hn6.kind
    have u2 := hn6.links
    have n5 := hn6.up
    have f2 := hf6 (k * 6 + 2)
    have f5 := hf6 (k * 6 + 5)
    have hgu := cell_lt u2
    have hcu := cell_lt c0
    have hne : ¬ (w.heap.size = g) := by omega
    obtain ⟨lk, hlk'⟩ : ∃ lk, lk = L[k].links := ⟨_, rfl⟩
    have HLK := Lib.hid hlk'
    rw [← hlk'] at u2 hlk0 hlk
    have hadd := links_add hlk0 hlk
    have HTN := Lib.hid (show RefT ((w5.setCell ⟨g, d * 6 + 4, none⟩ (.slice va (namedL L[d].kids s k).length vc)).setCell ⟨g, k * 6 + 2, none⟩ (.int .i64 (lk + 1))) g cap ((L.set d (withKids (nodeAt L d) (namedL (nodeAt L d).kids s k))).set k { L[k] with links := L[k].links + 1 }) vs5 ∧ Off g w ((w5.setCell ⟨g, d * 6 + 4, none⟩ (.slice va (namedL L[d].kids s k).length vc)).setCell ⟨g, k * 6 + 2, none⟩ (.int .i64 (lk + 1))) by
      rw [HLK.out]; exact HN1.out.links hk hdk _)
    clear hn6 hf6 hN1 hlk' z4 zf y4 y1 f4'
    generalize w5.setCell ⟨g, d * 6 + 4, none⟩ (.slice va (namedL L[d].kids s k).length vc) = w6 at *
    by_cases h1 : L[k].kind = 2
    · have HKD := Lib.hid h1
      rw [h1] at n0
      clear h1
      go_wp2_with fail
      go_end0
      obtain ⟨hT7, hO7⟩ := HTN.out
      refine ⟨rfl, ⟨vs5, ?_⟩, hO7.set (k * 6 + 5) _⟩
      have h8 := hT7.setUp (i := k) (by rw [List.length_set, List.length_set]; exact hk) (d : Int)
      rw [List.getElem_set_self, List.set_set] at h8
      unfold giveL giveIno
      rw [node_nat L k hk, if_pos HKD.out]
      exact h8
    · have hz : (L[k].kind == 2) = false := by simpa using h1
      have HKD := Lib.hid h1
      clear h1
      go_wp2_with fail
      go_end0
      obtain ⟨hT7, hO7⟩ := HTN.out
      refine ⟨rfl, ⟨vs5, ?_⟩, hO7⟩
      unfold giveL giveIno
      rw [node_nat L k hk, if_neg HKD.out]
      exact hT7
end Go.Proofs.YtmaiphibpdngnaaGreat

namespace Go.Proofs.YtmaiphibpdngnaaGreat
set_option maxRecDepth 100000
open Go Go.RowKit

theorem moves_links {L : List Ino} {m b : Int} {d k to : Nat} {s last : List UInt8} (h : Moves L m b d k to s last) : 1 ≤ (L[k]'h.klt).links ∧ (L[k]'h.klt).links ≤ 4611686017427387904 := by
  have h1 := (h.fit.names.2 k h.klt).1
  rw [countL_get L (kids_pos (kids_there h.fit.ins)) k h.klt] at h1
  have h2 : 1 ≤ namesOf (kidsOf L) k := names_pos (e := (s, (k : Int))) (mem_kidsOf.2 ⟨d, h.dlt, h.mem⟩)
  have h3 := few_names h.fit k
  exact ⟨by omega, by omega⟩
theorem give_room {L : List Ino} {m b : Int} {d k to : Nat} {s last : List UInt8} (h : Moves L m b d k to s last) : ((giveL L to k last)[d]'(by rw [give_len]; exact h.dlt)).kids.length ≤ 1024 := by
  rw [give_get h.tlt h.klt last d h.dlt, if_neg (fun e => h.dk e.symm)]
  by_cases e : to = d
  · rw [if_pos e]
    show (namedL (L[to]'h.tlt).kids last k).length ≤ 1024
    have h1 := h.room
    rw [named_len _ h.new]
    omega
  · rw [if_neg e]
    exact (h.fit.ins d h.dlt).2.1
theorem moves_gone {L : List Ino} {m b : Int} {d k to : Nat} {s last : List UInt8} (h : Moves L m b d k to s last) : goneL (giveL L to k last) d k s = moveL L d k to s last :=
  give_gone h.dlt h.klt h.tlt h.dk h.tk (kids_rise h.fit.ins to h.tlt).2 h.new (fun e => by
    have h1 := h.mem
    have h2 := h.new
    subst e
    exact h2 _ h1) (moves_links h).1

set_option maxHeartbeats 4000000 in
theorem lmove_none (g cap d k to : Nat) (m b : Int) (s last : List UInt8) (sl sl2 : Bool) (L : List Ino) (vs : List Value) (hM : Moves L m b d k to s last) (w : World) (hO : RefT w g cap L vs) :
    Calls Tryz.prog 49 #[.agg #[.slice (some ⟨g, 0, none⟩) L.length cap, .int .i64 m, .int .i64 b], spotV d s k sl, spotV to last (-1) sl2] w (TurnAns g cap (moveL L d k to s last) w) := by
  have hgl := hO.nodes.lt
  obtain ⟨w2, hw2, hb2, hs2, hA, hB, hC⟩ := three_boxes w #[.slice (some ⟨g, 0, none⟩) L.length cap, .int .i64 m, .int .i64 b] #[.int .i64 d, .string ⟨s.toArray⟩, .int .i64 k, .bool sl] #[.int .i64 to, .string ⟨last.toArray⟩, .int .i64 (-1), .bool sl2] 24 62 62
  have HALL := Lib.hid (show ∀ W, Off g w2 W → TreeBx W w.heap.size (some ⟨g, 0, none⟩) cap L.length m b ∧ SpotIn W (w.heap.size + 1) d s k sl ∧ SpotIn W (w.heap.size + 2) to last (-1) sl2 from fun W hW => ⟨tree_block ((hW.block _ (by omega) (by omega)).trans hA), spot_block ((hW.block _ (by omega) (by omega)).trans hB), spot_block ((hW.block _ (by omega) (by omega)).trans hC)⟩)
  have HO2 := Lib.hid (hO.below hb2)
  have HB2 := Lib.hid (show Off g w w2 from .of_below hb2)
  clear hO hb2 hA hB hC
  obtain ⟨hq, hx, hy⟩ := HALL.out w2 (Off.refl _ _)
  have q0 := hq.t0
  have q1 := hq.t1
  have q2 := hq.t2
  have x0 := hx.dir
  have x1 := hx.name
  have x2 := hx.ino
  have x3 := hx.slash
  have y0 := hy.dir
  have y1 := hy.name
  have y2 := hy.ino
  have y3 := hy.slash
  have gq := cell_lt q0
  have gx := cell_lt x0
  have gy := cell_lt y0
  clear hq hx hy
  have HM := Lib.hid hM
  have hkM := hM.klt
  have HLK := Lib.hid (show 1 ≤ (L[k]'hkM).links ∧ (L[k]'hkM).links ≤ 4611686017427387904 from moves_links hM)
  clear hM
  unfold spotV
  go_enter Tryz.func49, Tryz.ntmps49
  go_wp2_with fail
  rw [← hw2]
  clear hw2
  have HO3 := Lib.hid (Off.refl g w2)
  have hgv := lgive6_any g cap to k (-1) m b last sl2 L vs HM.out.tlt HM.out.klt HM.out.tk (by have := HM.out.room; omega) (kids_rise HM.out.fit.ins to HM.out.tlt).2 HM.out.new HLK.out.1 (by have := HLK.out.2; omega) w2 HO2.out
  refine hgv.mono ?_
  rintro e w4 ⟨rfl, ⟨vs4, hR4⟩, hO4⟩
  have HR4 := Lib.hid hR4
  have HO4 := Lib.hid (HO3.out.trans hO4)
  clear hgv hR4 hO4
  clear q0 q1 q2 x0 x1 x2 x3 y0 y1 y2 y3 gq gx gy
  obtain ⟨hq, hx, hy⟩ := HALL.out w4 HO4.out
  have q0 := hq.t0
  have q1 := hq.t1
  have q2 := hq.t2
  have x0 := hx.dir
  have x1 := hx.name
  have x2 := hx.ino
  have x3 := hx.slash
  have y0 := hy.dir
  have y1 := hy.name
  have y2 := hy.ino
  have y3 := hy.slash
  have gq := cell_lt q0
  have gx := cell_lt x0
  have gy := cell_lt y0
  clear hq hx hy
  go_wp2_with fail
  have htk := ltake_any g cap d k m b s sl (giveL L to k last) vs4 (by rw [give_len]; exact HM.out.dlt) (by rw [give_len]; exact HM.out.klt) HM.out.dk (give_room HM.out) (by rw [give_get HM.out.tlt HM.out.klt last k HM.out.klt, if_pos rfl]; show 1 ≤ _ + 1; have := HLK.out.1; omega) (by rw [give_get HM.out.tlt HM.out.klt last k HM.out.klt, if_pos rfl]; show _ + 1 ≤ _; have := HLK.out.2; omega) w4 HR4.out
  rw [give_len, moves_gone HM.out] at htk
  refine htk.mono ?_
  rintro e w5 ⟨rfl, hR5, hO5⟩
  have HR5 := Lib.hid hR5
  have HO5 := Lib.hid (HB2.out.trans (HO4.out.trans hO5))
  clear htk hR5 hO5
  go_wp2_with fail
  go_end0
  exact ⟨rfl, HR5.out, HO5.out⟩

set_option maxHeartbeats 4000000 in
theorem lmove_there (g cap d k to : Nat) (m b : Int) (s last : List UInt8) (sl sl2 : Bool) (L : List Ino) (vs : List Value) (tn : Nat) (hT : Takes L m b to tn last) (hM : Moves (goneL L to tn last) m b d k to s last) (w : World) (hO : RefT w g cap L vs) :
    Calls Tryz.prog 49 #[.agg #[.slice (some ⟨g, 0, none⟩) L.length cap, .int .i64 m, .int .i64 b], spotV d s k sl, spotV to last (tn : Int) sl2] w (TurnAns g cap (moveL (goneL L to tn last) d k to s last) w) := by
  have hgl := hO.nodes.lt
  obtain ⟨w2, hw2, hb2, hs2, hA, hB, hC⟩ := three_boxes w #[.slice (some ⟨g, 0, none⟩) L.length cap, .int .i64 m, .int .i64 b] #[.int .i64 d, .string ⟨s.toArray⟩, .int .i64 k, .bool sl] #[.int .i64 to, .string ⟨last.toArray⟩, .int .i64 (tn : Int), .bool sl2] 24 62 62
  have HALL := Lib.hid (show ∀ W, Off g w2 W → TreeBx W w.heap.size (some ⟨g, 0, none⟩) cap L.length m b ∧ SpotIn W (w.heap.size + 1) d s k sl ∧ SpotIn W (w.heap.size + 2) to last (tn : Int) sl2 from fun W hW => ⟨tree_block ((hW.block _ (by omega) (by omega)).trans hA), spot_block ((hW.block _ (by omega) (by omega)).trans hB), spot_block ((hW.block _ (by omega) (by omega)).trans hC)⟩)
  have HO2 := Lib.hid (hO.below hb2)
  have HB2 := Lib.hid (show Off g w w2 from .of_below hb2)
  clear hO hb2 hA hB hC
  obtain ⟨hq, hx, hy⟩ := HALL.out w2 (Off.refl _ _)
  have q0 := hq.t0
  have q1 := hq.t1
  have q2 := hq.t2
  have x0 := hx.dir
  have x1 := hx.name
  have x2 := hx.ino
  have x3 := hx.slash
  have y0 := hy.dir
  have y1 := hy.name
  have y2 := hy.ino
  have y3 := hy.slash
  have gq := cell_lt q0
  have gx := cell_lt x0
  have gy := cell_lt y0
  clear hq hx hy
  obtain ⟨t1, t2, t3, t4⟩ := hT.count
  have t5 := few_names hT.fit tn
  have hkT := hT.klt
  have HLT := Lib.hid (show 1 ≤ (L[tn]'hkT).links ∧ (L[tn]'hkT).links ≤ 4611686018427387904 from ⟨by omega, by omega⟩)
  have hne : ((tn : Int) != -1) = true := by simp
  have HT := Lib.hid hT
  clear t1 t2 t3 t4 t5 hT
  have HM := Lib.hid hM
  have hkM := hM.klt
  have HLK := Lib.hid (show 1 ≤ ((goneL L to tn last)[k]'hkM).links ∧ ((goneL L to tn last)[k]'hkM).links ≤ 4611686017427387904 from moves_links hM)
  clear hM
  unfold spotV
  go_enter Tryz.func49, Tryz.ntmps49
  go_wp2_with fail
  rw [← hw2]
  clear hw2
  refine (ltake_any g cap to tn m b last sl2 L vs HT.out.dlt HT.out.klt HT.out.ne (HT.out.fit.ins to HT.out.dlt).2.1 HLT.out.1 HLT.out.2 _ HO2.out).mono ?_
  rintro e w3 ⟨rfl, ⟨vs3, hR3⟩, hO3⟩
  have HR3 := Lib.hid hR3
  have HO3 := Lib.hid hO3
  clear hR3 hO3
  clear q0 q1 q2 x0 x1 x2 x3 y0 y1 y2 y3 gq gx gy
  obtain ⟨hq, hx, hy⟩ := HALL.out w3 HO3.out
  have q0 := hq.t0
  have q1 := hq.t1
  have q2 := hq.t2
  have x0 := hx.dir
  have x1 := hx.name
  have x2 := hx.ino
  have x3 := hx.slash
  have y0 := hy.dir
  have y1 := hy.name
  have y2 := hy.ino
  have y3 := hy.slash
  have gq := cell_lt q0
  have gx := cell_lt x0
  have gy := cell_lt y0
  clear hq hx hy
  go_wp2_with fail
  have hgv := lgive6_any g cap to k (tn : Int) m b last sl2 (goneL L to tn last) vs3 HM.out.tlt HM.out.klt HM.out.tk (by have := HM.out.room; omega) (kids_rise HM.out.fit.ins to HM.out.tlt).2 HM.out.new HLK.out.1 (by have := HLK.out.2; omega) w3 HR3.out
  rw [gone_len] at hgv
  refine hgv.mono ?_
  rintro e w4 ⟨rfl, ⟨vs4, hR4⟩, hO4⟩
  have HR4 := Lib.hid hR4
  have HO4 := Lib.hid (HO3.out.trans hO4)
  clear hgv hR4 hO4
  clear q0 q1 q2 x0 x1 x2 x3 y0 y1 y2 y3 gq gx gy
  obtain ⟨hq, hx, hy⟩ := HALL.out w4 HO4.out
  have q0 := hq.t0
  have q1 := hq.t1
  have q2 := hq.t2
  have x0 := hx.dir
  have x1 := hx.name
  have x2 := hx.ino
  have x3 := hx.slash
  have y0 := hy.dir
  have y1 := hy.name
  have y2 := hy.ino
  have y3 := hy.slash
  have gq := cell_lt q0
  have gx := cell_lt x0
  have gy := cell_lt y0
  clear hq hx hy
  go_wp2_with fail
  have htk := ltake_any g cap d k m b s sl (giveL (goneL L to tn last) to k last) vs4 (by rw [give_len]; exact HM.out.dlt) (by rw [give_len]; exact HM.out.klt) HM.out.dk (give_room HM.out) (by rw [give_get HM.out.tlt HM.out.klt last k HM.out.klt, if_pos rfl]; show 1 ≤ _ + 1; have := HLK.out.1; omega) (by rw [give_get HM.out.tlt HM.out.klt last k HM.out.klt, if_pos rfl]; show _ + 1 ≤ _; have := HLK.out.2; omega) w4 HR4.out
  rw [give_len, gone_len, moves_gone HM.out] at htk
  refine htk.mono ?_
  rintro e w5 ⟨rfl, hR5, hO5⟩
  have HR5 := Lib.hid hR5
  have HO5 := Lib.hid (HB2.out.trans (HO4.out.trans hO5))
  clear htk hR5 hO5
  go_wp2_with fail
  go_end0
  exact ⟨rfl, HR5.out, HO5.out⟩
end Go.Proofs.YtmaiphibpdngnaaGreat
