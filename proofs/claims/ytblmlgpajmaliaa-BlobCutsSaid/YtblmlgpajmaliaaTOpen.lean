/-
  A tree that can be read as data lies in memory as NodesIn says, and nothing of it is longer than any machine's.
-/
import Derived.Deep.Slices
import Derived.Deep.Fields
import Derived.Lib.SmallJoins
import Derived.SizedLaws
import Derived.Test.YtblmlgpajmaliaaTPlain3
namespace Go.Proofs.Ytblmlgpajmaliaa
set_option maxRecDepth 100000
open Go.ChangeShapes Go.WideShapes Go.Deep Go.Joins
open Go Go.RowKit

section
variable {H : Type} {enc : TypeId × Value → H} {w : World} {base : Nat} {spare : Nat → Bool} {held : Bool}

theorem add_none (b o n : Nat) : (⟨b, o, none⟩ : Addr).add n = ⟨b, o + n, none⟩ := by
  unfold Addr.add
  split
  · rename_i h
    rw [h]
    rfl
  · rfl

/-- One field of a struct that was read. -/
theorem part_at {e : TypeId} {fs : Array Field} {n : Nat} {cs : List Value} {x : DataW H × List MemPlace} (ht : Try.prog.underlying e = some (.struct fs)) (h : DataW.trod enc Try.prog w base spare held n e cs = some x)
    (j : Nat) (f : Field) (hf : fs[j]? = some f) (ho : f.offset = j) (hc : Try.prog.cellsOf f.type = 1) (v : Value) (hv : cs[j]? = some v) :
    ∃ (n' : Nat) (y : DataW H × List MemPlace), DataW.trod enc Try.prog w base spare held n' f.type [v] = some y ∧ ∀ z ∈ y.1.weights Try.prog f.type, z ∈ x.1.weights Try.prog e := by
  obtain ⟨xs, n', _, rfl, hl, hlen, hfs⟩ := DataW.trod_struct ht h
  have h1 := hfs j f hf
  have hj : j < fs.size := (Array.getElem?_eq_some_iff.1 hf).1
  have hjc : j < cs.length := (List.getElem?_eq_some_iff.1 hv).1
  have e1 : (cs.drop j).take 1 = [v] := by
    rw [List.drop_eq_getElem_cons hjc]
    have : cs[j] = v := (List.getElem?_eq_some_iff.1 hv).2
    simp [this]
  rw [ho, hc, e1] at h1
  have hx : xs[j]? = some (xs[j]'(by omega)) := List.getElem?_eq_getElem (by omega)
  refine ⟨n', xs[j]'(by omega), h1.trans hx, fun z hz => ?_⟩
  show z ∈ DataW.weights Try.prog e (.agg (xs.map (·.1)))
  unfold DataW.weights
  rw [ht]
  refine DataW.weights_mem_each (j := j) (t := f.type) (d := (xs[j]'(by omega)).1) ?_ ?_ z hz
  · rw [List.getElem?_map, Array.getElem?_toList, hf]
    rfl
  · rw [List.getElem?_map, hx]
    rfl

theorem weights_all {P : Program} {e : TypeId} : ∀ (l : List (DataW H)) (i : Nat) (hi : i < l.length), ∀ z ∈ l[i].weights P e, z ∈ DataW.weightsAll P e l
  | d :: r, 0, _, z, hz => by
    simp only [DataW.weightsAll, List.mem_append]
    exact Or.inl hz
  | d :: r, i + 1, hi, z, hz => by
    simp only [DataW.weightsAll, List.mem_append]
    exact Or.inr (weights_all r i (Nat.lt_of_succ_lt_succ hi) z hz)
  | [], _, hi, _, _ => absurd hi (Nat.not_lt_zero _)

/-- A slice of structs that was read, of e: each element's cells. -/
theorem slice_at {t e : TypeId} {k : Nat} {fuel : Nat} {v : Value} {x : DataW H × List MemPlace} (ht : Try.prog.underlying t = some (.slice e)) (hk : Try.prog.cellsOf e = k) (hk0 : 0 < k) (h : DataW.trod enc Try.prog w base (fun _ => true) held fuel t [v] = some x)
    (R : Nat) (hR : ∀ z ∈ x.1.weights Try.prog t, z ≤ R) :
    ∃ (a : Option Addr) (len cap : Nat), v = .slice a len cap ∧ len ≤ cap ∧ cap ≤ maxLen ∧ len * Try.prog.bytesOf e ≤ R ∧
      ∀ i, i < len → ∃ b o, a = some ⟨b, o, none⟩ ∧ ∃ (n : Nat) (cs : List Value) (y : DataW H × List MemPlace), DataW.trod enc Try.prog w base (fun _ => true) held n e cs = some y ∧ (∀ z ∈ y.1.weights Try.prog e, z ≤ R) ∧ cs.length = k ∧ ∀ j, j < k → w.cell? ⟨b, o + i * k + j, none⟩ = cs[j]? := by
  rcases open_slice ht h with ⟨hcs, rfl⟩ | ⟨a, len, cap, m, n, D, Pl, hcs, hb, hl, hm, hmm, rfl, hi⟩
  · have hv : v = .slice none 0 0 := by simpa using hcs
    exact ⟨none, 0, 0, hv, Nat.le_refl _, Nat.zero_le _, by omega, fun i hi => absurd hi (Nat.not_lt_zero _)⟩
  · have hv : v = .slice (some a) len cap := by simpa using hcs
    have hcm : m = cap := by simpa using hmm
    subst hcm
    have hw : ∀ z ∈ DataW.weights Try.prog t (.slice ((List.range len).map D) ((List.range (m - len)).map fun j => D (len + j))), z ≤ R := hR
    unfold DataW.weights at hw
    rw [ht] at hw
    have hlen : len * Try.prog.bytesOf e ≤ R := by
      have h1 := hw ((((List.range len).map D).length + ((List.range (m - len)).map fun j => D (len + j)).length) * Try.prog.bytesOf e) (by simp)
      simp only [List.length_map, List.length_range] at h1
      exact Nat.le_trans (Nat.mul_le_mul_right _ (Nat.le_add_right _ _)) h1
    refine ⟨some a, len, m, hv, hl, hm, hlen, fun i hil => ?_⟩
    obtain ⟨cs, hc, hy⟩ := hi i (by omega)
    rw [hk] at hc
    obtain ⟨_, hcl, hat⟩ := World.cells?_some hc
    have hsp : a.spot = none := by
      obtain ⟨cs0, hc0, _⟩ := hi 0 (by omega)
      rw [hk] at hc0
      obtain ⟨_, hcl0, hat0⟩ := World.cells?_some hc0
      have h1 := hat0 0 hk0
      rw [List.getElem?_eq_getElem (by omega)] at h1
      have h2 := World.cell?_spot h1
      rw [Nat.zero_mul] at h2
      simpa [Addr.add] using h2
    obtain ⟨b, o, s⟩ := a
    have hs : s = none := hsp
    subst hs
    refine ⟨b, o, rfl, n, cs, _, hy, fun z hz => ?_, hcl, fun j hj => ?_⟩
    · refine hw z ?_
      simp only [List.mem_cons, List.mem_append]
      refine Or.inr (Or.inl ?_)
      refine weights_all _ i (by simpa using hil) z ?_
      simpa using hz
    · have h1 := hat j hj
      rw [add_none, add_none] at h1
      exact h1

theorem entry_fields : ∃ f0 f1 : Field, Try.prog.underlying 50 = some (.struct #[f0, f1]) ∧ f0.offset = 0 ∧ f1.offset = 1 ∧ f0.type = 9 ∧ f1.type = 3 :=
  ⟨_, _, Try.underlying50, rfl, rfl, rfl, rfl⟩
theorem inode_fields : ∃ f0 f1 f2 f3 f4 f5 : Field, Try.prog.underlying 42 = some (.struct #[f0, f1, f2, f3, f4, f5]) ∧ f0.offset = 0 ∧ f1.offset = 1 ∧ f2.offset = 2 ∧ f3.offset = 3 ∧ f4.offset = 4 ∧ f5.offset = 5 ∧
    f0.type = 3 ∧ f1.type = 3 ∧ f2.type = 3 ∧ f3.type = 9 ∧ f4.type = 40 ∧ f5.type = 3 :=
  ⟨_, _, _, _, _, _, Try.underlying42, rfl, rfl, rfl, rfl, rfl, rfl, rfl, rfl, rfl, rfl, rfl, rfl⟩
theorem one_int : Try.prog.cellsOf 3 = 1 := by kernel_rfl
theorem one_string : Try.prog.cellsOf 9 = 1 := by kernel_rfl
theorem one_kids : Try.prog.cellsOf 40 = 1 := by kernel_rfl
theorem two_entry : Try.prog.cellsOf 50 = 2 := by kernel_rfl
theorem six_inode : Try.prog.cellsOf 42 = 6 := by kernel_rfl
theorem bytes_entry : Try.prog.bytesOf 50 = 24 := by kernel_rfl
theorem bytes_inode : Try.prog.bytesOf 42 = 72 := by kernel_rfl

theorem some_at {l : List Value} {j : Nat} (h : j < l.length) : l[j]? = some l[j] := List.getElem?_eq_getElem h

theorem open_kids {fuel : Nat} {v : Value} {x : DataW H × List MemPlace} (h : DataW.trod enc Try.prog w base (fun _ => true) held fuel 40 [v] = some x) (R : Nat) (hR : ∀ z ∈ x.1.weights Try.prog 40, z ≤ R) :
    ∃ M : List (List UInt8 × Int), KidsIn w v M ∧ M.length * 24 ≤ R ∧ ∀ e ∈ M, e.1.length ≤ R := by
  obtain ⟨a, len, cap, rfl, hl, hm, hb, hi⟩ := slice_at Try.underlying40 two_entry (by decide) h R hR
  rw [bytes_entry] at hb
  obtain ⟨f0, f1, hu, o0, o1, t0, t1⟩ := entry_fields
  have hone : ∀ i, i < len → ∃ (s : List UInt8) (z : Int), s.length ≤ R ∧ ∃ b o, a = some ⟨b, o, none⟩ ∧ w.cell? ⟨b, o + i * 2, none⟩ = some (.string ⟨s.toArray⟩) ∧ w.cell? ⟨b, o + i * 2 + 1, none⟩ = some (.int .i64 z) := fun i hil => by
    obtain ⟨b, o, ha, n, cs, y, hy, hyR, hcl, hc⟩ := hi i hil
    have c0 := hc 0 (by decide)
    have c1 := hc 1 (by decide)
    rw [some_at (show 0 < cs.length by omega)] at c0
    rw [some_at (show 1 < cs.length by omega)] at c1
    obtain ⟨n0, y0, hy0, hw0⟩ := part_at hu hy 0 f0 rfl o0 (by rw [t0]; exact one_string) _ (some_at (show 0 < cs.length by omega))
    obtain ⟨n1, y1, hy1, hw1⟩ := part_at hu hy 1 f1 rfl o1 (by rw [t1]; exact one_int) _ (some_at (show 1 < cs.length by omega))
    rw [t0] at hy0 hw0
    rw [t1] at hy1
    obtain ⟨s, e0, rfl, hs⟩ := DataW.trod_string Try.underlying9 hy0
    obtain ⟨z, e1, rfl, -⟩ := DataW.trod_int Try.underlying3 hy1
    simp only [List.cons.injEq, and_true] at e0 e1
    rw [e0] at c0
    rw [e1] at c1
    refine ⟨s.data.toList, z, hyR _ (hw0 _ (by simp [DataW.weights])), b, o, ha, c0, c1⟩
  -- the list
  have hex : ∃ M : List (List UInt8 × Int), M.length = len ∧ (∀ e ∈ M, e.1.length ≤ R) ∧ ∀ i (hi : i < M.length), ∃ b o, a = some ⟨b, o, none⟩ ∧ w.cell? ⟨b, o + i * 2, none⟩ = some (.string ⟨M[i].1.toArray⟩) ∧ w.cell? ⟨b, o + i * 2 + 1, none⟩ = some (.int .i64 M[i].2) := by
    clear hl hm hb hi h
    induction len with
    | zero => exact ⟨[], rfl, by simp, fun i hi => absurd hi (Nat.not_lt_zero _)⟩
    | succ len ih =>
      obtain ⟨M, h1, h2, h3⟩ := ih (fun i hi => hone i (by omega))
      obtain ⟨s, z, hs, hc⟩ := hone len (Nat.lt_succ_self _)
      refine ⟨M ++ [(s, z)], by simp [h1], fun e he => ?_, fun i hi => ?_⟩
      · rcases List.mem_append.1 he with he | he
        · exact h2 e he
        · simp only [List.mem_singleton] at he
          subst he
          exact hs
      · by_cases hil : i < M.length
        · rw [List.getElem_append_left hil]
          exact h3 i hil
        · have e : i = M.length := by simp at hi; omega
          subst e
          rw [List.getElem_concat_length rfl, h1]
          exact hc
  obtain ⟨M, h1, h2, h3⟩ := hex
  subst h1
  exact ⟨M, ⟨a, cap, rfl, hl, hm, h3⟩, hb, h2⟩

theorem open_nodes {fuel : Nat} {v : Value} {x : DataW H × List MemPlace} (h : DataW.trod enc Try.prog w base (fun _ => true) held fuel 22 [v] = some x) (R : Nat) (hR : ∀ z ∈ x.1.weights Try.prog 22, z ≤ R) :
    ∃ (L : List Ino) (a : Option Addr) (cap : Nat), v = .slice a L.length cap ∧ NodesIn w a cap L ∧ L.length * 72 ≤ R ∧ ∀ y ∈ L, y.data.length ≤ R ∧ y.kids.length * 24 ≤ R ∧ ∀ e ∈ y.kids, e.1.length ≤ R := by
  obtain ⟨a, len, cap, rfl, hl, hm, hb, hi⟩ := slice_at Try.underlying22 six_inode (by decide) h R hR
  rw [bytes_inode] at hb
  obtain ⟨f0, f1, f2, f3, f4, f5, hu, o0, o1, o2, o3, o4, o5, t0, t1, t2, t3, t4, t5⟩ := inode_fields
  have hone : ∀ i, i < len → ∃ y : Ino, (y.data.length ≤ R ∧ y.kids.length * 24 ≤ R ∧ ∀ e ∈ y.kids, e.1.length ≤ R) ∧ ∃ b o, a = some ⟨b, o, none⟩ ∧ NodeIn w b (o + i * 6) y := fun i hil => by
    obtain ⟨b, o, ha, n, cs, y, hy, hyR, hcl, hc⟩ := hi i hil
    have c0 := hc 0 (by decide)
    have c1 := hc 1 (by decide)
    have c2 := hc 2 (by decide)
    have c3 := hc 3 (by decide)
    have c4 := hc 4 (by decide)
    have c5 := hc 5 (by decide)
    rw [some_at (show 0 < cs.length by omega)] at c0
    rw [some_at (show 1 < cs.length by omega)] at c1
    rw [some_at (show 2 < cs.length by omega)] at c2
    rw [some_at (show 3 < cs.length by omega)] at c3
    rw [some_at (show 4 < cs.length by omega)] at c4
    rw [some_at (show 5 < cs.length by omega)] at c5
    obtain ⟨n0, y0, hy0, hw0⟩ := part_at hu hy 0 f0 rfl o0 (by rw [t0]; exact one_int) _ (some_at (show 0 < cs.length by omega))
    obtain ⟨n1, y1, hy1, hw1⟩ := part_at hu hy 1 f1 rfl o1 (by rw [t1]; exact one_int) _ (some_at (show 1 < cs.length by omega))
    obtain ⟨n2, y2, hy2, hw2⟩ := part_at hu hy 2 f2 rfl o2 (by rw [t2]; exact one_int) _ (some_at (show 2 < cs.length by omega))
    obtain ⟨n3, y3, hy3, hw3⟩ := part_at hu hy 3 f3 rfl o3 (by rw [t3]; exact one_string) _ (some_at (show 3 < cs.length by omega))
    obtain ⟨n4, y4, hy4, hw4⟩ := part_at hu hy 4 f4 rfl o4 (by rw [t4]; exact one_kids) _ (some_at (show 4 < cs.length by omega))
    obtain ⟨n5, y5, hy5, hw5⟩ := part_at hu hy 5 f5 rfl o5 (by rw [t5]; exact one_int) _ (some_at (show 5 < cs.length by omega))
    rw [t0] at hy0
    rw [t1] at hy1
    rw [t2] at hy2
    rw [t3] at hy3 hw3
    rw [t4] at hy4 hw4
    rw [t5] at hy5
    obtain ⟨z0, e0, rfl, -⟩ := DataW.trod_int Try.underlying3 hy0
    obtain ⟨z1, e1, rfl, -⟩ := DataW.trod_int Try.underlying3 hy1
    obtain ⟨z2, e2, rfl, -⟩ := DataW.trod_int Try.underlying3 hy2
    obtain ⟨s, e3, rfl, hs⟩ := DataW.trod_string Try.underlying9 hy3
    obtain ⟨z5, e5, rfl, -⟩ := DataW.trod_int Try.underlying3 hy5
    obtain ⟨M, hM, hM1, hM2⟩ := open_kids hy4 R (fun z hz => hyR z (hw4 z hz))
    simp only [List.cons.injEq, and_true] at e0 e1 e2 e3 e5
    rw [e0] at c0
    rw [e1] at c1
    rw [e2] at c2
    rw [e3] at c3
    rw [e5] at c5
    exact ⟨⟨z0, z1, z2, s.data.toList, M, z5⟩, ⟨hyR _ (hw3 _ (by simp [DataW.weights])), hM1, hM2⟩, b, o, ha, ⟨c0, c1, c2, c3, ⟨_, c4, hM⟩, c5⟩⟩
  have hex : ∃ L : List Ino, L.length = len ∧ (∀ y ∈ L, y.data.length ≤ R ∧ y.kids.length * 24 ≤ R ∧ ∀ e ∈ y.kids, e.1.length ≤ R) ∧ ∀ i (hi : i < L.length), ∃ b o, a = some ⟨b, o, none⟩ ∧ NodeIn w b (o + i * 6) L[i] := by
    clear hl hm hb hi h
    induction len with
    | zero => exact ⟨[], rfl, by simp, fun i hi => absurd hi (Nat.not_lt_zero _)⟩
    | succ len ih =>
      obtain ⟨L, h1, h2, h3⟩ := ih (fun i hi => hone i (by omega))
      obtain ⟨y, hy, hc⟩ := hone len (Nat.lt_succ_self _)
      refine ⟨L ++ [y], by simp [h1], fun e he => ?_, fun i hi => ?_⟩
      · rcases List.mem_append.1 he with he | he
        · exact h2 e he
        · simp only [List.mem_singleton] at he
          subst he
          exact hy
      · by_cases hil : i < L.length
        · rw [List.getElem_append_left hil]
          exact h3 i hil
        · have e : i = L.length := by simp at hi; omega
          subst e
          rw [List.getElem_concat_length rfl, h1]
          exact hc
  obtain ⟨L, h1, h2, h3⟩ := hex
  subst h1
  exact ⟨L, a, cap, rfl, ⟨hl, hm, h3⟩, hb, h2⟩

theorem tree_fields : ∃ f0 f1 f2 : Field, Try.prog.underlying 24 = some (.struct #[f0, f1, f2]) ∧ oneCellFields Try.prog #[f0, f1, f2] = true ∧ f0.type = 22 ∧ f1.type = 3 ∧ f2.type = 3 ∧ f0.offset = 0 :=
  ⟨_, _, _, Try.underlying24, by kernel_rfl, rfl, rfl, rfl, rfl⟩
theorem three_tree : Try.prog.cellsOf 24 = 3 := by kernel_rfl

/-- An argument that is a tree. -/
theorem open_tree {r : Go.Reach} {b0 : Nat} {v : Value} {d : DataW H} {p : List MemPlace} (hv : Value.okWide Try.prog w r b0 24 v) (h : DataW.Trod enc Try.prog w base (fun _ => true) held 24 v d p)
    (R : Nat) (hR0 : R ≤ 140737488355328) (hR : ∀ z ∈ d.weights Try.prog 24, z ≤ R) :
    ∃ (L : List Ino) (a : Option Addr) (cap : Nat) (m b : Int), v = .agg #[.slice a L.length cap, .int .i64 m, .int .i64 b] ∧ NodesIn w a cap L ∧ Proofs.Ytblmlgpajmaliaa.Reach L := by
  obtain ⟨f0, f1, f2, hu, hone, t0, t1, t2, -⟩ := tree_fields
  obtain ⟨v0, v1, v2, y0, y1, y2, n, rfl, rfl, rfl, g0, g1, g2⟩ := open_agg3 hu hone three_tree hv h
  rw [t0] at g0
  rw [t1] at g1
  rw [t2] at g2
  obtain ⟨m, e1, rfl, -⟩ := DataW.trod_int Try.underlying3 g1
  obtain ⟨b, e2, rfl, -⟩ := DataW.trod_int Try.underlying3 g2
  simp only [List.cons.injEq, and_true] at e1 e2
  obtain ⟨L, a, cap, rfl, hN, hl, hy⟩ := open_nodes g0 R (fun z hz => hR z (by
    unfold DataW.weights
    rw [hu]
    show z ∈ DataW.weightsEach Try.prog [f0.type, f1.type, f2.type] [y0.1, _, _]
    rw [t0]
    simp only [DataW.weightsEach, List.mem_append]
    exact Or.inl hz))
  refine ⟨L, a, cap, m, b, by rw [e1, e2], hN, ⟨by omega, fun k hk => ?_, fun k hk => ?_, fun k hk => by have := (hy _ (List.getElem_mem hk)).1; omega⟩⟩
  · have := (hy _ (List.getElem_mem hk)).2.1
    omega
  · have h1 := (hy _ (List.getElem_mem hk)).1
    exact ⟨by omega, fun e he => by have := (hy _ (List.getElem_mem hk)).2.2 e he; omega⟩
end
end Go.Proofs.Ytblmlgpajmaliaa
