/-
  A tree that can be read as data lies in memory as NodesIn says, and nothing of it is longer than any machine's.
-/
import Derived.Deep.Slices
import Derived.Deep.Fields
import Derived.Lib.SmallJoins
import Derived.SizedLaws
import Derived.Test.YtclhpedecimicaaGreatK12
import Derived.Test.YtclhpedecimicaaGreatTPlain3
namespace Go.Proofs.YtclhpedecimicaaGreat
set_option maxRecDepth 100000
open Go.ChangeShapes Go.WideShapes Go.Deep Go.Joins
open Go Go.RowKit

section
variable {H : Type} {enc : TypeId × Value → H} {w : World} {base : Nat} {spare : Nat → Bool} {held : Bool}

theorem entry_fields : ∃ f0 f1 : Field, Tryz.prog.underlying 38 = some (.struct #[f0, f1]) ∧ f0.offset = 0 ∧ f1.offset = 1 ∧ f0.type = 9 ∧ f1.type = 3 :=
  ⟨_, _, Tryz.underlying38, rfl, rfl, rfl, rfl⟩
theorem inode_fields : ∃ f0 f1 f2 f3 f4 f5 : Field, Tryz.prog.underlying 36 = some (.struct #[f0, f1, f2, f3, f4, f5]) ∧ f0.offset = 0 ∧ f1.offset = 1 ∧ f2.offset = 2 ∧ f3.offset = 3 ∧ f4.offset = 4 ∧ f5.offset = 5 ∧
    f0.type = 3 ∧ f1.type = 3 ∧ f2.type = 3 ∧ f3.type = 9 ∧ f4.type = 34 ∧ f5.type = 3 :=
  ⟨_, _, _, _, _, _, Tryz.underlying36, rfl, rfl, rfl, rfl, rfl, rfl, rfl, rfl, rfl, rfl, rfl, rfl⟩
theorem one_kids : Tryz.prog.cellsOf 34 = 1 := by kernel_rfl
theorem two_entry : Tryz.prog.cellsOf 38 = 2 := by kernel_rfl
theorem six_inode : Tryz.prog.cellsOf 36 = 6 := by kernel_rfl
theorem bytes_entry : Tryz.prog.bytesOf 38 = 24 := by kernel_rfl
theorem bytes_inode : Tryz.prog.bytesOf 36 = 72 := by kernel_rfl


theorem open_kids {fuel : Nat} {v : Value} {x : DataW H × List MemPlace} (h : DataW.trod enc Tryz.prog w base (fun _ => true) held fuel 34 [v] = some x) (R : Nat) (hR : ∀ z ∈ x.1.weights Tryz.prog 34, z ≤ R) :
    ∃ M : List (List UInt8 × Int), KidsIn w v M ∧ M.length * 24 ≤ R ∧ ∀ e ∈ M, e.1.length ≤ R := by
  obtain ⟨a, len, cap, rfl, hl, hm, hb, hi⟩ := slice_at Tryz.underlying34 two_entry (by decide) h R hR
  rw [bytes_entry] at hb
  obtain ⟨f0, f1, hu, o0, o1, t0, t1⟩ := entry_fields
  have hone : ∀ i, i < len → ∃ (s : List UInt8) (z : Int), s.length ≤ R ∧ ∃ b o, a = some ⟨b, o, none⟩ ∧ w.cell? ⟨b, o + i * 2, none⟩ = some (.string ⟨s.toArray⟩) ∧ w.cell? ⟨b, o + i * 2 + 1, none⟩ = some (.int .i64 z) := fun i hil => by
    obtain ⟨b, o, ha, n, cs, y, hy, hyR, hcl, hc⟩ := hi i hil
    have c0 := hc 0 (by decide)
    have c1 := hc 1 (by decide)
    rw [some_at (show 0 < cs.length by omega)] at c0
    rw [some_at (show 1 < cs.length by omega)] at c1
    obtain ⟨n0, y0, hy0, hw0⟩ := part_at hu hy 0 f0 rfl o0 (by rw [t0]; exact one_string) _ (some_at (show 0 < cs.length by omega))
    obtain ⟨n1, y1, hy1, hw1⟩ := part_at hu hy 1 f1 rfl o1 (by rw [t1]; exact one_int) _ (some_at (show 1 < cs.length by omega))
    rw [t0] at hy0 hw0
    rw [t1] at hy1
    obtain ⟨s, e0, rfl, hs⟩ := DataW.trod_string Tryz.underlying9 hy0
    obtain ⟨z, e1, rfl, -⟩ := DataW.trod_int Tryz.underlying3 hy1
    simp only [List.cons.injEq, and_true] at e0 e1
    rw [e0] at c0
    rw [e1] at c1
    refine ⟨s.data.toList, z, hyR _ (hw0 _ (by simp [DataW.weights])), b, o, ha, c0, c1⟩
  -- the list
  have hex : ∃ M : List (List UInt8 × Int), M.length = len ∧ (∀ e ∈ M, e.1.length ≤ R) ∧ ∀ i (hi : i < M.length), ∃ b o, a = some ⟨b, o, none⟩ ∧ w.cell? ⟨b, o + i * 2, none⟩ = some (.string ⟨M[i].1.toArray⟩) ∧ w.cell? ⟨b, o + i * 2 + 1, none⟩ = some (.int .i64 M[i].2) := by
    clear hl hm hb hi h
    induction len with
    | zero => exact ⟨[], rfl, by simp, fun i hi => absurd hi (Nat.not_lt_zero _)⟩
    | succ len ih =>
      obtain ⟨M, h1, h2, h3⟩ := ih (fun i hi => hone i (by omega))
      obtain ⟨s, z, hs, hc⟩ := hone len (Nat.lt_succ_self _)
      refine ⟨M ++ [(s, z)], by simp [h1], fun e he => ?_, fun i hi => ?_⟩
      · rcases List.mem_append.1 he with he | he
        · exact h2 e he
        · simp only [List.mem_singleton] at he
          subst he
          exact hs
      · by_cases hil : i < M.length
        · rw [List.getElem_append_left hil]
          exact h3 i hil
        · have e : i = M.length := by simp at hi; omega
          subst e
          rw [List.getElem_concat_length rfl, h1]
          exact hc
  obtain ⟨M, h1, h2, h3⟩ := hex
  subst h1
  exact ⟨M, ⟨a, cap, rfl, hl, hm, h3⟩, hb, h2⟩

theorem open_nodes {fuel : Nat} {v : Value} {x : DataW H × List MemPlace} (h : DataW.trod enc Tryz.prog w base (fun _ => true) held fuel 22 [v] = some x) (R : Nat) (hR : ∀ z ∈ x.1.weights Tryz.prog 22, z ≤ R) :
    ∃ (L : List Ino) (a : Option Addr) (cap : Nat), v = .slice a L.length cap ∧ NodesIn w a cap L ∧ L.length * 72 ≤ R ∧ ∀ y ∈ L, y.data.length ≤ R ∧ y.kids.length * 24 ≤ R ∧ ∀ e ∈ y.kids, e.1.length ≤ R := by
  obtain ⟨a, len, cap, rfl, hl, hm, hb, hi⟩ := slice_at Tryz.underlying22 six_inode (by decide) h R hR
  rw [bytes_inode] at hb
  obtain ⟨f0, f1, f2, f3, f4, f5, hu, o0, o1, o2, o3, o4, o5, t0, t1, t2, t3, t4, t5⟩ := inode_fields
  have hone : ∀ i, i < len → ∃ y : Ino, (y.data.length ≤ R ∧ y.kids.length * 24 ≤ R ∧ ∀ e ∈ y.kids, e.1.length ≤ R) ∧ ∃ b o, a = some ⟨b, o, none⟩ ∧ NodeIn w b (o + i * 6) y := fun i hil => by
    obtain ⟨b, o, ha, n, cs, y, hy, hyR, hcl, hc⟩ := hi i hil
    have c0 := hc 0 (by decide)
    have c1 := hc 1 (by decide)
    have c2 := hc 2 (by decide)
    have c3 := hc 3 (by decide)
    have c4 := hc 4 (by decide)
    have c5 := hc 5 (by decide)
    rw [some_at (show 0 < cs.length by omega)] at c0
    rw [some_at (show 1 < cs.length by omega)] at c1
    rw [some_at (show 2 < cs.length by omega)] at c2
    rw [some_at (show 3 < cs.length by omega)] at c3
    rw [some_at (show 4 < cs.length by omega)] at c4
    rw [some_at (show 5 < cs.length by omega)] at c5
    obtain ⟨n0, y0, hy0, hw0⟩ := part_at hu hy 0 f0 rfl o0 (by rw [t0]; exact one_int) _ (some_at (show 0 < cs.length by omega))
    obtain ⟨n1, y1, hy1, hw1⟩ := part_at hu hy 1 f1 rfl o1 (by rw [t1]; exact one_int) _ (some_at (show 1 < cs.length by omega))
    obtain ⟨n2, y2, hy2, hw2⟩ := part_at hu hy 2 f2 rfl o2 (by rw [t2]; exact one_int) _ (some_at (show 2 < cs.length by omega))
    obtain ⟨n3, y3, hy3, hw3⟩ := part_at hu hy 3 f3 rfl o3 (by rw [t3]; exact one_string) _ (some_at (show 3 < cs.length by omega))
    obtain ⟨n4, y4, hy4, hw4⟩ := part_at hu hy 4 f4 rfl o4 (by rw [t4]; exact one_kids) _ (some_at (show 4 < cs.length by omega))
    obtain ⟨n5, y5, hy5, hw5⟩ := part_at hu hy 5 f5 rfl o5 (by rw [t5]; exact one_int) _ (some_at (show 5 < cs.length by omega))
    rw [t0] at hy0
    rw [t1] at hy1
    rw [t2] at hy2
    rw [t3] at hy3 hw3
    rw [t4] at hy4 hw4
    rw [t5] at hy5
    obtain ⟨z0, e0, rfl, -⟩ := DataW.trod_int Tryz.underlying3 hy0
    obtain ⟨z1, e1, rfl, -⟩ := DataW.trod_int Tryz.underlying3 hy1
    obtain ⟨z2, e2, rfl, -⟩ := DataW.trod_int Tryz.underlying3 hy2
    obtain ⟨s, e3, rfl, hs⟩ := DataW.trod_string Tryz.underlying9 hy3
    obtain ⟨z5, e5, rfl, -⟩ := DataW.trod_int Tryz.underlying3 hy5
    obtain ⟨M, hM, hM1, hM2⟩ := open_kids hy4 R (fun z hz => hyR z (hw4 z hz))
    simp only [List.cons.injEq, and_true] at e0 e1 e2 e3 e5
    rw [e0] at c0
    rw [e1] at c1
    rw [e2] at c2
    rw [e3] at c3
    rw [e5] at c5
    exact ⟨⟨z0, z1, z2, s.data.toList, M, z5⟩, ⟨hyR _ (hw3 _ (by simp [DataW.weights])), hM1, hM2⟩, b, o, ha, ⟨c0, c1, c2, c3, ⟨_, c4, hM⟩, c5⟩⟩
  have hex : ∃ L : List Ino, L.length = len ∧ (∀ y ∈ L, y.data.length ≤ R ∧ y.kids.length * 24 ≤ R ∧ ∀ e ∈ y.kids, e.1.length ≤ R) ∧ ∀ i (hi : i < L.length), ∃ b o, a = some ⟨b, o, none⟩ ∧ NodeIn w b (o + i * 6) L[i] := by
    clear hl hm hb hi h
    induction len with
    | zero => exact ⟨[], rfl, by simp, fun i hi => absurd hi (Nat.not_lt_zero _)⟩
    | succ len ih =>
      obtain ⟨L, h1, h2, h3⟩ := ih (fun i hi => hone i (by omega))
      obtain ⟨y, hy, hc⟩ := hone len (Nat.lt_succ_self _)
      refine ⟨L ++ [y], by simp [h1], fun e he => ?_, fun i hi => ?_⟩
      · rcases List.mem_append.1 he with he | he
        · exact h2 e he
        · simp only [List.mem_singleton] at he
          subst he
          exact hy
      · by_cases hil : i < L.length
        · rw [List.getElem_append_left hil]
          exact h3 i hil
        · have e : i = L.length := by simp at hi; omega
          subst e
          rw [List.getElem_concat_length rfl, h1]
          exact hc
  obtain ⟨L, h1, h2, h3⟩ := hex
  subst h1
  exact ⟨L, a, cap, rfl, ⟨hl, hm, h3⟩, hb, h2⟩

theorem tree_fields : ∃ f0 f1 f2 : Field, Tryz.prog.underlying 24 = some (.struct #[f0, f1, f2]) ∧ oneCellFields Tryz.prog #[f0, f1, f2] = true ∧ f0.type = 22 ∧ f1.type = 3 ∧ f2.type = 3 ∧ f0.offset = 0 :=
  ⟨_, _, _, Tryz.underlying24, by kernel_rfl, rfl, rfl, rfl, rfl⟩
theorem three_tree : Tryz.prog.cellsOf 24 = 3 := by kernel_rfl

/-- An argument that is a tree. -/
theorem open_tree {r : Go.Reach} {b0 : Nat} {v : Value} {d : DataW H} {p : List MemPlace} (hv : Value.okWide Tryz.prog w r b0 24 v) (h : DataW.Trod enc Tryz.prog w base (fun _ => true) held 24 v d p)
    (R : Nat) (hR0 : R ≤ 140737488355328) (hR : ∀ z ∈ d.weights Tryz.prog 24, z ≤ R) :
    ∃ (L : List Ino) (a : Option Addr) (cap : Nat) (m b : Int), v = .agg #[.slice a L.length cap, .int .i64 m, .int .i64 b] ∧ NodesIn w a cap L ∧ Proofs.YtclhpedecimicaaGreat.Reach L := by
  obtain ⟨f0, f1, f2, hu, hone, t0, t1, t2, -⟩ := tree_fields
  obtain ⟨v0, v1, v2, y0, y1, y2, n, rfl, rfl, rfl, g0, g1, g2⟩ := open_agg3 hu hone three_tree hv h
  rw [t0] at g0
  rw [t1] at g1
  rw [t2] at g2
  obtain ⟨m, e1, rfl, -⟩ := DataW.trod_int Tryz.underlying3 g1
  obtain ⟨b, e2, rfl, -⟩ := DataW.trod_int Tryz.underlying3 g2
  simp only [List.cons.injEq, and_true] at e1 e2
  obtain ⟨L, a, cap, rfl, hN, hl, hy⟩ := open_nodes g0 R (fun z hz => hR z (by
    unfold DataW.weights
    rw [hu]
    show z ∈ DataW.weightsEach Tryz.prog [f0.type, f1.type, f2.type] [y0.1, _, _]
    rw [t0]
    simp only [DataW.weightsEach, List.mem_append]
    exact Or.inl hz))
  refine ⟨L, a, cap, m, b, by rw [e1, e2], hN, ⟨by omega, fun k hk => ?_, fun k hk => ?_, fun k hk => by have := (hy _ (List.getElem_mem hk)).1; omega⟩⟩
  · have := (hy _ (List.getElem_mem hk)).2.1
    omega
  · have h1 := (hy _ (List.getElem_mem hk)).1
    exact ⟨by omega, fun e he => by have := (hy _ (List.getElem_mem hk)).2.2 e he; omega⟩
end
end Go.Proofs.YtclhpedecimicaaGreat
