/-
  The table of the classes: whatever the order in which Go makes it, each of the twelve names leads to a member that means its class, and no other name leads anywhere.
-/
import Derived.Test.YtfldhggmgepcjaaMaps
import Derived.Laws.EntriesVeiled
namespace Go.Proofs.Ytfldhggmgepcjaa
set_option maxRecDepth 100000
open Go Go.RowKit Go.ChangeMaps

def rangeB (l h : Int) (n : Int) : Bool := decide (l ≤ n) && decide (n ≤ h)
/-- The classes, and what is made on the way to them. -/
def clsF : Nat → Int → Bool
  | 0 => fun n => rangeB 65 90 n || rangeB 97 122 n
  | 1 => digB
  | 2 => fun n => (rangeB 65 90 n || rangeB 97 122 n) || digB n
  | 3 => rangeB 65 90
  | 4 => rangeB 97 122
  | 5 => fun n => rangeB 9 13 n || rangeB 32 32 n
  | 6 => blaB
  | 7 => fun n => rangeB 33 126 n && !((rangeB 65 90 n || rangeB 97 122 n) || digB n)
  | 8 => rangeB 32 126
  | 9 => rangeB 33 126
  | 10 => fun n => rangeB 0 31 n || rangeB 127 127 n
  | 11 => fun n => digB n || (rangeB 65 70 n || rangeB 97 102 n)
  | 12 => rangeB 9 13
  | 13 => rangeB 32 32
  | 14 => rangeB 0 31
  | 15 => rangeB 127 127
  | 16 => rangeB 65 70
  | 17 => rangeB 97 102
  | _ => fun n => rangeB 65 70 n || rangeB 97 102 n

/-- Operation, slot, class: the operations of the region that make a member. -/
def valRows : List (Nat × Nat × Nat) := [(1, 15, 0), (4, 16, 2), (6, 17, 3), (8, 18, 4), (10, 19, 12), (11, 20, 13), (12, 21, 5), (15, 22, 7), (17, 23, 8), (19, 24, 9), (21, 25, 14), (22, 26, 15), (23, 27, 10), (25, 28, 16), (26, 29, 17), (27, 30, 18), (28, 31, 11)]
/-- Operation, name, class: the operations of the region that lay an entry. -/
def insRows : List (Nat × ByteArray × Nat) := [(2, ⟨#[97, 108, 112, 104, 97]⟩, 0), (3, ⟨#[100, 105, 103, 105, 116]⟩, 1), (5, ⟨#[97, 108, 110, 117, 109]⟩, 2), (7, ⟨#[117, 112, 112, 101, 114]⟩, 3), (9, ⟨#[108, 111, 119, 101, 114]⟩, 4), (13, ⟨#[115, 112, 97, 99, 101]⟩, 5), (14, ⟨#[98, 108, 97, 110, 107]⟩, 6), (16, ⟨#[112, 117, 110, 99, 116]⟩, 7), (18, ⟨#[112, 114, 105, 110, 116]⟩, 8), (20, ⟨#[103, 114, 97, 112, 104]⟩, 9), (24, ⟨#[99, 110, 116, 114, 108]⟩, 10), (29, ⟨#[120, 100, 105, 103, 105, 116]⟩, 11)]

def insOf : Nat → Nat × ByteArray × Nat
  | 2 => (2, ⟨#[97, 108, 112, 104, 97]⟩, 0)
  | 3 => (3, ⟨#[100, 105, 103, 105, 116]⟩, 1)
  | 5 => (5, ⟨#[97, 108, 110, 117, 109]⟩, 2)
  | 7 => (7, ⟨#[117, 112, 112, 101, 114]⟩, 3)
  | 9 => (9, ⟨#[108, 111, 119, 101, 114]⟩, 4)
  | 13 => (13, ⟨#[115, 112, 97, 99, 101]⟩, 5)
  | 14 => (14, ⟨#[98, 108, 97, 110, 107]⟩, 6)
  | 16 => (16, ⟨#[112, 117, 110, 99, 116]⟩, 7)
  | 18 => (18, ⟨#[112, 114, 105, 110, 116]⟩, 8)
  | 20 => (20, ⟨#[103, 114, 97, 112, 104]⟩, 9)
  | 24 => (24, ⟨#[99, 110, 116, 114, 108]⟩, 10)
  | 29 => (29, ⟨#[120, 100, 105, 103, 105, 116]⟩, 11)
  | _ => (2, ⟨#[97, 108, 112, 104, 97]⟩, 0)
theorem insOf_eq : ∀ r ∈ insRows, r = insOf r.1 := by
  intro r hr
  simp only [insRows, List.mem_cons, List.not_mem_nil, or_false] at hr
  rcases hr with rfl | rfl | rfl | rfl | rfl | rfl | rfl | rfl | rfl | rfl | rfl | rfl <;> rfl

/-- What the map holds when some of the entries have been laid. -/
structure MapOk (listed : Array Bool) (es : Array MapEntry) (w : World) : Prop where
  keys : StrKeys es
  means : ∀ e ∈ es.toList, ∃ r ∈ insRows, e.key = .string r.2.1 ∧ Means w e.val (clsF r.2.2)
  has : ∀ r ∈ insRows, listed.getD r.1 false = true → ∃ e ∈ es.toList, e.key = .string r.2.1

/-- What holds when some of the region's operations have been carried out. -/
structure Inv (w0 : World) (v1 v2 v3 v4 v5 : Value) (p4 p5 : Nat) (listed : Array Bool) (a : Act) (w : World) : Prop where
  below : Below w0.heap.size w0 w
  size : a.tmps.size = 33
  defers : a.defers = []
  s1 : a.tmps[1]? = some v1
  s2 : a.tmps[2]? = some v2
  s3 : a.tmps[3]? = some v3
  s4 : a.tmps[4]? = some (.pointer (some ⟨p4, 0, none⟩))
  s5 : a.tmps[5]? = some (.pointer (some ⟨p5, 0, none⟩))
  h4 : w.heap[p4]? = some (.cells #[v4] 106 (0, 0))
  h5 : w.heap[p5]? = some (.cells #[v5] 106 (0, 0))
  m1 : Means w v1 (clsF 3)
  m2 : Means w v2 (clsF 4)
  m3 : Means w v3 (clsF 0)
  m4 : Means w v4 (clsF 2)
  m5 : Means w v5 (clsF 9)
  vals : ∀ r ∈ valRows, listed.getD r.1 false = true → ∃ v, a.tmps[r.2.1]? = some v ∧ Means w v (clsF r.2.2)
  first : ∀ r ∈ insRows, listed.getD r.1 false = true → listed.getD 0 false = true
  map : listed.getD 0 false = true → ∃ m es clock, a.tmps[14]? = some (.map (some m)) ∧ w0.heap.size ≤ m ∧ w.heap[m]? = some (.map es clock) ∧ MapOk listed es w
  late30 : listed.getD 30 false = true → listed.getD 0 false = true
  late31 : listed.getD 31 false = true → listed.getD 30 false = true
  s32 : listed.getD 30 false = true → a.tmps[32]? = a.tmps[14]?
  s0 : listed.getD 31 false = true → a.tmps[0]? = a.tmps[14]?

theorem getD_set (listed : Array Bool) (i j : Nat) (hi : i < listed.size) : (listed.setIfInBounds i true).getD j false = if j = i then true else listed.getD j false := by
  simp only [Array.getD_eq_getD_getElem?, Array.getElem?_setIfInBounds]
  by_cases h : i = j
  · subst h; simp [hi]
  · have h' : ¬ j = i := fun e => h e.symm
    simp [h, h']

theorem put_same (a : Act) (d : Nat) (v : Value) (hd : d < a.tmps.size) : (a.put (some d) v).tmps[d]? = some v := by
  simp [Act.put, hd]
theorem put_other (a : Act) (d e : Nat) (v : Value) (h : d ≠ e) : (a.put (some d) v).tmps[e]? = a.tmps[e]? := by
  simp [Act.put, h]
theorem put_size (a : Act) (d : Nat) (v : Value) : (a.put (some d) v).tmps.size = a.tmps.size := by
  simp [Act.put]

theorem MapOk.keeps {listed : Array Bool} {es : Array MapEntry} {w w' : World} (h : MapOk listed es w) (hk : Keeps w w') : MapOk listed es w' :=
  ⟨h.keys, fun e he => by obtain ⟨r, h1, h2, h3⟩ := h.means e he; exact ⟨r, h1, h2, h3.keeps hk⟩, h.has⟩

section
variable {w0 w w' : World} {v1 v2 v3 v4 v5 : Value} {p4 p5 : Nat} {listed : Array Bool} {a : Act}

/-- An operation that makes a member and puts it into its slot. -/
theorem Inv.val (h : Inv w0 v1 v2 v3 v4 v5 p4 p5 listed a w) (hl : listed.size = 32) (i d c : Nat) (hi : i < 32) (v : Value)
    (hm : Means w' v (clsF c)) (hb : Below w.heap.size w w')
    (hd : d < 33) (hd2 : d ∉ [0, 1, 2, 3, 4, 5, 14, 32]) (hr : ∀ r ∈ valRows, (r.2.1 = d → r = (i, d, c)) ∧ (r.1 = i → r = (i, d, c))) (hn : ∀ r ∈ insRows, r.1 ≠ i) (h0 : i ≠ 0) (h30 : i ≠ 30) (h31 : i ≠ 31) :
    Inv w0 v1 v2 v3 v4 v5 p4 p5 (listed.setIfInBounds i true) (a.put (some d) v) w' := by
  have hk : Keeps w w' := Keeps.of_below hb
  simp only [List.mem_cons, List.not_mem_nil, or_false, not_or] at hd2
  obtain ⟨e0, e1, e2, e3, e4, e5, e14, e32⟩ := hd2
  have hin : i < listed.size := by omega
  refine ⟨h.below.trans (hb.mono h.below.size), by rw [put_size]; exact h.size, h.defers, ?_, ?_, ?_, ?_, ?_, hk _ _ ⟨_, _, _, rfl⟩ h.h4, hk _ _ ⟨_, _, _, rfl⟩ h.h5, h.m1.keeps hk, h.m2.keeps hk, h.m3.keeps hk, h.m4.keeps hk, h.m5.keeps hk, ?_, ?_, ?_, ?_, ?_, ?_, ?_⟩
  · rw [put_other _ _ _ _ e1]; exact h.s1
  · rw [put_other _ _ _ _ e2]; exact h.s2
  · rw [put_other _ _ _ _ e3]; exact h.s3
  · rw [put_other _ _ _ _ e4]; exact h.s4
  · rw [put_other _ _ _ _ e5]; exact h.s5
  · intro r hrm hrl
    rw [getD_set _ _ _ hin] at hrl
    by_cases e : r.1 = i
    · have := (hr r hrm).2 e
      subst this
      exact ⟨v, put_same _ _ _ (by rw [h.size]; exact hd), hm⟩
    · rw [if_neg e] at hrl
      obtain ⟨u, hu, hmu⟩ := h.vals r hrm hrl
      have hne : d ≠ r.2.1 := fun e' => e (by rw [(hr r hrm).1 e'.symm])
      exact ⟨u, by rw [put_other _ _ _ _ hne]; exact hu, hmu.keeps hk⟩
  · intro r hrm hrl
    rw [getD_set _ _ _ hin, if_neg (hn r hrm)] at hrl
    rw [getD_set _ _ _ hin, if_neg (Ne.symm h0)]
    exact h.first r hrm hrl
  · intro hl0
    rw [getD_set _ _ _ hin, if_neg (Ne.symm h0)] at hl0
    obtain ⟨m, es, clock, g1, g2, g3, g4⟩ := h.map hl0
    refine ⟨m, es, clock, by rw [put_other _ _ _ _ e14]; exact g1, g2, by rw [hb.block m (lt_of_block g3)]; exact g3, (g4.keeps hk).keys, (g4.keeps hk).means, ?_⟩
    intro r hrm hrl
    rw [getD_set _ _ _ hin, if_neg (hn r hrm)] at hrl
    exact g4.has r hrm hrl
  · intro hl0
    rw [getD_set _ _ _ hin, if_neg (Ne.symm h30)] at hl0
    rw [getD_set _ _ _ hin, if_neg (Ne.symm h0)]
    exact h.late30 hl0
  · intro hl0
    rw [getD_set _ _ _ hin, if_neg (Ne.symm h31)] at hl0
    rw [getD_set _ _ _ hin, if_neg (Ne.symm h30)]
    exact h.late31 hl0
  · intro hl0
    rw [getD_set _ _ _ hin, if_neg (Ne.symm h30)] at hl0
    rw [put_other _ _ _ _ e32, put_other _ _ _ _ e14]
    exact h.s32 hl0
  · intro hl0
    rw [getD_set _ _ _ hin, if_neg (Ne.symm h31)] at hl0
    rw [put_other _ _ _ _ e0, put_other _ _ _ _ e14]
    exact h.s0 hl0

/-- The operation that makes the map. -/
theorem Inv.made (h : Inv w0 v1 v2 v3 v4 v5 p4 p5 listed a w) (hl : listed.size = 32) (hn : listed.getD 0 false = false) :
    Inv w0 v1 v2 v3 v4 v5 p4 p5 (listed.setIfInBounds 0 true) (a.put (some 14) (.map (some w.heap.size))) (w.alloc (.map #[] 0)) := by
  have hk : Keeps w (w.alloc (.map #[] 0)) := Keeps.alloc _ _
  have hin : 0 < listed.size := by omega
  refine ⟨h.below.alloc h.below.size _, by rw [put_size]; exact h.size, h.defers, ?_, ?_, ?_, ?_, ?_, hk _ _ ⟨_, _, _, rfl⟩ h.h4, hk _ _ ⟨_, _, _, rfl⟩ h.h5, h.m1.keeps hk, h.m2.keeps hk, h.m3.keeps hk, h.m4.keeps hk, h.m5.keeps hk, ?_, ?_, ?_, ?_, ?_, ?_, ?_⟩
  · rw [put_other _ _ _ _ (by decide)]; exact h.s1
  · rw [put_other _ _ _ _ (by decide)]; exact h.s2
  · rw [put_other _ _ _ _ (by decide)]; exact h.s3
  · rw [put_other _ _ _ _ (by decide)]; exact h.s4
  · rw [put_other _ _ _ _ (by decide)]; exact h.s5
  · intro r hrm hrl
    have e : ∀ r ∈ valRows, r.1 ≠ 0 ∧ 14 ≠ r.2.1 := by decide
    rw [getD_set _ _ _ hin, if_neg (e r hrm).1] at hrl
    obtain ⟨u, hu, hmu⟩ := h.vals r hrm hrl
    exact ⟨u, by rw [put_other _ _ _ _ (e r hrm).2]; exact hu, hmu.keeps hk⟩
  · intro r _ _
    rw [getD_set _ _ _ hin, if_pos rfl]
  · intro _
    refine ⟨w.heap.size, #[], 0, put_same _ _ _ (by rw [h.size]; decide), h.below.size, heap_last w _, fun e he => ?_, fun e he => ?_, fun r hrm hrl => ?_⟩
    · simp at he
    · simp at he
    · exfalso
      have e : ∀ r ∈ insRows, r.1 ≠ 0 := by decide
      rw [getD_set _ _ _ hin, if_neg (e r hrm)] at hrl
      rw [h.first r hrm hrl] at hn
      cases hn
  · intro _
    rw [getD_set _ _ _ hin, if_pos rfl]
  · intro hl0
    rw [getD_set _ _ _ hin, if_neg (by decide)] at hl0
    rw [getD_set _ _ _ hin, if_neg (by decide)]
    exact h.late31 hl0
  · intro hl0
    exfalso
    rw [getD_set _ _ _ hin, if_neg (by decide)] at hl0
    rw [h.late30 hl0] at hn
    cases hn
  · intro hl0
    exfalso
    rw [getD_set _ _ _ hin, if_neg (by decide)] at hl0
    rw [h.late30 (h.late31 hl0)] at hn
    cases hn

theorem eval_tmp {a : Act} {t : Nat} {v : Value} (h : a.tmps[t]? = some v) : a.eval (.tmp t) = v := by
  simp [Act.eval, Array.getD_eq_getD_getElem?, h]

theorem keeps_set (w : World) (m : Nat) (es es' : Array MapEntry) (c c' : Nat) (hb : w.heap[m]? = some (.map es c)) : Keeps w (setBlock w m (.map es' c')) := by
  intro b o ho hbo
  by_cases e : b = m
  · subst e
    rw [hb] at hbo
    obtain ⟨cs, t, fz, rfl⟩ := ho
    cases hbo
  · rw [heap_setBlock_other hb _ e]
    exact hbo

theorem insSize : ∀ r ∈ insRows, r.2.1.size ≤ maxLen := by
  intro r hr
  simp only [insRows, List.mem_cons, List.not_mem_nil, or_false] at hr
  rcases hr with rfl | rfl | rfl | rfl | rfl | rfl | rfl | rfl | rfl | rfl | rfl | rfl <;> decide

/-- An operation that lays an entry. -/
theorem Inv.ins (h : Inv w0 v1 v2 v3 v4 v5 p4 p5 listed a w) (hl : listed.size = 32) (i : Nat) (key : ByteArray) (c : Nat) (hi : i < 32) (hrow : (i, key, c) ∈ insRows) (v : Value)
    (hm : Means w v (clsF c)) (hl0 : listed.getD 0 false = true) (hr : ∀ r ∈ valRows, r.1 ≠ i) (h0 : i ≠ 0) (h30 : i ≠ 30) (h31 : i ≠ 31) :
    ∃ w', (Instr.mapUpdate 108 (a.eval (.tmp 14)) (.string key) v).run Try.prog w = .ok () w' ∧ Inv w0 v1 v2 v3 v4 v5 p4 p5 (listed.setIfInBounds i true) a w' := by
  have hin : i < listed.size := by omega
  obtain ⟨m, es, clock, g1, g2, g3, g4⟩ := h.map hl0
  obtain ⟨es', clock', hrun, k1, k2, k3, k4⟩ := run_insert w m es clock g3 g4.keys key (insSize _ hrow) v
  have hk : Keeps w (setBlock w m (.map es' clock')) := keeps_set w m es es' clock clock' g3
  refine ⟨_, by rw [eval_tmp g1]; exact hrun, ?_⟩
  refine ⟨h.below.trans ⟨rfl, rfl, rfl, by simp [setBlock], fun k hk => heap_setBlock_other g3 _ (by omega)⟩, h.size, h.defers, h.s1, h.s2, h.s3, h.s4, h.s5, hk _ _ ⟨_, _, _, rfl⟩ h.h4, hk _ _ ⟨_, _, _, rfl⟩ h.h5, h.m1.keeps hk, h.m2.keeps hk, h.m3.keeps hk, h.m4.keeps hk, h.m5.keeps hk, ?_, ?_, ?_, ?_, ?_, ?_, ?_⟩
  · intro r hrm hrl
    rw [getD_set _ _ _ hin, if_neg (hr r hrm)] at hrl
    obtain ⟨u, hu, hmu⟩ := h.vals r hrm hrl
    exact ⟨u, hu, hmu.keeps hk⟩
  · intro r _ _
    rw [getD_set _ _ _ hin, if_neg (Ne.symm h0)]
    exact hl0
  · intro _
    refine ⟨m, es', clock', g1, g2, heap_setBlock_same g3 _, k1, fun e he => ?_, fun r hrm hrl => ?_⟩
    · rcases k2 e he with he | ⟨he1, he2⟩
      · obtain ⟨r, q1, q2, q3⟩ := g4.means e he
        exact ⟨r, q1, q2, q3.keeps hk⟩
      · exact ⟨_, hrow, he1, by rw [he2]; exact hm.keeps hk⟩
    · rw [getD_set _ _ _ hin] at hrl
      by_cases e : r.1 = i
      · have e1 := insOf_eq r hrm
        have e2 := insOf_eq _ hrow
        rw [e] at e1
        rw [e1, ← e2]
        exact k3
      · rw [if_neg e] at hrl
        exact k4 _ (g4.has r hrm hrl)
  · intro hl1
    rw [getD_set _ _ _ hin, if_neg (Ne.symm h30)] at hl1
    rw [getD_set _ _ _ hin, if_neg (Ne.symm h0)]
    exact h.late30 hl1
  · intro hl1
    rw [getD_set _ _ _ hin, if_neg (Ne.symm h31)] at hl1
    rw [getD_set _ _ _ hin, if_neg (Ne.symm h30)]
    exact h.late31 hl1
  · intro hl1
    rw [getD_set _ _ _ hin, if_neg (Ne.symm h30)] at hl1
    exact h.s32 hl1
  · intro hl1
    rw [getD_set _ _ _ hin, if_neg (Ne.symm h31)] at hl1
    exact h.s0 hl1

/-- The two operations at the end: the map goes into its slots. -/
theorem Inv.last (h : Inv w0 v1 v2 v3 v4 v5 p4 p5 listed a w) (hl : listed.size = 32) (hl0 : listed.getD 0 false = true) :
    Inv w0 v1 v2 v3 v4 v5 p4 p5 (listed.setIfInBounds 30 true) (a.put (some 32) (a.eval (.tmp 14))) w := by
  have hin : 30 < listed.size := by omega
  refine ⟨h.below, by rw [put_size]; exact h.size, h.defers, ?_, ?_, ?_, ?_, ?_, h.h4, h.h5, h.m1, h.m2, h.m3, h.m4, h.m5, ?_, ?_, ?_, ?_, ?_, ?_, ?_⟩
  · rw [put_other _ _ _ _ (by decide)]; exact h.s1
  · rw [put_other _ _ _ _ (by decide)]; exact h.s2
  · rw [put_other _ _ _ _ (by decide)]; exact h.s3
  · rw [put_other _ _ _ _ (by decide)]; exact h.s4
  · rw [put_other _ _ _ _ (by decide)]; exact h.s5
  · intro r hrm hrl
    have e : ∀ r ∈ valRows, r.1 ≠ 30 ∧ 32 ≠ r.2.1 := by decide
    rw [getD_set _ _ _ hin, if_neg (e r hrm).1] at hrl
    obtain ⟨u, hu, hmu⟩ := h.vals r hrm hrl
    exact ⟨u, by rw [put_other _ _ _ _ (e r hrm).2]; exact hu, hmu⟩
  · intro r _ _
    rw [getD_set _ _ _ hin, if_neg (by decide)]
    exact hl0
  · intro _
    obtain ⟨m, es, clock, g1, g2, g3, g4⟩ := h.map hl0
    refine ⟨m, es, clock, by rw [put_other _ _ _ _ (by decide)]; exact g1, g2, g3, g4.keys, g4.means, fun r hrm hrl => ?_⟩
    have e : ∀ r ∈ insRows, r.1 ≠ 30 := by decide
    rw [getD_set _ _ _ hin, if_neg (e r hrm)] at hrl
    exact g4.has r hrm hrl
  · intro _
    rw [getD_set _ _ _ hin, if_neg (by decide)]
    exact hl0
  · intro _
    rw [getD_set _ _ _ hin, if_pos rfl]
  · intro _
    obtain ⟨m, es, clock, g1, g2, g3, g4⟩ := h.map hl0
    rw [put_same _ _ _ (by rw [h.size]; decide), put_other _ _ _ _ (by decide), eval_tmp g1, g1]
  · intro hl1
    rw [getD_set _ _ _ hin, if_neg (by decide)] at hl1
    rw [put_other _ _ _ _ (by decide), put_other _ _ _ _ (by decide)]
    exact h.s0 hl1

theorem Inv.told (h : Inv w0 v1 v2 v3 v4 v5 p4 p5 listed a w) (hl : listed.size = 32) (hl30 : listed.getD 30 false = true) :
    Inv w0 v1 v2 v3 v4 v5 p4 p5 (listed.setIfInBounds 31 true) (a.put (some 0) (a.eval (.tmp 32))) w := by
  have hin : 31 < listed.size := by omega
  have hl0 := h.late30 hl30
  refine ⟨h.below, by rw [put_size]; exact h.size, h.defers, ?_, ?_, ?_, ?_, ?_, h.h4, h.h5, h.m1, h.m2, h.m3, h.m4, h.m5, ?_, ?_, ?_, ?_, ?_, ?_, ?_⟩
  · rw [put_other _ _ _ _ (by decide)]; exact h.s1
  · rw [put_other _ _ _ _ (by decide)]; exact h.s2
  · rw [put_other _ _ _ _ (by decide)]; exact h.s3
  · rw [put_other _ _ _ _ (by decide)]; exact h.s4
  · rw [put_other _ _ _ _ (by decide)]; exact h.s5
  · intro r hrm hrl
    have e : ∀ r ∈ valRows, r.1 ≠ 31 ∧ 0 ≠ r.2.1 := by decide
    rw [getD_set _ _ _ hin, if_neg (e r hrm).1] at hrl
    obtain ⟨u, hu, hmu⟩ := h.vals r hrm hrl
    exact ⟨u, by rw [put_other _ _ _ _ (e r hrm).2]; exact hu, hmu⟩
  · intro r _ _
    rw [getD_set _ _ _ hin, if_neg (by decide)]
    exact hl0
  · intro _
    obtain ⟨m, es, clock, g1, g2, g3, g4⟩ := h.map hl0
    refine ⟨m, es, clock, by rw [put_other _ _ _ _ (by decide)]; exact g1, g2, g3, g4.keys, g4.means, fun r hrm hrl => ?_⟩
    have e : ∀ r ∈ insRows, r.1 ≠ 31 := by decide
    rw [getD_set _ _ _ hin, if_neg (e r hrm)] at hrl
    exact g4.has r hrm hrl
  · intro _
    rw [getD_set _ _ _ hin, if_neg (by decide)]
    exact hl0
  · intro _
    rw [getD_set _ _ _ hin, if_neg (by decide)]
    exact hl30
  · intro _
    rw [put_other _ _ _ _ (by decide), put_other _ _ _ _ (by decide)]
    exact h.s32 hl30
  · intro _
    obtain ⟨m, es, clock, g1, g2, g3, g4⟩ := h.map hl0
    have e32 := h.s32 hl30
    rw [g1] at e32
    rw [put_same _ _ _ (by rw [h.size]; decide), put_other _ _ _ _ (by decide), eval_tmp e32, g1]
end
end Go.Proofs.Ytfldhggmgepcjaa
