/-
  What a member of a class is: a function value that answers, of each byte, whether it is of the class; span, either and the class of the signs make such values out of such values.
-/
import Derived.Test.YtfldhggmgepcjaaBase
import Derived.Test.YtfldhggmgepcjaaKit
import Derived.OneCell
namespace Go.Proofs.Ytfldhggmgepcjaa
set_option maxRecDepth 100000
open Go Go.RowKit

/-- A block of cells. -/
def IsCells (o : Obj) : Prop := ∃ cs t fz, o = .cells cs t fz
/-- Every block of cells stands as it stood. -/
def Keeps (w w' : World) : Prop := ∀ (b : Nat) (o : Obj), IsCells o → w.heap[b]? = some o → w'.heap[b]? = some o
theorem Keeps.refl (w : World) : Keeps w w := fun _ _ _ h => h
theorem Keeps.trans {a b c : World} (h : Keeps a b) (k : Keeps b c) : Keeps a c := fun i o ho hi => k i o ho (h i o ho hi)
theorem Keeps.alloc (w : World) (o : Obj) : Keeps w (w.alloc o) := fun b x _ h => by
  rw [Below.heap_alloc _ _ _ (lt_of_block h)]; exact h
theorem Keeps.drew (w : World) : Keeps w w.drew := fun _ _ _ h => h
theorem Keeps.of_below {w w' : World} (h : Below w.heap.size w w') : Keeps w w' := fun b o _ hb => by
  rw [h.block b (lt_of_block hb)]; exact hb

/-- The value v is a function of Go's that, called with a byte n, answers f n, wherever the blocks that it looks at stand as they stand in w. -/
def Means (w : World) (v : Value) (f : Int → Bool) : Prop :=
  ∃ (k : Nat) (cap : Array Value) (L : List (Nat × Obj)), v = .func (.func k) #[] cap ∧ (∀ (args : Array Value) (W : World), (callFunc k args).run Try.prog W = .ok (.enter k args) W) ∧
    (∀ p ∈ L, IsCells p.2 ∧ w.heap[p.1]? = some p.2) ∧
    ∀ (n : Int) (W : World), (∀ p ∈ L, W.heap[p.1]? = some p.2) → Calls Try.prog k (#[.int .u8 n] ++ cap) W fun e W' => e = .returned (.bool (f n)) ∧ W = W'

theorem Means.keeps {w w' : World} {v : Value} {f : Int → Bool} (h : Means w v f) (hk : Keeps w w') : Means w' v f := by
  obtain ⟨k, cap, L, h1, h2, h3, h4⟩ := h
  exact ⟨k, cap, L, h1, h2, fun p hp => ⟨(h3 p hp).1, hk _ _ (h3 p hp).1 (h3 p hp).2⟩, h4⟩

theorem enters (k : Nat) (fn : Func) (hf : Try.prog.funcs[k]? = some fn) (hn : ¬ fn.name = "runtime.NumGoroutine") (hb : ¬ fn.body = none) :
    ∀ (args : Array Value) (W : World), (callFunc k args).run Try.prog W = .ok (.enter k args) W := by
  intro args W
  simp [callFunc, hf, hn, hb]

/-- A function of the program's own, without captured variables. -/
theorem Means.plain (w : World) (k : Nat) (fn : Func) (hf : Try.prog.funcs[k]? = some fn) (hn : ¬ fn.name = "runtime.NumGoroutine") (hb : ¬ fn.body = none) (f : Int → Bool)
    (h : ∀ (n : Int) (W : World), Calls Try.prog k #[.int .u8 n] W fun e W' => e = .returned (.bool (f n)) ∧ W = W') : Means w (.func (.func k) #[] #[]) f :=
  ⟨k, #[], [], rfl, enters k fn hf hn hb, fun _ hp => (List.not_mem_nil hp).elim, fun n W _ => h n W⟩

theorem digit_means (w : World) : Means w (.func (.func 70) #[] #[]) digB :=
  Means.plain w 70 Try.f70 Try.func70 (by decide) (by intro h; cases h) digB digit_any
theorem blank_means (w : World) : Means w (.func (.func 71) #[] #[]) blaB :=
  Means.plain w 71 Try.f71 Try.func71 (by decide) (by intro h; cases h) blaB blank_any

/-- span's function value: its two bounds lie in two blocks. -/
theorem span1 (n l h : Int) (a b : Nat) (W : World) (ha : W.heap[a]? = some (.cells #[.int .u8 l] 5 (0, 0))) (hb : W.heap[b]? = some (.cells #[.int .u8 h] 5 (0, 0))) :
    Calls Try.prog 73 #[.int .u8 n, .pointer (some ⟨a, 0, none⟩), .pointer (some ⟨b, 0, none⟩)] W fun e W' => e = .returned (.bool (decide (l ≤ n) && decide (n ≤ h))) ∧ W = W' := by
  have ca := cell_of_one ha
  have cb := cell_of_one hb
  clear ha hb
  by_cases h1 : l ≤ n <;> by_cases h2 : n ≤ h <;> go_enter Try.func73, Try.ntmps73 <;> go_wp2 <;> go_ret <;> exact ⟨by simp [h1, h2], rfl⟩

theorem either1 (n : Int) (a b : Nat) (W : World) (va vb : Value) (f g : Int → Bool) (ha : W.heap[a]? = some (.cells #[va] 106 (0, 0))) (hb : W.heap[b]? = some (.cells #[vb] 106 (0, 0)))
    (ma : Means W va f) (mb : Means W vb g) :
    Calls Try.prog 74 #[.int .u8 n, .pointer (some ⟨a, 0, none⟩), .pointer (some ⟨b, 0, none⟩)] W fun e W' => e = .returned (.bool (f n || g n)) ∧ W = W' := by
  have ca := cell_of_one ha
  have cb := cell_of_one hb
  clear ha hb
  obtain ⟨ka, capa, La, rfl, ea, la, ma⟩ := ma
  obtain ⟨kb, capb, Lb, rfl, eb, lb, mb⟩ := mb
  have Ma := Lib.hid (ma n W fun p hp => (la p hp).2)
  have Mb := Lib.hid (mb n W fun p hp => (lb p hp).2)
  clear ma mb la lb
  cases hf : f n with
  | true =>
    rw [hf] at Ma
    go_enter Try.func74, Try.ntmps74
    go_wp2_with fail
    refine Ma.out.mono ?_
    rintro e w' ⟨rfl, rfl⟩
    go_wp2_with fail
    go_ret
    exact ⟨rfl, rfl⟩
  | false =>
    rw [hf] at Ma
    go_enter Try.func74, Try.ntmps74
    go_wp2_with fail
    refine Ma.out.mono ?_
    rintro e w' ⟨rfl, rfl⟩
    go_wp2_with fail
    refine Mb.out.mono ?_
    rintro e w' ⟨rfl, rfl⟩
    go_wp2_with fail
    go_ret
    exact ⟨by simp, rfl⟩

/-- The class of the signs: of the one class (graph), not of the other (alnum). -/
theorem punct1 (n : Int) (a b : Nat) (W : World) (va vb : Value) (f g : Int → Bool) (ha : W.heap[a]? = some (.cells #[va] 106 (0, 0))) (hb : W.heap[b]? = some (.cells #[vb] 106 (0, 0)))
    (ma : Means W va f) (mb : Means W vb g) :
    Calls Try.prog 72 #[.int .u8 n, .pointer (some ⟨a, 0, none⟩), .pointer (some ⟨b, 0, none⟩)] W fun e W' => e = .returned (.bool (f n && !g n)) ∧ W = W' := by
  have ca := cell_of_one ha
  have cb := cell_of_one hb
  clear ha hb
  obtain ⟨ka, capa, La, rfl, ea, la, ma⟩ := ma
  obtain ⟨kb, capb, Lb, rfl, eb, lb, mb⟩ := mb
  have Ma := Lib.hid (ma n W fun p hp => (la p hp).2)
  have Mb := Lib.hid (mb n W fun p hp => (lb p hp).2)
  clear ma mb la lb
  cases hf : f n with
  | false =>
    rw [hf] at Ma
    go_enter Try.func72, Try.ntmps72
    go_wp2_with fail
    refine Ma.out.mono ?_
    rintro e w' ⟨rfl, rfl⟩
    go_wp2_with fail
    go_ret
    exact ⟨rfl, rfl⟩
  | true =>
    rw [hf] at Ma
    go_enter Try.func72, Try.ntmps72
    go_wp2_with fail
    refine Ma.out.mono ?_
    rintro e w' ⟨rfl, rfl⟩
    go_wp2_with fail
    refine Mb.out.mono ?_
    rintro e w' ⟨rfl, rfl⟩
    go_wp2_with fail
    go_ret
    exact ⟨by simp, rfl⟩

theorem heap_last (w : World) (o : Obj) : (w.alloc o).heap[w.heap.size]? = some o := (MapKept.heap_alloc w o).1
theorem heap_old (w : World) (o : Obj) {b : Nat} {x : Obj} (h : w.heap[b]? = some x) : (w.alloc o).heap[b]? = some x := by
  rw [Below.heap_alloc _ _ _ (lt_of_block h)]; exact h

theorem heap_last1 (w : World) (x y : Obj) : ((w.alloc x).alloc y).heap[w.heap.size + 1]? = some y := by
  have h := heap_last (w.alloc x) y
  rwa [show (w.alloc x).heap.size = w.heap.size + 1 by simp] at h

theorem span_means (w : World) (l h : Int) (a b : Nat) (ha : w.heap[a]? = some (.cells #[.int .u8 l] 5 (0, 0))) (hb : w.heap[b]? = some (.cells #[.int .u8 h] 5 (0, 0))) :
    Means w (.func (.func 73) #[] #[.pointer (some ⟨a, 0, none⟩), .pointer (some ⟨b, 0, none⟩)]) (fun n => decide (l ≤ n) && decide (n ≤ h)) := by
  refine ⟨_, _, [(a, .cells #[.int .u8 l] 5 (0, 0)), (b, .cells #[.int .u8 h] 5 (0, 0))], rfl, enters _ _ Try.func73 (by decide) (by intro h; cases h), fun p hp => ?_, fun n W hW => ?_⟩
  · simp only [List.mem_cons, List.not_mem_nil, or_false] at hp
    rcases hp with rfl | rfl
    · exact ⟨⟨_, _, _, rfl⟩, ha⟩
    · exact ⟨⟨_, _, _, rfl⟩, hb⟩
  · exact span1 n l h a b W (hW _ (List.mem_cons_self ..)) (hW _ (List.mem_cons_of_mem _ (List.mem_cons_self ..)))

/-- A function value made of two others that lie in two blocks. -/
theorem two_means (k : Nat) (fn : Func) (hk : Try.prog.funcs[k]? = some fn) (hn : ¬ fn.name = "runtime.NumGoroutine") (hbd : ¬ fn.body = none) (op : Bool → Bool → Bool)
    (hc : ∀ (n : Int) (a b : Nat) (W : World) (va vb : Value) (f g : Int → Bool), W.heap[a]? = some (.cells #[va] 106 (0, 0)) → W.heap[b]? = some (.cells #[vb] 106 (0, 0)) → Means W va f → Means W vb g →
      Calls Try.prog k #[.int .u8 n, .pointer (some ⟨a, 0, none⟩), .pointer (some ⟨b, 0, none⟩)] W fun e W' => e = .returned (.bool (op (f n) (g n))) ∧ W = W')
    (w : World) (a b : Nat) (va vb : Value) (f g : Int → Bool) (ha : w.heap[a]? = some (.cells #[va] 106 (0, 0))) (hb : w.heap[b]? = some (.cells #[vb] 106 (0, 0)))
    (ma : Means w va f) (mb : Means w vb g) :
    Means w (.func (.func k) #[] #[.pointer (some ⟨a, 0, none⟩), .pointer (some ⟨b, 0, none⟩)]) (fun n => op (f n) (g n)) := by
  obtain ⟨ka, capa, La, ea, na, la, wa⟩ := ma
  obtain ⟨kb, capb, Lb, eb, nb, lb, wb⟩ := mb
  refine ⟨k, _, (a, .cells #[va] 106 (0, 0)) :: (b, .cells #[vb] 106 (0, 0)) :: (La ++ Lb), rfl, enters _ _ hk hn hbd, fun p hp => ?_, fun n W hW => ?_⟩
  · simp only [List.mem_cons, List.mem_append] at hp
    rcases hp with rfl | rfl | hp | hp
    · exact ⟨⟨_, _, _, rfl⟩, ha⟩
    · exact ⟨⟨_, _, _, rfl⟩, hb⟩
    · exact la p hp
    · exact lb p hp
  · have h1 : ∀ p ∈ La, W.heap[p.1]? = some p.2 := fun p hp => hW p (by simp [hp])
    have h2 : ∀ p ∈ Lb, W.heap[p.1]? = some p.2 := fun p hp => hW p (by simp [hp])
    exact hc n a b W va vb f g (hW _ (List.mem_cons_self ..)) (hW _ (List.mem_cons_of_mem _ (List.mem_cons_self ..)))
      ⟨ka, capa, La, ea, na, fun p hp => ⟨(la p hp).1, h1 p hp⟩, wa⟩ ⟨kb, capb, Lb, eb, nb, fun p hp => ⟨(lb p hp).1, h2 p hp⟩, wb⟩

/-- What a call that makes a member leaves. -/
def Makes (w : World) (f : Int → Bool) (e : Ending) (w' : World) : Prop := ∃ (k : Nat) (cap : Array Value), e = .returned (.func (.func k) #[] cap) ∧ Means w' (.func (.func k) #[] cap) f ∧ Below w.heap.size w w'

theorem span_any (l h : Int) (w : World) : Calls Try.prog 68 #[.int .u8 l, .int .u8 h] w (Makes w fun n => decide (l ≤ n) && decide (n ≤ h)) := by
  go_enter Try.func68, Try.ntmps68
  go_wp2
  go_ret
  exact ⟨_, _, rfl, span_means _ l h _ _ (heap_old _ _ (heap_last _ _)) (heap_last1 _ _ _), ((Below.refl _ _).alloc (Nat.le_refl _) _).alloc (by simp) _⟩

theorem either_any (va vb : Value) (f g : Int → Bool) (w : World) (ma : Means w va f) (mb : Means w vb g) : Calls Try.prog 69 #[va, vb] w (Makes w fun n => f n || g n) := by
  have h1 := Lib.hid ma
  have h2 := Lib.hid mb
  obtain ⟨ka, capa, La, ea, -, -, -⟩ := ma
  obtain ⟨kb, capb, Lb, eb, -, -, -⟩ := mb
  subst ea
  subst eb
  go_enter Try.func69, Try.ntmps69
  go_wp2
  go_ret
  have hk : ∀ x y : Obj, Keeps w ((w.alloc x).alloc y) := fun x y => (Keeps.alloc _ _).trans (Keeps.alloc _ _)
  exact ⟨_, _, rfl, two_means 74 _ Try.func74 (by decide) (by intro h; cases h) (fun x y => x || y) either1 _ _ _ _ _ f g (heap_old _ _ (heap_last _ _)) (heap_last1 _ _ _) (h1.out.keeps (hk _ _)) (h2.out.keeps (hk _ _)),
    ((Below.refl _ _).alloc (Nat.le_refl _) _).alloc (by simp) _⟩
end Go.Proofs.Ytfldhggmgepcjaa
