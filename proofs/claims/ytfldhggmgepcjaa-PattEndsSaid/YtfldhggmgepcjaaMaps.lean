/-
  A map from texts to members: what a store into it leaves, what a look-up finds.
-/
import Derived.Test.YtfldhggmgepcjaaClosures
import Derived.StringKeys
import Derived.Maps.Own
namespace Go.Proofs.Ytfldhggmgepcjaa
set_option maxRecDepth 100000
open Go Go.RowKit Go.WideElems Go.MapKept Go.ChangeMaps Go.WideMaps

theorem strLaw : WideMaps.KeyLaw Try.prog 9 := WideMaps.string_law Try.underlying9

/-- Every entry's key is a text that fits. -/
def StrKeys (es : Array MapEntry) : Prop := ∀ e ∈ es.toList, ∃ s : ByteArray, e.key = .string s ∧ s.size ≤ maxLen

theorem StrKeys.fits {es : Array MapEntry} (h : StrKeys es) : ∀ e ∈ es.toList, ∃ l, keyOf Try.prog 9 e.key = some l := fun e he => by
  obtain ⟨s, h1, h2⟩ := h e he
  rw [h1]
  exact ⟨_, keyOf_string_mk Try.underlying9 h2⟩

theorem run_insert (w : World) (m : Nat) (es : Array MapEntry) (clock : Nat) (hb : w.heap[m]? = some (.map es clock)) (hk : StrKeys es) (key : ByteArray) (hkey : key.size ≤ maxLen) (val : Value) :
    ∃ es' clock', (Instr.mapUpdate 108 (.map (some m)) (.string key) val).run Try.prog w = .ok () (setBlock w m (.map es' clock')) ∧ StrKeys es' ∧
      (∀ x ∈ es'.toList, x ∈ es.toList ∨ (x.key = .string key ∧ x.val = val)) ∧ (∃ x ∈ es'.toList, x.key = .string key) ∧
      (∀ k', (∃ x ∈ es.toList, x.key = .string k') → ∃ x ∈ es'.toList, x.key = .string k') := by
  have hkl := keyOf_string_mk Try.underlying9 hkey
  rcases strLaw.find w hkl es.toList hk.fits with ⟨h1, h2⟩ | ⟨j, e0, h1, h2, h3⟩
  · refine ⟨es.push ⟨.string key, val, clock⟩, clock + 1, ?_, ?_, ?_, ?_, ?_⟩
    · simp [Instr.mapUpdate, run_underlying Try.underlying108, MapKept.run_getObj_map hb, strLaw.check w false hkl, h1, MapKept.run_setObj_map _ hb, Result.andThen, setBlock]
    · intro e he
      simp only [Array.toList_push, List.mem_append, List.mem_singleton] at he
      rcases he with he | rfl
      · exact hk e he
      · exact ⟨key, rfl, hkey⟩
    · intro e he
      simp only [Array.toList_push, List.mem_append, List.mem_singleton] at he
      rcases he with he | rfl
      · exact Or.inl he
      · exact Or.inr ⟨rfl, rfl⟩
    · exact ⟨⟨.string key, val, clock⟩, by simp, rfl⟩
    · rintro k' ⟨x, hx, hxk⟩
      exact ⟨x, by simp only [Array.toList_push, List.mem_append]; exact Or.inl hx, hxk⟩
  · have hj : j < es.size := by
      have := (List.getElem?_eq_some_iff.1 h2).1
      simpa using this
    have hjA : es[j]? = some e0 := by rw [← Array.getElem?_toList]; exact h2
    have hmem : ∀ e ∈ (es.modify j fun e => { e with key := .string key, val := val }).toList, e ∈ es.toList ∨ (e.key = .string key ∧ e.val = val) := by
      intro e he
      obtain ⟨i, hi, rfl⟩ := List.getElem_of_mem he
      have hi' : i < es.size := by simpa using hi
      rw [Array.getElem_toList, Array.getElem_modify]
      split
      · exact Or.inr ⟨rfl, rfl⟩
      · exact Or.inl (by simp)
    have hnew : ∃ x ∈ (es.modify j fun e => { e with key := .string key, val := val }).toList, x.key = .string key := by
      refine ⟨(es.modify j fun e => { e with key := .string key, val := val })[j]'(by simpa using hj), Array.mem_toList_iff.2 (Array.getElem_mem _), ?_⟩
      rw [Array.getElem_modify_self]
    refine ⟨_, clock, ?_, fun e he => ?_, hmem, hnew, ?_⟩
    · simp [Instr.mapUpdate, run_underlying Try.underlying108, MapKept.run_getObj_map hb, strLaw.check w false hkl, h1, hjA, h3, strLaw.stays w hkl, MapKept.run_setObj_map _ hb, Result.andThen, setBlock]
    · rcases hmem e he with h | ⟨h, _⟩
      · exact hk e h
      · exact ⟨key, h, hkey⟩
    · rintro k' ⟨x, hx, hxk⟩
      obtain ⟨i, hi, rfl⟩ := List.getElem_of_mem hx
      have hi' : i < es.size := by simpa using hi
      by_cases hij : j = i
      · subst hij
        rw [Array.getElem_toList] at hxk
        have e1 : es[j] = e0 := by rw [Array.getElem?_eq_getElem hj] at hjA; exact Option.some.inj hjA
        rw [e1, h3] at hxk
        rw [← hxk]
        exact hnew
      · refine ⟨(es.modify j fun e => { e with key := .string key, val := val })[i]'(by simpa using hi'), Array.mem_toList_iff.2 (Array.getElem_mem _), ?_⟩
        rw [Array.getElem_modify, if_neg hij]
        simpa using hxk

theorem run_find (w : World) (m : Nat) (es : Array MapEntry) (clock : Nat) (hb : w.heap[m]? = some (.map es clock)) (hk : StrKeys es) (key : ByteArray) (hkey : key.size ≤ maxLen) :
    ((Instr.lookup 108 (.map (some m)) (.string key) true).run Try.prog w = .ok (.tuple #[.nilFunc, .bool false]) w ∧ ∀ e ∈ es.toList, e.key ≠ .string key) ∨
    ∃ e ∈ es.toList, e.key = .string key ∧ (Instr.lookup 108 (.map (some m)) (.string key) true).run Try.prog w = .ok (.tuple #[e.val, .bool true]) w := by
  have hkl := keyOf_string_mk Try.underlying9 hkey
  have hz : (zeroValue 106).run Try.prog w = .ok .nilFunc w := by kernel_rfl
  rcases strLaw.find w hkl es.toList hk.fits with ⟨h1, h2⟩ | ⟨j, e0, h1, h2, h3⟩
  · exact Or.inl ⟨by simp [Instr.lookup, run_underlying Try.underlying108, MapKept.run_getObj_map hb, strLaw.check w _ hkl, h1, hz, Result.andThen], h2⟩
  · exact Or.inr ⟨e0, List.mem_of_getElem? h2, h3, by simp [Instr.lookup, run_underlying Try.underlying108, MapKept.run_getObj_map hb, strLaw.check w _ hkl, h1, Result.andThen]⟩
end Go.Proofs.Ytfldhggmgepcjaa
