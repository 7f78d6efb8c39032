/-
  The reference's Parts: a path's names, in a row of its own.
-/
import Derived.Test.YtblmlgpajmaliaaPathLaws
import Derived.Lib.Hide
import Derived.Maps.AppendAt
import Derived.Test.YtblmlgpajmaliaaProg
namespace Go.Proofs.Ytblmlgpajmaliaa
set_option maxRecDepth 100000
open Go Go.RowKit

theorem infoS : (Try.prog.info? 9).map (fun i => (i.zero, i.size, i.bytes)) = some (some (.string ByteArray.empty), 1, 16) := by kernel_rfl

/-- The slice v holds the texts L, in a row that lies from block B on. -/
def Texts (B : Nat) (w : World) (v : Value) (L : List (List UInt8)) : Prop := w.ownsRow B 9 1 v L.length (L.map strv)

theorem Texts.grow {B : Nat} {w' : World} {v' : Value} {L : List (List UInt8)} {x : List UInt8} (h : w'.ownsRow B 9 1 v' (L.length + 1) (L.map strv ++ [strv x])) : Texts B w' v' (L ++ [x]) := by
  unfold Texts
  rw [List.length_append, List.map_append]
  exact h
theorem slice_run (s : ByteArray) (f k : Nat) (h1 : f ≤ k) (h2 : k ≤ s.size) (W : World) :
    (Instr.slice 9 (.string s) (some (.int .i64 (f : Int))) (some (.int .i64 (k : Int))) none).run Try.prog W = .ok (.string (s.extract f k)) W := by
  have := run_slice_string (P := Try.prog) W 9 s .i64 .i64 (f : Int) (k : Int) Try.underlying9 (by omega) (by omega) (by omega)
  simpa using this

def NCut (s : ByteArray) (B : Nat) (w0 : World) (l f i : Value) (wr : World) : Prop :=
  ∃ k g : Nat, ∃ D : List (List UInt8), k ≤ s.size + 1 ∧ g ≤ s.size + 1 ∧ i = .int .i64 k ∧ f = .int .i64 g ∧ Cut s.data.toList k g D ∧ D.length ≤ k ∧ Texts B wr l D ∧ Below B w0 wr

theorem at_list (s : ByteArray) (k : Nat) (h : k < s.size) : s.data.toList[k]'(by simpa using h) = s[k] := rfl
theorem size_list (s : ByteArray) : s.data.toList.length = s.size := Array.length_toList

theorem cut_last (s : ByteArray) (g : Nat) (D : List (List UInt8)) (h : Cut s.data.toList s.size g D) (hg : g < s.size) : Cut s.data.toList (s.size + 1) (s.size + 1) (D ++ [(s.data.toList.take s.size).drop g]) := by
  rw [← size_list] at h hg ⊢
  exact Cut.last _ g D h hg
theorem cut_over (s : ByteArray) (D : List (List UInt8)) (h : Cut s.data.toList s.size s.size D) : Cut s.data.toList (s.size + 1) (s.size + 1) D := by
  rw [← size_list] at h ⊢
  exact Cut.over _ D h

end Go.Proofs.Ytblmlgpajmaliaa
