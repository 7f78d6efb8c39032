/-
  The reference's Parts: a path's names, in a row of its own.
-/
import Derived.Test.YtgmmggdjcgemfaaPathLaws
import Derived.Lib.Hide
import Derived.Maps.AppendAt
import Derived.Test.YtgmmggdjcgemfaaProg
namespace Go.Proofs.Ytgmmggdjcgemfaa
open Go Go.RowKit

theorem infoS : (Try.prog.info? 9).map (fun i => (i.zero, i.size, i.bytes)) = some (some (.string ByteArray.empty), 1, 16) := by kernel_rfl

/-- The slice v holds the texts L, in a row that lies from block B on. -/
def Texts (B : Nat) (w : World) (v : Value) (L : List (List UInt8)) : Prop := w.ownsRow B 9 1 v L.length (L.map strv)

theorem Texts.grow {B : Nat} {w' : World} {v' : Value} {L : List (List UInt8)} {x : List UInt8} (h : w'.ownsRow B 9 1 v' (L.length + 1) (L.map strv ++ [strv x])) : Texts B w' v' (L ++ [x]) := by
  unfold Texts
  rw [List.length_append, List.map_append]
  exact h
theorem slice_run (s : ByteArray) (f k : Nat) (h1 : f ≤ k) (h2 : k ≤ s.size) (W : World) :
    (Instr.slice 9 (.string s) (some (.int .i64 (f : Int))) (some (.int .i64 (k : Int))) none).run Try.prog W = .ok (.string (s.extract f k)) W := by
  have := run_slice_string (P := Try.prog) W 9 s .i64 .i64 (f : Int) (k : Int) Try.underlying9 (by omega) (by omega) (by omega)
  simpa using this

def NCut (s : ByteArray) (B : Nat) (w0 : World) (l f i : Value) (wr : World) : Prop :=
  ∃ k g : Nat, ∃ D : List (List UInt8), k ≤ s.size + 1 ∧ g ≤ s.size + 1 ∧ i = .int .i64 k ∧ f = .int .i64 g ∧ Cut s.data.toList k g D ∧ D.length ≤ k ∧ Texts B wr l D ∧ Below B w0 wr

theorem at_list (s : ByteArray) (k : Nat) (h : k < s.size) : s.data.toList[k]'(by simpa using h) = s[k] := rfl
theorem size_list (s : ByteArray) : s.data.toList.length = s.size := Array.length_toList

theorem cut_last (s : ByteArray) (g : Nat) (D : List (List UInt8)) (h : Cut s.data.toList s.size g D) (hg : g < s.size) : Cut s.data.toList (s.size + 1) (s.size + 1) (D ++ [(s.data.toList.take s.size).drop g]) := by
  rw [← size_list] at h hg ⊢
  exact Cut.last _ g D h hg
theorem cut_over (s : ByteArray) (D : List (List UInt8)) (h : Cut s.data.toList s.size s.size D) : Cut s.data.toList (s.size + 1) (s.size + 1) D := by
  rw [← size_list] at h ⊢
  exact Cut.over _ D h

set_option maxHeartbeats 2000000 in
theorem rparts_any (s : ByteArray) (hs : s.size ≤ 1073741824) (w : World) :
    Calls Try.prog 18 #[.string s] w fun e w' => ∃ v, e = .returned v ∧ Texts w.heap.size w' v (partsL s.data.toList) ∧ Below w.heap.size w w' := by
  obtain ⟨i0, hi, hz0, hz1, hz2⟩ := info_parts infoS
  go_enter Try.func18, Try.ntmps18
  go_wp2_with fail
  go_loopw [3, 4, 5] (fun l f i wr => NCut s w.heap.size w l f i wr) (fun _ _ i _ => s.size + 1 - (intOf i).toNat)
  case atStart => exact ⟨0, 0, [], by omega, by omega, rfl, rfl, Cut.start _, by simp, World.ownsRow_nil _ _ _ _, Below.refl _ _⟩
  case round =>
    obtain ⟨k, g, D, hk, hg, rfl, rfl, hcut, hD, hown, hb⟩ := hrel
    have HC := Lib.hid hcut
    have HO := Lib.hid (show wr.ownsRow w.heap.size 9 1 _ D.length (D.map strv) from hown)
    clear hcut hown
    by_cases hlt : k < s.size
    · cases hc : ((s[k].toNat : Int) != 47) with
      | true =>
        go_wp2_with fail
        go_roundw
        case rel => exact ⟨k + 1, g, D, by omega, hg, by go_num, rfl, Cut.goes _ _ _ _ HC.out (by rw [size_list]; exact hlt) (by rw [at_list s k hlt]; intro e; rw [e] at hc; simp at hc), by omega, HO.out, hb⟩
        case measure => simp [intOf] <;> omega
      | false =>
        have hc' : s[k] = 47 := by
          have h := bne_eq_false_iff_eq.1 hc
          exact UInt8.toNat_inj.1 (by show s[k].toNat = 47; omega)
        have HC' := Lib.hid hc'
        clear hc'
        by_cases hgk : g < k
        · have hr := slice_run s g k (by omega) (by omega)
          go_wp2_with (first | (at_builtin; (refine wpList_append_own _ rfl _ _ 43 rfl w.heap.size 9 i0 (.string ByteArray.empty) 1 16 Try.underlying43 hi hz0 hz1 hz2 rfl (by decide) _ _ _ rfl (HO.out.alloc _) ⟨wr.heap.size, 0, none⟩ 1 1 [.string (s.extract g k)] rfl rfl (cell_one_new _ _ _) (fun x hx => by simp at hx; subst hx; rfl) (by unfold maxLen; omega) (by omega) (by simp; exact Nat.le_succ_of_le hb.size) ?_); intro v' w3 hown' hgrow3 hnil3) | fail)
          have hT : Texts w.heap.size w3 v' (D ++ [(s.data.toList.take k).drop g]) := Texts.grow (by rw [← extract_val]; exact hown')
          have hb3 : Below w.heap.size w w3 := (hb.alloc hb.size _).grown hgrow3 (by simp; exact Nat.le_succ_of_le hb.size) (fun r hr' => (HO.out.lt r hr').1)
          have HT := Lib.hid hT
          have HB := Lib.hid hb3
          clear hT hb3 hown' hgrow3 hnil3
          go_wp2_with fail
          go_roundw
          case rel => exact ⟨k + 1, k + 1, D ++ [(s.data.toList.take k).drop g], by omega, by omega, by go_num, by go_num, Cut.ends _ _ _ _ HC.out (by rw [size_list]; exact hlt) (by rw [at_list s k hlt]; exact HC'.out) hgk, by simp; omega, HT.out, HB.out⟩
          case measure => simp [intOf] <;> omega
        · have hgk2 : g = k := by have := Cut.le _ _ _ _ HC.out (by rw [size_list]; omega); omega
          subst hgk2
          go_wp2_with fail
          go_roundw
          case rel => exact ⟨g + 1, g + 1, D, by omega, by omega, by go_num, by go_num, Cut.blank _ _ _ HC.out (by rw [size_list]; exact hlt) (by rw [at_list s g hlt]; exact HC'.out), by omega, HO.out, hb⟩
          case measure => simp [intOf] <;> omega
    · by_cases heq : k = s.size
      · subst heq
        by_cases hgk : g < s.size
        · have hr := slice_run s g s.size (by omega) (by omega)
          go_wp2_with (first | (at_builtin; (refine wpList_append_own _ rfl _ _ 43 rfl w.heap.size 9 i0 (.string ByteArray.empty) 1 16 Try.underlying43 hi hz0 hz1 hz2 rfl (by decide) _ _ _ rfl (HO.out.alloc _) ⟨wr.heap.size, 0, none⟩ 1 1 [.string (s.extract g s.size)] rfl rfl (cell_one_new _ _ _) (fun x hx => by simp at hx; subst hx; rfl) (by unfold maxLen; omega) (by omega) (by simp; exact Nat.le_succ_of_le hb.size) ?_); intro v' w3 hown' hgrow3 hnil3) | fail)
          have hT : Texts w.heap.size w3 v' (D ++ [(s.data.toList.take s.size).drop g]) := Texts.grow (by rw [← extract_val]; exact hown')
          have hb3 : Below w.heap.size w w3 := (hb.alloc hb.size _).grown hgrow3 (by simp; exact Nat.le_succ_of_le hb.size) (fun r hr' => (HO.out.lt r hr').1)
          have HT := Lib.hid hT
          have HB := Lib.hid hb3
          clear hT hb3 hown' hgrow3 hnil3
          go_wp2_with fail
          go_roundw
          case rel => exact ⟨s.size + 1, s.size + 1, D ++ [(s.data.toList.take s.size).drop g], by omega, by omega, by go_num, by go_num, cut_last s g D HC.out hgk, by simp; omega, HT.out, HB.out⟩
          case measure => simp [intOf] <;> omega
        · have hgk2 : g = s.size := by have := Cut.le _ _ _ _ HC.out (by rw [size_list]; omega); omega
          subst hgk2
          go_wp2_with fail
          go_roundw
          case rel => exact ⟨s.size + 1, s.size + 1, D, by omega, by omega, by go_num, by go_num, cut_over s D HC.out, by omega, HO.out, hb⟩
          case measure => simp [intOf] <;> omega
      · have hk1 : k = s.size + 1 := by omega
        have hfin := Lib.hid (show D = partsL s.data.toList from Cut.done _ g D (by rw [size_list]; exact hk1 ▸ HC.out))
        go_wp2_with fail
        go_ret
        exact ⟨_, rfl, by rw [← hfin.out]; exact HO.out, hb⟩
end Go.Proofs.Ytgmmggdjcgemfaa
