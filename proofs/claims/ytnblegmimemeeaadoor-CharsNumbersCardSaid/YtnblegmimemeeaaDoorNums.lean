/-
  chars.Number and chars.Text, over the library's contracts on strconv.ParseInt and strconv.FormatInt.
-/
import Derived.Test.YtnblegmimemeeaaDoorBase
import Derived.Test.YtnblegmimemeeaaDoorShelf
import Derived.Stop.LaidErr
import Derived.Test.YtnblegmimemeeaaDoorNumLaws
import Derived.Lib.AtoiErrMem
namespace Go.Proofs.YtnblegmimemeeaaDoor
open Go Go.RowKit

/-- What the law finds of the library's variables. -/
def Laid (w : World) : Prop :=
  Lib.TabIs Tryd.prog w "internal/strconv.uint64pow10" .u64 Lib.pow10Tab ∧ (∃ tp p, w.var? Tryd.prog "strconv.ErrSyntax" = some #[.iface tp p]) ∧ (∃ tp p, w.var? Tryd.prog "strconv.ErrRange" = some #[.iface tp p])

theorem var_below {P : Program} {W W' : World} {n : String} {cs : Array Value} (h : Below W.heap.size W W') (hv : W.var? P n = some cs) : W'.var? P n = some cs := by
  unfold World.var? at hv ⊢
  cases hg : P.globalNamed n with
  | none => simp [hg] at hv
  | some g =>
    simp only [hg, Option.bind_some] at hv ⊢
    have hlt : g < W.heap.size := by
      rcases Nat.lt_or_ge g W.heap.size with h' | h'
      · exact h'
      · simp [Array.getElem?_eq_none h'] at hv
    rw [h.block g hlt]
    exact hv

theorem Laid.below {w w' : World} (h : Laid w) (hb : Below w.heap.size w w') : Laid w' := by
  obtain ⟨h1, ⟨t2, p2, h2⟩, ⟨t3, p3, h3⟩⟩ := h
  exact ⟨var_below hb h1, ⟨t2, p2, var_below hb h2⟩, ⟨t3, p3, var_below hb h3⟩⟩

theorem below_grow (w : World) (k : Nat) (os : Array Obj) : Below w.heap.size w (Sort.grow (w.drewN k) os) :=
  ⟨rfl, rfl, rfl, by simp [Sort.grow], fun i hi => by simp [Sort.grow, Array.getElem?_append, hi]⟩

set_option maxHeartbeats 1000000 in
theorem number_any (s : ByteArray) (hlim : s.size ≤ 281474976710656) (w : World) (hL : Laid w) :
    Calls Tryd.prog 19 #[.string s] w fun e w' => e = .returned (.tuple #[.int .i64 (numV s.data.toList), .bool (numOk s.data.toList)]) ∧ Below w.heap.size w w' := by
  obtain ⟨-, ⟨t2, p2, h2⟩, ⟨t3, p3, h3⟩⟩ := hL
  rcases h : Lib.parseIntB 64 s.data.toList with v | _ | _
  · have hv : numV s.data.toList = v := by simp only [numV, h]
    have ho : numOk s.data.toList = true := by simp only [numOk, h]
    rw [hv, ho]
    clear hv ho h2 h3
    have H := Lib.hid h
    clear h
    go_enter Tryd.func19, Tryd.ntmps19
    go_wp2_with fail
    refine (Tryd.strconv_ParseInt_10_at64_ok s (by omega) v H.out _).mono ?_
    rintro e w1 ⟨rfl, hw⟩
    have hb : Below w.heap.size w w1 := by
      rcases hw with rfl | ⟨t, rfl⟩
      · exact Below.refl _ _
      · exact Lib.bytesWorld_below _ _ _
    clear hw
    go_wp2_with fail
    go_ret2
    exact ⟨rfl, hb⟩
  · have hv : numV s.data.toList = 0 := by simp only [numV, h]
    have ho : numOk s.data.toList = false := by simp only [numOk, h]
    rw [hv, ho]
    clear hv ho h3
    have H := Lib.hid h
    have H2 := Lib.hid h2
    clear h h2
    go_enter Tryd.func19, Tryd.ntmps19
    go_wp2_with fail
    refine (Tryd.strconv_ParseInt_10_at64_syntax_var s hlim H.out t2 p2 _ H2.out).mono ?_
    rintro e w1 ⟨N, rfl, -, -, hb⟩
    go_wp2_with fail
    go_ret2
    exact ⟨rfl, hb⟩
  · have hv : numV s.data.toList = 0 := by simp only [numV, h]
    have ho : numOk s.data.toList = false := by simp only [numOk, h]
    rw [hv, ho]
    clear hv ho h2
    have H := Lib.hid h
    have H3 := Lib.hid h3
    clear h h3
    go_enter Tryd.func19, Tryd.ntmps19
    go_wp2_with fail
    refine (Tryd.strconv_ParseInt_10_at64_range_var s hlim H.out t3 p3 _ H3.out).mono ?_
    rintro e w1 ⟨N, rfl, -, -, hb⟩
    go_wp2_with fail
    go_ret2
    exact ⟨rfl, hb⟩

theorem text_any (n : Int) (h0 : -9223372036854775808 ≤ n) (h1 : n ≤ 9223372036854775807) (w : World) (hL : Laid w) :
    Calls Tryd.prog 21 #[.int .i64 n] w fun e w' => e = .returned (.string ⟨(Lib.itoa n).toArray⟩) ∧ Below w.heap.size w w' := by
  have H := Lib.hid hL.1
  clear hL
  go_enter Tryd.func21, Tryd.ntmps21
  go_wp2_with fail
  refine (Tryd.strconv_FormatInt_10 n h0 h1 _ H.out).mono ?_
  rintro e w1 ⟨rfl, k, os, rfl⟩
  go_wp2_with fail
  go_ret
  exact ⟨rfl, below_grow _ _ _⟩
end Go.Proofs.YtnblegmimemeeaaDoor
