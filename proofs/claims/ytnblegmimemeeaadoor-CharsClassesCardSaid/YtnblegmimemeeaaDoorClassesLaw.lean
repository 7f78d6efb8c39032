/-
  CharsClasses, walked: true, of any byte.
-/
import Derived.Test.YtnblegmimemeeaaDoorCls1
import Derived.Test.YtnblegmimemeeaaDoorCls2
import Derived.Test.YtnblegmimemeeaaDoorCls3
import Derived.Test.YtnblegmimemeeaaDoorCls4
namespace Go.Proofs.YtnblegmimemeeaaDoor
open Go Go.RowKit

theorem classes_walk (n : Int) (h0 : 0 ≤ n) (w : World) (hL : Laid w) :
    Calls Tryd.prog 6 #[.int .u8 n] w fun e w' => e = .returned (.bool true) ∧ Below w.heap.size w w' := by
  have hall : (n ≤ 8 ∨ (10 ≤ n ∧ n ≤ 31) ∨ n = 127) ∨ n = 9 ∨ n = 32 ∨ ((33 ≤ n ∧ n ≤ 47) ∨ (58 ≤ n ∧ n ≤ 64) ∨ (91 ≤ n ∧ n ≤ 96) ∨ (123 ≤ n ∧ n ≤ 126)) ∨ (48 ≤ n ∧ n ≤ 57) ∨ (65 ≤ n ∧ n ≤ 90) ∨ (97 ≤ n ∧ n ≤ 122) ∨ 128 ≤ n := by omega
  rcases hall with h | h | h | h | h | h | h | h
  · exact classes_ctl n h0 h w hL
  · exact classes_tab n h w hL
  · exact classes_blk n h w hL
  · exact classes_pun n h w hL
  · exact classes_dig n h w hL
  · exact classes_upp n h w hL
  · exact classes_low n h w hL
  · exact classes_hig n h w hL
end Go.Proofs.YtnblegmimemeeaaDoor
