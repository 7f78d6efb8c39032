/-
  CharsTells, walked: true, of any byte, any text, any class.
-/
import Derived.Test.YtnblegmimemeeaaDoorAwake
import Derived.Test.YtnblegmimemeeaaDoorRName
import Derived.Test.YtnblegmimemeeaaDoorRClass
namespace Go.Proofs.YtnblegmimemeeaaDoor
open Go Go.RowKit

set_option maxHeartbeats 1000000 in
theorem tells_walk (n : Int) (hn : 0 ≤ n) (s k : ByteArray) (hs : s.size ≤ maxLen) (hk : k.size ≤ maxLen) (w : World) (hL : Laid w) :
    Calls Tryd.prog 3 #[.int .u8 n, .string s, .string k] w fun e w' => e = .returned (.bool true) ∧ Below w.heap.size w w' := by
  have HL := Lib.hid hL
  clear hL
  go_enter Tryd.func3, Tryd.ntmps3
  go_wp2_with fail
  refine (digit_any _ _).mono ?_
  rintro e w' ⟨rfl, rfl⟩
  go_wp2_with fail
  refine (rdigit_any _ _).mono ?_
  rintro e w' ⟨rfl, rfl⟩
  go_wp2_with fail
  refine (begins_any _ _).mono ?_
  rintro e w' ⟨rfl, rfl⟩
  go_wp2_with fail
  refine (rbegins_any _ _).mono ?_
  rintro e w' ⟨rfl, rfl⟩
  go_wp2_with fail
  refine (blank_any _ _).mono ?_
  rintro e w' ⟨rfl, rfl⟩
  go_wp2_with fail
  refine (rblank_any _ _).mono ?_
  rintro e w' ⟨rfl, rfl⟩
  go_wp2_with fail
  refine (name_any s _ hs).mono ?_
  rintro e w' ⟨rfl, rfl⟩
  go_wp2_with fail
  refine (rname_any s _ hs).mono ?_
  rintro e w' ⟨rfl, rfl⟩
  go_wp2_with fail
  refine (class_any k hk n _).mono ?_
  rintro e w1 ⟨b, rfl, hb, b1⟩
  have HB := Lib.hid hb
  have HL1 := Lib.hid (HL.out.below b1)
  clear hb
  go_wp2_with fail
  refine (rclass_any k n hn b HB.out _).mono ?_
  rintro e w' ⟨rfl, rfl⟩
  go_wp2_with fail
  refine (awake_any _ HL1.out).mono ?_
  rintro e w2 ⟨rfl, b2⟩
  go_wp2_with fail
  go_ret
  have s1 := b1.size
  exact ⟨rfl, b1.trans (b2.mono s1)⟩
end Go.Proofs.YtnblegmimemeeaaDoor
