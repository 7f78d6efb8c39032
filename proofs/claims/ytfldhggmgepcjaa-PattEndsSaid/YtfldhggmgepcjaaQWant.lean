/-
  The landed code's want: what is wanted at a place.
-/
import Derived.Test.YtfldhggmgepcjaaQSet
namespace Go.Proofs.Ytfldhggmgepcjaa
set_option maxRecDepth 100000
open Go Go.RowKit

/-- A want as the landed code has it; a set's members lie in a row of the call's own. -/
def WtV (w : World) (B : Nat) (v : Value) : Wt → Prop
  | .one => v = .iface 70 (.agg #[])
  | .many => v = .iface 71 (.agg #[])
  | .span a b => v = .iface 85 (.agg #[.int .u8 (a.toNat : Int), .int .u8 (b.toNat : Int)])
  | .set t l => ∃ oa oc, v = .iface 73 (.agg #[.bool t, .slice oa l.length oc]) ∧ w.ownsRow B 39 1 (.slice oa l.length oc) l.length (l.map mbV)
theorem WtV.below {w W : World} {B : Nat} {v : Value} {x : Wt} (h : WtV w B v x) (hb : Below w.heap.size w W) : WtV W B v x := by
  cases x with
  | set t l => obtain ⟨oa, oc, h1, h2⟩ := h; exact ⟨oa, oc, h1, own_below h2 hb⟩
  | _ => exact h
theorem WtV.weak {w : World} {B B' : Nat} {v : Value} {x : Wt} (h : WtV w B v x) (hb : B' ≤ B) : WtV w B' v x := by
  cases x with
  | set t l => obtain ⟨oa, oc, h1, h2⟩ := h; exact ⟨oa, oc, h1, own_weak h2 hb⟩
  | _ => exact h
theorem own_slice {B : Nat} {t : TypeId} {w : World} {v : Value} {n : Nat} {xs : List Value} (h : w.ownsRow B t 1 v n xs) : ∃ oa oc, v = .slice oa n oc := by
  obtain ⟨-, ⟨h2, h3⟩ | ⟨g, cap, cur, a, -⟩⟩ := h
  · exact ⟨none, 0, by rw [h2, h3]⟩
  · exact ⟨_, _, a⟩
theorem wt1_one {L : Pl} {i : Nat} (h : isP L i 63 = true) : wt1 (L.drop i) = (.one, 1) := by unfold wt1; rw [isP_drop, Nat.add_zero, if_pos h]
theorem wt1_many {L : Pl} {i : Nat} (h0 : isP L i 63 = false) (h : isP L i 42 = true) : wt1 (L.drop i) = (.many, 1) := by
  unfold wt1; rw [isP_drop, isP_drop, Nat.add_zero, if_neg (by simp [h0]), if_pos h]
theorem wt1_set {L : Pl} {i n : Nat} {t : Bool} {l : List Mb} (h0 : isP L i 63 = false) (h1 : isP L i 42 = false) (h2 : isP L i 91 = true) (h : setP (L.drop (i + 1)) = some (t, l, n)) : wt1 (L.drop i) = (.set t l, n + 1) := by
  unfold wt1; rw [isP_drop, isP_drop, isP_drop, Nat.add_zero, if_neg (by simp [h0]), if_neg (by simp [h1]), if_pos h2, List.drop_drop, h]
theorem wt1_open {L : Pl} {i : Nat} (h0 : isP L i 63 = false) (h1 : isP L i 42 = false) (h2 : isP L i 91 = true) (h : setP (L.drop (i + 1)) = none) : wt1 (L.drop i) = (.span (byteAt (L.drop i) 0) (byteAt (L.drop i) 0), 1) := by
  unfold wt1; rw [isP_drop, isP_drop, isP_drop, Nat.add_zero, if_neg (by simp [h0]), if_neg (by simp [h1]), if_pos h2, List.drop_drop, h]
theorem wt1_just {L : Pl} {i : Nat} (h0 : isP L i 63 = false) (h1 : isP L i 42 = false) (h2 : isP L i 91 = false) : wt1 (L.drop i) = (.span (byteAt (L.drop i) 0) (byteAt (L.drop i) 0), 1) := by
  unfold wt1; rw [isP_drop, isP_drop, isP_drop, Nat.add_zero, if_neg (by simp [h0]), if_neg (by simp [h1]), if_neg (by simp [h2])]

def WantAns (w : World) (i : Nat) (x : Wt × Nat) (e : Ending) (w' : World) : Prop := ∃ v, e = .returned (.tuple #[v, .int .i64 ((i + x.2 : Nat) : Int)]) ∧ WtV w' w.heap.size v x.1 ∧ Below w.heap.size w w'

set_option maxHeartbeats 8000000 in
theorem lwant (P Q : ByteArray) (hP : P.size ≤ 100000) (g i : Nat) (hi : i < P.size) (x : Int) (hx : x = (i : Int)) (w : World) (hG : RowAt w g (closesL (plL P.data.toList Q.data.toList)) 3) : Calls Try.prog 23 #[.agg #[.string P, .string Q, .slice (some ⟨g, 0, none⟩) (P.size + 1) (P.size + 1)], .int .i64 x] w (WantAns w i (wt1 ((plL P.data.toList Q.data.toList).drop i))) := by
  subst hx
  have HG := Lib.hid hG
  have HK := Lib.hid (fun j c x y hx hy W => lplain P Q (some ⟨g, 0, none⟩) (P.size + 1) (P.size + 1) j c x y hx hy W)
  have HE := Lib.hid (fun j hj x hx W => lset P Q hP g j hj x hx W)
  have HBY := Lib.hid (byte_pl P Q i 0 hi)
  obtain ⟨L, hL⟩ : ∃ L, L = plL P.data.toList Q.data.toList := ⟨_, rfl⟩
  rw [← hL] at HK HE HG HBY ⊢
  have HB := Lib.hid (below_box w (.cells #[.string P, .string Q, .slice (some ⟨g, 0, none⟩) (P.size + 1) (P.size + 1)] 51))
  have HP := Lib.hid (PatAt.new w P Q (some ⟨g, 0, none⟩) (P.size + 1) (P.size + 1))
  have C1 := HK.out i 63 (i : Int) 63 rfl rfl
  have C2 := HK.out i 42 (i : Int) 42 rfl rfl
  have C3 := HK.out i 91 (i : Int) 91 rfl rfl
  have C5 := fun W => ljust P[i] (P[i].toNat : Int) rfl W
  have hii : (i : Int) < (P.size : Int) := by omega
  clear hL hG
  cases h1 : isP L i 63 with
  | true =>
    rw [wt1_one h1]
    rw [h1] at C1
    go_enter Try.func23, Try.ntmps23
    go_wp2_with fail
    refine (C1 _).mono ?_
    rintro e w1 ⟨rfl, hb⟩
    have HB1 := Lib.hid (below_two HB.out hb)
    clear hb
    go_wp2_with fail
    go_ret2
    exact ⟨_, rfl, rfl, HB1.out⟩
  | false =>
    rw [h1] at C1
    cases h2 : isP L i 42 with
    | true =>
      rw [wt1_many h1 h2]
      rw [h2] at C2
      go_enter Try.func23, Try.ntmps23
      go_wp2_with fail
      refine (C1 _).mono ?_
      rintro e w1 ⟨rfl, hb⟩
      have HB1 := Lib.hid (below_two HB.out hb)
      have HP1 := Lib.hid (HP.out.below hb)
      obtain ⟨c0, c1, c2⟩ := HP1.out.cells
      clear hb
      go_wp2_with fail
      refine (C2 _).mono ?_
      rintro e w2 ⟨rfl, hb⟩
      have HB2 := Lib.hid (below_two HB1.out hb)
      clear hb
      go_wp2_with fail
      go_ret2
      exact ⟨_, rfl, rfl, HB2.out⟩
    | false =>
      rw [h2] at C2
      cases h3 : isP L i 91 with
      | false =>
        rw [wt1_just h1 h2 h3, HBY.out]
        rw [h3] at C3
        go_enter Try.func23, Try.ntmps23
        go_wp2_with fail
        refine (C1 _).mono ?_
        rintro e w1 ⟨rfl, hb⟩
        have HB1 := Lib.hid (below_two HB.out hb)
        have HP1 := Lib.hid (HP.out.below hb)
        obtain ⟨c0, c1, c2⟩ := HP1.out.cells
        clear hb
        go_wp2_with fail
        refine (C2 _).mono ?_
        rintro e w2 ⟨rfl, hb⟩
        have HB2 := Lib.hid (below_two HB1.out hb)
        have HP2 := Lib.hid (HP1.out.below hb)
        obtain ⟨c0, c1, c2⟩ := HP2.out.cells
        clear hb
        go_wp2_with fail
        refine (C3 _).mono ?_
        rintro e w3 ⟨rfl, hb⟩
        have HB3 := Lib.hid (below_two HB2.out hb)
        obtain ⟨c0, c1, c2⟩ := (HP2.out.below hb).cells
        clear hb
        go_wp2_with fail
        refine (C5 _).mono ?_
        rintro e w4 ⟨rfl, rfl⟩
        go_wp2_with fail
        go_ret2
        exact ⟨_, rfl, rfl, HB3.out⟩
      | true =>
        rw [h3] at C3
        have C4 := HE.out (i + 1) (by omega) ((i : Int) + 1) (by omega)
        have HGB := Lib.hid (fun W (hW : Below w.heap.size w W) => HG.out.below hW)
        cases hs : setP (L.drop (i + 1)) with
        | none =>
          rw [wt1_open h1 h2 h3 hs, HBY.out]
          rw [hs] at C4
          go_enter Try.func23, Try.ntmps23
          go_wp2_with fail
          refine (C1 _).mono ?_
          rintro e w1 ⟨rfl, hb⟩
          have HB1 := Lib.hid (below_two HB.out hb)
          have HP1 := Lib.hid (HP.out.below hb)
          obtain ⟨c0, c1, c2⟩ := HP1.out.cells
          clear hb
          go_wp2_with fail
          refine (C2 _).mono ?_
          rintro e w2 ⟨rfl, hb⟩
          have HB2 := Lib.hid (below_two HB1.out hb)
          have HP2 := Lib.hid (HP1.out.below hb)
          obtain ⟨c0, c1, c2⟩ := HP2.out.cells
          clear hb
          go_wp2_with fail
          refine (C3 _).mono ?_
          rintro e w3 ⟨rfl, hb⟩
          have HB3 := Lib.hid (below_two HB2.out hb)
          have HP3 := Lib.hid (HP2.out.below hb)
          obtain ⟨c0, c1, c2⟩ := HP3.out.cells
          clear hb
          go_wp2_with fail
          refine (C4 _ (HGB.out _ HB3.out)).mono ?_
          rintro e w4 ⟨rfl, hb⟩
          have HB4 := Lib.hid (below_two HB3.out hb)
          have HP4 := HP3.out.below hb
          obtain ⟨c0, c1, c2⟩ := HP4.cells
          have hl0 : w.heap.size < w4.heap.size := lt_of_block HP4
          have HBA := Lib.hid (HB4.out.alloc HB4.out.size (.cells #[.bool false, .slice none 0 0] 73))
          clear hb HP4
          go_wp2_with fail
          refine (C5 _).mono ?_
          rintro e w5 ⟨rfl, rfl⟩
          go_wp2_with fail
          go_ret2
          exact ⟨_, rfl, rfl, HBA.out⟩
        | some z =>
          obtain ⟨t, l, n⟩ := z
          rw [wt1_set h1 h2 h3 hs]
          rw [hs] at C4
          go_enter Try.func23, Try.ntmps23
          go_wp2_with fail
          refine (C1 _).mono ?_
          rintro e w1 ⟨rfl, hb⟩
          have HB1 := Lib.hid (below_two HB.out hb)
          have HP1 := Lib.hid (HP.out.below hb)
          obtain ⟨c0, c1, c2⟩ := HP1.out.cells
          clear hb
          go_wp2_with fail
          refine (C2 _).mono ?_
          rintro e w2 ⟨rfl, hb⟩
          have HB2 := Lib.hid (below_two HB1.out hb)
          have HP2 := Lib.hid (HP1.out.below hb)
          obtain ⟨c0, c1, c2⟩ := HP2.out.cells
          clear hb
          go_wp2_with fail
          refine (C3 _).mono ?_
          rintro e w3 ⟨rfl, hb⟩
          have HB3 := Lib.hid (below_two HB2.out hb)
          have HP3 := Lib.hid (HP2.out.below hb)
          obtain ⟨c0, c1, c2⟩ := HP3.out.cells
          clear hb
          go_wp2_with fail
          refine (C4 _ (HGB.out _ HB3.out)).mono ?_
          rintro e w4 ⟨v, rfl, hO, hb⟩
          obtain ⟨oa, oc, rfl⟩ := own_slice hO
          have HB4 := Lib.hid (below_two HB3.out hb)
          have hl0 : w.heap.size < w4.heap.size := lt_of_block (HP3.out.below hb)
          have HBA := Lib.hid (HB4.out.alloc HB4.out.size (.cells #[.bool t, .slice oa l.length oc] 73))
          have HO4 := Lib.hid (own_weak (own_below hO (below_box w4 (.cells #[.bool t, .slice oa l.length oc] 73))) HB3.out.size)
          clear hb hO
          go_wp2_with fail
          go_ret2
          refine ⟨.iface 73 (.agg #[.bool t, .slice oa l.length oc]), ?_, ⟨oa, oc, rfl, HO4.out⟩, HBA.out⟩
          show _ = Ending.returned (.tuple #[_, .int .i64 ((i + (n + 1) : Nat) : Int)])
          rw [show i + (n + 1) = i + 1 + n by omega]
          rfl
end Go.Proofs.Ytfldhggmgepcjaa
