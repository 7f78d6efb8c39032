/-
  Constant of the landed code.
-/
import Derived.Lib.IfaceEq
import Derived.Test.YtclhpedecimicaaDoorZParse
namespace Go.Proofs.YtclhpedecimicaaDoor
set_option maxRecDepth 100000
open Go Go.RowKit

/-- What the rows' condition lays of the variables that the landed code reads. -/
structure LaidZ (W : World) : Prop where
  ops : Ops W
  syn : ∃ tp p, W.cell? ⟨1, 0, none⟩ = some (.iface tp p)
  rng : ∃ tp p, W.cell? ⟨2, 0, none⟩ = some (.iface tp p)
theorem cell_belowZ {W W' : World} {a : Addr} {v : Value} {n : Nat} (h : Below n W W') (hn : W.heap.size ≤ n) (hc : W.cell? a = some v) : W'.cell? a = some v := by
  have hlt : a.block < W.heap.size := by
    unfold World.cell? at hc
    cases hb : W.heap[a.block]? with
    | none => rw [hb] at hc; cases hc
    | some o => exact (Array.getElem?_eq_some_iff.1 hb).1
  rw [World.cell?_of_block (h.block _ (Nat.lt_of_lt_of_le hlt hn))]
  exact hc
theorem LaidZ.below {W W' : World} (h : LaidZ W) (hb : Below W.heap.size W W') : LaidZ W' := by
  obtain ⟨h1, ⟨a, b, h2⟩, ⟨c, d, h3⟩⟩ := h
  exact ⟨h1.below hb (Nat.le_refl _), ⟨a, b, cell_belowZ hb (Nat.le_refl _) h2⟩, ⟨c, d, cell_belowZ hb (Nat.le_refl _) h3⟩⟩

def parseZ (b : Nat) (l : List UInt8) : Option Nat := if l = [] then none else readZ b 0 l
/-- What reads a number to a base, inside the library. -/
def ReadsP (b : Nat) : Prop := ∀ (t : ByteArray), t.size ≤ 1000000 → ∀ w, Calls Tryd.prog 29 #[.string t, .int .i64 (b : Int), .int .i64 63] w fun e w' => EndP (parseZ b t.data.toList) e ∧ Below w.heap.size w w'
theorem data_nil {t : ByteArray} (h : t.size = 0) : t.data.toList = [] := by rw [← List.length_eq_zero_iff, size_data]; exact h
theorem data_cons {t : ByteArray} (h : t.size ≠ 0) : t.data.toList ≠ [] := by intro e; have := size_data t; rw [e] at this; exact h this.symm
theorem lpu_nil (b : Int) (w : World) : Calls Tryd.prog 29 #[.string ⟨#[]⟩, .int .i64 b, .int .i64 63] w fun e w' => EndP none e ∧ Below w.heap.size w w' := by
  go_enter Tryd.func29, Tryd.ntmps29
  go_wp2
  go_ret2
  exact ⟨⟨_, 2, .inr rfl, rfl⟩, Below.refl _ _⟩
theorem reads_of (b : Nat) (h : ∀ (t : ByteArray), t.size ≠ 0 → t.size ≤ 1000000 → ∀ w, Calls Tryd.prog 29 #[.string t, .int .i64 (b : Int), .int .i64 63] w fun e w' => EndP (readZ b 0 t.data.toList) e ∧ w' = Lib.bytesWorld w 5 t) : ReadsP b := by
  intro t ht w
  by_cases h0 : t.size = 0
  · have e : t = ⟨#[]⟩ := by
      have := data_nil h0
      rw [← sv_data t, this]
    rw [show parseZ b t.data.toList = none from if_pos (data_nil h0), e]
    exact lpu_nil b w
  · rw [show parseZ b t.data.toList = readZ b 0 t.data.toList from if_neg (data_cons h0)]
    exact (h t h0 ht w).mono fun e w' hh => ⟨hh.1, by rw [hh.2]; exact Lib.bytesWorld_below _ _ _⟩
theorem reads8 : ReadsP 8 := reads_of 8 lpu8
theorem reads10 : ReadsP 10 := reads_of 10 lpu10
theorem reads16 : ReadsP 16 := reads_of 16 lpu16

def EndQ (o : Option Nat) (e : Ending) : Prop :=
  match o with
  | some n => e = .returned (.tuple #[.int .u64 (n : Int), .nilIface])
  | none => ∃ (x : Int) (tp : TypeId) (p : Value), e = .returned (.tuple #[.int .u64 x, .iface tp p])
set_option maxHeartbeats 2000000 in
theorem lpub {b : Nat} (hR : ReadsP b) (t : ByteArray) (ht : t.size ≤ 1000000) (w : World) (hL : LaidZ w) :
    Calls Tryd.prog 20 #[.string t, .int .i64 (b : Int), .int .i64 63] w fun e w' => EndQ (parseZ b t.data.toList) e ∧ Below w.heap.size w w' := by
  have C := hR t ht
  obtain ⟨o, ho⟩ : ∃ o, o = parseZ b t.data.toList := ⟨_, rfl⟩
  rw [← ho] at C ⊢
  obtain ⟨bi, hbi⟩ : ∃ bi : Int, bi = (b : Int) := ⟨_, rfl⟩
  rw [← hbi] at C ⊢
  have HL := Lib.hid (fun W (hb : Below w.heap.size w W) => hL.below hb)
  clear ho hbi hR hL
  cases o with
  | some n =>
    go_enter Tryd.func20, Tryd.ntmps20
    go_wp2_with fail
    refine (C _).mono ?_
    rintro e w1 ⟨he, hb⟩
    obtain rfl := he
    go_wp2_with fail
    go_ret2
    exact ⟨rfl, hb⟩
  | none =>
    go_enter Tryd.func20, Tryd.ntmps20
    go_wp2_with fail
    refine (C _).mono ?_
    rintro e w1 ⟨he, hb⟩
    obtain ⟨x, k, hk, rfl⟩ := he
    obtain ⟨-, ⟨t1, p1, hs⟩, ⟨t2, p2, hr⟩⟩ := HL.out _ hb
    rcases hk with rfl | rfl
    · have C2 := Tryd.strconv_toError_range ⟨#[80, 97, 114, 115, 101, 85, 105, 110, 116]⟩ t bi 63 _ w1 (by omega) hr (.inr ⟨t2, p2, rfl⟩)
      clear hs hr
      go_wp2_with fail
      refine C2.mono ?_
      rintro e w2 ⟨N, rfl, -, -, hb2⟩
      go_wp2_with fail
      go_ret2
      exact ⟨⟨_, _, _, rfl⟩, below_two hb hb2⟩
    · have C2 := Tryd.strconv_toError_syntax ⟨#[80, 97, 114, 115, 101, 85, 105, 110, 116]⟩ t bi 63 _ w1 (by omega) hs (.inr ⟨t1, p1, rfl⟩)
      clear hs hr
      go_wp2_with fail
      refine C2.mono ?_
      rintro e w2 ⟨N, rfl, -, -, hb2⟩
      go_wp2_with fail
      go_ret2
      exact ⟨⟨_, _, _, rfl⟩, below_two hb hb2⟩

theorem readZ_le {b : Nat} : ∀ (l : List UInt8) (acc n : Nat), acc ≤ 9223372036854775807 → readZ b acc l = some n → n ≤ 9223372036854775807
  | [], acc, n, ha, h => by cases h; exact ha
  | c :: r, acc, n, ha, h => by
    unfold readZ at h
    split at h
    · split at h
      · cases h
      · exact readZ_le r _ n (by omega) h
    · cases h
/-- A number's value and whether it is one. -/
def constV (l : List UInt8) : Value × Value := (.int .i64 (((constZ l).getD 0 : Nat) : Int), .bool (constZ l).isSome)
set_option maxHeartbeats 2000000 in
theorem lconst (s : ByteArray) (hs : s.size ≤ 1000000) (w : World) (hL : LaidZ w) :
    Calls Tryd.prog 10 #[.string s] w fun e w' => e = .returned (.tuple #[(constV s.data.toList).1, (constV s.data.toList).2]) ∧ Below w.heap.size w w' := by
  have C0 := lbased s
  obtain ⟨d, b, hdb⟩ : ∃ d b, baseZ s.data.toList = (d, b) := ⟨_, _, rfl⟩
  have hd : d.length ≤ s.size ∧ (b = 8 ∨ b = 10 ∨ b = 16) := by
    have hl := size_data s
    obtain ⟨L, hLL⟩ : ∃ L, L = s.data.toList := ⟨_, rfl⟩
    rw [← hLL] at hdb hl
    rw [← hl]
    cases L with
    | nil => cases hdb; simp
    | cons c r =>
      by_cases hc : c = 48
      · subst hc
        cases r with
        | nil => cases hdb; simp
        | cons x q =>
          by_cases hx : x = 120 ∨ x = 88
          · rw [base_hex hx] at hdb; cases hdb; simp; omega
          · rw [base_oct hx] at hdb; cases hdb; simp
      · rw [base_ten hc] at hdb; cases hdb; simp
  have hk : constZ s.data.toList = parseZ b d := by unfold constZ parseZ; rw [hdb]
  have hR : ReadsP b := by
    rcases hd.2 with rfl | rfl | rfl
    · exact reads8
    · exact reads10
    · exact reads16
  rw [hdb] at C0
  have C1 := fun W hW => lpub hR ⟨d.toArray⟩ (by rw [sv_size]; omega) W hW
  rw [show (⟨d.toArray⟩ : ByteArray).data.toList = d from rfl, ← hk] at C1
  obtain ⟨o, ho⟩ : ∃ o, o = constZ s.data.toList := ⟨_, rfl⟩
  have hle : ∀ n, o = some n → n ≤ 9223372036854775807 := by
    intro n hn
    rw [ho, hk] at hn
    unfold parseZ at hn
    split at hn
    · cases hn
    · exact readZ_le _ _ _ (by decide) hn
  unfold constV
  rw [← ho] at C1 ⊢
  have HL := Lib.hid hL
  clear ho hk hdb hd hR hL
  obtain ⟨bi, hbi⟩ : ∃ bi : Int, bi = (b : Int) := ⟨_, rfl⟩
  have C0' : ∀ W, Calls Tryd.prog 19 #[.string s] W fun e w' => e = .returned (.tuple #[sv d, .int .i64 bi]) ∧ W = w' := by rw [hbi]; exact C0
  rw [← hbi] at C1
  clear C0 hbi
  have HC1 := Lib.hid C1
  clear C1
  cases o with
  | some n =>
    have hn := hle n rfl
    have hw : IntKind.i64.wrap (n : Int) = (n : Int) := by rw [IntKind.wrap_i64]; omega
    go_enter Tryd.func10, Tryd.ntmps10
    go_wp2_with fail
    refine (C0' _).mono ?_
    rintro e w1 ⟨rfl, rfl⟩
    go_wp2_with fail
    refine (HC1.out _ HL.out).mono ?_
    rintro e w1 ⟨he, hb⟩
    obtain rfl := he
    go_wp2_with fail
    go_ret2
    exact ⟨rfl, hb⟩
  | none =>
    go_enter Tryd.func10, Tryd.ntmps10
    go_wp2_with fail
    refine (C0' _).mono ?_
    rintro e w1 ⟨rfl, rfl⟩
    go_wp2_with fail
    refine (HC1.out _ HL.out).mono ?_
    rintro e w1 ⟨he, hb⟩
    obtain ⟨x, tp, p, rfl⟩ := he
    go_wp2_with fail
    go_ret2
    exact ⟨rfl, hb⟩
end Go.Proofs.YtclhpedecimicaaDoor
