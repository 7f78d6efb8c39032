/-
  The law AtokNames, walked.
-/
import Derived.Test.YtclhpedecimicaaDoorZReads
namespace Go.Proofs.YtclhpedecimicaaDoor
set_option maxRecDepth 100000
open Go Go.RowKit

/-- The tokens L lie from block g on. -/
def ToksAt (W : World) (g : Nat) (L : List Tk) : Prop :=
  ∀ i x, L[i]? = some x → W.cell? ⟨g, i * 4, none⟩ = some (.int .i64 (x.kind : Int)) ∧ W.cell? ⟨g, i * 4 + 1, none⟩ = some (.int .i64 (x.num : Int)) ∧ W.cell? ⟨g, i * 4 + 2, none⟩ = some (sv x.text) ∧ W.cell? ⟨g, i * 4 + 3, none⟩ = some (.int .i64 (x.pos : Int))
theorem ToksAt.below {W W' : World} {g : Nat} {L : List Tk} (h : ToksAt W g L) (hb : Below W.heap.size W W') : ToksAt W' g L := fun i x hx => by
  obtain ⟨h0, h1, h2, h3⟩ := h i x hx
  exact ⟨cell_belowZ hb (Nat.le_refl _) h0, cell_belowZ hb (Nat.le_refl _) h1, cell_belowZ hb (Nat.le_refl _) h2, cell_belowZ hb (Nat.le_refl _) h3⟩
theorem TokRow.place {W : World} {B : Nat} {a : Option Addr} {n c : Nat} {L : List Tk} (h : TokRow W B (.slice a n c) L) (hL : 0 < L.length) : ∃ g, a = some ⟨g, 0, none⟩ ∧ ToksAt W g L := by
  have hr := h.2
  rcases h.2.2 with ⟨-, h0⟩ | ⟨g, cap', cur, hv, hg, hc, h1, h2, h3, h4⟩
  · omega
  · simp only [Value.slice.injEq] at hv
    obtain ⟨rfl, rfl, -⟩ := hv
    refine ⟨g, rfl, fun i x hx => ?_⟩
    have hi := (List.getElem?_eq_some_iff.1 hx).1
    have hcell : ∀ f, f < 4 → W.cell? ⟨g, i * 4 + f, none⟩ = (tokF x)[f]? := fun f hf => by
      rw [hr.cellAt (i * 4 + f) (by omega), rowZ_get L i x hx f hf]
    exact ⟨hcell 0 (by decide), hcell 1 (by decide), hcell 2 (by decide), hcell 3 (by decide)⟩
theorem app_data (a b : ByteArray) : (a ++ b).data.toList = a.data.toList ++ b.data.toList := by
  rw [ByteArray.data_append, Array.toList_append]

set_option maxHeartbeats 8000000 in
theorem anames_walk (s : ByteArray) (ls : s.size ≤ 281474976710656) (w : World) (hL : LaidZ w) :
    Calls Tryd.prog 6 #[.string s] w fun e w' => e = .returned (.bool true) ∧ Below w.heap.size w w' := by
  have CA := awake12 w hL
  by_cases hbig : (s.size : Int) > 1000
  · go_enter Tryd.func6, Tryd.ntmps6
    go_wp2_with fail
    refine CA.mono ?_
    rintro e w1 ⟨rfl, hb⟩
    go_wp2_with fail
    go_ret
    exact ⟨rfl, hb⟩
  · have CN := rname_any s w (by unfold maxLen; omega)
    cases hn : nameB s.data.toList with
    | false =>
      rw [hn] at CN
      clear hn
      go_enter Tryd.func6, Tryd.ntmps6
      go_wp2_with fail
      refine CN.mono ?_
      rintro e w1 ⟨rfl, rfl⟩
      go_wp2_with fail
      refine CA.mono ?_
      rintro e w1 ⟨rfl, hb⟩
      go_wp2_with fail
      go_ret
      exact ⟨rfl, hb⟩
    | true =>
      rw [hn] at CN
      have hs : s.size ≤ 1000 := by omega
      have C1 := fun W hW => ltokens s (by omega) W hW
      rw [name_toks hn, size_data] at C1
      obtain ⟨t, ht⟩ : ∃ t : ByteArray, t = (⟨#[55, 43]⟩ ++ s ++ ⟨#[60, 60, 48, 120, 49, 102]⟩) := ⟨_, rfl⟩
      have htl : t.data.toList = 55 :: 43 :: (s.data.toList ++ [60, 60, 48, 120, 49, 102]) := by rw [ht, app_data, app_data]; rfl
      have hts : t.size ≤ 1008 := by rw [← size_data, htl]; simp only [List.length_cons, List.length_append, List.length_nil, size_data]; omega
      have C2 := fun W hW => ltokens t (by omega) W hW
      rw [htl, name_about hn, size_data] at C2
      have HL := Lib.hid hL
      have HT := Lib.hid ht
      clear hn htl hL CA ht
      go_enter Tryd.func6, Tryd.ntmps6
      go_wp2_with fail
      refine CN.mono ?_
      rintro e w1 ⟨rfl, rfl⟩
      clear CN
      go_wp2_with fail
      refine (C1 _ HL.out).mono ?_
      rintro e w1 ⟨hb1, v, rfl, ⟨a, c, rfl⟩, hown⟩
      obtain ⟨g1, rfl, hat1⟩ := TokRow.place (L := [⟨2, 0, s.data.toList, 0⟩, ⟨0, 0, [], s.size⟩]) ⟨⟨a, c, rfl⟩, hown⟩ (by simp)
      have HB1 := Lib.hid hb1
      have HA1 := Lib.hid hat1
      have HL1 := Lib.hid (HL.out.below hb1)
      clear hb1 hown hat1
      go_wp2_with fail
      rw [← HT.out]
      refine (C2 _ HL1.out).mono ?_
      rintro e w2 ⟨hb2, v, rfl, ⟨a2, d, rfl⟩, hown2⟩
      obtain ⟨g2, rfl, hat2⟩ := TokRow.place (L := [⟨1, 7, [], 0⟩, ⟨3, 0, [43], 1⟩, ⟨2, 0, s.data.toList, 2⟩, ⟨3, 0, [60, 60], 2 + s.size⟩, ⟨1, 31, [], 2 + s.size + 2⟩, ⟨0, 0, [], 2 + s.size + 6⟩]) ⟨⟨a2, d, rfl⟩, hown2⟩ (by simp)
      have HB2 := Lib.hid (below_two HB1.out hb2)
      have HL2 := Lib.hid (HL1.out.below hb2)
      obtain ⟨x0, x1, x2, x3⟩ := (HA1.out.below hb2) 0 ⟨2, 0, s.data.toList, 0⟩ rfl
      obtain ⟨-, -, y2, y3⟩ := hat2 2 ⟨2, 0, s.data.toList, 2⟩ rfl
      obtain ⟨-, z1, -, -⟩ := hat2 4 ⟨1, 31, [], 2 + s.size + 2⟩ rfl
      have x0' : w2.cell? ⟨g1, 0, none⟩ = some (.int .i64 2) := x0
      have x1' : w2.cell? ⟨g1, 1, none⟩ = some (.int .i64 0) := x1
      have x2' : w2.cell? ⟨g1, 2, none⟩ = some (.string s) := x2.trans (congrArg (fun b => some (Value.string b)) (sv_data s))
      have x3' : w2.cell? ⟨g1, 3, none⟩ = some (.int .i64 0) := x3
      have y2' : w2.cell? ⟨g2, 10, none⟩ = some (.string s) := y2.trans (congrArg (fun b => some (Value.string b)) (sv_data s))
      have y3' : w2.cell? ⟨g2, 11, none⟩ = some (.int .i64 2) := y3
      have z1' : w2.cell? ⟨g2, 17, none⟩ = some (.int .i64 31) := z1
      have heq := fun W => eq_tok 2 0 s 0 W
      have hgd := tok_guard
      clear hb2 hown2 hat2 x0 x1 x2 x3 y2 y3 z1
      go_wp2_with fail
      refine (awake12 _ HL2.out).mono ?_
      rintro e w3 ⟨rfl, hb3⟩
      have HB3 := Lib.hid (below_two HB2.out hb3)
      clear hb3
      go_wp2_with fail
      go_ret
      exact ⟨rfl, HB3.out⟩
end Go.Proofs.YtclhpedecimicaaDoor
