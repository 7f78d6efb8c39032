/-
  Chapter 12's examples.
-/
import Derived.Test.YtclhpedecimicaaDoorZSame
namespace Go.Proofs.YtclhpedecimicaaDoor
set_option maxRecDepth 100000
open Go Go.RowKit

theorem blk_toks {W : World} {g : Nat} {L : List Tk} {t : TypeId} (h : W.heap[g]? = some (.cells (rowZ L).toArray t (0, 0))) : ToksIn W (some ⟨g, 0, none⟩) L := by
  intro i x hx
  have hc : ∀ f, f < 4 → W.cell? ⟨g, 0 + i * 4 + f, none⟩ = (tokF x)[f]? := fun f hf => by
    rw [Nat.zero_add, blk_cell h, List.getElem?_toArray, rowZ_get L i x hx f hf]
  exact ⟨g, 0, rfl, hc 0 (by decide), hc 1 (by decide), hc 2 (by decide), hc 3 (by decide)⟩
def ex12 : List Tk := [⟨2, 0, [97], 0⟩, ⟨3, 0, [60, 60, 61], 1⟩, ⟨1, 31, [], 4⟩, ⟨0, 0, [], 8⟩]
theorem toks_ex : toks [97, 60, 60, 61, 48, 120, 49, 70] 0 = .inl ex12 := by rfl
theorem toks_ex2 : toks [48, 57] 0 = .inr (0, 102) := by rfl
theorem toks_ex3 : toks [49, 32, 64] 0 = .inr (2, 101) := by rfl

set_option maxHeartbeats 4000000 in
theorem awake12 (w : World) (hL : LaidZ w) : Calls Tryd.prog 7 #[] w fun e w' => e = .returned (.bool true) ∧ Below w.heap.size w w' := by
  have C1 := fun W hW => ltokens ⟨#[97, 60, 60, 61, 48, 120, 49, 70]⟩ (by decide) W hW
  have C2 := fun W hW => ltokens ⟨#[48, 57]⟩ (by decide) W hW
  have C3 := fun W hW => ltokens ⟨#[49, 32, 64]⟩ (by decide) W hW
  rw [show (⟨#[97, 60, 60, 61, 48, 120, 49, 70]⟩ : ByteArray).data.toList = [97, 60, 60, 61, 48, 120, 49, 70] from rfl, toks_ex] at C1
  rw [show (⟨#[48, 57]⟩ : ByteArray).data.toList = [48, 57] from rfl, toks_ex2] at C2
  rw [show (⟨#[49, 32, 64]⟩ : ByteArray).data.toList = [49, 32, 64] from rfl, toks_ex3] at C3
  have HL := Lib.hid hL
  clear hL
  go_enter Tryd.func7, Tryd.ntmps7
  go_wp2_with fail
  refine (C1 _ HL.out).mono ?_
  rintro e w1 ⟨hb1, v, rfl, ⟨a, c, rfl⟩, hown⟩
  have HB1 := Lib.hid hb1
  have HR := Lib.hid (show TokRow w1 w.heap.size (.slice a ex12.length c) ex12 from ⟨⟨a, c, rfl⟩, hown⟩)
  have HL1 := Lib.hid (HL.out.below hb1)
  clear hb1 hown
  go_wp2_with fail
  refine (C2 _ HL1.out).mono ?_
  rintro e w2 ⟨hb2, he⟩
  obtain rfl := he
  have HB2 := Lib.hid (below_two HB1.out hb2)
  have HL2 := Lib.hid (HL1.out.below hb2)
  have HT2 := Lib.hid (HR.out.toks.below hb2)
  clear hb2
  go_wp2_with fail
  refine (C3 _ HL2.out).mono ?_
  rintro e w3 ⟨hb3, he⟩
  obtain rfl := he
  have HB3 := Lib.hid (below_two HB2.out hb3)
  have HT3 := Lib.hid (HT2.out.below hb3)
  clear hb3
  have HBX := Lib.hid (below_box w3 (.cells (rowZ ex12).toArray 34))
  have HNX := Lib.hid (new_block w3 (.cells (rowZ ex12).toArray 34))
  go_wp2_with fail
  refine (lsameZ a (some ⟨w3.heap.size, 0, none⟩) c 4 ex12 (by decide) _ (HT3.out.below HBX.out) (blk_toks HNX.out)).mono ?_
  rintro e w4 ⟨rfl, hb4⟩
  have HB4 := Lib.hid (below_two HB3.out (below_two HBX.out hb4))
  clear hb4
  go_wp2_with fail
  go_ret
  exact ⟨rfl, HB4.out⟩
end Go.Proofs.YtclhpedecimicaaDoor
