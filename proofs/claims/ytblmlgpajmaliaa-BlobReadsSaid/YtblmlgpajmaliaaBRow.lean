/-
  rowOf of the landed code: a file's bytes in a row of so many, if they find room.
-/
import Derived.Test.YtblmlgpajmaliaaBFilled
import Derived.Test.YtblmlgpajmaliaaBRoom
namespace Go.Proofs.Ytblmlgpajmaliaa
set_option maxRecDepth 100000
open Go Go.RowKit

theorem below_row {B g : Nat} {w0 w : World} (hb : Below B w0 w) (hg : B ≤ g) (cs : Array Value) : Below B w0 (w.setRow g cs) := ⟨hb.os, hb.tape, hb.output, by rw [setRow_size]; exact hb.size, fun k hk => by rw [setRow_other w g k cs (by omega)]; exact hb.block k hk⟩
theorem row_cut (old : List UInt8) (n : Nat) : (List.replicate n (0 : UInt8)).take 0 ++ old.take n ++ (List.replicate n 0).drop (0 + min old.length n) = cutL old n := by
  unfold cutL
  rw [List.take_zero, List.nil_append, List.drop_replicate]
  congr 2
  omega
theorem row_laid (old : List UInt8) (off : Nat) (s : List UInt8) (n : Nat) (hn : n = max (off + s.length) old.length) : (cutL old n).take off ++ s.take (n - off) ++ (cutL old n).drop (off + min s.length (n - off)) = laidL old off s := by
  have h1 : s.take (n - off) = s := List.take_of_length_le (by omega)
  have h2 : min s.length (n - off) = s.length := by omega
  rw [h1, h2]
  refine List.ext_getElem? fun i => ?_
  have hl : ((cutL old n).take off).length = off := by rw [List.length_take, cutL_len]; omega
  rw [laid_get, List.getElem?_append, List.length_append, hl]
  by_cases c1 : i < off
  · rw [if_pos (by omega), List.getElem?_append, hl, if_pos c1, if_pos c1, List.getElem?_take, if_pos c1, cutL_get, if_pos (by omega)]
  · rw [if_neg c1]
    by_cases c2 : i < off + s.length
    · rw [if_pos c2, if_pos c2, List.getElem?_append, hl, if_neg c1]
    · rw [if_neg c2, if_neg c2, List.getElem?_drop, show off + s.length + (i - (off + s.length)) = i by omega, cutL_get]
      by_cases c3 : i < n
      · rw [if_pos c3, if_pos (by omega)]
      · rw [if_neg c3, List.getElem?_eq_none (by omega)]

set_option maxHeartbeats 2000000 in
theorem lrow_no (a : Option Addr) (cap : Nat) (m b : Int) (k size : Nat) (hsz : size ≤ 1000000) (L : List Ino) (hF : FitP L m b) (hk : k < L.length) (hno : b < (usedB L : Int) - (L[k].data.length : Int) + (size : Int)) (w : World) (hN : NodesIn w a cap L) :
    Calls Try.prog 23 #[.agg #[.slice a L.length cap, .int .i64 m, .int .i64 b], .int .i64 k, .int .i64 size] w fun e w' => e = .returned (.tuple #[.slice none 0 0, .int .i64 28]) ∧ Below w.heap.size w w' := by
  have hb1 := below_box w (.cells #[.slice a L.length cap, .int .i64 m, .int .i64 b] 24)
  have HM := Lib.hid (hN.below hb1)
  have HB1 := Lib.hid hb1
  obtain ⟨l1, l2, l3, l4, l5⟩ := hF.limits
  obtain ⟨bb, o, rfl, hx⟩ := (hN.below hb1).2.2 k hk
  have x3 := hx.data
  have hxl := cell_lt x3
  have hk0 : (0 : Int) ≤ (k : Int) := by omega
  have hk1 : (k : Int) < (L.length : Int) := by omega
  obtain ⟨D, hD⟩ : ∃ D : ByteArray, D = ⟨L[k].data.toArray⟩ := ⟨_, rfl⟩
  have hDs : D.size = L[k].data.length := by rw [hD]; simp [ByteArray.size]
  have hDb : D.size ≤ 65536 := by rw [hDs]; exact data_lim hF hk
  have hU : usedB L ≤ 65536 := by omega
  have hLl : L.length ≤ 1000 := by omega
  rw [← hD] at x3
  rw [← hDs] at hno
  have hwr : IntKind.i64.wrap ((size : Int) - (D.size : Int)) = (size : Int) - (D.size : Int) := by rw [IntKind.wrap_i64]; omega
  have HR := Lib.hid (fun W hW => lroom_any (some ⟨bb, o, none⟩) cap m b ((size : Int) - (D.size : Int)) (by omega) L hLl (by omega) W hW)
  have HV := Lib.hid (show decide ((usedB L : Int) + ((size : Int) - (D.size : Int)) ≤ b) = false from decide_eq_false (by omega))
  clear hN hb1 hx hF hD hDs hno l1 l2 l3 l4 l5 hU
  go_enter Try.func23, Try.ntmps23
  go_wp2_with fail
  refine (HR.out _ HM.out).mono ?_
  rintro e w2 ⟨rfl, hb2⟩
  rw [HV.out]
  have HB2 := Lib.hid (HB1.out.trans (hb2.mono (by simp)))
  clear hb2
  go_wp2_with fail
  go_ret2
  exact ⟨rfl, HB2.out⟩

set_option maxHeartbeats 2000000 in
theorem lrow_yes (a : Option Addr) (cap : Nat) (m b : Int) (k size : Nat) (hsz : size ≤ 1000000) (L : List Ino) (hF : FitP L m b) (hk : k < L.length) (hyes : ¬ b < (usedB L : Int) - (L[k].data.length : Int) + (size : Int)) (w : World) (hN : NodesIn w a cap L) :
    Calls Try.prog 23 #[.agg #[.slice a L.length cap, .int .i64 m, .int .i64 b], .int .i64 k, .int .i64 size] w fun e w' => ∃ B, e = .returned (.tuple #[.slice (some ⟨B, 0, none⟩) size size, .int .i64 0]) ∧ w'.heap[B]? = some (.cells (rowB (cutL L[k].data size)) 5 (0, 0)) ∧ w.heap.size ≤ B ∧ Below w.heap.size w w' := by
  have hb1 := below_box w (.cells #[.slice a L.length cap, .int .i64 m, .int .i64 b] 24)
  have HM := Lib.hid (hN.below hb1)
  have HB1 := Lib.hid hb1
  obtain ⟨l1, l2, l3, l4, l5⟩ := hF.limits
  obtain ⟨bb, o, rfl, hx⟩ := (hN.below hb1).2.2 k hk
  have x3 := hx.data
  have hxl := cell_lt x3
  have hk0 : (0 : Int) ≤ (k : Int) := by omega
  have hk1 : (k : Int) < (L.length : Int) := by omega
  obtain ⟨D, hD⟩ : ∃ D : ByteArray, D = ⟨L[k].data.toArray⟩ := ⟨_, rfl⟩
  have hDs : D.size = L[k].data.length := by rw [hD]; simp [ByteArray.size]
  have HDL := Lib.hid (show D.data.toList = L[k].data by rw [hD])
  have hDb : D.size ≤ 65536 := by rw [hDs]; exact data_lim hF hk
  have hU : usedB L ≤ 65536 := by omega
  have hLl : L.length ≤ 1000 := by omega
  rw [← hD] at x3
  rw [← hDs] at hyes
  have hwr : IntKind.i64.wrap ((size : Int) - (D.size : Int)) = (size : Int) - (D.size : Int) := by rw [IntKind.wrap_i64]; omega
  have HR := Lib.hid (fun W hW => lroom_any (some ⟨bb, o, none⟩) cap m b ((size : Int) - (D.size : Int)) (by omega) L hLl (by omega) W hW)
  have HV := Lib.hid (show decide ((usedB L : Int) + ((size : Int) - (D.size : Int)) ≤ b) = true from decide_eq_true (by omega))
  clear hN hb1 hx hF hD hyes l1 l2 l3 l4 l5 hU
  have HDS := Lib.hid hDs
  clear hDs
  go_enter Try.func23, Try.ntmps23
  go_wp2_with fail
  refine (HR.out _ HM.out).mono ?_
  rintro e w2 ⟨rfl, hb2⟩
  rw [HV.out]
  have HB2 := Lib.hid (HB1.out.trans (hb2.mono (by simp)))
  have hmk := run_make_bytes w2 (size : Int) size rfl (by omega)
  have hcp := run_copy_bytes (w2.alloc (.cells (rowB (List.replicate size 0)) 5)) w2.heap.size 0 size size D (List.replicate size 0) 5 (new_block w2 _) (by rw [List.length_replicate]; omega)
  have hrow : (List.replicate size (0 : UInt8)).take 0 ++ D.data.toList.take size ++ (List.replicate size 0).drop (0 + min D.size size) = cutL L[k].data size := by
    rw [HDL.out, HDS.out, row_cut]
  rw [hrow] at hcp
  have hs2 : w.heap.size ≤ w2.heap.size := HB2.out.size
  have HBW := Lib.hid (below_row ((HB2.out).alloc hs2 (.cells (rowB (List.replicate size 0)) 5)) hs2 (rowB (cutL L[k].data size)))
  have HHW := Lib.hid (setRow_heap (w2.alloc (.cells (rowB (List.replicate size 0)) 5)) w2.heap.size (rowB (List.replicate size 0)) (rowB (cutL L[k].data size)) 5 (0, 0) (new_block w2 _))
  clear hb2 hrow
  go_wp2_with fail
  go_ret2
  exact ⟨w2.heap.size, rfl, HHW.out, hs2, HBW.out⟩
end Go.Proofs.Ytblmlgpajmaliaa
