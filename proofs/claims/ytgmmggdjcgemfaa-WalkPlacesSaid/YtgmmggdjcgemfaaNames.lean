/-
  path's names: an iterator over a path's names: each in its order, each once; it stops where the loop is left.
-/
import Derived.RangeFuncBox
import Derived.RangeFuncLeaves
import Derived.RangeFuncNested
import Derived.RangeFuncBound
import Derived.RangeFuncCalls
import Derived.Shelf.Abstract
import Derived.WalkKit
import Derived.OwnWalkIn
import Derived.TacticsInMore
import Derived.LoopNIn
import Derived.LoopIn
import Derived.Maps.AppendAt
import Derived.Test.YtgmmggdjcgemfaaCuts2
namespace Go.Proofs.Ytgmmggdjcgemfaa
open Go Go.RowKit Go.Shelf

attribute [local go_sem] Oper.semAt_some

/-- Block Bn stands as it stood. -/
def KeepB (Bn : Nat) (W W' : World) : Prop := W'.heap[Bn]? = W.heap[Bn]?
theorem keepB_t {Bn : Nat} {A B C : World} (h : KeepB Bn A B) (k : KeepB Bn B C) : KeepB Bn A C := Eq.trans k h
theorem keepB_b {Bn : Nat} {w : World} (hb : Bn < w.heap.size) (W : World) (l : Nat) (o o' : Obj) (hl : w.heap.size ≤ l) (_ : W.heap[l]? = some o) (_ : o.isCells = false) (_ : o.isWalk = false) : KeepB Bn W (W.putObj l o') :=
  by
  show (W.putObj l o').heap[Bn]? = W.heap[Bn]?
  simp only [World.putObj]
  rw [Array.getElem?_setIfInBounds_ne (by omega)]

/-- The names D are done, the rest r stands before us. -/
def Rest (s : List UInt8) (D : List (List UInt8)) (r : List UInt8) : Prop := r.length ≤ s.length ∧ partsL s = D ++ partsL r
theorem Rest.start (s : List UInt8) : Rest s [] s := ⟨Nat.le_refl _, rfl⟩
theorem Rest.skip {s r : List UInt8} {D : List (List UInt8)} (h : Rest s D r) (hh : headL r = []) : Rest s D (tailL r) := by
  refine ⟨Nat.le_trans (tail_len r) h.1, ?_⟩
  rw [h.2, parts_step r, if_pos hh, List.nil_append]
theorem Rest.takes {s r : List UInt8} {D : List (List UInt8)} (h : Rest s D r) (hh : headL r ≠ []) : Rest s (D ++ [headL r]) (tailL r) := by
  refine ⟨Nat.le_trans (tail_len r) h.1, ?_⟩
  rw [h.2, parts_step r, if_neg hh, List.append_assoc]
theorem Rest.done {s : List UInt8} {D : List (List UInt8)} (h : Rest s D []) : D = partsL s := by
  rw [h.2]
  simp [partsL, partsGo]
theorem Rest.pre {s r : List UInt8} {D : List (List UInt8)} (h : Rest s D r) : D <+: partsL s := ⟨partsL r, h.2.symm⟩

def IRel (s : ByteArray) (Bn : Nat) (J : List (List UInt8) → World → Prop) (r : Value) (wr : World) : Prop :=
  ∃ (l : List UInt8) (D : List (List UInt8)), r = .string ⟨l.toArray⟩ ∧ Rest s.data.toList D l ∧ J D wr ∧ wr.cell? ⟨Bn, 0, none⟩ = some (.string s)

def lenOf : Value → Nat
  | .string b => b.size
  | _ => 0

theorem list_empty (l : List UInt8) : ((⟨l.toArray⟩ : ByteArray).toList.isEmpty) = l.isEmpty := by rw [ByteArray.toList_eq]

theorem cut_list (l : List UInt8) (hs : l.length ≤ 1073741824) (w : World) :
    Calls Try.prog 54 #[.string ⟨l.toArray⟩, .string ⟨#[47]⟩] w fun e w' => (∃ b, e = .returned (.tuple #[.string ⟨(headL l).toArray⟩, .string ⟨(tailL l).toArray⟩, .bool b])) ∧ Drawn w w' :=
  cut_any ⟨l.toArray⟩ (by show l.toArray.size ≤ _; simpa using hs) w

/-- A fence that shuts nothing out. -/
structure Open (F : Fence) : Prop where
  fn : ∀ f, F.fn f
  ro : F.round = none
  calls : ∀ {n : Nat} {P : Program} {f : FuncId} {args : Array Value} {w : World} {R : Ending → World → Prop}, Calls P f args w R → CallsIn F n P f args w R
theorem open_wide : Open Fence.wide := ⟨fun _ => trivial, rfl, fun h => callsIn_wide.2 h⟩

set_option maxRecDepth 100000 in
set_option maxHeartbeats 2000000 in
theorem names1_in (F : Fence) (hF : Open F) (n : Nat) (hn : 1 ≤ n) (l Bn : Nat) (s : ByteArray) (hs : s.size ≤ 1073741824) (J Jx : List (List UInt8) → World → Prop) (hdr : ∀ pre W m, J pre W → J pre (W.drewN m))
    (hY : ∀ pre x W, J pre W → pre.length < (partsL s.data.toList).length → YieldAt F (n - 1) Try.prog l #[.string ⟨x.toArray⟩] W fun e W' =>
      (e = .returned (.bool true) ∧ J (pre ++ [x]) W' ∧ KeepB Bn W W') ∨ (e = .returned (.bool false) ∧ Jx (pre ++ [x]) W'))
    (W : World) (hBn : W.cell? ⟨Bn, 0, none⟩ = some (.string s)) (h0 : J [] W) :
    CallsIn F n Try.prog 53 #[.func (.yield l) #[] #[], .pointer (some ⟨Bn, 0, none⟩)] W fun e W' => (∃ v, e = .returned v) ∧
      ((∃ ys, ys = partsL s.data.toList ∧ J ys W') ∨ (∃ pre, pre <+: partsL s.data.toList ∧ Jx pre W')) := by
  have hsl := size_list s
  have hro : F.round = none := hF.ro
  have hfc : F.fn 54 := hF.fn _
  refine callsIn_of_wp Try.func53 rfl (hF.fn _) ?_ hro
  simp only [Try.ntmps53, List.size_toArray, List.length_cons, List.length_nil, Nat.reduceAdd, Nat.reduceSub, Array.replicate_succ, Array.replicate_zero, List.push_toArray, List.append_toArray, List.nil_append, List.cons_append]
  gi_wp2
  gi_loopw [3, 4] (fun r _ wr => IRel s Bn J r wr) (fun r _ _ => lenOf r)
  case atStart => exact ⟨s.data.toList, [], rfl, Rest.start _, h0, hBn⟩
  case round =>
    obtain ⟨r, D, rfl, hrest, hJ, hcell⟩ := hrel
    have HR := Lib.hid hrest
    have HJ := Lib.hid hJ
    clear hrest hJ
    have he := list_empty r
    cases hr : r.isEmpty with
    | true =>
      obtain rfl : r = [] := by simpa using hr
      have hfin := Lib.hid (Rest.done HR.out)
      gi_wp2
      go_end0
      exact ⟨⟨_, rfl⟩, .inl ⟨D, hfin.out, HJ.out⟩⟩
    | false =>
      have hrl : r.length ≤ 1073741824 := by have := HR.out.1; omega
      have hrn : r ≠ [] := fun e => by rw [e] at hr; cases hr
      have htl := tail_less r hrn
      have HT := Lib.hid htl
      clear htl hrn
      have he2 := list_empty (headL r)
      cases hh : (headL r).isEmpty with
      | true =>
        have hnext := Lib.hid (HR.out.skip (by simpa using hh))
        gi_wp2_with (gi_at_call 54; refine (hF.calls (cut_list r hrl _)).mono ?_; rintro e w' ⟨⟨b, rfl⟩, m, rfl⟩)
        refine ⟨fun _ h => (by cases h), ?_⟩
        gi_wp2
        go_roundw
        case rel => exact ⟨tailL r, D, rfl, hnext.out, hdr _ _ _ HJ.out, hcell⟩
        case measure => exact HT.out
      | false =>
        have hnext := Lib.hid (HR.out.takes (by simpa using hh))
        have hlen : D.length < (partsL s.data.toList).length := by
          have := (Rest.pre hnext.out).length_le
          simp at this
          omega
        gi_wp2_with (gi_at_call 54; refine (hF.calls (cut_list r hrl _)).mono ?_; rintro e w' ⟨⟨b, rfl⟩, m, rfl⟩; obtain ⟨fn, tmps, assign, body, hy, hR⟩ := hY D (headL r) _ (hdr _ _ m HJ.out) hlen)
        refine hR.mono ?_
        rintro e W3 (⟨rfl, hJ3, hk3⟩ | ⟨rfl, hJx3⟩)
        · have hcell3 : W3.cell? ⟨Bn, 0, none⟩ = some (.string s) := (World.cell?_of_block (w := wr.drewN m) (a := ⟨Bn, 0, none⟩) (show W3.heap[Bn]? = (wr.drewN m).heap[Bn]? from hk3)).trans hcell
          gi_wp2
          go_roundw
          case rel => exact ⟨tailL r, D ++ [headL r], rfl, hnext.out, hJ3, hcell3⟩
          case measure => exact HT.out
        · have hpre := Rest.pre hnext.out
          gi_wp2
          refine bodyPost_ret (results_none rfl _ _ _) rfl ?_
          exact ⟨⟨_, rfl⟩, .inr ⟨D ++ [headL r], hpre, hJx3⟩⟩

theorem names_in (F : Fence) (hF : Open F) (n : Nat) (s : ByteArray) (w : World) :
    CallsIn F n Try.prog 48 #[.string s] w fun e w' => e = .returned (.func (.func 53) #[] #[.pointer (some ⟨w.heap.size, 0, none⟩)]) ∧ w' = w.alloc (.cells #[.string s] 9) := by
  have hro : F.round = none := hF.ro
  refine callsIn_of_wp Try.func48 rfl (hF.fn _) ?_ hro
  simp only [Try.ntmps48, List.size_toArray, List.length_cons, List.length_nil, Nat.reduceAdd, Nat.reduceSub, Array.replicate_succ, Array.replicate_zero, List.push_toArray, List.append_toArray, List.nil_append, List.cons_append]
  gi_wp2
  go_ret
  exact ⟨rfl, rfl⟩

theorem drewN_grownBy (W : World) (m : Nat) : W.grownBy (W.drewN m) none := ⟨rfl, rfl, rfl, Nat.le_refl _, fun _ _ _ => rfl⟩

theorem names_stops (F : Fence) (hF : Open F) (n : Nat) (hn : 1 ≤ n) (Bn : Nat) (s : ByteArray) (hs : s.size ≤ 1073741824) (w : World) (hBn : Bn < w.heap.size)
    (hc : w.cell? ⟨Bn, 0, none⟩ = some (.string s)) :
    SeqStopsK F n Try.prog 53 #[.pointer (some ⟨Bn, 0, none⟩)] (fun x : List UInt8 => #[Value.string ⟨x.toArray⟩]) (KeepB Bn) (fun ys => ys = partsL s.data.toList) (fun pre => pre <+: partsL s.data.toList) (partsL s.data.toList).length w := fun l J Jx W hW hJ _ hY h0 =>
  names1_in F hF n hn l Bn s hs J Jx (fun pre W m h => hJ pre W _ none h (drewN_grownBy W m) (fun _ e => by cases e)) hY W ((hW.cell (p := ⟨Bn, 0, none⟩) hBn).trans hc) h0
end Go.Proofs.Ytgmmggdjcgemfaa
