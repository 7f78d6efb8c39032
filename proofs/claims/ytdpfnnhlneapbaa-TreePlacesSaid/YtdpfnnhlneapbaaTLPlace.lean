/-
  tree's Place, of the landed code.
-/
import Derived.Lib.Join
import Derived.Sort.EncStr
import Derived.Test.YtdpfnnhlneapbaaTLName
import Derived.Test.YtdpfnnhlneapbaaShelf
import Derived.Test.YtdpfnnhlneapbaaTexts
namespace Go.Proofs.Ytdpfnnhlneapbaa
open Go Go.RowKit

theorem join_same : ∀ L : List (List UInt8), Lib.join L [47] = joinL L
  | [] => rfl
  | [x] => by rw [Lib.join_one]; rfl
  | x :: y :: r => by
    have ih := join_same (y :: r)
    rw [Lib.join_cons] at ih ⊢
    simp only [joinL, ← ih, Lib.joinTail, List.map_cons, List.flatten_cons]
    simp

def lplaceGo (L : List Ino) : Nat → Int → List (List UInt8) → List UInt8
  | 0, _, _ => []
  | k + 1, d, N => if dirB L d = true then (if d = 0 then 47 :: joinL N.reverse else if (nameAns L (nodeAt L d).up d).2 = true then lplaceGo L k (nodeAt L d).up (N ++ [(nameAns L (nodeAt L d).up d).1]) else []) else []
theorem lplace_succ (L : List Ino) (k : Nat) (d : Int) (N : List (List UInt8)) : lplaceGo L (k + 1) d N = if dirB L d = true then (if d = 0 then 47 :: joinL N.reverse else if (nameAns L (nodeAt L d).up d).2 = true then lplaceGo L k (nodeAt L d).up (N ++ [(nameAns L (nodeAt L d).up d).1]) else []) else [] := rfl
def lplaceL (L : List Ino) (d : Int) : List UInt8 := lplaceGo L 256 d []

def Short64 (L : List Ino) : Prop := ∀ k (h : k < L.length), L[k].kids.length ≤ 1024 ∧ ∀ e ∈ L[k].kids, e.1.length ≤ 64

theorem nameOf_mem : ∀ (M : List (List UInt8 × Int)) (d : Int) (s : List UInt8), nameOf M d = some s → (s, d) ∈ M
  | [], _, _, h => by cases h
  | e :: r, d, s, h => by
    unfold nameOf at h
    by_cases hd : e.2 = d
    · rw [if_pos hd] at h
      cases h
      subst hd
      exact List.mem_cons_self
    · rw [if_neg hd] at h
      exact List.mem_cons_of_mem _ (nameOf_mem r d s h)
theorem nameAns_len {L : List Ino} (hS : Short64 L) (k d : Int) : (nameAns L k d).1.length ≤ 64 := by
  unfold nameAns
  by_cases h : dirB L k = true
  · rw [if_pos h]
    obtain ⟨n, rfl, hn⟩ := there_nat (show thereB L k = true by unfold dirB at h; rw [Bool.and_eq_true] at h; exact h.1)
    rw [node_nat L n hn]
    cases hs : nameOf L[n].kids d with
    | none => simp
    | some s => exact (hS n hn).2 _ (nameOf_mem _ _ _ hs)
  · rw [if_neg h]
    simp

theorem total_rev (N : List (List UInt8)) : total N.reverse = total N := by
  induction N with
  | nil => rfl
  | cons x r ih => rw [List.reverse_cons, total_append, ih]; simp only [total]; omega

theorem below_row {B : Nat} {w W : World} (h : Below B w W) (g n : Nat) (hg : B ≤ g) (d : Array (List UInt8)) : Below B w (Sort.putRow encStr (Sort.ahead W n) g 0 d) := by
  refine ⟨h.os, h.tape, h.output, by rw [Sort.size_putRow]; exact h.size, fun i hi => ?_⟩
  have e : (Sort.putRow encStr (Sort.ahead W n) g 0 d).heap[i]? = W.heap[i]? := by
    show (W.heap.modify g _)[i]? = _
    rw [Array.getElem?_modify, if_neg (by omega)]
  rw [e]
  exact h.block i hi

/-- A row of texts, turned and joined. -/
theorem turn_join {B : Nat} {w W : World} {v : Value} {N : List (List UInt8)} (hT : Texts B W v N) (hb : Below B w W) (hN : total N ≤ 1099511627776) (hBw : w.heap.size = B) :
    Calls Try.prog 40 #[v] W fun e W' => e = .returned (.tuple #[]) ∧ Below B w W' ∧
      Calls Try.prog 41 #[v, .string ⟨#[47]⟩] W' fun e W2 => e = .returned (.string ⟨(joinL N.reverse).toArray⟩) ∧ Below B w W2 := by
  have hlens : N.length ≤ total N := by
    have h : ∀ L : List (List UInt8), L.length ≤ total L := by
      intro L
      induction L with
      | nil => simp [total]
      | cons x r ih => simp only [List.length_cons, total]; omega
    exact h N
  rcases hT.forms with ⟨rfl, rfl⟩ | ⟨g, cap, rfl, hB, hg, hcap, hmax, hcell⟩
  · refine (Try.slices_Reverse_string_empty none 0 W).mono ?_
    rintro e W' ⟨rfl, rfl⟩
    refine ⟨rfl, hb, (Try.strings_Join_none none 0 _ _).mono ?_⟩
    rintro e W2 ⟨rfl, rfl⟩
    exact ⟨rfl, hb⟩
  · obtain ⟨-, h2 | ⟨g', cap', cur, e1, -, hh, -, -, -, -⟩⟩ := hT
    · cases h2.1
    · simp only [Value.slice.injEq, Option.some.injEq, Addr.mk.injEq] at e1
      obtain ⟨⟨rfl, -, -⟩, -, rfl⟩ := e1
      have hH : Sort.Holds encStr W g 0 N.toArray := by
        intro j hj
        have hj' : j < N.length := by simpa using hj
        refine ⟨?_, ?_⟩
        · rw [Nat.zero_add, hcell j hj', getElem!_pos N.toArray j hj]
          rfl
        · simp only [World.frozen?, hh]
          simp
      refine (Try.slices_Reverse_string g 0 cap N W hH (by omega)).mono ?_
      rintro e W' ⟨rfl, n, rfl⟩
      have hbr := below_row hb g n hB N.reverse.toArray
      refine ⟨rfl, hbr, ?_⟩
      have hlist : ∀ M : List (List UInt8), (M.map fun x : List UInt8 => (⟨x.toArray⟩ : ByteArray)).map (·.data.toList) = M := by
        intro M
        rw [List.map_map]
        conv => rhs; rw [← List.map_id M]
        rfl
      have hjl := join_le N.reverse
      rw [total_rev] at hjl
      have HJ := Try.strings_Join g 0 cap (N.reverse.map fun x : List UInt8 => (⟨x.toArray⟩ : ByteArray)) ⟨#[47]⟩ (Sort.putRow encStr (Sort.ahead W n) g 0 N.reverse.toArray)
        (fun j x hx => by
          rw [List.getElem?_map] at hx
          obtain ⟨y, hy, rfl⟩ := Option.map_eq_some_iff.1 hx
          obtain ⟨hj, rfl⟩ := List.getElem?_eq_some_iff.1 hy
          have hj' : j < N.length := by simpa using hj
          have h1 := Sort.cell?_putRow encStr (Sort.ahead W n) g 0 N.toArray N.reverse.toArray hH (by simp) j (by simpa using hj')
          rw [h1, getElem!_pos N.reverse.toArray j (by simpa using hj')]
          rfl)
        (by rw [Sort.size_putRow]; exact hg) (by rw [List.length_map, List.length_reverse]; omega) (by rw [List.length_map, List.length_reverse]; exact hcap)
        (by rw [hlist]; show (Lib.join N.reverse [47]).length ≤ _; rw [join_same]; omega)
      rw [hlist, List.length_map, List.length_reverse] at HJ
      have hsame : Lib.join N.reverse (⟨#[47]⟩ : ByteArray).data.toList = joinL N.reverse := join_same N.reverse
      rw [hsame] at HJ
      refine HJ.mono ?_
      rintro e W2 ⟨rfl, hb2⟩
      exact ⟨rfl, hbr.trans (hb2.mono (by rw [← hBw]; exact hbr.size))⟩
end Go.Proofs.Ytdpfnnhlneapbaa
