/-
  P11.1 in plain words: all bytes quoted, none quoted; what is quoted behind the end.
-/
import Derived.Test.YtclhpedecimicaaGreatK20
namespace Go.Proofs.YtclhpedecimicaaGreat
set_option maxRecDepth 100000
open Go Go.RowKit

theorem pl_noughts : ∀ (p : List UInt8) (n : Nat) (r : List UInt8), p.length ≤ n → plL p (List.replicate n 48 ++ r) = plL p []
  | [], _, _, _ => by simp [plL]
  | a :: p, 0, _, h => absurd h (by simp)
  | a :: p, n + 1, r, h => by
    have ih := pl_noughts p n r (by simp at h; omega)
    rw [List.replicate_succ, List.cons_append]
    unfold plL
    rw [ih]
    rfl
theorem pl_take : ∀ (p q : List UInt8), plL p (q.take p.length) = plL p q
  | [], _ => by simp [plL]
  | a :: p, [] => by simp
  | a :: p, b :: q => by
    rw [List.length_cons, List.take_succ_cons]
    unfold plL
    rw [pl_take p q]
theorem pl_ones : ∀ (p : List UInt8), magB (plL p (List.replicate p.length 49)) = false
  | [] => rfl
  | a :: p => by
    have ih := pl_ones p
    unfold magB at ih ⊢
    rw [List.length_cons, List.replicate_succ]
    unfold plL
    rw [List.any_cons, ih]
    rfl
theorem head_tail : ∀ (p : List UInt8), (47 : UInt8) ∈ p → (headL p).length + 1 + (tailL p).length = p.length
  | [], h => by cases h
  | c :: r, h => by
    unfold headL tailL
    by_cases hc : c = 47
    · rw [if_pos hc, if_pos hc]; simp; omega
    · rw [if_neg hc, if_neg hc]
      have := head_tail r ((List.mem_cons.1 h).resolve_left (fun e => hc e.symm))
      simp only [List.length_cons]; omega
def ptKey (x : Pt) : List UInt8 × Pl × Bool := (x.t, x.L, x.sl)
theorem key_noughts {p : List UInt8} {n : Nat} (r : List UInt8) (h : p.length ≤ n) (s : Bool) : ptKey ⟨headL p, (List.replicate n 48 ++ r).take (headL p).length, s⟩ = ptKey ⟨headL p, List.take (headL p).length [], s⟩ := by
  have hh := head_len p
  have h1 : plL (headL p) ((List.replicate n 48 ++ r).take (headL p).length) = plL (headL p) ([].take (headL p).length) := by
    rw [pl_take, pl_take, pl_noughts _ _ _ (by omega)]
  show (headL p, plL (headL p) ((List.replicate n 48 ++ r).take (headL p).length), s) = (headL p, plL (headL p) ([].take (headL p).length), s)
  rw [h1]
theorem one_noughts {p : List UInt8} {n : Nat} (r : List UInt8) (h : p.length ≤ n) : (ptOne p (List.replicate n 48 ++ r)).map ptKey = (ptOne p []).map ptKey := by
  unfold ptOne
  by_cases h0 : headL p = []
  · rw [if_pos h0, if_pos h0]
  · rw [if_neg h0, if_neg h0, List.map_singleton, List.map_singleton, key_noughts r h]
theorem ptF_noughts : ∀ (f : Nat) (p : List UInt8) (n : Nat) (r : List UInt8), p.length ≤ n → (ptF f p (List.replicate n 48 ++ r)).map ptKey = (ptF f p []).map ptKey
  | 0, _, _, _, _ => rfl
  | f + 1, p, n, r, h => by
    unfold ptF
    rw [List.map_append, List.map_append, one_noughts r h]
    by_cases hs : (47 : UInt8) ∈ p
    · have hl := head_tail p hs
      rw [if_pos hs, if_pos hs, List.drop_nil, List.drop_append_of_le_length (by rw [List.length_replicate]; omega), List.drop_replicate, ptF_noughts f (tailL p) _ r (by omega)]
    · rw [if_neg hs, if_neg hs]
theorem names_key {L : List Ino} {d : Int} {x y : Pt} (h : ptKey x = ptKey y) : namesW L d x = namesW L d y := by
  have h1 : x.t = y.t := congrArg Prod.fst h
  have h2 : x.L = y.L := congrArg (fun z => z.2.1) h
  unfold namesW
  rw [h1, h2]
theorem reach_key {L : List Ino} {c : Int} {s : List UInt8} {x y : Pt} (h : ptKey x = ptKey y) : reachW L c s x = reachW L c s y := by
  have h2 : x.L = y.L := congrArg (fun z => z.2.1) h
  have h3 : x.sl = y.sl := congrArg (fun z => z.2.2) h
  unfold reachW
  rw [h2, h3]
theorem beh_key {L : List Ino} {c : Int} {F : List Fd} {x y : Pt} (h : ptKey x = ptKey y) : behW L c F x = behW L c F y := by
  have h1 : oneW L c x = oneW L c y := by
    funext f
    unfold oneW
    rw [names_key h]
    have h2 : (fun n => reachW L c (f.1 ++ n) x) = fun n => reachW L c (f.1 ++ n) y := by
      funext n; exact reach_key h
    rw [h2]
  unfold behW
  rw [h1]
theorem run_key {L : List Ino} {c : Int} : ∀ (l l' : List Pt) (F : List Fd), l.map ptKey = l'.map ptKey → runW L c F l = runW L c F l'
  | [], [], _, _ => rfl
  | [], _ :: _, _, h => by simp at h
  | _ :: _, [], _, h => by simp at h
  | x :: l, y :: l', F, h => by
    rw [List.map_cons, List.map_cons, List.cons.injEq] at h
    unfold runW
    rw [beh_key h.1, run_key l l' _ h.2]
/-- Bytes quoted behind the pattern's end play no part. -/
theorem glob_behind (L : List Ino) (c : Int) (p r : List UInt8) : globW L c p (List.replicate p.length 48 ++ r) = globW L c p [] := by
  unfold globW
  rw [pl_noughts p _ r (Nat.le_refl _), run_key (ptsL p (List.replicate p.length 48 ++ r)) (ptsL p []) _ (ptF_noughts _ p _ r (Nat.le_refl _))]
/-- A pattern all of whose bytes are quoted tells nothing. -/
theorem glob_ones (L : List Ino) (c : Int) (p : List UInt8) : globW L c p (List.replicate p.length 49) = [] := by
  unfold globW
  rw [pl_ones, if_pos rfl]
end Go.Proofs.YtclhpedecimicaaGreat
