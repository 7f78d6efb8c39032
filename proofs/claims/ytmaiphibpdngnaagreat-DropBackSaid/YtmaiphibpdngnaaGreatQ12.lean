/-
  awake: chapter 4's example; good: which trees the laws speak of.
  The law WalkDots, walked.
  The law WalkNames, walked.
  The law WalkPlaces, walked.
  The reference's joined.
  The reference's Base, Dir, Join.
  The reference's Join.
-/
import Derived.Test.YtmaiphibpdngnaaGreatK2
import Derived.Test.YtmaiphibpdngnaaGreatQ1
import Derived.Test.YtmaiphibpdngnaaGreatK6
import Derived.Test.YtmaiphibpdngnaaGreatK4
import Derived.Test.YtmaiphibpdngnaaGreatK1
namespace Go.Proofs.YtmaiphibpdngnaaGreat
set_option maxRecDepth 100000
open Go Go.RowKit

theorem aw_walk1 : walkW (newT 4 100).nodes 0 [47] true = (0, 0) := by decide +kernel
theorem aw_walk2 : walkW (newT 4 100).nodes 0 [120] true = (0, 2) := by decide +kernel
theorem aw_walk3 : walkW (newT 4 100).nodes 0 [46, 46] true = (0, 0) := by decide +kernel
theorem aw_par : parentW (newT 4 100).nodes 0 [120, 47] = (0, [120], 0) := by decide +kernel
theorem aw_may : mayL (newT 4 100).nodes 0 7 = true := by decide +kernel

theorem lparent_known (a : Option Addr) (cap : Nat) (m b cwd : Int) (pb : ByteArray) (hp : pb.size ≤ 1073741824) (L : List Ino) (hF : FitP L m b) (z : Int) (s : List UInt8) (e : Int) (h : parentW L cwd pb.data.toList = (z, s, e)) (w : World) (hN : NodesIn w a cap L) :
    Calls Tryz.prog 76 #[.agg #[.slice a L.length cap, .int .i64 m, .int .i64 b], .int .i64 cwd, .string pb] w fun r w' => r = .returned (.tuple #[.int .i64 z, .string ⟨s.toArray⟩, .int .i64 e]) ∧ Below w.heap.size w w' := by
  have := lparent_any a cap m b cwd pb hp L hF w hN
  rw [h] at this
  exact this


end Go.Proofs.YtmaiphibpdngnaaGreat

namespace Go.Proofs.YtmaiphibpdngnaaGreat
set_option maxRecDepth 100000
open Go Go.RowKit

theorem way_in_snoc {L : List Ino} {k k2 : Int} {x : List UInt8} (hx : stepW L k x = (k2, 0)) (hk2 : (nodeAt L k2).kind ≠ 3) (f : List (List UInt8) → Int → Int × Int) (hf : ∀ N a, f N a = (k, 0) → f (N ++ [x]) a = (k2, 0)) :
    ∀ (N : List (List UInt8)) (a : Int), wayIn L true f N a = (k, 0) → wayIn L true f (N ++ [x]) a = (k2, 0)
  | [], a, h => by
    have e : a = k := congrArg Prod.fst h
    subst e
    show wayIn L true f [x] a = _
    rw [wayIn, hx]
    simp only [ne_eq, not_true, if_false]
    rw [if_pos (Or.inl hk2)]
    rfl
  | y :: r, a, h => by
    rw [wayIn] at h
    show wayIn L true f (y :: (r ++ [x])) a = _
    rw [wayIn]
    split at h
    · rename_i h2
      exact absurd (congrArg Prod.snd h) h2
    · rename_i h2
      rw [if_neg h2]
      split at h
      · rename_i h3
        rw [if_pos (Or.inl (by rcases h3 with h3 | ⟨-, h3⟩; exact h3; cases h3))]
        exact way_in_snoc hx hk2 f hf r _ h
      · rename_i h3
        rw [if_neg (fun h4 => by rcases h4 with h4 | ⟨-, h4⟩; exact h3 (Or.inl h4); cases h4), ← List.append_assoc]
        exact hf _ _ h
theorem way_snoc {L : List Ino} {k k2 : Int} {x : List UInt8} (hx : stepW L k x = (k2, 0)) (hk2 : (nodeAt L k2).kind ≠ 3) : ∀ (n : Nat) (N : List (List UInt8)) (a : Int), wayW L true n N a = (k, 0) → wayW L true n (N ++ [x]) a = (k2, 0)
  | 0, N, a, h => way_in_snoc hx hk2 _ (fun _ _ h => absurd (congrArg Prod.snd h) (show ¬ ((40 : Int) = 0) by decide)) N a h
  | n + 1, N, a, h => way_in_snoc hx hk2 _ (fun N a h => way_snoc hx hk2 n N a h) N a h
theorem dir_kind {L : List Ino} {k : Int} (h : dirB L k = true) : (nodeAt L k).kind ≠ 3 := by rw [node_kind_of h]; decide
theorem whole_app (P Q : List UInt8) (h : P ≠ []) : wholeL (P ++ Q) = wholeL P := by
  cases P with
  | nil => exact absurd rfl h
  | cons c r => rfl
theorem long_no {p : List UInt8} (h : longB p = false) : p.length ≤ 1024 ∧ ∀ x ∈ partsL p, x.length ≤ 64 := by
  unfold longB at h
  rw [Bool.or_eq_false_iff, decide_eq_false_iff_not] at h
  refine ⟨by omega, fun x hx => ?_⟩
  have := (List.any_eq_false.1 h.2) x hx
  simpa using this
theorem no_long {p : List UInt8} (h1 : p.length ≤ 1024) (h2 : ∀ x ∈ partsL p, x.length ≤ 64) : longB p = false := by
  unfold longB
  rw [Bool.or_eq_false_iff]
  refine ⟨decide_eq_false (by omega), List.any_eq_false.2 fun x hx => ?_⟩
  have := h2 x hx
  simpa using this
theorem bad_no {L : List Ino} {cwd : Int} {p : List UInt8} (h : badW L cwd p = 0) : p ≠ [] ∧ dirB L cwd = true ∧ longB p = false := by
  unfold badW at h
  split at h
  · cases h
  · rename_i h1
    split at h
    · cases h
    · rename_i h2
      refine ⟨fun e => h1 (Or.inl e), ?_, by simpa using h2⟩
      cases hd : dirB L cwd with
      | true => rfl
      | false => exact absurd (Or.inr hd) h1
theorem no_bad {L : List Ino} {cwd : Int} {p : List UInt8} (h1 : p ≠ []) (h2 : dirB L cwd = true) (h3 : longB p = false) : badW L cwd p = 0 := by
  unfold badW
  rw [if_neg (fun h => by rcases h with h | h; exact h1 h; rw [h2] at h; cases h), h3]
  rfl
theorem step_dot {L : List Ino} {k : Int} (hd : dirB L k = true) (hm : mayL L k 1 = true) : stepW L k [46] = (k, 0) := by
  unfold stepW
  rw [if_neg (by rw [hd]; simp), if_neg (by rw [hm]; simp), if_pos rfl]
theorem step_up {L : List Ino} {k : Int} (hd : dirB L k = true) (hm : mayL L k 1 = true) : stepW L k [46, 46] = ((nodeAt L k).up, 0) := by
  unfold stepW
  rw [if_neg (by rw [hd]; simp), if_neg (by rw [hm]; simp), if_neg (by decide), if_pos rfl]

/-- P4.2, of a path's end. -/
theorem walk_dots {L : List Ino} {m b : Int} (hF : FitP L m b) {cwd : Int} {P : List UInt8} (hP : P ≠ []) (hl : P.length ≤ 900) {k : Int} (h : walkW L cwd (P ++ [47]) true = (k, 0)) :
    dirB L k = true ∧ (mayL L k 1 = true → walkW L cwd (P ++ [47, 46]) true = (k, 0) ∧ walkW L cwd (P ++ [47, 46, 46]) true = ((nodeAt L k).up, 0)) := by
  have hb : badW L cwd (P ++ [47]) = 0 := by
    unfold walkW at h
    split at h
    · rename_i h1
      exact absurd (congrArg Prod.snd h) h1
    · rename_i h1
      simpa using h1
  obtain ⟨-, hd, hlg⟩ := bad_no hb
  obtain ⟨-, hx⟩ := long_no hlg
  have hp1 : partsL (P ++ [47]) = partsL P := by rw [parts_slash]; simp [partsL, partsGo]
  rw [hp1] at hx
  unfold walkW at h
  rw [hb, if_neg (by simp), hp1] at h
  have hbg : ∀ Q, beginW cwd (P ++ Q) = beginW cwd P := fun Q => by unfold beginW; rw [whole_app P Q hP]
  rw [hbg] at h
  simp only [Bool.true_or] at h
  split at h
  · rename_i h1
    exact absurd (congrArg Prod.snd h) h1
  rename_i h1
  split at h
  · exact absurd (congrArg Prod.snd h) (show ¬ ((20 : Int) = 0) by decide)
  rename_i h2
  have hk : (wayW L true 8 (partsL P) (beginW cwd P)).1 = k := congrArg Prod.fst h
  have he : endL (P ++ [47]) = true := by unfold endL; simp
  have hdk : dirB L k = true := by
    cases hd2 : dirB L k with
    | true => rfl
    | false => exact absurd ⟨he, by rw [hk]; exact hd2⟩ h2
  have hw : wayW L true 8 (partsL P) (beginW cwd P) = (k, 0) := Prod.ext hk (by simpa using h1)
  refine ⟨hdk, fun hm => ?_⟩
  have fin : ∀ (x : List UInt8) (k2 : Int), x ≠ [] → x.length ≤ 2 → NameL x → endL (P ++ 47 :: x) = false → stepW L k x = (k2, 0) → (nodeAt L k2).kind ≠ 3 → walkW L cwd (P ++ 47 :: x) true = (k2, 0) := fun x k2 hx0 hx2 hnx hex hst hk3 => by
    have hpx : partsL (P ++ 47 :: x) = partsL P ++ [x] := by rw [parts_slash, parts_name x hnx]
    have hb2 : badW L cwd (P ++ 47 :: x) = 0 := no_bad (by simp) hd (no_long (by simp only [List.length_append, List.length_cons]; omega) (fun y hy => by
      rw [hpx, List.mem_append, List.mem_singleton] at hy
      rcases hy with hy | rfl
      · exact hx y hy
      · omega))
    have hw2 := way_snoc hst hk3 8 _ _ hw
    unfold walkW
    rw [hb2, if_neg (by simp), hpx, hbg, hex]
    simp only [Bool.true_or]
    rw [hw2, if_neg (by simp), if_neg (by simp)]
  refine ⟨fin [46] k (by simp) (by simp) ⟨by simp, by decide⟩ ?_ (step_dot hdk hm) (dir_kind hdk), fin [46, 46] _ (by simp) (by simp) ⟨by simp, by decide⟩ ?_ (step_up hdk hm) (dir_kind (up_dir hF hdk))⟩
  · unfold endL; simp
  · unfold endL; simp

end Go.Proofs.YtmaiphibpdngnaaGreat

namespace Go.Proofs.YtmaiphibpdngnaaGreat
set_option maxRecDepth 100000
open Go Go.RowKit

theorem climbs4 {L : List Ino} {m b : Int} (hF : FitP L m b) : Climbs L := fun k hk => ⟨ups_in hF.root hF.rootUp hF.ins hF.names k hk, (short_of hF.ins k hk).1, (short_of hF.ins k hk).2⟩
theorem place_none {L : List Ino} {d : Int} (h : dirB L d = false) : placeL L d = [] := by unfold placeL; rw [h]; rfl
theorem place_some {L : List Ino} {d : Int} (h : dirB L d = true) : placeL L d ≠ [] := by
  unfold placeL
  rw [h, if_pos rfl]
  split
  · simp
  · assumption
theorem step_none {L : List Ino} {z : Int} {x : List UInt8} (h1 : x ≠ [46]) (h2 : x ≠ [46, 46]) (hk : kidL L z x < 0) : (stepW L z x).2 ≠ 0 := by
  unfold stepW
  rw [if_neg h1, if_neg h2, if_pos hk]
  split
  · decide
  · split
    · decide
    · decide
theorem step_go {L : List Ino} {z : Int} {x : List UInt8} (hm : mayL L z 1 = true) (h1 : x ≠ [46]) (h2 : x ≠ [46, 46]) (hk : 0 ≤ kidL L z x) : stepW L z x = (kidL L z x, 0) := by
  have hd : dirB L z = true := by
    cases hd : dirB L z with
    | true => rfl
    | false =>
      unfold kidL at hk
      rw [hd, if_neg (by simp)] at hk
      exact absurd hk (by decide)
  unfold stepW
  rw [hd, hm, if_neg (by simp), if_neg (by simp), if_neg h1, if_neg h2, if_neg (by omega)]
theorem walk_err_of {L : List Ino} {cwd : Int} {p : List UInt8} (h : (wayW L true 8 (partsL p) (beginW cwd p)).2 ≠ 0) : (walkW L cwd p true).2 ≠ 0 := by
  unfold walkW
  split
  · assumption
  · simp only [Bool.true_or]
    rw [if_pos h]
    exact h
theorem walk_fin {L : List Ino} {cwd : Int} {p : List UInt8} (hb : badW L cwd p = 0) {z : Int} (hw : wayW L true 8 (partsL p) (beginW cwd p) = (z, 0)) : walkW L cwd p true = if endL p = true ∧ dirB L z = false then (0, 20) else (z, 0) := by
  unfold walkW
  rw [hb, if_neg (by simp)]
  simp only [Bool.true_or]
  rw [hw, if_neg (by simp)]

theorem rparts_view2 (pb : ByteArray) (hp : pb.size ≤ 1073741824) (N : List (List UInt8)) (hN : partsL pb.data.toList = N) (w : World) :
    Calls Tryz.prog 56 #[.string pb] w fun e w' => ∃ v, e = .returned v ∧ View w' v N ∧ Below w.heap.size w w' := by
  subst hN
  exact (rparts_any pb hp w).mono fun e w' ⟨v, h1, h2, h3⟩ => ⟨v, h1, h2.view, h3⟩
def NmRel (L : List Ino) (N : List (List UInt8)) (st : Int) (w3 : World) (atv iv : Value) (wr : World) : Prop :=
  ∃ (i : Nat) (z : Int), i ≤ N.length ∧ atv = .int .i64 z ∧ iv = .int .i64 i ∧ Hid (thereB L z = true ∧ wayW L true 8 N st = wayW L true 8 (N.drop i) z ∧ ∀ x ∈ N.take i, x.length ≤ 64) ∧ Below w3.heap.size w3 wr

end Go.Proofs.YtmaiphibpdngnaaGreat

namespace Go.Proofs.YtmaiphibpdngnaaGreat
set_option maxRecDepth 100000
open Go Go.RowKit

theorem may_odd {L : List Ino} {m b : Int} (hF : FitP L m b) (ho : ∀ j (h : j < L.length), L[j].kind = 2 → L[j].mode % 2 ≠ 0) {k : Int} (hd : dirB L k = true) : mayL L k 1 = true := by
  obtain ⟨n, rfl, hn⟩ := dir_lt hd
  have h1 := ho n hn ((dir_nat hn).1 hd)
  have h2 := mode_range hF.ins (there_of L n hn)
  unfold mayL
  rw [live_of_dir hd]
  rw [node_nat L n hn] at h2 ⊢
  have h3 : (L[n].mode % 2 == 1) = true := by rw [beq_iff_eq]; omega
  unfold bitsB
  rw [h3]
  rfl
theorem ok_dots {x : List UInt8} (h : nameOkL x = true) : x ≠ [46] ∧ x ≠ [46, 46] := by
  constructor
  · rintro rfl
    exact absurd h (by decide)
  · rintro rfl
    exact absurd h (by decide)

/-- Where a directory is, and the way there. -/
theorem rplaces {L : List Ino} {m b : Int} (hF : FitP L m b) (ho : ∀ j (h : j < L.length), L[j].kind = 2 → L[j].mode % 2 ≠ 0) : ∀ (j : Nat) (d : Int), dirB L d = true → Rk L d j → ∃ A : List (List UInt8), (∀ x ∈ A, nameOkL x = true) ∧
    (∀ (last : Bool) (n : Nat) (r : List (List UInt8)), wayW L last n (A ++ r) 0 = wayW L last n r d) ∧
    ∀ (n : Nat) (N : List (List UInt8)), j < n → placeGo L n d (sl N.reverse) = sl (A ++ N.reverse)
  | 0, d, hd, hr => by
    have h0 : d = 0 := hr.1
    refine ⟨[], by simp, fun last n r => by rw [h0]; rfl, fun n N hn => ?_⟩
    obtain ⟨n, rfl⟩ : ∃ n', n = n' + 1 := ⟨n - 1, by omega⟩
    rw [place_succ, if_pos h0]
    rfl
  | j + 1, d, hd, hr => by
    have h0 : d ≠ 0 := hr.2 0 (by omega)
    have hup : dirB L (nodeAt L d).up = true := by
      have h := ups_of hF 1 d hd
      exact h
    obtain ⟨u, hu, hul⟩ := dir_lt hup
    obtain ⟨A, hA2, hA1, hA3⟩ := rplaces hF ho j _ hup (rk_up hr)
    obtain ⟨x, hx1, hx2, hx3⟩ := kids_one _ d (one_name hF hul hd h0 hu)
    obtain ⟨i, hi, hie⟩ := List.getElem_of_mem hx2
    have hkid : kidL L (nodeAt L d).up x = d := by
      have h := kid_of hF u hul i hi
      rw [hie] at h
      rw [hu]
      exact h
    have hok : nameOkL x = true := (name_of hF.ins hul hx2).1
    have hpos : 0 ≤ d := there_pos (live_there (live_of_dir hd))
    have hst : stepW L (nodeAt L d).up x = (d, 0) := by
      have h := step_go (may_odd hF ho hup) (ok_dots hok).1 (ok_dots hok).2 (by rw [hkid]; exact hpos)
      rw [hkid] at h
      exact h
    refine ⟨A ++ [x], fun y hy => ?_, fun last n r => ?_, fun n N hn => ?_⟩
    · rcases List.mem_append.1 hy with h | h
      · exact hA2 y h
      · rw [List.mem_singleton.1 h]
        exact hok
    · rw [List.append_assoc, hA1]
      exact wayW_on _ _ _ _ _ _ _ hst (Or.inl (dir_kind hd))
    · obtain ⟨n, rfl⟩ : ∃ n', n = n' + 1 := ⟨n - 1, by omega⟩
      rw [place_succ, if_neg h0]
      have h := hA3 n (N ++ [x]) (by omega)
      rw [List.reverse_append] at h
      have e1 : sl ([x].reverse ++ N.reverse) = kidsTo (nodeAt L (nodeAt L d).up).kids d (sl N.reverse) := by
        rw [hu, node_nat L u hul, hx3]
        rfl
      rw [e1] at h
      rw [h, List.append_assoc]
      rfl

/-- P4.4, of a directory's place. -/
theorem walk_place {L : List Ino} {m b : Int} (hF : FitP L m b) (ho : ∀ j (h : j < L.length), L[j].kind = 2 → L[j].mode % 2 ≠ 0) {d cwd : Int} (hd : dirB L d = true) (hc : dirB L cwd = true) (hlen : (placeL L d).length ≤ 1024) : walkW L cwd (placeL L d) false = (d, 0) := by
  obtain ⟨z, rfl, hz⟩ := dir_lt hd
  obtain ⟨j, hj⟩ := rk_of L.length ((leads_iff L _ _).1 (hF.leads z hz hd))
  have hlt := rk_lt hF.leads hd hj
  obtain ⟨A, h2, h1, h3⟩ := rplaces hF ho j _ hd hj
  have h4 := h3 (L.length + 1) [] (by omega)
  have h4' : placeGo L (L.length + 1) (z : Int) [] = sl A := by
    have e : sl (A ++ ([] : List (List UInt8)).reverse) = sl A := by simp
    rw [e] at h4
    exact h4
  have hp : placeL L (z : Int) = 47 :: joinL A := by
    unfold placeL
    rw [if_pos hd, h4']
    by_cases hA : A = []
    · subst hA
      rfl
    · rw [sl_join A hA, if_neg (by simp)]
  have hnm : ∀ x ∈ A, NameL x := fun x hx => ⟨(name_parts (h2 x hx)).1, (name_parts (h2 x hx)).2.2.2.2⟩
  have hpt : partsL (placeL L (z : Int)) = A := by rw [hp]; exact parts_root A hnm
  have hb : badW L cwd (placeL L (z : Int)) = 0 := no_bad (by rw [hp]; simp) hc (no_long hlen (fun y hy => by
    rw [hpt] at hy
    exact (name_parts (h2 y hy)).2.2.2.1))
  have hbg : beginW cwd (placeL L (z : Int)) = 0 := by rw [hp]; rfl
  have hw : ∀ last, wayW L last 8 A 0 = ((z : Int), 0) := fun last => by
    have h := h1 last 8 []
    rw [List.append_nil, wayW_nil] at h
    exact h
  unfold walkW
  rw [hb, if_neg (by simp), hpt, hbg, hw, if_neg (by simp), hd, if_neg (by simp)]

def PlRel (L : List Ino) (w2 : World) (iv : Value) (wr : World) : Prop :=
  ∃ i : Nat, i ≤ L.length ∧ iv = .int .i64 i ∧ Hid (∀ j (h : j < L.length), j < i → L[j].kind = 2 → L[j].mode % 2 ≠ 0) ∧ Below w2.heap.size w2 wr

end Go.Proofs.YtmaiphibpdngnaaGreat

namespace Go.Proofs.YtmaiphibpdngnaaGreat
set_option maxRecDepth 100000
open Go Go.RowKit

def JoinRel (L : List (List UInt8)) (s i : Value) : Prop := ∃ k : Nat, ∃ acc : List UInt8, k ≤ L.length ∧ i = .int .i64 k ∧ s = .string ⟨acc.toArray⟩ ∧ acc = joinL (L.take k) ∧ acc.length ≤ 1099511627776

end Go.Proofs.YtmaiphibpdngnaaGreat

namespace Go.Proofs.YtmaiphibpdngnaaGreat
set_option maxRecDepth 100000
open Go Go.RowKit

theorem parts_len (l : List UInt8) : (partsL l).length ≤ l.length + 1 := by
  have h : ∀ L : List (List UInt8), L.length ≤ total L := by
    intro L
    induction L with
    | nil => simp [total]
    | cons x r ih => simp only [List.length_cons, total]; omega
  exact Nat.le_trans (h _) (total_parts l)

def baseL (l : List UInt8) : List UInt8 := if partsL l = [] then (if wholeL l then [47] else []) else (partsL l).getLastD []

theorem last_at (L : List (List UInt8)) (h : 0 < L.length) : L.getLastD [] = L[L.length - 1] := by
  cases L with
  | nil => simp at h
  | cons x r => simp [List.getLastD_eq_getLast?, List.getLast?_eq_getElem?]


/-- A row without its last text. -/
theorem Texts.init {B : Nat} {w : World} {g n cap : Nat} {L : List (List UInt8)} (h : Texts B w (.slice (some ⟨g, 0, none⟩) (n + 1) cap) L) (hn : L.length = n + 1) : Texts B w (.slice (some ⟨g, 0, none⟩) n cap) L.dropLast := by
  obtain ⟨h1, h2 | ⟨g', cap', cur, hv, hg, hh, hc, hm, hs, ht⟩⟩ := h
  · cases h2.1
  · simp only [Value.slice.injEq, Option.some.injEq, Addr.mk.injEq] at hv
    obtain ⟨⟨rfl, -⟩, -, rfl⟩ := hv
    have hl : L.dropLast.length = n := by rw [List.length_dropLast, hn]; rfl
    refine ⟨by rw [List.length_map, Nat.mul_one], Or.inr ⟨g, cap, cur, by rw [hl], hg, hh, by omega, hm, hs, ?_⟩⟩
    rw [hl, List.map_dropLast, ← ht, hn, Nat.mul_one, Nat.mul_one, List.dropLast_eq_take, List.length_take, List.take_take]
    have hcl : cur.toList.length = cap := by rw [Array.length_toList, hs, Nat.mul_one]
    rw [hcl]
    congr 1
    omega

def dirL (l : List UInt8) : List UInt8 :=
  if (if wholeL l then 47 :: joinL (partsL l).dropLast else joinL (partsL l).dropLast) = [] then [46] else (if wholeL l then 47 :: joinL (partsL l).dropLast else joinL (partsL l).dropLast)

theorem total_init (L : List (List UInt8)) : total L.dropLast ≤ total L := by
  rw [List.dropLast_eq_take]
  exact total_take L _

theorem empty_val (l : List UInt8) : ((⟨l.toArray⟩ : ByteArray).toList.isEmpty) = l.isEmpty := by rw [ByteArray.toList_eq]

theorem rwhole_known (s : ByteArray) (b : Bool) (h : wholeL s.data.toList = b) (w : World) : Calls Tryz.prog 65 #[.string s] w fun e w' => e = .returned (.bool b) ∧ w = w' := by
  subst h
  exact rwhole_any s w

theorem slash_cat (x : ByteArray) : ((⟨#[47]⟩ : ByteArray) ++ x).toList.isEmpty = false := by
  rcases x with ⟨⟨l⟩⟩
  rw [ByteArray.mk_append_mk, ByteArray.toList_eq]
  simp

end Go.Proofs.YtmaiphibpdngnaaGreat

namespace Go.Proofs.YtmaiphibpdngnaaGreat
set_option maxRecDepth 100000
open Go Go.RowKit

def joinP (a b : List UInt8) : List UInt8 := if a = [] ∨ wholeL b = true then b else if b = [] then a else if a.getLast? = some 47 then a ++ b else a ++ 47 :: b

set_option maxHeartbeats 2000000 in
theorem rjoin_any (a b : ByteArray) (ha : a.size ≤ 1099511627776) (hb : b.size ≤ 1099511627776) (w : World) :
    Calls Tryz.prog 25 #[.string a, .string b] w fun e w' => e = .returned (.string ⟨(joinP a.data.toList b.data.toList).toArray⟩) ∧ w = w' := by
  by_cases ha0 : 0 < a.size
  · have hne := filled a ha0
    have hnl := list_ne a ha0
    cases hw : wholeL b.data.toList with
    | true =>
      have hfin : joinP a.data.toList b.data.toList = b.data.toList := by unfold joinP; rw [if_pos (Or.inr hw)]
      have HF := Lib.hid hfin
      have HW := Lib.hid hw
      clear hfin hw hnl
      go_enter Tryz.func25, Tryz.ntmps25
      go_wp2_with fail
      refine (rwhole_known _ _ HW.out _).mono ?_
      rintro e w' ⟨rfl, rfl⟩
      go_wp2_with fail
      go_ret
      exact ⟨by rw [HF.out]; rfl, rfl⟩
    | false =>
      by_cases hb0 : 0 < b.size
      · have hneb := filled b hb0
        cases hc : (((a[a.size - 1]'(by omega)).toNat : Int) == 47)
        all_goals
          have hfin : joinP a.data.toList b.data.toList = if ((a[a.size - 1]'(by omega)).toNat : Int) == 47 then a.data.toList ++ b.data.toList else a.data.toList ++ 47 :: b.data.toList := by
            unfold joinP
            rw [if_neg (by simp [hnl, hw]), if_neg (list_ne b hb0), last_byte a ha0]
            congr 1
            rw [Option.some.injEq, ← UInt8.toNat_inj, beq_iff_eq, eq_iff_iff]
            show _ = 47 ↔ _
            omega
          rw [hc] at hfin
          have HF := Lib.hid hfin
          have HW := Lib.hid hw
          have HN := Lib.hid hnl
          go_enter Tryz.func25, Tryz.ntmps25
          go_wp2_with fail
          refine (rwhole_known _ _ HW.out _).mono ?_
          rintro e w' ⟨rfl, rfl⟩
          go_wp2_with fail
          go_ret
          exact ⟨by rw [HF.out]; (first | exact congrArg Ending.returned (str_eta _ _ (cat_two a b)) | exact congrArg Ending.returned (str_eta _ _ (by rw [cat_two, cat_two, List.append_assoc]; rfl))), rfl⟩
      · have hb0' := bare b hb0
        have hfin : joinP a.data.toList b.data.toList = a.data.toList := by unfold joinP; rw [if_neg (by simp [hnl, hw]), if_pos (by rw [hb0'])]
        have HF := Lib.hid hfin
        have HW := Lib.hid hw
        clear hfin hw hnl hb0
        subst hb0'
        go_enter Tryz.func25, Tryz.ntmps25
        go_wp2_with fail
        refine (rwhole_known _ _ HW.out _).mono ?_
        rintro e w' ⟨rfl, rfl⟩
        go_wp2_with fail
        go_ret
        exact ⟨by rw [HF.out]; rfl, rfl⟩
  · obtain rfl := bare a ha0
    have hfin : joinP [] b.data.toList = b.data.toList := by unfold joinP; rw [if_pos (Or.inl rfl)]
    have HF := Lib.hid hfin
    clear hfin
    go_enter Tryz.func25, Tryz.ntmps25
    go_wp2_with fail
    go_ret
    exact ⟨congrArg Ending.returned (str_eta b _ HF.out.symm), rfl⟩
end Go.Proofs.YtmaiphibpdngnaaGreat
