/-
  The paths of a tree but one, as the law of chapter 5 takes them.
  All paths of a tree with a new inode, in plain words: those of the tree, and the new one.
  There are as many paths as names, in plain words; a tree with one more name has one path more.
-/
import Derived.Test.YtfmaagcomplooaaTreeListA
import Derived.Test.YtfmaagcomplooaaK5
import Derived.Test.YtfmaagcomplooaaK15
import Derived.Test.YtfmaagcomplooaaK3
namespace Go.Proofs.Ytfmaagcomplooaa
set_option maxRecDepth 100000
open Go Go.RowKit

def butL (X : List (List UInt8)) (q : List UInt8) : List (List UInt8) := X.filter (fun p => p != q)
theorem but_take (X : List (List UInt8)) (q : List UInt8) (k : Nat) (h : k < X.length) : butL (X.take (k + 1)) q = butL (X.take k) q ++ (if X[k] = q then [] else [X[k]]) := by
  unfold butL
  rw [List.take_succ_eq_append_getElem h, List.filter_append]
  congr 1
  by_cases e : X[k] = q
  · rw [if_pos e, List.filter_cons, if_neg (by simpa using e)]
    rfl
  · rw [if_neg e, List.filter_cons, if_pos (by simpa using e)]
    rfl
theorem but_len (X : List (List UInt8)) (q : List UInt8) (k : Nat) : (butL (X.take k) q).length ≤ X.length := by
  unfold butL
  have h1 := List.length_filter_le (fun p => p != q) (X.take k)
  rw [List.length_take] at h1
  omega

def PRel (X : List (List UInt8)) (q : List UInt8) (w2 : World) (v i : Value) (wr : World) : Prop :=
  ∃ k : Nat, k ≤ X.length ∧ i = .int .i64 k ∧ Texts w2.heap.size wr v (butL (X.take k) q) ∧ Below w2.heap.size w2 wr

set_option maxHeartbeats 4000000 in
theorem lawpaths_any (a : Option Addr) (cap : Nat) (m b : Int) (q : List UInt8) (L : List Ino) (X : List (List UInt8)) (hX : X.length ≤ 1048576)
    (hlist : ∀ (w : World), NodesIn w a cap L → Calls Try.prog 18 #[.agg #[.slice a L.length cap, .int .i64 m, .int .i64 b]] w fun e W' => ∃ v, e = .returned v ∧ Texts w.heap.size W' v X ∧ Below w.heap.size w W') (w : World) (hN : NodesIn w a cap L) :
    Calls Try.prog 17 #[.agg #[.slice a L.length cap, .int .i64 m, .int .i64 b], .string ⟨q.toArray⟩] w fun e w' => ∃ v, e = .returned v ∧ Texts w.heap.size w' v (butL X q) ∧ Below w.heap.size w w' := by
  obtain ⟨i0, hi, hz0, hz1, hz2⟩ := info_parts infoS
  obtain ⟨w1, hw1⟩ : ∃ w1, w1 = w.alloc (.cells #[.slice a L.length cap, .int .i64 m, .int .i64 b] 24) := ⟨_, rfl⟩
  have hb1 : Below w.heap.size w w1 := by rw [hw1]; exact below_box w _
  have hM := hN.below hb1
  have hs1 : w1.heap.size = w.heap.size + 1 := by rw [hw1]; simp
  have HB := Lib.hid hb1
  have HL := Lib.hid (hlist w1 hM)
  obtain ⟨qb, hqb⟩ : ∃ qb : ByteArray, qb = ⟨q.toArray⟩ := ⟨_, rfl⟩
  have HQ := Lib.hid (show qb.data.toList = q by rw [hqb])
  rw [← hqb]
  clear hN hb1 hM hlist hqb
  go_enter Try.func17, Try.ntmps17
  go_wp2_with fail
  rw [← hw1]
  clear hw1
  refine HL.out.mono ?_
  rintro e w2 ⟨v, rfl, hT, hb2⟩
  obtain ⟨ra, rc, rfl, hrc, hrm⟩ := hT.slot3
  have HT := Lib.hid hT
  have HB2 := Lib.hid (HB.out.trans (hb2.mono (by omega)))
  have hs2 := hb2.size
  have hXl : (0 : Int) ≤ (X.length : Int) := by omega
  unfold maxLen at hrm
  clear hT hb2 HL
  go_wp2_with fail
  go_loopw [5, 7, 11] (fun v _ i wr => PRel X q w2 v i wr) (fun _ _ i _ => X.length - (intOf i).toNat)
  case atStart => exact ⟨0, by omega, rfl, World.ownsRow_nil _ _ _ _, Below.refl _ _⟩
  case round =>
    obtain ⟨k, hk, rfl, ht, hb⟩ := hrel
    have hbl := but_len X q k
    have HO := Lib.hid (show wr.ownsRow w2.heap.size 9 1 _ (butL (X.take k) q).length ((butL (X.take k) q).map strv) from ht)
    have HBR := Lib.hid hb
    have hszr := hb.size
    clear ht hb
    by_cases hlt : k < X.length
    · have hbt := Lib.hid (but_take X q k hlt)
      obtain ⟨x1, hx1⟩ : ∃ xs : ByteArray, xs = ⟨X[k].toArray⟩ := ⟨_, rfl⟩
      have HX1 := Lib.hid (show x1.data.toList = X[k] by rw [hx1])
      obtain ⟨g1, rfl, hy1⟩ : ∃ g, ra = some ⟨g, 0, none⟩ ∧ wr.cell? ⟨g, k, none⟩ = some (.string x1) := by
        rcases HT.out.forms with ⟨hv, hn⟩ | ⟨g, cap, hv, hB, hg, -, -, hcell⟩
        · rw [hn] at hlt; simp at hlt
        · simp only [Value.slice.injEq] at hv
          refine ⟨g, hv.1, ?_⟩
          rw [HBR.out.cell (p := ⟨g, k, none⟩) hg, hcell k hlt, hx1]
          rfl
      have HX2 := Lib.hid hx1
      clear hx1
      have b1 : (0 : Int) ≤ (k : Int) := by omega
      have b2 : (k : Int) < (X.length : Int) := by omega
      cases he : (x1.toList == qb.toList) with
      | true =>
        have HE := Lib.hid (show butL (X.take (k + 1)) q = butL (X.take k) q by
          rw [hbt.out, if_pos (HX1.out.symm.trans ((same_bytes x1 qb he).trans HQ.out)), List.append_nil])
        go_wp2_with fail
        go_roundw
        case rel => exact ⟨k + 1, by omega, by go_num, by rw [HE.out]; exact HO.out, HBR.out⟩
        case measure => simp [intOf] <;> omega
      | false =>
        have HE := Lib.hid (show butL (X.take (k + 1)) q = butL (X.take k) q ++ [X[k]] by
          rw [hbt.out, if_neg (fun e => diff_bytes x1 qb he (HX1.out.trans (e.trans HQ.out.symm)))])
        go_wp2_with (first | (at_builtin; (refine wpList_append_own _ rfl _ _ 42 rfl w2.heap.size 9 i0 (.string ByteArray.empty) 1 16 Try.underlying42 hi hz0 hz1 hz2 rfl (by decide) _ _ _ rfl (HO.out.alloc _) ⟨wr.heap.size, 0, none⟩ 1 1 [.string x1] rfl rfl (cell_one_new _ _ _) (fun x hx => by simp at hx; subst hx; rfl) (by unfold maxLen; omega) (by omega) (by simp; omega) ?_); intro v' w3 hown' hgrow3 hnil3) | fail)
        have hT3 : Texts w2.heap.size w3 v' (butL (X.take k) q ++ [X[k]]) := Texts.grow (by rw [HX2.out] at hown'; exact hown')
        have hb3 : Below w2.heap.size w2 w3 := HBR.out.trans (((Below.refl _ wr).alloc hszr _).grown hgrow3 (by simp; omega) (fun r hr => (HO.out.lt r hr).1))
        have HT3 := Lib.hid hT3
        have HB3 := Lib.hid hb3
        clear hT3 hb3 hown' hgrow3 hnil3
        go_wp2_with fail
        go_roundw
        case rel => exact ⟨k + 1, by omega, by go_num, by rw [HE.out]; exact HT3.out, HB3.out⟩
        case measure => simp [intOf] <;> omega
    · obtain rfl : k = X.length := by omega
      go_wp2_with fail
      go_ret
      exact ⟨_, rfl, own_less3 (by have h := HO.out; rw [List.take_length] at h; exact h) (show w.heap.size ≤ w2.heap.size by omega), HB2.out.trans (HBR.out.mono (by omega))⟩
end Go.Proofs.Ytfmaagcomplooaa

namespace Go.Proofs.Ytfmaagcomplooaa
set_option maxRecDepth 100000
open Go Go.RowKit

/-- All paths beneath a directory, each with its inode. -/
def listP (L : List Ino) : Nat → Int → List UInt8 → List (List UInt8 × Int)
  | 0, _, _ => []
  | n + 1, c, p => (nodeAt L c).kids.flatMap fun e => (p ++ 47 :: e.1, e.2) :: (if (nodeAt L e.2).kind = 2 then listP L n e.2 (p ++ 47 :: e.1) else [])
theorem listP_succ (L : List Ino) (n : Nat) (c : Int) (p : List UInt8) : listP L (n + 1) c p = (nodeAt L c).kids.flatMap fun e => (p ++ 47 :: e.1, e.2) :: (if (nodeAt L e.2).kind = 2 then listP L n e.2 (p ++ 47 :: e.1) else []) := rfl
theorem flatMap_same {α β : Type} : ∀ (M : List α) (f g : α → List β), (∀ e ∈ M, f e = g e) → M.flatMap f = M.flatMap g
  | [], _, _, _ => rfl
  | a :: r, f, g, h => by
    rw [List.flatMap_cons, List.flatMap_cons, h a List.mem_cons_self, flatMap_same r f g fun e he => h e (List.mem_cons_of_mem _ he)]
theorem listP_none {L : List Ino} {c : Int} (h : (nodeAt L c).kids = []) : ∀ (n : Nat) (p : List UInt8), listP L n c p = []
  | 0, _ => rfl
  | n + 1, p => by rw [listP_succ, h]; rfl

section
variable {L : List Ino} {m b : Int} {d k : Nat} {s : List UInt8} {x : Ino}
theorem Adds.free (h : Adds L m b d k s x) (h0 : (L[k]'h.klt).kind = 0) : ∀ e ∈ kidsOf L, e.2 ≠ (k : Int) := fun e he ek => by
  have hm := (h.fit.names.2 k h.klt).2
  rw [countL_get L (kids_pos (kids_there h.fit.ins)) k h.klt] at hm
  unfold MayHave at hm
  rw [if_pos (Or.inr h0)] at hm
  have := names_pos he
  rw [ek] at this
  omega
theorem Adds.listed (h : Adds L m b d k s x) (h0 : (L[k]'h.klt).kind = 0) : ∀ (n : Nat) (c : Int) (p : List UInt8), dirB L c = true → (listP (addL L d k s x) n c p).filter (fun e => e.2 != (k : Int)) = listP L n c p
  | 0, _, _, _ => rfl
  | n + 1, c, p, hc => by
    obtain ⟨j, rfl, hj⟩ := dir_lt hc
    have hjk : j ≠ k := fun e => by
      subst e
      exact h.nodir ((dir_nat hj).1 hc)
    have one : ∀ e ∈ L[j].kids, ((p ++ 47 :: e.1, e.2) :: (if (nodeAt (addL L d k s x) e.2).kind = 2 then listP (addL L d k s x) n e.2 (p ++ 47 :: e.1) else [])).filter (fun e => e.2 != (k : Int)) = (p ++ 47 :: e.1, e.2) :: (if (nodeAt L e.2).kind = 2 then listP L n e.2 (p ++ 47 :: e.1) else []) := fun e he => by
      have hne := h.free h0 e (mem_kidsOf.2 ⟨j, hj, he⟩)
      have hth := (name_of h.fit.ins hj he).2
      obtain ⟨t, ht, htl⟩ := there_nat hth
      rw [List.filter_cons, if_pos (by simpa using hne)]
      congr 1
      rw [ht] at hne ⊢
      rw [(h.node t htl (fun e2 => hne (by rw [e2]))).1, node_nat L t htl]
      split
      · rename_i hk2
        exact Adds.listed h h0 n _ _ ((dir_nat htl).2 hk2)
      · rfl
    rw [listP_succ, listP_succ, List.filter_flatMap, add_node h.dlt s x j hj, node_nat L j hj]
    by_cases e1 : d = j
    · subst e1
      rw [if_pos rfl]
      obtain ⟨A, B, n1, n2, -, -⟩ := named_at L[d].kids s (k : Int) h.new
      show (namedL L[d].kids s k).flatMap _ = _
      rw [n2, List.flatMap_append, List.flatMap_cons]
      have hnew : ((p ++ 47 :: s, (k : Int)) :: (if (nodeAt (addL L d k s x) (k : Int)).kind = 2 then listP (addL L d k s x) n (k : Int) (p ++ 47 :: s) else [])).filter (fun e => e.2 != (k : Int)) = [] := by
        rw [List.filter_cons, if_neg (by simp), listP_none (by rw [h.nodeK]; exact h.kids)]
        split <;> rfl
      rw [hnew, List.nil_append]
      have hA := flatMap_same A _ _ (fun e he => one e (by rw [n1]; exact List.mem_append_left _ he))
      have hB := flatMap_same B _ _ (fun e he => one e (by rw [n1]; exact List.mem_append_right _ he))
      rw [hA, hB, ← List.flatMap_append, ← n1]
    · rw [if_neg e1, if_neg (fun e => hjk e.symm)]
      exact flatMap_same _ _ _ one
end

/-! ### Where a directory is, piece by piece -/

/-- A directory's place, the root's empty. -/
def atL (L : List Ino) (c : Int) : List UInt8 := placeGo L (L.length + 1) c []
theorem go_acc {L : List Ino} {m b : Int} (hF : FitP L m b) : ∀ (n : Nat) (c : Int) (s : List UInt8), dirB L c = true → placeGo L n c s = placeGo L n c [] ++ s
  | 0, _, s, _ => rfl
  | n + 1, c, s, hc => by
    rw [place_succ, place_succ]
    by_cases h0 : c = 0
    · rw [if_pos h0, if_pos h0]; rfl
    · rw [if_neg h0, if_neg h0]
      have hup : dirB L (nodeAt L c).up = true := ups_of hF 1 c hc
      obtain ⟨u, hu, hul⟩ := dir_lt hup
      obtain ⟨x, -, -, hx⟩ := kids_one _ c (one_name hF hul hc h0 hu)
      rw [hu] at hup ⊢
      rw [node_nat L u hul, hx, hx, go_acc hF n _ (47 :: x ++ s) hup, go_acc hF n _ (47 :: x ++ []) hup, List.append_nil, List.append_assoc]
theorem go_more {L : List Ino} : ∀ (j n : Nat) (c : Int) (s : List UInt8), Rk L c j → j < n → placeGo L (n + 1) c s = placeGo L n c s
  | 0, n, c, s, hr, hn => by
    obtain ⟨n, rfl⟩ : ∃ n', n = n' + 1 := ⟨n - 1, by omega⟩
    have h0 : c = 0 := hr.1
    rw [place_succ L (n + 1) c s, place_succ L n c s, if_pos h0, if_pos h0]
  | j + 1, n, c, s, hr, hn => by
    obtain ⟨n, rfl⟩ : ∃ n', n = n' + 1 := ⟨n - 1, by omega⟩
    have h0 : c ≠ 0 := hr.2 0 (by omega)
    rw [place_succ L (n + 1) c s, place_succ L n c s, if_neg h0, if_neg h0]
    exact go_more j n _ _ (rk_up hr) (by omega)
/-- Beneath a directory. -/
theorem at_kid {L : List Ino} {m b : Int} (hF : FitP L m b) {c : Nat} (hc : c < L.length) (hd : dirB L (c : Int) = true) {e : List UInt8 × Int} (he : e ∈ L[c].kids) (hde : dirB L e.2 = true) : atL L e.2 = atL L (c : Int) ++ 47 :: e.1 := by
  have h0 := name_pos hF hc he
  have hu := hF.names.1 c hc e he hde
  obtain ⟨x, -, hx2, hx⟩ := kids_one _ e.2 (one_name hF hc hde h0 hu)
  have hex : x = e.1 := by
    have h1 := one_name hF hc hde h0 hu
    by_cases h : x = e.1
    · exact h
    · exfalso
      have hne : (x, e.2) ≠ e := fun h2 => h (by rw [← h2])
      have : 2 ≤ namesOf L[c].kids e.2 := by
        unfold namesOf
        have m1 : (x, e.2) ∈ L[c].kids.filter (fun y => y.2 == e.2) := List.mem_filter.2 ⟨hx2, by simp⟩
        have m2 : e ∈ L[c].kids.filter (fun y => y.2 == e.2) := List.mem_filter.2 ⟨he, by simp⟩
        obtain ⟨i, hi, hi2⟩ := List.getElem_of_mem m1
        obtain ⟨t, ht, ht2⟩ := List.getElem_of_mem m2
        by_cases hit : i = t
        · subst hit
          exact absurd (hi2.symm.trans ht2) hne
        · omega
      omega
  subst hex
  obtain ⟨j, hj⟩ := rk_of L.length ((leads_iff L _ _).1 (hF.leads c hc hd))
  have hlt := rk_lt hF.leads hd hj
  unfold atL
  rw [place_succ, if_neg h0, hu, node_nat L c hc, hx, List.append_nil, go_acc hF _ _ _ hd, go_more j L.length (c : Int) [] hj hlt]
/-- What is listed beneath a directory, at its place. -/
theorem listP_in {L : List Ino} {m b : Int} (hF : FitP L m b) : ∀ (n : Nat) (c : Int), dirB L c = true → ∀ y ∈ listP L n c (atL L c), ∃ c' : Nat, ∃ h : c' < L.length, dirB L (c' : Int) = true ∧ ∃ e ∈ L[c'].kids, y = (atL L (c' : Int) ++ 47 :: e.1, e.2)
  | 0, _, _, _, hy => by cases hy
  | n + 1, c, hc, y, hy => by
    obtain ⟨j, rfl, hj⟩ := dir_lt hc
    rw [listP_succ, node_nat L j hj, List.mem_flatMap] at hy
    obtain ⟨e, he, hy⟩ := hy
    rcases List.mem_cons.1 hy with rfl | hy
    · exact ⟨j, hj, hc, e, he, rfl⟩
    · split at hy
      · rename_i h2
        obtain ⟨t, ht, htl⟩ := there_nat (name_of hF.ins hj he).2
        have hde : dirB L e.2 = true := by
          rw [ht] at h2 ⊢
          rw [node_nat L t htl] at h2
          exact (dir_nat htl).2 h2
        rw [← at_kid hF hj hc he hde] at hy
        exact listP_in hF n _ hde y hy
      · cases hy
theorem last_slash : ∀ (A B x y : List UInt8), (∀ c ∈ x, c ≠ 47) → (∀ c ∈ y, c ≠ 47) → A ++ 47 :: x = B ++ 47 :: y → A = B ∧ x = y
  | [], [], x, y, _, _, h => ⟨rfl, (List.cons.inj h).2⟩
  | [], b :: B, x, y, hx, _, h => by
    have h1 := (List.cons.inj h).2
    exact absurd rfl (hx 47 (by rw [h1]; simp))
  | a :: A, [], x, y, _, hy, h => by
    have h1 := (List.cons.inj h).2
    exact absurd rfl (hy 47 (by rw [← h1]; simp))
  | a :: A, b :: B, x, y, hx, hy, h => by
    obtain ⟨h1, h2⟩ := List.cons.inj h
    obtain ⟨h3, h4⟩ := last_slash A B x y hx hy h2
    exact ⟨by rw [h1, h3], h4⟩
theorem at_root (L : List Ino) : atL L 0 = [] := by unfold atL; rw [place_succ, if_pos rfl]
/-- A directory that is not the root is beneath its Up. -/
theorem at_up {L : List Ino} {m b : Int} (hF : FitP L m b) {c : Int} (hc : dirB L c = true) (h0 : c ≠ 0) : ∃ u : Nat, ∃ hu : u < L.length, (nodeAt L c).up = (u : Int) ∧ dirB L (u : Int) = true ∧ ∃ x, (x, c) ∈ L[u].kids ∧ atL L c = atL L (u : Int) ++ 47 :: x := by
  have hup : dirB L (nodeAt L c).up = true := ups_of hF 1 c hc
  obtain ⟨u, hu, hul⟩ := dir_lt hup
  obtain ⟨x, -, hx2, -⟩ := kids_one _ c (one_name hF hul hc h0 hu)
  rw [hu] at hup
  exact ⟨u, hul, hu, hup, x, hx2, at_kid hF hul hup hx2 hc⟩
theorem one_kid {L : List Ino} (hI : AllFit L) {u : Nat} (hu : u < L.length) {e f : List UInt8 × Int} (he : e ∈ L[u].kids) (hf : f ∈ L[u].kids) (h : e.1 = f.1) : e = f := by
  have hR := (kids_rise hI u hu).2
  obtain ⟨i, hi, rfl⟩ := List.getElem_of_mem he
  obtain ⟨t, ht, rfl⟩ := List.getElem_of_mem hf
  rcases Nat.lt_trichotomy i t with h1 | h1 | h1
  · have h2 := hR.lt i t ht h1
    rw [h, less_irrefl] at h2
    cases h2
  · subst h1; rfl
  · have h2 := hR.lt t i hi h1
    rw [h, less_irrefl] at h2
    cases h2
theorem at_inj {L : List Ino} {m b : Int} (hF : FitP L m b) : ∀ (j : Nat) (c c' : Int), Rk L c j → dirB L c = true → dirB L c' = true → atL L c = atL L c' → c = c'
  | 0, c, c', hr, _, hc', h => by
    have h0 : c = 0 := hr.1
    by_cases h1 : c' = 0
    · rw [h0, h1]
    · obtain ⟨u, hu, -, -, x, -, hx⟩ := at_up hF hc' h1
      rw [h0, at_root, hx] at h
      simp at h
  | j + 1, c, c', hr, hc, hc', h => by
    have h0 : c ≠ 0 := hr.2 0 (by omega)
    obtain ⟨u, hu, hue, hud, x, hxm, hx⟩ := at_up hF hc h0
    by_cases h1 : c' = 0
    · rw [h1, at_root, hx] at h
      simp at h
    · obtain ⟨u', hu', hue', hud', x', hxm', hx'⟩ := at_up hF hc' h1
      rw [hx, hx'] at h
      obtain ⟨h2, h3⟩ := last_slash _ _ _ _ (name_parts (name_of hF.ins hu hxm).1).2.2.2.2 (name_parts (name_of hF.ins hu' hxm').1).2.2.2.2 h
      have h4 := at_inj hF j (u : Int) (u' : Int) (by rw [← hue]; exact rk_up hr) hud hud' h2
      obtain rfl : u = u' := by omega
      subst h3
      have h5 := one_kid hF.ins hu hxm hxm' rfl
      exact congrArg Prod.snd h5
theorem list_fst (L : List Ino) : ∀ (n : Nat) (c : Int) (p : List UInt8), listGo L n c p = (listP L n c p).map Prod.fst
  | 0, _, _ => rfl
  | n + 1, c, p => by
    rw [list_succ, listP_succ, List.map_flatMap]
    refine flatMap_same _ _ _ fun e _ => ?_
    unfold listOne
    rw [List.map_cons]
    split
    · rw [list_fst L n]
    · rfl
theorem kidsTo_app (A B : List (List UInt8 × Int)) (c : Int) (s : List UInt8) : kidsTo (A ++ B) c s = kidsTo B c (kidsTo A c s) := by
  unfold kidsTo
  rw [List.foldl_append]

section
variable {L : List Ino} {m b : Int} {d k : Nat} {s : List UInt8} {x : Ino}
theorem Adds.placed (h : Adds L m b d k s x) : ∀ (n : Nat) (c : Int) (p : List UInt8), dirB L c = true → placeGo (addL L d k s x) n c p = placeGo L n c p
  | 0, _, _, _ => rfl
  | n + 1, c, p, hc => by
    obtain ⟨j, rfl, hj⟩ := dir_lt hc
    have hjk : j ≠ k := fun e => by
      subst e
      exact h.nodir ((dir_nat hj).1 hc)
    have hup : dirB L L[j].up = true := ups_in h.fit.root h.fit.rootUp h.fit.ins h.fit.names j hj ((dir_nat hj).1 hc)
    obtain ⟨u, hu, hul⟩ := dir_lt hup
    have huk : u ≠ k := fun e => by
      subst e
      rw [hu] at hup
      exact h.nodir ((dir_nat hul).1 hup)
    rw [place_succ, place_succ, (h.node j hj hjk).2.1, node_nat L j hj, hu, add_node h.dlt s x u hul, node_nat L u hul]
    have hk : kidsTo (if d = u then withKids (L[d]'h.dlt) (namedL (L[d]'h.dlt).kids s k) else if k = u then x else L[u]).kids (j : Int) p = kidsTo L[u].kids (j : Int) p := by
      by_cases e : d = u
      · subst e
        rw [if_pos rfl]
        obtain ⟨A, B, n1, n2, -, -⟩ := named_at L[d].kids s (k : Int) h.new
        show kidsTo (namedL L[d].kids s k) _ p = _
        rw [n2, n1, kidsTo_app, kidsTo_app, kidsTo_cons, if_neg (fun e => hjk (by have e' : (k : Int) = (j : Int) := e; omega))]
      · rw [if_neg e, if_neg (fun e => huk e.symm)]
    rw [hk]
    split
    · rfl
    · rw [← hu]
      exact Adds.placed h n _ _ hup
theorem Adds.same_at (h : Adds L m b d k s x) {c : Int} (hc : dirB L c = true) : atL (addL L d k s x) c = atL L c := by
  unfold atL
  rw [add_len]
  exact h.placed _ _ _ hc

/-- All paths but the new one are those that were there. -/
theorem Adds.paths (h : Adds L m b d k s x) (h0 : (L[k]'h.klt).kind = 0) : (listGo (addL L d k s x) (L.length + 1) 0 []).filter (fun p => p != atL L (d : Int) ++ 47 :: s) = listGo L (L.length + 1) 0 [] := by
  have hdd := (dir_nat h.dlt).2 h.dir
  have hdd' : dirB (addL L d k s x) (d : Int) = true := (h.dirs (fun e => h.ne (by omega))).trans hdd
  have hkk : ∀ y ∈ listP (addL L d k s x) (L.length + 1) 0 [], (y.1 != atL L (d : Int) ++ 47 :: s) = (y.2 != (k : Int)) := fun y hy => by
    rw [← at_root (addL L d k s x)] at hy
    obtain ⟨c, hcl, hcd, e, he, rfl⟩ := listP_in h.fits _ _ h.root.1 y hy
    have hcl' := hcl
    rw [add_len] at hcl'
    have he0 := he
    rw [add_get h.dlt s x c hcl'] at he
    rw [← h.same_at hdd, Bool.eq_iff_iff, bne_iff_ne, bne_iff_ne]
    refine not_congr ?_
    constructor
    · intro hq
      have hok := (name_of h.ins hcl he0).1
      obtain ⟨h1, h2⟩ := last_slash _ _ _ _ (name_parts hok).2.2.2.2 (name_parts h.name).2.2.2.2 hq
      obtain ⟨j, hj⟩ := rk_of (addL L d k s x).length ((leads_iff _ _ _).1 (h.fits.leads c hcl hcd))
      have h3 := at_inj h.fits j _ _ hj hcd hdd' h1
      obtain rfl : c = d := by omega
      rw [if_pos rfl] at he
      have he' : e ∈ namedL L[c].kids s k := he
      rw [named_mem (k : Int) h.new] at he'
      rcases he' with he' | he'
      · rw [he']
      · exact absurd h2 (h.new e he')
    · intro hq
      have hq' : e.2 = (k : Int) := hq
      by_cases e1 : d = c
      · subst e1
        rw [if_pos rfl] at he
        have he' : e ∈ namedL L[d].kids s k := he
        rw [named_mem (k : Int) h.new] at he'
        rcases he' with he' | he'
        · rw [he']
        · exact absurd hq' (h.free h0 e (mem_kidsOf.2 ⟨d, h.dlt, he'⟩))
      · rw [if_neg e1] at he
        by_cases e2 : k = c
        · rw [if_pos e2, h.kids] at he
          cases he
        · rw [if_neg e2] at he
          exact absurd hq' (h.free h0 e (mem_kidsOf.2 ⟨c, hcl', he⟩))
  rw [list_fst, list_fst, List.filter_map, ← h.listed h0 _ _ _ h.fit.root]
  congr 1
  exact List.filter_congr fun y hy => hkk y hy
end

/-- A directory's place as the law takes it: the root's is nothing. -/
theorem place_at {L : List Ino} {m b : Int} (hF : FitP L m b) {c : Int} (hc : dirB L c = true) : (if placeL L c = [47] then [] else placeL L c) = atL L c := by
  have hp : placeL L c = if atL L c = [] then [47] else atL L c := by
    unfold placeL atL
    rw [if_pos hc]
  rw [hp]
  by_cases h0 : c = 0
  · rw [h0, at_root, if_pos rfl, if_pos rfl]
  · obtain ⟨u, hu, -, -, x, hxm, hx⟩ := at_up hF hc h0
    have hne : atL L c ≠ [] := by rw [hx]; simp
    have h47 : atL L c ≠ [47] := fun e => by
      rw [hx] at e
      have h1 := congrArg List.length e
      have h2 : 0 < x.length := List.length_pos_iff.2 (name_parts (name_of hF.ins hu hxm).1).1
      simp only [List.length_append, List.length_cons, List.length_nil] at h1
      omega
    rw [if_neg hne, if_neg h47]
end Go.Proofs.Ytfmaagcomplooaa

namespace Go.Proofs.Ytfmaagcomplooaa
set_option maxRecDepth 100000
open Go Go.RowKit

theorem falls_of {L : List Ino} (h : AllFit L) : Falls L := fun _ hk _ he => ⟨(name_of h hk he).2, (name_parts (name_of h hk he).1).2.2.2.1⟩
def sumN : Nat → (Nat → Nat) → Nat
  | 0, _ => 0
  | n + 1, f => sumN n f + f n
theorem sumN_congr : ∀ (n : Nat) (f g : Nat → Nat), (∀ k, k < n → f k = g k) → sumN n f = sumN n g
  | 0, _, _, _ => rfl
  | n + 1, f, g, h => by
    unfold sumN
    rw [sumN_congr n f g (fun k hk => h k (by omega)), h n (by omega)]
theorem sumN_add : ∀ (n : Nat) (f g : Nat → Nat), sumN n (fun k => f k + g k) = sumN n f + sumN n g
  | 0, _, _ => rfl
  | n + 1, f, g => by
    show sumN n (fun k => f k + g k) + (f n + g n) = (sumN n f + f n) + (sumN n g + g n)
    rw [sumN_add n f g]
    omega
theorem sumN_zero : ∀ (n : Nat) (f : Nat → Nat), (∀ k, k < n → f k = 0) → sumN n f = 0
  | 0, _, _ => rfl
  | n + 1, f, h => by
    unfold sumN
    rw [sumN_zero n f (fun k hk => h k (by omega)), h n (by omega)]
theorem sumN_one : ∀ (n : Nat) (f : Nat → Nat) (d : Nat), d < n → (∀ k, k < n → k ≠ d → f k = 0) → sumN n f = f d
  | 0, _, _, h, _ => absurd h (Nat.not_lt_zero _)
  | n + 1, f, d, hd, h => by
    unfold sumN
    by_cases e : d = n
    · subst e
      rw [sumN_zero d f (fun k hk => h k (by omega) (by omega)), Nat.zero_add]
    · rw [sumN_one n f d (by omega) (fun k hk hne => h k (by omega) hne), h n (by omega) (fun x => e x.symm)]
      omega

theorem flat_sum {α β : Type} : ∀ (M : List α) (f : α → List β), (M.flatMap f).length = sumL M (fun e => (f e).length)
  | [], _ => rfl
  | e :: r, f => by
    rw [List.flatMap_cons, List.length_append, flat_sum r f]
    rfl
theorem sumL_congr {α : Type} : ∀ (M : List α) (f g : α → Nat), (∀ e ∈ M, f e = g e) → sumL M f = sumL M g
  | [], _, _, _ => rfl
  | e :: r, f, g, h => by
    unfold sumL
    rw [sumL_congr r f g (fun x hx => h x (List.mem_cons_of_mem _ hx)), h e List.mem_cons_self]
theorem sumL_ones {α : Type} : ∀ (M : List α) (f : α → Nat), sumL M (fun e => 1 + f e) = M.length + sumL M f
  | [], _ => rfl
  | e :: r, f => by
    show 1 + f e + sumL r (fun e => 1 + f e) = (e :: r).length + (f e + sumL r f)
    rw [sumL_ones r f, List.length_cons]
    omega
theorem sumL_zero {α : Type} : ∀ (M : List α) (f : α → Nat), (∀ e ∈ M, f e = 0) → sumL M f = 0
  | [], _, _ => rfl
  | e :: r, f, h => by
    unfold sumL
    rw [sumL_zero r f (fun x hx => h x (List.mem_cons_of_mem _ hx)), h e List.mem_cons_self]
theorem sum_swap {α : Type} (n : Nat) (c : Nat → Nat) : ∀ (M : List α) (g : α → Nat → Nat), sumL M (fun e => sumN n (fun k => g e k * c k)) = sumN n (fun k => sumL M (fun e => g e k) * c k)
  | [], g => (sumN_zero n _ (fun k _ => by simp [sumL])).symm
  | e :: r, g => by
    unfold sumL
    rw [sum_swap n c r g, ← sumN_add]
    exact sumN_congr n _ _ (fun k _ => by rw [Nat.add_mul])

theorem kids_sum : ∀ L : List Ino, (kidsOf L).length = sumN L.length (fun k => (nodeAt L (k : Int)).kids.length) := by
  intro L
  have h : ∀ n, n ≤ L.length → (kidsOf (L.take n)).length = sumN n (fun k => (nodeAt L (k : Int)).kids.length) := by
    intro n
    induction n with
    | zero => intro _; rfl
    | succ n ih =>
      intro hn
      rw [kidsOf_take L n (by omega), List.length_append, ih (by omega)]
      show _ = sumN n _ + (nodeAt L (n : Int)).kids.length
      rw [node_nat L n (by omega)]
  have h2 := h L.length (Nat.le_refl _)
  rw [List.take_length] at h2
  exact h2

/-- k lies in d, at whatever depth, or is d. -/
def Anc (L : List Ino) (d k : Int) : Prop := dirB L k = true ∧ ∃ i j, Rk L d j ∧ Rk L k (i + j) ∧ upN L i k = d

open Classical in
theorem anc_count {L : List Ino} {m b : Int} (hF : FitP L m b) {d : Nat} (hd : d < L.length) (hdir : dirB L (d : Int) = true) {j : Nat} (hj : Rk L (d : Int) j) (k : Nat) (_hk : k < L.length) :
    (if Anc L (d : Int) (k : Int) then 1 else 0) = (if k = d then 1 else 0) + sumL L[d].kids (fun e => if dirB L e.2 = true ∧ Anc L e.2 (k : Int) then 1 else 0) := by
  have hkid : ∀ e ∈ L[d].kids, dirB L e.2 = true → Rk L e.2 (j + 1) ∧ (nodeAt L e.2).up = (d : Int) := fun e he h => ⟨rk_down hj (name_pos hF hd he) (hF.names.1 d hd e he h), hF.names.1 d hd e he h⟩
  by_cases hkd : k = d
  · subst hkd
    rw [if_pos ⟨hdir, 0, j, hj, by rw [Nat.zero_add]; exact hj, rfl⟩, if_pos rfl, sumL_zero]
    intro e he
    rw [if_neg]
    rintro ⟨h1, -, i, j', hr, hrk, -⟩
    have e1 := rk_one hr (hkid e he h1).1
    have e2 := rk_one hrk hj
    omega
  · rw [if_neg hkd, Nat.zero_add]
    by_cases hA : Anc L (d : Int) (k : Int)
    · rw [if_pos hA]
      obtain ⟨hkdir, i, j', hr, hrk, hup⟩ := hA
      obtain rfl := rk_one hr hj
      cases i with
      | zero =>
        have : (k : Int) = (d : Int) := hup
        exact absurd (by omega) hkd
      | succ i =>
        obtain ⟨c, hc⟩ : ∃ c, c = upN L i (k : Int) := ⟨_, rfl⟩
        rw [up_next, ← hc] at hup
        have hc0 : c ≠ 0 := by rw [hc]; exact hrk.2 i (by omega)
        have hcd : dirB L c = true := by rw [hc]; exact ups_of hF i _ hkdir
        have hone := one_name hF hd hcd hc0 hup
        rw [names_sum] at hone
        refine hone.symm.trans (sumL_congr _ _ _ fun e he => ?_)
        by_cases hec : e.2 = c
        · rw [if_pos hec, if_pos]
          rw [hec]
          exact ⟨hcd, hkdir, i, j' + 1, rk_down hr hc0 hup, by rw [show i + (j' + 1) = i + 1 + j' by omega]; exact hrk, hc.symm⟩
        · rw [if_neg hec, if_neg]
          rintro ⟨h1, -, i2, j2, hr2, hrk2, hup2⟩
          have e1 := rk_one hr2 (hkid e he h1).1
          have e2 := rk_one hrk2 hrk
          have e3 : i2 = i := by omega
          subst e3
          exact hec (hup2.symm.trans hc.symm)
    · rw [if_neg hA, sumL_zero]
      intro e he
      rw [if_neg]
      rintro ⟨h1, hkdir, i, j', hr, hrk, hup⟩
      have e1 := rk_one hr (hkid e he h1).1
      refine hA ⟨hkdir, i + 1, j, hj, by rw [show i + 1 + j = i + j' by omega]; exact hrk, ?_⟩
      rw [up_next, hup]
      exact (hkid e he h1).2

open Classical in
theorem list_len {L : List Ino} {m b : Int} (hF : FitP L m b) : ∀ (f : Nat) (d : Nat) (j : Nat) (p : List UInt8) (_ : d < L.length), dirB L (d : Int) = true → Rk L (d : Int) j → L.length ≤ f + j →
    (listGo L f (d : Int) p).length = sumN L.length (fun k => (if Anc L (d : Int) (k : Int) then 1 else 0) * (nodeAt L (k : Int)).kids.length)
  | 0, d, j, p, hd, hdir, hr, hj => absurd (rk_lt hF.leads hdir hr) (by omega)
  | f + 1, d, j, p, hd, hdir, hr, hj => by
    rw [list_succ, flat_sum, node_nat L d hd]
    have h1 : sumL L[d].kids (fun e => (listOne L f p e).length) = sumL L[d].kids (fun e => 1 + sumN L.length (fun k => (if dirB L e.2 = true ∧ Anc L e.2 (k : Int) then 1 else 0) * (nodeAt L (k : Int)).kids.length)) := by
      refine sumL_congr _ _ _ fun e he => ?_
      have ht := (name_of hF.ins hd he).2
      unfold listOne
      rw [List.length_cons, Nat.add_comm]
      congr 1
      by_cases h2 : (nodeAt L e.2).kind = 2
      · have hde : dirB L e.2 = true := by unfold dirB; rw [ht, h2]; rfl
        rw [if_pos h2]
        have hup := hF.names.1 d hd e he hde
        have hrk := rk_down hr (name_pos hF hd he) hup
        obtain ⟨u, hu, hul⟩ := dir_lt hde
        rw [hu] at hde hrk ⊢
        rw [list_len hF f u (j + 1) _ hul hde hrk (by omega)]
        refine sumN_congr _ _ _ fun k _ => ?_
        congr 1
        simp only [hde, true_and]
      · have hde : ¬ dirB L e.2 = true := fun h => by
          unfold dirB at h
          rw [ht] at h
          exact h2 (by simpa using h)
        rw [if_neg h2]
        refine (sumN_zero _ _ fun k _ => ?_).symm
        rw [if_neg (fun h => hde h.1), Nat.zero_mul]
    rw [h1, sumL_ones, sum_swap]
    have h2 : L[d].kids.length = sumN L.length (fun k => (if k = d then 1 else 0) * (nodeAt L (k : Int)).kids.length) := by
      rw [sumN_one L.length _ d hd (fun k _ hne => by rw [if_neg hne, Nat.zero_mul]), if_pos rfl, Nat.one_mul, node_nat L d hd]
    rw [h2, ← sumN_add]
    refine sumN_congr _ _ _ fun k hk => ?_
    rw [anc_count hF hd hdir hr k hk, Nat.add_mul]

open Classical in
/-- There are as many paths as names. -/
theorem list_count {L : List Ino} {m b : Int} (hF : FitP L m b) : (listGo L (L.length + 1) 0 []).length = (kidsOf L).length := by
  obtain ⟨z, hz, hl⟩ := dir_lt hF.root
  have hz0 : z = 0 := by omega
  subst hz0
  have h := list_len hF (L.length + 1) 0 0 [] hl hF.root (rk_root L) (by omega)
  refine (show _ = _ from h).trans ?_
  rw [kids_sum]
  refine sumN_congr _ _ _ fun k hk => ?_
  by_cases hne : L[k].kids = []
  · rw [node_nat L k hk, hne]
    simp
  · have hkd : dirB L (k : Int) = true := (dir_nat hk).2 (dir_of_kids (hF.ins k hk).1 hne)
    obtain ⟨j, hj⟩ := rk_of L.length ((leads_iff L _ _).1 (hF.leads k hk hkd))
    rw [if_pos ⟨hkd, j, 0, rk_root L, hj, hj.1⟩, Nat.one_mul]

theorem kids_set_len : ∀ (L : List Ino) (k : Nat) (h : k < L.length) (x : Ino), (kidsOf (L.set k x)).length + L[k].kids.length = (kidsOf L).length + x.kids.length
  | y :: r, 0, _, x => by
    show (x.kids ++ kidsOf r).length + y.kids.length = (y.kids ++ kidsOf r).length + _
    rw [List.length_append, List.length_append]
    omega
  | y :: r, k + 1, h, x => by
    have ih := kids_set_len r k (Nat.lt_of_succ_lt_succ h) x
    show (y.kids ++ kidsOf (r.set k x)).length + (r[k]'(Nat.lt_of_succ_lt_succ h)).kids.length = (y.kids ++ kidsOf r).length + _
    rw [List.length_append, List.length_append]
    omega
theorem Adds.count1 {L : List Ino} {m b : Int} {d k : Nat} {s : List UInt8} {x : Ino} (h : Adds L m b d k s x) : (kidsOf (addL L d k s x)).length = (kidsOf L).length + 1 := by
  have h1 := kids_set_len L k h.klt x
  have hd : d < (L.set k x).length := by rw [List.length_set]; exact h.dlt
  have h2 := kids_set_len (L.set k x) d hd (withKids (nodeAt L d) (namedL (nodeAt L d).kids s k))
  have e1 : (L.set k x)[d] = L[d]'h.dlt := by rw [List.getElem_set, if_neg (fun e => h.ne e.symm)]
  rw [e1] at h2
  have h3 : (namedL (nodeAt L d).kids s k).length = (nodeAt L d).kids.length + 1 := named_len (k : Int) (by rw [node_nat L d h.dlt]; exact h.new)
  have h4 : (kidsOf (addL L d k s x)).length + (L[d]'h.dlt).kids.length = (kidsOf (L.set k x)).length + (namedL (nodeAt L d).kids s k).length := h2
  rw [h3, node_nat L d h.dlt] at h4
  rw [free_kids h.fit h.klt h.nodir, h.kids] at h1
  simp only [List.length_nil] at h1
  omega
/-- One path more. -/
theorem Adds.paths1 {L : List Ino} {m b : Int} {d k : Nat} {s : List UInt8} {x : Ino} (h : Adds L m b d k s x) : (listGo (addL L d k s x) ((addL L d k s x).length + 1) 0 []).length = (listGo L (L.length + 1) 0 []).length + 1 := by
  rw [list_count h.fits, list_count h.fit, h.count1]
theorem few_paths {L : List Ino} {m b : Int} (hF : FitP L m b) : (listGo L (L.length + 1) 0 []).length ≤ 262144 := by
  rw [list_count hF]
  have h2 : ∀ (l : List Ino), (∀ x ∈ l, x.kids.length ≤ 1024) → (kidsOf l).length ≤ 1024 * l.length := fun l => by
    induction l with
    | nil => exact fun _ => Nat.le_refl _
    | cons x r ih =>
      intro h
      have e1 := ih (fun y hy => h y (List.mem_cons_of_mem _ hy))
      have e2 := h x List.mem_cons_self
      show (x.kids ++ kidsOf r).length ≤ 1024 * (r.length + 1)
      rw [List.length_append]
      omega
  have h4 := h2 L (fun x hx => by obtain ⟨j, hj, rfl⟩ := List.getElem_of_mem hx; exact (hF.ins j hj).2.1)
  obtain ⟨l1, l2, l3, l4, l5⟩ := hF.limits
  omega
end Go.Proofs.Ytfmaagcomplooaa
