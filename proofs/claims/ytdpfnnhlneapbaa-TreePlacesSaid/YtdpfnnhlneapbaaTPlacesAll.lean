/-
  A map from texts to truths: what a store into it leaves, what a look-up finds (XMaps, turned).
  The reference's Base, Dir, Join.
  Plain laws on trees: each path is in the place of a directory.
  The law TreePlaces, walked.
-/
import Derived.WalkKit
import Derived.Test.YtdpfnnhlneapbaaProg
import Derived.StringKeys
import Derived.Maps.Own
import Derived.Test.YtdpfnnhlneapbaaPathRef2
import Derived.Test.YtdpfnnhlneapbaaTPlainB
import Derived.Test.YtdpfnnhlneapbaaTFindsLaw
namespace Go.Proofs.Ytdpfnnhlneapbaa
open Go Go.RowKit Go.WideElems Go.MapKept Go.ChangeMaps Go.WideMaps

theorem strLaw : WideMaps.KeyLaw Try.prog 9 := WideMaps.string_law Try.underlying9

/-- Every entry's key is a text that fits. -/
def StrKeys (es : Array MapEntry) : Prop := ∀ e ∈ es.toList, ∃ s : ByteArray, e.key = .string s ∧ s.size ≤ maxLen

theorem StrKeys.fits {es : Array MapEntry} (h : StrKeys es) : ∀ e ∈ es.toList, ∃ l, keyOf Try.prog 9 e.key = some l := fun e he => by
  obtain ⟨s, h1, h2⟩ := h e he
  rw [h1]
  exact ⟨_, keyOf_string_mk Try.underlying9 h2⟩

theorem run_insert (w : World) (m : Nat) (es : Array MapEntry) (clock : Nat) (hb : w.heap[m]? = some (.map es clock)) (hk : StrKeys es) (key : ByteArray) (hkey : key.size ≤ maxLen) (val : Value) :
    ∃ es' clock', (Instr.mapUpdate 42 (.map (some m)) (.string key) val).run Try.prog w = .ok () (setBlock w m (.map es' clock')) ∧ StrKeys es' ∧
      (∀ x ∈ es'.toList, x ∈ es.toList ∨ (x.key = .string key ∧ x.val = val)) ∧ (∃ x ∈ es'.toList, x.key = .string key) ∧
      (∀ k', (∃ x ∈ es.toList, x.key = .string k') → ∃ x ∈ es'.toList, x.key = .string k') := by
  have hkl := keyOf_string_mk Try.underlying9 hkey
  rcases strLaw.find w hkl es.toList hk.fits with ⟨h1, h2⟩ | ⟨j, e0, h1, h2, h3⟩
  · refine ⟨es.push ⟨.string key, val, clock⟩, clock + 1, ?_, ?_, ?_, ?_, ?_⟩
    · simp [Instr.mapUpdate, run_underlying Try.underlying42, MapKept.run_getObj_map hb, strLaw.check w false hkl, h1, MapKept.run_setObj_map _ hb, Result.andThen, setBlock]
    · intro e he
      simp only [Array.toList_push, List.mem_append, List.mem_singleton] at he
      rcases he with he | rfl
      · exact hk e he
      · exact ⟨key, rfl, hkey⟩
    · intro e he
      simp only [Array.toList_push, List.mem_append, List.mem_singleton] at he
      rcases he with he | rfl
      · exact Or.inl he
      · exact Or.inr ⟨rfl, rfl⟩
    · exact ⟨⟨.string key, val, clock⟩, by simp, rfl⟩
    · rintro k' ⟨x, hx, hxk⟩
      exact ⟨x, by simp only [Array.toList_push, List.mem_append]; exact Or.inl hx, hxk⟩
  · have hj : j < es.size := by
      have := (List.getElem?_eq_some_iff.1 h2).1
      simpa using this
    have hjA : es[j]? = some e0 := by rw [← Array.getElem?_toList]; exact h2
    have hmem : ∀ e ∈ (es.modify j fun e => { e with key := .string key, val := val }).toList, e ∈ es.toList ∨ (e.key = .string key ∧ e.val = val) := by
      intro e he
      obtain ⟨i, hi, rfl⟩ := List.getElem_of_mem he
      have hi' : i < es.size := by simpa using hi
      rw [Array.getElem_toList, Array.getElem_modify]
      split
      · exact Or.inr ⟨rfl, rfl⟩
      · exact Or.inl (by simp)
    have hnew : ∃ x ∈ (es.modify j fun e => { e with key := .string key, val := val }).toList, x.key = .string key := by
      refine ⟨(es.modify j fun e => { e with key := .string key, val := val })[j]'(by simpa using hj), Array.mem_toList_iff.2 (Array.getElem_mem _), ?_⟩
      rw [Array.getElem_modify_self]
    refine ⟨_, clock, ?_, fun e he => ?_, hmem, hnew, ?_⟩
    · simp [Instr.mapUpdate, run_underlying Try.underlying42, MapKept.run_getObj_map hb, strLaw.check w false hkl, h1, hjA, h3, strLaw.stays w hkl, MapKept.run_setObj_map _ hb, Result.andThen, setBlock]
    · rcases hmem e he with h | ⟨h, _⟩
      · exact hk e h
      · exact ⟨key, h, hkey⟩
    · rintro k' ⟨x, hx, hxk⟩
      obtain ⟨i, hi, rfl⟩ := List.getElem_of_mem hx
      have hi' : i < es.size := by simpa using hi
      by_cases hij : j = i
      · subst hij
        rw [Array.getElem_toList] at hxk
        have e1 : es[j] = e0 := by rw [Array.getElem?_eq_getElem hj] at hjA; exact Option.some.inj hjA
        rw [e1, h3] at hxk
        rw [← hxk]
        exact hnew
      · refine ⟨(es.modify j fun e => { e with key := .string key, val := val })[i]'(by simpa using hi'), Array.mem_toList_iff.2 (Array.getElem_mem _), ?_⟩
        rw [Array.getElem_modify, if_neg hij]
        simpa using hxk

theorem run_find (w : World) (m : Nat) (es : Array MapEntry) (clock : Nat) (hb : w.heap[m]? = some (.map es clock)) (hk : StrKeys es) (key : ByteArray) (hkey : key.size ≤ maxLen) :
    ((Instr.lookup 42 (.map (some m)) (.string key) false).run Try.prog w = .ok (.bool false) w ∧ ∀ e ∈ es.toList, e.key ≠ .string key) ∨
    ∃ e ∈ es.toList, e.key = .string key ∧ (Instr.lookup 42 (.map (some m)) (.string key) false).run Try.prog w = .ok e.val w := by
  have hkl := keyOf_string_mk Try.underlying9 hkey
  have hz : (zeroValue 4).run Try.prog w = .ok (.bool false) w := by kernel_rfl
  rcases strLaw.find w hkl es.toList hk.fits with ⟨h1, h2⟩ | ⟨j, e0, h1, h2, h3⟩
  · exact Or.inl ⟨by simp [Instr.lookup, run_underlying Try.underlying42, MapKept.run_getObj_map hb, strLaw.check w _ hkl, h1, hz, Result.andThen], h2⟩
  · exact Or.inr ⟨e0, List.mem_of_getElem? h2, h3, by simp [Instr.lookup, run_underlying Try.underlying42, MapKept.run_getObj_map hb, strLaw.check w _ hkl, h1, Result.andThen]⟩
end Go.Proofs.Ytdpfnnhlneapbaa

namespace Go.Proofs.Ytdpfnnhlneapbaa
open Go Go.RowKit

theorem parts_len (l : List UInt8) : (partsL l).length ≤ l.length + 1 := by
  have h : ∀ L : List (List UInt8), L.length ≤ total L := by
    intro L
    induction L with
    | nil => simp [total]
    | cons x r ih => simp only [List.length_cons, total]; omega
  exact Nat.le_trans (h _) (total_parts l)

theorem Texts.init {B : Nat} {w : World} {g n cap : Nat} {L : List (List UInt8)} (h : Texts B w (.slice (some ⟨g, 0, none⟩) (n + 1) cap) L) (hn : L.length = n + 1) : Texts B w (.slice (some ⟨g, 0, none⟩) n cap) L.dropLast := by
  obtain ⟨h1, h2 | ⟨g', cap', cur, hv, hg, hh, hc, hm, hs, ht⟩⟩ := h
  · cases h2.1
  · simp only [Value.slice.injEq, Option.some.injEq, Addr.mk.injEq] at hv
    obtain ⟨⟨rfl, -⟩, -, rfl⟩ := hv
    have hl : L.dropLast.length = n := by rw [List.length_dropLast, hn]; rfl
    refine ⟨by rw [List.length_map, Nat.mul_one], Or.inr ⟨g, cap, cur, by rw [hl], hg, hh, by omega, hm, hs, ?_⟩⟩
    rw [hl, List.map_dropLast, ← ht, hn, Nat.mul_one, Nat.mul_one, List.dropLast_eq_take, List.length_take, List.take_take]
    have hcl : cur.toList.length = cap := by rw [Array.length_toList, hs, Nat.mul_one]
    rw [hcl]
    congr 1
    omega

def dirL (l : List UInt8) : List UInt8 :=
  if (if wholeL l then 47 :: joinL (partsL l).dropLast else joinL (partsL l).dropLast) = [] then [46] else (if wholeL l then 47 :: joinL (partsL l).dropLast else joinL (partsL l).dropLast)

theorem total_init (L : List (List UInt8)) : total L.dropLast ≤ total L := by
  rw [List.dropLast_eq_take]
  exact total_take L _

theorem empty_val (l : List UInt8) : ((⟨l.toArray⟩ : ByteArray).toList.isEmpty) = l.isEmpty := by rw [ByteArray.toList_eq]

theorem rjoined_known (L : List (List UInt8)) (J : List UInt8) (hJ : J = joinL L) (B : Nat) (v : Value) (w : World) (hT : Texts B w v L) (hlen : total L ≤ 1099511627776) :
    Calls Try.prog 46 #[v] w fun e w' => e = .returned (.string ⟨J.toArray⟩) ∧ w = w' := by
  subst hJ
  exact rjoined_any L B v w hT hlen
theorem rwhole_known (s : ByteArray) (b : Bool) (h : wholeL s.data.toList = b) (w : World) : Calls Try.prog 47 #[.string s] w fun e w' => e = .returned (.bool b) ∧ w = w' := by
  subst h
  exact rwhole_any s w

theorem slash_cat (x : ByteArray) : ((⟨#[47]⟩ : ByteArray) ++ x).toList.isEmpty = false := by
  rcases x with ⟨⟨l⟩⟩
  rw [ByteArray.mk_append_mk, ByteArray.toList_eq]
  simp

set_option maxHeartbeats 2000000 in
theorem rdir_any (s : ByteArray) (hs : s.size ≤ 1073741824) (w : World) : Calls Try.prog 25 #[.string s] w fun e w' => e = .returned (.string ⟨(dirL s.data.toList).toArray⟩) ∧ Below w.heap.size w w' := by
  have hp := parts_len s.data.toList
  have htot := total_parts s.data.toList
  rw [size_list] at hp htot
  obtain ⟨J, hJ⟩ : ∃ J, J = joinL (partsL s.data.toList).dropLast := ⟨_, rfl⟩
  have hJl : J.length ≤ 1073741825 := by rw [hJ]; have h1 := join_le (partsL s.data.toList).dropLast; have h2 := total_init (partsL s.data.toList); omega
  have hd : dirL s.data.toList = if (if wholeL s.data.toList then 47 :: J else J) = [] then [46] else (if wholeL s.data.toList then 47 :: J else J) := by rw [hJ]; rfl
  have HJ := Lib.hid hJ
  have HD := Lib.hid hd
  have HTT := Lib.hid (show total (partsL s.data.toList).dropLast ≤ 1099511627776 by have h2 := total_init (partsL s.data.toList); omega)
  clear hJ hd htot
  cases hw : wholeL s.data.toList <;> rcases J with _ | ⟨c, r⟩
  all_goals
    have HW := Lib.hid hw
    rw [hw] at HD
    simp only [List.length_cons, List.length_nil] at hJl
    have hcat := slash_cat
    clear hw
    go_enter Try.func25, Try.ntmps25
    go_wp2_with fail
    refine (rparts_any s hs _).mono ?_
    rintro e w1 ⟨v, rfl, hT, hb⟩
    rcases hT.forms with ⟨rfl, hn⟩ | ⟨g, cap, rfl, -, -, hcap, hmax, -⟩
    · have HT := Lib.hid (show Texts w.heap.size w1 (.slice none 0 0) (partsL s.data.toList).dropLast by rw [hn] at hT ⊢; exact hT)
      clear hT hn
      go_wp2_with fail
      refine (rjoined_known _ _ HJ.out _ _ _ HT.out HTT.out).mono ?_
      rintro e w' ⟨rfl, rfl⟩
      go_wp2_with fail
      refine (rwhole_known _ _ HW.out _).mono ?_
      rintro e w' ⟨rfl, rfl⟩
      go_wp2_with fail
      go_ret
      exact ⟨by rw [HD.out]; (first | rfl | exact congrArg (fun x => Ending.returned (.string x)) (ByteArray.mk_append_mk ..)), hb⟩
    · unfold maxLen at hmax
      by_cases h0 : (partsL s.data.toList).length = 0
      · have HT := Lib.hid (show Texts w.heap.size w1 (.slice (some ⟨g, 0, none⟩) 0 cap) (partsL s.data.toList).dropLast by rw [List.length_eq_zero_iff.1 h0] at hT ⊢; exact hT)
        rw [h0]
        clear hT h0 hcap hp
        go_wp2_with fail
        refine (rjoined_known _ _ HJ.out _ _ _ HT.out HTT.out).mono ?_
        rintro e w' ⟨rfl, rfl⟩
        go_wp2_with fail
        refine (rwhole_known _ _ HW.out _).mono ?_
        rintro e w' ⟨rfl, rfl⟩
        go_wp2_with fail
        go_ret
        exact ⟨by rw [HD.out]; (first | rfl | exact congrArg (fun x => Ending.returned (.string x)) (ByteArray.mk_append_mk ..)), hb⟩
      · obtain ⟨n, hn⟩ : ∃ n, (partsL s.data.toList).length = n + 1 := ⟨(partsL s.data.toList).length - 1, by omega⟩
        rw [hn] at hT hcap hp ⊢
        have HT := Lib.hid (hT.init hn)
        clear hT hn h0
        go_wp2_with fail
        refine (rjoined_known _ _ HJ.out _ _ _ HT.out HTT.out).mono ?_
        rintro e w' ⟨rfl, rfl⟩
        go_wp2_with fail
        refine (rwhole_known _ _ HW.out _).mono ?_
        rintro e w' ⟨rfl, rfl⟩
        go_wp2_with fail
        go_ret
        exact ⟨by rw [HD.out]; (first | rfl | exact congrArg (fun x => Ending.returned (.string x)) (ByteArray.mk_append_mk ..)), hb⟩
end Go.Proofs.Ytdpfnnhlneapbaa

namespace Go.Proofs.Ytdpfnnhlneapbaa
open Go Go.RowKit

theorem parts_name : ∀ (x cur r : List UInt8), (∀ c ∈ x, c ≠ 47) → partsGo cur (x ++ r) = partsGo (cur ++ x) r
  | [], cur, r, _ => by simp
  | c :: x, cur, r, h => by
    rw [List.cons_append]
    show (if c = 47 then _ else partsGo (cur ++ [c]) (x ++ r)) = _
    rw [if_neg (h c List.mem_cons_self), parts_name x _ r (fun d hd => h d (List.mem_cons_of_mem _ hd))]
    simp
theorem parts_sl : ∀ (M : List (List UInt8)) (cur : List UInt8), (∀ x ∈ M, nameOkL x = true) → partsGo cur (sl M) = (if cur = [] then [] else [cur]) ++ M
  | [], cur, _ => by
    show (if cur = [] then [] else [cur]) = _
    simp
  | x :: r, cur, h => by
    obtain ⟨h1, -, -, -, h5⟩ := name_parts (h x List.mem_cons_self)
    rw [sl_cons, List.cons_append]
    show (if cur = [] then partsGo [] (x ++ sl r) else cur :: partsGo [] (x ++ sl r)) = _
    rw [parts_name x [] (sl r) h5, List.nil_append, parts_sl r x (fun y hy => h y (List.mem_cons_of_mem _ hy)), if_neg h1]
    split <;> simp
theorem dir_sl (A : List (List UInt8)) (x : List UInt8) (hA : ∀ y ∈ A ++ [x], nameOkL y = true) : dirL (sl (A ++ [x])) = 47 :: joinL A := by
  have hp : partsL (sl (A ++ [x])) = A ++ [x] := by
    unfold partsL
    rw [parts_sl _ [] hA, if_pos rfl, List.nil_append]
  have hw : wholeL (sl (A ++ [x])) = true := by
    rw [sl_join _ (by simp)]
    rfl
  unfold dirL
  rw [hp, hw, List.dropLast_concat, if_pos rfl, if_neg (by simp)]

theorem join_inj {A C : List (List UInt8)} (a2 : ∀ x ∈ A, nameOkL x = true) (c2 : ∀ x ∈ C, nameOkL x = true) (h : (47 : UInt8) :: joinL A = 47 :: joinL C) : A = C := by
  have hj : ∀ (X : List (List UInt8)), (∀ x ∈ X, nameOkL x = true) → X ≠ [] → joinL X ≠ [] := fun X hX hne e => by
    have h1 := sl_join X hne
    rw [e] at h1
    cases X with
    | nil => exact hne rfl
    | cons x r =>
      rw [sl_cons] at h1
      have h2 := (name_parts (hX x List.mem_cons_self)).1
      have h3 := congrArg List.length h1
      simp at h3
      exact h2 (by simpa using h3.1)
  by_cases hA : A = []
  · subst hA
    by_cases hC : C = []
    · exact hC.symm
    · exact absurd (List.cons.inj h).2.symm (hj C c2 hC)
  · by_cases hC : C = []
    · subst hC
      exact absurd (List.cons.inj h).2 (hj A a2 hA)
    · rw [← sl_join A hA, ← sl_join C hC] at h
      exact sl_inj A C (fun x hx => (name_parts (a2 x hx)).2.2.2.2) (fun x hx => (name_parts (c2 x hx)).2.2.2.2) h

/-- A directory's place is its Up's, and its name. -/
theorem child_place {L : List Ino} {m b : Int} (hF : FitP L m b) {u : Nat} (hul : u < L.length) (hu : dirB L (u : Int) = true) {e : List UInt8 × Int} (he : e ∈ L[u].kids) (hde : dirB L e.2 = true) {N : List (List UInt8)} (hN : ∀ x ∈ N, nameOkL x = true) (hp : placeL L (u : Int) = 47 :: joinL N) :
    placeL L e.2 = 47 :: joinL (N ++ [e.1]) := by
  have h0 := name_pos hF hul he
  have hup := hF.names.1 u hul e he hde
  obtain ⟨j, hj⟩ := rk_of L.length ((leads_iff L _ _).1 (hF.leads u hul hu))
  have hjl := rk_lt hF.leads hu hj
  have hj2 := rk_down hj h0 hup
  have hj2l := rk_lt hF.leads hde hj2
  obtain ⟨A, -, a2, a3⟩ := both_places hF j _ hu hj
  obtain ⟨x, hx1, hx2, hx3⟩ := kids_one _ e.2 (one_name hF hul hde h0 hup)
  have hxe : x = e.1 := by
    -- the one name
    have h1 := one_name hF hul hde h0 hup
    obtain ⟨i, hi, hie⟩ := List.getElem_of_mem hx2
    obtain ⟨k, hk, hke⟩ := List.getElem_of_mem he
    by_cases hik : i = k
    · subst hik
      rw [hie] at hke
      rw [← hke]
    · exfalso
      have hsplit : ∀ (M : List (List UInt8 × Int)) (c : Int) (i k : Nat) (hi : i < M.length) (hk : k < M.length), i < k → M[i].2 = c → M[k].2 = c → 2 ≤ namesOf M c := fun M c i k hi hk hlt h1 h2 => by
        have e1 : M = M.take k ++ M.drop k := (List.take_append_drop k M).symm
        rw [e1, names_app]
        have m1 : M[i] ∈ M.take k := List.mem_take_iff_getElem.2 ⟨i, by omega, rfl⟩
        have m2 : M[k] ∈ M.drop k := by rw [List.drop_eq_getElem_cons hk]; exact List.mem_cons_self
        have n1 := names_pos m1
        have n2 := names_pos m2
        rw [h1] at n1
        rw [h2] at n2
        omega
      have hi2 : (L[u].kids[i]).2 = e.2 := by rw [hie]
      have hk2 : (L[u].kids[k]).2 = e.2 := by rw [hke]
      rcases Nat.lt_or_gt_of_ne hik with h2 | h2
      · have := hsplit _ e.2 i k hi hk h2 hi2 hk2
        omega
      · have := hsplit _ e.2 k i hk hi h2 hk2 hi2
        omega
  subst hxe
  have hAu : placeL L (u : Int) = 47 :: joinL A := by
    obtain ⟨h4, -⟩ := a3 (L.length + 1) 256 [] (by omega) (by have := hF.limits; unfold Limits at this; omega)
    have e1 : sl (A ++ ([] : List (List UInt8)).reverse) = sl A := by simp
    rw [e1] at h4
    have h4' : placeGo L (L.length + 1) (u : Int) [] = sl A := h4
    unfold placeL
    rw [if_pos hu, h4']
    by_cases hA : A = []
    · subst hA
      rfl
    · rw [sl_join A hA, if_neg (by simp)]
  have hAN : A = N := join_inj a2 hN (hAu.symm.trans hp)
  subst hAN
  obtain ⟨h4, -⟩ := a3 L.length 256 [e.1] (by omega) (by have := hF.limits; unfold Limits at this; omega)
  have e2 : placeGo L (L.length + 1) e.2 [] = sl (A ++ [e.1]) := by
    rw [place_succ, if_neg h0, hup, node_nat L u hul, hx3]
    exact h4
  unfold placeL
  rw [if_pos hde, e2, sl_join _ (by simp), if_neg (by simp)]

/-- Each path is in a directory's place. -/
theorem list_dirs {L : List Ino} {m b : Int} (hF : FitP L m b) : ∀ (n : Nat) (u : Nat) (N : List (List UInt8)) (_ : u < L.length), dirB L (u : Int) = true → (∀ x ∈ N, nameOkL x = true) → placeL L (u : Int) = 47 :: joinL N →
    ∀ s ∈ listGo L n (u : Int) (sl N), ∃ d, ∃ _ : d < L.length, dirB L (d : Int) = true ∧ dirL s = placeL L (d : Int)
  | 0, _, _, _, _, _, _, _, h => by cases h
  | n + 1, u, N, hul, hu, hN, hp, s, h => by
    rw [list_succ, node_nat L u hul, List.mem_flatMap] at h
    obtain ⟨e, he, hs⟩ := h
    have hok : ∀ y ∈ N ++ [e.1], nameOkL y = true := fun y hy => by
      rcases List.mem_append.1 hy with h | h
      · exact hN y h
      · rw [List.mem_singleton.1 h]
        exact (name_of hF.ins hul he).1
    have hsl : sl N ++ 47 :: e.1 = sl (N ++ [e.1]) := by simp [sl]
    unfold listOne at hs
    rw [hsl] at hs
    rcases List.mem_cons.1 hs with h | h
    · exact ⟨u, hul, hu, by rw [h, dir_sl N e.1 hok, hp]⟩
    · by_cases h2 : (nodeAt L e.2).kind = 2
      · rw [if_pos h2] at h
        have hde : dirB L e.2 = true := by unfold dirB; rw [(name_of hF.ins hul he).2, h2]; rfl
        have hpe := child_place hF hul hu he hde hN hp
        obtain ⟨v, hv, hvl⟩ := dir_lt hde
        rw [hv] at h hde hpe
        exact list_dirs hF n v _ hvl hde hok hpe s h
      · rw [if_neg h2] at h
        cases h
theorem list_root {L : List Ino} {m b : Int} (hF : FitP L m b) : ∀ s ∈ listGo L (L.length + 1) 0 [], ∃ d, ∃ _ : d < L.length, dirB L (d : Int) = true ∧ dirL s = placeL L (d : Int) := by
  obtain ⟨z, hz, hl⟩ := dir_lt hF.root
  have hz0 : z = 0 := by omega
  subst hz0
  refine list_dirs hF (L.length + 1) 0 [] hl hF.root (by simp) ?_
  unfold placeL
  rw [if_pos (show dirB L ((0 : Nat) : Int) = true from hF.root)]
  have e : placeGo L (L.length + 1) ((0 : Nat) : Int) [] = [] := rfl
  rw [e]
  rfl
end Go.Proofs.Ytdpfnnhlneapbaa

namespace Go.Proofs.Ytdpfnnhlneapbaa
open Go Go.RowKit

/-- Places are told apart as texts. -/
theorem text_eq (x y : List UInt8) : ((⟨x.toArray⟩ : ByteArray).toList == (⟨y.toArray⟩ : ByteArray).toList) = (x == y) := by
  rw [ByteArray.toList_eq, ByteArray.toList_eq]

attribute [local go_sem] run_makeMap

theorem lplace_len {L : List Ino} (hS : Short64 L) : ∀ (k : Nat) (d : Int) (N : List (List UInt8)), (lplaceGo L k d N).length ≤ total N + k * 65 + 1
  | 0, _, _ => by simp [lplaceGo]
  | k + 1, d, N => by
    rw [lplace_succ]
    split
    · split
      · have h1 := join_le N.reverse
        rw [total_rev] at h1
        simp only [List.length_cons]
        omega
      · split
        · have h1 := lplace_len hS k (nodeAt L d).up (N ++ [(nameAns L (nodeAt L d).up d).1])
          have h2 := nameAns_len hS (nodeAt L d).up d
          rw [total_append] at h1
          simp only [total] at h1
          omega
        · simp
    · simp
theorem place_len {L : List Ino} {m b : Int} (hF : FitP L m b) (d : Int) : (placeL L d).length ≤ 100000 := by
  have h := lplace_len (short_of hF.ins) 256 d []
  rw [← place_same hF d]
  unfold lplaceL
  simp only [total] at h
  omega

theorem list_short {L : List Ino} (hS : Short64 L) : ∀ (n : Nat) (d : Int) (p : List UInt8), ∀ s ∈ listGo L n d p, s.length ≤ p.length + n * 65
  | 0, _, _, _, h => by cases h
  | n + 1, d, p, s, h => by
    rw [list_succ, List.mem_flatMap] at h
    obtain ⟨e, he, hs⟩ := h
    have hl : e.1.length ≤ 64 := by
      unfold nodeAt at he
      by_cases hd : d.toNat < L.length
      · rw [List.getD_eq_getElem?_getD, List.getElem?_eq_getElem hd] at he
        exact (hS _ hd).2 e he
      · rw [List.getD_eq_getElem?_getD, List.getElem?_eq_none (by omega)] at he
        cases he
    unfold listOne at hs
    rcases List.mem_cons.1 hs with h | h
    · rw [h]
      simp only [List.length_append, List.length_cons]
      omega
    · split at h
      · have := list_short hS n e.2 _ s h
        simp only [List.length_append, List.length_cons] at this
        omega
      · cases h

/-- The first k inodes are counted, the places of the directories among them are keys of map mp. -/
def PL1 (L : List Ino) (pl : Int → List UInt8) (mp : Nat) (w1 : World) (nv iv : Value) (wr : World) : Prop :=
  ∃ k : Nat, k ≤ L.length ∧ iv = .int .i64 k ∧ nv = .int .i64 (kidsOf (L.take k)).length ∧ Below w1.heap.size w1 wr ∧
    ∃ es clock, wr.heap[mp]? = some (.map es clock) ∧ StrKeys es ∧ Hid (∀ x ∈ es.toList, x.val = .bool true) ∧ Hid (∀ d, d < k → dirB L (d : Int) = true → ∃ x ∈ es.toList, x.key = .string ⟨(pl (d : Int)).toArray⟩)

theorem pl1_start (L : List Ino) (pl : Int → List UInt8) (w1 wn : World) (h : Below w1.heap.size w1 wn) : PL1 L pl wn.heap.size w1 (.int .i64 0) (.int .i64 0) (wn.alloc (.map #[] 0)) :=
  ⟨0, by omega, rfl, rfl, h.alloc h.size _, #[], 0, World.alloc_heap_new _ _, fun e he => absurd he (by simp), Lib.hid (fun x hx => absurd hx (by simp)), Lib.hid (fun d hd => absurd hd (Nat.not_lt_zero _))⟩
theorem below_set {n : Nat} {A B : World} (h : Below n A B) (m : Nat) (hm : n ≤ m) (o : Obj) : Below n A (Go.ChangeMaps.setBlock B m o) :=
  ⟨h.os, h.tape, h.output, by show A.heap.size ≤ (B.heap.setIfInBounds m o).size; simp; exact h.size, fun k hk => by
    show (B.heap.setIfInBounds m o)[k]? = _
    rw [Array.getElem?_setIfInBounds_ne (by omega)]
    exact h.block k hk⟩
theorem pl1_not {L : List Ino} {pl : Int → List UInt8} {mp : Nat} {w1 wr : World} {k : Nat} (hlt : k < L.length) (hkd : (L[k].kind == 2) = false) {nv iv : Value} (hn : nv = .int .i64 ((kidsOf (L.take (k + 1))).length : Nat)) (hi : iv = .int .i64 ((k + 1 : Nat) : Int)) (hb : Below w1.heap.size w1 wr) {es : Array MapEntry} {clock : Nat} (hm : wr.heap[mp]? = some (.map es clock)) (hs : StrKeys es) (hv : ∀ x ∈ es.toList, x.val = .bool true)
    (hd : ∀ d, d < k → dirB L (d : Int) = true → ∃ x ∈ es.toList, x.key = .string ⟨(pl (d : Int)).toArray⟩) : PL1 L pl mp w1 nv iv wr :=
  ⟨k + 1, by omega, hi, hn, hb, es, clock, hm, hs, Lib.hid hv, Lib.hid (fun d hdk hdir => by
    by_cases e : d = k
    · subst e
      have h2 := (dir_nat hlt).1 hdir
      rw [h2] at hkd
      cases hkd
    · exact hd d (by omega) hdir)⟩
theorem pl1_yes {L : List Ino} {pl : Int → List UInt8} {mp : Nat} {w1 wr : World} {k : Nat} (hlt : k < L.length) {nv iv : Value} (hn : nv = .int .i64 ((kidsOf (L.take (k + 1))).length : Nat)) (hi : iv = .int .i64 ((k + 1 : Nat) : Int)) (hb : Below w1.heap.size w1 wr) {es es' : Array MapEntry} {clock : Nat} (hm : wr.heap[mp]? = some (.map es' clock)) (hs : StrKeys es') (hv : ∀ x ∈ es.toList, x.val = .bool true)
    (h1 : ∀ x ∈ es'.toList, x ∈ es.toList ∨ (x.key = .string ⟨(pl (k : Int)).toArray⟩ ∧ x.val = .bool true)) (h2 : ∃ x ∈ es'.toList, x.key = .string ⟨(pl (k : Int)).toArray⟩) (h3 : ∀ k', (∃ x ∈ es.toList, x.key = .string k') → ∃ x ∈ es'.toList, x.key = .string k')
    (hd : ∀ d, d < k → dirB L (d : Int) = true → ∃ x ∈ es.toList, x.key = .string ⟨(pl (d : Int)).toArray⟩) : PL1 L pl mp w1 nv iv wr :=
  ⟨k + 1, by omega, hi, hn, hb, es', clock, hm, hs, Lib.hid (fun x hx => (h1 x hx).elim (hv x) (fun h => h.2)), Lib.hid (fun d hdk hdir => by
    by_cases e : d = k
    · subst e
      exact h2
    · exact h3 _ (hd d (by omega) hdir))⟩

set_option maxRecDepth 100000 in
set_option maxHeartbeats 8000000 in
theorem tplaces_walk (a : Option Addr) (cap : Nat) (m b n c : Int) (L : List Ino) (hR : Reach L) (w : World) (hN : NodesIn w a cap L) :
    Calls Try.prog 5 #[.agg #[.slice a L.length cap, .int .i64 m, .int .i64 b], .int .i64 n, .int .i64 c] w fun e w' => e = .returned (.bool true) ∧ Below w.heap.size w w' := by
  have hb1 := below_box w (.cells #[.slice a L.length cap, .int .i64 m, .int .i64 b] 24)
  obtain ⟨w1, hw1⟩ : ∃ w1, w1 = w.alloc (.cells #[.slice a L.length cap, .int .i64 m, .int .i64 b] 24) := ⟨_, rfl⟩
  have hM := hN.below hb1
  have hsz : w1.heap.size = w.heap.size + 1 := by rw [hw1]; simp
  have hbox : ∀ W', Below w1.heap.size w1 W' → W'.cell? ⟨w.heap.size, 0, none⟩ = some (.slice a L.length cap) ∧ W'.cell? ⟨w.heap.size, 1, none⟩ = some (.int .i64 m) ∧ W'.cell? ⟨w.heap.size, 2, none⟩ = some (.int .i64 b) := fun W' h => box3 (by rw [← hw1]; exact h)
  rw [← hw1] at hM hb1
  have HM := Lib.hid hM
  have HB := Lib.hid hb1
  have HX := Lib.hid hbox
  have HR := Lib.hid hR
  have HEND := Lib.hid (show ∀ W', Below w1.heap.size w1 W' → Below w.heap.size w W' from fun W' h => HB.out.trans (h.mono (by rw [hsz]; omega)))
  clear hM hN hb1 hbox hsz hR
  go_enter Try.func5, Try.ntmps5
  go_wp2_with fail
  rw [← hw1]
  clear hw1
  refine (few_any _ _ _ _ L HR.out.nodes HR.out.kids _ HM.out).mono ?_
  rintro e w2 ⟨⟨v, rfl, hv⟩, hb2⟩
  have HV := Lib.hid hv
  have HB2 := Lib.hid hb2
  obtain ⟨q0, q1, q2⟩ := HX.out _ hb2
  have hs2 := hb2.size
  clear hv hb2
  cases v with
  | false =>
    go_wp2_with fail
    refine (awake3 _).mono ?_
    rintro e w3 ⟨rfl, hb3⟩
    have HB3 := Lib.hid (HB2.out.trans (hb3.mono hs2))
    clear hb3
    go_wp2_with fail
    go_ret
    exact ⟨rfl, HEND.out _ HB3.out⟩
  | true =>
    have HFEW := Lib.hid (HV.out (by simp))
    clear HV
    go_wp2_with fail
    refine (rfit_any _ _ _ _ L HFEW.out.1 HR.out.texts _ (HM.out.below HB2.out)).mono ?_
    rintro e w3 ⟨⟨v, rfl, hv⟩, hb3⟩
    have HV := Lib.hid (hv.trans ref_iff)
    have HB3 := Lib.hid (HB2.out.trans (hb3.mono hs2))
    have hs3 := HB3.out.size
    clear hv hb3 q0 q1 q2
    cases v with
    | false =>
      go_wp2_with fail
      refine (awake3 _).mono ?_
      rintro e w4 ⟨rfl, hb4⟩
      have HB4 := Lib.hid (HB3.out.trans (hb4.mono hs3))
      clear hb4
      go_wp2_with fail
      go_ret
      exact ⟨rfl, HEND.out _ HB4.out⟩
    | true =>
      have HFIT := Lib.hid (HV.out.1 (by simp))
      have HSM := Lib.hid (fit_small HFIT.out)
      have hL : L.length ≤ 300 := HFEW.out.1
      obtain ⟨q0, q1, q2⟩ := HX.out _ HB3.out
      obtain ⟨pl, hpl⟩ : ∃ pl : Int → List UInt8, pl = placeL L := ⟨_, rfl⟩
      have H20 := Lib.hid (show ∀ (d : Int) (W : World), Below w1.heap.size w1 W → Calls Try.prog 20 #[.agg #[.slice a L.length cap, .int .i64 m, .int .i64 b], .int .i64 d] W fun e w' => e = .returned (.string ⟨(pl d).toArray⟩) ∧ Below W.heap.size W w' from fun d W hW => lplace_known a cap m b d L HFIT.out (pl d) (by rw [hpl]) W (HM.out.below hW))
      have HPL := Lib.hid hpl
      have HBB := Lib.hid HB3.out
      obtain ⟨X, hX⟩ : ∃ X, listGo L (L.length + 1) 0 [] = X := ⟨_, rfl⟩
      have H23 := Lib.hid (show ∀ W, Below w1.heap.size w1 W → _ from fun W hW => llist_known a cap m b L hL HR.out.texts (by have := HSM.out.2.1; omega) HFIT.out HFEW.out.2 X hX W (HM.out.below hW))
      have hXN : X.length = (kidsOf L).length := by rw [← hX]; exact list_count HFIT.out
      have HXD := Lib.hid (show ∀ s ∈ X, ∃ d, ∃ _ : d < L.length, dirB L (d : Int) = true ∧ dirL s = pl (d : Int) by rw [← hX, hpl]; exact list_root HFIT.out)
      have HXS := Lib.hid (show ∀ s ∈ X, s.length ≤ 1048576 from fun s hs => by
        rw [← hX] at hs
        have h := list_short (short_of HFIT.out.ins) (L.length + 1) 0 [] s hs
        simp only [List.length_nil] at h
        omega)
      have hX5 : X.length ≤ 5000 := by have := HFEW.out.2; omega
      clear HV hpl hX
      go_wp2_with fail
      go_region_held3 (fun W => W.cell? ⟨w.heap.size, 0, none⟩ = some (.slice a L.length cap) ∧ W.cell? ⟨w.heap.size, 1, none⟩ = some (.int .i64 m) ∧ W.cell? ⟨w.heap.size, 2, none⟩ = some (.int .i64 b))
        (exact ⟨q0, q1, q2⟩)
        (first | (go_at_call 20; refine (H20.out _ _ ?_).mono ?_; (exact ⟨HBB.out.os, HBB.out.tape, HBB.out.output, HBB.out.size, HBB.out.block⟩); rintro e wn ⟨rfl, hbn⟩; have HBB : Hid (Below w1.heap.size w1 wn) := Lib.hid (below_next HBB.out hbn HBB.out.size ⟨rfl, rfl, rfl, rfl⟩); obtain ⟨q0, q1, q2⟩ := HX.out _ HBB.out) | fail)
      all_goals
        have hno : pl n = pl c → pl c ≠ [] → n = c := fun h1 h2 => by
          have e := HPL.out
          have hd : ∀ z : Int, placeL L z ≠ [] → dirB L z = true := fun z hz => by
            cases hdz : dirB L z with
            | true => rfl
            | false => exact absurd (by unfold placeL; rw [hdz]; rfl) hz
          rw [e] at h1 h2
          exact place_inj HFIT.out (hd n (by rw [h1]; exact h2)) (hd c h2) h1
        have HNO := Lib.hid hno
        have gwn := HBB.out.size
        have gw := cell_lt q0
        simp only at gw
        clear hno
        go_wp2_with fail
      all_goals try (show bodyPost _ _ _ Exit.ret _ _; exfalso; have hx := HNO.out; clear HNO; rename_i h; obtain ⟨h1, h2⟩ := h; simp_all; done)
      all_goals
        have HLEN := Lib.hid (show ∀ d : Int, (⟨(pl d).toArray⟩ : ByteArray).size ≤ maxLen from fun d => by
          have h := place_len HFIT.out d
          rw [HPL.out]
          show (placeL L d).toArray.size ≤ maxLen
          unfold maxLen
          simp
          omega)
        have HSTART := Lib.hid (pl1_start L pl w1 wn HBB.out)
        go_loopw [9, 47] (fun nv iv wr => PL1 L pl wn.heap.size w1 nv iv wr) (fun _ iv _ => L.length - (intOf iv).toNat)
        case atStart => exact HSTART.out
        case round =>
          obtain ⟨k, hk, rfl, rfl, hbr, es, clock, hmap, hsk, hvs, hds⟩ := hrel
          have HBR := Lib.hid hbr
          have HMAP := Lib.hid hmap
          have HSK := Lib.hid hsk
          have hszr := hbr.size
          clear hbr hmap hsk
          by_cases hlt : k < L.length
          · obtain ⟨bb, o, rfl, hx⟩ := HM.out.2.2 k hlt
            have x0 := cell_below HBR.out hx.kind
            have x1 := cell_below HBR.out hx.mode
            have x2 := cell_below HBR.out hx.links
            have x3 := cell_below HBR.out hx.data
            obtain ⟨kv, x4', hks⟩ := hx.kids
            have x4 := cell_below HBR.out x4'
            have x5 := cell_below HBR.out hx.up
            obtain ⟨M, hMe⟩ : ∃ M, M = L[k].kids := ⟨_, rfl⟩
            rw [← hMe] at hks
            have HME := Lib.hid hMe
            obtain ⟨ka, kcap, rfl, hk1, hk2, hk3⟩ := hks
            unfold maxLen at hk2
            have hi0 : (0 : Int) ≤ (k : Int) := by omega
            obtain ⟨q0, q1, q2⟩ := HX.out _ HBR.out
            have gwr : w.heap.size < wr.heap.size := by have := cell_lt q0; exact this
            have HBA := Lib.hid (show ∀ o, Below w1.heap.size w1 (wr.alloc o) from fun o => HBR.out.alloc hszr o)
            have hml : M.length ≤ 1024 := by rw [hMe]; exact (HFIT.out.ins k hlt).2.1
            have hkt := kidsOf_take L k hlt
            rw [← hMe] at hkt
            have hcnt : (kidsOf (L.take k)).length ≤ 1048576 := by
              have h := kidsOf_len 1024 (L.take k) (fun i hi => by rw [List.getElem_take]; exact (HFIT.out.ins i (by have := List.length_take_le k L; omega)).2.1)
              have h2 : (L.take k).length ≤ 300 := by have := List.length_take_le k L; have := List.length_take_le' k L; omega
              omega
            have HKT := Lib.hid hkt
            clear hx x4' hMe hk3 hkt
            cases hkd : (L[k].kind == 2) with
            | false =>
              go_wp2_with fail
              go_roundw
              case rel => exact pl1_not hlt hkd (by rw [HKT.out, List.length_append]; go_num) (by go_num) (HBA.out _) ((Below.heap_alloc _ _ _ (Array.getElem?_eq_some_iff.1 HMAP.out).1).trans HMAP.out) HSK.out hvs.out hds.out
              case measure => simp [intOf] <;> omega
            | true =>
              go_wp2_with (first | (go_at_call 20; refine (H20.out _ _ ?_).mono ?_; (exact HBA.out _); rintro e wp ⟨rfl, hbp⟩) | fail)
              have HBP := Lib.hid ((HBA.out _).trans (hbp.mono (HBA.out _).size))
              have hmp2 : wp.heap[wn.heap.size]? = some (.map es clock) := (hbp.block _ (by have := (Array.getElem?_eq_some_iff.1 HMAP.out).1; simp; omega)).trans ((Below.heap_alloc _ _ _ (Array.getElem?_eq_some_iff.1 HMAP.out).1).trans HMAP.out)
              obtain ⟨es', clock', hrun, a1, a2, a3, a4⟩ := run_insert wp wn.heap.size es clock hmp2 HSK.out _ (HLEN.out (k : Int)) (.bool true)
              rw [hrun]
              go_wp2_with fail
              go_roundw
              case rel => exact pl1_yes hlt (by rw [HKT.out, List.length_append]; go_num) (by go_num) (below_set HBP.out _ gwn _) (Array.getElem?_setIfInBounds_self_of_lt (Array.getElem?_eq_some_iff.1 hmp2).1) a1 hvs.out a2 a3 a4 hds.out
              case measure => simp [intOf] <;> omega
          · obtain rfl : k = L.length := by omega
            rw [List.take_length, ← hXN]
            obtain ⟨q0, q1, q2⟩ := HX.out _ HBR.out
            have gwr : w.heap.size < wr.heap.size := by have := cell_lt q0; exact this
            go_wp2_with (first | (go_at_call 23; refine (H23.out _ HBR.out).mono ?_; rintro e wl ⟨v, rfl, hT, hbl⟩; obtain ⟨a2, c2, rfl, hc2, hm2⟩ := hT.slot3) | fail)
            have HBL := Lib.hid (HBR.out.trans (hbl.mono hszr))
            have hml : wl.heap[wn.heap.size]? = some (.map es clock) := (hbl.block _ (Array.getElem?_eq_some_iff.1 HMAP.out).1).trans HMAP.out
            have HML := Lib.hid hml
            have HT := Lib.hid (show ∀ j (hj : j < X.length), ∃ g, a2 = some ⟨g, 0, none⟩ ∧ wl.cell? ⟨g, j, none⟩ = some (.string ⟨X[j].toArray⟩) from fun j hj => by
              rcases hT.forms with ⟨e1, e2⟩ | ⟨g, cap', e1, -, -, -, -, hcell⟩
              · rw [e2] at hj
                exact absurd hj (Nat.not_lt_zero _)
              · cases e1
                exact ⟨g, rfl, hcell j hj⟩)
            unfold maxLen at hm2
            clear hT hbl q0 q1 q2
            go_loopw [69] (fun iv W => ∃ j : Nat, j ≤ X.length ∧ iv = .int .i64 j ∧ Below w1.heap.size w1 W ∧ W.heap[wn.heap.size]? = some (.map es clock) ∧ Below wl.heap.size wl W) (fun iv _ => X.length - (intOf iv).toNat)
            case atStart => exact ⟨0, by omega, rfl, HBL.out, HML.out, Below.refl _ _⟩
            case round =>
              obtain ⟨j, hj, rfl, hbr2, hm3, hbl2⟩ := hrel
              have HBR2 := Lib.hid hbr2
              have HM3 := Lib.hid hm3
              have HBL2 := Lib.hid hbl2
              have hsz2 := hbr2.size
              clear hbr2 hm3 hbl2
              by_cases hjl : j < X.length
              · obtain ⟨g, rfl, hcl⟩ := HT.out j hjl
                have y0 := cell_below HBL2.out hcl
                have gg : g < wr.heap.size := cell_lt y0
                have hin : X[j] ∈ X := List.getElem_mem hjl
                have hlen := HXS.out _ hin
                obtain ⟨d, hd1, hd2, hd3⟩ := HXD.out _ hin
                obtain ⟨x, hx1, hx2⟩ := hds.out d hd1 hd2
                have HX1 := Lib.hid hx1
                have HX2 := Lib.hid hx2
                have HD := Lib.hid (show ∀ W, Calls Try.prog 25 #[.string ⟨X[j].toArray⟩] W fun e w' => e = .returned (.string ⟨(pl (d : Int)).toArray⟩) ∧ Below W.heap.size W w' from fun W => by
                  have h := rdir_any ⟨X[j].toArray⟩ (by show X[j].toArray.size ≤ _; simp; omega) W
                  rw [show dirL (⟨X[j].toArray⟩ : ByteArray).data.toList = pl (d : Int) from hd3] at h
                  exact h)
                clear hcl hin hd3 hx1 hx2 hlen
                go_wp2_with (first | (go_at_call 25; refine (HD.out _).mono ?_; rintro e wd ⟨rfl, hbd⟩) | fail)
                have hmd : wd.heap[wn.heap.size]? = some (.map es clock) := (hbd.block _ (Array.getElem?_eq_some_iff.1 HM3.out).1).trans HM3.out
                rcases run_find wd wn.heap.size es clock hmd HSK.out _ (HLEN.out (d : Int)) with ⟨-, hnone⟩ | ⟨y, hy1, hy2, hrun⟩
                · exact absurd HX2.out (hnone x HX1.out)
                · rw [hvs.out y hy1] at hrun
                  rw [hrun]
                  have HBD := Lib.hid (HBR2.out.trans (hbd.mono hsz2))
                  have HBD2 := Lib.hid (HBL2.out.trans (hbd.mono HBL2.out.size))
                  have HMD := Lib.hid hmd
                  clear hmd hbd hrun
                  go_wp2_with fail
                  go_roundw
                  case rel => exact ⟨j + 1, by omega, by go_num, HBD.out, HMD.out, HBD2.out⟩
                  case measure => simp [intOf] <;> omega
              · obtain rfl : j = X.length := by omega
                go_wp2_with (first | (go_at_call 9; refine (awake3 _).mono ?_; rintro e wz ⟨rfl, hbz⟩) | fail)
                go_ret
                exact ⟨rfl, HEND.out _ (HBR2.out.trans (hbz.mono hsz2))⟩
end Go.Proofs.Ytdpfnnhlneapbaa
