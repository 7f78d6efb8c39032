/-
  Renamed, and renamed back, in plain words.
  The law DropBack, walked.
-/
import Derived.Test.YtmaiphibpdngnaaGreatQ9
import Derived.Test.YtmaiphibpdngnaaGreatK8
import Derived.Test.YtmaiphibpdngnaaGreatQ11
import Derived.Test.YtmaiphibpdngnaaGreatQ12
import Derived.Deep.Cut
namespace Go.Proofs.YtmaiphibpdngnaaGreat
set_option maxRecDepth 100000
open Go Go.RowKit

theorem parts_under (a b : List UInt8) (hb : wholeL b = false) : partsL (joinP a b) = partsL a ++ partsL b := by
  unfold joinP
  by_cases h : a = []
  · rw [if_pos (.inl h), h]
    rfl
  · rw [if_neg (by rintro (e | e); exact h e; rw [hb] at e; cases e)]
    by_cases h2 : b = []
    · rw [if_pos h2, h2]
      show _ = _ ++ []
      rw [List.append_nil]
    · rw [if_neg h2]
      by_cases h3 : a.getLast? = some 47
      · rw [if_pos h3]
        obtain ⟨c, rfl⟩ : ∃ c, a = c ++ [47] := by
          have e := List.dropLast_concat_getLast h
          have e2 : a.getLast h = 47 := by
            have h4 := List.getLast?_eq_some_getLast h
            rw [h3] at h4
            exact (Option.some.inj h4).symm
          rw [e2] at e
          exact ⟨a.dropLast, e.symm⟩
        rw [List.append_assoc, List.singleton_append, parts_slash, show c ++ [47] = c ++ 47 :: [] from rfl, parts_slash]
        show _ = partsL c ++ [] ++ _
        rw [List.append_nil]
      · rw [if_neg h3, parts_slash]
theorem name_whole {s : List UInt8} (hs : nameOkL s = true) : wholeL s = false := by
  obtain ⟨h1, -, -, -, h5⟩ := name_parts hs
  cases s with
  | nil => rfl
  | cons c r =>
    have := h5 c List.mem_cons_self
    unfold wholeL
    simpa using this
theorem name_end {s : List UInt8} (hs : nameOkL s = true) (X : List UInt8) : endL (X ++ s) = false := by
  obtain ⟨h1, -, -, -, h5⟩ := name_parts hs
  unfold endL
  rw [List.getLast?_append]
  cases e : s.getLast? with
  | none => rw [List.getLast?_eq_none_iff] at e; exact absurd e h1
  | some c =>
    have hm : c ∈ s := List.mem_of_getLast? e
    have := h5 c hm
    show (some c == some 47) = false
    simpa using this
theorem join_end {P s : List UInt8} (hs : nameOkL s = true) (hP : P ≠ []) : endL (joinP P s) = false := by
  unfold joinP
  rw [if_neg (by rintro (e | e); exact hP e; rw [name_whole hs] at e; cases e), if_neg (name_parts hs).1]
  split
  · exact name_end hs P
  · rw [show P ++ 47 :: s = (P ++ [47]) ++ s by simp]
    exact name_end hs _
theorem back_par {L : List Ino} {m b : Int} (hF : FitP L m b) (h7 : ∀ j (h : j < L.length), L[j].kind = 2 → L[j].mode = 7) {c : Int} (hd : dirB L c = true) {s : List UInt8} (hs : nameOkL s = true) (hlen : (joinP (placeL L c) s).length ≤ 400) :
    parentW L 0 (joinP (placeL L c) s) = (c, s, 0) ∧ endL (joinP (placeL L c) s) = false := by
  have ho : ∀ j (h : j < L.length), L[j].kind = 2 → L[j].mode % 2 ≠ 0 := fun j h hk => by rw [h7 j h hk]; decide
  obtain ⟨z, rfl, hz⟩ := dir_lt hd
  obtain ⟨j, hj⟩ := rk_of L.length ((leads_iff L _ _).1 (hF.leads z hz hd))
  have hlt := rk_lt hF.leads hd hj
  obtain ⟨A, h2, h1, h3⟩ := rplaces hF ho j _ hd hj
  have h4 := h3 (L.length + 1) [] (by omega)
  have h4' : placeGo L (L.length + 1) (z : Int) [] = sl A := by
    have e : sl (A ++ ([] : List (List UInt8)).reverse) = sl A := by simp
    rw [e] at h4
    exact h4
  have hp : placeL L (z : Int) = 47 :: joinL A := by
    unfold placeL
    rw [if_pos hd, h4']
    by_cases hA : A = []
    · subst hA
      rfl
    · rw [sl_join A hA, if_neg (by simp)]
  have hPn : placeL L (z : Int) ≠ [] := by rw [hp]; simp
  have hnm : ∀ x ∈ A, NameL x := fun x hx => ⟨(name_parts (h2 x hx)).1, (name_parts (h2 x hx)).2.2.2.2⟩
  have hpt : partsL (placeL L (z : Int)) = A := by rw [hp]; exact parts_root A hnm
  have hsn : partsL s = [s] := by
    have := parts_join [s] (fun x hx => by rw [List.mem_singleton.1 hx]; exact ⟨(name_parts hs).1, (name_parts hs).2.2.2.2⟩)
    exact this
  have hparts : partsL (joinP (placeL L (z : Int)) s) = A ++ [s] := by rw [parts_under _ _ (name_whole hs), hpt, hsn]
  have hne : joinP (placeL L (z : Int)) s ≠ [] := fun e => by
    rw [e] at hparts
    have : ([] : List (List UInt8)) = A ++ [s] := hparts
    simp at this
  have hb : badW L 0 (joinP (placeL L (z : Int)) s) = 0 := no_bad hne hF.root (no_long (by omega) (fun y hy => by
    rw [hparts] at hy
    rcases List.mem_append.1 hy with h | h
    · exact (name_parts (h2 y h)).2.2.2.1
    · rw [List.mem_singleton.1 h]; exact (name_parts hs).2.2.2.1))
  have hbg : beginW 0 (joinP (placeL L (z : Int)) s) = 0 := by unfold beginW; split <;> rfl
  have hw : wayW L true 8 A 0 = ((z : Int), 0) := by
    have h := h1 true 8 []
    rw [List.append_nil, wayW_nil] at h
    exact h
  refine ⟨?_, join_end hs hPn⟩
  unfold parentW
  rw [hb, if_neg (by simp), hparts, if_neg (by simp), hbg, List.dropLast_concat, hw, if_neg (by simp), hd, if_neg (by simp)]
  simp
theorem may7 {L : List Ino} (h7 : ∀ j (h : j < L.length), L[j].kind = 2 → L[j].mode = 7) {c : Int} (hd : dirB L c = true) : mayL L c 3 = true := by
  obtain ⟨z, rfl, hz⟩ := dir_lt hd
  refine may_of (by decide) (by decide) (dir_live6 hd) ?_
  rw [node_nat L z hz, h7 z hz ((dir_nat hz).1 hd)]
  decide
theorem upN_add6 (L : List Ino) (c : Int) : ∀ i j : Nat, upN L (i + j) c = upN L i (upN L j c)
  | 0, j => by rw [Nat.zero_add]; rfl
  | i + 1, j => by rw [show i + 1 + j = (i + j) + 1 by omega, up_next, up_next, upN_add6 L c i j]
section
variable {L : List Ino} {m b : Int} {d k to : Nat} {s last : List UInt8}
/-- The elder directory does not lie in what is moved. -/
theorem Moves.outD (h : Moves L m b d k to s last) (hk : (L[k]'h.klt).kind = 2) : ∀ i, upN L i (d : Int) ≠ (k : Int) := fun i hi => by
  have hdd : dirB L (d : Int) = true := (dir_nat h.dlt).2 h.dir
  obtain ⟨j, hj, -⟩ := rank_of h.fit hdd
  have hup : upN L (i + 1) (d : Int) = (d : Int) := by
    rw [up_next, hi, node_nat L k h.klt]
    exact h.upk hk
  have hk0 := h.k0
  by_cases hij : i + 1 ≤ j
  · have h1 := upN_add6 L (d : Int) (j - (i + 1)) (i + 1)
    rw [show j - (i + 1) + (i + 1) = j by omega, hup, hj.1] at h1
    exact hj.2 (j - (i + 1)) (by omega) h1.symm
  · have h1 := upN_add6 L (d : Int) (i - j) j
    rw [show i - j + j = i by omega, hj.1, up_zero h.fit.rootUp, hi] at h1
    omega
theorem Moves.sevens (h : Moves L m b d k to s last) (h7 : ∀ j (h : j < L.length), L[j].kind = 2 → L[j].mode = 7) : ∀ j (hj : j < (moveL L d k to s last).length), (moveL L d k to s last)[j].kind = 2 → (moveL L d k to s last)[j].mode = 7 := fun j hj hk => by
  have hj' := hj
  rw [move_len] at hj'
  rw [h.get j hj'] at hk ⊢
  exact h7 j hj' hk
theorem Moves.dirOf (h : Moves L m b d k to s last) {c : Int} : dirB (moveL L d k to s last) c = dirB L c := by
  by_cases ht : thereB L c = true
  · obtain ⟨j, rfl, hj⟩ := there_nat ht
    have hj' : j < (moveL L d k to s last).length := by rw [move_len]; exact hj
    unfold dirB
    rw [there_of _ j hj', there_of L j hj, h.node j hj, node_nat L j hj]
  · have h1 : thereB (moveL L d k to s last) c = thereB L c := by unfold thereB; rw [move_len]
    unfold dirB
    rw [h1]
    simp [ht]
theorem Moves.roomD (h : Moves L m b d k to s last) : (nodeAt (moveL L d k to s last) (d : Int)).kids.length < 1024 := by
  rw [h.node d h.dlt]
  show (kidsM (L[d]'h.dlt).kids d k to d s last).length < 1024
  have h1 := without_len (kids_rise h.fit.ins d h.dlt).2 h.mem
  have h2 := (h.fit.ins d h.dlt).2.1
  unfold kidsM
  rw [if_pos rfl]
  by_cases e : to = d
  · subst e
    rw [if_pos rfl, named_len (k : Int) (fun x hx => h.new x (without_mem.1 hx).1)]
    have := h.room
    omega
  · rw [if_neg e]
    omega
end
/-- Renamed, and renamed back. -/
theorem back_ok {L : List Ino} {m b : Int} (hF : FitP L m b) (h7 : ∀ j (h : j < L.length), L[j].kind = 2 → L[j].mode = 7) {x y : Int} (hx : dirB L x = true) (hy : dirB L y = true) {s last : List UInt8} (hs : nameOkL s = true) (hl : nameOkL last = true) (hno : kidL L y last < 0)
    (h1 : (joinP (placeL L x) s).length ≤ 400) (h2 : (joinP (placeL L y) last).length ≤ 400) {Lu : List Ino} (hz : renameW L 0 (joinP (placeL L x) s) (joinP (placeL L y) last) = (Lu, 0)) :
    dirB Lu x = true ∧ dirB Lu y = true ∧ FitP Lu m b ∧ Lu.length = L.length ∧ ((joinP (placeL Lu x) s).length ≤ 400 → (joinP (placeL Lu y) last).length ≤ 400 → renameW Lu 0 (joinP (placeL Lu y) last) (joinP (placeL Lu x) s) = (L, 0)) := by
  obtain ⟨d, k, s', to, last', hn, hp, htl, htd, hok, hc⟩ := (rename_ok hF hz).1 rfl
  obtain ⟨p1, p2⟩ := back_par hF h7 hx hs h1
  obtain ⟨p3, p4⟩ := back_par hF h7 hy hl h2
  have e1 := hn.par
  rw [p1] at e1
  simp only [Prod.mk.injEq, and_true] at e1
  obtain ⟨rfl, rfl⟩ := e1
  rw [p3] at hp
  simp only [Prod.mk.injEq, and_true] at hp
  obtain ⟨rfl, rfl⟩ := hp
  rcases hc with ⟨h3, -⟩ | ⟨tn, -, h3, -⟩ | ⟨-, hM, rfl⟩
  · omega
  · omega
  have hsl : ¬ (d = to ∧ s = last) := fun ⟨e1, e2⟩ => by
    have h2 := hn.kid
    rw [e1, e2] at h2
    omega
  refine ⟨by rw [hM.dirOf]; exact hx, by rw [hM.dirOf]; exact hy, hM.fits, by rw [move_len], fun g1 g2 => ?_⟩
  have hx' : dirB (moveL L d k to s last) (d : Int) = true := by rw [hM.dirOf]; exact hx
  have hy' : dirB (moveL L d k to s last) (to : Int) = true := by rw [hM.dirOf]; exact hy
  have h7' := hM.sevens h7
  obtain ⟨r1, r2⟩ := back_par hM.fits h7' hx' hs g1
  obtain ⟨r3, r4⟩ := back_par hM.fits h7' hy' hl g2
  have hnam : namedW (moveL L d k to s last) 0 (joinP (placeL (moveL L d k to s last) (to : Int)) last) = ((to : Int), last, (k : Int), 0) := by
    unfold namedW
    rw [r3]
    simp only
    rw [if_neg (by simp), if_neg (by rintro (e | e); exact (ok_dots hl).1 e; exact (ok_dots hl).2 e), hM.kidTo, if_neg (by omega), may7 h7' hy', if_neg (by decide)]
  have hkd := hM.kidD hsl
  have hroom := hM.roomD
  have hwi : ¬ (dirB (moveL L d k to s last) (k : Int) = true ∧ withinB (moveL L d k to s last) (moveL L d k to s last).length (d : Int) (k : Int) = true) := fun ⟨e1, e2⟩ => by
    rw [hM.dirOf] at e1
    have hk2 := (dir_nat hM.klt).1 e1
    obtain ⟨j, hj, hjl⟩ := rank_of hM.fits hx'
    obtain ⟨t, -, ht⟩ := (within_iff j _ _ hj hjl).1 e2
    have hout := hM.outD hk2
    rw [hM.away t _ hx hout] at ht
    exact hout t ht
  unfold renameW
  rw [hnam, r1]
  simp only
  rw [if_neg (by simp), if_neg (by simp), if_neg (by rw [hs]; decide), if_neg (by rw [may7 h7' hx']; decide), if_neg (by rw [r2, r4]; rintro ⟨-, e | e⟩ <;> cases e), if_neg hwi]
  unfold placeW
  rw [if_neg (by omega), if_neg (by omega), if_neg (by omega)]
  simp only [Int.toNat_natCast]
  rw [hM.back]
end Go.Proofs.YtmaiphibpdngnaaGreat

namespace Go.Proofs.YtmaiphibpdngnaaGreat
set_option maxRecDepth 100000
open Go Go.RowKit

theorem rjoin6 (A B : List UInt8) (hA : A.length ≤ 1000000) (hB : B.length ≤ 1000000) (w : World) :
    Calls Tryz.prog 25 #[.string ⟨A.toArray⟩, .string ⟨B.toArray⟩] w fun e w' => e = .returned (.string ⟨(joinP A B).toArray⟩) ∧ Below w.heap.size w w' :=
  (rjoin_any ⟨A.toArray⟩ ⟨B.toArray⟩ (by rw [str_len]; omega) (by rw [str_len]; omega) w).mono fun _ _ h => ⟨h.1, h.2 ▸ Below.refl _ _⟩
theorem rname6b (l : List UInt8) (hl : l.length ≤ 1073741824) (v : Bool) (hv : nameOkL l = v) (w : World) :
    Calls Tryz.prog 24 #[.string ⟨l.toArray⟩] w fun e w' => e = .returned (.bool v) ∧ Below w.heap.size w w' :=
  (rname6 l hl v hv w).mono fun _ _ h => ⟨h.1, h.2 ▸ Below.refl _ _⟩
theorem place_any6 {L : List Ino} {m b : Int} (hF : FitP L m b) (hL : L.length ≤ 300) (c : Int) : (placeL L c).length ≤ 20000 := by
  by_cases h : dirB L c = true
  · obtain ⟨j, rfl, hj⟩ := dir_lt h
    exact place_len6 hF hL hj h
  · rw [place_none (by simpa using h)]
    exact Nat.zero_le _
def BkRel (L : List Ino) (w2 : World) (iv : Value) (wr : World) : Prop :=
  ∃ i : Nat, i ≤ L.length ∧ iv = .int .i64 i ∧ Hid (∀ j (h : j < L.length), j < i → L[j].kind = 2 → L[j].mode = 7) ∧ Below w2.heap.size w2 wr

set_option maxHeartbeats 16000000 in
theorem dback_walk (a : Option Addr) (cap : Nat) (m b x y : Int) (pb tb : ByteArray) (hpb : pb.size ≤ 281474976710656) (htb : tb.size ≤ 281474976710656) (L : List Ino) (hS : Sized L) (w : World) (hN : NodesIn w a cap L) :
    Calls Tryz.prog 6 #[.agg #[.slice a L.length cap, .int .i64 m, .int .i64 b], .int .i64 x, .string pb, .int .i64 y, .string tb] w fun e w' => e = .returned (.bool true) ∧ Below w.heap.size w w' := by
  obtain ⟨s, rfl⟩ : ∃ l : List UInt8, pb = ⟨l.toArray⟩ := ⟨pb.data.toList, rfl⟩
  obtain ⟨last, rfl⟩ : ∃ l : List UInt8, tb = ⟨l.toArray⟩ := ⟨tb.data.toList, rfl⟩
  obtain ⟨w1, hw1⟩ : ∃ w1, w1 = w.alloc (.cells #[.slice a L.length cap, .int .i64 m, .int .i64 b] 24) := ⟨_, rfl⟩
  have hb1 : Below w.heap.size w w1 := by rw [hw1]; exact below_box w _
  have hX : w1.heap[w.heap.size]? = some (.cells #[.slice a L.length cap, .int .i64 m, .int .i64 b] 24 (0, 0)) := by rw [hw1]; exact new_block w _
  have hs1 : w1.heap.size = w.heap.size + 1 := by rw [hw1]; simp
  have HX := Lib.hid (show ∀ W, Below w1.heap.size w1 W → W.cell? ⟨w.heap.size, 0, none⟩ = some (.slice a L.length cap) ∧ W.cell? ⟨w.heap.size, 1, none⟩ = some (.int .i64 m) ∧ W.cell? ⟨w.heap.size, 2, none⟩ = some (.int .i64 b) from fun W hW => by
    have h := (hW.block w.heap.size (by omega)).trans hX
    exact ⟨blk_cell h 0, blk_cell h 1, blk_cell h 2⟩)
  have HEND := Lib.hid (show ∀ W', Below w1.heap.size w1 W' → Below w.heap.size w W' from fun W' h => hb1.trans (h.mono (by omega)))
  have HM := Lib.hid (show ∀ W', Below w1.heap.size w1 W' → NodesIn W' a cap L from fun W' h => hN.below (hb1.trans (h.mono (by omega))))
  have HS := Lib.hid hS
  have HPB := Lib.hid hpb
  have HTB := Lib.hid htb
  clear hN hb1 hX hS hpb htb
  go_enter Tryz.func6, Tryz.ntmps6
  go_upto_region 1 with fail
  rw [← hw1]
  clear hw1
  go_cut [53] from 19 (fun c wx => ∃ v : Bool, c = .bool v ∧ (v = false → L.length ≤ 300 ∧ FitP L m b ∧ s.length ≤ 3000 ∧ last.length ≤ 3000 ∧ dirB L x = true ∧ dirB L y = true ∧ nameOkL s = true ∧ nameOkL last = true ∧ kidL L y last < 0) ∧ Below w1.heap.size w1 wx)
  case first =>
    obtain ⟨w2, hw2⟩ : ∃ w2, w2 = w1.alloc (.cells #[.string ⟨s.toArray⟩, .string ⟨last.toArray⟩] 9) := ⟨_, rfl⟩
    have hb2 : Below w1.heap.size w1 w2 := by rw [hw2]; exact below_box w1 _
    have hT2 : w2.heap[w.heap.size + 1]? = some (.cells #[.string ⟨s.toArray⟩, .string ⟨last.toArray⟩] 9 (0, 0)) := by rw [hw2, ← hs1]; exact new_block w1 _
    have hgood := good6_any a cap m b L HS.out [⟨s.toArray⟩, ⟨last.toArray⟩] (fun z hz => by
        simp only [List.mem_cons, List.not_mem_nil, or_false] at hz
        rcases hz with rfl | rfl
        · exact HPB.out
        · exact HTB.out) (by simp) (w.heap.size + 1) 2 w2 (HM.out w2 hb2) (fun i hi => by
        match i, hi with
        | 0, _ => exact blk_cell hT2 0
        | 1, _ => exact blk_cell hT2 1)
    have HGOOD := Lib.hid hgood
    have HBC := Lib.hid hb2
    obtain ⟨q0, q1, q2⟩ := HX.out _ (Below.refl _ _)
    have hq := cell_lt q0
    clear hb2 hT2 hgood
    go_wp2_with fail
    rw [← hw2]
    clear hw2 q0 q1 q2 hq
    refine HGOOD.out.mono ?_
    rintro e w3 ⟨⟨v, rfl, hv⟩, hb⟩
    have HV := Lib.hid hv
    have HBC := Lib.hid (HBC.out.trans (hb.mono HBC.out.size))
    obtain ⟨q0, q1, q2⟩ := HX.out _ HBC.out
    have hq := cell_lt q0
    clear hv hb HGOOD
    cases v with
    | false =>
      go_wp2_with fail
      go_meet
      exact ⟨true, by rfl, (fun h => by cases h), HBC.out⟩
    | true =>
      obtain ⟨hl, hF, hsz⟩ := HV.out rfl
      have HF := Lib.hid hF
      have hsl : s.length ≤ 3000 := by have := hsz ⟨s.toArray⟩ (by simp); rw [str_len] at this; exact this
      have hll : last.length ≤ 3000 := by have := hsz ⟨last.toArray⟩ (by simp); rw [str_len] at this; exact this
      obtain ⟨P, hP⟩ : ∃ P, placeL L x = P := ⟨_, rfl⟩
      obtain ⟨Q, hQ⟩ : ∃ P, placeL L y = P := ⟨_, rfl⟩
      obtain ⟨n1, hn1⟩ : ∃ v, nameOkL s = v := ⟨_, rfl⟩
      obtain ⟨n2, hn2⟩ : ∃ v, nameOkL last = v := ⟨_, rfl⟩
      obtain ⟨kv, hkv⟩ : ∃ v, kidL L y last = v := ⟨_, rfl⟩
      have HPX := Lib.hid hP
      have HPY := Lib.hid hQ
      have HNS := Lib.hid hn1
      have HNL := Lib.hid hn2
      have HKY := Lib.hid hkv
      clear hF hsz HV hn1 hn2 hkv
      cases hx : dirB L x with
      | false =>
        obtain rfl : P = [] := by rw [← hP]; exact place_none hx
        clear hP hQ
        go_wp2_with (first   | (go_at_call 20; first | (with_reducible (show Calls _ _ #[_, .int .i64 x] _ _); refine (rplace6_known _ _ _ _ x L hl HF.out _ HPX.out _ (HM.out _ HBC.out)).mono ?_; rintro e wz ⟨rfl, hb⟩; have HBC := Lib.hid (HBC.out.trans (hb.mono HBC.out.size)); clear hb; obtain ⟨q0, q1, q2⟩ := HX.out _ HBC.out; have hq := cell_lt q0) | (with_reducible (show Calls _ _ #[_, .int .i64 y] _ _); refine (rplace6_known _ _ _ _ y L hl HF.out _ HPY.out _ (HM.out _ HBC.out)).mono ?_; rintro e wz ⟨rfl, hb⟩; have HBC := Lib.hid (HBC.out.trans (hb.mono HBC.out.size)); clear hb; obtain ⟨q0, q1, q2⟩ := HX.out _ HBC.out; have hq := cell_lt q0))   | (go_at_call 24; first | (with_reducible (show Calls _ _ #[.string ⟨s.toArray⟩] _ _); refine (rname6b s (by omega) _ HNS.out _).mono ?_; rintro e wz ⟨rfl, hb⟩; have HBC := Lib.hid (HBC.out.trans (hb.mono HBC.out.size)); clear hb; obtain ⟨q0, q1, q2⟩ := HX.out _ HBC.out; have hq := cell_lt q0) | (with_reducible (show Calls _ _ #[.string ⟨last.toArray⟩] _ _); refine (rname6b last (by omega) _ HNL.out _).mono ?_; rintro e wz ⟨rfl, hb⟩; have HBC := Lib.hid (HBC.out.trans (hb.mono HBC.out.size)); clear hb; obtain ⟨q0, q1, q2⟩ := HX.out _ HBC.out; have hq := cell_lt q0))   | (go_at_call 19; refine (rkid_known _ _ _ _ y last L _ HKY.out _ (HM.out _ HBC.out)).mono ?_; rintro e wz ⟨rfl, hb⟩; have HBC := Lib.hid (HBC.out.trans (hb.mono HBC.out.size)); clear hb; obtain ⟨q0, q1, q2⟩ := HX.out _ HBC.out; have hq := cell_lt q0)   | fail)
        go_meet
        exact ⟨true, by rfl, (fun h => by cases h), HBC.out⟩
      | true =>
      have hPe : P ≠ [] := by rw [← hP]; exact place_some hx
      have hP1 : P.isEmpty = false := by cases P with | nil => exact absurd rfl hPe | cons _ _ => rfl
      have hP2 : (P == []) = false := by simpa using hPe
      cases hy : dirB L y with
      | false =>
        obtain rfl : Q = [] := by rw [← hQ]; exact place_none hy
        clear hP hQ hPe
        go_wp2_with (first   | (go_at_call 20; first | (with_reducible (show Calls _ _ #[_, .int .i64 x] _ _); refine (rplace6_known _ _ _ _ x L hl HF.out _ HPX.out _ (HM.out _ HBC.out)).mono ?_; rintro e wz ⟨rfl, hb⟩; have HBC := Lib.hid (HBC.out.trans (hb.mono HBC.out.size)); clear hb; obtain ⟨q0, q1, q2⟩ := HX.out _ HBC.out; have hq := cell_lt q0) | (with_reducible (show Calls _ _ #[_, .int .i64 y] _ _); refine (rplace6_known _ _ _ _ y L hl HF.out _ HPY.out _ (HM.out _ HBC.out)).mono ?_; rintro e wz ⟨rfl, hb⟩; have HBC := Lib.hid (HBC.out.trans (hb.mono HBC.out.size)); clear hb; obtain ⟨q0, q1, q2⟩ := HX.out _ HBC.out; have hq := cell_lt q0))   | (go_at_call 24; first | (with_reducible (show Calls _ _ #[.string ⟨s.toArray⟩] _ _); refine (rname6b s (by omega) _ HNS.out _).mono ?_; rintro e wz ⟨rfl, hb⟩; have HBC := Lib.hid (HBC.out.trans (hb.mono HBC.out.size)); clear hb; obtain ⟨q0, q1, q2⟩ := HX.out _ HBC.out; have hq := cell_lt q0) | (with_reducible (show Calls _ _ #[.string ⟨last.toArray⟩] _ _); refine (rname6b last (by omega) _ HNL.out _).mono ?_; rintro e wz ⟨rfl, hb⟩; have HBC := Lib.hid (HBC.out.trans (hb.mono HBC.out.size)); clear hb; obtain ⟨q0, q1, q2⟩ := HX.out _ HBC.out; have hq := cell_lt q0))   | (go_at_call 19; refine (rkid_known _ _ _ _ y last L _ HKY.out _ (HM.out _ HBC.out)).mono ?_; rintro e wz ⟨rfl, hb⟩; have HBC := Lib.hid (HBC.out.trans (hb.mono HBC.out.size)); clear hb; obtain ⟨q0, q1, q2⟩ := HX.out _ HBC.out; have hq := cell_lt q0)   | fail)
        go_meet
        exact ⟨true, by rfl, (fun h => by cases h), HBC.out⟩

      | true =>
      have hQe : Q ≠ [] := by rw [← hQ]; exact place_some hy
      have hQ1 : Q.isEmpty = false := by cases Q with | nil => exact absurd rfl hQe | cons _ _ => rfl
      have hQ2 : (Q == []) = false := by simpa using hQe
      have HDX := Lib.hid hx
      have HDY := Lib.hid hy
      clear hP hQ hPe hQe hx hy
      cases n1 with
      | false =>
        go_wp2_with (first   | (go_at_call 20; first | (with_reducible (show Calls _ _ #[_, .int .i64 x] _ _); refine (rplace6_known _ _ _ _ x L hl HF.out _ HPX.out _ (HM.out _ HBC.out)).mono ?_; rintro e wz ⟨rfl, hb⟩; have HBC := Lib.hid (HBC.out.trans (hb.mono HBC.out.size)); clear hb; obtain ⟨q0, q1, q2⟩ := HX.out _ HBC.out; have hq := cell_lt q0) | (with_reducible (show Calls _ _ #[_, .int .i64 y] _ _); refine (rplace6_known _ _ _ _ y L hl HF.out _ HPY.out _ (HM.out _ HBC.out)).mono ?_; rintro e wz ⟨rfl, hb⟩; have HBC := Lib.hid (HBC.out.trans (hb.mono HBC.out.size)); clear hb; obtain ⟨q0, q1, q2⟩ := HX.out _ HBC.out; have hq := cell_lt q0))   | (go_at_call 24; first | (with_reducible (show Calls _ _ #[.string ⟨s.toArray⟩] _ _); refine (rname6b s (by omega) _ HNS.out _).mono ?_; rintro e wz ⟨rfl, hb⟩; have HBC := Lib.hid (HBC.out.trans (hb.mono HBC.out.size)); clear hb; obtain ⟨q0, q1, q2⟩ := HX.out _ HBC.out; have hq := cell_lt q0) | (with_reducible (show Calls _ _ #[.string ⟨last.toArray⟩] _ _); refine (rname6b last (by omega) _ HNL.out _).mono ?_; rintro e wz ⟨rfl, hb⟩; have HBC := Lib.hid (HBC.out.trans (hb.mono HBC.out.size)); clear hb; obtain ⟨q0, q1, q2⟩ := HX.out _ HBC.out; have hq := cell_lt q0))   | (go_at_call 19; refine (rkid_known _ _ _ _ y last L _ HKY.out _ (HM.out _ HBC.out)).mono ?_; rintro e wz ⟨rfl, hb⟩; have HBC := Lib.hid (HBC.out.trans (hb.mono HBC.out.size)); clear hb; obtain ⟨q0, q1, q2⟩ := HX.out _ HBC.out; have hq := cell_lt q0)   | fail)
        go_meet
        exact ⟨true, by rfl, (fun h => by cases h), HBC.out⟩

      | true =>
      cases n2 with
      | false =>
        go_wp2_with (first   | (go_at_call 20; first | (with_reducible (show Calls _ _ #[_, .int .i64 x] _ _); refine (rplace6_known _ _ _ _ x L hl HF.out _ HPX.out _ (HM.out _ HBC.out)).mono ?_; rintro e wz ⟨rfl, hb⟩; have HBC := Lib.hid (HBC.out.trans (hb.mono HBC.out.size)); clear hb; obtain ⟨q0, q1, q2⟩ := HX.out _ HBC.out; have hq := cell_lt q0) | (with_reducible (show Calls _ _ #[_, .int .i64 y] _ _); refine (rplace6_known _ _ _ _ y L hl HF.out _ HPY.out _ (HM.out _ HBC.out)).mono ?_; rintro e wz ⟨rfl, hb⟩; have HBC := Lib.hid (HBC.out.trans (hb.mono HBC.out.size)); clear hb; obtain ⟨q0, q1, q2⟩ := HX.out _ HBC.out; have hq := cell_lt q0))   | (go_at_call 24; first | (with_reducible (show Calls _ _ #[.string ⟨s.toArray⟩] _ _); refine (rname6b s (by omega) _ HNS.out _).mono ?_; rintro e wz ⟨rfl, hb⟩; have HBC := Lib.hid (HBC.out.trans (hb.mono HBC.out.size)); clear hb; obtain ⟨q0, q1, q2⟩ := HX.out _ HBC.out; have hq := cell_lt q0) | (with_reducible (show Calls _ _ #[.string ⟨last.toArray⟩] _ _); refine (rname6b last (by omega) _ HNL.out _).mono ?_; rintro e wz ⟨rfl, hb⟩; have HBC := Lib.hid (HBC.out.trans (hb.mono HBC.out.size)); clear hb; obtain ⟨q0, q1, q2⟩ := HX.out _ HBC.out; have hq := cell_lt q0))   | (go_at_call 19; refine (rkid_known _ _ _ _ y last L _ HKY.out _ (HM.out _ HBC.out)).mono ?_; rintro e wz ⟨rfl, hb⟩; have HBC := Lib.hid (HBC.out.trans (hb.mono HBC.out.size)); clear hb; obtain ⟨q0, q1, q2⟩ := HX.out _ HBC.out; have hq := cell_lt q0)   | fail)
        go_meet
        exact ⟨true, by rfl, (fun h => by cases h), HBC.out⟩

      | true =>
      by_cases hk : 0 ≤ kv
      · go_wp2_with (first   | (go_at_call 20; first | (with_reducible (show Calls _ _ #[_, .int .i64 x] _ _); refine (rplace6_known _ _ _ _ x L hl HF.out _ HPX.out _ (HM.out _ HBC.out)).mono ?_; rintro e wz ⟨rfl, hb⟩; have HBC := Lib.hid (HBC.out.trans (hb.mono HBC.out.size)); clear hb; obtain ⟨q0, q1, q2⟩ := HX.out _ HBC.out; have hq := cell_lt q0) | (with_reducible (show Calls _ _ #[_, .int .i64 y] _ _); refine (rplace6_known _ _ _ _ y L hl HF.out _ HPY.out _ (HM.out _ HBC.out)).mono ?_; rintro e wz ⟨rfl, hb⟩; have HBC := Lib.hid (HBC.out.trans (hb.mono HBC.out.size)); clear hb; obtain ⟨q0, q1, q2⟩ := HX.out _ HBC.out; have hq := cell_lt q0))   | (go_at_call 24; first | (with_reducible (show Calls _ _ #[.string ⟨s.toArray⟩] _ _); refine (rname6b s (by omega) _ HNS.out _).mono ?_; rintro e wz ⟨rfl, hb⟩; have HBC := Lib.hid (HBC.out.trans (hb.mono HBC.out.size)); clear hb; obtain ⟨q0, q1, q2⟩ := HX.out _ HBC.out; have hq := cell_lt q0) | (with_reducible (show Calls _ _ #[.string ⟨last.toArray⟩] _ _); refine (rname6b last (by omega) _ HNL.out _).mono ?_; rintro e wz ⟨rfl, hb⟩; have HBC := Lib.hid (HBC.out.trans (hb.mono HBC.out.size)); clear hb; obtain ⟨q0, q1, q2⟩ := HX.out _ HBC.out; have hq := cell_lt q0))   | (go_at_call 19; refine (rkid_known _ _ _ _ y last L _ HKY.out _ (HM.out _ HBC.out)).mono ?_; rintro e wz ⟨rfl, hb⟩; have HBC := Lib.hid (HBC.out.trans (hb.mono HBC.out.size)); clear hb; obtain ⟨q0, q1, q2⟩ := HX.out _ HBC.out; have hq := cell_lt q0)   | fail)
        go_meet
        exact ⟨true, by rfl, (fun h => by cases h), HBC.out⟩

      have hgo : kidL L y last < 0 := by rw [HKY.out]; omega
      have HGO := Lib.hid hgo
      clear hgo
      go_wp2_with (first   | (go_at_call 20; first | (with_reducible (show Calls _ _ #[_, .int .i64 x] _ _); refine (rplace6_known _ _ _ _ x L hl HF.out _ HPX.out _ (HM.out _ HBC.out)).mono ?_; rintro e wz ⟨rfl, hb⟩; have HBC := Lib.hid (HBC.out.trans (hb.mono HBC.out.size)); clear hb; obtain ⟨q0, q1, q2⟩ := HX.out _ HBC.out; have hq := cell_lt q0) | (with_reducible (show Calls _ _ #[_, .int .i64 y] _ _); refine (rplace6_known _ _ _ _ y L hl HF.out _ HPY.out _ (HM.out _ HBC.out)).mono ?_; rintro e wz ⟨rfl, hb⟩; have HBC := Lib.hid (HBC.out.trans (hb.mono HBC.out.size)); clear hb; obtain ⟨q0, q1, q2⟩ := HX.out _ HBC.out; have hq := cell_lt q0))   | (go_at_call 24; first | (with_reducible (show Calls _ _ #[.string ⟨s.toArray⟩] _ _); refine (rname6b s (by omega) _ HNS.out _).mono ?_; rintro e wz ⟨rfl, hb⟩; have HBC := Lib.hid (HBC.out.trans (hb.mono HBC.out.size)); clear hb; obtain ⟨q0, q1, q2⟩ := HX.out _ HBC.out; have hq := cell_lt q0) | (with_reducible (show Calls _ _ #[.string ⟨last.toArray⟩] _ _); refine (rname6b last (by omega) _ HNL.out _).mono ?_; rintro e wz ⟨rfl, hb⟩; have HBC := Lib.hid (HBC.out.trans (hb.mono HBC.out.size)); clear hb; obtain ⟨q0, q1, q2⟩ := HX.out _ HBC.out; have hq := cell_lt q0))   | (go_at_call 19; refine (rkid_known _ _ _ _ y last L _ HKY.out _ (HM.out _ HBC.out)).mono ?_; rintro e wz ⟨rfl, hb⟩; have HBC := Lib.hid (HBC.out.trans (hb.mono HBC.out.size)); clear hb; obtain ⟨q0, q1, q2⟩ := HX.out _ HBC.out; have hq := cell_lt q0)   | fail)
      go_meet
      exact ⟨false, congrArg Value.bool (decide_eq_false (by omega)), (fun _ => ⟨hl, HF.out, hsl, hll, HDX.out, HDY.out, HNS.out, HNL.out, HGO.out⟩), HBC.out⟩

  case rest =>
  obtain ⟨v, rfl, hv, hbc⟩ := hcut
  obtain ⟨w2, hw2⟩ : ∃ X, X = wc := ⟨_, rfl⟩
  rw [← hw2] at hbc ⊢
  have HB2 := Lib.hid hbc
  have HBZ := HB2
  have HV := Lib.hid hv
  clear hw2 hbc hv
  cases v with
  | true =>
    go_wp2_with (first | (go_at_call 9; refine (awake6 _).mono ?_; rintro e wz ⟨rfl, hb⟩; have HBZ := Lib.hid (HBZ.out.trans (hb.mono HBZ.out.size)); clear hb) | fail)
    go_ret
    exact ⟨rfl, HEND.out _ HBZ.out⟩
  | false =>
  obtain ⟨hl, hF, hsl, hll, hdx, hdy, hns, hnl, hky⟩ := HV.out rfl
  have HF := Lib.hid hF
  have HDX := Lib.hid hdx
  have HDY := Lib.hid hdy
  have HNS := Lib.hid hns
  have HNL := Lib.hid hnl
  have HKY := Lib.hid hky
  clear hF hdx hdy hns hnl hky HV HBZ
  obtain ⟨q0, q1, q2⟩ := HX.out _ HB2.out
  have hq := cell_lt q0
  go_wp2_with fail
  clear q0 q1 q2 hq
  go_loopw [12, 58] (fun _ iv wr => BkRel L w2 iv wr) (fun _ iv _ => L.length - (intOf iv).toNat)
  case atStart => exact ⟨0, Nat.zero_le _, rfl, Lib.hid fun j h hj => absurd hj (Nat.not_lt_zero _), Below.refl _ _⟩
  case round =>
    obtain ⟨i, hi, rfl, hI, hbr⟩ := hrel
    have HI := Lib.hid hI.out
    have HBR := Lib.hid (HB2.out.trans (hbr.mono HB2.out.size))
    have HBR2 := Lib.hid hbr
    have hszr := hbr.size
    clear hI hbr
    by_cases hlt : i < L.length
    case pos =>
      obtain ⟨bb, o, hae, hx⟩ := (HM.out _ HBR.out).2.2 i hlt
      subst hae
      have x0 := hx.kind
      have x1 := hx.mode
      have x2 := hx.links
      have x3 := hx.data
      obtain ⟨kv, x4, hks⟩ := hx.kids
      obtain ⟨ka, kcap, rfl, -, -, -⟩ := hks
      have x5 := hx.up
      obtain ⟨qm, hqm⟩ : ∃ qm, L[i].mode = qm := ⟨_, rfl⟩
      rw [hqm] at x1
      have HQM := Lib.hid hqm
      have hi0 : (0 : Int) ≤ (i : Int) := by omega
      have HBA := Lib.hid (show ∀ ob, Below w2.heap.size w2 (wr.alloc ob) from fun ob => HBR2.out.alloc hszr ob)
      have HBA1 := Lib.hid (show ∀ ob, Below w1.heap.size w1 (wr.alloc ob) from fun ob => HBR.out.alloc HBR.out.size ob)
      clear hx hqm
      cases hk2 : (L[i].kind == 2) with
      | false =>
        have HNX := Lib.hid (show ∀ j (h : j < L.length), j < i + 1 → L[j].kind = 2 → L[j].mode = 7 from fun j h hj hk => by
          by_cases e : j = i
          · subst e
            rw [hk] at hk2
            exact absurd hk2 (by decide)
          · exact HI.out j h (by omega) hk)
        go_wp2_with fail
        go_roundw
        case rel => exact ⟨i + 1, by omega, by go_num, HNX, HBA.out _⟩
        case measure => simp [intOf] <;> omega
      | true =>
        by_cases hr : qm = 7
        · have HNX := Lib.hid (show ∀ j (h : j < L.length), j < i + 1 → L[j].kind = 2 → L[j].mode = 7 from fun j h hj hk => by
            by_cases e : j = i
            · subst e
              rw [HQM.out]
              exact hr
            · exact HI.out j h (by omega) hk)
          subst hr
          go_wp2_with fail
          go_roundw
          case rel => exact ⟨i + 1, by omega, by go_num, HNX, HBA.out _⟩
          case measure => simp [intOf] <;> omega
        · have hrb : (qm != 7) = true := by simpa using hr
          go_wp2_with fail
          refine (awake6 _).mono ?_
          rintro e w9 ⟨rfl, hb9⟩
          have HB9 := Lib.hid ((HBA1.out _).trans (hb9.mono (HBA1.out _).size))
          go_wp2_with fail
          go_ret
          exact ⟨rfl, HEND.out _ HB9.out⟩
    case neg =>
      obtain rfl : i = L.length := by omega
      have H7 := Lib.hid (show ∀ j (h : j < L.length), L[j].kind = 2 → L[j].mode = 7 from fun j h hk => HI.out j h h hk)
      clear HI
      obtain ⟨P, hP⟩ : ∃ P, placeL L x = P := ⟨_, rfl⟩
      obtain ⟨Q, hQ⟩ : ∃ P, placeL L y = P := ⟨_, rfl⟩
      have hPl : P.length ≤ 20000 := by rw [← hP]; exact place_any6 HF.out hl x
      have hQl : Q.length ≤ 20000 := by rw [← hQ]; exact place_any6 HF.out hl y
      obtain ⟨p, hp⟩ : ∃ p, joinP P s = p := ⟨_, rfl⟩
      obtain ⟨q, hq'⟩ : ∃ p, joinP Q last = p := ⟨_, rfl⟩
      have HP := Lib.hid hP
      have HQ := Lib.hid hQ
      have HJP := Lib.hid hp
      have HJQ := Lib.hid hq'
      have g1 : ∀ W, Below wr.heap.size wr W → Calls Tryz.prog 20 #[.agg #[.slice a L.length cap, .int .i64 m, .int .i64 b], .int .i64 x] W fun e w' => e = .returned (.string ⟨P.toArray⟩) ∧ Below W.heap.size W w' := fun W hW => rplace6_known _ _ _ _ x L hl HF.out P hP W (HM.out _ (HBR.out.trans (hW.mono HBR.out.size)))
      have g2 : ∀ W, Below wr.heap.size wr W → Calls Tryz.prog 20 #[.agg #[.slice a L.length cap, .int .i64 m, .int .i64 b], .int .i64 y] W fun e w' => e = .returned (.string ⟨Q.toArray⟩) ∧ Below W.heap.size W w' := fun W hW => rplace6_known _ _ _ _ y L hl HF.out Q hQ W (HM.out _ (HBR.out.trans (hW.mono HBR.out.size)))
      have g3 : ∀ W, Below wr.heap.size wr W → Calls Tryz.prog 25 #[.string ⟨P.toArray⟩, .string ⟨s.toArray⟩] W fun e w' => e = .returned (.string ⟨p.toArray⟩) ∧ Below W.heap.size W w' := fun W _ => by rw [← hp]; exact rjoin6 P s (by omega) (by omega) W
      have g4 : ∀ W, Below wr.heap.size wr W → Calls Tryz.prog 25 #[.string ⟨Q.toArray⟩, .string ⟨last.toArray⟩] W fun e w' => e = .returned (.string ⟨q.toArray⟩) ∧ Below W.heap.size W w' := fun W _ => by rw [← hq']; exact rjoin6 Q last (by omega) (by omega) W
      obtain ⟨q0, q1, q2⟩ := HX.out _ HBR.out
      have f0 := grown_cell q0
      have f1 := grown_cell q1
      have f2 := grown_cell q2
      have G1 := Lib.hid (grown_call (wb := wr) g1)
      have G2 := Lib.hid (grown_call (wb := wr) g2)
      have G3 := Lib.hid (grown_call (wb := wr) g3)
      have G4 := Lib.hid (grown_call (wb := wr) g4)
      clear q0 q1 q2 g1 g2 g3 g4 hP hQ hp hq'
      go_upto_region 9 with fail
      go_cut [13, 14] from 72 (fun c c' wx => c = .string ⟨p.toArray⟩ ∧ c' = .string ⟨q.toArray⟩ ∧ Below wr.heap.size wr wx)
      case first =>
        refine wp_region_grown (by kernel_rfl) (by kernel_rfl) ?_
        repeat (first | go_big_quiet_skip | (go_big_quiet_want; go_big_quiet_op; (first | go_big_quiet_on | (with_reducible (refine ⟨_, G1.out, ?_⟩); go_big_quiet_on) | (with_reducible (refine ⟨_, G2.out, ?_⟩); go_big_quiet_on) | (with_reducible (refine ⟨_, G3.out, ?_⟩); go_big_quiet_on) | (with_reducible (refine ⟨_, G4.out, ?_⟩); go_big_quiet_on))))
        refine wpQuiet_nil ?_
        intro w11 hw11
        have hbg : Below wr.heap.size wr w11 := by obtain ⟨x, rfl⟩ := hw11; exact x.below
        go_wp2_with fail
        go_meet
        exact ⟨rfl, rfl, hbg⟩
      case rest =>
      obtain ⟨rfl, rfl, hbc⟩ := hcut
      obtain ⟨w3, hw3⟩ : ∃ X, X = wc := ⟨_, rfl⟩
      rw [← hw3] at hbc ⊢
      have HB3 := Lib.hid (HBR.out.trans (hbc.mono HBR.out.size))
      have HBZ := HB3
      clear hbc hw3 f0 f1 f2 G1 G2 G3 G4
      have hps := str_len p
      have hqs := str_len q
      obtain ⟨q0, q1, q2⟩ := HX.out _ HB3.out
      have hq := cell_lt q0
      by_cases hp4 : p.length ≤ 400
      case neg =>
        have hpi : (400 : Int) < (p.length : Int) := by omega
        go_wp2_with (first | (go_at_call 9; refine (awake6 _).mono ?_; rintro e wz ⟨rfl, hb⟩; have HBZ := Lib.hid (HBZ.out.trans (hb.mono HBZ.out.size)); clear hb) | fail)
        go_ret
        exact ⟨rfl, HEND.out _ HBZ.out⟩
      have hpi : ¬ (400 : Int) < (p.length : Int) := by omega
      by_cases hq4 : q.length ≤ 400
      case neg =>
        have hqi : (400 : Int) < (q.length : Int) := by omega
        go_wp2_with (first | (go_at_call 9; refine (awake6 _).mono ?_; rintro e wz ⟨rfl, hb⟩; have HBZ := Lib.hid (HBZ.out.trans (hb.mono HBZ.out.size)); clear hb) | fail)
        go_ret
        exact ⟨rfl, HEND.out _ HBZ.out⟩
      have hqi : ¬ (400 : Int) < (q.length : Int) := by omega
      obtain ⟨⟨Lu, er⟩, hz⟩ : ∃ r, renameW L 0 p q = r := ⟨_, rfl⟩
      have HZ := Lib.hid hz
      have HPS := Lib.hid hps
      have HQS := Lib.hid hqs
      clear hz
      go_wp2_with fail
      clear q0 q1 q2 hq hps hqs hpi hqi
      refine (lrename_any _ _ _ _ 0 ⟨p.toArray⟩ ⟨q.toArray⟩ (by rw [HPS.out]; omega) (by rw [HQS.out]; omega) L HF.out Lu er HZ.out _ (HM.out _ HB3.out)).mono ?_
      rintro e w4 ⟨⟨g', c', he, hN4⟩, hb⟩
      have he' : e = .returned (.tuple #[.agg #[.slice g' Lu.length c', .int .i64 m, .int .i64 b], .int .i64 er]) := he
      subst he'
      have HB4 := Lib.hid (HB3.out.trans (hb.mono HB3.out.size))
      have HN4 := Lib.hid hN4
      clear he hN4 hb HBZ
      obtain ⟨w5, hw5⟩ : ∃ p, p = w4.alloc (.cells #[.slice g' Lu.length c', .int .i64 m, .int .i64 b] 24) := ⟨_, rfl⟩
      have hb5 : Below w4.heap.size w4 w5 := by rw [hw5]; exact below_box w4 _
      have hU : w5.heap[w4.heap.size]? = some (.cells #[.slice g' Lu.length c', .int .i64 m, .int .i64 b] 24 (0, 0)) := by rw [hw5]; exact new_block w4 _
      have HB5 := Lib.hid (HB4.out.trans (hb5.mono HB4.out.size))
      have HN5 := Lib.hid (HN4.out.below hb5)
      have HU := Lib.hid (show ∀ W, Below w5.heap.size w5 W → (W.cell? ⟨w4.heap.size, 0, none⟩ = some (.slice g' Lu.length c') ∧ W.cell? ⟨w4.heap.size, 1, none⟩ = some (.int .i64 m) ∧ W.cell? ⟨w4.heap.size, 2, none⟩ = some (.int .i64 b)) ∧ NodesIn W g' c' Lu from fun W hW => by
        have h := (hW.block w4.heap.size (lt_of_block hU)).trans hU
        exact ⟨⟨blk_cell h 0, blk_cell h 1, blk_cell h 2⟩, HN5.out.below hW⟩)
      have HCC := Lib.hid (Below.refl w5.heap.size w5)
      have HBZ := HB5
      clear hb5 hU HN4
      go_upto_region 13 with fail
      rw [← hw5]
      clear hw5
      obtain ⟨u0, u1, u2⟩ := (HU.out _ HCC.out).1
      have hu := cell_lt u0
      by_cases h1 : er = 0
      case neg =>
        have hLL := (rename_ok HF.out HZ.out).2 h1
        subst hLL
        have hb1 : (er != 0) = true := by simpa using h1
        obtain ⟨q0, q1, q2⟩ := HX.out _ HB5.out
        have hq := cell_lt q0
        go_wp2_with (first | (go_at_call 16; refine (rsame6 _ _ _ _ m b Lu (by omega) _ (HM.out _ HB5.out) HN5.out).mono ?_; rintro e w6 ⟨rfl, hb⟩; have HBZ := Lib.hid (HBZ.out.trans (hb.mono HBZ.out.size)); clear hb) | (go_at_call 9; refine (awake6 _).mono ?_; rintro e wz ⟨rfl, hb⟩; have HBZ := Lib.hid (HBZ.out.trans (hb.mono HBZ.out.size)); clear hb) | fail)
        go_ret
        exact ⟨rfl, HEND.out _ HBZ.out⟩
      subst h1
      obtain ⟨hdu, hdv, hfu, hlu, hbk⟩ := back_ok HF.out H7.out HDX.out HDY.out HNS.out HNL.out HKY.out (by rw [HP.out, HJP.out]; exact hp4) (by rw [HQ.out, HJQ.out]; exact hq4) (by rw [HP.out, HJP.out, HQ.out, HJQ.out]; exact HZ.out)
      have HFU := Lib.hid hfu
      have HL3 := Lib.hid (show Lu.length ≤ 300 by rw [hlu]; exact hl)
      obtain ⟨Pu, hPu⟩ : ∃ P, placeL Lu x = P := ⟨_, rfl⟩
      obtain ⟨Qu, hQu⟩ : ∃ P, placeL Lu y = P := ⟨_, rfl⟩
      have hPne : Pu ≠ [] := by rw [← hPu]; exact place_some hdu
      have hP1 : Pu.isEmpty = false := by cases Pu with | nil => exact absurd rfl hPne | cons _ _ => rfl
      have hP2 : (Pu == []) = false := by simpa using hPne
      have hPl2 : Pu.length ≤ 20000 := by rw [← hPu]; exact place_any6 hfu HL3.out x
      have hQl2 : Qu.length ≤ 20000 := by rw [← hQu]; exact place_any6 hfu HL3.out y
      obtain ⟨p2, hp2⟩ : ∃ p, joinP Pu s = p := ⟨_, rfl⟩
      obtain ⟨r2, hr2⟩ : ∃ p, joinP Qu last = p := ⟨_, rfl⟩
      have HPU := Lib.hid hPu
      have HQU := Lib.hid hQu
      have HJ1 := Lib.hid (show ∀ W, Calls Tryz.prog 25 #[.string ⟨Pu.toArray⟩, .string ⟨s.toArray⟩] W fun e w' => e = .returned (.string ⟨p2.toArray⟩) ∧ Below W.heap.size W w' from fun W => by rw [← hp2]; exact rjoin6 Pu s (by omega) (by omega) W)
      have HJ2 := Lib.hid (show ∀ W, Calls Tryz.prog 25 #[.string ⟨Qu.toArray⟩, .string ⟨last.toArray⟩] W fun e w' => e = .returned (.string ⟨r2.toArray⟩) ∧ Below W.heap.size W w' from fun W => by rw [← hr2]; exact rjoin6 Qu last (by omega) (by omega) W)
      rw [hPu, hQu, hp2, hr2] at hbk
      have HBK := Lib.hid hbk
      have hps := str_len p2
      have hrs := str_len r2
      clear hdu hdv hfu hlu hbk hPu hQu hPne hp2 hr2 HP HQ HJP HJQ HPS HQS HZ
      by_cases hp5 : p2.length ≤ 400
      case neg =>
        have hpi : (400 : Int) < (p2.length : Int) := by omega
        go_wp2_with (first | (go_at_call 20; first | (with_reducible (show Calls _ _ #[_, .int .i64 x] _ _); refine (rplace6_known _ _ _ _ x Lu HL3.out HFU.out _ HPU.out _ (HU.out _ HCC.out).2).mono ?_; rintro e wz ⟨rfl, hb⟩; have HCC := Lib.hid (HCC.out.trans (hb.mono HCC.out.size)); have HBZ := Lib.hid (HBZ.out.trans (hb.mono HBZ.out.size)); clear hb; obtain ⟨u0, u1, u2⟩ := (HU.out _ HCC.out).1; have hu := cell_lt u0) | (with_reducible (show Calls _ _ #[_, .int .i64 y] _ _); refine (rplace6_known _ _ _ _ y Lu HL3.out HFU.out _ HQU.out _ (HU.out _ HCC.out).2).mono ?_; rintro e wz ⟨rfl, hb⟩; have HCC := Lib.hid (HCC.out.trans (hb.mono HCC.out.size)); have HBZ := Lib.hid (HBZ.out.trans (hb.mono HBZ.out.size)); clear hb; obtain ⟨u0, u1, u2⟩ := (HU.out _ HCC.out).1; have hu := cell_lt u0)) | (go_at_call 18; refine (rfit_yes6 _ _ m b Lu HL3.out HFU.out _ (HU.out _ HCC.out).2).mono ?_; rintro e wz ⟨rfl, hb⟩; have HCC := Lib.hid (HCC.out.trans (hb.mono HCC.out.size)); have HBZ := Lib.hid (HBZ.out.trans (hb.mono HBZ.out.size)); clear hb; obtain ⟨u0, u1, u2⟩ := (HU.out _ HCC.out).1; have hu := cell_lt u0) | (go_at_call 25; first | (with_reducible (show Calls _ _ #[.string ⟨Qu.toArray⟩, .string ⟨last.toArray⟩] _ _); refine (HJ2.out _).mono ?_; rintro e wz ⟨rfl, hb⟩; have HCC := Lib.hid (HCC.out.trans (hb.mono HCC.out.size)); have HBZ := Lib.hid (HBZ.out.trans (hb.mono HBZ.out.size)); clear hb; obtain ⟨u0, u1, u2⟩ := (HU.out _ HCC.out).1; have hu := cell_lt u0) | (with_reducible (show Calls _ _ #[.string ⟨Pu.toArray⟩, .string ⟨s.toArray⟩] _ _); refine (HJ1.out _).mono ?_; rintro e wz ⟨rfl, hb⟩; have HCC := Lib.hid (HCC.out.trans (hb.mono HCC.out.size)); have HBZ := Lib.hid (HBZ.out.trans (hb.mono HBZ.out.size)); clear hb; obtain ⟨u0, u1, u2⟩ := (HU.out _ HCC.out).1; have hu := cell_lt u0)) | (go_at_call 9; refine (awake6 _).mono ?_; rintro e wz ⟨rfl, hb⟩; have HBZ := Lib.hid (HBZ.out.trans (hb.mono HBZ.out.size)); clear hb) | fail)
        go_ret
        exact ⟨rfl, HEND.out _ HBZ.out⟩
      have hpi : ¬ (400 : Int) < (p2.length : Int) := by omega
      by_cases hr5 : r2.length ≤ 400
      case neg =>
        have hqi : (400 : Int) < (r2.length : Int) := by omega
        go_wp2_with (first | (go_at_call 20; first | (with_reducible (show Calls _ _ #[_, .int .i64 x] _ _); refine (rplace6_known _ _ _ _ x Lu HL3.out HFU.out _ HPU.out _ (HU.out _ HCC.out).2).mono ?_; rintro e wz ⟨rfl, hb⟩; have HCC := Lib.hid (HCC.out.trans (hb.mono HCC.out.size)); have HBZ := Lib.hid (HBZ.out.trans (hb.mono HBZ.out.size)); clear hb; obtain ⟨u0, u1, u2⟩ := (HU.out _ HCC.out).1; have hu := cell_lt u0) | (with_reducible (show Calls _ _ #[_, .int .i64 y] _ _); refine (rplace6_known _ _ _ _ y Lu HL3.out HFU.out _ HQU.out _ (HU.out _ HCC.out).2).mono ?_; rintro e wz ⟨rfl, hb⟩; have HCC := Lib.hid (HCC.out.trans (hb.mono HCC.out.size)); have HBZ := Lib.hid (HBZ.out.trans (hb.mono HBZ.out.size)); clear hb; obtain ⟨u0, u1, u2⟩ := (HU.out _ HCC.out).1; have hu := cell_lt u0)) | (go_at_call 18; refine (rfit_yes6 _ _ m b Lu HL3.out HFU.out _ (HU.out _ HCC.out).2).mono ?_; rintro e wz ⟨rfl, hb⟩; have HCC := Lib.hid (HCC.out.trans (hb.mono HCC.out.size)); have HBZ := Lib.hid (HBZ.out.trans (hb.mono HBZ.out.size)); clear hb; obtain ⟨u0, u1, u2⟩ := (HU.out _ HCC.out).1; have hu := cell_lt u0) | (go_at_call 25; first | (with_reducible (show Calls _ _ #[.string ⟨Qu.toArray⟩, .string ⟨last.toArray⟩] _ _); refine (HJ2.out _).mono ?_; rintro e wz ⟨rfl, hb⟩; have HCC := Lib.hid (HCC.out.trans (hb.mono HCC.out.size)); have HBZ := Lib.hid (HBZ.out.trans (hb.mono HBZ.out.size)); clear hb; obtain ⟨u0, u1, u2⟩ := (HU.out _ HCC.out).1; have hu := cell_lt u0) | (with_reducible (show Calls _ _ #[.string ⟨Pu.toArray⟩, .string ⟨s.toArray⟩] _ _); refine (HJ1.out _).mono ?_; rintro e wz ⟨rfl, hb⟩; have HCC := Lib.hid (HCC.out.trans (hb.mono HCC.out.size)); have HBZ := Lib.hid (HBZ.out.trans (hb.mono HBZ.out.size)); clear hb; obtain ⟨u0, u1, u2⟩ := (HU.out _ HCC.out).1; have hu := cell_lt u0)) | (go_at_call 9; refine (awake6 _).mono ?_; rintro e wz ⟨rfl, hb⟩; have HBZ := Lib.hid (HBZ.out.trans (hb.mono HBZ.out.size)); clear hb) | fail)
        go_ret
        exact ⟨rfl, HEND.out _ HBZ.out⟩
      have hqi : ¬ (400 : Int) < (r2.length : Int) := by omega
      have HPS := Lib.hid hps
      have HRS := Lib.hid hrs
      go_wp2_with (first | (go_at_call 20; first | (with_reducible (show Calls _ _ #[_, .int .i64 x] _ _); refine (rplace6_known _ _ _ _ x Lu HL3.out HFU.out _ HPU.out _ (HU.out _ HCC.out).2).mono ?_; rintro e wz ⟨rfl, hb⟩; have HCC := Lib.hid (HCC.out.trans (hb.mono HCC.out.size)); have HBZ := Lib.hid (HBZ.out.trans (hb.mono HBZ.out.size)); clear hb; obtain ⟨u0, u1, u2⟩ := (HU.out _ HCC.out).1; have hu := cell_lt u0) | (with_reducible (show Calls _ _ #[_, .int .i64 y] _ _); refine (rplace6_known _ _ _ _ y Lu HL3.out HFU.out _ HQU.out _ (HU.out _ HCC.out).2).mono ?_; rintro e wz ⟨rfl, hb⟩; have HCC := Lib.hid (HCC.out.trans (hb.mono HCC.out.size)); have HBZ := Lib.hid (HBZ.out.trans (hb.mono HBZ.out.size)); clear hb; obtain ⟨u0, u1, u2⟩ := (HU.out _ HCC.out).1; have hu := cell_lt u0)) | (go_at_call 18; refine (rfit_yes6 _ _ m b Lu HL3.out HFU.out _ (HU.out _ HCC.out).2).mono ?_; rintro e wz ⟨rfl, hb⟩; have HCC := Lib.hid (HCC.out.trans (hb.mono HCC.out.size)); have HBZ := Lib.hid (HBZ.out.trans (hb.mono HBZ.out.size)); clear hb; obtain ⟨u0, u1, u2⟩ := (HU.out _ HCC.out).1; have hu := cell_lt u0) | (go_at_call 25; first | (with_reducible (show Calls _ _ #[.string ⟨Qu.toArray⟩, .string ⟨last.toArray⟩] _ _); refine (HJ2.out _).mono ?_; rintro e wz ⟨rfl, hb⟩; have HCC := Lib.hid (HCC.out.trans (hb.mono HCC.out.size)); have HBZ := Lib.hid (HBZ.out.trans (hb.mono HBZ.out.size)); clear hb; obtain ⟨u0, u1, u2⟩ := (HU.out _ HCC.out).1; have hu := cell_lt u0) | (with_reducible (show Calls _ _ #[.string ⟨Pu.toArray⟩, .string ⟨s.toArray⟩] _ _); refine (HJ1.out _).mono ?_; rintro e wz ⟨rfl, hb⟩; have HCC := Lib.hid (HCC.out.trans (hb.mono HCC.out.size)); have HBZ := Lib.hid (HBZ.out.trans (hb.mono HBZ.out.size)); clear hb; obtain ⟨u0, u1, u2⟩ := (HU.out _ HCC.out).1; have hu := cell_lt u0)) | fail)
      clear u0 u1 u2 hu hps hrs
      refine (lrename_any _ _ _ _ 0 ⟨r2.toArray⟩ ⟨p2.toArray⟩ (by rw [HRS.out]; omega) (by rw [HPS.out]; omega) Lu HFU.out L 0 (HBK.out hp5 hr5) _ (HU.out _ HCC.out).2).mono ?_
      rintro e w6 ⟨⟨gv, cv, he, hN6⟩, hb⟩
      have he' : e = .returned (.tuple #[.agg #[.slice gv L.length cv, .int .i64 m, .int .i64 b], .int .i64 0]) := he
      subst he'
      have HB6 := Lib.hid (HBZ.out.trans (hb.mono HBZ.out.size))
      have HN6 := Lib.hid hN6
      clear he hN6 hb HBZ
      obtain ⟨w7, hw7⟩ : ∃ p, p = w6.alloc (.cells #[.slice gv L.length cv, .int .i64 m, .int .i64 b] 24) := ⟨_, rfl⟩
      have hb7 : Below w6.heap.size w6 w7 := by rw [hw7]; exact below_box w6 _
      have hV : w7.heap[w6.heap.size]? = some (.cells #[.slice gv L.length cv, .int .i64 m, .int .i64 b] 24 (0, 0)) := by rw [hw7]; exact new_block w6 _
      have HB7 := Lib.hid (HB6.out.trans (hb7.mono HB6.out.size))
      have HN7 := Lib.hid (HN6.out.below hb7)
      have HBZ := HB7
      have v0 := blk_cell hV 0
      have v1 := blk_cell hV 1
      have v2 := blk_cell hV 2
      have hvl := lt_of_block hV
      obtain ⟨q0, q1, q2⟩ := HX.out _ HB7.out
      have hq := cell_lt q0
      clear hb7 hV
      go_upto_region 22 with fail
      rw [← hw7]
      clear hw7
      go_wp2_with (first | (go_at_call 16; refine (rsame6 _ _ _ _ m b L (by omega) _ (HM.out _ HB7.out) HN7.out).mono ?_; rintro e w8 ⟨rfl, hb⟩; have HBZ := Lib.hid (HBZ.out.trans (hb.mono HBZ.out.size)); clear hb) | (go_at_call 9; refine (awake6 _).mono ?_; rintro e wz ⟨rfl, hb⟩; have HBZ := Lib.hid (HBZ.out.trans (hb.mono HBZ.out.size)); clear hb) | fail)
      go_ret
      exact ⟨rfl, HEND.out _ HBZ.out⟩





end Go.Proofs.YtmaiphibpdngnaaGreat
