/-
  The paths of a tree but one, as the law of chapter 5 takes them.
  The paths behind a name went, in plain words: all but its own.
  The law DropGoes, walked.
-/
import Derived.Test.YtmaiphibpdngnaaGreatK11
import Derived.Test.YtmaiphibpdngnaaGreatK10
import Derived.Test.YtmaiphibpdngnaaGreatK8
import Derived.Test.YtmaiphibpdngnaaGreatQ9
namespace Go.Proofs.YtmaiphibpdngnaaGreat
set_option maxRecDepth 100000
open Go Go.RowKit

def butL (X : List (List UInt8)) (q : List UInt8) : List (List UInt8) := X.filter (fun p => p != q)
theorem but_take (X : List (List UInt8)) (q : List UInt8) (k : Nat) (h : k < X.length) : butL (X.take (k + 1)) q = butL (X.take k) q ++ (if X[k] = q then [] else [X[k]]) := by
  unfold butL
  rw [List.take_succ_eq_append_getElem h, List.filter_append]
  congr 1
  by_cases e : X[k] = q
  · rw [if_pos e, List.filter_cons, if_neg (by simpa using e)]
    rfl
  · rw [if_neg e, List.filter_cons, if_pos (by simpa using e)]
    rfl
theorem but_len (X : List (List UInt8)) (q : List UInt8) (k : Nat) : (butL (X.take k) q).length ≤ X.length := by
  unfold butL
  have h1 := List.length_filter_le (fun p => p != q) (X.take k)
  rw [List.length_take] at h1
  omega

def PRel (X : List (List UInt8)) (q : List UInt8) (w2 : World) (v i : Value) (wr : World) : Prop :=
  ∃ k : Nat, k ≤ X.length ∧ i = .int .i64 k ∧ Texts w2.heap.size wr v (butL (X.take k) q) ∧ Below w2.heap.size w2 wr

end Go.Proofs.YtmaiphibpdngnaaGreat

namespace Go.Proofs.YtmaiphibpdngnaaGreat
set_option maxRecDepth 100000
open Go Go.RowKit

theorem flat_but {α : Type} (s : List UInt8) (g : List UInt8 × Int → List α) : ∀ K : List (List UInt8 × Int), (withoutL K s).flatMap g = K.flatMap fun e => if e.1 = s then [] else g e
  | [] => rfl
  | e :: r => by
    have ih := flat_but s g r
    unfold withoutL at ih ⊢
    rw [List.filter_cons, List.flatMap_cons]
    by_cases h : e.1 = s
    · rw [if_neg (by simpa using h), if_pos h, ih, List.nil_append]
    · rw [if_pos (by simpa using h), if_neg h, List.flatMap_cons, ih]
theorem listGo_none {L : List Ino} {c : Int} (h : (nodeAt L c).kids = []) : ∀ (n : Nat) (p : List UInt8), listGo L n c p = []
  | 0, _ => rfl
  | n + 1, p => by rw [list_succ, h]; rfl
section
variable {L : List Ino} {m b : Int} {d k : Nat} {s : List UInt8}
theorem Takes.dirD (h : Takes L m b d k s) : dirB L (d : Int) = true := (dir_nat h.dlt).2 h.dir
theorem Takes.name (h : Takes L m b d k s) : nameOkL s = true := (name_of h.fit.ins h.dlt h.mem).1
/-- A second name of what goes is no directory's. -/
theorem Takes.second (h : Takes L m b d k s) {j : Nat} (hj : j < L.length) {e : List UInt8 × Int} (he : e ∈ L[j].kids) (hek : e.2 = (k : Int)) (hne : ¬ (j = d ∧ e.1 = s)) : (L[k]'h.klt).kind ≠ 2 := fun h2 => by
  have hdk : dirB L (k : Int) = true := (dir_nat h.klt).2 h2
  have u1 := h.fit.names.1 j hj e he (by rw [hek]; exact hdk)
  have u2 := h.fit.names.1 d h.dlt _ h.mem hdk
  rw [hek] at u1
  have hjd : j = d := by
    have : (j : Int) = (d : Int) := u1.symm.trans u2
    omega
  subst hjd
  have hes : e.1 ≠ s := fun e1 => hne ⟨rfl, e1⟩
  have h3 := two_names (M := kidsOf L) (c := (k : Int)) (mem_kidsOf.2 ⟨j, hj, he⟩) (mem_kidsOf.2 ⟨j, hj, h.mem⟩) (fun e1 => hes (by rw [e1])) hek rfl
  obtain ⟨g1, g2, g3, g4⟩ := h.count
  have := g4 h2
  omega
theorem Takes.listed (h : Takes L m b d k s) : ∀ (n : Nat) (c : Int), dirB L c = true → c ≠ (k : Int) → listGo (goneL L d k s) n c (atL L c) = (listGo L n c (atL L c)).filter (fun p => p != atL L (d : Int) ++ 47 :: s)
  | 0, _, _, _ => rfl
  | n + 1, c, hc, hck => by
    obtain ⟨j, rfl, hj⟩ := dir_lt hc
    have hjk : j ≠ k := fun e => hck (by rw [e])
    have one : ∀ e ∈ L[j].kids, (listOne L n (atL L (j : Int)) e).filter (fun p => p != atL L (d : Int) ++ 47 :: s) = if d = j ∧ e.1 = s then [] else listOne (goneL L d k s) n (atL L (j : Int)) e := fun e he => by
      have hok := (name_of h.fit.ins hj he).1
      unfold listOne
      by_cases hq : d = j ∧ e.1 = s
      · rw [if_pos hq]
        obtain ⟨rfl, hes⟩ := hq
        have hee : e = (s, (k : Int)) := one_kid h.fit.ins hj he h.mem hes
        subst hee
        rw [List.filter_cons, if_neg (by simp)]
        have h0 : listGo L n (k : Int) (atL L (d : Int) ++ 47 :: s) = [] := listGo_none (by rw [node_nat L k h.klt]; exact h.empty) _ _
        show List.filter _ (if (nodeAt L (k : Int)).kind = 2 then listGo L n (k : Int) (atL L (d : Int) ++ 47 :: s) else []) = []
        rw [h0]
        split <;> rfl
      · rw [if_neg hq]
        have hpath : atL L (j : Int) ++ 47 :: e.1 ≠ atL L (d : Int) ++ 47 :: s := fun e1 => by
          obtain ⟨a1, a2⟩ := last_slash _ _ _ _ (name_parts hok).2.2.2.2 (name_parts h.name).2.2.2.2 e1
          obtain ⟨r, hr, -⟩ := rank_of h.fit hc
          have a3 := at_inj h.fit r _ _ hr hc h.dirD a1
          exact hq ⟨by omega, a2⟩
        rw [List.filter_cons, if_pos (by simpa using hpath)]
        congr 1
        obtain ⟨t, ht, htl⟩ := there_nat (name_of h.fit.ins hj he).2
        by_cases htk : t = k
        · have hek : e.2 = (k : Int) := by rw [ht, htk]
          have h2 := h.second hj he hek (fun ⟨a1, a2⟩ => hq ⟨a1.symm, a2⟩)
          rw [hek, node_nat L k h.klt, if_neg h2, h.atK, if_neg]
          · rfl
          · unfold goneIno
            split
            · decide
            · exact h2
        · rw [ht, (h.at t htl htk).1, node_nat L t htl]
          split
          · rename_i hk2
            have hdt : dirB L e.2 = true := by rw [ht]; exact (dir_nat htl).2 hk2
            have hat := at_kid h.fit hj hc he hdt
            rw [ht] at hat
            rw [← hat]
            rw [ht] at hdt
            exact (Takes.listed h n (t : Int) hdt (by omega)).symm
          · rfl
    rw [list_succ, list_succ, List.filter_flatMap, h.kids j hj, node_nat L j hj]
    by_cases e1 : d = j
    · rw [if_pos e1, flat_but]
      refine flatMap_same _ _ _ fun e he => ?_
      rw [one e he]
      by_cases e2 : e.1 = s
      · rw [if_pos e2, if_pos ⟨e1, e2⟩]
      · rw [if_neg e2, if_neg (fun x => e2 x.2)]
    · rw [if_neg e1]
      refine flatMap_same _ _ _ fun e he => ?_
      rw [one e he, if_neg (fun x => e1 x.1)]
theorem Takes.paths (h : Takes L m b d k s) : listGo (goneL L d k s) (L.length + 1) 0 [] = (listGo L (L.length + 1) 0 []).filter (fun p => p != atL L (d : Int) ++ 47 :: s) := by
  have h1 := h.listed (L.length + 1) 0 h.fit.root (by have := h.k0; omega)
  rw [at_root] at h1
  exact h1
theorem Takes.noKid (h : Takes L m b d k s) : kidL (goneL L d k s) (d : Int) s < 0 := by
  have hd : d < (goneL L d k s).length := by rw [gone_len]; exact h.dlt
  refine Int.not_le.1 fun h0 => ?_
  have hm := kid_mem hd h0
  rw [← node_nat _ d hd, h.kids d h.dlt, if_pos rfl] at hm
  exact without_new _ hm rfl
end
end Go.Proofs.YtmaiphibpdngnaaGreat

namespace Go.Proofs.YtmaiphibpdngnaaGreat
set_option maxRecDepth 100000
open Go Go.RowKit

theorem rplace6_known (a : Option Addr) (cap : Nat) (m b d : Int) (L : List Ino) (hL : L.length ≤ 300) (hF : FitP L m b) (P : List UInt8) (hP : placeL L d = P) (w : World) (hN : NodesIn w a cap L) :
    Calls Tryz.prog 20 #[.agg #[.slice a L.length cap, .int .i64 m, .int .i64 b], .int .i64 d] w fun e w' => e = .returned (.string ⟨P.toArray⟩) ∧ Below w.heap.size w w' := by
  have h := rplace_any a cap m b d L hL (fun k hk => ⟨ups_in hF.root hF.rootUp hF.ins hF.names k hk, (short_of hF.ins k hk).1, (short_of hF.ins k hk).2⟩) w hN
  rw [hP] at h
  exact h
theorem rlist6_known (a : Option Addr) (cap : Nat) (m b : Int) (L : List Ino) (hL : L.length ≤ 300) (hF : FitP L m b) (X : List (List UInt8)) (hX : listGo L (L.length + 1) 0 [] = X) (w : World) (hN : NodesIn w a cap L) :
    Calls Tryz.prog 21 #[.agg #[.slice a L.length cap, .int .i64 m, .int .i64 b]] w fun e W' => ∃ v, e = .returned v ∧ Texts w.heap.size W' v X ∧ Below w.heap.size w W' := by
  have hc := few_paths hF
  have h := rlistT_any a cap m b L hL (by have := hF.limits; obtain ⟨_, _, _, _, _⟩ := this; omega) (falls_of hF.ins) (by omega) w hN
  rw [hX] at h
  exact h
theorem rsame6_yes (X : List (List UInt8)) (B1 B2 : Nat) (v1 v2 : Value) (w : World) (hT1 : Texts B1 w v1 X) (hT2 : Texts B2 w v2 X) :
    Calls Tryz.prog 22 #[v1, v2] w fun e w' => e = .returned (.bool true) ∧ Below w.heap.size w w' := by
  have h := rsame_any X X B1 B2 v1 v2 w hT1 hT2
  rw [decide_eq_true (rfl : X = X)] at h
  exact h
theorem none_own6 {W : World} {base : Nat} {v : Value} (h : KidsOwn W base v []) : ∃ a c, v = .slice a 0 c := by
  rcases h.2 with ⟨rfl, h0⟩ | ⟨g, cap, cur, rfl, -⟩
  · exact ⟨none, 0, rfl⟩
  · exact ⟨_, cap, rfl⟩
theorem at_len6 {L : List Ino} {m b : Int} (hF : FitP L m b) : ∀ (j : Nat) (c : Int), Rk L c j → dirB L c = true → (atL L c).length ≤ j * 65
  | 0, c, hr, _ => by
    have h0 : c = 0 := hr.1
    rw [h0, at_root]
    exact Nat.zero_le _
  | j + 1, c, hr, hc => by
    have h0 : c ≠ 0 := hr.2 0 (by omega)
    obtain ⟨u, hu, hue, hud, x, hxm, hx⟩ := at_up hF hc h0
    have h1 := at_len6 hF j (u : Int) (by rw [← hue]; exact rk_up hr) hud
    have h2 := (name_parts (name_of hF.ins hu hxm).1).2.2.2.1
    have h3 : x.length ≤ 64 := h2
    rw [hx, List.length_append, List.length_cons]
    omega
theorem place_len6 {L : List Ino} {m b : Int} (hF : FitP L m b) (hL : L.length ≤ 300) {d : Nat} (hd : d < L.length) (hc : dirB L (d : Int) = true) : (placeL L (d : Int)).length ≤ 20000 := by
  obtain ⟨j, hj⟩ := rk_of L.length ((leads_iff L _ _).1 (hF.leads d hd hc))
  have hlt := rk_lt hF.leads hc hj
  have h1 := at_len6 hF j (d : Int) hj hc
  have h2 := place_at hF hc
  by_cases h : placeL L (d : Int) = [47]
  · rw [h]; decide
  · rw [if_neg h] at h2
    rw [h2]
    omega

theorem at_pos6 {L : List Ino} {m b : Int} (hF : FitP L m b) (hL : L.length ≤ 300) {c : Int} (hc : dirB L c = true) : (atL L c).length ≤ 20000 := by
  obtain ⟨j, hj, hjl⟩ := rank_of hF hc
  have := at_len6 hF j c hj hc
  omega

set_option maxHeartbeats 16000000 in
theorem dgoes_walk (a : Option Addr) (cap : Nat) (m b cwd : Int) (q : Bool) (pb : ByteArray) (hpb : pb.size ≤ 281474976710656) (L : List Ino) (hS : Sized L) (w : World) (hN : NodesIn w a cap L) :
    Calls Tryz.prog 4 #[.agg #[.slice a L.length cap, .int .i64 m, .int .i64 b], .int .i64 cwd, .string pb, .bool q] w fun e w' => e = .returned (.bool true) ∧ Below w.heap.size w w' := by
  obtain ⟨i0, hi, hz0, hz1, hz2⟩ := info_parts infoS
  obtain ⟨w1, hw1⟩ : ∃ w1, w1 = w.alloc (.cells #[.slice a L.length cap, .int .i64 m, .int .i64 b] 24) := ⟨_, rfl⟩
  have hb1 : Below w.heap.size w w1 := by rw [hw1]; exact below_box w _
  have hX : w1.heap[w.heap.size]? = some (.cells #[.slice a L.length cap, .int .i64 m, .int .i64 b] 24 (0, 0)) := by rw [hw1]; exact new_block w _
  have hs1 : w1.heap.size = w.heap.size + 1 := by rw [hw1]; simp
  have HB := Lib.hid hb1
  obtain ⟨w2, hw2⟩ : ∃ w2, w2 = w1.alloc (.cells #[.string pb] 9) := ⟨_, rfl⟩
  have hb2 : Below w1.heap.size w1 w2 := by rw [hw2]; exact below_box w1 _
  have hs2 : w2.heap.size = w.heap.size + 2 := by rw [hw2, World.size_alloc, hs1]
  have hT2 : w2.heap[w.heap.size + 1]? = some (.cells #[.string pb] 9 (0, 0)) := by rw [hw2, ← hs1]; exact new_block w1 _
  have HX := Lib.hid (show ∀ W, Below w2.heap.size w2 W → W.cell? ⟨w.heap.size, 0, none⟩ = some (.slice a L.length cap) ∧ W.cell? ⟨w.heap.size, 1, none⟩ = some (.int .i64 m) ∧ W.cell? ⟨w.heap.size, 2, none⟩ = some (.int .i64 b) from fun W hW => by
    have h := (hW.block w.heap.size (by omega)).trans ((hb2.block w.heap.size (by omega)).trans hX)
    exact ⟨blk_cell h 0, blk_cell h 1, blk_cell h 2⟩)
  have HEND := Lib.hid (show ∀ W', Below w2.heap.size w2 W' → Below w.heap.size w W' from fun W' h => HB.out.trans ((hb2.trans (h.mono (by omega))).mono (by omega)))
  have HM := Lib.hid (show ∀ W', Below w2.heap.size w2 W' → NodesIn W' a cap L from fun W' h => hN.below (HB.out.trans ((hb2.trans (h.mono (by omega))).mono (by omega))))
  have HS := Lib.hid hS
  have hgood := good6_any a cap m b L hS [pb] (fun s hs => by
      simp only [List.mem_cons, List.not_mem_nil, or_false] at hs
      rw [hs]
      exact hpb) (by simp) (w.heap.size + 1) 1 w2 (HM.out w2 (Below.refl _ _)) (fun i hi => by
      match i, hi with
      | 0, _ => exact blk_cell hT2 0)
  have HGOOD := Lib.hid hgood
  clear hN hb1 hX hS hb2 hT2 hgood
  go_enter Tryz.func4, Tryz.ntmps4
  go_wp2_with fail
  rw [← hw1, ← hw2]
  clear hw1 hw2
  refine HGOOD.out.mono ?_
  rintro e w3 ⟨⟨v, rfl, hv⟩, hb3⟩
  have HV := Lib.hid hv
  have HB3 := Lib.hid hb3
  have hs3 := hb3.size
  obtain ⟨q0, q1, q2⟩ := HX.out _ hb3
  have hq := cell_lt q0
  clear hv hb3 HGOOD
  cases v with
  | false =>
    clear q0 q1 q2 hq
    go_wp2_with fail
    refine (awake6 _).mono ?_
    rintro e w4 ⟨rfl, hb4⟩
    have HB4 := Lib.hid (HB3.out.trans (hb4.mono hs3))
    clear hb4
    go_wp2_with fail
    go_ret
    exact ⟨rfl, HEND.out _ HB4.out⟩
  | true =>
    obtain ⟨hl, hF, hsz⟩ := HV.out rfl
    have HF := Lib.hid hF
    have hL0 : 0 < L.length := by have := hF.limits; obtain ⟨_, _, _, _, _⟩ := this; omega
    have hp3 : pb.size ≤ 1073741824 := by have := hsz pb (by simp); omega
    clear hsz hF HV HS
    have hw3 : w.heap.size + 2 ≤ w3.heap.size := by omega
    obtain ⟨⟨La, ea⟩, hza⟩ : ∃ r, unlinkW L cwd pb.data.toList = r := ⟨_, rfl⟩
    obtain ⟨⟨Lc, ec⟩, hzc⟩ : ∃ r, rmdirW L cwd pb.data.toList = r := ⟨_, rfl⟩
    have HZA := Lib.hid hza
    have HZC := Lib.hid hzc
    have HPA := Lib.hid (show ((ea = 0 → ∃ d k s, NameAt L m b cwd pb.data.toList d k s ∧ Takes L m b d k s ∧ La = goneL L d k s) ∧ (ea ≠ 0 → La = L)) from ⟨fun e => by
      obtain ⟨d, k, s, h1, h2, -, -, h3⟩ := (unlink_ok HF.out hza).1 e
      exact ⟨d, k, s, h1, h2, h3⟩, (unlink_ok HF.out hza).2⟩)
    have HPC := Lib.hid (show ((ec = 0 → ∃ d k s, NameAt L m b cwd pb.data.toList d k s ∧ Takes L m b d k s ∧ Lc = goneL L d k s) ∧ (ec ≠ 0 → Lc = L)) from rmdir_ok HF.out hzc)
    clear hza hzc
    go_wp2_with fail
    clear q0 q1 q2 hq
    refine (lunlink_any _ _ _ _ cwd pb hp3 L HF.out La ea HZA.out _ (HM.out _ HB3.out)).mono ?_
    rintro e w4 ⟨⟨g', c', he, hN4⟩, hb⟩
    have he' : e = .returned (.tuple #[.agg #[.slice g' La.length c', .int .i64 m, .int .i64 b], .int .i64 ea]) := he
    subst he'
    have HB4 := Lib.hid (HB3.out.trans (hb.mono HB3.out.size))
    have HN4 := Lib.hid hN4
    have hs4 := hb.size
    clear he hN4 hb
    obtain ⟨w5, hw5⟩ : ∃ p, p = w4.alloc (.cells #[.slice g' La.length c', .int .i64 m, .int .i64 b] 24) := ⟨_, rfl⟩
    have hb5 : Below w4.heap.size w4 w5 := by rw [hw5]; exact below_box w4 _
    have KU := Lib.hid (show w5.heap[w4.heap.size]? = some (.cells #[.slice g' La.length c', .int .i64 m, .int .i64 b] 24 (0, 0)) by rw [hw5]; exact new_block w4 _)
    have hs5 : w4.heap.size + 1 ≤ w5.heap.size ∧ w5.heap.size ≤ w4.heap.size + 1 := by rw [hw5, World.size_alloc]; exact ⟨Nat.le_refl _, Nat.le_refl _⟩
    have HB5 := Lib.hid (HB4.out.trans (hb5.mono HB4.out.size))
    have HN5 := Lib.hid (HN4.out.below hb5)
    clear hb5 HN4
    go_upto_if 31 with fail
    rw [← hw5]
    clear hw5
    go_cut [10] from 32 (fun c wx => ∃ Lr er gr cr, c = .int .i64 er ∧ ((er = 0 → ∃ d k s, NameAt L m b cwd pb.data.toList d k s ∧ Takes L m b d k s ∧ Lr = goneL L d k s) ∧ (er ≠ 0 → Lr = L)) ∧ wx.heap[w4.heap.size]? = some (.cells #[.slice gr Lr.length cr, .int .i64 m, .int .i64 b] 24 (0, 0)) ∧ NodesIn wx gr cr Lr ∧ Below w2.heap.size w2 wx)
    case first =>
      cases q with
      | false =>
        go_wp2_with fail
        go_meet
        exact ⟨La, ea, g', c', rfl, HPA.out, KU.out, HN5.out, HB5.out⟩
      | true =>
        obtain ⟨q0, q1, q2⟩ := HX.out _ HB5.out
        have hq := cell_lt q0

        go_wp2_with fail
        clear q0 q1 q2 hq
        refine (lrmdir_any _ _ _ _ cwd pb hp3 L HF.out Lc ec HZC.out _ (HM.out _ HB5.out)).mono ?_
        rintro e w6 ⟨⟨g2, c2, he, hN6⟩, hb⟩
        have he' : e = .returned (.tuple #[.agg #[.slice g2 Lc.length c2, .int .i64 m, .int .i64 b], .int .i64 ec]) := he
        subst he'
        have HB6 := Lib.hid (HB5.out.trans (hb.mono HB5.out.size))
        have HN6 := Lib.hid hN6
        have KU6 := Lib.hid ((hb.block _ (lt_of_block KU.out)).trans KU.out)
        clear he hN6 hb
        have r0 := blk_cell KU6.out 0
        have r1 := blk_cell KU6.out 1
        have r2 := blk_cell KU6.out 2
        have s0 := blk_free KU6.out 0
        have s1 := blk_free KU6.out 1
        have s2 := blk_free KU6.out 2
        have hrl := lt_of_block KU6.out
        go_wp2_with fail
        go_meet
        exact ⟨Lc, ec, g2, c2, rfl, HPC.out, put3_block KU6.out _ _ _, nodes_tree HN6.out KU6.out _ _ _, put3_below HB6.out (by omega) _ _ _⟩
    case rest =>
    obtain ⟨Lr, er, gr, cr, rfl, ⟨hp1, hp2⟩, hub, hnr, hbr⟩ := hcut
    obtain ⟨w6, hw6⟩ : ∃ X, X = wc := ⟨_, rfl⟩
    rw [← hw6] at hub hnr hbr ⊢
    have HB6 := Lib.hid hbr
    have HU := Lib.hid (show ∀ W, Below w6.heap.size w6 W → (W.cell? ⟨w4.heap.size, 0, none⟩ = some (.slice gr Lr.length cr) ∧ W.cell? ⟨w4.heap.size, 1, none⟩ = some (.int .i64 m) ∧ W.cell? ⟨w4.heap.size, 2, none⟩ = some (.int .i64 b)) ∧ NodesIn W gr cr Lr from fun W hW => by
      have h := (hW.block w4.heap.size (lt_of_block hub)).trans hub
      exact ⟨⟨blk_cell h 0, blk_cell h 1, blk_cell h 2⟩, hnr.below hW⟩)
    have HC6 := Lib.hid (Below.refl w6.heap.size w6)
    have HP1 := Lib.hid hp1
    have HP2 := Lib.hid hp2
    clear hub hnr hbr hw6 hp1 hp2 KU HN5 HPA HPC HZA HZC
    obtain ⟨q0, q1, q2⟩ := HX.out _ HB6.out
    have hq := cell_lt q0
    obtain ⟨u0, u1, u2⟩ := (HU.out _ HC6.out).1
    have hu := cell_lt u0
    by_cases h1 : er = 0
    case neg =>
      have hLL := HP2.out h1
      subst hLL
      have hb1 : (er != 0) = true := by simpa using h1
      clear HP1 HP2
      go_wp2_with (first | (go_at_call 16; refine (rsame6 _ _ _ _ m b Lr (by omega) _ (HM.out _ HB6.out) (HU.out _ HC6.out).2).mono ?_; rintro e w7 ⟨rfl, hb⟩; have HB7 := Lib.hid (HB6.out.trans (hb.mono HB6.out.size)); clear hb) | (go_at_call 9; refine (awake6 _).mono ?_; rintro e w8 ⟨rfl, hb⟩; have HB8 := Lib.hid (HB7.out.trans (hb.mono HB7.out.size)); clear hb) | fail)
      go_ret
      exact ⟨by rfl, HEND.out _ HB8.out⟩
    subst h1
    obtain ⟨d, k, s, hna, htk, hLr⟩ := HP1.out rfl
    have HNA := Lib.hid hna
    have HTK := Lib.hid htk
    have HLR := Lib.hid hLr
    have HLL := Lib.hid (show Lr.length = L.length by rw [hLr, gone_len])
    have HFR := Lib.hid (show FitP Lr m b by rw [hLr]; exact htk.fits)
    have hL3 : Lr.length ≤ 300 := by rw [HLL.out]; omega
    obtain ⟨kn, hkn⟩ : ∃ v, kidL Lr (d : Int) s = v := ⟨_, rfl⟩
    have hkn0 : ¬ (0 : Int) ≤ kn := by rw [← hkn, hLr]; have := htk.noKid; omega
    have HKN := Lib.hid hkn
    have HL3 := Lib.hid hL3
    clear hna htk hLr hkn hL3 HP1 HP2
    go_wp2_with fail
    clear q0 q1 q2 hq u0 u1 u2 hu
    refine (rparent6 _ _ _ _ _ _ hp3 L HF.out _ _ _ HNA.out.par _ (HM.out _ HB6.out)).mono ?_
    rintro e w7 ⟨rfl, hb⟩
    have HB7 := Lib.hid (HB6.out.trans (hb.mono HB6.out.size))
    have HC7 := Lib.hid (HC6.out.trans (hb.mono HC6.out.size))
    have hs7 := hb.size
    clear hb
    obtain ⟨q0, q1, q2⟩ := HX.out _ HB7.out
    have hq := cell_lt q0
    obtain ⟨u0, u1, u2⟩ := (HU.out _ HC7.out).1
    have hu := cell_lt u0
    have HBC := HB7
    have HCC := HC7
    go_wp2_with (first | (go_at_call 18; refine (rfit_yes6 _ _ m b Lr HL3.out HFR.out _ (HU.out _ HCC.out).2).mono ?_; rintro e wz ⟨rfl, hb⟩; have HBC := Lib.hid (HBC.out.trans (hb.mono HBC.out.size)); have HCC := Lib.hid (HCC.out.trans (hb.mono HCC.out.size)); clear hb; obtain ⟨q0, q1, q2⟩ := HX.out _ HBC.out; have hq := cell_lt q0; obtain ⟨u0, u1, u2⟩ := (HU.out _ HCC.out).1; have hu := cell_lt u0) | (go_at_call 19; refine (rkid_known _ _ _ _ _ _ Lr _ HKN.out _ (HU.out _ HCC.out).2).mono ?_; rintro e wz ⟨rfl, hb⟩; have HBC := Lib.hid (HBC.out.trans (hb.mono HBC.out.size)); have HCC := Lib.hid (HCC.out.trans (hb.mono HCC.out.size)); clear hb; obtain ⟨q0, q1, q2⟩ := HX.out _ HBC.out; have hq := cell_lt q0; obtain ⟨u0, u1, u2⟩ := (HU.out _ HCC.out).1; have hu := cell_lt u0) | fail)
    refine (rplace6_known _ _ _ _ _ L hl HF.out _ rfl _ (HM.out _ HBC.out)).mono ?_
    rintro e w8 ⟨rfl, hb⟩
    have HB8 := Lib.hid (HBC.out.trans (hb.mono HBC.out.size))
    have HC8 := Lib.hid (HCC.out.trans (hb.mono HCC.out.size))
    clear hb
    clear q0 q1 q2 hq u0 u1 u2 hu
    have HPL := Lib.hid (place_at HF.out HTK.out.dirD)
    obtain ⟨P, hP⟩ : ∃ P, placeL L (d : Int) = P := ⟨_, rfl⟩
    rw [hP] at HPL ⊢
    clear hP
    go_upto_if 73 with fail
    go_cut [14] from 71 (fun c wx => c = .string ⟨(atL L (d : Int)).toArray⟩ ∧ wx = w8)
    case first =>
      by_cases h : P = [47]
      · subst h
        have hp := HPL.out
        rw [if_pos rfl] at hp
        have HP0 := Lib.hid hp
        clear hp
        go_wp2_with fail
        go_meet
        exact ⟨by rw [← HP0.out], (by simp)⟩
      · have hpb : (P == [47]) = false := by simpa using h
        have hp := HPL.out
        rw [if_neg h] at hp
        have HP0 := Lib.hid hp
        clear hp
        rw [hpb]
        go_wp2_with fail
        go_meet
        exact ⟨by rw [← HP0.out], (by simp)⟩
    case rest =>
    obtain ⟨rfl, rfl⟩ := hcut
    obtain ⟨w8, hw8⟩ : ∃ X, X = wc := ⟨_, rfl⟩
    rw [← hw8] at HB8 HC8 ⊢
    clear hw8 HPL
    have hs8 := HB8.out.size
    obtain ⟨A, hA⟩ : ∃ A, A = atL L (d : Int) := ⟨_, rfl⟩
    rw [← hA]
    have hAl : A.length ≤ 20000 := by rw [hA]; exact at_pos6 HF.out hl HTK.out.dirD
    have hsl : s.length ≤ 64 := (name_parts HTK.out.name).2.2.2.1
    have HQA := Lib.hid hA
    obtain ⟨X, hX⟩ : ∃ X, listGo L (L.length + 1) 0 [] = X := ⟨_, rfl⟩
    have hXn : X.length ≤ 1048576 := by rw [← hX]; have := few_paths HF.out; omega
    have HXX := Lib.hid hX
    clear hA hX
    obtain ⟨q0, q1, q2⟩ := HX.out _ HB8.out
    have hq := cell_lt q0
    go_wp2_with fail
    refine (rlist6_known _ _ _ _ L hl HF.out X HXX.out _ (HM.out _ HB8.out)).mono ?_
    rintro e w9 ⟨v, rfl, hT, hb⟩
    obtain ⟨ra, rc, rfl, hrc, hrm⟩ := hT.slot3
    have HT := Lib.hid hT
    have HB9 := Lib.hid (HB8.out.trans (hb.mono HB8.out.size))
    have HC9 := Lib.hid (HC8.out.trans (hb.mono HC8.out.size))
    have hs9 := hb.size
    have hXl : (0 : Int) ≤ (X.length : Int) := by omega
    unfold maxLen at hrm
    clear hT hb q0 q1 q2 hq
    go_wp2_with fail
    go_loopw [15, 17, 77] (fun v _ i wr => PRel X (A ++ 47 :: s) w9 v i wr) (fun _ _ i _ => X.length - (intOf i).toNat)
    case atStart => exact ⟨0, by omega, rfl, World.ownsRow_nil _ _ _ _, Below.refl _ _⟩
    case round =>
      obtain ⟨k, hk, rfl, ht, hb⟩ := hrel
      have hbl := but_len X (A ++ 47 :: s) k
      have HO := Lib.hid (show wr.ownsRow w9.heap.size 9 1 _ (butL (X.take k) (A ++ 47 :: s)).length ((butL (X.take k) (A ++ 47 :: s)).map strv) from ht)
      have HBR := Lib.hid hb
      have hszr := hb.size
      clear ht hb
      by_cases hlt : k < X.length
      · have hbt := Lib.hid (but_take X (A ++ 47 :: s) k hlt)
        obtain ⟨x1, hx1⟩ : ∃ xs : ByteArray, xs = ⟨X[k].toArray⟩ := ⟨_, rfl⟩
        have HX1 := Lib.hid (show x1.data.toList = X[k] by rw [hx1])
        obtain ⟨g1, rfl, hy1⟩ : ∃ g, ra = some ⟨g, 0, none⟩ ∧ wr.cell? ⟨g, k, none⟩ = some (.string x1) := by
          rcases HT.out.forms with ⟨hv, hn⟩ | ⟨g, cap, hv, hB, hg, -, -, hcell⟩
          · rw [hn] at hlt; simp at hlt
          · simp only [Value.slice.injEq] at hv
            refine ⟨g, hv.1, ?_⟩
            rw [HBR.out.cell (p := ⟨g, k, none⟩) hg, hcell k hlt, hx1]
            rfl
        have HX2 := Lib.hid hx1
        clear hx1
        have b1 : (0 : Int) ≤ (k : Int) := by omega
        have b2 : (k : Int) < (X.length : Int) := by omega
        have hc1 : ¬ 9223372036854775807 < A.length + 1 := by omega
        have hc2 : ¬ 9223372036854775807 < A.length + 1 + s.length := by omega
        have hc4 : ¬ 9223372036854775807 < 1 + s.length := by omega
        go_upto_if 86 with fail
        obtain ⟨qb, hqb⟩ : ∃ qb : ByteArray, qb = (⟨A.toArray⟩ : ByteArray) ++ (⟨#[47]⟩ : ByteArray) ++ (⟨s.toArray⟩ : ByteArray) := ⟨_, rfl⟩
        rw [← hqb]
        have HQ := Lib.hid (show qb.data.toList = A ++ 47 :: s by rw [hqb, cat_slash])
        clear hqb
        cases he : (x1.toList == qb.toList) with
        | true =>
          have HE := Lib.hid (show butL (X.take (k + 1)) (A ++ 47 :: s) = butL (X.take k) (A ++ 47 :: s) by
            rw [hbt.out, if_pos (HX1.out.symm.trans ((same_bytes x1 qb he).trans HQ.out)), List.append_nil])
          go_wp2_with fail
          go_roundw
          case rel => exact ⟨k + 1, by omega, by go_num, by rw [HE.out]; exact HO.out, HBR.out⟩
          case measure => simp [intOf] <;> omega
        | false =>
          have HE := Lib.hid (show butL (X.take (k + 1)) (A ++ 47 :: s) = butL (X.take k) (A ++ 47 :: s) ++ [X[k]] by
            rw [hbt.out, if_neg (fun e => diff_bytes x1 qb he (HX1.out.trans (e.trans HQ.out.symm)))])
          go_wp2_with (first | (at_builtin; (refine wpList_append_own _ rfl _ _ 41 rfl w9.heap.size 9 i0 (.string ByteArray.empty) 1 16 Tryz.underlying41 hi hz0 hz1 hz2 rfl (by decide) _ _ _ rfl (HO.out.alloc _) ⟨wr.heap.size, 0, none⟩ 1 1 [.string x1] rfl rfl (cell_one_new _ _ _) (fun x hx => by simp at hx; subst hx; rfl) (by unfold maxLen; omega) (by omega) (by simp; omega) ?_); intro v' w10 hown' hgrow3 hnil3) | fail)
          have hT3 : Texts w9.heap.size w10 v' (butL (X.take k) (A ++ 47 :: s) ++ [X[k]]) := Texts.grow (by rw [HX2.out] at hown'; exact hown')
          have hb3 : Below w9.heap.size w9 w10 := HBR.out.trans (((Below.refl _ wr).alloc hszr _).grown hgrow3 (by simp; omega) (fun r hr => (HO.out.lt r hr).1))
          have HT3 := Lib.hid hT3
          have HB3' := Lib.hid hb3
          clear hT3 hb3 hown' hgrow3 hnil3
          go_wp2_with fail
          go_roundw
          case rel => exact ⟨k + 1, by omega, by go_num, by rw [HE.out]; exact HT3.out, HB3'.out⟩
          case measure => simp [intOf] <;> omega
      · obtain rfl : k = X.length := by omega
        have hOX := HO.out
        rw [List.take_length] at hOX
        have HOT := Lib.hid (show Texts w9.heap.size wr _ (butL X (A ++ 47 :: s)) from hOX)
        have HB10 := Lib.hid (HB9.out.trans (HBR.out.mono HB9.out.size))
        have HC10 := Lib.hid (HC9.out.trans (HBR.out.mono HC9.out.size))
        have HXE := Lib.hid (show listGo Lr (Lr.length + 1) 0 [] = butL X (A ++ 47 :: s) by
          rw [HLL.out, HLR.out, HTK.out.paths, HXX.out, HQA.out]
          rfl)
        clear hOX HO
        obtain ⟨u0, u1, u2⟩ := (HU.out _ HC10.out).1
        have hu := cell_lt u0
        have HBC := HB10
        go_wp2_with (first | (go_at_call 21; refine (rlist6_known _ _ _ _ Lr HL3.out HFR.out _ HXE.out _ (HU.out _ HC10.out).2).mono ?_; rintro e w11 ⟨v2, rfl, hT2, hb⟩; obtain ⟨ra2, rc2, rfl, hrc2, hrm2⟩ := hT2.slot3; have HT2 := Lib.hid hT2; have HOT2 := Lib.hid (HOT.out.below hb); have HBC := Lib.hid (HBC.out.trans (hb.mono HBC.out.size)); clear hT2 hb) | (go_at_call 22; refine (rsame6_yes _ _ _ _ _ _ HT2.out HOT2.out).mono ?_; rintro e w12 ⟨rfl, hb⟩; have HBC := Lib.hid (HBC.out.trans (hb.mono HBC.out.size)); clear hb) | (go_at_call 9; refine (awake6 _).mono ?_; rintro e w13 ⟨rfl, hb⟩; have HBC := Lib.hid (HBC.out.trans (hb.mono HBC.out.size)); clear hb) | fail)
        go_ret
        exact ⟨by rfl, HEND.out _ HBC.out⟩

end Go.Proofs.YtmaiphibpdngnaaGreat
