/-
  walk's names, of the landed code: an iterator over the names that are left, whatever is laid on them on the way.
-/
import Derived.RegionIn
import Derived.Test.YtgmmggdjcgemfaaWLOut
namespace Go.Proofs.Ytgmmggdjcgemfaa
open Go Go.RowKit Go.Shelf

attribute [local go_sem] Oper.semAt_some

/-- Where a way is: the name at hand, those that are left, where one is, how many links were followed. -/
structure St where
  x : List UInt8
  N : List (List UInt8)
  p : Int
  k : Nat
def IW (n₀ g : Nat) (T : Value × Value × Value) (Base : World → Prop) (Gh : Nat → List (List UInt8) → Int → Prop) (s : St) (W : World) : Prop := WayAt n₀ g T W s.p s.N.reverse s.k ∧ Base W ∧ Gh s.k s.N s.p
def IpW (n₀ g : Nat) (T : Value × Value × Value) (Base : World → Prop) (Gh : Nat → List (List UInt8) → Int → Prop) (s : St) (W : World) : Prop := WayAt n₀ g T W s.p s.N.reverse s.k ∧ Base W ∧ Gh s.k (s.x :: s.N) s.p
def NxW (s s' : St) : Prop := (8 - s'.k) * 30000 + s'.N.length ≤ (8 - s.k) * 30000 + s.N.length
def mW (g : Nat) (W : World) : Nat := match W.heap[g]? with
  | some (.cells cs _ _) => (8 - (intOf (cs.getD 5 undef)).toNat) * 30000 + sliceLen (cs.getD 4 undef)
  | _ => 0
theorem mW_eq {n₀ g : Nat} {T : Value × Value × Value} {W : World} {p : Int} {st : List (List UInt8)} {k : Nat} (h : WayAt n₀ g T W p st (k : Int)) : mW g W = (8 - k) * 30000 + st.length := by
  obtain ⟨_, v, h1, h2⟩ := h
  unfold mW
  rw [h1]
  obtain ⟨na, nc, rfl, -, -, -⟩ := h2.view
  simp [intOf, sliceLen]

set_option maxRecDepth 100000 in
set_option maxHeartbeats 4000000 in
theorem lnames1_seq (F : Fence) (hwide : F = Fence.wide) (n : Nat) (hn : 1 ≤ n) (n₀ g Bp : Nat) (T : Value × Value × Value) (Base : World → Prop) (Gh : Nat → List (List UInt8) → Int → Prop) (hlen : ∀ k N p, Gh k N p → N.length ≤ 1000000)
    (hbox : ∀ W, Base W → W.cell? ⟨Bp, 0, none⟩ = some (.pointer (some ⟨g, 0, none⟩))) (hset : ∀ W v, Base W → Base (W.setCell ⟨g, 4, none⟩ v).drew) (s0 : St) :
    SeqSt F n Try.prog 51 #[.pointer (some ⟨Bp, 0, none⟩)] (fun s : St => #[Value.string ⟨s.x.toArray⟩]) (IW n₀ g T Base Gh) (IpW n₀ g T Base Gh) NxW (fun W => ∃ s : St, s.N = [] ∧ IW n₀ g T Base Gh s W) s0 := by
  intro l G Jx W hG hY h0 hG0
  have hF : Open F := by rw [hwide]; exact open_wide
  have hro : F.round = none := hF.ro
  have HWIDE := Lib.hid hwide
  clear hwide
  have HY := Lib.hid hY
  have HGS := Lib.hid hG
  have HBOX := Lib.hid hbox
  have HSET := Lib.hid hset
  have HLEN := Lib.hid hlen
  clear hY hG hbox hset hlen
  refine callsIn_of_wp Try.func51 rfl (hF.fn _) ?_ hro
  simp only [Try.ntmps51, List.size_toArray, List.length_cons, List.length_nil, Nat.reduceAdd, Nat.reduceSub, Array.replicate_succ, Array.replicate_zero, List.push_toArray, List.append_toArray, List.nil_append, List.cons_append]
  gi_wp2
  gi_loopw [3, 4] (fun _ _ wr => ∃ s : St, Hid (IW n₀ g T Base Gh s wr) ∧ Hid (G wr)) (fun _ _ wr => mW g wr)
  case atStart => exact ⟨s0, h0, hG0⟩
  case round =>
    obtain ⟨s, hI, hGw⟩ := hrel
    obtain ⟨x0, N, p, k⟩ := s
    obtain ⟨hway, hbase, hgh⟩ := hI.out
    have HWAY := Lib.hid hway
    have hb := HBOX.out _ hbase
    have hm := mW_eq hway
    obtain ⟨-, -, -, -, ⟨v, c4, hv⟩, -⟩ := way_cells hway
    have f4 := way_frozen hway 4
    have hg := hway.lt
    have hgb := cell_lt hb
    simp only at hm c4 hv hgh
    cases N with
    | nil =>
      obtain ⟨na, nc, rfl, -, -, -⟩ := hv.view
      have HFIN := Lib.hid (show ∃ s : St, s.N = [] ∧ IW n₀ g T Base Gh s wr from ⟨⟨x0, [], p, k⟩, rfl, hI.out⟩)
      clear hway hbase hgh hm hv hI
      gi_wp2
      go_end0
      exact ⟨⟨_, rfl⟩, .inl ⟨HFIN.out, hGw.out⟩⟩
    | cons x r =>
      rw [List.reverse_cons] at hv hm
      have hrl := HLEN.out _ _ _ hgh
      obtain ⟨R, hR⟩ : ∃ R, R = r.reverse := ⟨_, rfl⟩
      rw [← hR] at hv hm
      have hRl : R.length = r.length := by rw [hR, List.length_reverse]
      obtain ⟨a0, nc, rfl, hc1, hc2, hcell⟩ := hv.view
      obtain ⟨nb, no, rfl, hx⟩ := hcell R.length (by simp)
      have hx0 : (R ++ [x])[R.length]'(by simp) = x := by simp
      rw [hx0] at hx
      unfold strv at hx
      have hl1 : (R ++ [x]).length = R.length + 1 := by simp
      rw [hl1] at hv c4 hc1
      have HI2 := Lib.hid hv.init
      unfold maxLen at hc2
      have HPOP := Lib.hid (show IpW n₀ g T Base Gh ⟨x, r, p, k⟩ (wr.setCell ⟨g, 4, none⟩ (.slice (some ⟨nb, no, none⟩) R.length nc)).drew from ⟨by
        have h := (way_set4 HWAY.out HI2.out).drew
        rw [hR] at h
        rw [hR]
        exact h, HSET.out _ _ hbase, hgh⟩)
      have HGP := Lib.hid (show G (wr.setCell ⟨g, 4, none⟩ (.slice (some ⟨nb, no, none⟩) R.length nc)).drew from HGS.out _ _ hGw.out ((KeepsOthers.setCell wr _ _).trans (KeepsOthers.drew _)))
      obtain ⟨fn, tmps, assign, body, hy, hRd⟩ := HY.out ⟨x, r, p, k⟩ _ HPOP.out HGP.out
      simp only at hy
      have HRD := Lib.hid hRd
      have hj1 : (R.length : Int) < ((R.length : Int) + 1) := by omega
      have hj2 : (0 : Int) < ((R.length : Int) + 1) := by omega
      have hj3 : (0 : Int) ≤ (R.length : Int) := by omega
      have hj4 : (R.length : Int) ≤ (nc : Int) := by omega
      have HM := Lib.hid hm
      have HRL := Lib.hid hRl
      have hR5 : R.length ≤ 1000000 := by simp only [List.length_cons] at hrl; omega
      clear hway hbase hgh hm hv hI hcell hx0 hl1 hRd hR hRl hrl
      gi_wp2
      have hw := HWIDE.out
      subst hw
      refine region_in_held (ro := none) (S := fun W' => W'.cell? ⟨Bp, 0, none⟩ = some (.pointer (some ⟨g, 0, none⟩))) (by kernel_rfl) (by kernel_rfl) ?_
      have hHeld : wr.drew.cell? ⟨Bp, 0, none⟩ = some (.pointer (some ⟨g, 0, none⟩)) := hb
      refine wpAnyH_take (i := 0) (v := ?_) rfl (by kernel_rfl) (by kernel_rfl) (by kernel_rfl) (fun _ _ _ h => nomatch h.1) (Or.inl ⟨by rfl, ?hy0⟩) hHeld ?rest0
      case hy0 => intro W hSw; go_simp <;> with_reducible rfl
      try simp only [Act.put, List.setIfInBounds_toArray, List.set_cons_zero, List.set_cons_succ]
      refine wpAnyH_take (i := 1) (v := ?_) rfl (by kernel_rfl) (by kernel_rfl) (by kernel_rfl) (fun _ _ _ h => nomatch h.1) (Or.inl ⟨by rfl, ?hy1⟩) hHeld ?rest1
      case hy1 => intro W hSw; go_simp <;> with_reducible rfl
      try simp only [Act.put, List.setIfInBounds_toArray, List.set_cons_zero, List.set_cons_succ]
      refine wpAnyH_take (i := 2) (v := ?_) rfl (by kernel_rfl) (by kernel_rfl) (by kernel_rfl) (fun _ _ _ h => nomatch h.1) (Or.inl ⟨by rfl, ?hy2⟩) hHeld ?rest2
      case hy2 => intro W hSw; go_simp <;> with_reducible rfl
      try simp only [Act.put, List.setIfInBounds_toArray, List.set_cons_zero, List.set_cons_succ]
      refine wpAnyH_take (i := 3) (v := ?_) rfl (by kernel_rfl) (by kernel_rfl) (by kernel_rfl) (fun _ _ _ h => nomatch h.1) (Or.inl ⟨by rfl, ?hy3⟩) hHeld ?rest3
      case hy3 => intro W hSw; go_simp <;> with_reducible rfl
      try simp only [Act.put, List.setIfInBounds_toArray, List.set_cons_zero, List.set_cons_succ]
      refine wpAnyH_take (i := 5) (v := ?_) rfl (by kernel_rfl) (by kernel_rfl) (by kernel_rfl) (fun _ _ _ h => nomatch h.1) (Or.inl ⟨by rfl, ?hy5⟩) hHeld ?rest5
      case hy5 => intro W hSw; go_simp <;> with_reducible rfl
      try simp only [Act.put, List.setIfInBounds_toArray, List.set_cons_zero, List.set_cons_succ]
      refine wpAnyH_ready (rs := [4]) (by kernel_rfl) (by simp) ?_
      refine AllReadyH.cons rfl (fun K hK => ?_) AllReadyH.nil
      go_simp
      refine hK.out _ _ hHeld (fun hHeld => ?_)
      clear hK K
      try simp only [Act.put, List.setIfInBounds_toArray, List.set_cons_zero, List.set_cons_succ]
      refine wpAnyH_take (i := 6) (v := ?_) rfl (by kernel_rfl) (by kernel_rfl) (by kernel_rfl) (fun _ _ _ h => nomatch h.1) (Or.inl ⟨by rfl, ?hy6⟩) hHeld ?rest6
      case hy6 => intro W hSw; go_simp <;> with_reducible rfl
      try simp only [Act.put, List.setIfInBounds_toArray, List.set_cons_zero, List.set_cons_succ]
      refine wpAnyH_take (i := 7) (v := ?_) rfl (by kernel_rfl) (by kernel_rfl) (by kernel_rfl) (fun _ _ _ h => nomatch h.1) (Or.inl ⟨by rfl, ?hy7⟩) hHeld ?rest7
      case hy7 => intro W hSw; go_simp <;> with_reducible rfl
      try simp only [Act.put, List.setIfInBounds_toArray, List.set_cons_zero, List.set_cons_succ]
      refine wpAnyH_take (i := 8) (v := ?_) rfl (by kernel_rfl) (by kernel_rfl) (by kernel_rfl) (fun _ _ _ h => nomatch h.1) (Or.inl ⟨by rfl, ?hy8⟩) hHeld ?rest8
      case hy8 => intro W hSw; go_simp <;> with_reducible rfl
      try simp only [Act.put, List.setIfInBounds_toArray, List.set_cons_zero, List.set_cons_succ]
      refine wpAnyH_ready (rs := [9]) (by kernel_rfl) (by simp) ?_
      refine AllReadyH.cons rfl (fun K hK => ?_) AllReadyH.nil
      go_simp
      refine hK.out _ _ ?_ (fun hHeld => ?_)
      · have h := HBOX.out _ HPOP.out.2.1
        exact h
      clear hK K
      refine wpAnyH_done (by kernel_rfl) ⟨rfl, ?_⟩ _
      gi_wp2
      refine HRD.out.mono ?_
      rintro e W3 (⟨rfl, s', hnx, hI3, hG3⟩ | ⟨rfl, hJ3⟩)
      · have hm3 := mW_eq hI3.1
        have hnx' : (8 - s'.k) * 30000 + s'.N.length ≤ (8 - k) * 30000 + r.length := hnx
        have HI3 := Lib.hid hI3
        have HG3 := Lib.hid hG3
        have HM3 := Lib.hid (show mW g W3 < mW g wr by
          rw [hm3, HM.out, List.length_reverse, List.length_append, List.length_cons, List.length_nil, HRL.out]
          omega)
        clear hnx hnx' hm3 hI3 hG3
        gi_wp2
        go_roundw
        case rel => exact ⟨s', HI3, HG3⟩
        case measure => exact HM3.out
      · have HJ3 := Lib.hid hJ3
        clear hJ3
        gi_wp2
        refine bodyPost_ret (results_none rfl _ _ _) rfl ?_
        exact ⟨⟨_, rfl⟩, .inr HJ3.out⟩
end Go.Proofs.Ytgmmggdjcgemfaa
