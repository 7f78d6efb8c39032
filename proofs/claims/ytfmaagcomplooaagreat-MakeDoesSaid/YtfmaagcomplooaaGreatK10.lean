/-
  nodes.With: a directory's names and one more, where the order by bytes has it.
-/
import Derived.Test.YtfmaagcomplooaaGreatK9
import Derived.Test.YtfmaagcomplooaaGreatK4
import Derived.Test.YtfmaagcomplooaaGreatK3
import Derived.Test.YtfmaagcomplooaaGreatK1
namespace Go.Proofs.YtfmaagcomplooaaGreat
set_option maxRecDepth 100000
open Go Go.RowKit

/-- Where a new name stands. -/
theorem place_new {K : List (List UInt8 × Int)} {s : List UInt8} (k : Int) (_hR : Rises K) (hn : ∀ e ∈ K, e.1 ≠ s) : ∃ i, i ≤ K.length ∧ namedL K s k = insK K i (s, k) ∧ ∀ e, BAns K s e → e = .returned (.tuple #[.int .i64 i, .bool false]) := by
  obtain ⟨A, B, h1, h2, h3, h4⟩ := named_at K s k hn
  have hA : K.take A.length = A := by rw [h1]; simp
  have hB : K.drop A.length = B := by rw [h1]; simp
  refine ⟨A.length, by rw [h1, List.length_append]; omega, by rw [h2]; unfold insK; rw [hA, hB], ?_⟩
  rintro e ⟨i, v, rfl, hi, hv, hlo, hhi⟩
  have hlen : K.length = A.length + B.length := by rw [h1, List.length_append]
  have hvf : v = false := by
    cases v with
    | false => rfl
    | true =>
      obtain ⟨h, he⟩ := hv.1 rfl
      exact absurd he (hn _ (List.getElem_mem h))
  have hiA : i = A.length := by
    rcases Nat.lt_trichotomy i A.length with h | h | h
    · exfalso
      have hx := hhi i (by omega) (Nat.le_refl _)
      have hm : K[i]'(by omega) = A[i] := by simp only [h1, List.getElem_append_left h]
      rw [hm, h3 _ (List.getElem_mem h)] at hx
      cases hx
    · exact h
    · exfalso
      cases B with
      | nil => simp only [List.length_nil] at hlen; omega
      | cons b r =>
        have hl : A.length < K.length := by rw [hlen, List.length_cons]; omega
        have hx := hlo A.length hl h
        have hm : K[A.length] = b := by simp only [h1]; rw [List.getElem_append_right (Nat.le_refl _)]; simp
        rw [hm] at hx
        have hy := h4 b r rfl
        have h0 := less_trans _ _ _ hx hy
        rw [less_irrefl] at h0
        cases h0
  rw [hiA, hvf]

theorem gsearch_known (M : List (List UInt8 × Int)) (hM : M.length ≤ 1024) (hR : Rises M) (s : List UInt8) (i : Nat) (hans : ∀ e, BAns M s e → e = .returned (.tuple #[.int .i64 i, .bool false])) (ka : Option Addr) (kcap : Nat) (w : World) (hK : KidsIn w (.slice ka M.length kcap) M) :
    Calls Tryz.prog 79 #[.slice ka M.length kcap, .string ⟨s.toArray⟩, .func (.func 82) #[] #[]] w fun e w' => e = .returned (.tuple #[.int .i64 i, .bool false]) ∧ Below w.heap.size w w' :=
  (gsearch_any M hM hR s ka kcap w hK).mono fun e _ h => ⟨hans e h.1, h.2⟩

set_option maxHeartbeats 2000000 in
theorem lwith_any (K : List (List UInt8 × Int)) (s : List UInt8) (k : Int) (hl : K.length ≤ 4096) (hl2 : K.length ≤ 1024) (hR : Rises K) (hn : ∀ e ∈ K, e.1 ≠ s) (v : Value) (w : World) (hK : KidsIn w v K) :
    Calls Tryz.prog 60 #[v, .string ⟨s.toArray⟩, .int .i64 k] w fun e w' => ∃ v', e = .returned v' ∧ KidsOwn w' w.heap.size v' (namedL K s k) ∧ Below w.heap.size w w' := by
  obtain ⟨i, hi, hins, hans⟩ := place_new k hR hn
  obtain ⟨ka, kc, rfl, hk1⟩ := hK
  have HK := Lib.hid (show KidsIn w (.slice ka K.length kc) K from ⟨ka, kc, rfl, hk1⟩)
  have HINS := Lib.hid hins
  have HANS := Lib.hid hans
  have HR := Lib.hid hR
  clear hk1 hins hans hR hn
  go_enter Tryz.func60, Tryz.ntmps60
  go_wp2_with fail
  refine (gsearch_known K hl2 HR.out s i HANS.out ka kc _ HK.out).mono ?_
  rintro e w1 ⟨rfl, hb1⟩
  have HB1 := Lib.hid hb1
  have HK1 := Lib.hid (HK.out.below hb1)
  clear hb1
  go_wp2_with fail
  refine (lclone_kids _ K (by omega) _ HK1.out).mono ?_
  rintro e w2 ⟨v2, rfl, hO2, hb2⟩
  obtain ⟨va, vc, rfl⟩ := hO2.form
  have HO2 := Lib.hid hO2
  have HB2 := Lib.hid hb2
  have hs1 := HB1.out.size
  have hs2 := hb2.size
  clear hO2 hb2
  go_wp2_with fail
  obtain ⟨w3, hw3⟩ : ∃ w3, w3 = w2.alloc (.cells #[.string ⟨s.toArray⟩, .int .i64 k] 58) := ⟨_, rfl⟩
  have hb3 : Below w2.heap.size w2 w3 := by rw [hw3]; exact below_box w2 _
  have hs3 : w3.heap.size = w2.heap.size + 1 := by rw [hw3]; simp
  have hE3 : w3.heap[w2.heap.size]? = some (.cells (entC (s, k)).toArray 58 (0, 0)) := by rw [hw3]; exact new_block w2 _
  have hO3 : KidsOwn w3 w.heap.size (.slice va K.length vc) K := (HO2.out.same fun j hj => hb3.block j ((HO2.out).lt j hj).2).lower (by omega)
  have hoff : (.slice va K.length vc : Value).ownBlock ≠ some w2.heap.size := fun e => by
    have := (HO2.out.lt w2.heap.size e).2
    omega
  have hI := linsert_any w.heap.size (.slice va K.length vc) K i (s, k) w2.heap.size 1 w3 hO3 hi (by omega) (by omega) hE3 hoff
  have HI := Lib.hid hI
  have HO3 := Lib.hid hO3
  have HB3 := Lib.hid hb3
  rw [← hw3]
  clear hI hO3 hb3 hE3 hw3
  refine HI.out.mono ?_
  rintro e w4 ⟨v4, rfl, hk4, hg4, hv4⟩
  obtain ⟨xa, xc, rfl⟩ := hk4.form
  have HK4 := Lib.hid hk4
  have hb4 : Below w.heap.size w w4 := by
    have h3 : Below w.heap.size w w3 := HB1.out.trans ((HB2.out.mono (by omega)).trans (HB3.out.mono (by omega)))
    refine h3.grown hg4 (by have := h3.size; omega) (fun r hr => (HO3.out.lt r hr).1)
  have HB4 := Lib.hid hb4
  clear hk4 hg4 hv4 hb4
  go_wp2_with fail
  go_ret
  exact ⟨_, rfl, by rw [HINS.out]; exact HK4.out, HB4.out⟩
end Go.Proofs.YtfmaagcomplooaaGreat
