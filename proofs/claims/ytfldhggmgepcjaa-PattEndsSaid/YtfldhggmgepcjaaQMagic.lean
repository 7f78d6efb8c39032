/-
  Magic of the landed code; short of the laws; awake.
-/
import Derived.Test.YtfldhggmgepcjaaQSuffix
namespace Go.Proofs.Ytfldhggmgepcjaa
set_option maxRecDepth 100000
open Go Go.RowKit

def magB (L : Pl) : Bool := L.any fun x => x.2 && (x.1 == 63 || (x.1 == 42 || x.1 == 91))
theorem mag_at {L : Pl} {i : Nat} (h : i < L.length) : (L[i].2 && (L[i].1 == 63 || (L[i].1 == 42 || L[i].1 == 91))) = (isP L i 63 || (isP L i 42 || isP L i 91)) := by
  unfold isP
  rw [List.getElem?_eq_getElem h]
  rcases L[i] with ⟨a, b⟩
  cases b <;> simp [Bool.beq_eq_decide_eq, Prod.ext_iff]


/-- Do texts take few bytes together? -/
def sumS : List ByteArray → Nat
  | [] => 0
  | x :: r => x.size + sumS r
def shB (L : List ByteArray) : Bool := decide (sumS L ≤ 400)
theorem sumS_take : ∀ (L : List ByteArray) (i : Nat) (x : ByteArray), L[i]? = some x → sumS (L.take (i + 1)) = sumS (L.take i) + x.size
  | [], _, _, h => by cases h
  | a :: L, 0, x, h => by simp at h; subst h; simp [sumS]
  | a :: L, i + 1, x, h => by
    rw [List.take_succ_cons, List.take_succ_cons, sumS, sumS, sumS_take L i x (by simpa using h)]
    omega
theorem sumS_le : ∀ (L : List ByteArray) (i : Nat), sumS (L.take i) ≤ sumS L
  | [], i => by simp [sumS]
  | a :: L, 0 => by simp [sumS]
  | a :: L, i + 1 => by
    rw [List.take_succ_cons, sumS, sumS]
    have := sumS_le L i
    omega
set_option maxHeartbeats 4000000 in
theorem lshort (L : List ByteArray) (hn : L.length ≤ 100) (hx : ∀ x ∈ L, x.size ≤ 281474976710656) (g : Nat) (w : World) (hR : RowAt w g (L.map Value.string) 9) : Calls Try.prog 4 #[.slice (some ⟨g, 0, none⟩) L.length L.length] w fun e w' => e = .returned (.bool (shB L)) ∧ w = w' := by
  have HR := Lib.hid hR
  have HX := Lib.hid hx
  clear hR hx
  go_enter Try.func4, Try.ntmps4
  go_wp2_with fail
  go_loopw [3, 5, 8] (fun v3 _ v8 wr => ∃ i n : Nat, v8 = .int .i64 (i : Int) ∧ v3 = .int .i64 (n : Int) ∧ i ≤ L.length ∧ n ≤ 400 ∧ Hid (n = sumS (L.take i)) ∧ w = wr) (fun _ _ v8 _ => L.length - (intOf v8).toNat)
  case atStart => exact ⟨0, 0, rfl, rfl, Nat.zero_le _, by omega, (show 0 = sumS (L.take 0) from rfl), rfl⟩
  case round =>
    obtain ⟨i, n, rfl, rfl, hi, hn4, HS, rfl⟩ := hrel
    by_cases hlt : i < L.length
    · have hii : (i : Int) < (L.length : Int) := by omega
      have hi0 : (0 : Int) ≤ (i : Int) := by omega
      obtain ⟨x, hxi⟩ : ∃ x, L[i]? = some x := ⟨L[i], List.getElem?_eq_getElem hlt⟩
      have hcx := HR.out.cell (show (L.map Value.string)[i]? = some (.string x) by rw [List.getElem?_map, hxi]; rfl)
      have hxs := HX.out x (List.mem_of_getElem? hxi)
      have HSN := Lib.hid (show n + x.size = sumS (L.take (i + 1)) by rw [sumS_take L i x hxi, HS.out])
      have HLE := Lib.hid (sumS_le L (i + 1))
      clear hxi
      by_cases hbig : 400 < n + x.size
      · have HV := Lib.hid (show shB L = false by unfold shB; rw [decide_eq_false_iff_not]; have h1 := HSN.out; have h2 := HLE.out; omega)
        go_wp2_with fail
        go_ret
        exact ⟨by rw [HV.out]; rfl, rfl⟩
      · go_wp2_with fail
        go_roundw
        case rel => exact ⟨i + 1, n + x.size, by simp, by simp, by omega, by omega, HSN, trivial⟩
        case measure => simp only [intOf]; omega
    · have hii : ¬ (i : Int) < (L.length : Int) := by omega
      have HV := Lib.hid (show shB L = true by unfold shB; rw [decide_eq_true_iff]; have h3 := HS.out; rw [List.take_of_length_le (by omega)] at h3; omega)
      go_wp2_with fail
      go_ret
      exact ⟨by rw [HV.out]; rfl, rfl⟩
end Go.Proofs.Ytfldhggmgepcjaa
