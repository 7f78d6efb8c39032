/-
  What follows, of chapter 7, in plain words.
-/
import Derived.Test.YtblmlgpajmaliaaBPlain
namespace Go.Proofs.Ytblmlgpajmaliaa
set_option maxRecDepth 100000
open Go Go.RowKit

theorem write_len {L : List Ino} {m b : Int} (hF : FitP L m b) {k off : Int} {s : List UInt8} {L' : List Ino} {e : Int} (hz : writeW L b k off s = (L', e)) : L'.length = L.length := by
  by_cases h : e = 0
  · rcases (write_ok hF hz).1 h with ⟨-, h⟩ | ⟨n, o, hn, -, -, -, -, h, -⟩
    · rw [h]
    · rw [h, data_len]
  · rw [(write_ok hF hz).2 h]
theorem cut_len {L : List Ino} {m b : Int} (hF : FitP L m b) {k z : Int} {L' : List Ino} {e : Int} (hz : cutW L b k z = (L', e)) : L'.length = L.length := by
  by_cases h : e = 0
  · obtain ⟨n, o, hn, -, -, -, -, h, -⟩ := (cut_ok hF hz).1 h
    rw [h, data_len]
  · rw [(cut_ok hF hz).2 h]
theorem write_fit {L : List Ino} {m b : Int} (hF : FitP L m b) {k off : Int} {s : List UInt8} {L' : List Ino} {e : Int} (hz : writeW L b k off s = (L', e)) : FitP L' m b := by
  by_cases h : e = 0
  · rcases (write_ok hF hz).1 h with ⟨-, h⟩ | ⟨n, o, hn, -, -, -, -, -, h⟩
    · rw [h]; exact hF
    · exact h
  · rw [(write_ok hF hz).2 h]; exact hF
theorem cut_fit {L : List Ino} {m b : Int} (hF : FitP L m b) {k z : Int} {L' : List Ino} {e : Int} (hz : cutW L b k z = (L', e)) : FitP L' m b := by
  by_cases h : e = 0
  · obtain ⟨n, o, hn, -, -, -, -, -, h⟩ := (cut_ok hF hz).1 h
    exact h
  · rw [(cut_ok hF hz).2 h]; exact hF
theorem data_get {L : List Ino} {k : Nat} (hk : k < L.length) (d : List UInt8) (h : k < (dataL L k d).length) : (dataL L k d)[k] = { L[k] with data := d } := by
  have h1 := data_node hk d
  rw [node_nat _ k h] at h1
  exact h1
/-- A file that was cut to nothing and written has just what was written. -/
theorem fresh_data {L : List Ino} {m b : Int} (hF : FitP L m b) {k : Int} {s : List UInt8} {La Lb : List Ino} (h1 : cutW L b k 0 = (La, 0)) (h2 : writeW La b k 0 s = (Lb, 0)) : ∃ n : Nat, ∃ hn : n < Lb.length, k = (n : Int) ∧ Lb[n].data = s := by
  obtain ⟨n, o, hn, rfl, ho, -, -, hLa, hFa⟩ := (cut_ok hF h1).1 rfl
  obtain rfl : o = 0 := by omega
  rw [cutL_none] at hLa
  have hna : n < La.length := by rw [hLa, data_len]; exact hn
  have hda : La[n].data = [] := by
    have h3 := data_get hn [] (by rw [data_len]; exact hn)
    subst hLa
    rw [h3]
  rcases (write_ok hFa h2).1 rfl with ⟨hs, hLb⟩ | ⟨n', o', hn', e, ho', -, -, hLb, -⟩
  · subst hLb
    exact ⟨n, hna, rfl, by rw [hda, hs]⟩
  · obtain rfl : n = n' := by omega
    obtain rfl : o' = 0 := by omega
    rw [hda, laid_fresh] at hLb
    have hnb : n < Lb.length := by rw [hLb, data_len]; exact hna
    refine ⟨n, hnb, rfl, ?_⟩
    have h3 := data_get hna s (by rw [data_len]; exact hna)
    subst hLb
    rw [h3]
theorem data_used {L : List Ino} {k : Nat} (hk : k < L.length) (d : List UInt8) : usedB (dataL L k d) + L[k].data.length = usedB L + d.length := by
  unfold dataL
  rw [node_nat L k hk]
  exact usedB_set L k hk _
theorem file_data {L : List Ino} {k : Nat} (hk : k < L.length) (h1 : L[k].kind = 1) (d : List UInt8) : fileW (dataL L k d) (k : Int) = 0 := by
  unfold fileW
  rw [there_of _ k (by rw [data_len]; exact hk), data_node hk d]
  simp [h1]
/-- Two writings, one right behind the other, are one of both. -/
theorem two_same {L : List Ino} {m b : Int} (hF : FitP L m b) {k off : Int} {s r : List UInt8} (hs : s ≠ []) {La : List Ino} (h1 : writeW L b k off s = (La, 0)) {Lc Ld : List Ino} {ec ed : Int} (hc : writeW La b k (off + (s.length : Int)) r = (Lc, ec)) (hd : writeW L b k off (s ++ r) = (Ld, ed)) :
    ec = ed ∧ (ec = 0 → Lc = Ld) := by
  rcases (write_ok hF h1).1 rfl with ⟨h, -⟩ | ⟨n, o, hn, rfl, rfl, hk1, hlen, hLa, hFa⟩
  · exact absurd h hs
  have hfa : fileW La (n : Int) = 0 := by rw [hLa]; exact file_data hn hk1 _
  have hfl : fileW L (n : Int) = 0 := by
    unfold fileW
    rw [there_of L n hn, node_nat L n hn]
    simp [hk1]
  have hsr : s ++ r ≠ [] := fun h => hs (List.append_eq_nil_iff.1 h).1
  by_cases hr : r = []
  · subst hr
    rw [List.append_nil, h1] at hd
    unfold writeW at hc
    rw [if_neg (by simpa using hfa), if_neg (by omega), if_pos rfl] at hc
    simp only [Prod.mk.injEq] at hc hd
    exact ⟨by omega, fun _ => by rw [← hc.1, ← hd.1]⟩
  · unfold writeW at hc hd
    rw [if_neg (by simpa using hfa), if_neg (by omega), if_neg hr] at hc
    rw [if_neg (by simpa using hfl), if_neg (by omega), if_neg hsr] at hd
    rw [List.length_append] at hd
    by_cases h27 : 65536 - ((o : Int) + (s.length : Int)) < (r.length : Int)
    · rw [if_pos (.inr h27)] at hc
      rw [if_pos (.inr (by omega))] at hd
      simp only [Prod.mk.injEq] at hc hd
      exact ⟨by omega, fun h => by omega⟩
    · rw [if_neg (by omega)] at hc hd
      have hna : n < La.length := by rw [hLa, data_len]; exact hn
      have hda : (nodeAt La (n : Int)).data = laidL L[n].data o s := by rw [hLa, data_node hn]
      unfold filledW at hc hd
      rw [hda] at hc
      rw [node_nat L n hn] at hd
      have hto : ((o : Int) + (s.length : Int)).toNat = o + s.length := by omega
      rw [hto, Int.toNat_natCast, laid_two] at hc
      rw [Int.toNat_natCast, Int.toNat_natCast] at hd
      have hu := data_used hn (laidL L[n].data o s)
      rw [← hLa] at hu
      obtain ⟨d, hdd⟩ : ∃ d, d = laidL L[n].data o (s ++ r) := ⟨_, rfl⟩
      rw [← hdd] at hc hd
      rw [node_nat L n hn] at hd
      rw [hda] at hc
      by_cases hroom : b < (usedB L : Int) - (L[n].data.length : Int) + (d.length : Int)
      · rw [if_pos (by omega)] at hc
        rw [if_pos hroom] at hd
        simp only [Prod.mk.injEq] at hc hd
        exact ⟨by omega, fun h => by omega⟩
      · rw [if_neg (by omega)] at hc
        rw [if_neg hroom] at hd
        simp only [Prod.mk.injEq] at hc hd
        refine ⟨by omega, fun _ => ?_⟩
        rw [← hc.1, ← hd.1, hLa, data_two hn]
/-- A file that is cut to what it has is as it was. -/
theorem cut_self {L : List Ino} {m b : Int} (hF : FitP L m b) {n : Nat} (hn : n < L.length) (h1 : L[n].kind = 1) (hs : L[n].data.length ≤ 65536) : cutW L b (n : Int) (L[n].data.length : Int) = (L, 0) := by
  obtain ⟨-, -, -, l4, -⟩ := hF.limits
  have hfl : fileW L (n : Int) = 0 := by
    unfold fileW
    rw [there_of L n hn, node_nat L n hn]
    simp [h1]
  unfold cutW
  rw [if_neg (by simpa using hfl), if_neg (by omega), if_neg (by omega)]
  unfold filledW
  rw [Int.toNat_natCast, Int.toNat_natCast, node_nat L n hn, cutL_same, if_neg (by omega)]
  have := data_back hn L[n].data
  rw [data_two hn] at this
  rw [this]
/-- What is written is read. -/
theorem read_back {L : List Ino} {n : Nat} (hn : n < L.length) (h1 : L[n].kind = 1) (o : Nat) (s : List UInt8) : readW (dataL L n (laidL L[n].data o s)) (n : Int) (o : Int) (s.length : Int) = (s, 0) := by
  unfold readW
  rw [if_neg (by simpa using file_data hn h1 _), if_neg (by omega), data_node hn]
  rw [Int.toNat_natCast, Int.toNat_natCast]
  show (((laidL L[n].data o s).drop o).take s.length, (0 : Int)) = (s, 0)
  rw [laid_read]
end Go.Proofs.Ytblmlgpajmaliaa
