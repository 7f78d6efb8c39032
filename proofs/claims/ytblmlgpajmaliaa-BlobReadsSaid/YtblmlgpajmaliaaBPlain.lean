/-
  Chapter 7 in plain words: bytes of files, written and cut; what follows.
-/
import Derived.Test.YtblmlgpajmaliaaMkPlain
namespace Go.Proofs.Ytblmlgpajmaliaa
set_option maxRecDepth 100000
open Go Go.RowKit

/-- What is asked of an inode ahead of all else. -/
def fileW (L : List Ino) (k : Int) : Int :=
  if thereB L k = false ∨ (nodeAt L k).kind = 0 then 2 else if (nodeAt L k).kind = 2 then 21 else if (nodeAt L k).kind ≠ 1 then 22 else 0
/-- A file's bytes where s was written at off. -/
def laidL (old : List UInt8) (off : Nat) (s : List UInt8) : List UInt8 := (old ++ List.replicate (off - old.length) 0).take off ++ s ++ old.drop (off + s.length)
/-- A file's bytes where it was cut to n. -/
def cutL (old : List UInt8) (n : Nat) : List UInt8 := old.take n ++ List.replicate (n - old.length) 0
def readW (L : List Ino) (k off n : Int) : List UInt8 × Int :=
  if fileW L k ≠ 0 then ([], fileW L k) else if off < 0 ∨ n < 0 then ([], 22) else (((nodeAt L k).data.drop off.toNat).take n.toNat, 0)
/-- A tree in which an inode has other bytes. -/
def dataL (L : List Ino) (k : Nat) (d : List UInt8) : List Ino := L.set k { nodeAt L k with data := d }
def filledW (L : List Ino) (b : Int) (k : Nat) (d : List UInt8) : List Ino × Int :=
  if b < (usedB L : Int) - ((nodeAt L k).data.length : Int) + (d.length : Int) then (L, 28) else (dataL L k d, 0)
def writeW (L : List Ino) (b : Int) (k off : Int) (s : List UInt8) : List Ino × Int :=
  if fileW L k ≠ 0 then (L, fileW L k) else if off < 0 then (L, 22) else if s = [] then (L, 0) else if 65536 < off ∨ 65536 - off < (s.length : Int) then (L, 27) else
  filledW L b k.toNat (laidL (nodeAt L k).data off.toNat s)
def cutW (L : List Ino) (b : Int) (k n : Int) : List Ino × Int :=
  if fileW L k ≠ 0 then (L, fileW L k) else if n < 0 then (L, 22) else if 65536 < n then (L, 27) else filledW L b k.toNat (cutL (nodeAt L k).data n.toNat)

theorem ahead_len (old : List UInt8) (off : Nat) : ((old ++ List.replicate (off - old.length) 0).take off).length = off := by
  rw [List.length_take, List.length_append, List.length_replicate]
  omega
theorem laid_len (old : List UInt8) (off : Nat) (s : List UInt8) : (laidL old off s).length = off + s.length + (old.length - (off + s.length)) := by
  unfold laidL
  rw [List.length_append, List.length_append, ahead_len, List.length_drop]
theorem cutL_len (old : List UInt8) (n : Nat) : (cutL old n).length = n := by
  unfold cutL
  rw [List.length_append, List.length_take, List.length_replicate]
  omega
/-- What is written is read. -/
theorem laid_read (old : List UInt8) (off : Nat) (s : List UInt8) : ((laidL old off s).drop off).take s.length = s := by
  unfold laidL
  rw [List.append_assoc, List.drop_append_of_le_length (by rw [ahead_len]; exact Nat.le_refl _), List.drop_of_length_le (by rw [ahead_len]; exact Nat.le_refl _), List.nil_append, List.take_append_of_le_length (Nat.le_refl _), List.take_length]
theorem pad_get (old : List UInt8) (z i : Nat) : (old ++ List.replicate z 0)[i]? = if i < old.length then old[i]? else if i < old.length + z then some 0 else none := by
  rw [List.getElem?_append]
  by_cases h : i < old.length
  · rw [if_pos h, if_pos h]
  · rw [if_neg h, if_neg h, List.getElem?_replicate]
    by_cases h2 : i < old.length + z
    · rw [if_pos h2, if_pos (by omega)]
    · rw [if_neg h2, if_neg (by omega)]
/-- What stood ahead and behind stays; bytes 0 lie between. -/
theorem laid_get (old : List UInt8) (off : Nat) (s : List UInt8) (i : Nat) : (laidL old off s)[i]? = if i < off then (if i < old.length then old[i]? else some 0) else if i < off + s.length then s[i - off]? else old[i]? := by
  unfold laidL
  rw [List.getElem?_append, List.length_append, ahead_len]
  by_cases h1 : i < off
  · rw [if_pos h1, if_pos (by omega), List.getElem?_append, ahead_len, if_pos h1, List.getElem?_take, if_pos h1, pad_get]
    by_cases h2 : i < old.length
    · rw [if_pos h2, if_pos h2]
    · rw [if_neg h2, if_neg h2, if_pos (by omega)]
  · rw [if_neg h1]
    by_cases h2 : i < off + s.length
    · rw [if_pos h2, if_pos h2, List.getElem?_append, ahead_len, if_neg h1]
    · rw [if_neg h2, if_neg h2, List.getElem?_drop]
      congr 1
      omega
theorem cutL_get (old : List UInt8) (n i : Nat) : (cutL old n)[i]? = if i < n then (if i < old.length then old[i]? else some 0) else none := by
  unfold cutL
  rw [List.getElem?_append, List.length_take]
  by_cases h1 : i < n
  · rw [if_pos h1]
    by_cases h2 : i < old.length
    · rw [if_pos (by omega), if_pos h2, List.getElem?_take, if_pos h1]
    · rw [if_neg (by omega), if_neg h2, List.getElem?_replicate, if_pos (by omega)]
  · rw [if_neg h1, if_neg (by omega), List.getElem?_replicate, if_neg (by omega)]
/-- Two writings, one right behind the other. -/
theorem laid_two (old : List UInt8) (off : Nat) (s r : List UInt8) : laidL (laidL old off s) (off + s.length) r = laidL old off (s ++ r) := by
  refine List.ext_getElem? fun i => ?_
  rw [laid_get, laid_get, laid_len, laid_get, List.length_append]
  by_cases h1 : i < off
  · rw [if_pos (show i < off + s.length by omega), if_pos (by omega), if_pos h1, if_pos h1]
  · by_cases h2 : i < off + s.length
    · rw [if_pos h2, if_pos (by omega), if_neg h1, if_pos h2, if_neg h1, if_pos (by omega), List.getElem?_append, if_pos (by omega)]
    · rw [if_neg h2]
      by_cases h3 : i < off + s.length + r.length
      · rw [if_pos h3, if_neg h1, if_pos (by omega), List.getElem?_append, if_neg (by omega)]
        congr 1
        omega
      · rw [if_neg h3, if_neg h1, if_neg h2, if_neg h1, if_neg (by omega)]
theorem cutL_none (old : List UInt8) : cutL old 0 = [] := List.length_eq_zero_iff.1 (cutL_len old 0)
theorem cutL_same (old : List UInt8) : cutL old old.length = old := by
  unfold cutL
  rw [List.take_length, Nat.sub_self]
  exact List.append_nil _
theorem laid_fresh (s : List UInt8) : laidL [] 0 s = s := by
  unfold laidL
  simp
theorem data_len (L : List Ino) (k : Nat) (d : List UInt8) : (dataL L k d).length = L.length := List.length_set ..
section
variable {L : List Ino} {m b : Int}
theorem file_ok {k : Int} (h : fileW L k = 0) : ∃ n : Nat, ∃ hn : n < L.length, k = (n : Int) ∧ L[n].kind = 1 := by
  unfold fileW at h
  split at h
  · exact absurd h (by decide)
  rename_i h1
  split at h
  · exact absurd h (by decide)
  split at h
  · exact absurd h (by decide)
  rename_i h3
  have ht : thereB L k = true := by simpa using fun e => h1 (.inl e)
  obtain ⟨n, rfl, hn⟩ := there_nat ht
  exact ⟨n, hn, rfl, by rw [node_nat L n hn] at h3; omega⟩
/-- Other bytes of a file that find room. -/
theorem data_puts (hF : FitP L m b) {k : Nat} (hk : k < L.length) (h1 : L[k].kind = 1) {d : List UInt8} (hd : ¬ b < (usedB L : Int) - (L[k].data.length : Int) + (d.length : Int)) : Puts L m b k { L[k] with data := d } := by
  refine ⟨hF, hk, rfl, rfl, rfl, rfl, ?_, by show (usedB L : Int) + d.length ≤ b + L[k].data.length; omega⟩
  have ha := (hF.ins k hk).1
  unfold aloneB at ha ⊢
  rw [h1] at ha
  show (if L[k].kind = 0 then _ else if L[k].mode < 0 ∨ 7 < L[k].mode then false else if L[k].kind = 1 then decide (L[k].kids.length = 0) && (L[k].up == 0) else _) = true
  rw [h1]
  simpa using ha
/-- What a writing or a cut tells. -/
theorem filled_ok (hF : FitP L m b) {k : Nat} (hk : k < L.length) (h1 : L[k].kind = 1) {d : List UInt8} {L' : List Ino} {e : Int} (hz : filledW L b k d = (L', e)) :
    (e = 0 → L' = dataL L k d ∧ FitP L' m b) ∧ (e ≠ 0 → L' = L ∧ e = 28) := by
  unfold filledW at hz
  rw [node_nat L k hk] at hz
  split at hz
  · obtain ⟨rfl, rfl⟩ := Prod.mk.inj hz
    exact ⟨fun h => absurd h (by decide), fun _ => ⟨rfl, rfl⟩⟩
  · rename_i h
    obtain ⟨rfl, rfl⟩ := Prod.mk.inj hz
    refine ⟨fun _ => ⟨rfl, ?_⟩, fun h => absurd rfl h⟩
    unfold dataL
    rw [node_nat L k hk]
    exact (data_puts hF hk h1 h).fits
/-- What Write tells, where it tells no error. -/
theorem write_ok (hF : FitP L m b) {k off : Int} {s : List UInt8} {L' : List Ino} {e : Int} (hz : writeW L b k off s = (L', e)) :
    (e = 0 → (s = [] ∧ L' = L) ∨ ∃ n o : Nat, ∃ hn : n < L.length, k = (n : Int) ∧ off = (o : Int) ∧ L[n].kind = 1 ∧ o + s.length ≤ 65536 ∧ L' = dataL L n (laidL L[n].data o s) ∧ FitP L' m b) ∧ (e ≠ 0 → L' = L) := by
  unfold writeW at hz
  by_cases h0 : fileW L k = 0
  · rw [if_neg (by simpa using h0)] at hz
    obtain ⟨n, hn, rfl, h1⟩ := file_ok h0
    split at hz
    · obtain ⟨rfl, rfl⟩ := Prod.mk.inj hz
      exact ⟨fun h => absurd h (by decide), fun _ => rfl⟩
    rename_i h2
    split at hz
    · rename_i h3
      obtain ⟨rfl, rfl⟩ := Prod.mk.inj hz
      exact ⟨fun _ => .inl ⟨h3, rfl⟩, fun h => absurd rfl h⟩
    split at hz
    · obtain ⟨rfl, rfl⟩ := Prod.mk.inj hz
      exact ⟨fun h => absurd h (by decide), fun _ => rfl⟩
    rename_i h4
    rw [Int.toNat_natCast, node_nat L n hn] at hz
    obtain ⟨p1, p2⟩ := filled_ok hF hn h1 hz
    refine ⟨fun h => .inr ⟨n, off.toNat, hn, rfl, by omega, h1, by omega, (p1 h).1, (p1 h).2⟩, fun h => (p2 h).1⟩
  · rw [if_pos h0] at hz
    obtain ⟨rfl, rfl⟩ := Prod.mk.inj hz
    exact ⟨fun h => absurd h h0, fun _ => rfl⟩
/-- What Cut tells, where it tells no error. -/
theorem cut_ok (hF : FitP L m b) {k z : Int} {L' : List Ino} {e : Int} (hz : cutW L b k z = (L', e)) :
    (e = 0 → ∃ n o : Nat, ∃ hn : n < L.length, k = (n : Int) ∧ z = (o : Int) ∧ L[n].kind = 1 ∧ o ≤ 65536 ∧ L' = dataL L n (cutL L[n].data o) ∧ FitP L' m b) ∧ (e ≠ 0 → L' = L) := by
  unfold cutW at hz
  by_cases h0 : fileW L k = 0
  · rw [if_neg (by simpa using h0)] at hz
    obtain ⟨n, hn, rfl, h1⟩ := file_ok h0
    split at hz
    · obtain ⟨rfl, rfl⟩ := Prod.mk.inj hz
      exact ⟨fun h => absurd h (by decide), fun _ => rfl⟩
    rename_i h2
    split at hz
    · obtain ⟨rfl, rfl⟩ := Prod.mk.inj hz
      exact ⟨fun h => absurd h (by decide), fun _ => rfl⟩
    rename_i h3
    rw [Int.toNat_natCast, node_nat L n hn] at hz
    obtain ⟨p1, p2⟩ := filled_ok hF hn h1 hz
    exact ⟨fun h => ⟨n, z.toNat, hn, rfl, by omega, h1, by omega, (p1 h).1, (p1 h).2⟩, fun h => (p2 h).1⟩
  · rw [if_pos h0] at hz
    obtain ⟨rfl, rfl⟩ := Prod.mk.inj hz
    exact ⟨fun h => absurd h h0, fun _ => rfl⟩
theorem data_node {k : Nat} (hk : k < L.length) (d : List UInt8) : nodeAt (dataL L k d) (k : Int) = { L[k] with data := d } := by
  rw [node_nat _ k (by rw [data_len]; exact hk)]
  simp only [dataL, List.getElem_set_self, node_nat L k hk]
theorem data_back {k : Nat} (hk : k < L.length) (d : List UInt8) : dataL (dataL L k d) k L[k].data = L := by
  unfold dataL
  have h := data_node hk d
  unfold dataL at h
  rw [h, List.set_set]
  show L.set k L[k] = L
  exact List.set_getElem_self hk
theorem data_two {k : Nat} (hk : k < L.length) (d d' : List UInt8) : dataL (dataL L k d) k d' = dataL L k d' := by
  have h := data_node hk d
  unfold dataL at h ⊢
  rw [h, List.set_set, node_nat L k hk]
end
end Go.Proofs.Ytblmlgpajmaliaa
