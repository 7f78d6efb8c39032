/-
  own, partOf, wants, dirAt, reach of the landed glob.
  wants, dirAt, reach of the landed glob.
  namesIn of the landed glob: what may stand in a directory in a part's place.
  names of the landed glob: a function that asks each directory just once.
  parts of the landed glob: an iterator over a pattern's parts.
  What an iterator over the paths behind a part keeps, in plain words.
  behind of the landed glob: an iterator over the paths that those so far give way to.
  rising and begin of the landed glob.
  What Expand's two loops keep, in plain words.
-/
import Derived.Lib.MinMax
import Derived.Laws.CopyOwn
import Derived.Test.YtclhpedecimicaaGreatK20
import Derived.Test.YtclhpedecimicaaGreatK6
import Derived.Test.YtclhpedecimicaaGreatK21
import Derived.Test.YtclhpedecimicaaGreatShelf
import Derived.BigRegion
import Derived.Test.YtclhpedecimicaaGreatK12
import Derived.Test.YtclhpedecimicaaGreatK11
import Derived.Sort.OwnSorted
namespace Go.Proofs.YtclhpedecimicaaGreat
set_option maxRecDepth 100000
open Go Go.RowKit

abbrev sv (l : List UInt8) : Value := .string ⟨l.toArray⟩
def srV (a : Option Addr) (n cap : Nat) (m b cwd : Int) : Value := .agg #[.slice a n cap, .int .i64 m, .int .i64 b, .int .i64 cwd]
def ptC (x : Pt) : Array Value := #[sv x.t, sv x.q, .bool (magB x.L), .bool x.sl]
def ptV (x : Pt) : Value := .agg (ptC x)
def fdC (f : Fd) : Array Value := #[sv f.1, .int .i64 f.2]
def fdV (f : Fd) : Value := .agg (fdC f)
theorem sv_size (l : List UInt8) : (⟨l.toArray⟩ : ByteArray).size = l.length := by show l.toArray.size = _; simp

theorem slice_both (s : ByteArray) (y z : Int) (f n : Nat) (hy : y = (f : Int)) (hz : z = (n : Int)) (hf : f ≤ n) (hn : n ≤ s.size) (W : World) : (Instr.slice 9 (.string s) (some (.int .i64 y)) (some (.int .i64 z)) none).run Tryz.prog W = .ok (.string ⟨((s.data.toList.take n).drop f).toArray⟩) W := by
  subst hy hz
  have h := run_slice_string (P := Tryz.prog) (w := W) 9 s .i64 .i64 (f : Int) (n : Int) Tryz.underlying9 (by omega) (by omega) (by omega)
  rw [Int.toNat_natCast, Int.toNat_natCast, cut_text s f n _ rfl] at h
  exact h
theorem own_eq (l : List UInt8) (a e : Nat) (h : a ≤ e) : (l.take (min e l.length)).drop (min a l.length) = (l.drop a).take (e - a) := by
  rw [List.drop_take, drop_min]
  by_cases h1 : a ≤ l.length
  · by_cases h2 : e ≤ l.length
    · rw [Nat.min_eq_left h1, Nat.min_eq_left h2]
    · rw [Nat.min_eq_left h1, Nat.min_eq_right (by omega), List.take_of_length_le (by rw [List.length_drop]; exact Nat.le_refl _), List.take_of_length_le (by rw [List.length_drop]; omega)]
  · rw [List.drop_of_length_le (show l.length ≤ a by omega), List.take_nil, List.take_nil]

set_option maxHeartbeats 4000000 in
theorem lown (q : ByteArray) (a e : Nat) (ha : a ≤ e) (w : World) : Calls Tryz.prog 38 #[.string q, .int .i64 a, .int .i64 e] w fun r w' => r = .returned (sv ((q.data.toList.drop a).take (e - a))) ∧ w = w' := by
  have h := slice_both q (min (a : Int) (q.size : Int)) (min (e : Int) (q.size : Int)) (min a q.size) (min e q.size) (by omega) (by omega) (by omega) (by omega)
  rw [show (q.data.toList.take (min e q.size)).drop (min a q.size) = (q.data.toList.drop a).take (e - a) from by have := own_eq q.data.toList a e ha; rw [size_data] at this; exact this] at h
  obtain ⟨x, hx⟩ : ∃ x, x = (q.data.toList.drop a).take (e - a) := ⟨_, rfl⟩
  rw [← hx] at h ⊢
  clear hx
  go_enter Tryz.func38, Tryz.ntmps38
  go_wp2_with fail
  go_ret
  exact ⟨rfl, rfl⟩

/-- A box of some cells: stored as a whole, read as a whole. -/
theorem row_done (T : TypeId) (d : TypeDesc) (hu : Tryz.prog.underlying T = some d) (hd : d.isRow = true) (K : Nat) (cs old : Array Value) (t : TypeId) (W : World) (h : W.heap[K]? = some (.cells old t (0, 0))) (hi : (Tryz.prog.info? T).map (·.size) = some cs.size) :
    (loadVar T ⟨K, 0, none⟩).run Tryz.prog (W.setRow K cs) = .ok (.agg cs) (W.setRow K cs) := by
  have h2 := run_loadVar_mid (P := Tryz.prog) (W.setRow K cs) K 0 T cs.toList d (fun j v hv => by
    rw [Nat.zero_add, cell_setRow_same _ _ _ _ _ _ _ h, ← Array.getElem?_toList]; exact hv) hu hd (by rw [hi]; simp)
  simpa using h2
theorem part_info : (Tryz.prog.info? 54).map (·.size) = some 4 := by kernel_rfl
theorem found_info : (Tryz.prog.info? 59).map (·.size) = some 2 := by kernel_rfl
theorem pt_one (x : Pt) : (ptC x).all (·.oneCell') = true := by unfold ptC sv; simp [Value.oneCell']
theorem fd_one (f : Fd) : (fdC f).all (·.oneCell') = true := by unfold fdC sv; simp [Value.oneCell']

theorem partof_res (tmps : Array Value) (W : World) (k : Nat) (v : Value) (h6 : tmps.getD 6 undef = .pointer (some ⟨k, 0, none⟩)) (hl : (loadVar 54 ⟨k, 0, none⟩).run Tryz.prog W = .ok v W) : (results Tryz.f37 tmps).run Tryz.prog W = .ok v W := by
  have g6 : tmps[6]?.getD undef = .pointer (some ⟨k, 0, none⟩) := by simpa using h6
  simp [results, Tryz.results37, asAddr, Sem.run_bind]
  rw [g6]
  simp [hl]
set_option maxHeartbeats 4000000 in
theorem lpartof (x : Pt) (ht : x.t.length ≤ 100000) (w : World) : Calls Tryz.prog 37 #[sv x.t, sv x.q, .bool x.sl] w fun e w' => e = .returned (ptV x) ∧ Below w.heap.size w w' := by
  have C1 := fun W => lmagic ⟨x.t.toArray⟩ ⟨x.q.toArray⟩ (by rw [sv_size]; exact ht) W
  rw [show magB (plL (⟨x.t.toArray⟩ : ByteArray).data.toList (⟨x.q.toArray⟩ : ByteArray).data.toList) = magB x.L from rfl] at C1
  obtain ⟨o, ho⟩ : ∃ o, o = Obj.cells #[.string ⟨#[]⟩, .string ⟨#[]⟩, .bool false, .bool false] 54 (0, 0) := ⟨_, rfl⟩
  have HB0 := Lib.hid (below_box w o)
  have HN0 := Lib.hid (new_block w o)
  have HO := Lib.hid ho
  have HP := Lib.hid (show ptC x = #[sv x.t, sv x.q, .bool (magB x.L), .bool x.sl] from rfl)
  unfold ptV
  obtain ⟨v, hv⟩ : ∃ v, v = magB x.L := ⟨_, rfl⟩
  rw [← hv] at C1 HP
  have HPO := Lib.hid (pt_one x)
  have HPS := Lib.hid (show (ptC x).size = 4 from rfl)
  obtain ⟨C, hC⟩ : ∃ C, C = ptC x := ⟨_, rfl⟩
  rw [← hC] at HP HPO HPS ⊢
  clear hv hC ho
  go_enter Tryz.func37, Tryz.ntmps37
  go_wp2_with fail
  rw [← HO.out]
  refine (C1 _).mono ?_
  rintro e w1 ⟨rfl, hb⟩
  have HB1 := Lib.hid (below_two HB0.out hb)
  have HN1 := Lib.hid (show w1.heap[w.heap.size]? = some (.cells #[.string ⟨#[]⟩, .string ⟨#[]⟩, .bool false, .bool false] 54 (0, 0)) by rw [← HO.out]; exact kept hb HN0.out)
  clear hb
  have HBF := Lib.hid (below_setRow HB1.out (Nat.le_refl _) C)
  have HLV := Lib.hid (row_done 54 _ Tryz.underlying54 rfl w.heap.size C _ _ w1 HN1.out (by rw [part_info, HPS.out]))
  go_wp2_with (first | (refine wpList_store_row rfl _ _ _ rfl w.heap.size C rfl (by rw [HP.out]; rfl) _ _ HN1.out (by rw [part_info, HPS.out]) (by rw [HPS.out]; rfl) HPO.out ?_) | fail)
  exact bodyPost_ret (v := .agg C) (partof_res _ _ _ _ rfl HLV.out) rfl ⟨rfl, HBF.out⟩
end Go.Proofs.YtclhpedecimicaaGreat

namespace Go.Proofs.YtclhpedecimicaaGreat
set_option maxRecDepth 100000
open Go Go.RowKit

theorem pl_head (t q : List UInt8) : (plL t q).head?.map Prod.fst = t.head? := by
  cases t with
  | nil => rfl
  | cons c r => cases q <;> rfl
theorem pre_dot (n : List UInt8) : Lib.hasPrefix n [46] = (n.head? == some 46) := by
  unfold Lib.hasPrefix
  cases n with
  | nil => rfl
  | cons c r =>
    by_cases h : c = 46
    · subst h; simp
    · have h2 : ((46 : UInt8) == c) = false := by rw [beq_eq_false_iff_ne]; exact fun e => h e.symm
      simp [List.isPrefixOf, h2, h]

set_option maxHeartbeats 4000000 in
theorem lgwants (x : Pt) (ht : x.t ≠ []) (htl : x.t.length ≤ 100000) (n : ByteArray) (hn : n.size ≤ 100000) (w : World) : Calls Tryz.prog 71 #[ptV x, .string n] w fun e w' => e = .returned (.bool (wantsW x.L n.data.toList)) ∧ Below w.heap.size w w' := by
  have C1 := fun W => Tryz.strings_HasPrefix n ⟨#[46]⟩ W
  rw [show Lib.hasPrefix n.data.toList (⟨#[46]⟩ : ByteArray).data.toList = (n.data.toList.head? == some 46) from pre_dot _] at C1
  have C2 := fun W => lmatch ⟨x.t.toArray⟩ ⟨x.q.toArray⟩ n (by rw [sv_size]; exact htl) hn W
  rw [show decide (Mat (raw (plL (⟨x.t.toArray⟩ : ByteArray).data.toList (⟨x.q.toArray⟩ : ByteArray).data.toList)) n.data.toList) = decide (Mat (raw x.L) n.data.toList) from rfl] at C2
  have HWA := Lib.hid (show wantsW x.L n.data.toList = (!((n.data.toList.head? == some 46) && x.t.head? != some 46) && decide (Mat (raw x.L) n.data.toList)) from by unfold wantsW Pt.L; rw [pl_head])
  obtain ⟨v, hv⟩ : ∃ v, v = decide (Mat (raw x.L) n.data.toList) := ⟨_, rfl⟩
  rw [← hv] at C2 HWA
  obtain ⟨d, hd⟩ : ∃ d, d = (n.data.toList.head? == some 46) := ⟨_, rfl⟩
  rw [← hd] at C1 HWA
  rw [HWA.out]
  clear hv hd
  obtain ⟨c, r, hcr⟩ : ∃ c r, x.t = c :: r := by
    cases h : x.t with
    | nil => exact absurd h ht
    | cons c r => exact ⟨c, r, rfl⟩
  rw [hcr, List.head?_cons]
  have HB0 := Lib.hid (below_box w (.cells (ptC x) 54))
  have HN0 := Lib.hid (new_block w (.cells (ptC x) 54))
  unfold ptV
  have HP := Lib.hid (show ptC x = #[sv x.t, sv x.q, .bool (magB x.L), .bool x.sl] from rfl)
  rw [HP.out] at HB0 HN0 ⊢
  obtain ⟨T, hT⟩ : ∃ T : ByteArray, T = ⟨x.t.toArray⟩ := ⟨_, rfl⟩
  have hT0 : 0 < T.size := by rw [hT, sv_size, hcr]; simp
  have hTc : T[0] = c := by
    have h3 : T.data.toList = c :: r := by rw [hT, hcr]
    have h2 : T.data.toList[0]'(by rw [h3]; simp) = c := by simp [h3]
    exact h2
  unfold sv at HB0 HN0 ⊢
  rw [← hT] at C2 HB0 HN0 ⊢
  obtain ⟨Q, hQ⟩ : ∃ Q : ByteArray, Q = ⟨x.q.toArray⟩ := ⟨_, rfl⟩
  rw [← hQ] at C2 HB0 HN0 ⊢
  obtain ⟨mg, hmg⟩ : ∃ mg, mg = magB x.L := ⟨_, rfl⟩
  rw [← hmg] at HB0 HN0 ⊢
  obtain ⟨o, ho⟩ : ∃ o, o = Obj.cells #[.string T, .string Q, .bool mg, .bool x.sl] 54 (0, 0) := ⟨_, rfl⟩
  have HO := Lib.hid ho
  rw [← ho] at HB0 HN0
  clear HWA HP hcr hT hQ hmg ho ht htl
  have hc0 : (w.alloc o).heap[w.heap.size]? = some (Obj.cells #[.string T, .string Q, .bool mg, .bool x.sl] 54 (0, 0)) := by rw [← HO.out]; exact HN0.out
  have d0 := blk_cell hc0 0
  have d1 := blk_cell hc0 1
  have hT0i : (0 : Int) < (T.size : Int) := by omega
  clear hc0
  cases d with
  | false =>
    go_enter Tryz.func71, Tryz.ntmps71
    go_wp2_with fail
    rw [← HO.out]
    refine (C1 _).mono ?_
    rintro e w1 ⟨rfl, rfl⟩
    go_wp2_with fail
    refine (C2 _).mono ?_
    rintro e w2 ⟨rfl, hb⟩
    have HB1 := Lib.hid (below_two HB0.out hb)
    clear hb
    go_wp2_with fail
    go_ret
    exact ⟨by simp, HB1.out⟩
  | true =>
    by_cases h46 : c = 46
    · have hne : ((T[0].toNat : Int) == 46) = true := by rw [hTc, h46]; rfl
      have hne2 : (T[0].toNat : Int) = 46 := by rw [hTc, h46]; rfl
      go_enter Tryz.func71, Tryz.ntmps71
      go_wp2_with fail
      rw [← HO.out]
      refine (C1 _).mono ?_
      rintro e w1 ⟨rfl, rfl⟩
      go_wp2_with fail
      refine (C2 _).mono ?_
      rintro e w2 ⟨rfl, hb⟩
      have HB1 := Lib.hid (below_two HB0.out hb)
      clear hb
      go_wp2_with fail
      go_ret
      exact ⟨by rw [h46]; simp, HB1.out⟩
    · have hne : ((c.toNat : Int) != 46) = true := by
        rw [bne_iff_ne]
        intro e
        exact h46 (UInt8.toNat_inj.1 (by simpa using Int.ofNat.inj e))
      go_enter Tryz.func71, Tryz.ntmps71
      go_wp2_with fail
      rw [← HO.out]
      refine (C1 _).mono ?_
      rintro e w1 ⟨rfl, rfl⟩
      go_wp2_with fail
      go_ret
      exact ⟨by simp [h46], HB0.out⟩

theorem dirAt_live {L : List Ino} {m b : Int} (hF : FitP L m b) {cwd : Int} {path : List UInt8} {z : Int} (h : walkW L cwd path true = (z, 0)) : ∃ u : Nat, z = (u : Int) ∧ u < L.length := by
  have h2 := (walk_ends hF cwd path).2 (by rw [h])
  rw [h] at h2
  exact there_nat (live_there h2.1)
theorem walk_zero {L : List Ino} {m b : Int} (hF : FitP L m b) {cwd : Int} {path : List UInt8} {z e : Int} (h : walkW L cwd path true = (z, e)) (he : e ≠ 0) : z = 0 := by
  have h2 := (walk_ends hF cwd path).1 (by rw [h]; exact he)
  rw [h] at h2; exact h2

set_option maxHeartbeats 4000000 in
theorem ldirat (a : Option Addr) (cap : Nat) (m b cwd : Int) (pb : ByteArray) (hp : pb.size ≤ 1073741824) (L : List Ino) (hF : FitP L m b) (w : World) (hN : NodesIn w a cap L) :
    Calls Tryz.prog 34 #[srV a L.length cap m b cwd, .string pb] w fun e w' => e = .returned (.tuple #[.int .i64 (dirAtW L cwd pb.data.toList).1, .bool (dirAtW L cwd pb.data.toList).2]) ∧ Below w.heap.size w w' := by
  obtain ⟨z, e, hze⟩ : ∃ z e, walkW L cwd pb.data.toList true = (z, e) := ⟨_, _, rfl⟩
  have HD := Lib.hid (show dirAtW L cwd pb.data.toList = (z, e == 0 && dirB L z) from by unfold dirAtW; rw [hze])
  rw [HD.out]
  unfold srV
  have hb0 := below_box w (.cells #[.slice a L.length cap, .int .i64 m, .int .i64 b, .int .i64 cwd] 47)
  have hc0 := new_block w (.cells #[.slice a L.length cap, .int .i64 m, .int .i64 b, .int .i64 cwd] 47)
  have C1 := fun (W : World) (hW : NodesIn W a cap L) => lwalk_known a cap m b cwd pb hp true L hF z e hze W hW
  obtain ⟨o, ho⟩ : ∃ o, o = Obj.cells #[.slice a L.length cap, .int .i64 m, .int .i64 b, .int .i64 cwd] 47 (0, 0) := ⟨_, rfl⟩
  have HO := Lib.hid ho
  rw [← ho] at hb0 hc0
  have HC := Lib.hid (fun (W : World) (h : Below (w.alloc o).heap.size (w.alloc o) W) => show W.heap[w.heap.size]? = some (Obj.cells #[.slice a L.length cap, .int .i64 m, .int .i64 b, .int .i64 cwd] 47 (0, 0)) by rw [← ho]; exact kept h hc0)
  have HM := Lib.hid (hN.below hb0)
  have HB0 := Lib.hid hb0
  have c00 := HC.out _ (Below.refl _ _)
  have d0 := blk_cell c00 0
  have d1 := blk_cell c00 1
  have d2 := blk_cell c00 2
  have d3 := blk_cell c00 3
  have hLL := hN.1
  have hLM := hN.2.1
  unfold maxLen at hLM
  clear hb0 hc0 ho c00 hN
  by_cases he : e = 0
  · subst he
    obtain ⟨u, rfl, hu⟩ := dirAt_live hF hze
    have hu0 : (0 : Int) ≤ (u : Int) := by omega
    have hu1 : (u : Int) < (L.length : Int) := by omega
    have HDB := Lib.hid (show (L[u].kind == 2) = dirB L (u : Int) by unfold dirB; rw [there_of L u hu, node_nat L u hu]; simp)
    clear hze
    obtain ⟨bb, o6, rfl, hx⟩ := HM.out.2.2 u hu
    have HXK := Lib.hid hx.kind
    clear hx
    go_enter Tryz.func34, Tryz.ntmps34
    go_wp2_with fail
    rw [← HO.out]
    refine (C1 _ HM.out).mono ?_
    rintro e w1 ⟨rfl, hb⟩
    have HB1 := Lib.hid (below_two HB0.out hb)
    have c1 := HC.out _ hb
    have f0 := blk_cell c1 0
    have hk := cell_below hb HXK.out
    clear hb c1 d0 d1 d2 d3
    go_wp2_with fail
    go_region
    go_wp2_with fail
    go_ret2
    exact ⟨by rw [← HDB.out]; rfl, HB1.out.drew⟩
  · have HZ := Lib.hid (walk_zero hF hze he)
    have hee : (e == 0) = false := by rw [beq_eq_false_iff_ne]; exact he
    clear hze
    go_enter Tryz.func34, Tryz.ntmps34
    go_wp2_with fail
    rw [← HO.out]
    refine (C1 _ HM.out).mono ?_
    rintro e' w1 ⟨rfl, hb⟩
    have HB1 := Lib.hid (below_two HB0.out hb)
    clear hb d0 d1 d2 d3
    go_wp2_with fail
    go_region
    go_wp2_with fail
    go_ret2
    exact ⟨by rw [hee]; rfl, HB1.out.drew⟩

/-- Three boxes, one behind the other. -/
theorem three_laid (w : World) (o1 o2 o3 : Obj) : ((((w.alloc o1).alloc o2).alloc o3).heap[w.heap.size]? = some o1 ∧ (((w.alloc o1).alloc o2).alloc o3).heap[w.heap.size + 1]? = some o2 ∧ (((w.alloc o1).alloc o2).alloc o3).heap[w.heap.size + 1 + 1]? = some o3) ∧ Below w.heap.size w (((w.alloc o1).alloc o2).alloc o3) ∧ (((w.alloc o1).alloc o2).alloc o3).heap.size = w.heap.size + 3 := by
  have e1 : (w.alloc o1).heap.size = w.heap.size + 1 := by simp
  have e2 : ((w.alloc o1).alloc o2).heap.size = w.heap.size + 1 + 1 := by simp
  refine ⟨⟨?_, ?_, ?_⟩, ((below_box w o1).alloc (by simp) _).alloc (by simp; omega) _, by simp⟩
  · exact (Below.heap_alloc _ _ _ (by simp; omega)).trans ((Below.heap_alloc _ _ _ (by simp)).trans (new_block w o1))
  · have h := new_block (w.alloc o1) o2
    rw [e1] at h
    exact (Below.heap_alloc _ _ _ (by simp)).trans h
  · have h := new_block ((w.alloc o1).alloc o2) o3
    rw [e2] at h
    exact h
theorem reach_res (tmps : Array Value) (W : World) (k : Nat) (v n : Value) (h6 : tmps.getD 6 undef = .pointer (some ⟨k, 0, none⟩)) (h7 : tmps.getD 7 undef = n) (hl : (loadVar 59 ⟨k, 0, none⟩).run Tryz.prog W = .ok v W) : (results Tryz.f41 tmps).run Tryz.prog W = .ok (.tuple #[v, n]) W := by
  have g6 : tmps[6]?.getD undef = .pointer (some ⟨k, 0, none⟩) := by simpa using h6
  have g7 : tmps[7]?.getD undef = n := by simpa using h7
  simp [results, Tryz.results41, asAddr, Sem.run_bind]
  rw [g6, g7]
  simp [hl]
/-- What reach answers. -/
def ReachAns (w : World) (o : Option Fd) (e : Ending) (w' : World) : Prop := ∃ f v, e = .returned (.tuple #[fdV f, .bool v]) ∧ o = (if v = true then some f else none) ∧ Below w.heap.size w w'
theorem fd_of (p : List UInt8) (d : Int) : #[sv p, .int .i64 d] = fdC (p, d) := rfl

set_option maxHeartbeats 8000000 in
theorem lreach (a : Option Addr) (cap : Nat) (m b cwd : Int) (p : List UInt8) (hp : p.length ≤ 100000000) (x : Pt) (L : List Ino) (hF : FitP L m b) (w : World) (hN : NodesIn w a cap L) :
    Calls Tryz.prog 41 #[srV a L.length cap m b cwd, sv p, ptV x] w (ReachAns w (reachW L cwd p x)) := by
  have hps : (⟨p.toArray⟩ : ByteArray).size ≤ 1073741824 := by rw [sv_size]; omega
  have C1 := fun (W : World) (hW : NodesIn W a cap L) => ldirat a cap m b cwd ⟨p.toArray⟩ hps L hF W hW
  rw [show (⟨p.toArray⟩ : ByteArray).data.toList = p from rfl] at C1
  obtain ⟨dz, dv, hdz⟩ : ∃ dz dv, dirAtW L cwd p = (dz, dv) := ⟨_, _, rfl⟩
  obtain ⟨z, e, hze⟩ : ∃ z e, walkW L cwd p false = (z, e) := ⟨_, _, rfl⟩
  have C2 := fun (W : World) (hW : NodesIn W a cap L) => lwalk_known a cap m b cwd ⟨p.toArray⟩ hps false L hF z e hze W hW
  have HR := Lib.hid (show reachW L cwd p x = if x.sl = true then (if dv = true then some (p ++ [47], dz) else none) else if magB x.L = true then some (p, 0) else if e = 0 then some (p, 0) else none from by unfold reachW; rw [hdz, hze])
  rw [HR.out]
  rw [hdz] at C1
  simp only at C1
  have HCAT := Lib.hid (show Value.string ((⟨p.toArray⟩ : ByteArray) ++ (⟨#[47]⟩ : ByteArray)) = sv (p ++ [47]) from strv_cat p [47])
  unfold ptV ptC
  unfold srV at C1 ⊢
  obtain ⟨mg, hmg⟩ : ∃ mg, mg = magB x.L := ⟨_, rfl⟩
  rw [← hmg]
  obtain ⟨sl, hsl⟩ : ∃ sl, sl = x.sl := ⟨_, rfl⟩
  rw [← hsl]
  clear hmg hsl hze hdz HR
  obtain ⟨P, hP⟩ : ∃ P : ByteArray, P = ⟨p.toArray⟩ := ⟨_, rfl⟩
  obtain ⟨T, hT⟩ : ∃ T : ByteArray, T = ⟨x.t.toArray⟩ := ⟨_, rfl⟩
  obtain ⟨Q, hQ⟩ : ∃ Q : ByteArray, Q = ⟨x.q.toArray⟩ := ⟨_, rfl⟩
  have HPE := Lib.hid hP
  unfold sv
  rw [← hP] at C1 C2 HCAT ⊢
  rw [← hT, ← hQ]
  have hPs : P.size ≤ 100000000 := by rw [hP, sv_size]; exact hp
  clear hP hT hQ hps hp
  obtain ⟨h3, hb0, hsz⟩ := three_laid w (.cells #[.slice a L.length cap, .int .i64 m, .int .i64 b, .int .i64 cwd] 47) (.cells #[.string T, .string Q, .bool mg, .bool sl] 54) (.cells #[.string ⟨#[]⟩, .int .i64 0] 59)
  obtain ⟨W3, hW3⟩ : ∃ W3, W3 = ((w.alloc (.cells #[.slice a L.length cap, .int .i64 m, .int .i64 b, .int .i64 cwd] 47)).alloc (.cells #[.string T, .string Q, .bool mg, .bool sl] 54)).alloc (.cells #[.string ⟨#[]⟩, .int .i64 0] 59) := ⟨_, rfl⟩
  rw [← hW3] at h3 hb0 hsz
  have HM := Lib.hid (hN.below hb0)
  have HB0 := Lib.hid hb0
  have HW3 := Lib.hid hW3
  obtain ⟨g1, g2, g3⟩ := h3
  have HG := Lib.hid (fun (W : World) (h : Below W3.heap.size W3 W) => And.intro (kept h g1) (And.intro (kept h g2) (kept h g3)))
  have s0 := blk_cell g1 0
  have s1 := blk_cell g1 1
  have s2 := blk_cell g1 2
  have s3 := blk_cell g1 3
  have x2 := blk_cell g2 2
  have x3 := blk_cell g2 3
  have HST := Lib.hid (fun (W : World) (C : Array Value) (hC : C.size = 2) (h : W.heap[w.heap.size + 1 + 1]? = some (Obj.cells #[.string ⟨#[]⟩, .int .i64 0] 59 (0, 0))) => row_done 59 _ Tryz.underlying59 rfl (w.heap.size + 1 + 1) C _ _ W h (by rw [found_info, hC]))
  clear hb0 hW3 hN g1 g2
  cases sl with
  | true =>
    have HA := Lib.hid (fd_of (p ++ [47]) dz)
    cases dv
    all_goals
      go_enter Tryz.func41, Tryz.ntmps41
      go_wp2_with fail
      rw [← HW3.out]
      refine (C1 _ HM.out).mono ?_
      rintro e' w1 ⟨rfl, hb⟩
      have HB1 := Lib.hid (below_two HB0.out hb)
      obtain ⟨-, -, k3⟩ := HG.out _ hb
      have HK3 := Lib.hid k3
      have HLV := Lib.hid (HST.out w1 (fdC (p ++ [47], dz)) rfl k3)
      have HBF := Lib.hid (below_setRow HB1.out (show w.heap.size ≤ w.heap.size + 1 + 1 by omega) (fdC (p ++ [47], dz)))
      clear hb k3 s0 s1 s2 s3 x2 x3 g3
      have hcat := HCAT.out
      unfold sv at hcat
      go_wp2_with (first | (refine wpList_store_row rfl _ _ _ rfl (w.heap.size + 1 + 1) (fdC (p ++ [47], dz)) rfl (by rw [← HA.out]; rfl) _ _ HK3.out (by rw [found_info]; rfl) rfl (fd_one _) ?_) | fail)
      exact bodyPost_ret (v := .tuple #[.agg (fdC (p ++ [47], dz)), .bool _]) (reach_res _ _ _ _ _ rfl rfl HLV.out) rfl ⟨(p ++ [47], dz), _, rfl, by simp, HBF.out⟩
  | false =>
    have HA := Lib.hid (fd_of p 0)
    cases mg with
    | true =>
      have HK3 := Lib.hid g3
      have HLV := Lib.hid (HST.out W3 (fdC (p, 0)) rfl g3)
      have HBF := Lib.hid (below_setRow HB0.out (show w.heap.size ≤ w.heap.size + 1 + 1 by omega) (fdC (p, 0)))
      clear g3
      go_enter Tryz.func41, Tryz.ntmps41
      go_upto_region 1 with fail
      rw [← HW3.out]
      go_wp2_with (first | (refine wpList_store_row rfl _ _ _ rfl (w.heap.size + 1 + 1) (fdC (p, 0)) rfl (by rw [← HA.out]; unfold sv; rw [← HPE.out]; rfl) _ _ HK3.out (by rw [found_info]; rfl) rfl (fd_one _) ?_) | fail)
      exact bodyPost_ret (v := .tuple #[.agg (fdC (p, 0)), .bool true]) (reach_res _ _ _ _ _ rfl rfl HLV.out) rfl ⟨(p, 0), true, rfl, by simp, HBF.out⟩
    | false =>
      by_cases he : e = 0
      · subst he
        go_enter Tryz.func41, Tryz.ntmps41
        go_upto_region 1 with fail
        rw [← HW3.out]
        go_wp2_with fail
        refine (C2 _ HM.out).mono ?_
        rintro e' w1 ⟨rfl, hb⟩
        have HB1 := Lib.hid (below_two HB0.out hb)
        obtain ⟨-, -, k3⟩ := HG.out _ hb
        have HK3 := Lib.hid k3
        have HLV := Lib.hid (HST.out w1 (fdC (p, 0)) rfl k3)
        have HBF := Lib.hid (below_setRow HB1.out (show w.heap.size ≤ w.heap.size + 1 + 1 by omega) (fdC (p, 0)))
        clear hb k3 s0 s1 s2 s3 x2 x3 g3
        go_wp2_with (first | (refine wpList_store_row rfl _ _ _ rfl (w.heap.size + 1 + 1) (fdC (p, 0)) rfl (by rw [← HA.out]; unfold sv; rw [← HPE.out]; rfl) _ _ HK3.out (by rw [found_info]; rfl) rfl (fd_one _) ?_) | fail)
        exact bodyPost_ret (v := .tuple #[.agg (fdC (p, 0)), .bool true]) (reach_res _ _ _ _ _ rfl rfl HLV.out) rfl ⟨(p, 0), true, rfl, by simp, HBF.out⟩
      · have hee : (e == 0) = false := by rw [beq_eq_false_iff_ne]; exact he
        go_enter Tryz.func41, Tryz.ntmps41
        go_upto_region 1 with fail
        rw [← HW3.out]
        go_wp2_with fail
        refine (C2 _ HM.out).mono ?_
        rintro e' w1 ⟨rfl, hb⟩
        have HB1 := Lib.hid (below_two HB0.out hb)
        obtain ⟨-, -, k3⟩ := HG.out _ hb
        have HK3 := Lib.hid k3
        have HLV := Lib.hid (HST.out w1 (fdC (p, 0)) rfl k3)
        have HBF := Lib.hid (below_setRow HB1.out (show w.heap.size ≤ w.heap.size + 1 + 1 by omega) (fdC (p, 0)))
        clear hb k3 s0 s1 s2 s3 x2 x3 g3
        go_wp2_with (first | (refine wpList_store_row rfl _ _ _ rfl (w.heap.size + 1 + 1) (fdC (p, 0)) rfl (by rw [← HA.out]; unfold sv; rw [← HPE.out]; rfl) _ _ HK3.out (by rw [found_info]; rfl) rfl (fd_one _) ?_) | fail)
        exact bodyPost_ret (v := .tuple #[.agg (fdC (p, 0)), .bool false]) (reach_res _ _ _ _ _ rfl rfl HLV.out) rfl ⟨(p, 0), false, rfl, by simp, HBF.out⟩
end Go.Proofs.YtclhpedecimicaaGreat

namespace Go.Proofs.YtclhpedecimicaaGreat
set_option maxRecDepth 100000
open Go Go.RowKit

theorem texts_one (B : Nat) (W : World) (x : List UInt8) (h : B ≤ W.heap.size) : Texts B (W.alloc (.cells #[sv x] 9)) (.slice (some ⟨W.heap.size, 0, none⟩) 1 1) [x] :=
  ⟨rfl, Or.inr ⟨W.heap.size, 1, #[sv x], rfl, h, new_block _ _, Nat.le_refl _, by decide, rfl, rfl⟩⟩
theorem two_laid (w : World) (o1 o2 : Obj) : (((w.alloc o1).alloc o2).heap[w.heap.size]? = some o1 ∧ ((w.alloc o1).alloc o2).heap[w.heap.size + 1]? = some o2) ∧ Below w.heap.size w ((w.alloc o1).alloc o2) ∧ ((w.alloc o1).alloc o2).heap.size = w.heap.size + 1 + 1 := by
  have e1 : (w.alloc o1).heap.size = w.heap.size + 1 := by simp
  refine ⟨⟨(Below.heap_alloc _ _ _ (by simp)).trans (new_block w o1), ?_⟩, (below_box w o1).alloc (by simp) _, by simp⟩
  have h := new_block (w.alloc o1) o2
  rw [e1] at h
  exact h
theorem filter_next (f : List UInt8 → Bool) (M : List (List UInt8 × Int)) (i : Nat) (h : i < M.length) : ((M.take (i + 1)).map Prod.fst).filter f = ((M.take i).map Prod.fst).filter f ++ (if f M[i].1 = true then [M[i].1] else []) := by
  rw [List.take_succ_eq_append_getElem h, List.map_append, List.filter_append]
  congr 1
  simp [List.filter_cons]

set_option maxHeartbeats 8000000 in
theorem lnamesin (a : Option Addr) (cap : Nat) (m b cwd d : Int) (x : Pt) (ht : x.t ≠ []) (htl : x.t.length ≤ 100000) (L : List Ino) (hF : FitP L m b) (w : World) (hN : NodesIn w a cap L) :
    Calls Tryz.prog 53 #[srV a L.length cap m b cwd, .int .i64 d, ptV x] w fun e w' => ∃ v, e = .returned v ∧ Texts w.heap.size w' v (namesW L d x) ∧ Below w.heap.size w w' := by
  have CW := fun (n : ByteArray) (hn : n.size ≤ 100000) W => lgwants x ht htl n hn W
  have HF := Lib.hid hF
  unfold ptV ptC at CW ⊢
  unfold srV
  obtain ⟨mg, hmg⟩ : ∃ mg, mg = magB x.L := ⟨_, rfl⟩
  have HNW := Lib.hid (show namesW L d x = if mg = false then [x.t] else if mayL L d 4 = true then ((nodeAt L d).kids.map Prod.fst).filter (wantsW x.L) else [] from by unfold namesW; rw [hmg])
  rw [← hmg] at CW ⊢
  rw [HNW.out]
  obtain ⟨sl, hsl⟩ : ∃ sl, sl = x.sl := ⟨_, rfl⟩
  rw [← hsl] at CW ⊢
  obtain ⟨f, hf⟩ : ∃ f, f = wantsW x.L := ⟨_, rfl⟩
  rw [← hf] at CW ⊢
  obtain ⟨xt, hxt⟩ : ∃ xt, xt = x.t := ⟨_, rfl⟩
  rw [← hxt] at CW ⊢
  obtain ⟨xq, hxq⟩ : ∃ xq, xq = x.q := ⟨_, rfl⟩
  rw [← hxq] at CW ⊢
  clear hmg hsl hf HNW ht htl hF hxt hxq
  obtain ⟨⟨g1, g2⟩, hb0, hsz⟩ := two_laid w (.cells #[.slice a L.length cap, .int .i64 m, .int .i64 b, .int .i64 cwd] 47) (.cells #[sv xt, sv xq, .bool mg, .bool sl] 54)
  obtain ⟨W2, hW2⟩ : ∃ W2, W2 = (w.alloc (.cells #[.slice a L.length cap, .int .i64 m, .int .i64 b, .int .i64 cwd] 47)).alloc (.cells #[sv xt, sv xq, .bool mg, .bool sl] 54) := ⟨_, rfl⟩
  rw [← hW2] at g1 g2 hb0 hsz
  have HM := Lib.hid (hN.below hb0)
  have HSZ := Lib.hid hsz
  have HB0 := Lib.hid hb0
  have HW2 := Lib.hid hW2
  have HG := Lib.hid (fun (W : World) (h : Below W2.heap.size W2 W) => And.intro (kept h g1) (kept h g2))
  have s0 := blk_cell g1 0
  have s1 := blk_cell g1 1
  have s2 := blk_cell g1 2
  have s3 := blk_cell g1 3
  have x0 := blk_cell g2 0
  have x1 := blk_cell g2 1
  have x2 := blk_cell g2 2
  have x3 := blk_cell g2 3
  clear hb0 hW2 hN g1 g2 hsz
  unfold sv at HW2 x0 x1 x2 x3 ⊢
  cases mg with
  | false =>
    go_enter Tryz.func53, Tryz.ntmps53
    go_upto_region 1 with fail
    rw [← HW2.out]
    go_wp2_with fail
    go_ret
    exact ⟨_, rfl, texts_one _ _ _ HB0.out.size, HB0.out.alloc HB0.out.size _⟩
  | true =>
    have C1 := fun (W : World) (v : Bool) (hv : mayL L d 4 = v) (hW : NodesIn W a cap L) => lmayw_known a cap m b d 4 L HF.out.ins v hv W hW
    cases hm : mayL L d 4 with
    | false =>
      go_enter Tryz.func53, Tryz.ntmps53
      go_upto_region 1 with fail
      rw [← HW2.out]
      go_wp2_with fail
      refine (C1 _ _ hm HM.out).mono ?_
      rintro e w1 ⟨rfl, hb⟩
      have HB1 := Lib.hid (below_two HB0.out hb)
      clear hb
      go_wp2_with fail
      go_ret
      exact ⟨_, rfl, World.ownsRow_nil _ _ _ _, HB1.out⟩
    | true =>
      have hth : thereB L d = true := live_there (by unfold mayL at hm; simp only [Bool.and_eq_true] at hm; exact hm.1.2)
      obtain ⟨u, rfl, hu⟩ := there_nat hth
      have hu0 : (0 : Int) ≤ (u : Int) := by omega
      have hu1 : (u : Int) < (L.length : Int) := by omega
      have HNA := Lib.hid (node_nat L u hu)
      have hS := short_of HF.out.ins u hu
      obtain ⟨M, hM⟩ : ∃ M, M = L[u].kids := ⟨_, rfl⟩
      rw [← hM] at hS
      have HML := Lib.hid hS.2
      have hMl := hS.1
      have HMN := Lib.hid (show (nodeAt L (u : Int)).kids = M by rw [HNA.out, hM])
      obtain ⟨bb, o6, rfl, hx⟩ := HM.out.2.2 u hu
      obtain ⟨kv, hkv, hK⟩ := hx.kids
      rw [← hM] at hK
      obtain ⟨ka, kc, rfl, hk1, hk2, hk3⟩ := hK
      have HKV := Lib.hid hkv
      have HK3 := Lib.hid hk3
      have HTH := Lib.hid hm
      clear hx hkv hk3 hth hM hS hm
      unfold maxLen at hk2
      go_enter Tryz.func53, Tryz.ntmps53
      go_upto_region 1 with fail
      rw [← HW2.out]
      go_wp2_with fail
      refine (C1 _ _ HTH.out HM.out).mono ?_
      rintro e w1 ⟨rfl, hb⟩
      have HB1 := Lib.hid (below_two HB0.out hb)
      have hkv := cell_below hb HKV.out
      obtain ⟨k1, k2⟩ := HG.out _ hb
      have y0 := blk_cell k1 0
      have HBL := Lib.hid hb
      clear hb s0 s1 s2 s3 x0 x1 x2 x3 C1 k1 k2
      go_wp2_with fail
      go_loopw [7, 28] (fun v7 v28 wr => ∃ i : Nat, v28 = .int .i64 (i : Int) ∧ i ≤ M.length ∧ Hid (Texts w1.heap.size wr v7 (((M.take i).map Prod.fst).filter f)) ∧ Hid (Below w1.heap.size w1 wr)) (fun _ v28 _ => M.length - (intOf v28).toNat)
      case atStart => exact ⟨0, rfl, Nat.zero_le _, World.ownsRow_nil _ _ _ _, Below.refl _ _⟩
      case round =>
        obtain ⟨i, rfl, hi, HT, HBR⟩ := hrel
        by_cases hlt : i < M.length
        · obtain ⟨kb, ko, rfl, hn0, hn1⟩ := HK3.out i hlt
          have hb1 := HB1.out.size
          have hszr := HBR.out.size
          have hBM := HM.out
          have n0 := cell_below HBR.out (cell_below HBL.out hn0)
          have n1 := cell_below HBR.out (cell_below HBL.out hn1)
          obtain ⟨p1, p2⟩ := HG.out _ (below_two HBL.out HBR.out)
          have z0 := blk_cell p2 0
          have z1 := blk_cell p2 1
          have z2 := blk_cell p2 2
          have z3 := blk_cell p2 3
          have hx1 : w.heap.size + 1 < wr.heap.size := lt_of_block p2
          obtain ⟨nm, hnm⟩ : ∃ nm, nm = M[i].1 := ⟨_, rfl⟩
          rw [← hnm] at n0
          have HNL := Lib.hid (show nm.length ≤ 64 by rw [hnm]; exact HML.out _ (List.getElem_mem hlt))
          have HNX := Lib.hid (show ((M.take (i + 1)).map Prod.fst).filter f = ((M.take i).map Prod.fst).filter f ++ (if f nm = true then [nm] else []) by rw [filter_next f M i hlt, hnm])
          obtain ⟨ki, hki⟩ : ∃ ki, ki = M[i].2 := ⟨_, rfl⟩
          rw [← hki] at n1
          have CN := fun W => CW ⟨nm.toArray⟩ (by rw [sv_size]; have := HNL.out; omega) W
          rw [show (⟨nm.toArray⟩ : ByteArray).data.toList = nm from rfl] at CN
          have hi0 : (0 : Int) ≤ (i : Int) := by omega
          have hi1 : (i : Int) < (M.length : Int) := by omega
          have HBX := Lib.hid (HBR.out.alloc HBR.out.size (.cells #[.string ⟨nm.toArray⟩, .int .i64 ki] 38))
          have HTX := Lib.hid (HT.out.below (below_box wr (.cells #[.string ⟨nm.toArray⟩, .int .i64 ki] 38)))
          have HE := Lib.hid (new_block wr (.cells #[.string ⟨nm.toArray⟩, .int .i64 ki] 38))
          clear hn0 hn1 hnm hki p1 p2 hBM
          cases hf : f nm with
          | false =>
            rw [hf] at CN
            have HNX2 := Lib.hid (show ((M.take (i + 1)).map Prod.fst).filter f = ((M.take i).map Prod.fst).filter f by rw [HNX.out, hf]; simp)
            clear hf
            go_wp2_with fail
            refine (CN _).mono ?_
            rintro e w2 ⟨rfl, hbw⟩
            have HB2 := Lib.hid (below_two HBX.out hbw)
            have HT2 := Lib.hid (HTX.out.below hbw)
            clear hbw
            go_wp2_with fail
            go_roundw
            case rel => exact ⟨i + 1, by go_num, by omega, by rw [HNX2.out]; exact HT2.out, HB2.out⟩
            case measure => simp [intOf] <;> omega
          | true =>
            rw [hf] at CN
            have HNX2 := Lib.hid (show ((M.take (i + 1)).map Prod.fst).filter f = ((M.take i).map Prod.fst).filter f ++ [nm] by rw [HNX.out, hf]; simp)
            have HLE := Lib.hid (show (((M.take i).map Prod.fst).filter f).length ≤ 1024 by
              refine Nat.le_trans (List.length_filter_le _ _) ?_
              rw [List.length_map, List.length_take]
              omega)
            clear hf
            obtain ⟨i0, hi0', hz0, hz1, hz2⟩ := info_parts infoS
            go_wp2_with fail
            refine (CN _).mono ?_
            rintro e w2 ⟨rfl, hbw⟩
            have HB2 := Lib.hid (below_two HBX.out hbw)
            have HO := Lib.hid (show w2.ownsRow w1.heap.size 9 1 u7 (((M.take i).map Prod.fst).filter f).length ((((M.take i).map Prod.fst).filter f).map strv) from HTX.out.below hbw)
            have e0 := blk_cell (kept hbw HE.out) 0
            have e1 := blk_cell (kept hbw HE.out) 1
            have hsz2 := HB2.out.size
            clear hbw
            go_wp2_with (first | (at_builtin; (refine wpList_append_own _ rfl _ _ 29 rfl w1.heap.size 9 i0 (.string ByteArray.empty) 1 16 Tryz.underlying29 hi0' hz0 hz1 hz2 rfl (by decide) _ _ _ rfl (HO.out.alloc _) ⟨w2.heap.size, 0, none⟩ 1 1 [.string ⟨nm.toArray⟩] rfl rfl (cell_one_new _ _ _) (fun x hx => by simp at hx; subst hx; rfl) (by unfold maxLen; have := HLE.out; omega) (by have := HLE.out; omega) (by simp; omega) ?_); intro v' w10 hown' hgrow3 hnil3) | fail)
            have HT3 := Lib.hid (show Texts w1.heap.size w10 v' (((M.take (i + 1)).map Prod.fst).filter f) by rw [HNX2.out]; exact Texts.grow hown')
            have HB3 := Lib.hid (HB2.out.trans (((Below.refl _ w2).alloc hsz2 _).grown hgrow3 (by simp; omega) (fun r hr => (HO.out.lt r hr).1)))
            clear hown' hgrow3 hnil3
            go_wp2_with fail
            go_roundw
            case rel => exact ⟨i + 1, by go_num, by omega, HT3.out, HB3.out⟩
            case measure => simp [intOf] <;> omega
        · obtain rfl : i = M.length := by omega
          have hTF := HT.out
          rw [List.take_length] at hTF
          have HTF := Lib.hid hTF
          clear hTF
          go_wp2_with fail
          go_ret
          exact ⟨_, rfl, by first | (rw [HMN.out]; exact own_less HTF.out HB1.out.size) | (simp; rw [HMN.out]; exact own_less HTF.out HB1.out.size), HB1.out.trans (HBR.out.mono HB1.out.size)⟩
end Go.Proofs.YtclhpedecimicaaGreat

namespace Go.Proofs.YtclhpedecimicaaGreat
set_option maxRecDepth 100000
open Go Go.RowKit Go.MapKept Go.ChangeMaps
attribute [local go_sem] run_makeMap

def srC (a : Option Addr) (n cap : Nat) (m b cwd : Int) : Array Value := #[.slice a n cap, .int .i64 m, .int .i64 b, .int .i64 cwd]
theorem texts_stay {n₀ B : Nat} {T : TypeId} {W W' : World} {v : Value} {L : List (List UInt8)} (h : Texts 0 W v L) (hs : ∀ g, v.ownBlock = some g → SafeX T B W g) (k : StayX n₀ T B W W') : Texts 0 W' v L := by
  obtain ⟨h1, h2 | ⟨g, cap, cur, hv, hg, hb, r⟩⟩ := h
  · exact ⟨h1, Or.inl h2⟩
  · refine ⟨h1, Or.inr ⟨g, cap, cur, hv, hg, ?_, r⟩⟩
    exact (k.safe g (hs g (by rw [hv]; rfl))).2 _ hb rfl
theorem texts_zero {B : Nat} {W : World} {v : Value} {L : List (List UInt8)} (h : Texts B W v L) : Texts 0 W v L := own_less h (Nat.zero_le _)
theorem texts_grown {W W' : World} {v : Value} {L : List (List UInt8)} {M : Nat} (h : Texts 0 W v L) (hg : W.grownBy W' (some M)) (hM : ∀ o, W.heap[M]? = some o → o.isCells = false) : Texts 0 W' v L := by
  obtain ⟨h1, h2 | ⟨g, cap, cur, hv, h0, hb, r⟩⟩ := h
  · exact ⟨h1, Or.inl h2⟩
  · refine ⟨h1, Or.inr ⟨g, cap, cur, hv, h0, ?_, r⟩⟩
    refine (hg.block g (lt_of_block hb) (fun e => ?_)).trans hb
    have := hM _ (by rw [← Option.some.inj e]; exact hb)
    cases this

/-- What the function keeps. -/
structure AskAt (T : TypeId) (B : Nat) (L : List Ino) (x : Pt) (S : Array Value) (M ba bs bx : Nat) (W : World) : Prop where
  asked : W.heap[ba]? = some (.cells #[.map (some M)] 95 (0, 0)) ∧ SafeX T B W ba
  srch : W.heap[bs]? = some (.cells S 47 (0, 0)) ∧ SafeX T B W bs
  part : W.heap[bx]? = some (.cells (ptC x) 54 (0, 0)) ∧ SafeX T B W bx
  map : ∃ es clock, W.heap[M]? = some (.map es clock) ∧ NumKeys es ∧ ∀ e ∈ es.toList, ∀ d : Int, e.key = .int .i64 d → Texts 0 W e.val (namesW L d x) ∧ ∀ g, e.val.ownBlock = some g → SafeX T B W g
theorem AskAt.stay {n₀ B : Nat} {T : TypeId} {L : List Ino} {x : Pt} {S : Array Value} {M ba bs bx : Nat} {W W' : World} (h : AskAt T B L x S M ba bs bx W) (k : StayX n₀ T B W W') (hM : ∀ es c, W.heap[M]? = some (.map es c) → W'.heap[M]? = some (.map es c)) : AskAt T B L x S M ba bs bx W' := by
  obtain ⟨es, c, h1, h2, h3⟩ := h.map
  refine ⟨⟨(k.safe _ h.asked.2).2 _ h.asked.1 rfl, (k.safe _ h.asked.2).1⟩, ⟨(k.safe _ h.srch.2).2 _ h.srch.1 rfl, (k.safe _ h.srch.2).1⟩, ⟨(k.safe _ h.part.2).2 _ h.part.1 rfl, (k.safe _ h.part.2).1⟩, es, c, hM es c h1, h2, fun e he d hd => ?_⟩
  obtain ⟨h4, h5⟩ := h3 e he d hd
  exact ⟨texts_stay h4 h5 k, fun g hg => (k.safe g (h5 g hg)).1⟩

set_option maxHeartbeats 4000000 in
theorem lnames (a : Option Addr) (n cap : Nat) (m b cwd : Int) (x : Pt) (w : World) :
    Calls Tryz.prog 40 #[srV a n cap m b cwd, ptV x] w fun e w' => e = .returned (.func (.func 52) #[] #[.pointer (some ⟨w.heap.size + 3, 0, none⟩), .pointer (some ⟨w.heap.size, 0, none⟩), .pointer (some ⟨w.heap.size + 1, 0, none⟩)]) ∧
      w' = (((w.alloc (.cells (srC a n cap m b cwd) 47)).alloc (.cells (ptC x) 54)).alloc (.map #[] 0)).alloc (.cells #[.map (some (w.heap.size + 2))] 95) := by
  unfold srV ptV srC ptC
  go_enter Tryz.func40, Tryz.ntmps40
  go_wp2_with fail
  go_ret
  exact ⟨rfl, rfl⟩

theorem setBlock_grown (W : World) (M : Nat) (o : Obj) : W.grownBy (setBlock W M o) (some M) :=
  ⟨rfl, rfl, rfl, by simp [setBlock], fun k _ hk => by
    simp only [setBlock]
    rw [Array.getElem?_setIfInBounds_ne (fun e => hk (by rw [e]))]⟩
theorem setBlock_same {W : World} {M : Nat} {o o' : Obj} (h : W.heap[M]? = some o) : (setBlock W M o').heap[M]? = some o' := by
  simp only [setBlock]
  rw [Array.getElem?_setIfInBounds_self_of_lt (lt_of_block h)]

set_option maxHeartbeats 8000000 in
theorem lnames1 (n₀ B : Nat) (T : TypeId) (a : Option Addr) (cap : Nat) (m b cwd : Int) (x : Pt) (ht : x.t ≠ []) (htl : x.t.length ≤ 100000) (L : List Ino) (hF : FitP L m b) (M ba bs bx : Nat) (hM : n₀ ≤ M) (d : Int) (hd0 : 0 ≤ d) (hd1 : d < 1000)
    (W : World) (hnW : n₀ ≤ W.heap.size) (hN : NodesIn W a cap L) (hG : GoodX T B W) (hA : AskAt T B L x (srC a L.length cap m b cwd) M ba bs bx W) :
    Calls Tryz.prog 52 #[.int .i64 d, .pointer (some ⟨ba, 0, none⟩), .pointer (some ⟨bs, 0, none⟩), .pointer (some ⟨bx, 0, none⟩)] W fun e W' => ∃ v, e = .returned v ∧ Texts 0 W' v (namesW L d x) ∧ (∀ g, v.ownBlock = some g → SafeX T B W' g) ∧ AskAt T B L x (srC a L.length cap m b cwd) M ba bs bx W' ∧ StayX n₀ T B W W' ∧ W.grownBy W' (some M) := by
  obtain ⟨es, clock, hmap, hnk, hent⟩ := hA.map
  have HA := Lib.hid hA
  have HG := Lib.hid hG
  have C1 := fun (W1 : World) (h : NodesIn W1 a cap L) => lnamesin a cap m b cwd d x ht htl L hF W1 h
  unfold srV at C1
  unfold ptV ptC at C1
  have HN := Lib.hid hN
  have a0 := blk_cell hA.asked.1 0
  have s0 := blk_cell hA.srch.1 0
  have s1 := blk_cell hA.srch.1 1
  have s2 := blk_cell hA.srch.1 2
  have s3 := blk_cell hA.srch.1 3
  have x0 := blk_cell hA.part.1 0
  have x1 := blk_cell hA.part.1 1
  have x2 := blk_cell hA.part.1 2
  have x3 := blk_cell hA.part.1 3
  unfold srC at s0 s1 s2 s3
  unfold ptC at x0 x1 x2 x3
  obtain ⟨mg, hmg⟩ : ∃ mg, mg = magB x.L := ⟨_, rfl⟩
  rw [← hmg] at C1 x0 x1 x2 x3
  have HENT := Lib.hid hent
  have HNK := Lib.hid hnk
  have HMAP := Lib.hid hmap
  clear hmg hA hN hG hent ht htl
  rcases run_findN W M es clock hmap hnk d hd0 hd1 with hl | ⟨en, hen, hek, hl⟩
  · clear hmap hnk
    go_enter Tryz.func52, Tryz.ntmps52
    go_wp2_with fail
    refine (C1 _ HN.out).mono ?_
    rintro e w1 ⟨v, rfl, hT, hb⟩
    have HT := Lib.hid hT
    have HB := Lib.hid hb
    have hmap1 := kept hb HMAP.out
    obtain ⟨es', clock', hins, hnk', hmem⟩ := run_insertN w1 M es clock hmap1 HNK.out d hd0 hd1 v
    have HNK2 := Lib.hid hnk'
    have HMEM := Lib.hid hmem
    have HM1 := Lib.hid hmap1
    have b0 := cell_below hb a0
    clear hT hb hnk' hmem hmap1 a0 s0 s1 s2 s3 x0 x1 x2 x3 C1 hl
    go_wp2_with fail
    go_ret
    have hgr := setBlock_grown w1 M (.map es' clock')
    have hcl : ∀ o, w1.heap[M]? = some o → o.isCells = false := fun o ho => by
      rw [HM1.out] at ho
      obtain rfl := Option.some.inj ho
      rfl
    have k1 : StayX n₀ T B W w1 := StayX.of_below hnW HB.out HG.out
    have k2 : StayX n₀ T B w1 (setBlock w1 M (.map es' clock')) := StayX.turn (Nat.le_trans hnW HB.out.size) hM hgr hcl k1.good
    have hsafe : ∀ g, v.ownBlock = some g → SafeX T B w1 g := fun g hg => by
      have h := HT.out.lt g hg
      exact SafeX.new HG.out HB.out h.1 h.2
    refine ⟨v, rfl, texts_grown (texts_zero HT.out) hgr hcl, fun g hg => (k2.safe g (hsafe g hg)).1, ?_, k1.trans k2, ?_⟩
    · have hA2 := HA.out.stay k1 (fun es0 c0 h0 => kept HB.out h0)
      refine ⟨⟨(k2.safe _ hA2.asked.2).2 _ hA2.asked.1 rfl, (k2.safe _ hA2.asked.2).1⟩, ⟨(k2.safe _ hA2.srch.2).2 _ hA2.srch.1 rfl, (k2.safe _ hA2.srch.2).1⟩, ⟨(k2.safe _ hA2.part.2).2 _ hA2.part.1 rfl, (k2.safe _ hA2.part.2).1⟩, es', clock', setBlock_same HM1.out, HNK2.out, fun e' he' d' hd' => ?_⟩
      rcases HMEM.out e' he' with h | ⟨h5, h6⟩
      · obtain ⟨h7, h8⟩ := HENT.out e' h d' hd'
        have h9 : ∀ g, e'.val.ownBlock = some g → SafeX T B w1 g := fun g hg => (k1.safe g (h8 g hg)).1
        exact ⟨texts_grown (texts_stay h7 h8 k1) hgr hcl, fun g hg => (k2.safe g (h9 g hg)).1⟩
      · rw [h5] at hd'
        have hdd : d = d' := by simpa using hd'
        subst hdd
        rw [h6]
        exact ⟨texts_grown (texts_zero HT.out) hgr hcl, fun g hg => (k2.safe g (hsafe g hg)).1⟩
    · refine ⟨hgr.os.trans HB.out.os, hgr.tape.trans HB.out.tape, hgr.output.trans HB.out.output, Nat.le_trans HB.out.size hgr.size, fun k hk hne => ?_⟩
      rw [hgr.block k (Nat.lt_of_lt_of_le hk HB.out.size) hne, HB.out.block k hk]
  · have HE := Lib.hid (HENT.out en hen d hek)
    obtain ⟨ev, hev⟩ : ∃ ev, ev = en.val := ⟨_, rfl⟩
    rw [← hev] at hl HE
    clear hmap hnk hen hek hev s0 s1 s2 s3 x0 x1 x2 x3
    go_enter Tryz.func52, Tryz.ntmps52
    go_wp2_with fail
    go_ret
    exact ⟨ev, rfl, HE.out.1, HE.out.2, HA.out, StayX.refl HG.out, ⟨rfl, rfl, rfl, Nat.le_refl _, fun _ _ _ => rfl⟩⟩
end Go.Proofs.YtclhpedecimicaaGreat

namespace Go.Proofs.YtclhpedecimicaaGreat
set_option maxRecDepth 100000
open Go Go.RowKit Go.Shelf

attribute [local go_sem] Oper.semAt_some

theorem head_no : ∀ (r : List UInt8), ∀ c ∈ headL r, c ≠ 47
  | [], c, h => by simp [headL] at h
  | x :: r, c, h => by
    unfold headL at h
    by_cases hx : x = 47
    · rw [if_pos hx] at h; simp at h
    · rw [if_neg hx] at h
      rcases List.mem_cons.1 h with rfl | h
      · exact hx
      · exact head_no r c h
theorem head_all : ∀ (r : List UInt8), (47 : UInt8) ∉ r → headL r = r
  | [], _ => rfl
  | x :: r, h => by
    unfold headL
    rw [if_neg (fun e => h (by rw [e]; exact List.mem_cons_self ..)), head_all r (fun h2 => h (List.mem_cons_of_mem _ h2))]
theorem flag_none {r : List UInt8} (h : Lib.indexByte r 47 = -1) : decide ((47 : UInt8) ∈ r) = false := by
  rw [decide_eq_false_iff_not]
  intro h2
  rw [← (cut_none r h).1] at h2
  exact head_no r 47 h2 rfl
theorem flag_at {r : List UInt8} {i : Nat} (h : Lib.indexByte r 47 = (i : Int)) : decide ((47 : UInt8) ∈ r) = true := by
  rw [decide_eq_true_iff]
  by_cases h2 : (47 : UInt8) ∈ r
  · exact h2
  · obtain ⟨h3, h4, -⟩ := cut_at r i h
    have h5 := congrArg List.length h4
    rw [head_all r h2, List.length_take] at h5
    omega

set_option maxHeartbeats 2000000 in
theorem litecutf (s : ByteArray) (hs : s.size ≤ 1073741824) (w : World) :
    Calls Tryz.prog 51 #[.string s, .string ⟨#[47]⟩] w fun e w' => e = .returned (.tuple #[.string ⟨(headL s.data.toList).toArray⟩, .string ⟨(tailL s.data.toList).toArray⟩, .bool (decide ((47 : UInt8) ∈ s.data.toList))]) ∧ Drawn w w' := by
  rcases index_cases s.data.toList with hix | ⟨i, hix⟩
  · obtain ⟨h1, h2⟩ := cut_none _ hix
    rw [h1, h2, flag_none hix]
    have HI := Lib.hid hix
    clear hix h1 h2
    go_enter Tryz.func51, Tryz.ntmps51
    go_wp2_with (go_at_call 69; refine (index_slash _ _).mono ?_; rintro e w' ⟨rfl, rfl⟩; rw [HI.out])
    go_ret3
    exact ⟨rfl, 0, rfl⟩
  · obtain ⟨hi, -, -⟩ := cut_at _ _ hix
    rw [size_list] at hi
    obtain ⟨h1, h2⟩ := cut_strs s i hix
    rw [← h1, ← h2, flag_at hix]
    have c1 : (0 : Int) ≤ ↑i := by omega
    have c2 : (↑i : Int) ≤ ↑s.size := by omega
    have c3 : (0 : Int) ≤ ↑i + 1 := by omega
    have c4 : (↑i + 1 : Int) ≤ ↑s.size := by omega
    have HI := Lib.hid hix
    clear hix h1 h2
    go_enter Tryz.func51, Tryz.ntmps51
    go_wp2_with (go_at_call 69; refine (index_slash _ _).mono ?_; rintro e w' ⟨rfl, rfl⟩; rw [HI.out])
    go_region
    go_wp2_with fail
    go_ret3
    exact ⟨rfl, 1, rfl⟩
set_option maxHeartbeats 1000000 in
theorem cutf (l : List UInt8) (hs : l.length ≤ 1073741824) (w : World) :
    Calls Tryz.prog 36 #[.string ⟨l.toArray⟩, .string ⟨#[47]⟩] w fun e w' => e = .returned (.tuple #[.string ⟨(headL l).toArray⟩, .string ⟨(tailL l).toArray⟩, .bool (decide ((47 : UInt8) ∈ l))]) ∧ Drawn w w' := by
  have hs2 : (⟨l.toArray⟩ : ByteArray).size ≤ 1073741824 := by rw [sv_size]; exact hs
  go_enter Tryz.func36, Tryz.ntmps36
  go_wp2_with (go_at_call 51; refine (litecutf _ hs2 _).mono ?_; rintro e w' ⟨rfl, hd⟩)
  go_ret3
  exact ⟨rfl, hd⟩

/-- The parts D are done, the rest of the pattern, from place i on, stands before us. -/
def PRest (p q : List UInt8) (D : List Pt) (r : List UInt8) (i : Nat) : Prop := ptsL p q = D ++ ptsL r (q.drop i) ∧ i + r.length ≤ p.length
theorem prest_go {p q r : List UInt8} {D : List Pt} {i : Nat} (h : PRest p q D r i) (hs : (47 : UInt8) ∈ r) : PRest p q (D ++ ptOne r (q.drop i)) (tailL r) (i + (headL r).length + 1) := by
  refine ⟨?_, ?_⟩
  · rw [h.1, pts_more _ hs, List.drop_drop, List.append_assoc, show i + ((headL r).length + 1) = i + (headL r).length + 1 by omega]
  · have h2 := h.2
    have h3 : (headL r).length + 1 + (tailL r).length = r.length := by
      clear h h2
      induction r with
      | nil => simp at hs
      | cons c r ih =>
        unfold headL tailL
        by_cases hc : c = 47
        · rw [if_pos hc, if_pos hc]; simp; omega
        · rw [if_neg hc, if_neg hc]
          have := ih ((List.mem_cons.1 hs).resolve_left (fun e => hc e.symm))
          simp only [List.length_cons]; omega
    omega
theorem prest_end {p q r : List UInt8} {D : List Pt} {i : Nat} (h : PRest p q D r i) (hs : (47 : UInt8) ∉ r) : D ++ ptOne r (q.drop i) = ptsL p q := by rw [h.1, pts_last _ hs]

def KeepP (bp bq : Nat) (W W' : World) : Prop := W'.heap[bp]? = W.heap[bp]? ∧ W'.heap[bq]? = W.heap[bq]?
theorem below_row {W W' : World} (hb : Below W.heap.size W W') : W.grownBy W' none := ⟨hb.os, hb.tape, hb.output, hb.size, fun k hk _ => hb.block k hk⟩

def PRel (p q : List UInt8) (bp bq : Nat) (J : List Pt → World → Prop) (r at_ sl : Value) (wr : World) : Prop :=
  (wr.cell? ⟨bp, 0, none⟩ = some (sv p) ∧ wr.cell? ⟨bq, 0, none⟩ = some (sv q)) ∧
  ((sl = .bool true ∧ ∃ (l : List UInt8) (i : Nat) (D : List Pt), r = sv l ∧ at_ = .int .i64 i ∧ PRest p q D l i ∧ J D wr) ∨ (sl = .bool false ∧ J (ptsL p q) wr))
def pMeas : Value → Value → Nat
  | .string b, .bool true => b.size + 1
  | _, _ => 0
theorem lown_k (q : List UInt8) (i k : Nat) (z : Int) (hz : z = (i : Int) + (k : Int)) (w : World) : Calls Tryz.prog 38 #[sv q, .int .i64 i, .int .i64 z] w fun r w' => r = .returned (sv ((q.drop i).take k)) ∧ w = w' := by
  have h := lown ⟨q.toArray⟩ i (i + k) (by omega) w
  rw [show i + k - i = k by omega, show ((i + k : Nat) : Int) = z by omega] at h
  exact h

set_option maxRecDepth 100000 in
set_option maxHeartbeats 4000000 in
theorem gparts1_in (F : Fence) (hF : Open F) (n : Nat) (hn : 1 ≤ n) (l bp bq : Nat) (p q : List UInt8) (hp : p.length ≤ 100000) (B : Nat) (J Jx : List Pt → World → Prop) (hJ : AbidesFrom B J)
    (hY : ∀ pre x W, J pre W → pre.length < (ptsL p q).length → pre ++ [x] <+: ptsL p q → YieldAt F (n - 1) Tryz.prog l #[ptV x] W fun e W' =>
      (e = .returned (.bool true) ∧ J (pre ++ [x]) W' ∧ KeepP bp bq W W') ∨ (e = .returned (.bool false) ∧ Jx (pre ++ [x]) W'))
    (W : World) (hbp : W.cell? ⟨bp, 0, none⟩ = some (sv p)) (hbq : W.cell? ⟨bq, 0, none⟩ = some (sv q)) (h0 : J [] W) :
    CallsIn F n Tryz.prog 35 #[.func (.yield l) #[] #[], .pointer (some ⟨bp, 0, none⟩), .pointer (some ⟨bq, 0, none⟩)] W fun e W' => (∃ v, e = .returned v) ∧
      ((∃ ys, ys = ptsL p q ∧ J ys W') ∨ (∃ pre, pre <+: ptsL p q ∧ Jx pre W')) := by
  have hro : F.round = none := hF.ro
  have hfc : F.fn 36 := hF.fn _
  have hfo : F.fn 38 := hF.fn _
  have hfp : F.fn 37 := hF.fn _
  refine callsIn_of_wp Tryz.func35 rfl (hF.fn _) ?_ hro
  simp only [Tryz.ntmps35, List.size_toArray, List.length_cons, List.length_nil, Nat.reduceAdd, Nat.reduceSub, Array.replicate_succ, Array.replicate_zero, List.push_toArray, List.append_toArray, List.nil_append, List.cons_append]
  gi_wp2
  gi_loopw [4, 5, 6] (fun r at_ sl wr => PRel p q bp bq J r at_ sl wr) (fun r _ sl _ => pMeas r sl)
  case atStart => exact ⟨⟨hbp, hbq⟩, Or.inl ⟨rfl, p, 0, [], rfl, rfl, ⟨rfl, by omega⟩, h0⟩⟩
  case round =>
    obtain ⟨⟨hcp, hcq⟩, ⟨rfl, r, i, D, rfl, rfl, hrest, hj⟩ | ⟨rfl, hj⟩⟩ := hrel
    · have HR := Lib.hid hrest
      have HJ := Lib.hid hj
      have HPP := Lib.hid hcp
      have hrl : r.length ≤ 1073741824 := by have := hrest.2; omega
      have HRL := Lib.hid hrest.2
      clear hrest hj hcp
      have he2 := list_empty (headL r)
      have hhl := head_len r
      have hw1 : (i : Int) + ((headL r).length : Int) ≤ 100000 := by have := HRL.out; omega
      have hw0 : (0 : Int) ≤ (i : Int) + ((headL r).length : Int) := by omega
      obtain ⟨sl, hsl⟩ : ∃ sl, sl = decide ((47 : UInt8) ∈ r) := ⟨_, rfl⟩
      have HSL := Lib.hid hsl
      have CC := fun W => cutf r hrl W
      rw [← hsl] at CC
      have HTL := Lib.hid (show sl = true → (tailL r).length < r.length from fun h => tail_less r (List.ne_nil_of_mem (of_decide_eq_true (hsl.symm.trans h))))
      have HE := Lib.hid (show ((i : Int) + ((headL r).length : Int) + 1) = ((i + (headL r).length + 1 : Nat) : Int) by omega)
      cases hh : (headL r).isEmpty with
      | true =>
        have HONE := Lib.hid (show ptOne r (q.drop i) = [] by unfold ptOne; rw [if_pos (by simpa using hh)])
        clear hsl hhl
        gi_wp2_with (gi_at_call 36; refine (hF.calls (CC _)).mono ?_; rintro e w' ⟨rfl, m, rfl⟩)
        refine ⟨fun _ h => (by cases h), ?_⟩
        gi_wp2
        go_roundw
        case rel =>
          refine ⟨⟨HPP.out, hcq⟩, ?_⟩
          have hjd := hJ _ _ _ none HJ.out (drewN_grownBy wr m) (fun _ e => by cases e)
          cases sl with
          | true =>
            have hm := of_decide_eq_true HSL.out.symm
            have h2 := prest_go HR.out hm
            rw [HONE.out, List.append_nil] at h2
            exact Or.inl ⟨rfl, tailL r, i + (headL r).length + 1, D, rfl, by first | rfl | (rw [HE.out]) | (simp), h2, hjd⟩
          | false =>
            have hm := of_decide_eq_false HSL.out.symm
            have h2 := prest_end HR.out hm
            rw [HONE.out, List.append_nil] at h2
            exact Or.inr ⟨rfl, by rw [← h2]; exact hjd⟩
        case measure =>
          have h3 := HTL.out
          cases sl with
          | true => have h4 := h3 rfl; simp only [pMeas, sv_size]; simpa [pMeas, sv_size] using h4
          | false => simp [pMeas]
      | false =>
        obtain ⟨x, hx⟩ : ∃ x : Pt, x = ⟨headL r, (q.drop i).take (headL r).length, sl⟩ := ⟨_, rfl⟩
        have HONE := Lib.hid (show ptOne r (q.drop i) = [x] by unfold ptOne; rw [if_neg (by intro e; rw [e] at hh; cases hh), hx, hsl])
        have CO := fun W => lown_k q i (headL r).length ((i : Int) + ((headL r).length : Int)) rfl W
        have CP := fun W => lpartof x (by rw [hx]; show (headL r).length ≤ 100000; omega) W
        rw [show sv x.t = sv (headL r) by rw [hx], show sv x.q = sv ((q.drop i).take (headL r).length) by rw [hx], show x.sl = sl by rw [hx]] at CP
        have HLEN := Lib.hid (show D.length < (ptsL p q).length by
          cases hs2 : sl with
          | true =>
            have h2 := (prest_go HR.out (of_decide_eq_true (hsl.symm.trans hs2))).1
            rw [HONE.out] at h2
            rw [h2]; simp
          | false =>
            have h2 := prest_end HR.out (of_decide_eq_false (hsl.symm.trans hs2))
            rw [HONE.out] at h2
            rw [← h2]; simp)
        have HPRE := Lib.hid (show D ++ [x] <+: ptsL p q by
          cases hs2 : sl with
          | true =>
            have h2 := (prest_go HR.out (of_decide_eq_true (hsl.symm.trans hs2))).1
            rw [HONE.out] at h2
            exact ⟨_, h2.symm⟩
          | false =>
            have h2 := prest_end HR.out (of_decide_eq_false (hsl.symm.trans hs2))
            rw [HONE.out] at h2
            exact ⟨[], by rw [List.append_nil]; exact h2⟩)
        clear hsl hhl hx
        gi_wp2_with (first
          | (gi_at_call 36; refine (hF.calls (CC _)).mono ?_; rintro e w' ⟨rfl, m, rfl⟩; have hjd := hJ _ _ _ none HJ.out (drewN_grownBy wr m) (fun _ e => by cases e); have hcp := HPP.out)
          | (gi_at_call 38; refine (hF.calls (CO _)).mono ?_; rintro e w' ⟨rfl, rfl⟩)
          | (gi_at_call 37; refine (hF.calls (CP _)).mono ?_; rintro e w3 ⟨rfl, hb⟩; have hj3 := hJ _ _ _ none hjd (below_row hb) (fun _ e => by cases e); have hp3 := cell_below hb (show (wr.drewN m).cell? ⟨bp, 0, none⟩ = some (sv p) from hcp); have hq3 := cell_below hb (show (wr.drewN m).cell? ⟨bq, 0, none⟩ = some (sv q) from hcq); obtain ⟨fn, tmps, assign, body, hy, hR⟩ := hY D x _ hj3 HLEN.out HPRE.out))
        refine hR.mono ?_
        rintro e W4 (⟨rfl, hj4, hk4⟩ | ⟨rfl, hj4⟩)
        · have hp4 := (World.cell?_of_block (w := w3) (a := ⟨bp, 0, none⟩) hk4.1).trans hp3
          have hq4 := (World.cell?_of_block (w := w3) (a := ⟨bq, 0, none⟩) hk4.2).trans hq3
          gi_wp2
          go_roundw
          case rel =>
            refine ⟨⟨hp4, hq4⟩, ?_⟩
            cases sl with
            | true =>
              have hm := of_decide_eq_true HSL.out.symm
              have h2 := prest_go HR.out hm
              rw [HONE.out] at h2
              exact Or.inl ⟨rfl, tailL r, i + (headL r).length + 1, D ++ [x], rfl, by first | rfl | (rw [HE.out]) | (simp), h2, hj4⟩
            | false =>
              have hm := of_decide_eq_false HSL.out.symm
              have h2 := prest_end HR.out hm
              rw [HONE.out] at h2
              exact Or.inr ⟨rfl, by rw [← h2]; exact hj4⟩
          case measure =>
            have h3 := HTL.out
            cases sl with
            | true => have h4 := h3 rfl; simp only [pMeas, sv_size]; simpa [pMeas, sv_size] using h4
            | false => simp [pMeas]
        · gi_wp2
          refine bodyPost_ret (results_none rfl _ _ _) rfl ?_
          exact ⟨⟨_, rfl⟩, .inr ⟨D ++ [x], HPRE.out, hj4⟩⟩
    · have HJ := Lib.hid hj
      gi_wp2
      go_end0
      exact ⟨⟨_, rfl⟩, .inl ⟨_, rfl, HJ.out⟩⟩

theorem gparts_in (F : Fence) (hF : Open F) (n : Nat) (p q : List UInt8) (w : World) :
    CallsIn F n Tryz.prog 19 #[sv p, sv q] w fun e w' => e = .returned (.func (.func 35) #[] #[.pointer (some ⟨w.heap.size, 0, none⟩), .pointer (some ⟨w.heap.size + 1, 0, none⟩)]) ∧ w' = (w.alloc (.cells #[sv p] 9)).alloc (.cells #[sv q] 9) := by
  have hro : F.round = none := hF.ro
  refine callsIn_of_wp Tryz.func19 rfl (hF.fn _) ?_ hro
  simp only [Tryz.ntmps19, List.size_toArray, List.length_cons, List.length_nil, Nat.reduceAdd, Nat.reduceSub, Array.replicate_succ, Array.replicate_zero, List.push_toArray, List.append_toArray, List.nil_append, List.cons_append]
  gi_wp2
  go_ret
  exact ⟨rfl, rfl⟩

/-- A part that a pattern has. -/
abbrev PtG := { x : Pt // x.t ≠ [] ∧ x.t.length ≤ 100000 }
theorem gparts_stops (F : Fence) (hF : Open F) (n : Nat) (hn : 1 ≤ n) (bp bq : Nat) (p q : List UInt8) (hp : p.length ≤ 100000) (w : World) (hbp : bp < w.heap.size) (hbq : bq < w.heap.size)
    (hc : w.cell? ⟨bp, 0, none⟩ = some (sv p)) (hd : w.cell? ⟨bq, 0, none⟩ = some (sv q)) :
    SeqStopsK F n Tryz.prog 35 #[.pointer (some ⟨bp, 0, none⟩), .pointer (some ⟨bq, 0, none⟩)] (fun x : PtG => #[ptV x.1]) (KeepP bp bq) (fun ys => ys.map Subtype.val = ptsL p q) (fun pre => pre.map Subtype.val <+: ptsL p q) (ptsL p q).length w := fun l J Jx W hW hJ hJx hY h0 => by
  refine (gparts1_in F hF n hn l bp bq p q hp W.heap.size (fun pre W' => ∃ pre' : List PtG, pre'.map Subtype.val = pre ∧ J pre' W') (fun pre W' => ∃ pre' : List PtG, pre'.map Subtype.val = pre ∧ Jx pre' W')
    (fun s A B row h hg hr => by obtain ⟨s', h1, h2⟩ := h; exact ⟨s', h1, hJ s' A B row h2 hg hr⟩) ?_ W ((hW.cell (p := ⟨bp, 0, none⟩) hbp).trans hc) ((hW.cell (p := ⟨bq, 0, none⟩) hbq).trans hd) ⟨[], rfl, h0⟩).mono ?_
  · rintro pre x W1 ⟨pre', rfl, hj⟩ hlen hpre
    have hx : x ∈ ptsL p q := hpre.subset (by simp)
    have hxs := (pts_sizes p q).2 x hx
    have hy := hY pre' ⟨x, hxs.1, by have := hxs.2.1; omega⟩ W1 hj (by simpa using hlen)
    refine hy.mono fun e W' h => ?_
    rcases h with ⟨h1, h2, h3⟩ | ⟨h1, h2⟩
    · exact Or.inl ⟨h1, ⟨_, by simp, h2⟩, h3⟩
    · exact Or.inr ⟨h1, ⟨_, by simp, h2⟩⟩
  · rintro e W' ⟨hv, ⟨ys, rfl, pre', h1, h2⟩ | ⟨pre, h1, pre', rfl, h2⟩⟩
    · exact ⟨hv, .inl ⟨pre', h1, h2⟩⟩
    · exact ⟨hv, .inr ⟨pre', h1, h2⟩⟩
end Go.Proofs.YtclhpedecimicaaGreat

namespace Go.Proofs.YtclhpedecimicaaGreat
set_option maxRecDepth 100000
open Go Go.RowKit Go.Shelf Go.MapKept Go.ChangeMaps

def flatF (G : List Fd) : List Value := G.flatMap fun f => [sv f.1, .int .i64 f.2]
theorem flatF_len (G : List Fd) : (flatF G).length = G.length * 2 := by
  induction G with
  | nil => rfl
  | cons f r ih => simp only [flatF, List.flatMap_cons, List.length_append, List.length_cons, List.length_nil] at ih ⊢; omega
theorem flatF_more (G : List Fd) (f : Fd) : flatF (G ++ [f]) = flatF G ++ [sv f.1, .int .i64 f.2] := by simp [flatF]
theorem flatF_at : ∀ (G : List Fd) (i : Nat) (f : Fd), G[i]? = some f → (flatF G)[i * 2]? = some (sv f.1) ∧ (flatF G)[i * 2 + 1]? = some (.int .i64 f.2)
  | [], i, f, h => by simp at h
  | g :: r, 0, f, h => by simp at h; subst h; exact ⟨rfl, rfl⟩
  | g :: r, i + 1, f, h => by
    have h2 := flatF_at r i f (by simpa using h)
    have e : flatF (g :: r) = sv g.1 :: .int .i64 g.2 :: flatF r := by simp [flatF]
    rw [e, show (i + 1) * 2 = i * 2 + 1 + 1 by omega]
    exact ⟨by rw [List.getElem?_cons_succ, List.getElem?_cons_succ]; exact h2.1, by rw [List.getElem?_cons_succ, List.getElem?_cons_succ]; exact h2.2⟩

/-- Paths that can be read. -/
def RowG (T : TypeId) (B : Nat) (W : World) (pa : Option Addr) (G : List Fd) : Prop :=
  0 < G.length → ∃ gp cur, pa = some ⟨gp, 0, none⟩ ∧ W.heap[gp]? = some (.cells cur 59 (0, 0)) ∧ SafeX T B W gp ∧ cur.toList.take (G.length * 2) = flatF G
theorem RowG.cells {T : TypeId} {B : Nat} {W : World} {pa : Option Addr} {G : List Fd} (h : RowG T B W pa G) {i : Nat} {f : Fd} (hi : G[i]? = some f) : ∃ gp, pa = some ⟨gp, 0, none⟩ ∧ W.cell? ⟨gp, i * 2, none⟩ = some (sv f.1) ∧ W.cell? ⟨gp, i * 2 + 1, none⟩ = some (.int .i64 f.2) := by
  have hlt := (List.getElem?_eq_some_iff.1 hi).1
  obtain ⟨gp, cur, h1, h2, -, h4⟩ := h (by omega)
  obtain ⟨f0, f1⟩ := flatF_at G i f hi
  rw [← h4, List.getElem?_take_of_lt (by omega)] at f0 f1
  refine ⟨gp, h1, ?_, ?_⟩
  · simp only [World.cell?, h2]; simpa using f0
  · simp only [World.cell?, h2]; simpa using f1
theorem RowG.stay {n₀ : Nat} {T : TypeId} {B : Nat} {W W' : World} {pa : Option Addr} {G : List Fd} (h : RowG T B W pa G) (k : StayX n₀ T B W W') : RowG T B W' pa G := fun hg => by
  obtain ⟨gp, cur, h1, h2, h3, h4⟩ := h hg
  exact ⟨gp, cur, h1, (k.safe gp h3).2 _ h2 rfl, (k.safe gp h3).1, h4⟩

/-- What behind's loops stand on. -/
structure BehAt (T : TypeId) (B : Nat) (w0 : World) (L : List Ino) (x : Pt) (S : Array Value) (pa : Option Addr) (pn pc : Nat) (G : List Fd) (bs bp bx : Nat) (W : World) : Prop where
  good : GoodX T B W
  low : Below w0.heap.size w0 W
  srch : W.heap[bs]? = some (.cells S 47 (0, 0)) ∧ SafeX T B W bs
  paths : W.heap[bp]? = some (.cells #[.slice pa pn pc] 48 (0, 0)) ∧ SafeX T B W bp
  part : W.heap[bx]? = some (.cells (ptC x) 54 (0, 0)) ∧ SafeX T B W bx
  row : RowG T B W pa G
theorem BehAt.stay {T : TypeId} {B : Nat} {w0 : World} {L : List Ino} {x : Pt} {S : Array Value} {pa : Option Addr} {pn pc : Nat} {G : List Fd} {bs bp bx : Nat} {W W' : World} (h : BehAt T B w0 L x S pa pn pc G bs bp bx W) (k : StayX w0.heap.size T B W W') : BehAt T B w0 L x S pa pn pc G bs bp bx W' :=
  ⟨k.good, h.low.trans k.low, ⟨(k.safe _ h.srch.2).2 _ h.srch.1 rfl, (k.safe _ h.srch.2).1⟩, ⟨(k.safe _ h.paths.2).2 _ h.paths.1 rfl, (k.safe _ h.paths.2).1⟩, ⟨(k.safe _ h.part.2).2 _ h.part.1 rfl, (k.safe _ h.part.2).1⟩, h.row.stay k⟩
/-- All of it, with the function that asks. -/
structure BehSt (T : TypeId) (B : Nat) (w0 : World) (L : List Ino) (x : Pt) (S : Array Value) (pa : Option Addr) (pn pc : Nat) (G : List Fd) (bs bp bx M ba bs2 bx2 : Nat) (W : World) : Prop where
  at_ : BehAt T B w0 L x S pa pn pc G bs bp bx W
  ask : AskAt T B L x S M ba bs2 bx2 W
theorem BehSt.stay {T : TypeId} {B : Nat} {w0 : World} {L : List Ino} {x : Pt} {S : Array Value} {pa : Option Addr} {pn pc : Nat} {G : List Fd} {bs bp bx M ba bs2 bx2 : Nat} {W W' : World} (h : BehSt T B w0 L x S pa pn pc G bs bp bx M ba bs2 bx2 W) (k : StayX w0.heap.size T B W W') (hM : ∀ es c, W.heap[M]? = some (.map es c) → W'.heap[M]? = some (.map es c)) : BehSt T B w0 L x S pa pn pc G bs bp bx M ba bs2 bx2 W' := ⟨h.at_.stay k, h.ask.stay k hM⟩
theorem BehSt.below {T : TypeId} {B : Nat} {w0 : World} {L : List Ino} {x : Pt} {S : Array Value} {pa : Option Addr} {pn pc : Nat} {G : List Fd} {bs bp bx M ba bs2 bx2 : Nat} {W W' : World} (h : BehSt T B w0 L x S pa pn pc G bs bp bx M ba bs2 bx2 W) (hb : Below W.heap.size W W') : BehSt T B w0 L x S pa pn pc G bs bp bx M ba bs2 bx2 W' :=
  h.stay (StayX.of_below h.at_.low.size hb h.at_.good) (fun _ _ h0 => kept hb h0)
theorem BehSt.round {T : TypeId} {B : Nat} {w0 : World} {L : List Ino} {x : Pt} {S : Array Value} {pa : Option Addr} {pn pc : Nat} {G : List Fd} {bs bp bx M ba bs2 bx2 : Nat} {W W' : World} (h : BehSt T B w0 L x S pa pn pc G bs bp bx M ba bs2 bx2 W) (k : KpX w0.heap.size T B W W') : BehSt T B w0 L x S pa pn pc G bs bp bx M ba bs2 bx2 W' :=
  h.stay (k.stay h.at_.good) (fun _ _ h0 => k.walks.same _ _ h0 rfl)

/-- A slot's names and a box, which stay. -/
structure InnAt (T : TypeId) (B : Nat) (f : Fd) (bf : Nat) (nv : Value) (N : List (List UInt8)) (W : World) : Prop where
  box : W.heap[bf]? = some (.cells (fdC f) 59 (0, 0)) ∧ SafeX T B W bf
  names : Texts 0 W nv N ∧ ∀ g, nv.ownBlock = some g → SafeX T B W g
theorem InnAt.stay {n₀ : Nat} {T : TypeId} {B : Nat} {f : Fd} {bf : Nat} {nv : Value} {N : List (List UInt8)} {W W' : World} (h : InnAt T B f bf nv N W) (k : StayX n₀ T B W W') : InnAt T B f bf nv N W' :=
  ⟨⟨(k.safe _ h.box.2).2 _ h.box.1 rfl, (k.safe _ h.box.2).1⟩, texts_stay h.names.1 h.names.2 k, fun g hg => (k.safe g (h.names.2 g hg)).1⟩

/-- Paths told so far: of the first i, all; of the next one, those by its first j names. -/
def tellW (L : List Ino) (cwd : Int) (G : List Fd) (x : Pt) (i : Nat) : List Fd := behW L cwd (G.take i) x
def tellN (L : List Ino) (cwd : Int) (f : Fd) (x : Pt) (N : List (List UInt8)) (j : Nat) : List Fd := (N.take j).filterMap fun n => reachW L cwd (f.1 ++ n) x
theorem tellW_next (L : List Ino) (cwd : Int) (G : List Fd) (x : Pt) (i : Nat) (f : Fd) (h : G[i]? = some f) : tellW L cwd G x (i + 1) = tellW L cwd G x i ++ tellN L cwd f x (namesW L f.2 x) (namesW L f.2 x).length := by
  obtain ⟨h1, h2⟩ := List.getElem?_eq_some_iff.1 h
  unfold tellW behW tellN
  rw [List.take_succ_eq_append_getElem h1, List.flatMap_append, List.take_length, h2]
  simp [oneW]
theorem tellN_next (L : List Ino) (cwd : Int) (f : Fd) (x : Pt) (N : List (List UInt8)) (j : Nat) (h : j < N.length) : tellN L cwd f x N (j + 1) = tellN L cwd f x N j ++ (match reachW L cwd (f.1 ++ N[j]) x with | some g => [g] | none => []) := by
  unfold tellN
  rw [List.take_succ_eq_append_getElem h, List.filterMap_append]
  congr 1
  cases hr : reachW L cwd (f.1 ++ N[j]) x <;> simp [hr]
theorem tell_pre (L : List Ino) (cwd : Int) (G : List Fd) (x : Pt) (i : Nat) (f : Fd) (h : G[i]? = some f) (j : Nat) : tellW L cwd G x i ++ tellN L cwd f x (namesW L f.2 x) j <+: behW L cwd G x := by
  obtain ⟨h1, h2⟩ := List.getElem?_eq_some_iff.1 h
  have e1 : G = G.take (i + 1) ++ G.drop (i + 1) := (List.take_append_drop _ _).symm
  have e2 : behW L cwd G x = tellW L cwd G x (i + 1) ++ behW L cwd (G.drop (i + 1)) x := by
    unfold tellW behW
    rw [← List.flatMap_append, List.take_append_drop]
  rw [e2, tellW_next L cwd G x i f h]
  have e3 : tellN L cwd f x (namesW L f.2 x) (namesW L f.2 x).length = tellN L cwd f x (namesW L f.2 x) j ++ ((namesW L f.2 x).drop j).filterMap fun n => reachW L cwd (f.1 ++ n) x := by
    unfold tellN
    rw [List.take_length, ← List.filterMap_append, List.take_append_drop]
  rw [e3]
  exact ⟨_, by simp only [List.append_assoc]; rfl⟩
theorem tellW_all (L : List Ino) (cwd : Int) (G : List Fd) (x : Pt) : tellW L cwd G x G.length = behW L cwd G x := by unfold tellW; rw [List.take_length]
end Go.Proofs.YtclhpedecimicaaGreat

namespace Go.Proofs.YtclhpedecimicaaGreat
set_option maxRecDepth 100000
open Go Go.RowKit Go.Shelf Go.MapKept Go.ChangeMaps

attribute [local go_sem] Oper.semAt_some

theorem texts_slice {W : World} {v : Value} {N : List (List UInt8)} (h : Texts 0 W v N) : ∃ na nc, v = .slice na N.length nc ∧ ∀ j (hj : j < N.length), ∃ g, na = some ⟨g, 0, none⟩ ∧ W.cell? ⟨g, j, none⟩ = some (sv N[j]) := by
  obtain ⟨h1, ⟨h2, h3⟩ | ⟨g, cap, cur, hv, h0, hb, r1, r2, r3, r4⟩⟩ := h
  · exact ⟨none, 0, by rw [h2, h3], fun j hj => by omega⟩
  · refine ⟨some ⟨g, 0, none⟩, cap, hv, fun j hj => ⟨g, rfl, ?_⟩⟩
    have h5 : (N.map strv)[j]? = some (sv N[j]) := by rw [List.getElem?_map, List.getElem?_eq_getElem hj]; rfl
    rw [← r4, List.getElem?_take_of_lt (by omega)] at h5
    simp only [World.cell?, hb]
    simpa using h5
theorem wrap_ok (j : Nat) (h : j ≤ 1048576) : wrap64 ((j : Int) + 1) = ((j + 1 : Nat) : Int) := by unfold wrap64; omega
theorem meas_ok {j n : Nat} {z : Int} (h : j < n) (hz : z = ((j + 1 : Nat) : Int)) : n - (intOf (.int .i64 z)).toNat < n - (intOf (.int .i64 (j : Int))).toNat := by
  subst hz
  show n - ((j + 1 : Nat) : Int).toNat < n - ((j : Nat) : Int).toNat
  rw [Int.toNat_natCast, Int.toNat_natCast]
  exact Nat.sub_lt_sub_left h (Nat.lt_succ_self j)
theorem val_ok {j : Nat} {z : Int} (hz : z = ((j + 1 : Nat) : Int)) : Value.int .i64 z = .int .i64 ((j + 1 : Nat) : Int) := by rw [hz]
theorem ask_walk {T : TypeId} {B : Nat} {L : List Ino} {x : Pt} {S : Array Value} {M ba bs bx : Nat} {W : World} (h : AskAt T B L x S M ba bs bx W) : ∃ o : Obj, W.heap[M]? = some o ∧ o.isWalk = true := by
  obtain ⟨es, c, h1, -⟩ := h.map
  exact ⟨_, h1, rfl⟩
/-- names' four blocks, behind a world. -/
theorem ask_laid {T : TypeId} {B : Nat} (L : List Ino) (x : Pt) (S : Array Value) (W : World) (hG : GoodX T B W) :
    AskAt T B L x S (W.heap.size + 2) (W.heap.size + 3) W.heap.size (W.heap.size + 1) ((((W.alloc (.cells S 47)).alloc (.cells (ptC x) 54)).alloc (.map #[] 0)).alloc (.cells #[.map (some (W.heap.size + 2))] 95)) ∧
      Below W.heap.size W ((((W.alloc (.cells S 47)).alloc (.cells (ptC x) 54)).alloc (.map #[] 0)).alloc (.cells #[.map (some (W.heap.size + 2))] 95)) := by
  obtain ⟨⟨h1, h2, h3⟩, hb, hs⟩ := three_laid W (.cells S 47) (.cells (ptC x) 54) (.map #[] 0)
  obtain ⟨W3, hW3⟩ : ∃ W3, W3 = ((W.alloc (.cells S 47)).alloc (.cells (ptC x) 54)).alloc (.map #[] 0) := ⟨_, rfl⟩
  rw [← hW3] at h1 h2 h3 hb hs ⊢
  have hb4 := below_box W3 (.cells #[.map (some (W.heap.size + 2))] 95)
  have h4 := new_block W3 (.cells #[.map (some (W.heap.size + 2))] 95)
  rw [hs] at h4
  have hbb : Below W.heap.size W (W3.alloc (.cells #[.map (some (W.heap.size + 2))] 95)) := below_two hb hb4
  have hs4 : (W3.alloc (.cells #[.map (some (W.heap.size + 2))] 95)).heap.size = W.heap.size + 4 := by simp [hs]
  refine ⟨⟨⟨h4, SafeX.new hG hbb (by omega) (by omega)⟩, ⟨kept hb4 h1, SafeX.new hG hbb (by omega) (by omega)⟩, ⟨kept hb4 h2, SafeX.new hG hbb (by omega) (by omega)⟩, #[], 0, kept hb4 h3, ?_, ?_⟩, hbb⟩
  · intro e he; simp at he
  · intro e he; simp at he

set_option maxRecDepth 100000 in
set_option maxHeartbeats 8000000 in
theorem gbehind1_in (F : Fence) (hF : Open F) (n : Nat) (hn : 1 ≤ n) (l : Nat) (T : TypeId) (B : Nat) (w0 : World) (a : Option Addr) (cap : Nat) (m b cwd : Int) (L : List Ino) (hFit : FitP L m b) (hN0 : NodesIn w0 a cap L) (x : Pt) (ht : x.t ≠ []) (htl : x.t.length ≤ 100000)
    (pa : Option Addr) (pc : Nat) (G : List Fd) (hGn : G.length ≤ 1048576) (hG1 : ∀ f ∈ G, f.1.length ≤ 90000000) (hG2 : ∀ f ∈ G, 0 ≤ f.2 ∧ f.2 < 1000) (bs bp bx : Nat) (BJ : Nat) (J Jx : List Fd → World → Prop) (hJ : AbidesFrom BJ J)
    (hY : ∀ pre f W, J pre W → pre.length < (behW L cwd G x).length → YieldAt F (n - 1) Tryz.prog l #[fdV f] W fun e W' =>
      (e = .returned (.bool true) ∧ J (pre ++ [f]) W' ∧ KpX w0.heap.size T B W W') ∨ (e = .returned (.bool false) ∧ Jx (pre ++ [f]) W'))
    (W : World) (hBJ : BJ ≤ W.heap.size) (hA : BehAt T B w0 L x (srC a L.length cap m b cwd) pa G.length pc G bs bp bx W) (h0 : J [] W) :
    CallsIn F n Tryz.prog 39 #[.func (.yield l) #[] #[], .pointer (some ⟨bs, 0, none⟩), .pointer (some ⟨bx, 0, none⟩), .pointer (some ⟨bp, 0, none⟩)] W fun e W' => (∃ v, e = .returned v) ∧
      ((∃ ys, ys = behW L cwd G x ∧ J ys W') ∨ (∃ pre, pre <+: behW L cwd G x ∧ Jx pre W')) := by
  have hro : F.round = none := hF.ro
  have hfc : F.fn 40 := hF.fn _
  have hfo : F.fn 52 := hF.fn _
  have hfp : F.fn 41 := hF.fn _
  obtain ⟨hask, hbw⟩ := ask_laid (T := T) (B := B) L x (srC a L.length cap m b cwd) W hA.good
  obtain ⟨W4, hW4⟩ : ∃ W4, W4 = (((W.alloc (.cells (srC a L.length cap m b cwd) 47)).alloc (.cells (ptC x) 54)).alloc (.map #[] 0)).alloc (.cells #[.map (some (W.heap.size + 2))] 95) := ⟨_, rfl⟩
  rw [← hW4] at hask hbw
  have HST0 := Lib.hid (show BehSt T B w0 L x (srC a L.length cap m b cwd) pa G.length pc G bs bp bx (W.heap.size + 2) (W.heap.size + 3) W.heap.size (W.heap.size + 1) W4 from ⟨hA.stay (StayX.of_below hA.low.size hbw hA.good), hask⟩)
  have hJ4 := hJ _ _ _ none h0 (below_row hbw) (fun _ e => by cases e)
  have HJ4 := Lib.hid hJ4
  obtain ⟨M, hM⟩ : ∃ M, M = W.heap.size + 2 := ⟨_, rfl⟩
  rw [← hM] at HST0
  have HMB := Lib.hid (show BJ ≤ M ∧ w0.heap.size ≤ M by have := hA.low.size; omega)
  have CN := fun W => lnames a L.length cap m b cwd x W
  have s0 := blk_cell hA.srch.1 0
  have s1 := blk_cell hA.srch.1 1
  have s2 := blk_cell hA.srch.1 2
  have s3 := blk_cell hA.srch.1 3
  have x0 := blk_cell hA.part.1 0
  have x1 := blk_cell hA.part.1 1
  have x2 := blk_cell hA.part.1 2
  have x3 := blk_cell hA.part.1 3
  unfold srC at s0 s1 s2 s3
  unfold ptC at x0 x1 x2 x3
  have HA := Lib.hid hA
  unfold srV ptV ptC at CN
  obtain ⟨mg, hmg⟩ : ∃ mg, mg = magB x.L := ⟨_, rfl⟩
  unfold ptC at hW4
  rw [← hmg] at CN x0 x1 x2 x3 hW4
  have HW4 := Lib.hid hW4
  have HMG := Lib.hid hmg
  clear hask hbw hJ4 hW4 hA h0 hmg
  refine callsIn_of_wp Tryz.func39 rfl (hF.fn _) ?_ hro
  simp only [Tryz.ntmps39, List.size_toArray, List.length_cons, List.length_nil, Nat.reduceAdd, Nat.reduceSub, Array.replicate_succ, Array.replicate_zero, List.push_toArray, List.append_toArray, List.nil_append, List.cons_append]
  gi_wp2
  refine (hF.calls (CN _)).mono ?_
  rintro e w4 ⟨rfl, hw4⟩
  rw [← HW4.out] at hw4
  subst hw4
  have p0 := blk_cell HST0.out.at_.paths.1 0
  clear s0 s1 s2 s3 x0 x1 x2 x3
  gi_wp2
  unfold sv
  gi_loopw [17] (fun v17 wr => ∃ i : Nat, v17 = .int .i64 (i : Int) ∧ i ≤ G.length ∧ Hid (J (tellW L cwd G x i) wr) ∧ Hid (BehSt T B w0 L x (srC a L.length cap m b cwd) pa G.length pc G bs bp bx M (W.heap.size + 3) W.heap.size (W.heap.size + 1) wr)) (fun v17 _ => G.length - (intOf v17).toNat)
  case atStart => exact ⟨0, rfl, Nat.zero_le _, HJ4, HST0⟩
  case round =>
    obtain ⟨i, rfl, hi, HJI, HST⟩ := hrel
    by_cases hlt : i < G.length
    · obtain ⟨f, hf⟩ : ∃ f, G[i]? = some f := ⟨G[i], List.getElem?_eq_getElem hlt⟩
      obtain ⟨gp, rfl, c0, c1⟩ := HST.out.at_.row.cells hf
      unfold sv at c0
      have HFM := Lib.hid (show f ∈ G from List.mem_of_getElem? hf)
      have HFI := Lib.hid hf
      have hi0 : (0 : Int) ≤ (i : Int) := by omega
      have hi1 : (i : Int) < (G.length : Int) := by omega
      obtain ⟨hd0, hd1⟩ := hG2 f HFM.out
      have hb1 := below_box wr (.cells (fdC f) 59)
      have hn1 := new_block wr (.cells (fdC f) 59)
      have hJf := hJ _ _ _ none HJI.out (below_row hb1) (fun _ e => by cases e)
      have HSTf := Lib.hid (HST.out.below hb1)
      have HSF := Lib.hid (show SafeX T B (wr.alloc (.cells (fdC f) 59)) wr.heap.size from SafeX.new HST.out.at_.good hb1 (Nat.le_refl _) (by simp))
      have e0 := blk_cell hn1 0
      have e1 := blk_cell hn1 1
      have HNB := Lib.hid hn1
      have HJF := Lib.hid hJf
      unfold fdC at e0 e1
      obtain ⟨wf, hwf⟩ : ∃ wf, wf = wr.alloc (.cells (fdC f) 59) := ⟨_, rfl⟩
      rw [← hwf] at HSTf HSF HNB HJF
      unfold fdC at hwf
      rw [← hwf] at e0 e1
      unfold sv at hwf
      have HWF := Lib.hid hwf
      have C1 := lnames1 w0.heap.size B T a cap m b cwd x ht htl L hFit M (W.heap.size + 3) W.heap.size (W.heap.size + 1) HMB.out.2 f.2 hd0 hd1 wf HSTf.out.at_.low.size (hN0.below HSTf.out.at_.low) HSTf.out.at_.good HSTf.out.ask
      clear hf hb1 hn1 hJf hwf
      gi_wp2
      rw [← HWF.out]
      refine (hF.calls C1).mono ?_
      rintro e w1 ⟨nv, rfl, hT, hTs, hA1, hk1, hg1⟩
      obtain ⟨na, nc, rfl, hcell⟩ := texts_slice hT
      obtain ⟨N, hNN⟩ : ∃ N, N = namesW L f.2 x := ⟨_, rfl⟩
      rw [← hNN] at hT hcell
      rw [← hNN]
      have HNE := Lib.hid hNN
      have HST1 := Lib.hid (show BehSt T B w0 L x (srC a L.length cap m b cwd) (some ⟨gp, 0, none⟩) G.length pc G bs bp bx M (W.heap.size + 3) W.heap.size (W.heap.size + 1) w1 from ⟨HSTf.out.at_.stay hk1, hA1⟩)
      have HIN1 := Lib.hid (show InnAt T B f wr.heap.size (.slice na N.length nc) N w1 from ⟨⟨(hk1.safe _ HSF.out).2 _ HNB.out rfl, (hk1.safe _ HSF.out).1⟩, hT, by rw [hNN]; exact hTs⟩)
      have HJ1 := Lib.hid (show J (tellW L cwd G x i ++ tellN L cwd f x N 0) w1 by
        have h := hJ _ _ _ (some M) HJF.out hg1 (fun r e => by cases e; exact ⟨HMB.out.1, ask_walk HSTf.out.ask⟩)
        simpa [tellN] using h)
      have HNL := Lib.hid (show N.length ≤ 1024 ∧ ∀ s ∈ N, s.length ≤ x.t.length + 64 by rw [hNN]; exact names_len hFit f.2 x)
      have HCELL := Lib.hid hcell
      clear hT hTs hA1 hk1 hg1 hNN hcell e0 e1 c0 c1 C1
      gi_wp2
      generalize wr.heap.size = bf at HIN1 ⊢
      gi_loopw [26] (fun v26 wy => ∃ j : Nat, v26 = .int .i64 (j : Int) ∧ j ≤ N.length ∧ Hid (J (tellW L cwd G x i ++ tellN L cwd f x N j) wy) ∧ Hid (BehSt T B w0 L x (srC a L.length cap m b cwd) (some ⟨gp, 0, none⟩) G.length pc G bs bp bx M (W.heap.size + 3) W.heap.size (W.heap.size + 1) wy) ∧ Hid (InnAt T B f bf (.slice na N.length nc) N wy)) (fun v26 _ => N.length - (intOf v26).toNat)
      case atStart => exact ⟨0, rfl, Nat.zero_le _, HJ1, HST1, HIN1⟩
      case round =>
        obtain ⟨j, rfl, hj, HJY, HSTY, HINY⟩ := hrel
        by_cases hjl : j < N.length
        · obtain ⟨na', nc', he, hcell⟩ := texts_slice HINY.out.names.1
          simp only [Value.slice.injEq] at he
          obtain ⟨rfl, -, -⟩ := he
          obtain ⟨gn, rfl, cn⟩ := hcell j hjl
          obtain ⟨nm, hnm⟩ : ∃ nm, nm = N[j] := ⟨_, rfl⟩
          rw [← hnm] at cn
          have HNM := Lib.hid (show nm.length ≤ x.t.length + 64 by rw [hnm]; exact HNL.out.2 _ (List.getElem_mem hjl))
          have hj0 : (0 : Int) ≤ (j : Int) := by omega
          have hj1 : (j : Int) < (N.length : Int) := by omega
          have HWJ := Lib.hid (show wrap64 ((j : Int) + 1) = ((j + 1 : Nat) : Int) from wrap_ok j (by have := HNL.out.1; omega))
          have b0 := blk_cell HINY.out.box.1 0
          have s0 := blk_cell HSTY.out.at_.srch.1 0
          have s1 := blk_cell HSTY.out.at_.srch.1 1
          have s2 := blk_cell HSTY.out.at_.srch.1 2
          have s3 := blk_cell HSTY.out.at_.srch.1 3
          have x0 := blk_cell HSTY.out.at_.part.1 0
          have x1 := blk_cell HSTY.out.at_.part.1 1
          have x2 := blk_cell HSTY.out.at_.part.1 2
          have x3 := blk_cell HSTY.out.at_.part.1 3
          unfold fdC at b0
          unfold srC at s0 s1 s2 s3
          unfold ptC at x0 x1 x2 x3
          have hfl := hG1 f HFM.out
          have hpl : (f.1 ++ nm).length ≤ 100000000 := by rw [List.length_append]; have := HNM.out; omega
          have CR := lreach a cap m b cwd (f.1 ++ nm) hpl x L hFit wr (hN0.below HSTY.out.at_.low)
          have HTN := Lib.hid (tellN_next L cwd f x N j hjl)
          rw [← hnm] at HTN
          have HPRE := Lib.hid (fun k => tell_pre L cwd G x i f HFI.out k)
          rw [← HNE.out] at HPRE
          have hcat : Value.string ((⟨f.1.toArray⟩ : ByteArray) ++ (⟨nm.toArray⟩ : ByteArray)) = Value.string ⟨(f.1 ++ nm).toArray⟩ := strv_cat f.1 nm
          unfold srV ptV ptC sv at CR
          unfold sv at x0 x1 x2 x3 b0 cn
          rw [← HMG.out] at CR x0 x1 x2 x3
          rw [← hcat] at CR
          have hcc : ¬ 9223372036854775807 < f.1.length + nm.length := by rw [List.length_append] at hpl; omega
          clear hcell hnm hcat
          gi_wp2
          refine (hF.calls CR).mono ?_
          rintro e w5 ⟨g, v, rfl, hrv, hb5⟩
          have HST5 := HSTY.out.below hb5
          have HIN5 := HINY.out.stay (StayX.of_below (T := T) (B := B) HSTY.out.at_.low.size hb5 HSTY.out.at_.good)
          have hb6 := below_box w5 (.cells (fdC g) 59)
          have HST6 := Lib.hid (HST5.below hb6)
          have HIN6 := Lib.hid (HIN5.stay (StayX.of_below (T := T) (B := B) HST5.at_.low.size hb6 HST5.at_.good))
          have hJ5 := hJ _ _ _ none HJY.out (below_row hb5) (fun _ e => by cases e)
          have HJ6 := Lib.hid (hJ _ _ _ none hJ5 (below_row hb6) (fun _ e => by cases e))
          have g0 := blk_cell (new_block w5 (.cells (fdC g) 59)) 0
          have g1 := blk_cell (new_block w5 (.cells (fdC g) 59)) 1
          obtain ⟨w6, hw6⟩ : ∃ w6, w6 = w5.alloc (.cells (fdC g) 59) := ⟨_, rfl⟩
          rw [← hw6] at HST6 HIN6 HJ6 g0 g1
          unfold fdC at hw6 g0 g1
          unfold sv at hw6 g0 g1
          have HW6 := Lib.hid hw6
          unfold fdV fdC sv
          clear hw6 hb6 hb5 hJ5 HST5 HIN5 s0 s1 s2 s3 x0 x1 x2 x3 b0 cn CR
          cases v with
          | false =>
            have HTJ := Lib.hid (show tellN L cwd f x N (j + 1) = tellN L cwd f x N j by rw [HTN.out, hrv]; simp)
            clear hrv
            gi_wp2
            refine ⟨fun _ h => (by cases h), ?_⟩
            rw [← HW6.out]
            gi_wp2
            go_roundw
            case rel => exact ⟨j + 1, val_ok HWJ.out, by omega, by rw [HTJ.out]; exact HJ6, HST6, HIN6⟩
            case measure => exact meas_ok hjl HWJ.out
          | true =>
            have HTJ := Lib.hid (show tellN L cwd f x N (j + 1) = tellN L cwd f x N j ++ [g] by rw [HTN.out, hrv]; simp)
            clear hrv
            have hlen : (tellW L cwd G x i ++ tellN L cwd f x N j).length < (behW L cwd G x).length := by
              have h := (HPRE.out (j + 1)).length_le
              rw [HTJ.out] at h
              simp only [List.length_append, List.length_singleton] at h ⊢
              omega
            obtain ⟨fn, tmps, assign, body, hy, hR⟩ := hY _ g _ HJ6.out hlen
            unfold fdV fdC sv at hy
            rw [HW6.out] at hy hR g0 g1
            gi_wp2
            refine hR.mono ?_
            rintro e W7 (⟨rfl, hj7, hk7⟩ | ⟨rfl, hj7⟩)
            · rw [← HW6.out] at hk7
              have HST7 := Lib.hid (HST6.out.round hk7)
              have HIN7 := Lib.hid (HIN6.out.stay (hk7.stay HST6.out.at_.good))
              have HJ7 := Lib.hid (show J (tellW L cwd G x i ++ tellN L cwd f x N (j + 1)) W7 by rw [HTJ.out, ← List.append_assoc]; exact hj7)
              clear hj7 hk7
              gi_wp2
              go_roundw
              case rel => exact ⟨j + 1, val_ok HWJ.out, by omega, HJ7, HST7, HIN7⟩
              case measure => exact meas_ok hjl HWJ.out
            · have HPR := Lib.hid (show (tellW L cwd G x i ++ tellN L cwd f x N j) ++ [g] <+: behW L cwd G x by have h := HPRE.out (j + 1); rw [HTJ.out, ← List.append_assoc] at h; exact h)
              have HJ7 := Lib.hid hj7
              clear hj7
              gi_wp2
              refine bodyPost_ret (results_none rfl _ _ _) rfl ?_
              exact ⟨⟨_, rfl⟩, .inr ⟨_, HPR.out, HJ7.out⟩⟩
        · obtain rfl : j = N.length := by omega
          have HJE := Lib.hid (show J (tellW L cwd G x (i + 1)) wr by rw [tellW_next L cwd G x i f HFI.out, ← HNE.out]; exact HJY.out)
          gi_wp2
          go_roundw
          case rel => exact ⟨i + 1, by go_num, by omega, HJE, HSTY⟩
          case measure => simp [intOf] <;> omega
    · obtain rfl : i = G.length := by omega
      have HJE := Lib.hid (show J (behW L cwd G x) wr by rw [← tellW_all]; exact HJI.out)
      gi_wp2
      go_end0
      exact ⟨⟨_, rfl⟩, .inl ⟨_, rfl, HJE.out⟩⟩

theorem gbehind_in (F : Fence) (hF : Open F) (n : Nat) (a : Option Addr) (k cap : Nat) (m b cwd : Int) (pa : Option Addr) (pn pc : Nat) (x : Pt) (w : World) :
    CallsIn F n Tryz.prog 20 #[srV a k cap m b cwd, .slice pa pn pc, ptV x] w fun e w' => e = .returned (.func (.func 39) #[] #[.pointer (some ⟨w.heap.size, 0, none⟩), .pointer (some ⟨w.heap.size + 2, 0, none⟩), .pointer (some ⟨w.heap.size + 1, 0, none⟩)]) ∧
      w' = ((w.alloc (.cells (srC a k cap m b cwd) 47)).alloc (.cells #[.slice pa pn pc] 48)).alloc (.cells (ptC x) 54) := by
  have hro : F.round = none := hF.ro
  unfold srV ptV srC ptC
  refine callsIn_of_wp Tryz.func20 rfl (hF.fn _) ?_ hro
  simp only [Tryz.ntmps20, List.size_toArray, List.length_cons, List.length_nil, Nat.reduceAdd, Nat.reduceSub, Array.replicate_succ, Array.replicate_zero, List.push_toArray, List.append_toArray, List.nil_append, List.cons_append]
  gi_wp2
  go_ret
  exact ⟨rfl, rfl⟩

theorem gbehind_stops (F : Fence) (hF : Open F) (n : Nat) (hn : 1 ≤ n) (T : TypeId) (B : Nat) (w0 : World) (a : Option Addr) (cap : Nat) (m b cwd : Int) (L : List Ino) (hFit : FitP L m b) (hN0 : NodesIn w0 a cap L) (x : Pt) (ht : x.t ≠ []) (htl : x.t.length ≤ 100000)
    (pa : Option Addr) (pc : Nat) (G : List Fd) (hGn : G.length ≤ 1048576) (hG1 : ∀ f ∈ G, f.1.length ≤ 90000000) (hG2 : ∀ f ∈ G, 0 ≤ f.2 ∧ f.2 < 1000) (bs bp bx : Nat) (w : World) (hA : BehAt T B w0 L x (srC a L.length cap m b cwd) pa G.length pc G bs bp bx w) :
    SeqStopsK F n Tryz.prog 39 #[.pointer (some ⟨bs, 0, none⟩), .pointer (some ⟨bx, 0, none⟩), .pointer (some ⟨bp, 0, none⟩)] (fun f : Fd => #[fdV f]) (KpX w0.heap.size T B) (fun ys => ys = behW L cwd G x) (fun pre => pre <+: behW L cwd G x) (behW L cwd G x).length w := fun l J Jx W hW hJ _ hY h0 =>
  gbehind1_in F hF n hn l T B w0 a cap m b cwd L hFit hN0 x ht htl pa pc G hGn hG1 hG2 bs bp bx W.heap.size J Jx hJ hY W (Nat.le_refl _) (hA.stay (StayX.of_below hA.low.size hW hA.good)) h0
end Go.Proofs.YtclhpedecimicaaGreat

namespace Go.Proofs.YtclhpedecimicaaGreat
set_option maxRecDepth 100000
open Go Go.RowKit

def CellsG (W : World) (pa : Option Addr) (G : List Fd) : Prop := ∀ i f, G[i]? = some f → ∃ gp, pa = some ⟨gp, 0, none⟩ ∧ W.cell? ⟨gp, i * 2, none⟩ = some (sv f.1) ∧ W.cell? ⟨gp, i * 2 + 1, none⟩ = some (.int .i64 f.2)
theorem CellsG.below {W W' : World} {pa : Option Addr} {G : List Fd} (h : CellsG W pa G) (hb : Below W.heap.size W W') : CellsG W' pa G := fun i f hf => by
  obtain ⟨gp, h1, h2, h3⟩ := h i f hf
  exact ⟨gp, h1, cell_below hb h2, cell_below hb h3⟩
theorem sorted_texts {B : Nat} {W : World} {v : Value} {N : List (List UInt8)} (h : Texts B W v N) (hN : N.length ≤ 1048576) (hB : B ≤ W.heap.size) : Calls Tryz.prog 42 #[v] W fun e W' => e = .returned (.tuple #[]) ∧ Texts B W' v (N.mergeSort leB) ∧ Below B W W' := by
  have hl : (N.mergeSort leB).length = N.length := List.length_mergeSort N
  obtain ⟨h1, ⟨h2, h3⟩ | ⟨g, cap, cur, rfl, h0, hb, r1, r2, r3, r4⟩⟩ := h
  · have hn : N = [] := List.length_eq_zero_iff.1 h3
    subst h2 hn
    refine (Tryz.slices_Sort_string_none none 0 W).mono ?_
    rintro e W' ⟨rfl, rfl⟩
    exact ⟨rfl, by rw [show ([] : List (List UInt8)).mergeSort leB = [] from by simp]; exact World.ownsRow_nil _ _ _ _, Below.refl _ _⟩
  · refine (Tryz.slices_Sort_string g 0 cap N W (holds_of_block hb (by rw [Nat.mul_one] at r4; exact r4)) (lt_of_block hb) (by omega)).mono ?_
    rintro e W' ⟨rfl, n, os, rfl⟩
    have hown := ownsRow_sorted (n := n) (os := os) (ts := N.mergeSort leB) hl h0 hb r1 r2 r3
    have hgr := grownBy_sorted (w := W) (g := g) (n := n) (os := os) (N.mergeSort leB).toArray
    refine ⟨rfl, ?_, ⟨hgr.os, hgr.tape, hgr.output, hgr.size, fun k hk => hgr.block k (by omega) (fun e => by have := Option.some.inj e; omega)⟩⟩
    unfold Texts
    rw [hl]
    exact hown

set_option maxHeartbeats 8000000 in
theorem lrising (pa : Option Addr) (pc : Nat) (G : List Fd) (hGn : G.length ≤ 1048576) (w : World) (hC : CellsG w pa G) :
    Calls Tryz.prog 21 #[.slice pa G.length pc] w fun e w' => ∃ v, e = .returned v ∧ Texts w.heap.size w' v ((G.map Prod.fst).mergeSort leB) ∧ Below w.heap.size w w' := by
  have HC := Lib.hid hC
  clear hC
  go_enter Tryz.func21, Tryz.ntmps21
  go_wp2_with fail
  go_loopw [3, 8] (fun v3 v8 wr => ∃ i : Nat, v8 = .int .i64 (i : Int) ∧ i ≤ G.length ∧ Hid (Texts w.heap.size wr v3 ((G.take i).map Prod.fst)) ∧ Hid (Below w.heap.size w wr)) (fun _ v8 _ => G.length - (intOf v8).toNat)
  case atStart => exact ⟨0, rfl, Nat.zero_le _, World.ownsRow_nil _ _ _ _, Below.refl _ _⟩
  case round =>
    obtain ⟨i, rfl, hi, HT, HB⟩ := hrel
    by_cases hlt : i < G.length
    · obtain ⟨f, hf⟩ : ∃ f, G[i]? = some f := ⟨G[i], List.getElem?_eq_getElem hlt⟩
      obtain ⟨gp, rfl, hc0, hc1⟩ := HC.out i f hf
      have c0 := cell_below HB.out hc0
      have c1 := cell_below HB.out hc1
      have HNX := Lib.hid (show (G.take (i + 1)).map Prod.fst = (G.take i).map Prod.fst ++ [f.1] by
        obtain ⟨h1, h2⟩ := List.getElem?_eq_some_iff.1 hf
        rw [List.take_succ_eq_append_getElem h1, List.map_append, h2]; rfl)
      have hi0 : (0 : Int) ≤ (i : Int) := by omega
      have hi1 : (i : Int) < (G.length : Int) := by omega
      have hsz := HB.out.size
      obtain ⟨ft, hft⟩ : ∃ ft, ft = f.1 := ⟨_, rfl⟩
      obtain ⟨fd, hfd⟩ : ∃ fd, fd = f.2 := ⟨_, rfl⟩
      rw [← hft] at c0 HNX
      rw [← hfd] at c1
      have HBX := Lib.hid (HB.out.alloc hsz (.cells #[sv ft, .int .i64 fd] 59))
      have HO := Lib.hid (show (wr.alloc (.cells #[sv ft, .int .i64 fd] 59)).ownsRow w.heap.size 9 1 u3 ((G.take i).map Prod.fst).length (((G.take i).map Prod.fst).map strv) from HT.out.below (below_box wr _))
      have HLE := Lib.hid (show ((G.take i).map Prod.fst).length ≤ 1048576 by rw [List.length_map, List.length_take]; omega)
      have e0 := blk_cell (new_block wr (.cells #[sv ft, .int .i64 fd] 59)) 0
      obtain ⟨w2, hw2⟩ : ∃ w2, w2 = wr.alloc (.cells #[sv ft, .int .i64 fd] 59) := ⟨_, rfl⟩
      rw [← hw2] at HBX HO e0
      unfold sv at hw2 e0 c0
      have HW2 := Lib.hid hw2
      obtain ⟨i0, hi0', hz0, hz1, hz2⟩ := info_parts infoS
      have hs2 := HBX.out.size
      clear hf hc0 hc1 hft hfd hw2
      go_upto_region 5 with fail
      rw [← HW2.out]
      go_wp2_with (first | (at_builtin; (refine wpList_append_own _ rfl _ _ 29 rfl w.heap.size 9 i0 (.string ByteArray.empty) 1 16 Tryz.underlying29 hi0' hz0 hz1 hz2 rfl (by decide) _ _ _ rfl (HO.out.alloc _) ⟨w2.heap.size, 0, none⟩ 1 1 [.string ⟨ft.toArray⟩] rfl rfl (cell_one_new _ _ _) (fun x hx => by simp at hx; subst hx; rfl) (by unfold maxLen; have := HLE.out; omega) (by have := HLE.out; omega) (by simp; omega) ?_); intro v' w10 hown' hgrow3 hnil3) | fail)
      have HT3 := Lib.hid (show Texts w.heap.size w10 v' ((G.take (i + 1)).map Prod.fst) by rw [HNX.out]; exact Texts.grow hown')
      have HB3 := Lib.hid (HBX.out.trans (((Below.refl _ w2).alloc hs2 _).grown hgrow3 (by simp; omega) (fun r hr => (HO.out.lt r hr).1)))
      clear hown' hgrow3 hnil3
      go_wp2_with fail
      go_roundw
      case rel => exact ⟨i + 1, by go_num, by omega, HT3.out, HB3.out⟩
      case measure => simp [intOf] <;> omega
    · obtain rfl : i = G.length := by omega
      have hTF := HT.out
      rw [List.take_length] at hTF
      have C1 := sorted_texts hTF (by rw [List.length_map]; exact hGn) HB.out.size
      clear hTF
      go_wp2_with fail
      refine C1.mono ?_
      rintro e w9 ⟨rfl, hT9, hb9⟩
      have HT9 := Lib.hid hT9
      have HB9 := Lib.hid (HB.out.trans hb9)
      clear hT9 hb9
      go_wp2_with fail
      go_ret
      exact ⟨_, rfl, HT9.out, HB9.out⟩

theorem pre_whole (p : List UInt8) : Lib.hasPrefix p [47] = wholeL p := by
  unfold Lib.hasPrefix
  cases p with
  | nil => rfl
  | cons c r =>
    by_cases h : c = 47
    · subst h; simp [wholeL]
    · have h2 : ((47 : UInt8) == c) = false := by rw [beq_eq_false_iff_ne]; exact fun e => h e.symm
      simp [List.isPrefixOf, h2, wholeL, h]
theorem found_one (B : Nat) (W : World) (p : List UInt8) (d : Int) (h : B ≤ W.heap.size) : (W.alloc (.cells #[sv p, .int .i64 d] 59)).ownsRow B 59 2 (.slice (some ⟨W.heap.size, 0, none⟩) 1 1) 1 (flatF [(p, d)]) :=
  ⟨rfl, Or.inr ⟨W.heap.size, 1, #[sv p, .int .i64 d], rfl, h, new_block _ _, Nat.le_refl _, by decide, rfl, rfl⟩⟩

set_option maxHeartbeats 8000000 in
theorem lgbegin (a : Option Addr) (cap : Nat) (m b cwd : Int) (p : List UInt8) (L : List Ino) (hF : FitP L m b) (w : World) (hN : NodesIn w a cap L) :
    Calls Tryz.prog 18 #[srV a L.length cap m b cwd, sv p] w fun e w' => ∃ pa pc, e = .returned (.slice pa (begW L cwd p).length pc) ∧ w'.ownsRow w.heap.size 59 2 (.slice pa (begW L cwd p).length pc) (begW L cwd p).length (flatF (begW L cwd p)) ∧ Below w.heap.size w w' := by
  have C1 := fun W => Tryz.strings_HasPrefix ⟨p.toArray⟩ ⟨#[47]⟩ W
  rw [show Lib.hasPrefix (⟨p.toArray⟩ : ByteArray).data.toList (⟨#[47]⟩ : ByteArray).data.toList = wholeL p from pre_whole p] at C1
  have CR := fun (W : World) (h : NodesIn W a cap L) => ldirat a cap m b cwd ⟨#[47]⟩ (by decide) L hF W h
  have CD := fun (W : World) (h : NodesIn W a cap L) => ldirat a cap m b cwd ⟨#[46]⟩ (by decide) L hF W h
  rw [show (⟨#[47]⟩ : ByteArray).data.toList = [47] from rfl] at CR
  rw [show (⟨#[46]⟩ : ByteArray).data.toList = [46] from rfl] at CD
  have HBW := Lib.hid (show begW L cwd p = if (dirAtW L cwd (if wholeL p = true then [47] else [46])).2 = true then [(if wholeL p = true then [47] else [], (dirAtW L cwd (if wholeL p = true then [47] else [46])).1)] else [] from rfl)
  rw [HBW.out]
  obtain ⟨z1, v1, h1⟩ : ∃ z v, dirAtW L cwd [47] = (z, v) := ⟨_, _, rfl⟩
  obtain ⟨z2, v2, h2⟩ : ∃ z v, dirAtW L cwd [46] = (z, v) := ⟨_, _, rfl⟩
  rw [h1] at CR
  rw [h2] at CD
  simp only at CR CD
  have hb0 := below_box w (.cells #[.slice a L.length cap, .int .i64 m, .int .i64 b, .int .i64 cwd] 47)
  have hn0 := new_block w (.cells #[.slice a L.length cap, .int .i64 m, .int .i64 b, .int .i64 cwd] 47)
  have HM := Lib.hid (hN.below hb0)
  have HB0 := Lib.hid hb0
  have s0 := blk_cell hn0 0
  have s1 := blk_cell hn0 1
  have s2 := blk_cell hn0 2
  have s3 := blk_cell hn0 3
  obtain ⟨w1, hw1⟩ : ∃ w1, w1 = w.alloc (.cells #[.slice a L.length cap, .int .i64 m, .int .i64 b, .int .i64 cwd] 47) := ⟨_, rfl⟩
  rw [← hw1] at HM HB0 s0 s1 s2 s3
  have HW1 := Lib.hid hw1
  unfold srV at CR CD ⊢
  clear hb0 hn0 hN hw1
  cases hp : wholeL p with
  | true =>
    rw [hp] at C1
    simp only [if_true, h1]
    clear hp h1 h2 CD
    cases v1 with
    | true =>
      go_enter Tryz.func18, Tryz.ntmps18
      go_upto_region 2 with fail
      rw [← HW1.out]
      go_wp2_with fail
      refine (C1 _).mono ?_
      rintro e w2 ⟨rfl, rfl⟩
      go_wp2_with fail
      refine (CR _ HM.out).mono ?_
      rintro e w3 ⟨rfl, hb⟩
      have HB3 := Lib.hid (below_two HB0.out hb)
      clear hb
      go_wp2_with fail
      go_ret
      exact ⟨_, _, rfl, found_one _ _ _ _ HB3.out.size, HB3.out.alloc HB3.out.size _⟩
    | false =>
      go_enter Tryz.func18, Tryz.ntmps18
      go_upto_region 2 with fail
      rw [← HW1.out]
      go_wp2_with fail
      refine (C1 _).mono ?_
      rintro e w2 ⟨rfl, rfl⟩
      go_wp2_with fail
      refine (CR _ HM.out).mono ?_
      rintro e w3 ⟨rfl, hb⟩
      have HB3 := Lib.hid (below_two HB0.out hb)
      clear hb
      go_wp2_with fail
      go_ret
      exact ⟨none, 0, rfl, World.ownsRow_nil _ _ _ _, HB3.out⟩
  | false =>
    rw [hp] at C1
    simp only [show ((false : Bool) = true) = False from by simp, if_false, h2]
    clear hp h1 h2 CR
    cases v2 with
    | true =>
      go_enter Tryz.func18, Tryz.ntmps18
      go_upto_region 2 with fail
      rw [← HW1.out]
      go_wp2_with fail
      refine (C1 _).mono ?_
      rintro e w2 ⟨rfl, rfl⟩
      go_wp2_with fail
      refine (CD _ HM.out).mono ?_
      rintro e w3 ⟨rfl, hb⟩
      have HB3 := Lib.hid (below_two HB0.out hb)
      clear hb
      go_wp2_with fail
      go_ret
      exact ⟨_, _, rfl, found_one _ _ _ _ HB3.out.size, HB3.out.alloc HB3.out.size _⟩
    | false =>
      go_enter Tryz.func18, Tryz.ntmps18
      go_upto_region 2 with fail
      rw [← HW1.out]
      go_wp2_with fail
      refine (C1 _).mono ?_
      rintro e w2 ⟨rfl, rfl⟩
      go_wp2_with fail
      refine (CD _ HM.out).mono ?_
      rintro e w3 ⟨rfl, hb⟩
      have HB3 := Lib.hid (below_two HB0.out hb)
      clear hb
      go_wp2_with fail
      go_ret
      exact ⟨none, 0, rfl, World.ownsRow_nil _ _ _ _, HB3.out⟩
end Go.Proofs.YtclhpedecimicaaGreat

namespace Go.Proofs.YtclhpedecimicaaGreat
set_option maxRecDepth 100000
open Go Go.RowKit Go.Shelf

theorem runW_none {L : List Ino} {cwd : Int} : ∀ (l1 l2 : List Pt) (G : List Fd), runW L cwd G l1 = none → runW L cwd G (l1 ++ l2) = none
  | [], l2, G, h => by cases h
  | x :: l1, l2, G, h => by
    rw [List.cons_append]
    unfold runW at h ⊢
    by_cases hc : 1024 < (behW L cwd G x).length
    · rw [if_pos hc]
    · rw [if_neg hc] at h ⊢
      exact runW_none l1 l2 _ h
theorem runW_nil (L : List Ino) (cwd : Int) (G : List Fd) : runW L cwd G [] = some G := rfl
theorem runW_cons (L : List Ino) (cwd : Int) (G : List Fd) (x : Pt) (r : List Pt) : runW L cwd G (x :: r) = if 1024 < (behW L cwd G x).length then none else runW L cwd (behW L cwd G x) r := rfl
theorem runW_snoc {L : List Ino} {cwd : Int} : ∀ (l : List Pt) (x : Pt) (G : List Fd), runW L cwd G (l ++ [x]) = (match runW L cwd G l with | none => none | some G' => if 1024 < (behW L cwd G' x).length then none else some (behW L cwd G' x))
  | [], x, G => by rw [List.nil_append, runW_cons, runW_nil, runW_nil]
  | y :: l, x, G => by
    have h := runW_snoc (L := L) (cwd := cwd) l x (behW L cwd G y)
    rw [List.cons_append, runW_cons, runW_cons]
    by_cases hc : 1024 < (behW L cwd G y).length
    · rw [if_pos hc, if_pos hc]
    · rw [if_neg hc, if_neg hc]; exact h
/-- Sizes of what a run has. -/
def Sz (G : List Fd) (k : Nat) : Prop := G.length ≤ 1024 ∧ (∀ f ∈ G, f.1.length ≤ 1 + k * 200000) ∧ ∀ f ∈ G, 0 ≤ f.2 ∧ f.2 < 1000
theorem dirAt_range {L : List Ino} {m b : Int} (hF : FitP L m b) (cwd : Int) (p : List UInt8) : 0 ≤ (dirAtW L cwd p).1 ∧ (dirAtW L cwd p).1 < 1000 := by
  obtain ⟨z, e, h⟩ : ∃ z e, walkW L cwd p true = (z, e) := ⟨_, _, rfl⟩
  have hd : (dirAtW L cwd p).1 = z := by unfold dirAtW; rw [h]
  rw [hd]
  by_cases he : e = 0
  · subst he
    obtain ⟨u, rfl, hu⟩ := dirAt_live hF h
    have := (fit_small hF).1
    omega
  · rw [walk_zero hF h he]; omega
theorem reach_range {L : List Ino} {m b : Int} (hF : FitP L m b) {cwd : Int} {p : List UInt8} {x : Pt} {f : Fd} (h : reachW L cwd p x = some f) : 0 ≤ f.2 ∧ f.2 < 1000 := by
  unfold reachW at h
  split at h
  · split at h
    · cases h; exact dirAt_range hF cwd p
    · cases h
  · split at h
    · cases h; exact ⟨Int.le_refl _, by show (0 : Int) < 1000; omega⟩
    · split at h
      · cases h; exact ⟨Int.le_refl _, by show (0 : Int) < 1000; omega⟩
      · cases h
theorem beh_range {L : List Ino} {m b : Int} (hF : FitP L m b) (cwd : Int) (G : List Fd) (x : Pt) : ∀ f ∈ behW L cwd G x, 0 ≤ f.2 ∧ f.2 < 1000 := fun f hf => by
  obtain ⟨g, hg, hf⟩ := List.mem_flatMap.1 hf
  obtain ⟨n, hn, hf⟩ := List.mem_filterMap.1 hf
  exact reach_range hF hf
theorem sz_next {L : List Ino} {m b : Int} (hF : FitP L m b) (cwd : Int) {G : List Fd} {k : Nat} (h : Sz G k) (x : Pt) (hx : x.t.length ≤ 100000) (hl : ¬ 1024 < (behW L cwd G x).length) : Sz (behW L cwd G x) (k + 1) :=
  ⟨by omega, fun f hf => by have := beh_len hF cwd G x _ h.2.1 f hf; rw [Nat.add_mul]; omega, beh_range hF cwd G x⟩
theorem sz_beg {L : List Ino} {m b : Int} (hF : FitP L m b) (cwd : Int) (p : List UInt8) : Sz (begW L cwd p) 0 := by
  refine ⟨by have := (beg_len L cwd p).1; omega, fun f hf => by have := (beg_len L cwd p).2 f hf; omega, fun f hf => ?_⟩
  unfold begW at hf
  cases hd : (dirAtW L cwd (if wholeL p = true then [47] else [46])).2 with
  | true =>
    rw [hd, if_pos rfl, List.mem_singleton] at hf
    subst hf
    exact dirAt_range hF cwd _
  | false => rw [hd] at hf; simp at hf

/-- A block of cells lies on where no cells are turned. -/
theorem cells_grown {W W' : World} {row : Option Nat} {k : Nat} {cs : Array Value} {t : TypeId} {fr : Nat × Nat} (h : W.heap[k]? = some (.cells cs t fr)) (hg : W.grownBy W' row) (hr : ∀ r, row = some r → ∃ o : Obj, W.heap[r]? = some o ∧ o.isCells = false) : W'.heap[k]? = some (.cells cs t fr) := by
  refine (hg.block k (lt_of_block h) (fun e => ?_)).trans h
  obtain ⟨o, ho, hc⟩ := hr k e.symm
  rw [h] at ho
  cases ho
  cases hc
theorem own_grown {W W' : World} {row : Option Nat} {B : Nat} {t : TypeId} {z n : Nat} {v : Value} {xs : List Value} (h : W.ownsRow B t z v n xs) (hg : W.grownBy W' row) (hr : ∀ r, row = some r → ∃ o : Obj, W.heap[r]? = some o ∧ o.isCells = false) : W'.ownsRow B t z v n xs := by
  obtain ⟨h1, h2 | ⟨g, cap, cur, hv, h0, hb, r⟩⟩ := h
  · exact ⟨h1, Or.inl h2⟩
  · exact ⟨h1, Or.inr ⟨g, cap, cur, hv, h0, cells_grown hb hg hr, r⟩⟩
theorem below_ge {n₀ : Nat} {w W W' : World} {row : Option Nat} (h : Below n₀ w W) (hg : W.grownBy W' row) (hn : n₀ ≤ W.heap.size) (hr : ∀ r, row = some r → n₀ ≤ r) : Below n₀ w W' :=
  h.trans ⟨hg.os, hg.tape, hg.output, hg.size, fun k hk => hg.block k (by omega) (fun e => by have := hr k e.symm; omega)⟩

/-- The paths of a row of one's own. -/
theorem own_cells2 {W : World} {B : Nat} {pa : Option Addr} {pc : Nat} {G : List Fd} (h : W.ownsRow B 59 2 (.slice pa G.length pc) G.length (flatF G)) : CellsG W pa G := fun i f hf => by
  have hi := (List.getElem?_eq_some_iff.1 hf).1
  obtain ⟨h1, ⟨h2, h3⟩ | ⟨g, cap, cur, hv, h0, hb, r1, r2, r3, r4⟩⟩ := h
  · omega
  · simp only [Value.slice.injEq] at hv
    obtain ⟨rfl, -, -⟩ := hv
    obtain ⟨f0, f1⟩ := flatF_at G i f hf
    rw [← r4, List.getElem?_take_of_lt (by omega)] at f0 f1
    exact ⟨g, rfl, by simp only [World.cell?, hb]; simpa using f0, by simp only [World.cell?, hb]; simpa using f1⟩
theorem wpListIn_append_lies {F : Fence} {n : Nat} {P : Program} (w : World) {ops : Array Oper} {rest : List Oper} {o : Oper} {a : Act} {Q : Exit → Act → World → Prop} (hgd : o.guard = none) (s x : Operand) (t : TypeId)
    (ho : o.op = .call { callee := .builtin .append, args := #[s, x], argTypes := #[t, t] })
    (base : Nat) (e : TypeId) (i : TypeInfo) (z : Value) (size bytes : Nat) (ht : P.underlying t = some (.slice e)) (hi : P.info? e = some i) (hz : i.zero = some z)
    (hsize : i.size = size) (hby : i.bytes = bytes) (hzs : z.cells.size = size) (hsz : 0 < size)
    (v : Value) (k : Nat) (xs : List Value) (hs : a.eval s = v) (hown : w.ownsRow base e size v k xs)
    (ad : Addr) (m c : Nat) (news : List Value) (hx : a.eval x = .slice (some ad) m c) (hl : news.length = m * size) (hnews : ∀ j u, news[j]? = some u → w.cell? (ad.add j) = some u) (h1 : ∀ u ∈ news, u.oneCell' = true)
    (hm : 0 < m) (h63 : k + m ≤ maxLen) (hbytes : (k + m) * bytes ≤ 140737488355328) (hbase : base ≤ w.heap.size) (H : Nat) (hH : w.heap.size = H)
    (h : ∀ g cap w', w'.ownsRow base e size (.slice (some ⟨g, 0, none⟩) (k + m) cap) (k + m) (xs ++ news) → w.grownBy w' v.ownBlock → (v.ownBlock = some g ∨ g = H) → g < w'.heap.size → wpListIn F n P ops Q rest (a.put o.dst (.slice (some ⟨g, 0, none⟩) (k + m) cap)) w') : wpListIn F n P ops Q (o :: rest) a w := by
  refine wpListIn_plain hgd fun K hK' => ?_
  obtain ⟨g, cap, w', hrun, r1, r2, r3, r4⟩ := run_append_lies (P := P) w t o.type base e i z size bytes ht hi hz hsize hby hzs hsz v k xs hown ad m c news hl hnews h1 hm h63 hbytes hbase H hH
  unfold Oper.wpIn
  refine ⟨?_, ?_⟩
  · simp [Oper.about, ho, resolve, Target.leads, Sem.run_pure]
  · rw [Oper.semAt_plain F _ _ (by rw [ho]; intro c hc'; cases hc')]
    simp [execOp, ho, resolve, invoke, builtin, hs, hx, hrun, Result.andThen]
    exact hK' _ _ (h g cap w' r1 r2 r3 r4)
theorem found_parts : (Tryz.prog.info? 59).map (fun i => (i.zero, i.size, i.bytes)) = some (some (.agg #[.string ByteArray.empty, .int .i64 0]), 2, 24) := by kernel_rfl
/-- A path more in the box of those behind a part. -/
theorem kpx_append {n₀ B b : Nat} {X w1 : World} {v : Value} {n : Nat} {xs ys : List Value} {tmp : Obj} {g cap k : Nat} (hv : Boxed X B 48 v) (hrow : X.ownsRow b 59 2 v n xs) (hnb : n₀ ≤ b) (hbX : b ≤ X.heap.size) (hB : n₀ ≤ B)
    (hown : w1.ownsRow b 59 2 (.slice (some ⟨g, 0, none⟩) k cap) k ys) (hgrow : (X.alloc tmp).grownBy w1 v.ownBlock) (hat : v.ownBlock = some g ∨ g = X.heap.size + 1) (hlt : g < w1.heap.size) :
    Boxed w1 B 48 v ∧ KpX n₀ 48 B X (w1.setCell ⟨B, 0, none⟩ (.slice (some ⟨g, 0, none⟩) k cap)) ∧ Boxed (w1.setCell ⟨B, 0, none⟩ (.slice (some ⟨g, 0, none⟩) k cap)) B 48 (.slice (some ⟨g, 0, none⟩) k cap) ∧
      (w1.setCell ⟨B, 0, none⟩ (.slice (some ⟨g, 0, none⟩) k cap)).ownsRow b 59 2 (.slice (some ⟨g, 0, none⟩) k cap) k ys ∧ KeepsOthers X (w1.setCell ⟨B, 0, none⟩ (.slice (some ⟨g, 0, none⟩) k cap)) := by
  obtain ⟨h1, h2, h3, h4, h5⟩ := hv.appended (n₀ := n₀) (by decide) (own_less hrow hnb) (by omega) hB (own_less hown hnb) hgrow
  have hss := (grownBy_setCell' w1 B (.slice (some ⟨g, 0, none⟩) k cap))
  have hsz := hgrow.size
  rw [World.size_alloc] at hsz
  have hs2 := hss.size
  refine ⟨h1, ⟨h5, ⟨h4.size, fun i o ho hw => h4.same i o ho (Obj.not_cells_of_walk hw)⟩, fun u hu hg => ⟨_, h2, fun i e => ?_, fun i hi hiB hio o ho _ => ?_⟩⟩, h2, ?_, h4⟩
  · obtain rfl : g = i := by simpa [Value.ownBlock] using e
    refine ⟨by omega, ?_⟩
    rw [Boxed.oneT hu hv]
    rcases hat with h | h
    · exact Or.inl h
    · exact Or.inr (by omega)
  · rw [Boxed.oneT hu hv] at hio
    exact (hss.block i (by omega) (by simpa using hiB)).trans ((hgrow.block i (by simp; omega) (fun e => hio e.symm)).trans ((Below.heap_alloc X tmp i hi).trans ho))
  · exact hown.kept hss (.inr (h1.not_row (by decide) hown).symm)
end Go.Proofs.YtclhpedecimicaaGreat
