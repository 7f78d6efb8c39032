import Derived.Test.YtkdfbliiblojoaaGreatDoorK44
set_option linter.all false
set_option maxRecDepth 100000
set_option maxHeartbeats 64000000
namespace Go.Proofs.YtkdfbliiblojoaaGreatDoor
open Go Go.RowKit
theorem As2 {W : World} {k : Nat} {t : TypeId} {g : List Int} (h : W.heap[k]? = some (.cells #[.int .i64 (fdA g 0),.int .i64 (fdA g 1),.int .i64 (fdA g 2),.int .i64 (fdA g 3),.int .i64 (fdA g 4),.int .i64 (fdA g 5),.int .i64 (fdA g 6),.int .i64 (fdA g 7),.int .i64 (fdA g 8),.int .i64 (fdA g 9)] t (0,0))) (f : List Int) : (W.setCells k 0 [.int .i64 (fdA f 0),.int .i64 (fdA f 1),.int .i64 (fdA f 2),.int .i64 (fdA f 3),.int .i64 (fdA f 4),.int .i64 (fdA f 5),.int .i64 (fdA f 6),.int .i64 (fdA f 7),.int .i64 (fdA f 8),.int .i64 (fdA f 9)]).heap[k]? = some (.cells #[.int .i64 (fdA f 0),.int .i64 (fdA f 1),.int .i64 (fdA f 2),.int .i64 (fdA f 3),.int .i64 (fdA f 4),.int .i64 (fdA f 5),.int .i64 (fdA f 6),.int .i64 (fdA f 7),.int .i64 (fdA f 8),.int .i64 (fdA f 9)] t (0,0)) := by
 have e := Afp [.int .i64 (fdA f 0),.int .i64 (fdA f 1),.int .i64 (fdA f 2),.int .i64 (fdA f 3),.int .i64 (fdA f 4),.int .i64 (fdA f 5),.int .i64 (fdA f 6),.int .i64 (fdA f 7),.int .i64 (fdA f 8),.int .i64 (fdA f 9)] 0 W _ h
 have e2 : Aui #[.int .i64 (fdA g 0),.int .i64 (fdA g 1),.int .i64 (fdA g 2),.int .i64 (fdA g 3),.int .i64 (fdA g 4),.int .i64 (fdA g 5),.int .i64 (fdA g 6),.int .i64 (fdA g 7),.int .i64 (fdA g 8),.int .i64 (fdA g 9)] 0 [.int .i64 (fdA f 0),.int .i64 (fdA f 1),.int .i64 (fdA f 2),.int .i64 (fdA f 3),.int .i64 (fdA f 4),.int .i64 (fdA f 5),.int .i64 (fdA f 6),.int .i64 (fdA f 7),.int .i64 (fdA f 8),.int .i64 (fdA f 9)] = #[.int .i64 (fdA f 0),.int .i64 (fdA f 1),.int .i64 (fdA f 2),.int .i64 (fdA f 3),.int .i64 (fdA f 4),.int .i64 (fdA f 5),.int .i64 (fdA f 6),.int .i64 (fdA f 7),.int .i64 (fdA f 8),.int .i64 (fdA f 9)] := by kernel_rfl
 rw [e2] at e
 exact e
theorem Afk {W : World} {u : Nat} {A A2 : KAd} {K Kz : Krn} (hU : W.heap[u]? = some (.cells #[.slice A.ta K.tree.length A.tc,.int .i64 K.m,.int .i64 K.b,.slice A.pa K.pipes.length A.pc,.slice A.oa K.opens.length A.oc,.string ⟨K.out0.toArray⟩,.string ⟨K.out1.toArray⟩] 29 (0,0))) (hK : KernIn W A2 Kz) (hp : ∀ x,A2.pa = some x → x.block ≠ u) (ho : ∀ x,A2.oa = some x → x.block ≠ u) :
  ∃ wv,wv = put7 W u (.slice A2.ta Kz.tree.length A2.tc) (.int .i64 Kz.m) (.int .i64 Kz.b) (.slice A2.pa Kz.pipes.length A2.pc) (.slice A2.oa Kz.opens.length A2.oc) (.string ⟨Kz.out0.toArray⟩) (.string ⟨Kz.out1.toArray⟩) ∧ wv.heap[u]? = some (.cells #[.slice A2.ta Kz.tree.length A2.tc,.int .i64 Kz.m,.int .i64 Kz.b,.slice A2.pa Kz.pipes.length A2.pc,.slice A2.oa Kz.opens.length A2.oc,.string ⟨Kz.out0.toArray⟩,.string ⟨Kz.out1.toArray⟩] 29 (0,0)) ∧ KernIn wv A2 Kz ∧ But u W wv := by
 have hbu : But u W (put7 W u (.slice A2.ta Kz.tree.length A2.tc) (.int .i64 Kz.m) (.int .i64 Kz.b) (.slice A2.pa Kz.pipes.length A2.pc) (.slice A2.oa Kz.opens.length A2.oc) (.string ⟨Kz.out0.toArray⟩) (.string ⟨Kz.out1.toArray⟩)) := Aib _ _ _ _ _ _ _ _ _
 exact ⟨_,rfl,Afh hU _ _ _ _ _ _ _,Agb hK (Af0 hU) (fun k hk => hbu.block k hk) (fun x hx _ => hp x hx) (fun x hx _ => ho x hx),hbu⟩
theorem Aof {W : World} {c : Nat} {t : TypeId} {f : List Int} (h : W.heap[c]? = some (.cells #[.int .i64 (fdA f 0),.int .i64 (fdA f 1),.int .i64 (fdA f 2),.int .i64 (fdA f 3),.int .i64 (fdA f 4),.int .i64 (fdA f 5),.int .i64 (fdA f 6),.int .i64 (fdA f 7),.int .i64 (fdA f 8),.int .i64 (fdA f 9)] t (0,0))) : Aj6 W c :=
 Ahz h fun j _ hj => by
  match j,hj with
  | 0,hj => exact ⟨_,(Option.some.inj hj).symm⟩
  | 1,hj => exact ⟨_,(Option.some.inj hj).symm⟩
  | 2,hj => exact ⟨_,(Option.some.inj hj).symm⟩
  | 3,hj => exact ⟨_,(Option.some.inj hj).symm⟩
  | 4,hj => exact ⟨_,(Option.some.inj hj).symm⟩
  | 5,hj => exact ⟨_,(Option.some.inj hj).symm⟩
  | 6,hj => exact ⟨_,(Option.some.inj hj).symm⟩
  | 7,hj => exact ⟨_,(Option.some.inj hj).symm⟩
  | 8,hj => exact ⟨_,(Option.some.inj hj).symm⟩
  | 9,hj => exact ⟨_,(Option.some.inj hj).symm⟩
  | j + 10,hj => simp at hj
theorem Ajt {W : World} {u : Nat} {A A2 : KAd} {K Kz : Krn} {f : List Int} (fz : List Int) (hU : W.heap[u]? = some (.cells #[.slice A.ta K.tree.length A.tc,.int .i64 K.m,.int .i64 K.b,.slice A.pa K.pipes.length A.pc,.slice A.oa K.opens.length A.oc,.string ⟨K.out0.toArray⟩,.string ⟨K.out1.toArray⟩] 29 (0,0))) (hV : W.heap[u + 1]? = some (.cells #[.int .i64 (fdA f 0),.int .i64 (fdA f 1),.int .i64 (fdA f 2),.int .i64 (fdA f 3),.int .i64 (fdA f 4),.int .i64 (fdA f 5),.int .i64 (fdA f 6),.int .i64 (fdA f 7),.int .i64 (fdA f 8),.int .i64 (fdA f 9)] 31 (0,0))) (hK : KernIn W A2 Kz) (hp : ∀ x,A2.pa = some x → u + 1 < x.block) (ho : ∀ x,A2.oa = some x → u + 1 < x.block) :
  ∃ wv,wv = (put7 W u (.slice A2.ta Kz.tree.length A2.tc) (.int .i64 Kz.m) (.int .i64 Kz.b) (.slice A2.pa Kz.pipes.length A2.pc) (.slice A2.oa Kz.opens.length A2.oc) (.string ⟨Kz.out0.toArray⟩) (.string ⟨Kz.out1.toArray⟩)).setCells (u + 1) 0 [.int .i64 (fdA fz 0),.int .i64 (fdA fz 1),.int .i64 (fdA fz 2),.int .i64 (fdA fz 3),.int .i64 (fdA fz 4),.int .i64 (fdA fz 5),.int .i64 (fdA fz 6),.int .i64 (fdA fz 7),.int .i64 (fdA fz 8),.int .i64 (fdA fz 9)] ∧ wv.heap[u]? = some (.cells #[.slice A2.ta Kz.tree.length A2.tc,.int .i64 Kz.m,.int .i64 Kz.b,.slice A2.pa Kz.pipes.length A2.pc,.slice A2.oa Kz.opens.length A2.oc,.string ⟨Kz.out0.toArray⟩,.string ⟨Kz.out1.toArray⟩] 29 (0,0)) ∧ wv.heap[u + 1]? = some (.cells #[.int .i64 (fdA fz 0),.int .i64 (fdA fz 1),.int .i64 (fdA fz 2),.int .i64 (fdA fz 3),.int .i64 (fdA fz 4),.int .i64 (fdA fz 5),.int .i64 (fdA fz 6),.int .i64 (fdA fz 7),.int .i64 (fdA fz 8),.int .i64 (fdA fz 9)] 31 (0,0)) ∧ KernIn wv A2 Kz ∧ wv.heap.size = W.heap.size ∧ ∀ w n,n ≤ u → Below n w W → Below n w wv := by
 obtain ⟨w1,hw1,h1,h2,hb1⟩ := Afk hU hK (fun x hx => by have := hp x hx; omega) (fun x hx => by have := ho x hx; omega)
 have hV1 := (hb1.block (u + 1) (by omega)).trans hV
 have hb2 : But (u + 1) w1 (w1.setCells (u + 1) 0 [.int .i64 (fdA fz 0),.int .i64 (fdA fz 1),.int .i64 (fdA fz 2),.int .i64 (fdA fz 3),.int .i64 (fdA fz 4),.int .i64 (fdA fz 5),.int .i64 (fdA fz 6),.int .i64 (fdA fz 7),.int .i64 (fdA fz 8),.int .i64 (fdA fz 9)]) := Afx _ _ _
 refine ⟨_,by rw [← hw1],(hb2.block u (by omega)).trans h1,As2 hV1 fz,Agb h2 (Aof hV1) (fun k hk => hb2.block k hk) (fun x hx _ => by have := hp x hx; omega) (fun x hx _ => by have := ho x hx; omega),hb2.size.trans hb1.size,fun w n hn hb => But.below (But.below hb hb1 hn) hb2 (by omega)⟩
theorem Afn {W : World} {u : Nat} {A A2 : KAd} {K Kz : Krn} {f : List Int} (hU : W.heap[u]? = some (.cells #[.slice A.ta K.tree.length A.tc,.int .i64 K.m,.int .i64 K.b,.slice A.pa K.pipes.length A.pc,.slice A.oa K.opens.length A.oc,.string ⟨K.out0.toArray⟩,.string ⟨K.out1.toArray⟩] 29 (0,0))) (hV : W.heap[u + 1]? = some (.cells #[.int .i64 (fdA f 0),.int .i64 (fdA f 1),.int .i64 (fdA f 2),.int .i64 (fdA f 3),.int .i64 (fdA f 4),.int .i64 (fdA f 5),.int .i64 (fdA f 6),.int .i64 (fdA f 7),.int .i64 (fdA f 8),.int .i64 (fdA f 9)] 31 (0,0))) (hK : KernIn W A2 Kz) (hp : ∀ x,A2.pa = some x → u + 1 < x.block) (ho : ∀ x,A2.oa = some x → u + 1 < x.block) :
  ∃ wv,wv = put7 W u (.slice A2.ta Kz.tree.length A2.tc) (.int .i64 Kz.m) (.int .i64 Kz.b) (.slice A2.pa Kz.pipes.length A2.pc) (.slice A2.oa Kz.opens.length A2.oc) (.string ⟨Kz.out0.toArray⟩) (.string ⟨Kz.out1.toArray⟩) ∧ wv.heap[u]? = some (.cells #[.slice A2.ta Kz.tree.length A2.tc,.int .i64 Kz.m,.int .i64 Kz.b,.slice A2.pa Kz.pipes.length A2.pc,.slice A2.oa Kz.opens.length A2.oc,.string ⟨Kz.out0.toArray⟩,.string ⟨Kz.out1.toArray⟩] 29 (0,0)) ∧ wv.heap[u + 1]? = some (.cells #[.int .i64 (fdA f 0),.int .i64 (fdA f 1),.int .i64 (fdA f 2),.int .i64 (fdA f 3),.int .i64 (fdA f 4),.int .i64 (fdA f 5),.int .i64 (fdA f 6),.int .i64 (fdA f 7),.int .i64 (fdA f 8),.int .i64 (fdA f 9)] 31 (0,0)) ∧ KernIn wv A2 Kz ∧ wv.heap.size = W.heap.size ∧ ∀ w n,n ≤ u → Below n w W → Below n w wv := by
 obtain ⟨w1,hw1,h1,h2,hb1⟩ := Afk hU hK (fun x hx => by have := hp x hx; omega) (fun x hx => by have := ho x hx; omega)
 exact ⟨w1,hw1,h1,(hb1.block (u + 1) (by omega)).trans hV,h2,hb1.size,fun w n hn hb => But.below hb hb1 hn⟩
theorem Auf (A : KAd) (K : Krn) (f : List Int) (fd cwd : Int) (pb : ByteArray) (hp : pb.size ≤ 1073741824) (how : Int) (hF : FitK K f) (w : World) (hK : KernIn w A K) (hY : Ways w) :
  Calls Tryz.prog 10 #[.agg #[.slice A.ta K.tree.length A.tc,.int .i64 K.m,.int .i64 K.b,.slice A.pa K.pipes.length A.pc,.slice A.oa K.opens.length A.oc,.string ⟨K.out0.toArray⟩,.string ⟨K.out1.toArray⟩],.agg #[.int .i64 (fdA f 0),.int .i64 (fdA f 1),.int .i64 (fdA f 2),.int .i64 (fdA f 3),.int .i64 (fdA f 4),.int .i64 (fdA f 5),.int .i64 (fdA f 6),.int .i64 (fdA f 7),.int .i64 (fdA f 8),.int .i64 (fdA f 9)],.int .i64 fd,.int .i64 cwd,.string pb,.int .i64 how] w (KAns (Ah7 K f fd cwd pb.data.toList how) w) := by
 have hY0 : 0 < w.heap.size := Aaj (hY.at_ 0 (by decide)).1
 obtain ⟨w2,hw2,hb2,hs2,hX,hY_⟩ := Aam w #[.slice A.ta K.tree.length A.tc,.int .i64 K.m,.int .i64 K.b,.slice A.pa K.pipes.length A.pc,.slice A.oa K.opens.length A.oc,.string ⟨K.out0.toArray⟩,.string ⟨K.out1.toArray⟩] #[.int .i64 (fdA f 0),.int .i64 (fdA f 1),.int .i64 (fdA f 2),.int .i64 (fdA f 3),.int .i64 (fdA f 4),.int .i64 (fdA f 5),.int .i64 (fdA f 6),.int .i64 (fdA f 7),.int .i64 (fdA f 8),.int .i64 (fdA f 9)] 29 31
 obtain ⟨v0,hv0⟩ : ∃ z,z = w2.alloc (.cells #[.int .i64 fd] 3) := ⟨_,rfl⟩
 have hbv0 : Below w2.heap.size w2 v0 := by rw [hv0]; exact Aab w2 _
 have hsv0 : v0.heap.size = w.heap.size + 3 := by rw [hv0]; simp; omega
 have hXv0 : v0.heap[w.heap.size + 2]? = some (.cells #[.int .i64 fd] 3 (0,0)) := by
  have h := Aae w2 (.cells #[.int .i64 fd] 3)
  rw [← hv0,hs2] at h
  exact h
 obtain ⟨v1,hv1⟩ : ∃ z,z = v0.alloc (.cells #[.int .i64 cwd] 3) := ⟨_,rfl⟩
 have hbv1 : Below v0.heap.size v0 v1 := by rw [hv1]; exact Aab v0 _
 have hsv1 : v1.heap.size = w.heap.size + 4 := by rw [hv1]; simp; omega
 have hXv1 : v1.heap[w.heap.size + 3]? = some (.cells #[.int .i64 cwd] 3 (0,0)) := by
  have h := Aae v0 (.cells #[.int .i64 cwd] 3)
  rw [← hv1,hsv0] at h
  exact h
 obtain ⟨v2,hv2⟩ : ∃ z,z = v1.alloc (.cells #[.string pb] 9) := ⟨_,rfl⟩
 have hbv2 : Below v1.heap.size v1 v2 := by rw [hv2]; exact Aab v1 _
 have hsv2 : v2.heap.size = w.heap.size + 5 := by rw [hv2]; simp; omega
 have hXv2 : v2.heap[w.heap.size + 4]? = some (.cells #[.string pb] 9 (0,0)) := by
  have h := Aae v1 (.cells #[.string pb] 9)
  rw [← hv2,hsv1] at h
  exact h
 obtain ⟨v3,hv3⟩ : ∃ z,z = v2.alloc (.cells #[.int .i64 how] 3) := ⟨_,rfl⟩
 have hbv3 : Below v2.heap.size v2 v3 := by rw [hv3]; exact Aab v2 _
 have hsv3 : v3.heap.size = w.heap.size + 6 := by rw [hv3]; simp; omega
 have hXv3 : v3.heap[w.heap.size + 5]? = some (.cells #[.int .i64 how] 3 (0,0)) := by
  have h := Aae v2 (.cells #[.int .i64 how] 3)
  rw [← hv3,hsv2] at h
  exact h
 obtain ⟨w5,hw5,hb5,hs5,hU,hV⟩ := Aam v3 #[.slice none 0 0,.int .i64 0,.int .i64 0,.slice none 0 0,.slice none 0 0,.string ⟨#[]⟩,.string ⟨#[]⟩] #[.int .i64 0,.int .i64 0,.int .i64 0,.int .i64 0,.int .i64 0,.int .i64 0,.int .i64 0,.int .i64 0,.int .i64 0,.int .i64 0] 29 31
 rw [hsv3] at hU hV
 have hc4 : Below v3.heap.size v3 w5 := hb5
 have hc3 : Below v2.heap.size v2 w5 := hbv3.trans (hc4.mono (by omega))
 have hc2 : Below v1.heap.size v1 w5 := hbv2.trans (hc3.mono (by omega))
 have hc1 : Below v0.heap.size v0 w5 := hbv1.trans (hc2.mono (by omega))
 have hc0 : Below w2.heap.size w2 w5 := hbv0.trans (hc1.mono (by omega))
 have hbw : Below w.heap.size w w5 := hb2.trans (hc0.mono (by omega))
 have hX5 := (hc0.block w.heap.size (by omega)).trans hX
 have hY5 := (hc0.block (w.heap.size + 1) (by omega)).trans hY_
 have hA0 := (hc1.block (w.heap.size + 2) (by omega)).trans hXv0
 have hA1 := (hc2.block (w.heap.size + 3) (by omega)).trans hXv1
 have hA2 := (hc3.block (w.heap.size + 4) (by omega)).trans hXv2
 have hA3 := (hc4.block (w.heap.size + 5) (by omega)).trans hXv3
 have hs6 : w5.heap.size = w.heap.size + 8 := by omega
 have HB := Hd hbw
 have HS := Hd hs6
 have HU := Hd hU
 have HV := Hd hV
 have HX5 := Hd hX5
 have HY5 := Hd hY5
 have HA0 := Hd hA0
 have HA1 := Hd hA1
 have HA2 := Hd hA2
 have HA3 := Hd hA3
 have HCL := Hd (ldo (fid := 37) (caps := #[.pointer (some ⟨w.heap.size + 2,0,none⟩),.pointer (some ⟨w.heap.size + 3,0,none⟩),.pointer (some ⟨w.heap.size + 4,0,none⟩),.pointer (some ⟨w.heap.size + 5,0,none⟩)]) (Ahs 37 Tryz.f37 Tryz.func37 (by decide) (by intro h; cases h)) none (fun _ => True) A K f (Ah7 K f fd cwd pb.data.toList how) hF (fun h => (Auc hF rfl).2 h) w5 (hK.below hbw) (fun W' h _ => (hK.below hbw).below h.below) (fun k h => by cases h) (fun _ _ _ _ => trivial)
  (fun B g A' W h1 h2 h3 h4 => Azt _ _ _ _ fd cwd how pb hp W h4 hF h2 (hY.below (hbw.trans (h3.mono (by omega))) (Nat.le_refl _)) (by have := hY0; omega) (Aaa h3 (bC hA0 0)) (Aaa h3 (bC hA1 0)) (Aaa h3 (bC hA2 0)) (Aaa h3 (bC hA3 0))))
 obtain ⟨Z,hZ⟩ : ∃ Z,Z = Ah7 K f fd cwd pb.data.toList how := ⟨_,rfl⟩
 rw [← hZ] at HCL ⊢
 have h0 := hw5
 rw [hv3,hv2,hv1,hv0,hw2] at h0
 have HW := Hd h0
 have q0 := bC hX5 0
 have q1 := bC hX5 1
 have q2 := bC hX5 2
 have q3 := bC hX5 3
 have q4 := bC hX5 4
 have q5 := bC hX5 5
 have q6 := bC hX5 6
 have r0 := bC hY5 0
 have r1 := bC hY5 1
 have r2 := bC hY5 2
 have r3 := bC hY5 3
 have r4 := bC hY5 4
 have r5 := bC hY5 5
 have r6 := bC hY5 6
 have r7 := bC hY5 7
 have r8 := bC hY5 8
 have r9 := bC hY5 9
 clear h0 hZ hF hK hX hY_ hU hV hX5 hY5 hbw hb2 hb5 hs2 hs5 hs6 hw2 hw5 hA0 hv0 hbv0 hsv0 hXv0 hc1 hA1 hv1 hbv1 hsv1 hXv1 hc2 hA2 hv2 hbv2 hsv2 hXv2 hc3 hA3 hv3 hbv3 hsv3 hXv3 hc4 hc0
 go_enter Tryz.func10,Tryz.ntmps10
 go_upto_region 1 with fail
 have h0 := HW.out
 rw [← h0]
 clear h0
 go_wp2_with fail
 refine HCL.out.mono ?_
 rintro e w6 ⟨⟨A',rfl,hk6,hfr⟩,hbo,-⟩
 have hb6 : Below w5.heap.size w5 w6 := hbo.below
 have HU6 := Hd ((hb6.block (w.heap.size + 6) (by have := HS.out; omega)).trans HU.out)
 have HV6 := Hd ((hb6.block (w.heap.size + 7) (by have := HS.out; omega)).trans HV.out)
 have HFR := Hd hfr
 have HB6 := Hd hb6
 obtain ⟨wv,hwv,hU7,hV7,hkn,hfrm,hsz,ho1,ho2,ho3⟩ := Adr (u := w.heap.size + 6) (v := w.heap.size + 7) (by omega) (Kz := Z.1) Z.2.1 HU6.out HV6.out hk6 (fun x hx => by have := hfr.1 x hx; have := HS.out; omega) (fun x hx => by have := hfr.2 x hx; have := HS.out; omega)
 have HKN := Hd hkn
 have HEND := Hd (show Below w.heap.size w wv from ⟨ho1.trans (hb6.os.trans HB.out.os),ho2.trans (hb6.tape.trans HB.out.tape),ho3.trans (hb6.output.trans HB.out.output),by have := hb6.size; have := HB.out.size; omega,fun k hk => (hfrm k (by omega) (by omega)).trans ((hb6.block k (by have := HB.out.size; omega)).trans (HB.out.block k hk))⟩)
 have d0 := bC hV7 0
 have d1 := bC hV7 1
 have d2 := bC hV7 2
 have d3 := bC hV7 3
 have d4 := bC hV7 4
 have d5 := bC hV7 5
 have d6 := bC hV7 6
 have d7 := bC hV7 7
 have d8 := bC hV7 8
 have d9 := bC hV7 9
 have e0 := bC hU7 0
 have e1 := bC hU7 1
 have e2 := bC hU7 2
 have e3 := bC hU7 3
 have e4 := bC hU7 4
 have e5 := bC hU7 5
 have e6 := bC hU7 6
 have a0 := bC HU6.out 0
 have a1 := bC HU6.out 1
 have a2 := bC HU6.out 2
 have a3 := bC HU6.out 3
 have a4 := bC HU6.out 4
 have a5 := bC HU6.out 5
 have a6 := bC HU6.out 6
 have b0 := bF HU6.out 0
 have b1 := bF HU6.out 1
 have b2 := bF HU6.out 2
 have b3 := bF HU6.out 3
 have b4 := bF HU6.out 4
 have b5 := bF HU6.out 5
 have b6 := bF HU6.out 6
 have m0 := bC HV6.out 0
 have m1 := bC HV6.out 1
 have m2 := bC HV6.out 2
 have m3 := bC HV6.out 3
 have m4 := bC HV6.out 4
 have m5 := bC HV6.out 5
 have m6 := bC HV6.out 6
 have m7 := bC HV6.out 7
 have m8 := bC HV6.out 8
 have m9 := bC HV6.out 9
 have n0 := bF HV6.out 0
 have n1 := bF HV6.out 1
 have n2 := bF HV6.out 2
 have n3 := bF HV6.out 3
 have n4 := bF HV6.out 4
 have n5 := bF HV6.out 5
 have n6 := bF HV6.out 6
 have n7 := bF HV6.out 7
 have n8 := bF HV6.out 8
 have n9 := bF HV6.out 9
 have ul := lt_of_block HU6.out
 have vl := lt_of_block HV6.out
 have HWV := Hd hwv
 clear hwv hk6 hfr hb6 hbo hkn hfrm hsz ho1 ho2 ho3 hU7 hV7 q0 q1 q2 q3 q4 q5 q6 r0 r1 r2 r3 r4 r5 r6 r7 r8 r9
 go_wp2_with fail
 change bodyPost _ _ _ _ _ ((put7 w6 (w.heap.size + 6) (.slice A'.ta Z.1.tree.length A'.tc) (.int .i64 Z.1.m) (.int .i64 Z.1.b) (.slice A'.pa Z.1.pipes.length A'.pc) (.slice A'.oa Z.1.opens.length A'.oc) (.string ⟨Z.1.out0.toArray⟩) (.string ⟨Z.1.out1.toArray⟩)).setCells (w.heap.size + 7) 0 [.int .i64 (fdA Z.2.1 0),.int .i64 (fdA Z.2.1 1),.int .i64 (fdA Z.2.1 2),.int .i64 (fdA Z.2.1 3),.int .i64 (fdA Z.2.1 4),.int .i64 (fdA Z.2.1 5),.int .i64 (fdA Z.2.1 6),.int .i64 (fdA Z.2.1 7),.int .i64 (fdA Z.2.1 8),.int .i64 (fdA Z.2.1 9)])
 rw [← HWV.out]
 exact bodyPost_ret (v := .tuple #[.agg #[.slice A'.ta Z.1.tree.length A'.tc,.int .i64 Z.1.m,.int .i64 Z.1.b,.slice A'.pa Z.1.pipes.length A'.pc,.slice A'.oa Z.1.opens.length A'.oc,.string ⟨Z.1.out0.toArray⟩,.string ⟨Z.1.out1.toArray⟩],.agg #[.int .i64 (fdA Z.2.1 0),.int .i64 (fdA Z.2.1 1),.int .i64 (fdA Z.2.1 2),.int .i64 (fdA Z.2.1 3),.int .i64 (fdA Z.2.1 4),.int .i64 (fdA Z.2.1 5),.int .i64 (fdA Z.2.1 6),.int .i64 (fdA Z.2.1 7),.int .i64 (fdA Z.2.1 8),.int .i64 (fdA Z.2.1 9)],.int .i64 Z.2.2]) (by simp [results,Tryz.results10,go_sem,e0,e1,e2,e3,e4,e5,e6,d0,d1,d2,d3,d4,d5,d6,d7,d8,d9]) rfl ⟨⟨A',rfl,HKN.out,HFR.out.less (by have := HS.out; omega)⟩,HEND.out⟩
def TAns (K' : Krn) (v : Value) (er : Int) (w : World) (e : Ending) (w' : World) : Prop :=
 (∃ A : KAd,e = .returned (.tuple #[.agg #[.slice A.ta K'.tree.length A.tc,.int .i64 K'.m,.int .i64 K'.b,.slice A.pa K'.pipes.length A.pc,.slice A.oa K'.opens.length A.oc,.string ⟨K'.out0.toArray⟩,.string ⟨K'.out1.toArray⟩],v,.int .i64 er]) ∧ KernIn w' A K' ∧ Akz w.heap.size A) ∧ Below w.heap.size w w'
theorem Ag4 (A : KAd) (K : Krn) (f : List Int) (fd n : Int) (hF : FitK K f) (w : World) (hK : KernIn w A K) :
  Calls Tryz.prog 26 #[.agg #[.slice A.ta K.tree.length A.tc,.int .i64 K.m,.int .i64 K.b,.slice A.pa K.pipes.length A.pc,.slice A.oa K.opens.length A.oc,.string ⟨K.out0.toArray⟩,.string ⟨K.out1.toArray⟩],.agg #[.int .i64 (fdA f 0),.int .i64 (fdA f 1),.int .i64 (fdA f 2),.int .i64 (fdA f 3),.int .i64 (fdA f 4),.int .i64 (fdA f 5),.int .i64 (fdA f 6),.int .i64 (fdA f 7),.int .i64 (fdA f 8),.int .i64 (fdA f 9)],.int .i64 fd,.int .i64 n] w (TAns (Adb K f fd n).1 (.string ⟨((Adb K f fd n)).2.1.toArray⟩) (Adb K f fd n).2.2 w) := by
 obtain ⟨w2,hw2,hb2,hs2,hX,hY⟩ := Aam w #[.slice A.ta K.tree.length A.tc,.int .i64 K.m,.int .i64 K.b,.slice A.pa K.pipes.length A.pc,.slice A.oa K.opens.length A.oc,.string ⟨K.out0.toArray⟩,.string ⟨K.out1.toArray⟩] #[.int .i64 (fdA f 0),.int .i64 (fdA f 1),.int .i64 (fdA f 2),.int .i64 (fdA f 3),.int .i64 (fdA f 4),.int .i64 (fdA f 5),.int .i64 (fdA f 6),.int .i64 (fdA f 7),.int .i64 (fdA f 8),.int .i64 (fdA f 9)] 29 31
 obtain ⟨w4,hw4,hb4,hs4,hA2,hA3⟩ := Aam w2 #[.int .i64 fd] #[.int .i64 n] 3 3
 obtain ⟨w6,hw6,hb6,hs6,hU,hT⟩ := Aam w4 #[.slice none 0 0,.int .i64 0,.int .i64 0,.slice none 0 0,.slice none 0 0,.string ⟨#[]⟩,.string ⟨#[]⟩] #[.string ⟨#[]⟩] 29 9
 rw [hs2] at hA2 hA3
 rw [hs4,hs2] at hU hT
 have hc2 : Below w2.heap.size w2 w6 := hb4.trans (hb6.mono (by omega))
 have hbw : Below w.heap.size w w6 := hb2.trans (hc2.mono (by omega))
 have hX5 := (hc2.block w.heap.size (by omega)).trans hX
 have hY5 := (hc2.block (w.heap.size + 1) (by omega)).trans hY
 have hA2 := (hb6.block (w.heap.size + 2) (by omega)).trans hA2
 have hA3 := (hb6.block (w.heap.size + 3) (by omega)).trans hA3
 have hs : w6.heap.size = w.heap.size + 6 := by omega
 have HB := Hd hbw
 have HS := Hd hs
 have HU := Hd (show w6.heap[w.heap.size + 4]? = some (.cells #[.slice none 0 0,.int .i64 0,.int .i64 0,.slice none 0 0,.slice none 0 0,.string ⟨#[]⟩,.string ⟨#[]⟩] 29 (0,0)) from hU)
 have HT := Hd (show w6.heap[w.heap.size + 5]? = some (.cells #[.string ⟨#[]⟩] 9 (0,0)) from hT)
 have HX5 := Hd hX5
 have HY5 := Hd hY5
 have HCL := Hd (ldo (fid := 66) (caps := #[.pointer (some ⟨w.heap.size + 2,0,none⟩),.pointer (some ⟨w.heap.size + 3,0,none⟩),.pointer (some ⟨w.heap.size + 5,0,none⟩)]) (Ahs 66 Tryz.f66 Tryz.func66 (by decide) (by intro h; cases h)) (some (w.heap.size + 5)) (fun W => W.heap[w.heap.size + 5]? = some (.cells #[.string ⟨((Adb K f fd n)).2.1.toArray⟩] 9 (0,0))) A K f ((Adb K f fd n).1,f,(Adb K f fd n).2.2) hF (fun h => ⟨((Aoc hF rfl).2 h).1,rfl⟩) w6 (hK.below hbw) (fun W' h hT2 => Aon (hK.below hbw) HT.out hT2 h) (fun k h => by have := Option.some.inj h; omega) (fun W W' h h2 => (h _ rfl).trans h2)
  (fun B g A' W h1 h2 h3 h4 => Azr _ _ _ fd n (.string ⟨#[]⟩) W h4 hF h2 (Aaa h3 (bC hA2 0)) (Aaa h3 (bC hA3 0)) (by omega) ((h3.block _ (by omega)).trans HT.out)))
 obtain ⟨Z,hZ⟩ : ∃ Z,Z = Adb K f fd n := ⟨_,rfl⟩
 rw [← hZ] at HCL ⊢
 have h0 := hw6
 rw [hw4,hw2] at h0
 have HW := Hd h0
 have q0 := bC hX5 0
 have q1 := bC hX5 1
 have q2 := bC hX5 2
 have q3 := bC hX5 3
 have q4 := bC hX5 4
 have q5 := bC hX5 5
 have q6 := bC hX5 6
 have r0 := bC hY5 0
 have r1 := bC hY5 1
 have r2 := bC hY5 2
 have r3 := bC hY5 3
 have r4 := bC hY5 4
 have r5 := bC hY5 5
 have r6 := bC hY5 6
 have r7 := bC hY5 7
 have r8 := bC hY5 8
 have r9 := bC hY5 9
 clear h0 hZ hF hK hX hY hU hT hX5 hY5 hbw hb2 hb4 hb6 hs2 hs4 hs6 hs hw2 hw4 hw6 hA2 hA3 hc2
 go_enter Tryz.func26,Tryz.ntmps26
 go_upto_region 2 with fail
 have h0 := HW.out
 rw [← h0]
 clear h0
 go_wp2_with fail
 refine HCL.out.mono ?_
 rintro e w7 ⟨⟨A',rfl,hk7,hfr⟩,hbo,hT7⟩
 have hb7 : Below w.heap.size w w7 := HB.out.trans (hbo.below_of (by omega) (by have := HS.out; omega))
 have hs7 := hbo.size
 have HU7 := Hd ((hbo.block (w.heap.size + 4) (by have := HS.out; omega) (by simp)).trans HU.out)
 have HT7 := Hd hT7
 have HFR := Hd hfr
 have HB7 := Hd hb7
 have HK7 := Hd hk7
 have HS7 := Hd hs7
 clear hk7 hfr hb7 hbo hT7 hs7 q0 q1 q2 q3 q4 q5 q6 r0 r1 r2 r3 r4 r5 r6 r7 r8 r9
 obtain ⟨w9,hw9,hb9,hs9,hM,hN⟩ := Aam w7 #[.slice A'.ta Z.1.tree.length A'.tc,.int .i64 Z.1.m,.int .i64 Z.1.b,.slice A'.pa Z.1.pipes.length A'.pc,.slice A'.oa Z.1.opens.length A'.oc,.string ⟨Z.1.out0.toArray⟩,.string ⟨Z.1.out1.toArray⟩] #[.int .i64 (fdA f 0),.int .i64 (fdA f 1),.int .i64 (fdA f 2),.int .i64 (fdA f 3),.int .i64 (fdA f 4),.int .i64 (fdA f 5),.int .i64 (fdA f 6),.int .i64 (fdA f 7),.int .i64 (fdA f 8),.int .i64 (fdA f 9)] 29 31
 have HB9 := Hd hb9
 have HS9 := Hd hs9
 have HW9 := Hd hw9
 have hU9 := (hb9.block (w.heap.size + 4) (by have := HS.out; have := HS7.out; omega)).trans HU7.out
 have hT9 := (hb9.block (w.heap.size + 5) (by have := HS.out; have := HS7.out; omega)).trans HT7.out
 have HU9 := Hd hU9
 have HM := Hd hM
 have HT9 := Hd hT9
 clear hb9 hs9 hw9 hM hN hU9 hT9
 go_upto_region 3 with fail
 have h0 := HW9.out
 rw [← h0]
 clear h0
 have a0 := bC HM.out 0
 have a1 := bC HM.out 1
 have a2 := bC HM.out 2
 have a3 := bC HM.out 3
 have a4 := bC HM.out 4
 have a5 := bC HM.out 5
 have a6 := bC HM.out 6
 have u0 := bC HU9.out 0
 have u1 := bC HU9.out 1
 have u2 := bC HU9.out 2
 have u3 := bC HU9.out 3
 have u4 := bC HU9.out 4
 have u5 := bC HU9.out 5
 have u6 := bC HU9.out 6
 have v0 := bF HU9.out 0
 have v1 := bF HU9.out 1
 have v2 := bF HU9.out 2
 have v3 := bF HU9.out 3
 have v4 := bF HU9.out 4
 have v5 := bF HU9.out 5
 have v6 := bF HU9.out 6
 have t0 := bC HT9.out 0
 have ul := lt_of_block HU9.out
 have ml := lt_of_block HM.out
 have tl := lt_of_block HT9.out
 go_region
 obtain ⟨wv,hwv,hU7,hkn,hfrm,hsz,ho1,ho2,ho3⟩ := Aga (u := w.heap.size + 4) (Kz := Z.1) HU9.out (HK7.out.below HB9.out) (fun x hx => by have := HFR.out.1 x hx; have := HS.out; omega) (fun x hx => by have := HFR.out.2 x hx; have := HS.out; omega)
 change Exit.then _ _ _ _ (World.drew (put7 w9 (w.heap.size + 4) (.slice A'.ta Z.1.tree.length A'.tc) (.int .i64 Z.1.m) (.int .i64 Z.1.b) (.slice A'.pa Z.1.pipes.length A'.pc) (.slice A'.oa Z.1.opens.length A'.oc) (.string ⟨Z.1.out0.toArray⟩) (.string ⟨Z.1.out1.toArray⟩)))
 rw [← hwv]
 obtain ⟨wz,hwz⟩ : ∃ z,z = wv.drew := ⟨_,rfl⟩
 have hzh : wz.heap = wv.heap := by rw [hwz]; rfl
 have hbz : Below wv.heap.size wv wz := by rw [hwz]; exact Aac (Below.refl _ _)
 have HKZ := Hd (hkn.below hbz)
 have HEND := Hd (show Below w.heap.size w wz from ⟨hbz.os.trans (ho1.trans (HB9.out.os.trans HB7.out.os)),hbz.tape.trans (ho2.trans (HB9.out.tape.trans HB7.out.tape)),hbz.output.trans (ho3.trans (HB9.out.output.trans HB7.out.output)),by rw [hzh,hsz]; have := HB9.out.size; have := HB7.out.size; omega,fun k hk => by
  rw [hzh,hfrm k (by omega),HB9.out.block k (by have := HB7.out.size; omega)]
  exact HB7.out.block k hk⟩)
 obtain ⟨c0,c1,c2,c3,c4,c5,c6⟩ := Aar (W := wz) (g := w.heap.size + 4) (by rw [hzh]; exact hU7)
 rw [← hwz]
 clear hwz hzh hbz hU7 hwv hkn hfrm hsz ho1 ho2 ho3 a0 a1 a2 a3 a4 a5 a6 u0 u1 u2 u3 u4 u5 u6 v0 v1 v2 v3 v4 v5 v6 t0 ul ml tl
 go_wp2_with fail
 exact bodyPost_ret (v := .tuple #[.agg #[.slice A'.ta Z.1.tree.length A'.tc,.int .i64 Z.1.m,.int .i64 Z.1.b,.slice A'.pa Z.1.pipes.length A'.pc,.slice A'.oa Z.1.opens.length A'.oc,.string ⟨Z.1.out0.toArray⟩,.string ⟨Z.1.out1.toArray⟩],.string ⟨(Z).2.1.toArray⟩,.int .i64 Z.2.2]) (by simp [results,Tryz.results26,go_sem,c0,c1,c2,c3,c4,c5,c6]) rfl ⟨⟨A',rfl,HKZ.out,HFR.out.less (by have := HS.out; omega)⟩,HEND.out⟩
theorem Akb (A : KAd) (K : Krn) (f : List Int) (fd : Int) (S : ByteArray) (hS : S.size ≤ 1000000) (hF : FitK K f) (w : World) (hK : KernIn w A K) :
  Calls Tryz.prog 28 #[.agg #[.slice A.ta K.tree.length A.tc,.int .i64 K.m,.int .i64 K.b,.slice A.pa K.pipes.length A.pc,.slice A.oa K.opens.length A.oc,.string ⟨K.out0.toArray⟩,.string ⟨K.out1.toArray⟩],.agg #[.int .i64 (fdA f 0),.int .i64 (fdA f 1),.int .i64 (fdA f 2),.int .i64 (fdA f 3),.int .i64 (fdA f 4),.int .i64 (fdA f 5),.int .i64 (fdA f 6),.int .i64 (fdA f 7),.int .i64 (fdA f 8),.int .i64 (fdA f 9)],.int .i64 fd,.string S] w (TAns (Ab5 K f fd S.data.toList).1 (.int .i64 ((Ab5 K f fd S.data.toList)).2.1) (Ab5 K f fd S.data.toList).2.2 w) := by
 obtain ⟨w2,hw2,hb2,hs2,hX,hY⟩ := Aam w #[.slice A.ta K.tree.length A.tc,.int .i64 K.m,.int .i64 K.b,.slice A.pa K.pipes.length A.pc,.slice A.oa K.opens.length A.oc,.string ⟨K.out0.toArray⟩,.string ⟨K.out1.toArray⟩] #[.int .i64 (fdA f 0),.int .i64 (fdA f 1),.int .i64 (fdA f 2),.int .i64 (fdA f 3),.int .i64 (fdA f 4),.int .i64 (fdA f 5),.int .i64 (fdA f 6),.int .i64 (fdA f 7),.int .i64 (fdA f 8),.int .i64 (fdA f 9)] 29 31
 obtain ⟨w4,hw4,hb4,hs4,hA2,hA3⟩ := Aam w2 #[.int .i64 fd] #[.string S] 3 9
 obtain ⟨w6,hw6,hb6,hs6,hU,hT⟩ := Aam w4 #[.slice none 0 0,.int .i64 0,.int .i64 0,.slice none 0 0,.slice none 0 0,.string ⟨#[]⟩,.string ⟨#[]⟩] #[.int .i64 0] 29 3
 rw [hs2] at hA2 hA3
 rw [hs4,hs2] at hU hT
 have hc2 : Below w2.heap.size w2 w6 := hb4.trans (hb6.mono (by omega))
 have hbw : Below w.heap.size w w6 := hb2.trans (hc2.mono (by omega))
 have hX5 := (hc2.block w.heap.size (by omega)).trans hX
 have hY5 := (hc2.block (w.heap.size + 1) (by omega)).trans hY
 have hA2 := (hb6.block (w.heap.size + 2) (by omega)).trans hA2
 have hA3 := (hb6.block (w.heap.size + 3) (by omega)).trans hA3
 have hs : w6.heap.size = w.heap.size + 6 := by omega
 have HB := Hd hbw
 have HS := Hd hs
 have HU := Hd (show w6.heap[w.heap.size + 4]? = some (.cells #[.slice none 0 0,.int .i64 0,.int .i64 0,.slice none 0 0,.slice none 0 0,.string ⟨#[]⟩,.string ⟨#[]⟩] 29 (0,0)) from hU)
 have HT := Hd (show w6.heap[w.heap.size + 5]? = some (.cells #[.int .i64 0] 3 (0,0)) from hT)
 have HX5 := Hd hX5
 have HY5 := Hd hY5
 have HCL := Hd (ldo (fid := 70) (caps := #[.pointer (some ⟨w.heap.size + 2,0,none⟩),.pointer (some ⟨w.heap.size + 3,0,none⟩),.pointer (some ⟨w.heap.size + 5,0,none⟩)]) (Ahs 70 Tryz.f70 Tryz.func70 (by decide) (by intro h; cases h)) (some (w.heap.size + 5)) (fun W => W.heap[w.heap.size + 5]? = some (.cells #[.int .i64 ((Ab5 K f fd S.data.toList)).2.1] 3 (0,0))) A K f ((Ab5 K f fd S.data.toList).1,f,(Ab5 K f fd S.data.toList).2.2) hF (fun h => ⟨((Ajb hF rfl).2 h).1,rfl⟩) w6 (hK.below hbw) (fun W' h hT2 => Aon (hK.below hbw) HT.out hT2 h) (fun k h => by have := Option.some.inj h; omega) (fun W W' h h2 => (h _ rfl).trans h2)
  (fun B g A' W h1 h2 h3 h4 => Ayj _ _ _ fd S hS (.int .i64 0) W h4 hF h2 (Aaa h3 (bC hA2 0)) (Aaa h3 (bC hA3 0)) (by omega) ((h3.block _ (by omega)).trans HT.out)))
 obtain ⟨Z,hZ⟩ : ∃ Z,Z = Ab5 K f fd S.data.toList := ⟨_,rfl⟩
 rw [← hZ] at HCL ⊢
 have h0 := hw6
 rw [hw4,hw2] at h0
 have HW := Hd h0
 have q0 := bC hX5 0
 have q1 := bC hX5 1
 have q2 := bC hX5 2
 have q3 := bC hX5 3
 have q4 := bC hX5 4
 have q5 := bC hX5 5
 have q6 := bC hX5 6
 have r0 := bC hY5 0
 have r1 := bC hY5 1
 have r2 := bC hY5 2
 have r3 := bC hY5 3
 have r4 := bC hY5 4
 have r5 := bC hY5 5
 have r6 := bC hY5 6
 have r7 := bC hY5 7
 have r8 := bC hY5 8
 have r9 := bC hY5 9
 clear h0 hZ hF hK hX hY hU hT hX5 hY5 hbw hb2 hb4 hb6 hs2 hs4 hs6 hs hw2 hw4 hw6 hA2 hA3 hc2
 go_enter Tryz.func28,Tryz.ntmps28
 go_upto_region 2 with fail
 have h0 := HW.out
 rw [← h0]
 clear h0
 go_wp2_with fail
 refine HCL.out.mono ?_
 rintro e w7 ⟨⟨A',rfl,hk7,hfr⟩,hbo,hT7⟩
 have hb7 : Below w.heap.size w w7 := HB.out.trans (hbo.below_of (by omega) (by have := HS.out; omega))
 have hs7 := hbo.size
 have HU7 := Hd ((hbo.block (w.heap.size + 4) (by have := HS.out; omega) (by simp)).trans HU.out)
 have HT7 := Hd hT7
 have HFR := Hd hfr
 have HB7 := Hd hb7
 have HK7 := Hd hk7
 have HS7 := Hd hs7
 clear hk7 hfr hb7 hbo hT7 hs7 q0 q1 q2 q3 q4 q5 q6 r0 r1 r2 r3 r4 r5 r6 r7 r8 r9
 obtain ⟨w9,hw9,hb9,hs9,hM,hN⟩ := Aam w7 #[.slice A'.ta Z.1.tree.length A'.tc,.int .i64 Z.1.m,.int .i64 Z.1.b,.slice A'.pa Z.1.pipes.length A'.pc,.slice A'.oa Z.1.opens.length A'.oc,.string ⟨Z.1.out0.toArray⟩,.string ⟨Z.1.out1.toArray⟩] #[.int .i64 (fdA f 0),.int .i64 (fdA f 1),.int .i64 (fdA f 2),.int .i64 (fdA f 3),.int .i64 (fdA f 4),.int .i64 (fdA f 5),.int .i64 (fdA f 6),.int .i64 (fdA f 7),.int .i64 (fdA f 8),.int .i64 (fdA f 9)] 29 31
 have HB9 := Hd hb9
 have HS9 := Hd hs9
 have HW9 := Hd hw9
 have hU9 := (hb9.block (w.heap.size + 4) (by have := HS.out; have := HS7.out; omega)).trans HU7.out
 have hT9 := (hb9.block (w.heap.size + 5) (by have := HS.out; have := HS7.out; omega)).trans HT7.out
 have HU9 := Hd hU9
 have HM := Hd hM
 have HT9 := Hd hT9
 clear hb9 hs9 hw9 hM hN hU9 hT9
 go_upto_region 3 with fail
 have h0 := HW9.out
 rw [← h0]
 clear h0
 have a0 := bC HM.out 0
 have a1 := bC HM.out 1
 have a2 := bC HM.out 2
 have a3 := bC HM.out 3
 have a4 := bC HM.out 4
 have a5 := bC HM.out 5
 have a6 := bC HM.out 6
 have u0 := bC HU9.out 0
 have u1 := bC HU9.out 1
 have u2 := bC HU9.out 2
 have u3 := bC HU9.out 3
 have u4 := bC HU9.out 4
 have u5 := bC HU9.out 5
 have u6 := bC HU9.out 6
 have v0 := bF HU9.out 0
 have v1 := bF HU9.out 1
 have v2 := bF HU9.out 2
 have v3 := bF HU9.out 3
 have v4 := bF HU9.out 4
 have v5 := bF HU9.out 5
 have v6 := bF HU9.out 6
 have t0 := bC HT9.out 0
 have ul := lt_of_block HU9.out
 have ml := lt_of_block HM.out
 have tl := lt_of_block HT9.out
 go_region
 obtain ⟨wv,hwv,hU7,hkn,hfrm,hsz,ho1,ho2,ho3⟩ := Aga (u := w.heap.size + 4) (Kz := Z.1) HU9.out (HK7.out.below HB9.out) (fun x hx => by have := HFR.out.1 x hx; have := HS.out; omega) (fun x hx => by have := HFR.out.2 x hx; have := HS.out; omega)
 change Exit.then _ _ _ _ (World.drew (put7 w9 (w.heap.size + 4) (.slice A'.ta Z.1.tree.length A'.tc) (.int .i64 Z.1.m) (.int .i64 Z.1.b) (.slice A'.pa Z.1.pipes.length A'.pc) (.slice A'.oa Z.1.opens.length A'.oc) (.string ⟨Z.1.out0.toArray⟩) (.string ⟨Z.1.out1.toArray⟩)))
 rw [← hwv]
 obtain ⟨wz,hwz⟩ : ∃ z,z = wv.drew := ⟨_,rfl⟩
 have hzh : wz.heap = wv.heap := by rw [hwz]; rfl
 have hbz : Below wv.heap.size wv wz := by rw [hwz]; exact Aac (Below.refl _ _)
 have HKZ := Hd (hkn.below hbz)
 have HEND := Hd (show Below w.heap.size w wz from ⟨hbz.os.trans (ho1.trans (HB9.out.os.trans HB7.out.os)),hbz.tape.trans (ho2.trans (HB9.out.tape.trans HB7.out.tape)),hbz.output.trans (ho3.trans (HB9.out.output.trans HB7.out.output)),by rw [hzh,hsz]; have := HB9.out.size; have := HB7.out.size; omega,fun k hk => by
  rw [hzh,hfrm k (by omega),HB9.out.block k (by have := HB7.out.size; omega)]
  exact HB7.out.block k hk⟩)
 obtain ⟨c0,c1,c2,c3,c4,c5,c6⟩ := Aar (W := wz) (g := w.heap.size + 4) (by rw [hzh]; exact hU7)
 rw [← hwz]
 clear hwz hzh hbz hU7 hwv hkn hfrm hsz ho1 ho2 ho3 a0 a1 a2 a3 a4 a5 a6 u0 u1 u2 u3 u4 u5 u6 v0 v1 v2 v3 v4 v5 v6 t0 ul ml tl
 go_wp2_with fail
 exact bodyPost_ret (v := .tuple #[.agg #[.slice A'.ta Z.1.tree.length A'.tc,.int .i64 Z.1.m,.int .i64 Z.1.b,.slice A'.pa Z.1.pipes.length A'.pc,.slice A'.oa Z.1.opens.length A'.oc,.string ⟨Z.1.out0.toArray⟩,.string ⟨Z.1.out1.toArray⟩],.int .i64 (Z).2.1,.int .i64 Z.2.2]) (by simp [results,Tryz.results28,go_sem,c0,c1,c2,c3,c4,c5,c6]) rfl ⟨⟨A',rfl,HKZ.out,HFR.out.less (by have := HS.out; omega)⟩,HEND.out⟩
theorem Ajw {W : World} {g : Nat} {cs : Array Value} {t : TypeId} {n cap k : Nat} {xs : List Value} (h : W.heap[g]? = some (.cells cs t (0,0))) (hx : cs.toList = xs) (h1 : n ≤ cap) (h2 : cap ≤ maxLen) (hl : xs.length = n * k) : SlIn W (some ⟨g,0,none⟩) n cap k xs :=
 ⟨h1,h2,hl,fun j _ => ⟨g,0,rfl,by rw [Nat.zero_add,bC h,← hx,Array.getElem?_toList]⟩⟩
def NewK (Z : Krn × List Int) (w : World) (e : Ending) (w' : World) : Prop :=
 (∃ A : KAd,e = .returned (.tuple #[.agg #[.slice A.ta Z.1.tree.length A.tc,.int .i64 Z.1.m,.int .i64 Z.1.b,.slice A.pa Z.1.pipes.length A.pc,.slice A.oa Z.1.opens.length A.oc,.string ⟨Z.1.out0.toArray⟩,.string ⟨Z.1.out1.toArray⟩],.agg #[.int .i64 (fdA Z.2 0),.int .i64 (fdA Z.2 1),.int .i64 (fdA Z.2 2),.int .i64 (fdA Z.2 3),.int .i64 (fdA Z.2 4),.int .i64 (fdA Z.2 5),.int .i64 (fdA Z.2 6),.int .i64 (fdA Z.2 7),.int .i64 (fdA Z.2 8),.int .i64 (fdA Z.2 9)]]) ∧ KernIn w' A Z.1 ∧ Akz w.heap.size A) ∧ Below w.heap.size w w'
theorem Axh (a : Option Addr) (cap : Nat) (m b : Int) (L : List Ino) (hF : FitP L m b) (D : ByteArray) (hD : D.size ≤ 65536) (w : World) (hN : Aah w a cap L) :
  Calls Tryz.prog 16 #[.agg #[.slice a L.length cap,.int .i64 m,.int .i64 b],.string D] w (NewK (newK L m b D.data.toList) w) := by
 obtain ⟨K,hK⟩ : ∃ K,K = (newK L m b D.data.toList).1 := ⟨_,rfl⟩
 rw [show newK L m b D.data.toList = (K,[1,2,3,0,0,0,0,0,0,0]) by rw [hK]; rfl]
 have HKQ := Hd hK
 clear hK
 obtain ⟨w3,hw3,hb3,hs3,hX,hU,hV⟩ := Ad4 w #[.slice a L.length cap,.int .i64 m,.int .i64 b] #[.slice none 0 0,.int .i64 0,.int .i64 0,.slice none 0 0,.slice none 0 0,.string ⟨#[]⟩,.string ⟨#[]⟩] #[.int .i64 0,.int .i64 0,.int .i64 0,.int .i64 0,.int .i64 0,.int .i64 0,.int .i64 0,.int .i64 0,.int .i64 0,.int .i64 0] 24 29 31
 obtain ⟨l1,l2,l3,l4,l5⟩ := hF.limits
 have hkk : ∀ x ∈ L,x.kids.length ≤ 4096 := fun x hx => by obtain ⟨j,hj,rfl⟩ := List.getElem_of_mem hx; have := (hF.ins j hj).2.1; omega
 have HC := Hd (Adt a cap m b L (by omega) (by omega) hkk w3 (hN.below hb3))
 have HB3 := Hd hb3
 have HS3 := Hd hs3
 have HU := Hd hU
 have HV := Hd hV
 have HW3 := Hd hw3
 have HF := Hd hF
 have q0 := bC hX 0
 have q1 := bC hX 1
 have q2 := bC hX 2
 have ql := lt_of_block hX
 clear hX hU hV hb3 hs3 hw3 hF hN l1 l2 l3 l4 l5 hkk
 go_enter Tryz.func16,Tryz.ntmps16
 go_upto_region 1 with fail
 have hw3 := HW3.out
 rw [← hw3]
 clear hw3
 go_wp2_with fail
 refine HC.out.mono ?_
 rintro e w4 ⟨gt,ct,vs,rfl,hot,hb4⟩
 have HOT := Hd hot
 have HB4 := Hd hb4
 clear hot hb4 q0 q1 q2 ql
 obtain ⟨w7,hw7,hb7,hs7,hP,hO,hM⟩ := Ad4 w4 #[.string D,.int .i64 1,.int .i64 0,.int .i64 (max (D.size : Int) 1)] #[.int .i64 2,.int .i64 0,.int .i64 0,.int .i64 1,.int .i64 1,.int .i64 4,.int .i64 0,.int .i64 0,.int .i64 2,.int .i64 1,.int .i64 4,.int .i64 1,.int .i64 0,.int .i64 2,.int .i64 1] #[.slice (some ⟨gt,0,none⟩) L.length ct,.int .i64 m,.int .i64 b,.slice (some ⟨w4.heap.size,0,none⟩) 1 1,.slice (some ⟨w4.heap.size + 1,0,none⟩) 3 3,.string ⟨#[]⟩,.string ⟨#[]⟩] 87 70 29
 have hDD : (⟨D.data.toList.toArray⟩ : ByteArray) = D := by cases D; simp
 have hDS : (D.data.toList.length : Int) = (D.size : Int) := by rw [Array.length_toList]; rfl
 obtain ⟨A,hA⟩ : ∃ A : KAd,A = ⟨some ⟨gt,0,none⟩,ct,some ⟨w4.heap.size,0,none⟩,1,some ⟨w4.heap.size + 1,0,none⟩,3⟩ := ⟨_,rfl⟩
 have hkn : KernIn w7 A K := by
  rw [hA,HKQ.out]
  refine ⟨(HOT.out.below hb7).nodesIn,Ajw hP ?_ (Nat.le_refl _) (show (1 : Nat) ≤ maxLen by decide) rfl,Ajw hO rfl (Nat.le_refl _) (show (3 : Nat) ≤ maxLen by decide) rfl⟩
  show [Value.string D,.int .i64 1,.int .i64 0,.int .i64 (max (D.size : Int) 1)] = [Value.string ⟨D.data.toList.toArray⟩,.int .i64 1,.int .i64 0,.int .i64 (max (D.data.toList.length : Int) 1)] ++ []
  rw [hDD,hDS]
  rfl
 have hmv : w7.heap[w4.heap.size + 2]? = some (.cells #[.slice A.ta K.tree.length A.tc,.int .i64 K.m,.int .i64 K.b,.slice A.pa K.pipes.length A.pc,.slice A.oa K.opens.length A.oc,.string ⟨K.out0.toArray⟩,.string ⟨K.out1.toArray⟩] 29 (0,0)) := by rw [hA,HKQ.out]; exact hM
 have HKN := Hd hkn
 have HMV := Hd hmv
 have HFR := Hd (show Akz w4.heap.size A from by rw [hA]; exact ⟨fun x hx => by rw [← Option.some.inj hx]; exact Nat.le_refl _,fun x hx => by rw [← Option.some.inj hx]; exact Nat.le_succ _⟩)
 have HB7 := Hd (HB3.out.trans ((HB4.out.trans (hb7.mono HB4.out.size)).mono (by have := HS3.out; omega)))
 have HS7 := Hd (show w.heap.size + 3 ≤ w4.heap.size ∧ w4.heap.size + 3 = w7.heap.size from ⟨by have := HS3.out; have := HB4.out.size; omega,hs7.symm⟩)
 have HU7 := Hd ((hb7.block (w.heap.size + 1) (by have := HS7.out; omega)).trans ((HB4.out.block (w.heap.size + 1) (by have := HS3.out; omega)).trans HU.out))
 have HV7 := Hd ((hb7.block (w.heap.size + 2) (by have := HS7.out; omega)).trans ((HB4.out.block (w.heap.size + 2) (by have := HS3.out; omega)).trans HV.out))
 have HW7 := Hd hw7
 have HAQ := Hd hA
 clear hP hO hM hb7 hs7 hw7 hkn hmv hDD hDS hA
 go_upto_region 2 with fail
 have h0 := HW7.out
 rw [← h0]
 clear h0
 have a0 := bC HMV.out 0
 have a1 := bC HMV.out 1
 have a2 := bC HMV.out 2
 have a3 := bC HMV.out 3
 have a4 := bC HMV.out 4
 have a5 := bC HMV.out 5
 have a6 := bC HMV.out 6
 have u0 := bC HU7.out 0
 have u1 := bC HU7.out 1
 have u2 := bC HU7.out 2
 have u3 := bC HU7.out 3
 have u4 := bC HU7.out 4
 have u5 := bC HU7.out 5
 have u6 := bC HU7.out 6
 have v0 := bF HU7.out 0
 have v1 := bF HU7.out 1
 have v2 := bF HU7.out 2
 have v3 := bF HU7.out 3
 have v4 := bF HU7.out 4
 have v5 := bF HU7.out 5
 have v6 := bF HU7.out 6
 have x0 := bC HV7.out 0
 have x1 := bC HV7.out 1
 have x2 := bC HV7.out 2
 have x3 := bC HV7.out 3
 have x4 := bC HV7.out 4
 have x5 := bC HV7.out 5
 have x6 := bC HV7.out 6
 have x7 := bC HV7.out 7
 have x8 := bC HV7.out 8
 have x9 := bC HV7.out 9
 have y0 := bF HV7.out 0
 have y1 := bF HV7.out 1
 have y2 := bF HV7.out 2
 have y3 := bF HV7.out 3
 have y4 := bF HV7.out 4
 have y5 := bF HV7.out 5
 have y6 := bF HV7.out 6
 have y7 := bF HV7.out 7
 have y8 := bF HV7.out 8
 have y9 := bF HV7.out 9
 have al := lt_of_block HMV.out
 have ul := lt_of_block HU7.out
 have vl := lt_of_block HV7.out
 obtain ⟨wv,hwv,hU8,hV8,hkn,hfrm,hsz,ho1,ho2,ho3⟩ := Adr (u := w.heap.size + 1) (v := w.heap.size + 2) (by omega) (Kz := K) [1,2,3,0,0,0,0,0,0,0] HU7.out HV7.out HKN.out (fun x hx => by have := HFR.out.1 x hx; have := HS7.out; omega) (fun x hx => by have := HFR.out.2 x hx; have := HS7.out; omega)
 have HKV := Hd hkn
 have HEND := Hd (show Below w.heap.size w wv from ⟨ho1.trans HB7.out.os,ho2.trans HB7.out.tape,ho3.trans HB7.out.output,by rw [hsz]; exact HB7.out.size,fun k hk => (hfrm k (by omega) (by omega)).trans (HB7.out.block k hk)⟩)
 have HWV := Hd hwv
 have e0 := bC hU8 0
 have e1 := bC hU8 1
 have e2 := bC hU8 2
 have e3 := bC hU8 3
 have e4 := bC hU8 4
 have e5 := bC hU8 5
 have e6 := bC hU8 6
 have d0 := bC hV8 0
 have d1 := bC hV8 1
 have d2 := bC hV8 2
 have d3 := bC hV8 3
 have d4 := bC hV8 4
 have d5 := bC hV8 5
 have d6 := bC hV8 6
 have d7 := bC hV8 7
 have d8 := bC hV8 8
 have d9 := bC hV8 9
 clear hwv hkn hfrm hsz ho1 ho2 ho3 hU8 hV8
 go_wp2_with fail
 change bodyPost _ _ _ _ _ ((put7 w7 (w.heap.size + 1) (.slice A.ta K.tree.length A.tc) (.int .i64 K.m) (.int .i64 K.b) (.slice A.pa K.pipes.length A.pc) (.slice A.oa K.opens.length A.oc) (.string ⟨K.out0.toArray⟩) (.string ⟨K.out1.toArray⟩)).setCells (w.heap.size + 2) 0 [.int .i64 (fdA [1,2,3,0,0,0,0,0,0,0] 0),.int .i64 (fdA [1,2,3,0,0,0,0,0,0,0] 1),.int .i64 (fdA [1,2,3,0,0,0,0,0,0,0] 2),.int .i64 (fdA [1,2,3,0,0,0,0,0,0,0] 3),.int .i64 (fdA [1,2,3,0,0,0,0,0,0,0] 4),.int .i64 (fdA [1,2,3,0,0,0,0,0,0,0] 5),.int .i64 (fdA [1,2,3,0,0,0,0,0,0,0] 6),.int .i64 (fdA [1,2,3,0,0,0,0,0,0,0] 7),.int .i64 (fdA [1,2,3,0,0,0,0,0,0,0] 8),.int .i64 (fdA [1,2,3,0,0,0,0,0,0,0] 9)])
 rw [← HWV.out]
 exact bodyPost_ret (v := .tuple #[.agg #[.slice A.ta K.tree.length A.tc,.int .i64 K.m,.int .i64 K.b,.slice A.pa K.pipes.length A.pc,.slice A.oa K.opens.length A.oc,.string ⟨K.out0.toArray⟩,.string ⟨K.out1.toArray⟩],.agg #[.int .i64 (fdA [1,2,3,0,0,0,0,0,0,0] 0),.int .i64 (fdA [1,2,3,0,0,0,0,0,0,0] 1),.int .i64 (fdA [1,2,3,0,0,0,0,0,0,0] 2),.int .i64 (fdA [1,2,3,0,0,0,0,0,0,0] 3),.int .i64 (fdA [1,2,3,0,0,0,0,0,0,0] 4),.int .i64 (fdA [1,2,3,0,0,0,0,0,0,0] 5),.int .i64 (fdA [1,2,3,0,0,0,0,0,0,0] 6),.int .i64 (fdA [1,2,3,0,0,0,0,0,0,0] 7),.int .i64 (fdA [1,2,3,0,0,0,0,0,0,0] 8),.int .i64 (fdA [1,2,3,0,0,0,0,0,0,0] 9)]]) (by simp [results,Tryz.results16,go_sem,e0,e1,e2,e3,e4,e5,e6,d0,d1,d2,d3,d4,d5,d6,d7,d8,d9]) rfl ⟨⟨A,rfl,HKV.out,HFR.out.less (by have := HS7.out; omega)⟩,HEND.out⟩
theorem Ann (a : Option Addr) (cap : Nat) (m b cwd : Int) (pb : ByteArray) (hp : pb.size ≤ 1073741824) (follow : Bool) (L : List Ino) (hF : FitP L m b) (z e : Int) (h : Acv L cwd pb.data.toList follow = (z,e)) (w : World) (hN : Aah w a cap L) :
  Calls Tryz.prog 34 #[.agg #[.slice a L.length cap,.int .i64 m,.int .i64 b],.int .i64 cwd,.string pb,.bool follow] w fun r w' => r = .returned (.tuple #[.int .i64 z,.int .i64 e]) ∧ Below w.heap.size w w' := by
 have := As6 a cap m b cwd pb hp follow L hF w hN
 rw [h] at this
 exact this
theorem Asa : Tryz.prog.eqGuardType Tryz.prog.depth 87 = false := by kernel_rfl
end Go.Proofs.YtkdfbliiblojoaaGreatDoor
