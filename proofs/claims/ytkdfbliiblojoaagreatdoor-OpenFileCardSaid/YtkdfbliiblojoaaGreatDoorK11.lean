import Derived.Test.YtkdfbliiblojoaaGreatDoorK10
import Derived.Laws.LoneSync
set_option linter.all false
set_option maxRecDepth 100000
set_option maxHeartbeats 64000000
namespace Go.Proofs.YtkdfbliiblojoaaGreatDoor
open Go Go.RowKit
def wrk (g : Nat) (A : KAd) (K : Krn) (f : List Int) : Array Value := #[(.slice A.ta K.tree.length A.tc),(.int .i64 K.m),(.int .i64 K.b),(.slice A.pa K.pipes.length A.pc),(.slice A.oa K.opens.length A.oc),(.string ⟨K.out0.toArray⟩),(.string ⟨K.out1.toArray⟩),(.int .i64 (fdA f 0)),(.int .i64 (fdA f 1)),(.int .i64 (fdA f 2)),(.int .i64 (fdA f 3)),(.int .i64 (fdA f 4)),(.int .i64 (fdA f 5)),(.int .i64 (fdA f 6)),(.int .i64 (fdA f 7)),(.int .i64 (fdA f 8)),(.int .i64 (fdA f 9)),(.func (.func 92) #[.pointer (some ⟨g,0,none⟩)] #[]),(.nilFunc),(.nilFunc),(.nilFunc),(.func (.func 93) #[.pointer (some ⟨g,0,none⟩)] #[]),(.func (.func 94) #[.pointer (some ⟨g,0,none⟩)] #[]),(.func (.func 95) #[.pointer (some ⟨g,0,none⟩)] #[]),(.func (.func 96) #[.pointer (some ⟨g,0,none⟩)] #[]),(.func (.func 97) #[.pointer (some ⟨g,0,none⟩)] #[]),(.func (.func 98) #[.pointer (some ⟨g,0,none⟩)] #[]),(.nilFunc),(.func (.func 99) #[.pointer (some ⟨g,0,none⟩)] #[]),(.func (.func 100) #[.pointer (some ⟨g,0,none⟩)] #[]),(.nilFunc),(.func (.func 101) #[.pointer (some ⟨g,0,none⟩)] #[]),(.func (.func 102) #[.pointer (some ⟨g,0,none⟩)] #[]),(.func (.func 103) #[.pointer (some ⟨g,0,none⟩)] #[]),(.nilFunc),(.func (.func 104) #[.pointer (some ⟨g,0,none⟩)] #[]),(.func (.func 96) #[.pointer (some ⟨g,0,none⟩)] #[])]
def Own3 (g : Nat) (A : KAd) (k : Nat) : Prop := k = g ∨ (∃ a,A.pa = some a ∧ a.block = k) ∨ (∃ a,A.oa = some a ∧ a.block = k)
structure Wk (W : World) (B g : Nat) (A : KAd) (K : Krn) (f : List Int) : Prop where
 box : W.heap[g]? = some (.cells (wrk g A K f) 124 (0,0))
 base : B ≤ g
 own : KOwn W B A K.pipes K.opens
 gp : ∀ a,A.pa = some a → a.block ≠ g
 go : ∀ a,A.oa = some a → a.block ≠ g
 tree : ∀ W',(∀ k,k < W.heap.size → ¬ Own3 g A k → W'.heap[k]? = W.heap[k]?) → Aah W' A.ta A.tc K.tree
 flen : f.length = 10
structure Offw (g : Nat) (A : KAd) (W W' : World) : Prop where
 os : W'.os = W.os
 tape : W'.tape = W.tape
 output : W'.output = W.output
 size : W.heap.size ≤ W'.heap.size
 block : ∀ k,k < W.heap.size → ¬ Own3 g A k → W'.heap[k]? = W.heap[k]?
def Near (W : World) (A A' : KAd) : Prop := (∀ a,A'.pa = some a → (∃ b,A.pa = some b ∧ b.block = a.block) ∨ W.heap.size ≤ a.block) ∧ (∀ a,A'.oa = some a → (∃ b,A.oa = some b ∧ b.block = a.block) ∨ W.heap.size ≤ a.block)
structure Stepw (g : Nat) (A : KAd) (W : World) (A' : KAd) (W' : World) : Prop where
 off : Offw g A W W'
 near : Near W A A'
theorem Near.refl (W : World) (A : KAd) : Near W A A := ⟨fun a h => .inl ⟨a,h,rfl⟩,fun a h => .inl ⟨a,h,rfl⟩⟩
theorem Offw.of_below {g : Nat} {A : KAd} {W W' : World} (h : Below W.heap.size W W') : Offw g A W W' := ⟨h.os,h.tape,h.output,h.size,fun k hk _ => h.block k hk⟩
theorem Stepw.of_below {g : Nat} {A : KAd} {W W' : World} (h : Below W.heap.size W W') : Stepw g A W A W' := ⟨.of_below h,.refl _ _⟩
theorem Near.own3 {W : World} {A A' : KAd} {g k : Nat} (h : Near W A A') (hk : k < W.heap.size) (h3 : Own3 g A' k) : Own3 g A k := by
 rcases h3 with h3 | ⟨a,h1,h2⟩ | ⟨a,h1,h2⟩
 ·exact .inl h3
 ·rcases h.1 a h1 with ⟨b,h4,h5⟩ | h4
  ·exact .inr (.inl ⟨b,h4,h5.trans h2⟩)
  ·omega
 ·rcases h.2 a h1 with ⟨b,h4,h5⟩ | h4
  ·exact .inr (.inr ⟨b,h4,h5.trans h2⟩)
  ·omega
theorem Near.trans {W W' : World} {A A' A'' : KAd} (h : Near W A A') (k : Near W' A' A'') (hs : W.heap.size ≤ W'.heap.size) : Near W A A'' := by
 refine ⟨fun a ha => ?_,fun a ha => ?_⟩
 ·rcases k.1 a ha with ⟨b,h1,h2⟩ | h1
  ·rcases h.1 b h1 with ⟨c,h3,h4⟩ | h3
   ·exact .inl ⟨c,h3,h4.trans h2⟩
   ·exact .inr (by omega)
  ·exact .inr (by omega)
 ·rcases k.2 a ha with ⟨b,h1,h2⟩ | h1
  ·rcases h.2 b h1 with ⟨c,h3,h4⟩ | h3
   ·exact .inl ⟨c,h3,h4.trans h2⟩
   ·exact .inr (by omega)
  ·exact .inr (by omega)
theorem Stepw.trans {g : Nat} {A A' A'' : KAd} {W W' W'' : World} (h : Stepw g A W A' W') (k : Stepw g A' W' A'' W'') : Stepw g A W A'' W'' :=
 ⟨⟨k.off.os.trans h.off.os,k.off.tape.trans h.off.tape,k.off.output.trans h.off.output,Nat.le_trans h.off.size k.off.size,fun j hj hn => (k.off.block j (Nat.lt_of_lt_of_le hj h.off.size) (fun h3 => hn (h.near.own3 hj h3))).trans (h.off.block j hj hn)⟩,h.near.trans k.near h.off.size⟩
theorem Stepw.below {g : Nat} {A A' : KAd} {W W' W'' : World} (h : Stepw g A W A' W') (k : Below W'.heap.size W' W'') : Stepw g A W A' W'' := h.trans (.of_below k)
section
variable {W W' : World} {B g : Nat} {A : KAd} {K : Krn} {f : List Int}
theorem Wk.lt (h : Wk W B g A K f) : g < W.heap.size := lt_of_block h.box
theorem Wk.nodes (h : Wk W B g A K f) : Aah W A.ta A.tc K.tree := h.tree W fun _ _ _ => rfl
theorem Wk.kern (h : Wk W B g A K f) : KernIn W A K := h.own.kern h.nodes
theorem KOwn.below {P : List Pip} {O : List Opn} (h : KOwn W B A P O) (hb : Below W.heap.size W W') : KOwn W' B A P O := ⟨Afw h.pipes hb (Nat.le_refl _),Afw h.opens hb (Nat.le_refl _),h.apart⟩
theorem Wk.below (h : Wk W B g A K f) (hb : Below W.heap.size W W') : Wk W' B g A K f :=
 ⟨(hb.block g h.lt).trans h.box,h.base,h.own.below hb,h.gp,h.go,fun W'' hw => h.tree W'' fun k hk hn => (hw k (Nat.lt_of_lt_of_le hk hb.size) hn).trans (hb.block k hk),h.flen⟩
theorem Abf {e : TypeId} {k n : Nat} {a : Option Addr} {cap : Nat} {xs : List Value} (h : W.ownsRow B e k (.slice a n cap) n xs) : ∀ x,a = some x → ∃ go,x = ⟨go,0,none⟩ ∧ B ≤ go ∧ go < W.heap.size := by
 obtain ⟨a',cap',e1,h2⟩ := Aja h
 simp only [Value.slice.injEq] at e1
 obtain ⟨rfl,-,rfl⟩ := e1
 exact h2
theorem Wk.own3 (h : Wk W B g A K f) {k : Nat} (hk : Own3 g A k) : B ≤ k ∧ k < W.heap.size := by
 rcases hk with rfl | ⟨a,h1,h2⟩ | ⟨a,h1,h2⟩
 ·exact ⟨h.base,h.lt⟩
 ·obtain ⟨go,rfl,h3,h4⟩ := Abf h.own.pipes a h1
  have h2' : go = k := h2
  omega
 ·obtain ⟨go,rfl,h3,h4⟩ := Abf h.own.opens a h1
  have h2' : go = k := h2
  omega
theorem Wk.low {A' : KAd} (h : Wk W B g A K f) (hs : Stepw g A W A' W') (hB : B ≤ W.heap.size) : Below B W W' :=
 ⟨hs.off.os,hs.off.tape,hs.off.output,hs.off.size,fun k hk => hs.off.block k (by omega) (fun h3 => by have := (h.own3 h3).1; omega)⟩
theorem Wk.cell (h : Wk W B g A K f) (j : Nat) : W.cell? ⟨g,j,none⟩ = (wrk g A K f)[j]? := bC h.box j
theorem Wk.free (h : Wk W B g A K f) (j : Nat) : W.frozen? ⟨g,j,none⟩ = false := bF h.box j
theorem Wk.kcells (h : Wk W B g A K f) : W.cell? ⟨g,0,none⟩ = some (.slice A.ta K.tree.length A.tc) ∧ W.cell? ⟨g,1,none⟩ = some (.int .i64 K.m) ∧ W.cell? ⟨g,2,none⟩ = some (.int .i64 K.b) ∧ W.cell? ⟨g,3,none⟩ = some (.slice A.pa K.pipes.length A.pc) ∧ W.cell? ⟨g,4,none⟩ = some (.slice A.oa K.opens.length A.oc) ∧ W.cell? ⟨g,5,none⟩ = some (.string ⟨K.out0.toArray⟩) ∧ W.cell? ⟨g,6,none⟩ = some (.string ⟨K.out1.toArray⟩) :=
 ⟨h.cell 0,h.cell 1,h.cell 2,h.cell 3,h.cell 4,h.cell 5,h.cell 6⟩
theorem Wk.fds (h : Wk W B g A K f) : W.cell? ⟨g,7,none⟩ = some (.int .i64 (fdA f 0)) ∧ W.cell? ⟨g,8,none⟩ = some (.int .i64 (fdA f 1)) ∧ W.cell? ⟨g,9,none⟩ = some (.int .i64 (fdA f 2)) ∧ W.cell? ⟨g,10,none⟩ = some (.int .i64 (fdA f 3)) ∧ W.cell? ⟨g,11,none⟩ = some (.int .i64 (fdA f 4)) ∧ W.cell? ⟨g,12,none⟩ = some (.int .i64 (fdA f 5)) ∧ W.cell? ⟨g,13,none⟩ = some (.int .i64 (fdA f 6)) ∧ W.cell? ⟨g,14,none⟩ = some (.int .i64 (fdA f 7)) ∧ W.cell? ⟨g,15,none⟩ = some (.int .i64 (fdA f 8)) ∧ W.cell? ⟨g,16,none⟩ = some (.int .i64 (fdA f 9)) := ⟨h.cell 7,h.cell 8,h.cell 9,h.cell 10,h.cell 11,h.cell 12,h.cell 13,h.cell 14,h.cell 15,h.cell 16⟩
theorem Wk.fd (h : Wk W B g A K f) (n : Nat) (hn : n < 10) : W.cell? ⟨g,7 + n,none⟩ = some (.int .i64 (fdA f n)) := by
 rw [h.cell]
 match n,hn with
 | 0,_ => rfl
 | 1,_ => rfl
 | 2,_ => rfl
 | 3,_ => rfl
 | 4,_ => rfl
 | 5,_ => rfl
 | 6,_ => rfl
 | 7,_ => rfl
 | 8,_ => rfl
 | 9,_ => rfl
theorem Az2 (g : Nat) (A : KAd) (K : Krn) {f : List Int} (hf : f.length = 10) (n : Nat) (hn : n < 10) (x : Int) : (wrk g A K f).setIfInBounds (7 + n) (.int .i64 x) = wrk g A K (f.set n x) := by
 unfold wrk
 simp only [Azb f hf n hn x]
 match n,hn with
 | 0,_ => rfl
 | 1,_ => rfl
 | 2,_ => rfl
 | 3,_ => rfl
 | 4,_ => rfl
 | 5,_ => rfl
 | 6,_ => rfl
 | 7,_ => rfl
 | 8,_ => rfl
 | 9,_ => rfl
theorem Wk.fits0 (h : Wk W B g A K f) : W.cell? ⟨g,17,none⟩ = some (.func (.func 92) #[.pointer (some ⟨g,0,none⟩)] #[]) := h.cell 17
theorem Wk.fits1 (h : Wk W B g A K f) : W.cell? ⟨g,21,none⟩ = some (.func (.func 93) #[.pointer (some ⟨g,0,none⟩)] #[]) := h.cell 21
theorem Wk.read1 (h : Wk W B g A K f) : W.cell? ⟨g,22,none⟩ = some (.func (.func 94) #[.pointer (some ⟨g,0,none⟩)] #[]) := h.cell 22
theorem Wk.write1 (h : Wk W B g A K f) : W.cell? ⟨g,23,none⟩ = some (.func (.func 95) #[.pointer (some ⟨g,0,none⟩)] #[]) := h.cell 23
theorem Wk.end_1 (h : Wk W B g A K f) : W.cell? ⟨g,24,none⟩ = some (.func (.func 96) #[.pointer (some ⟨g,0,none⟩)] #[]) := h.cell 24
theorem Wk.fits2 (h : Wk W B g A K f) : W.cell? ⟨g,25,none⟩ = some (.func (.func 97) #[.pointer (some ⟨g,0,none⟩)] #[]) := h.cell 25
theorem Wk.read2 (h : Wk W B g A K f) : W.cell? ⟨g,26,none⟩ = some (.func (.func 98) #[.pointer (some ⟨g,0,none⟩)] #[]) := h.cell 26
theorem Wk.end_2 (h : Wk W B g A K f) : W.cell? ⟨g,28,none⟩ = some (.func (.func 99) #[.pointer (some ⟨g,0,none⟩)] #[]) := h.cell 28
theorem Wk.fits3 (h : Wk W B g A K f) : W.cell? ⟨g,29,none⟩ = some (.func (.func 100) #[.pointer (some ⟨g,0,none⟩)] #[]) := h.cell 29
theorem Wk.write3 (h : Wk W B g A K f) : W.cell? ⟨g,31,none⟩ = some (.func (.func 101) #[.pointer (some ⟨g,0,none⟩)] #[]) := h.cell 31
theorem Wk.end_3 (h : Wk W B g A K f) : W.cell? ⟨g,32,none⟩ = some (.func (.func 102) #[.pointer (some ⟨g,0,none⟩)] #[]) := h.cell 32
theorem Wk.fits4 (h : Wk W B g A K f) : W.cell? ⟨g,33,none⟩ = some (.func (.func 103) #[.pointer (some ⟨g,0,none⟩)] #[]) := h.cell 33
theorem Wk.write4 (h : Wk W B g A K f) : W.cell? ⟨g,35,none⟩ = some (.func (.func 104) #[.pointer (some ⟨g,0,none⟩)] #[]) := h.cell 35
theorem Wk.end_4 (h : Wk W B g A K f) : W.cell? ⟨g,36,none⟩ = some (.func (.func 96) #[.pointer (some ⟨g,0,none⟩)] #[]) := h.cell 36
theorem Ac9 {W W' : World} {B : Nat} {e : TypeId} {k n : Nat} {a : Option Addr} {cap : Nat} {xs : List Value} (h : W.ownsRow B e k (.slice a n cap) n xs) (hg : ∀ x,a = some x → W'.heap[x.block]? = W.heap[x.block]?) : W'.ownsRow B e k (.slice a n cap) n xs := by
 refine ⟨h.1,?_⟩
 rcases h.2 with h | ⟨g,cap',cur,h1,h2,h3,h4⟩
 ·exact .inl h
 ·refine .inr ⟨g,cap',cur,h1,h2,?_,h4⟩
  simp only [Value.slice.injEq] at h1
  obtain ⟨rfl,-,-⟩ := h1
  exact (hg _ rfl).trans h3
theorem Wk.setBox {K' : Krn} {f' : List Int} (h : Wk W B g A K f) (hb : W'.heap[g]? = some (.cells (wrk g A K' f') 124 (0,0))) (ho : But g W W') (hp : K'.pipes = K.pipes) (hop : K'.opens = K.opens) (ht : K'.tree = K.tree) (hf : f'.length = 10) : Wk W' B g A K' f' := by
 refine ⟨hb,h.base,?_,h.gp,h.go,fun W'' hw => ?_,hf⟩
 ·rw [hp,hop]
  exact ⟨Ac9 h.own.pipes fun x hx => ho.block _ (h.gp x hx),Ac9 h.own.opens fun x hx => ho.block _ (h.go x hx),h.own.apart⟩
 ·rw [ht]
  exact h.tree W'' fun k hk hn => (hw k (by rw [ho.size]; exact hk) hn).trans (ho.block k (fun e => hn (.inl e)))
theorem Stepw.of_but {g : Nat} {A : KAd} {W W' : World} {k : Nat} (h : But k W W') (h3 : Own3 g A k) : Stepw g A W A W' :=
 ⟨⟨h.os,h.tape,h.output,Nat.le_of_eq h.size.symm,fun j _ hn => h.block j (fun e => hn (e ▸ h3))⟩,.refl _ _⟩
theorem Wk.setFd (h : Wk W B g A K f) {n : Nat} (hn : n < 10) (x : Int) : Wk (W.setCell ⟨g,7 + n,none⟩ (.int .i64 x)) B g A K (f.set n x) ∧ Stepw g A W A (W.setCell ⟨g,7 + n,none⟩ (.int .i64 x)) := by
 have hb := Aa0 h.box (7 + n) (.int .i64 x)
 rw [Az2 g A K h.flen n hn x] at hb
 exact ⟨h.setBox hb (But.set ..) rfl rfl rfl (by rw [List.length_set]; exact h.flen),.of_but (But.set ..) (.inl rfl)⟩
theorem Wk.setOpens {O' : List Opn} {go : Nat} (h : Wk W B g A K f) (ha : A.oa = some ⟨go,0,none⟩) (hl : O'.length = K.opens.length) (hr : W'.ownsRow B 70 5 (.slice A.oa O'.length A.oc) O'.length (rowC opnF O')) (ho : But go W W') : Wk W' B g A { K with opens := O' } f ∧ Stepw g A W A W' := by
 have h3 : Own3 g A go := .inr (.inr ⟨_,ha,rfl⟩)
 refine ⟨⟨?_,h.base,⟨Ac9 h.own.pipes fun x hx => ho.block _ (fun e => h.own.apart x _ hx ha (e : x.block = go)),hr,h.own.apart⟩,h.gp,h.go,fun W'' hw => ?_,h.flen⟩,.of_but ho h3⟩
 ·rw [ho.block g (fun e => h.go _ ha e.symm),h.box]
  unfold wrk
  rw [hl]
 ·exact h.tree W'' fun k hk hn => (hw k (by rw [ho.size]; exact hk) hn).trans (ho.block k (fun e => hn (e ▸ h3)))
theorem Wk.setPipes {P' : List Pip} {go : Nat} (h : Wk W B g A K f) (ha : A.pa = some ⟨go,0,none⟩) (hl : P'.length = K.pipes.length) (hr : W'.ownsRow B 87 4 (.slice A.pa P'.length A.pc) P'.length (rowC pipF P')) (ho : But go W W') : Wk W' B g A { K with pipes := P' } f ∧ Stepw g A W A W' := by
 have h3 : Own3 g A go := .inr (.inl ⟨_,ha,rfl⟩)
 refine ⟨⟨?_,h.base,⟨hr,Ac9 h.own.opens fun x hx => ho.block _ (fun e => h.own.apart _ x ha hx (e : x.block = go).symm),h.own.apart⟩,h.gp,h.go,fun W'' hw => ?_,h.flen⟩,.of_but ho h3⟩
 ·rw [ho.block g (fun e => h.gp _ ha e.symm),h.box]
  unfold wrk
  rw [hl]
 ·exact h.tree W'' fun k hk hn => (hw k (by rw [ho.size]; exact hk) hn).trans (ho.block k (fun e => hn (e ▸ h3)))
structure OpnAt (W : World) (go j : Nat) (o : Opn) : Prop where
 kind : W.cell? ⟨go,j * 5,none⟩ = some (.int .i64 o.kind)
 at_ : W.cell? ⟨go,j * 5 + 1,none⟩ = some (.int .i64 o.at_)
 off : W.cell? ⟨go,j * 5 + 2,none⟩ = some (.int .i64 o.off)
 flags : W.cell? ⟨go,j * 5 + 3,none⟩ = some (.int .i64 o.flags)
 refs : W.cell? ⟨go,j * 5 + 4,none⟩ = some (.int .i64 o.refs)
 lt : go < W.heap.size
 free : ∀ i,W.frozen? ⟨go,i,none⟩ = false
theorem Aig {e : TypeId} {k n : Nat} {a : Option Addr} {cap : Nat} {xs : List Value} (h : W.ownsRow B e k (.slice a n cap) n xs) {go : Nat} (ha : a = some ⟨go,0,none⟩) (i : Nat) : W.frozen? ⟨go,i,none⟩ = false := by
 rcases h.2 with ⟨h1,-⟩ | ⟨g,cap',cur,h1,h2,h3,h4⟩
 ·simp only [Value.slice.injEq] at h1
  rw [h1.1] at ha
  cases ha
 ·simp only [Value.slice.injEq] at h1
  rw [h1.1] at ha
  obtain rfl : g = go := by simpa using ha
  exact bF h3 i
theorem Wk.opn (h : Wk W B g A K f) {j : Nat} (hj : j < K.opens.length) : ∃ go,A.oa = some ⟨go,0,none⟩ ∧ B ≤ go ∧ OpnAt W go j K.opens[j] := by
 obtain ⟨b,o,ha,c0,c1,c2,c3,c4⟩ := h.kern.opens.opn j hj
 obtain ⟨go,e,h1,h2⟩ := Abf h.own.opens _ ha
 simp only [Addr.mk.injEq] at e
 obtain ⟨rfl,rfl,-⟩ := e
 rw [Nat.zero_add] at c0 c1 c2 c3 c4
 exact ⟨b,ha,h1,c0,c1,c2,c3,c4,h2,Aig h.own.opens ha⟩
theorem Wk.storeOpn (h : Wk W B g A K f) {go j : Nat} (ha : A.oa = some ⟨go,0,none⟩) (hj : j < K.opens.length) (q : Opn) : Wk (Apf W go (j * 5) (.int .i64 q.kind) (.int .i64 q.at_) (.int .i64 q.off) (.int .i64 q.flags) (.int .i64 q.refs)) B g A { K with opens := K.opens.set j q } f ∧ Stepw g A W A (Apf W go (j * 5) (.int .i64 q.kind) (.int .i64 q.at_) (.int .i64 q.off) (.int .i64 q.flags) (.int .i64 q.refs)) := by
 have h0 := h.own.opens
 rw [ha] at h0
 have h1 := Aj7 h0 j hj q
 rw [← ha] at h1
 exact h.setOpens ha (List.length_set ..) (by rw [List.length_set]; exact h1) (Akd ..)
theorem Wk.storeOpn1 (h : Wk W B g A K f) {go j : Nat} (ha : A.oa = some ⟨go,0,none⟩) (hj : j < K.opens.length) (q : Opn) (c : Nat) (hc : c < 5) (v : Value) (hq : opnF q = (opnF K.opens[j]).set c v) : Wk (W.setCell ⟨go,j * 5 + c,none⟩ v) B g A { K with opens := K.opens.set j q } f ∧ Stepw g A W A (W.setCell ⟨go,j * 5 + c,none⟩ v) := by
 have h0 := h.own.opens
 rw [ha] at h0
 have h1 := (h0.stored (j * 5 + c) v).1
 rw [← Adj Ad2 K.opens j hj q c v hc hq,← ha] at h1
 exact h.setOpens ha (List.length_set ..) (by rw [List.length_set]; exact h1) (But.set ..)
theorem Wk.storeRefs (h : Wk W B g A K f) {go j : Nat} (ha : A.oa = some ⟨go,0,none⟩) (hj : j < K.opens.length) (x : Int) : Wk (W.setCell ⟨go,j * 5 + 4,none⟩ (.int .i64 x)) B g A { K with opens := K.opens.set j { K.opens[j] with refs := x } } f ∧ Stepw g A W A (W.setCell ⟨go,j * 5 + 4,none⟩ (.int .i64 x)) := h.storeOpn1 ha hj _ 4 (by decide) _ rfl
theorem Wk.storeOff (h : Wk W B g A K f) {go j : Nat} (ha : A.oa = some ⟨go,0,none⟩) (hj : j < K.opens.length) (x : Int) : Wk (W.setCell ⟨go,j * 5 + 2,none⟩ (.int .i64 x)) B g A { K with opens := K.opens.set j { K.opens[j] with off := x } } f ∧ Stepw g A W A (W.setCell ⟨go,j * 5 + 2,none⟩ (.int .i64 x)) := h.storeOpn1 ha hj _ 2 (by decide) _ rfl
structure PipAt (W : World) (go i : Nat) (p : Pip) : Prop where
 data : W.cell? ⟨go,i * 4,none⟩ = some (.string ⟨p.data.toArray⟩)
 rd : W.cell? ⟨go,i * 4 + 1,none⟩ = some (.int .i64 p.rd)
 wr : W.cell? ⟨go,i * 4 + 2,none⟩ = some (.int .i64 p.wr)
 cap : W.cell? ⟨go,i * 4 + 3,none⟩ = some (.int .i64 p.cap)
 lt : go < W.heap.size
 free : ∀ j,W.frozen? ⟨go,j,none⟩ = false
theorem Wk.pip (h : Wk W B g A K f) {i : Nat} (hi : i < K.pipes.length) : ∃ go,A.pa = some ⟨go,0,none⟩ ∧ B ≤ go ∧ PipAt W go i K.pipes[i] := by
 obtain ⟨b,o,ha,c0,c1,c2,c3⟩ := h.kern.pipes.pip i hi
 obtain ⟨go,e,h1,h2⟩ := Abf h.own.pipes _ ha
 simp only [Addr.mk.injEq] at e
 obtain ⟨rfl,rfl,-⟩ := e
 rw [Nat.zero_add] at c0 c1 c2 c3
 exact ⟨b,ha,h1,c0,c1,c2,c3,h2,Aig h.own.pipes ha⟩
theorem Wk.storePip (h : Wk W B g A K f) {go i : Nat} (ha : A.pa = some ⟨go,0,none⟩) (hi : i < K.pipes.length) (q : Pip) : Wk (Ade W go (i * 4) (.string ⟨q.data.toArray⟩) (.int .i64 q.rd) (.int .i64 q.wr) (.int .i64 q.cap)) B g A { K with pipes := K.pipes.set i q } f ∧ Stepw g A W A (Ade W go (i * 4) (.string ⟨q.data.toArray⟩) (.int .i64 q.rd) (.int .i64 q.wr) (.int .i64 q.cap)) := by
 have h0 := h.own.pipes
 rw [ha] at h0
 have h1 := Aki h0 i hi q
 rw [← ha] at h1
 exact h.setPipes ha (List.length_set ..) (by rw [List.length_set]; exact h1) (Ael ..)
end
theorem Ay1 (b : Nat) (u : Value) (n : Int) (w : World) (hc : w.cell? ⟨b,0,none⟩ = some u) (hz : w.frozen? ⟨b,0,none⟩ = false) :
  Calls Tryz.prog 196 #[.pointer (some ⟨b,0,none⟩),.int .i64 n] w fun e w' => e = .returned (.tuple #[]) ∧ w' = w.setCell ⟨b,0,none⟩ (.int .i64 n) := by
 have hst := run_call_store (P := Tryz.prog) Tryz.func207 (by kernel_rfl) (by kernel_rfl) (by kernel_rfl) (by kernel_rfl) (k := .i64) (y := n) hc hz
 go_enter Tryz.func196,Tryz.ntmps196
 go_wp2_with fail
 go_end0
 exact ⟨rfl,rfl⟩
theorem Bax (b : Nat) (n d s : Int) (w : World) (hs : IntKind.i64.wrap (n + d) = s) (hc : w.cell? ⟨b,0,none⟩ = some (.int .i64 n)) (hz : w.frozen? ⟨b,0,none⟩ = false) :
  Calls Tryz.prog 197 #[.pointer (some ⟨b,0,none⟩),.int .i64 d] w fun e w' => e = .returned (.int .i64 s) ∧ w' = w.setCell ⟨b,0,none⟩ (.int .i64 s) := by
 have hadd := run_call_add (P := Tryz.prog) Tryz.func208 (by kernel_rfl) (by kernel_rfl) (by kernel_rfl) .i64 (by kernel_rfl) (y := d) (s := s) hc hz (by simp [go_sem,hs])
 go_enter Tryz.func197,Tryz.ntmps197
 go_wp2_with fail
 go_ret
 exact ⟨rfl,rfl⟩
theorem Azz (n d : Int) (hs : IntKind.i64.wrap (n + d) = n + d) (w : World) : Calls Tryz.prog 185 #[.int .i64 n,.int .i64 d] w fun e w' => e = .returned (.int .i64 (min (max (n + d) 0) 1000)) ∧ Below w.heap.size w w' := by
 obtain ⟨w1,hw1⟩ : ∃ w1,w1 = w.alloc (.cells #[.int .i64 0] 221) := ⟨_,rfl⟩
 have hb1 : Below w.heap.size w w1 := by rw [hw1]; exact Aab w _
 have hA : w1.heap[w.heap.size]? = some (.cells #[.int .i64 0] 221 (0,0)) := by rw [hw1]; exact Aae w _
 obtain ⟨w2,hw2⟩ : ∃ w2,w2 = w1.setCell ⟨w.heap.size,0,none⟩ (.int .i64 n) := ⟨_,rfl⟩
 have hb2 : Below w.heap.size w w2 := by rw [hw2]; exact hb1.setCell (Nat.le_refl _) _
 have hA2 : w2.heap[w.heap.size]? = some (.cells #[.int .i64 n] 221 (0,0)) := by rw [hw2]; exact Aa0 hA 0 _
 have HA := Hd hA
 have HA2 := Hd hA2
 have HB2 := Hd hb2
 have hl := lt_of_block hA2
 have HS := Hd hs
 clear hA hA2 hb1 hb2 hs
 go_enter Tryz.func185,Tryz.ntmps185
 go_wp2_with fail
 rw [← hw1]
 clear hw1
 refine (Ay1 _ _ n _ (bC HA.out 0) (bF HA.out 0)).mono ?_
 rintro e w3 ⟨rfl,rfl⟩
 rw [← hw2]
 clear hw2
 go_wp2_with fail
 refine (Bax _ n d (n + d) _ HS.out (bC HA2.out 0) (bF HA2.out 0)).mono ?_
 rintro e w3 ⟨rfl,rfl⟩
 go_wp2_with fail
 go_ret
 exact ⟨rfl,HB2.out.setCell (Nat.le_refl _) _⟩
def Agt (p : Pip) (reads : Bool) (d : Int) : Pip := if reads = true then { p with rd := min (max (p.rd + d) 0) 1000 } else { p with wr := min (max (p.wr + d) 0) 1000 }
theorem Aq0 {p : Pip} (hF : Abw p = true) (reads : Bool) : Agt p reads (-1) = Aa1 p reads := by
 obtain ⟨g1,g2,g3,g4,g5,g6,g7⟩ := Adu.1 hF
 unfold Agt Aa1
 cases reads with
 | true =>
  rw [if_pos rfl,if_pos rfl]
  by_cases h : 0 < p.rd
  ·rw [if_pos h,show min (max (p.rd + -1) 0) 1000 = p.rd - 1 by omega]
  ·rw [if_neg h,show min (max (p.rd + -1) 0) 1000 = p.rd by omega]
 | false =>
  rw [if_neg (by decide),if_neg (by decide)]
  by_cases h : 0 < p.wr
  ·rw [if_pos h,show min (max (p.wr + -1) 0) 1000 = p.wr - 1 by omega]
  ·rw [if_neg h,show min (max (p.wr + -1) 0) 1000 = p.wr by omega]
theorem At9 (p : Pip) (hF : Abw p = true) (reads : Bool) (d : Int) (hd : d = 1 ∨ d = -1) (w : World) :
  Calls Tryz.prog 164 #[.agg #[.string ⟨p.data.toArray⟩,.int .i64 p.rd,.int .i64 p.wr,.int .i64 p.cap],.bool reads,.int .i64 d] w fun e w' => e = .returned (.agg #[.string ⟨(Agt p reads d).data.toArray⟩,.int .i64 (Agt p reads d).rd,.int .i64 (Agt p reads d).wr,.int .i64 (Agt p reads d).cap]) ∧ Below w.heap.size w w' := by
 obtain ⟨g1,g2,g3,g4,g5,g6,g7⟩ := Adu.1 hF
 have HR := Hd (show IntKind.i64.wrap (p.rd + d) = p.rd + d by rw [IntKind.wrap_i64]; omega)
 have HW := Hd (show IntKind.i64.wrap (p.wr + d) = p.wr + d by rw [IntKind.wrap_i64]; omega)
 obtain ⟨D,hD⟩ : ∃ D : ByteArray,D = ⟨p.data.toArray⟩ := ⟨_,rfl⟩
 obtain ⟨hDl,hDs⟩ := Af2 hD
 obtain ⟨w2,hw2,hb2,hs2,hA,hB⟩ := Aam w #[.string D,.int .i64 p.rd,.int .i64 p.wr,.int .i64 p.cap] #[.string ⟨#[]⟩,.int .i64 0,.int .i64 0,.int .i64 0] 87 87
 have HA := Hd hA
 have HBK := Hd hB
 have HB2 := Hd hb2
 have HD := Hd hD
 rw [← hD]
 have hl := lt_of_block hB
 have q0 := bC hA 0
 have q1 := bC hA 1
 have q2 := bC hA 2
 have q3 := bC hA 3
 have f0 := bF hA 0
 have f1 := bF hA 1
 have f2 := bF hA 2
 have r0 := bC hB 0
 have r1 := bC hB 1
 have r2 := bC hB 2
 have r3 := bC hB 3
 have s0 := bF hB 0
 have s1 := bF hB 1
 have s2 := bF hB 2
 have s3 := bF hB 3
 clear hA hB hb2 hD
 clear hDl hDs g1 g2 g3 g4 g5 g6 g7 hF hd q3 f0 r0 r1 r2 r3 s0 s1 s2 s3 f1 f2
 rw [hw2] at q0 q1 q2 hl
 cases reads with
 | true =>
  go_enter Tryz.func164,Tryz.ntmps164
  go_wp2_with fail
  rw [← hw2]
  clear hw2 q0 q1 q2 hl
  refine (Azz _ _ HR.out _).mono ?_
  rintro e w3 ⟨rfl,hb3⟩
  have hA3 := (hb3.block w.heap.size (by omega)).trans HA.out
  have hB3 := (hb3.block (w.heap.size + 1) (by omega)).trans HBK.out
  have HB3 := Hd (HB2.out.trans (hb3.mono (by omega)))
  have hs3 := hb3.size
  have q0 := bC hA3 0
  have q1 := bC hA3 1
  have q2 := bC hA3 2
  have q3 := bC hA3 3
  have f1 := bF hA3 1
  have r0 := bC hB3 0
  have r1 := bC hB3 1
  have r2 := bC hB3 2
  have r3 := bC hB3 3
  have s0 := bF hB3 0
  have s1 := bF hB3 1
  have s2 := bF hB3 2
  have s3 := bF hB3 3
  have hl := lt_of_block hB3
  have hl2 := lt_of_block hA3
  have HB4 := Hd (show (w3.setCell ⟨w.heap.size,1,none⟩ (.int .i64 (min (max (p.rd + d) 0) 1000))).heap[w.heap.size + 1]? = some (.cells #[.string ⟨#[]⟩,.int .i64 0,.int .i64 0,.int .i64 0] 87 (0,0)) from (Below.heap_setCell _ _ _ _ (show w.heap.size + 1 ≠ w.heap.size by omega)).trans hB3)
  have HLE := Hd (show Below w.heap.size w (w3.setCell ⟨w.heap.size,1,none⟩ (.int .i64 (min (max (p.rd + d) 0) 1000))) from HB3.out.setCell (Nat.le_refl _) _)
  clear hA3 hB3 hb3
  go_wp2_with fail
  change bodyPost _ _ _ _ _ (put4 (w3.setCell ⟨w.heap.size,1,none⟩ (.int .i64 (min (max (p.rd + d) 0) 1000))) (w.heap.size + 1) (.string D) (.int .i64 (min (max (p.rd + d) 0) 1000)) (.int .i64 p.wr) (.int .i64 p.cap))
  obtain ⟨c0,c1,c2,c3⟩ := Ae8 HB4.out (.string D) (.int .i64 (min (max (p.rd + d) 0) 1000)) (.int .i64 p.wr) (.int .i64 p.cap)
  exact bodyPost_ret (v := .agg #[.string D,.int .i64 (min (max (p.rd + d) 0) 1000),.int .i64 p.wr,.int .i64 p.cap]) (by simp [results,Tryz.results164,go_sem,c0,c1,c2,c3]) rfl ⟨by rw [HD.out]; rfl,Acf HLE.out (by omega) (.string D) (.int .i64 (min (max (p.rd + d) 0) 1000)) (.int .i64 p.wr) (.int .i64 p.cap)⟩
 | false =>
  go_enter Tryz.func164,Tryz.ntmps164
  go_wp2_with fail
  rw [← hw2]
  clear hw2 q0 q1 q2 hl
  refine (Azz _ _ HW.out _).mono ?_
  rintro e w3 ⟨rfl,hb3⟩
  have hA3 := (hb3.block w.heap.size (by omega)).trans HA.out
  have hB3 := (hb3.block (w.heap.size + 1) (by omega)).trans HBK.out
  have HB3 := Hd (HB2.out.trans (hb3.mono (by omega)))
  have hs3 := hb3.size
  have q0 := bC hA3 0
  have q1 := bC hA3 1
  have q2 := bC hA3 2
  have q3 := bC hA3 3
  have f1 := bF hA3 2
  have r0 := bC hB3 0
  have r1 := bC hB3 1
  have r2 := bC hB3 2
  have r3 := bC hB3 3
  have s0 := bF hB3 0
  have s1 := bF hB3 1
  have s2 := bF hB3 2
  have s3 := bF hB3 3
  have hl := lt_of_block hB3
  have hl2 := lt_of_block hA3
  have HB4 := Hd (show (w3.setCell ⟨w.heap.size,2,none⟩ (.int .i64 (min (max (p.wr + d) 0) 1000))).heap[w.heap.size + 1]? = some (.cells #[.string ⟨#[]⟩,.int .i64 0,.int .i64 0,.int .i64 0] 87 (0,0)) from (Below.heap_setCell _ _ _ _ (show w.heap.size + 1 ≠ w.heap.size by omega)).trans hB3)
  have HLE := Hd (show Below w.heap.size w (w3.setCell ⟨w.heap.size,2,none⟩ (.int .i64 (min (max (p.wr + d) 0) 1000))) from HB3.out.setCell (Nat.le_refl _) _)
  clear hA3 hB3 hb3
  go_wp2_with fail
  change bodyPost _ _ _ _ _ (put4 (w3.setCell ⟨w.heap.size,2,none⟩ (.int .i64 (min (max (p.wr + d) 0) 1000))) (w.heap.size + 1) (.string D) (.int .i64 p.rd) (.int .i64 (min (max (p.wr + d) 0) 1000)) (.int .i64 p.cap))
  obtain ⟨c0,c1,c2,c3⟩ := Ae8 HB4.out (.string D) (.int .i64 p.rd) (.int .i64 (min (max (p.wr + d) 0) 1000)) (.int .i64 p.cap)
  exact bodyPost_ret (v := .agg #[.string D,.int .i64 p.rd,.int .i64 (min (max (p.wr + d) 0) 1000),.int .i64 p.cap]) (by simp [results,Tryz.results164,go_sem,c0,c1,c2,c3]) rfl ⟨by rw [HD.out]; rfl,Acf HLE.out (by omega) (.string D) (.int .i64 p.rd) (.int .i64 (min (max (p.wr + d) 0) 1000)) (.int .i64 p.cap)⟩
end Go.Proofs.YtkdfbliiblojoaaGreatDoor
