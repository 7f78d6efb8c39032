/-
  Texts of the proof, joined.
-/
import Derived.WalkKit
import Derived.Lib.Hide
import Derived.Test.YtkdfbliiblojoaaGreatDoorProg
set_option linter.all false
set_option maxRecDepth 100000
set_option maxHeartbeats 64000000
namespace Go.Proofs.YtkdfbliiblojoaaGreatDoor
theorem Hd {p:Prop}(h:p):Go.RowKit.Hid p:=Go.Lib.hid h
theorem Zaa {α : Type _} (l : List α) (i : Nat) (a : α) : l.toArray.setIfInBounds i a = (l.set i a).toArray := List.setIfInBounds_toArray ..
theorem Zab {α : Type _} (x y : α) (l : List α) : (x :: l).set 0 y = y :: l := rfl
theorem Zac {α : Type _} (x y : α) (l : List α) (n : Nat) : (x :: l).set (n + 1) y = x :: l.set n y := rfl
end Go.Proofs.YtkdfbliiblojoaaGreatDoor
namespace Go.Proofs.YtkdfbliiblojoaaGreatDoor
open Go Go.RowKit
structure Ino where
 kind:Int
 mode:Int
 links:Int
 data:List UInt8
 kids:List (List UInt8×Int)
 up:Int
structure Tre where
 nodes:List Ino
 maxN:Int
 maxB:Int
def Abn (W:World)(v:Value)(L:List (List UInt8×Int)):Prop:=
 ∃ a cap, v=.slice a L.length cap/\L.length<=cap/\cap<=maxLen /\
  ∀ i (hi:i < L.length), ∃ b o, a=some ⟨b, o, none⟩/\W.cell? ⟨b, o+i * 2, none⟩=some (.string ⟨L[i].1.toArray⟩)/\W.cell? ⟨b, o+i * 2+1, none⟩=some (.int .i64 L[i].2)
structure NodeIn (W:World)(b o:Nat)(x:Ino):Prop where
 kind:W.cell? ⟨b, o, none⟩=some (.int .i64 x.kind)
 mode:W.cell? ⟨b, o+1, none⟩=some (.int .i64 x.mode)
 links:W.cell? ⟨b, o+2, none⟩=some (.int .i64 x.links)
 data:W.cell? ⟨b, o+3, none⟩=some (.string ⟨x.data.toArray⟩)
 kids:∃ v, W.cell? ⟨b, o+4, none⟩=some v/\Abn W v x.kids
 up:W.cell? ⟨b, o+5, none⟩=some (.int .i64 x.up)
def Aad (W:World)(a:Option Addr)(cap:Nat)(L:List Ino):Prop:=
 L.length<=cap/\cap<=maxLen/\∀ i (hi:i < L.length), ∃ b o, a=some ⟨b, o, none⟩/\NodeIn W b (o+i * 6) L[i]
def Bae (W:World)(v:Value)(T:Tre):Prop:=
 ∃ a cap, v=.agg #[.slice a T.nodes.length cap, .int .i64 T.maxN, .int .i64 T.maxB]/\Aad W a cap T.nodes
theorem Aaf {W:World}{a:Addr}{v:Value}(hc:W.cell? a=some v):a.block < W.heap.size:=by
 unfold World.cell? at hc
 cases hb:W.heap[a.block]? with
 | none=>rw[hb]at hc;cases hc
 | some o=>exact(Array.getElem?_eq_some_iff.1 hb).1
theorem Aaa {W W':World}{a:Addr}{v:Value}(h:Below W.heap.size W W')(hc:W.cell? a=some v):W'.cell? a=some v:=by
 have hlt:a.block < W.heap.size:=by
  unfold World.cell? at hc
  cases hb:W.heap[a.block]? with
  | none=>rw[hb]at hc;cases hc
  | some o=>exact(Array.getElem?_eq_some_iff.1 hb).1
 rw[World.cell?_of_block (h.block _ hlt)]
 exact hc
theorem Abn.below {W W':World}{v:Value}{L:List (List UInt8×Int)}(h:Abn W v L)(hb:Below W.heap.size W W'):Abn W' v L:=by
 obtain⟨a, cap, h1, h2, h3, h4⟩:=h
 refine⟨a, cap, h1, h2, h3, fun i hi=>?_⟩
 obtain⟨b, o, e1, e2, e3⟩:=h4 i hi
 exact⟨b, o, e1, Aaa hb e2, Aaa hb e3⟩
theorem NodeIn.below {W W':World}{b o:Nat}{x:Ino}(h:NodeIn W b o x)(hb:Below W.heap.size W W'):NodeIn W' b o x:=by
 obtain⟨v, h1, h2⟩:=h.kids
 exact⟨Aaa hb h.kind, Aaa hb h.mode, Aaa hb h.links, Aaa hb h.data, ⟨v, Aaa hb h1, h2.below hb⟩, Aaa hb h.up⟩
theorem Aad.below {W W':World}{a:Option Addr}{cap:Nat}{L:List Ino}(h:Aad W a cap L)(hb:Below W.heap.size W W'):Aad W' a cap L:=by
 refine⟨h.1, h.2.1, fun i hi=>?_⟩
 obtain⟨b, o, e1, e2⟩:=h.2.2 i hi
 exact⟨b, o, e1, e2.below hb⟩
theorem Aab (W:World)(o:Obj):Below W.heap.size W (W.alloc o):=(Below.refl _ W).alloc (Nat.le_refl _) _
theorem Aag (w:World)(o:Obj):(w.alloc o).heap[w.heap.size]?=some o:=by show (w.heap.push o)[w.heap.size]?=some o;simp
theorem box3 {w W':World}{x y z:Value}{t:TypeId}(h:Below (w.alloc (.cells #[x, y, z] t)).heap.size (w.alloc (.cells #[x, y, z] t)) W') :
  W'.cell? ⟨w.heap.size, 0, none⟩=some x/\W'.cell? ⟨w.heap.size, 1, none⟩=some y/\W'.cell? ⟨w.heap.size, 2, none⟩=some z:=
 ⟨Aaa h (by simp only[World.cell?, Aag];rfl), Aaa h (by simp only[World.cell?, Aag];rfl), Aaa h (by simp only[World.cell?, Aag];rfl)⟩
def Ahu : List Ino->Nat
 | []=>0
 | x :: r=>(if x.kind=0 then 0 else 1)+Ahu r
def Aax : List Ino->Nat
 | []=>0
 | x :: r=>x.data.length+Aax r
theorem Ah8 : ∀ (L:List Ino) (x:Ino), Ahu (L ++ [x])=Ahu L+(if x.kind=0 then 0 else 1)
 | [], x=>by simp[Ahu]
 | y :: r, x=>by simp only[List.cons_append, Ahu, Ah8 r x];omega
theorem Agn : ∀ (L:List Ino) (x:Ino), Aax (L ++ [x])=Aax L+x.data.length
 | [], x=>by simp[Aax]
 | y :: r, x=>by simp only[List.cons_append, Aax, Agn r x];omega
theorem Aqe : ∀ (L:List Ino), Ahu L<=L.length
 | []=>Nat.le_refl _
 | x :: r=>by
  have:=Aqe r
  simp only[Ahu, List.length_cons]
  split <;> omega
theorem Ak4 (L:List Ino)(k:Nat):Aax (L.take k)<=Aax L:=by
 induction L generalizing k with
 | nil=>simp[Aax]
 | cons x r ih=>
  cases k with
  | zero=>simp[Aax]
  | succ k=>simp only[List.take_succ_cons, Aax];have:=ih k;omega
theorem Ak5 (L:List Ino)(k:Nat):Ahu (L.take k)<=k:=Nat.le_trans (Aqe _) (List.length_take_le _ _)
def Aa5 (L:List Ino)(k:Int):Bool:=decide (0<=k) && decide (k < L.length)
theorem Aru (a:Option Addr)(cap n:Nat)(m b k:Int)(w:World) :
  Calls Tryz.prog 49 #[.agg #[.slice a n cap, .int .i64 m, .int .i64 b], .int .i64 k] w fun e w'=>e=.returned (.bool (decide (0<=k) && decide (k < n)))/\Below w.heap.size w w':=by
 go_enter Tryz.func49, Tryz.ntmps49
 go_wp2_with fail
 ·rename_i h
  go_ret
  exact⟨by rw[decide_eq_true h];rfl, Aab _ _⟩
 ·rename_i h
  go_ret
  exact⟨by rw[decide_eq_false (by omega)];rfl, Aab _ _⟩
theorem Acj (l:List UInt8):(⟨l.toArray⟩:ByteArray).size=l.length:=by show l.toArray.size=_;simp
theorem box6 {w W':World}{x0 x1 x2 x3 x4 x5:Value}{t:TypeId}(h:Below (w.alloc (.cells #[x0, x1, x2, x3, x4, x5] t)).heap.size (w.alloc (.cells #[x0, x1, x2, x3, x4, x5] t)) W') :
  W'.cell? ⟨w.heap.size, 0, none⟩=some x0/\W'.cell? ⟨w.heap.size, 1, none⟩=some x1/\W'.cell? ⟨w.heap.size, 2, none⟩=some x2/\W'.cell? ⟨w.heap.size, 3, none⟩=some x3/\W'.cell? ⟨w.heap.size, 4, none⟩=some x4/\W'.cell? ⟨w.heap.size, 5, none⟩=some x5:=
 ⟨Aaa h (by simp only[World.cell?, Aag];rfl), Aaa h (by simp only[World.cell?, Aag];rfl), Aaa h (by simp only[World.cell?, Aag];rfl), Aaa h (by simp only[World.cell?, Aag];rfl), Aaa h (by simp only[World.cell?, Aag];rfl), Aaa h (by simp only[World.cell?, Aag];rfl)⟩
end Go.Proofs.YtkdfbliiblojoaaGreatDoor
