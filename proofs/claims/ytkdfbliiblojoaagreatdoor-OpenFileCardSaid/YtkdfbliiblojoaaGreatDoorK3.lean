import Derived.Test.YtkdfbliiblojoaaGreatDoorK1
set_option linter.all false
set_option maxRecDepth 100000
set_option maxHeartbeats 64000000
namespace Go.Proofs.YtkdfbliiblojoaaGreatDoor
open Go Go.RowKit
def Abo (x : Ino) : Bool :=
 if x.kind = 0 then decide (x.mode = 0) && decide (x.links = 0) && x.data.isEmpty && decide (x.kids.length = 0) && (x.up == 0)
 else if x.mode < 0 ∨ 7 < x.mode then false
 else if x.kind = 1 then decide (x.kids.length = 0) && (x.up == 0)
 else if x.kind = 3 then x.data.all (fun c => c != 0) && decide (x.kids.length = 0) && (x.up == 0) && !x.data.isEmpty && decide (x.data.length ≤ 1024)
 else if x.kind = 2 then x.data.isEmpty
 else false
theorem Bah (l : List UInt8) (k : Nat) (hk : k < l.length) (h : l[k] = 0) : l.all (fun c => c != 0) = false := by
 rw [List.all_eq_false]
 exact ⟨l[k],List.getElem_mem _,by simp [h]⟩
theorem Awa (l : List UInt8) (h : ∀ j (hj : j < l.length),l[j] ≠ 0) : l.all (fun c => c != 0) = true := by
 rw [List.all_eq_true]
 intro c hc
 obtain ⟨j,hj,rfl⟩ := List.getElem_of_mem hc
 simpa using h j hj
theorem Aqk (kind mode links up : Int) (data : List UInt8) (hd : data.length ≤ 9223372036854775807) (kids : List (List UInt8 × Int)) (ka : Option Addr) (kcap : Nat) (w : World) :
  Calls Tryz.prog 48 #[.agg #[.int .i64 kind,.int .i64 mode,.int .i64 links,.string ⟨data.toArray⟩,.slice ka kids.length kcap,.int .i64 up]] w fun e w' => e = .returned (.bool (Abo ⟨kind,mode,links,data,kids,up⟩)) ∧ Below w.heap.size w w' := by
 have hs := Acs data
 by_cases h0 : kind = 0
 ·subst h0
  have hfin := Hd (show Abo ⟨0,mode,links,data,kids,up⟩ = (decide (mode = 0) && decide (links = 0) && data.isEmpty && decide (kids.length = 0) && (up == 0)) from rfl)
  go_enter Tryz.func48,Tryz.ntmps48
  go_wp2_with fail
  all_goals
   go_ret
   refine ⟨?_,Aab _ _⟩
   rw [hfin.out]
   clear hfin
   simp_all
 ·by_cases hm : mode < 0 ∨ 7 < mode
  ·have hfin := Hd (show Abo ⟨kind,mode,links,data,kids,up⟩ = false by unfold Abo; rw [if_neg h0,if_pos hm])
   rw [hfin.out]
   rcases hm with hm | hm
   all_goals
    go_enter Tryz.func48,Tryz.ntmps48
    go_wp2_with fail
    go_ret
    exact ⟨rfl,Aab _ _⟩
  ·have hm1 : 0 ≤ mode := by omega
   have hm2 : mode ≤ 7 := by omega
   by_cases h1 : kind = 1
   ·subst h1
    have hfin := Hd (show Abo ⟨1,mode,links,data,kids,up⟩ = (decide (kids.length = 0) && (up == 0)) by unfold Abo; rw [if_neg h0,if_neg hm,if_pos rfl])
    clear hm h0
    go_enter Tryz.func48,Tryz.ntmps48
    go_wp2_with fail
    all_goals
     go_ret
     refine ⟨?_,Aab _ _⟩
     rw [hfin.out]
     clear hfin
     simp_all
   ·by_cases h3 : kind = 3
    ·subst h3
     have hfin := Hd (show Abo ⟨3,mode,links,data,kids,up⟩ = (data.all (fun c => c != 0) && decide (kids.length = 0) && (up == 0) && !data.isEmpty && decide (data.length ≤ 1024)) by unfold Abo; rw [if_neg h0,if_neg hm,if_neg h1,if_pos rfl])
     clear hm h0 h1
     rw [hfin.out]
     clear hfin
     obtain ⟨s,hsd⟩ : ∃ s : ByteArray,s = ⟨data.toArray⟩ := ⟨_,rfl⟩
     obtain rfl : data = s.data.toList := by rw [hsd]
     have hv : Value.string ⟨s.data.toList.toArray⟩ = .string s := rfl
     rw [hv]
     have hz : s.data.toList.length = s.size := Array.length_toList
     have hall0 : ∀ k (hk : k < s.size),s[k] = 0 → s.data.toList.all (fun c => c != 0) = false := fun k hk h => Bah _ k (by rw [hz]; exact hk) (by rw [← h]; rfl)
     have hall1 : (∀ j (hj : j < s.size),s[j] ≠ 0) → s.data.toList.all (fun c => c != 0) = true := fun h => Awa _ (fun j hj => h j (by rw [hz] at hj; exact hj))
     have hem : s.data.toList.isEmpty = s.toList.isEmpty := by rw [ByteArray.toList_eq]
     rw [hz,hem]
     clear hsd hv hs
     rw [hz] at hd
     clear hz hem
     obtain ⟨A,hA⟩ : ∃ A,A = s.data.toList.all (fun c => c != 0) := ⟨_,rfl⟩
     rw [← hA] at hall0 hall1 ⊢
     clear hA
     have H0 := Hd hall0
     have H1 := Hd hall1
     clear hall0 hall1
     go_enter Tryz.func48,Tryz.ntmps48
     go_wp2_with fail
     go_loop [3] (fun i => ∃ k : Nat,k ≤ s.size ∧ i = .int .i64 k ∧ Hid (∀ j (hj : j < s.size),j < k → s[j] ≠ 0)) (fun i => s.size - (intOf i).toNat)
     case atStart => exact ⟨0,by omega,rfl,fun _ _ h => absurd h (Nat.not_lt_zero _)⟩
     case round =>
      obtain ⟨k,hk,rfl,hcl⟩ := hrel
      by_cases hlt : k < s.size
      ·cases hc : ((s[k].toNat : Int) == 0) with
       | true =>
        have hz : s[k] = 0 := by
         apply UInt8.toNat_inj.1
         have : (s[k].toNat : Int) = 0 := by simpa using hc
         show s[k].toNat = 0
         omega
        have ha := Hd (H0.out k hlt hz)
        clear hz
        go_wp2_with fail
        go_ret
        exact ⟨by rw [ha.out]; rfl,Aab _ _⟩
       | false =>
        have hn := Hd (show ∀ j (hj : j < s.size),j < k + 1 → s[j] ≠ 0 from fun j hj hjk => by
         by_cases e : j = k
         ·subst e
          intro h
          rw [h] at hc
          simp at hc
         ·exact hcl.out j hj (by omega))
        go_wp2_with fail
        go_round
        case rel => exact ⟨k + 1,by omega,by go_num,hn⟩
        case measure => simp [intOf] <;> omega
      ·have ha := Hd (H1.out (fun j hj => hcl.out j hj (by omega)))
       go_wp2_with fail
       all_goals
        go_ret
        refine ⟨?_,Aab _ _⟩
        have hA := ha.out
        have hcast : decide ((s.size : Int) ≤ 1024) = decide (s.size ≤ 1024) := by rw [decide_eq_decide]; omega
        clear ha hcl H0 H1
        first | rfl | simp_all
    ·by_cases h2 : kind = 2
     ·subst h2
      have hfin := Hd (show Abo ⟨2,mode,links,data,kids,up⟩ = data.isEmpty by unfold Abo; rw [if_neg h0,if_neg hm,if_neg h1,if_neg h3,if_pos rfl])
      clear hm h0 h1 h3
      go_enter Tryz.func48,Tryz.ntmps48
      go_wp2_with fail
      go_ret
      refine ⟨?_,Aab _ _⟩
      rw [hfin.out]
      rfl
     ·have hfin := Hd (show Abo ⟨kind,mode,links,data,kids,up⟩ = false by unfold Abo; rw [if_neg h0,if_neg hm,if_neg h1,if_neg h3,if_neg h2])
      rw [hfin.out]
      have e0 : (kind == 0) = false := by simpa using h0
      have e1 : (kind == 1) = false := by simpa using h1
      have e2 : (kind == 2) = false := by simpa using h2
      have e3 : (kind == 3) = false := by simpa using h3
      clear hm h0 h1 h2 h3
      go_enter Tryz.func48,Tryz.ntmps48
      go_wp2_with fail
      go_ret
      exact ⟨rfl,Aab _ _⟩
end Go.Proofs.YtkdfbliiblojoaaGreatDoor
