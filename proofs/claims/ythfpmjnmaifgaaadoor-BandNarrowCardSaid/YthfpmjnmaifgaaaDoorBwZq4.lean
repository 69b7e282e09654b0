/- Part 5 of what the law needs: own work, put together. -/
import Derived.Test.YthfpmjnmaifgaaaDoorBwZq3
set_option linter.unusedVariables false
set_option linter.unusedSimpArgs false
set_option maxRecDepth 10000
set_option maxHeartbeats 4000000
section
namespace Go.Proofs.YthfpmjnmaifgaaaDoor
open Go.RowKit

theorem dT {p : Prop} [Decidable p] (h : p) : decide p = true:=decide_eq_true h
theorem dF {p : Prop} [Decidable p] (h : ¬ p) : decide p = false:=decide_eq_false h
structure GoodSt (n : Nat) (s : T_Street) : Prop where
 a0 : 0 ≤ s.A
 a1 : s.A < (n : Int)
 b0 : 0 ≤ s.B
 b1 : s.B < (n : Int)
 ne : s.A ≠ s.B
structure Wk (ss : List T_Street) (first : Int) (p : List Int) (sq : List Int) : Prop where
 len : sq.length = p.length + 1
 fst : sq[0]? = some first
 step : ∀ (i : Nat) k,p[i]? = some k → 0 ≤ k ∧ ∃ s a b,ss[k.toNat]? = some s ∧ sq[i]? = some a ∧ sq[i + 1]? = some b ∧ (a = s.A ∧ b = s.B ∨ a ≠ s.A ∧ a = s.B ∧ b = s.A)
theorem Wk.nil (ss : List T_Street) (f : Int) : Wk ss f [] [f]:=⟨rfl,rfl,fun i k h => by simp at h⟩
theorem Wk.snoc {ss : List T_Street} {f : Int} {p sq : List Int} {a b k : Int} {s : T_Street} (h : Wk ss f p sq) (hl : sq[p.length]? = some a) (hk : 0 ≤ k) (hs : ss[k.toNat]? = some s) (hab : a = s.A ∧ b = s.B ∨ a ≠ s.A ∧ a = s.B ∧ b = s.A) : Wk ss f (p ++ [k]) (sq ++ [b]):=by
 refine ⟨by simp [h.len],?_,fun i j hj => ?_⟩
 ·rw [List.getElem?_append_left (by rw [h.len]; omega)]; exact h.fst
 ·by_cases hi : i < p.length
  ·rw [List.getElem?_append_left hi] at hj
   obtain ⟨h0,s',a',b',g1,g2,g3,g4⟩:=h.step i j hj
   exact ⟨h0,s',a',b',g1,by rw [List.getElem?_append_left (by rw [h.len]; omega)]; exact g2,by rw [List.getElem?_append_left (by rw [h.len]; omega)]; exact g3,g4⟩
  ·have hlt:=(List.getElem?_eq_some_iff.1 hj).1
   have hi2 : i = p.length:=by simp at hlt; omega
   subst hi2
   rw [List.getElem?_concat_length] at hj
   cases hj
   refine ⟨hk,s,a,b,hs,by rw [List.getElem?_append_left (by rw [h.len]; omega)]; exact hl,?_,hab⟩
   rw [← h.len,List.getElem?_concat_length]
structure GoodG (n : Nat) (ss : List T_Street) (g : T_Group) : Prop where
 s0 : 0 ≤ g.Size.Lo
 s1 : g.Size.Lo ≤ g.Size.Hi
 s2 : g.Size.Hi ≤ 90
 t0 : 0 ≤ g.At.Lo
 t1 : g.At.Lo ≤ g.At.Hi
 t2 : g.At.Hi ≤ 4
 y0 : 1 ≤ g.Stay
 y1 : g.Stay ≤ 4
 f0 : 0 ≤ g.First
 f1 : g.First < (n : Int)
 wk : ∃ sq,Wk ss g.First g.Path sq
 pl : g.Path.length ≤ 4
structure GoodTw (t : T_Town) : Prop where
 r1 : 1 ≤ t.Rooms.length
 r2 : t.Rooms.length ≤ 12
 rm : ∀ x ∈ t.Rooms,0 ≤ x ∧ x ≤ 500
 s1 : t.Streets.length ≤ 12
 st : ∀ s ∈ t.Streets,GoodSt t.Rooms.length s
 g1 : t.Groups.length ≤ 12
 gr : ∀ g ∈ t.Groups,GoodG t.Rooms.length t.Streets g
 e0 : 0 ≤ t.Steps
 e1 : t.Steps ≤ 10
theorem other_p (N : Nat) (s : T_Street) (q : Int) : p_br6_Other N s q = some (if q = s.A then s.B else if q = s.B then s.A else -1):=by
 unfold p_br6_Other
 by_cases h1 : q = s.A
 ·rw [show (q == s.A) = true from by simpa using h1,cond_true,if_pos h1]
 ·rw [show (q == s.A) = false from by simpa using h1, cond_false, if_neg h1]
  by_cases h2 : q = s.B
  ·rw [show (q == s.B) = true from by simpa using h2,cond_true,if_pos h2]
  ·rw [show (q == s.B) = false from by simpa using h2,cond_false,if_neg h2]
theorem fit_p (N : Nat) (x n : Int) (h0 : 0 ≤ x) (hx : x < 9000000000000000000) (h2 : 2 ≤ n) (hn : n < 9000000000000000000) : p_bk_Fit N x n = some (x % n):=by
 unfold p_bk_Fit
 rw [dF (by omega),cond_false]
 have e : nzI n = some ():=by unfold nzI; rw [if_neg (by omega)]
 rw [e,Option.bind_some,Int.tmod_eq_emod_of_nonneg h0]
 have h3:=Int.emod_nonneg x (show n ≠ 0 by omega)
 rw [dF (by omega),cond_false]
theorem span_p (N : Nat) (d : T_bk_Drum) (lo hi : Int) (h0 : 0 ≤ lo) (h1 : lo ≤ hi) (h2 : hi ≤ 1000000000) : ∃ (x : T_Span) (d' : T_bk_Drum),p_bk_Drum_Span N d lo hi = some (x,d') ∧ lo ≤ x.Lo ∧ x.Lo ≤ x.Hi ∧ x.Hi ≤ hi:=by
 unfold p_bk_Drum_Span
 obtain ⟨n,d1,e,n0,n1,_⟩:=mid_p N d lo hi (by omega) (by omega) (by omega) (by omega)
 have n1:=n1 h1
 rw [e,Option.bind_some]; clear e
 obtain ⟨r,d2,e,_⟩:=roll_le N d1 3 (by omega) (by omega)
 rw [e,Option.bind_some]; clear e
 dsimp only
 cases hc : (r == 0) with
 | true => exact ⟨⟨n,n⟩,d2,rfl,n0,Int.le_refl _,n1⟩
 | false =>
  rw [cond_false]
  cases hc2 : (r == 1) with
  | true =>
   rw [cond_true,w64 (x:=n + 3) (by omega) (by omega)]
   generalize hm : (if n + 3 < hi then n + 3 else hi) = m
   have hm2 : n ≤ m ∧ m ≤ hi:=by split at hm <;> omega
   obtain ⟨k,d3,e,k0,k1,_⟩:=mid_p N d2 n m (by omega) (by omega) (by omega) (by omega)
   have k1:=k1 hm2.1
   rw [e]
   exact ⟨⟨n,k⟩,d3,rfl,n0,k0,by dsimp only; omega⟩
  | false =>
   rw [cond_false]
   obtain ⟨k,d3,e,k0,k1,_⟩:=mid_p N d2 n hi (by omega) (by omega) (by omega) (by omega)
   have k1:=k1 n1
   rw [e]
   exact ⟨⟨n,k⟩,d3,rfl,n0,k0,by dsimp only; omega⟩
theorem path_p (N : Nat) (n : Nat) (ss : List T_Street) (hst : ∀ s ∈ ss,GoodSt n s) (at0 k0 b0 first : Int) (pl0 : List Int) {ρ : Type} (T : Option ρ → Prop) (K : Int → List Int → Option ρ) (hN : 1000 < N) (hk0 : k0 ≤ 4) (hk1 : 0 ≤ k0) (hss : ss.length ≤ 12)
  (hw : ∃ sq,Wk ss first [] sq ∧ sq[([] : List Int).length]? = some at0) (hend : ∀ b p,(∃ sq,Wk ss first p sq) → p.length ≤ 4 → T (K b p))
  {body : (Int → Int → Int → List Int → Option ρ) → Int → Int → Int → List Int → Option ρ}
  (hbody : ∀ rec at_ k b p,body rec at_ k b p = (letJ (fun (y_80 : Bool) => (bif y_80 then (letJ (fun (at_86 : Int) (b_87 : Int) (b_88 : List Int) => (rec at_86 (IntKind.i64.wrap (k - 1)) b_87 b_88)) (fun k_89 => ((p_bk_Drum_Roll N (⟨b⟩ : T_bk_Drum) ((ss.length : Nat) : Int)).bind fun r_92 => ((getI ss r_92.1).bind fun x_93 => ((p_br6_Other N x_93 at_).bind fun r_94 => (bif (decide (r_94 ≥ 0)) then ((pushI p ([r_92.1] : List Int)).bind fun l_96 => (k_89 r_94 r_92.2.beat_ l_96)) else (k_89 at_ r_92.2.beat_ p))))))) else (K b p))) (fun k_81 => (bif (decide (k > 0)) then (k_81 (decide (((ss.length : Nat) : Int) > 0))) else (k_81 false))))) :
  T (loop4 body N at0 k0 b0 []):=by
 refine loop4_T T (fun at_ k b p => 0 ≤ k ∧ (p.length : Int) + k ≤ 4 ∧ ∃ sq,Wk ss first p sq ∧ sq[p.length]? = some at_) (fun at_ k b p => k.toNat) ?_ N at0 k0 b0 [] ⟨hk1,by simpa using hk0,hw⟩ (by omega)
 rintro rec at_ k b p ⟨q0,q1,sq,hsq,hlast⟩ ih
 rw [hbody]
 simp only [letJ_eq]
 by_cases hk : k > 0
 ·rw [dT hk,cond_true]
  by_cases hl : ((ss.length : Nat) : Int) > 0
  ·rw [dT hl,cond_true]
   obtain ⟨r,d1,e,r0,r1⟩:=roll_le N ⟨b⟩ ((ss.length : Nat) : Int) (by omega) (by omega)
   rw [e,Option.bind_some]; clear e
   dsimp only
   obtain ⟨s,e1,e2,e3⟩:=getI_lt r0 r1
   rw [e1,Option.bind_some,other_p,Option.bind_some,w64 (x:=k - 1) (by omega) (by omega)]
   have hg:=hst s e3
   have:=hg.a0; have:=hg.b0
   by_cases hA : at_ = s.A
   ·rw [if_pos hA, dT (by omega), cond_true, pushI_ok (by simp; omega), Option.bind_some]
    refine ih _ _ _ _ ⟨by omega,by simp; omega,_,hsq.snoc hlast r0 e2 (.inl ⟨hA,rfl⟩),?_⟩ (by omega)
    rw [List.length_append,List.length_singleton,← hsq.len,List.getElem?_concat_length]
   ·rw [if_neg hA]
    by_cases hB : at_ = s.B
    ·rw [if_pos hB, dT (by omega), cond_true, pushI_ok (by simp; omega), Option.bind_some]
     refine ih _ _ _ _ ⟨by omega,by simp; omega,_,hsq.snoc hlast r0 e2 (.inr ⟨hA,hB,rfl⟩),?_⟩ (by omega)
     rw [List.length_append,List.length_singleton,← hsq.len,List.getElem?_concat_length]
    ·rw [if_neg hB, dF (by omega), cond_false]
     exact ih _ _ _ _ ⟨by omega,by omega,sq,hsq,hlast⟩ (by omega)
  ·rw [dF hl,cond_false]
   exact hend b p ⟨sq,hsq⟩ (by omega)
 ·rw [dF hk,cond_false,cond_false]
  exact hend b p ⟨sq,hsq⟩ (by omega)
theorem townOf_p (N : Nat) (hN : 1000 < N) (d : T_bk_Drum) (squares streets groups : Nat) (h1 : 1 ≤ squares) (hs : squares ≤ 12) (ht : streets ≤ 12) (hg : groups ≤ 12) : ∃ (t : T_Town) (d' : T_bk_Drum),p_bk_TownOf N d (squares : Int) (streets : Int) (groups : Int) = some (t,d') ∧ GoodTw t ∧ t.Rooms.length ≤ squares ∧ t.Streets.length ≤ streets ∧ t.Groups.length ≤ groups:=by
 unfold p_bk_TownOf
 obtain ⟨r,d1,e,hr⟩:=any_p N d [4,11] (by simp) (by simp)
 have hr : r = 4 ∨ r = 11:=by simpa using hr
 rw [e,Option.bind_some]; clear e
 dsimp only
 obtain ⟨steps,d2,e,e0,e1⟩:=roll_le N d1 r (by omega) (by omega)
 rw [e,Option.bind_some]; clear e
 dsimp only
 obtain ⟨n,d3,e,n0,n1,_⟩:=mid_p N d2 1 (squares : Int) (by omega) (by omega) (by omega) (by omega)
 have n1:=n1 (by omega)
 rw [e,Option.bind_some]; clear e
 dsimp only
 obtain ⟨n',rfl⟩ : ∃ n' : Nat,n = (n' : Int):=⟨n.toNat,by omega⟩
 let T : Option (T_Town × T_bk_Drum) → Prop:=fun x => ∃ (t : T_Town) (d' : T_bk_Drum),x = some (t,d') ∧ GoodTw t ∧ t.Rooms.length ≤ squares ∧ t.Streets.length ≤ streets ∧ t.Groups.length ≤ groups
 show T _
 refine letJ_gen T _ _ (fun K1 hK1 => ?_)
 refine loop3_T T (fun i b (l : List Int) => 0 ≤ i ∧ i ≤ (n' : Int) ∧ (l.length : Int) = i ∧ ∀ x ∈ l,0 ≤ x ∧ x ≤ 500) (fun i b l => (n' - i.toNat)) ?_ N 0 _ [] ⟨by omega,by omega,by simp,by simp⟩ (by omega)
 rintro rec i b l ⟨i0,i1,hl,hx⟩ ih
 by_cases hi : i < (n' : Int)
 ·rw [dT hi,cond_true]
  obtain ⟨x1,d4,e,x0,x1'⟩:=roll_le N ⟨b⟩ 60 (by omega) (by omega)
  rw [e,Option.bind_some]; clear e
  dsimp only
  obtain ⟨x2,d5,e,y0,y1⟩:=roll_le N d4 150 (by omega) (by omega)
  rw [e,Option.bind_some]; clear e
  dsimp only
  obtain ⟨x3,d6,e,hx3⟩:=any_p N d5 [x1,x2,500] (by simp) (by simp)
  have hx3 : x3 = x1 ∨ x3 = x2 ∨ x3 = 500:=by simpa using hx3
  rw [e,Option.bind_some]; clear e
  dsimp only
  rw [pushI_ok (by simp; omega),Option.bind_some,w64 (x:=i + 1) (by omega) (by omega)]
  refine ih _ _ _ ⟨by omega,by omega,by simp; omega,fun x hm => ?_⟩ (by omega)
  rcases List.mem_append.1 hm with hm | hm
  ·exact hx x hm
  ·obtain rfl:=List.mem_singleton.1 hm
   omega
 rw [dF hi,cond_false,hK1]
 have hln : l.length = n':=by omega
 clear ih hK1
 dsimp only
 obtain ⟨s0,d4,e,s1,s2⟩:=roll_le N ⟨b⟩ (streets + 1 : Int) (by omega) (by omega)
 rw [w64 (x:=(streets : Int) + 1) (by omega) (by omega),e,Option.bind_some]; clear e
 dsimp only
 refine letJ_gen T _ _ (fun K2 hK2 => ?_)
 refine loop3_T T (fun i b (m : List T_Street) => 0 ≤ i ∧ (m.length : Int) + i ≤ streets ∧ ∀ s ∈ m,GoodSt n' s) (fun i b m => i.toNat) ?_ N s0 _ [] ⟨by omega,by simp; omega,by simp⟩ (by omega)
 rintro rec i2 b2 m ⟨j0,j1,hm⟩ ih
 simp only [letJ_eq]
 have fin : T (K2 b2 m):=by
  rw [hK2]
  dsimp only
  obtain ⟨g0,d5,e,g1,g2⟩:=roll_le N ⟨b2⟩ (groups + 1 : Int) (by omega) (by omega)
  rw [w64 (x:=(groups : Int) + 1) (by omega) (by omega),e,Option.bind_some]; clear e
  dsimp only
  refine letJ_gen T _ _ (fun K3 hK3 => ?_)
  refine loop3_T T (fun i b (gs : List T_Group) => 0 ≤ i ∧ (gs.length : Int) + i ≤ groups ∧ ∀ g ∈ gs,GoodG n' m g) (fun i b gs => i.toNat) ?_ N g0 _ [] ⟨by omega,by simp; omega,by simp⟩ (by omega)
  rintro rec i3 b3 gs ⟨k0,k1,hgs⟩ ih3
  by_cases hi3 : i3 > 0
  ·rw [dT hi3,cond_true]
   obtain ⟨z,d6,e,hz⟩:=any_p N ⟨b3⟩ [30,90] (by simp) (by simp)
   have hz : z = 30 ∨ z = 90:=by simpa using hz
   rw [e,Option.bind_some]; clear e
   dsimp only
   obtain ⟨size,d7,e,z0,z1,z2⟩:=span_p N d6 0 z (by omega) (by omega) (by omega)
   rw [e,Option.bind_some]; clear e
   dsimp only
   obtain ⟨w,d8,e,hw⟩:=any_p N d7 [0,4] (by simp) (by simp)
   have hw : w = 0 ∨ w = 4:=by simpa using hw
   rw [e,Option.bind_some]; clear e
   dsimp only
   obtain ⟨at_,d9,e,a0,a1,a2⟩:=span_p N d8 0 w (by omega) (by omega) (by omega)
   rw [e,Option.bind_some]; clear e
   dsimp only
   obtain ⟨stay,d10,e,t0,t1,_⟩:=mid_p N d9 1 4 (by omega) (by omega) (by omega) (by omega)
   have t1:=t1 (by omega)
   rw [e,Option.bind_some]; clear e
   dsimp only
   obtain ⟨first,d11,e,f0,f1⟩:=roll_le N d10 (n' : Int) (by omega) (by omega)
   rw [e,Option.bind_some]; clear e
   dsimp only
   obtain ⟨k,d12,e,q0,q1⟩:=roll_le N d11 5 (by omega) (by omega)
   rw [e,Option.bind_some]; clear e
   dsimp only
   refine letJ_gen T _ _ (fun K4 hK4 => ?_)
   refine path_p N n' m hm first k _ first [] T K4 hN (by omega) q0 (by omega) ⟨[first],Wk.nil m first,rfl⟩ (fun b4 p hp hpl => ?_) (fun _ _ _ _ _ => rfl)
   rw [hK4]
   dsimp only
   rw [pushI_ok (by simp; omega),Option.bind_some,w64 (x:=i3 - 1) (by omega) (by omega)]
   refine ih3 _ _ _ ⟨by omega,by simp; omega,fun g hgm => ?_⟩ (by omega)
   rcases List.mem_append.1 hgm with hgm | hgm
   ·exact hgs g hgm
   ·obtain rfl:=List.mem_singleton.1 hgm
    exact ⟨z0,z1,by dsimp only; omega,a0,a1,by dsimp only; omega,t0,t1,f0,f1,hp,hpl⟩
  ·rw [dF hi3,cond_false,hK3]
   exact ⟨_,_,rfl,⟨by dsimp only; omega,by dsimp only; omega,hx,by dsimp only; omega,by dsimp only; rw [hln]; exact hm,by dsimp only; omega,by dsimp only; rw [hln]; exact hgs,e0,by dsimp only; omega⟩,by dsimp only; omega,by dsimp only; omega,by dsimp only; omega⟩
 by_cases hi2 : i2 > 0
 ·rw [dT hi2,cond_true]
  by_cases hn1 : (n' : Int) > 1
  ·rw [dT hn1,cond_true]
   obtain ⟨a,d5,e,a0,a1⟩:=roll_le N ⟨b2⟩ (n' : Int) (by omega) (by omega)
   rw [e,Option.bind_some]; clear e
   dsimp only
   rw [w64 (x:=(n' : Int) - 1) (by omega) (by omega)]
   obtain ⟨r2,d6,e,r0,r1,_⟩:=mid_p N d5 1 ((n' : Int) - 1) (by omega) (by omega) (by omega) (by omega)
   have r1:=r1 (by omega)
   rw [e,Option.bind_some]; clear e
   dsimp only
   rw [w64 (x:=a + r2) (by omega) (by omega),fit_p N _ _ (by omega) (by omega) (by omega) (by omega),Option.bind_some,pushI_ok (by simp; omega),Option.bind_some,w64 (x:=i2 - 1) (by omega) (by omega)]
   refine ih _ _ _ ⟨by omega,by simp; omega,fun s hsm => ?_⟩ (by omega)
   rcases List.mem_append.1 hsm with hsm | hsm
   ·exact hm s hsm
   ·obtain rfl:=List.mem_singleton.1 hsm
    have h3:=Int.emod_nonneg (a + r2) (show (n' : Int) ≠ 0 by omega)
    have h4:=Int.emod_lt_of_pos (a + r2) (show 0 < (n' : Int) by omega)
    refine ⟨a0,a1,h3,h4,?_⟩
    dsimp only
    by_cases hlt : a + r2 < (n' : Int)
    ·rw [Int.emod_eq_of_lt (by omega) hlt]; omega
    ·have : (a + r2) % (n' : Int) = a + r2 - n':=by
      rw [← Int.sub_emod_right,Int.emod_eq_of_lt (by omega) (by omega)]
     omega
  ·rw [dF hn1,cond_false]
   exact fin
 ·rw [dF hi2,cond_false,cond_false]
  exact fin
end Go.Proofs.YthfpmjnmaifgaaaDoor
end
section
namespace Go.Proofs.YthfpmjnmaifgaaaDoor
open Go.RowKit

structure GoodC (c : T_City) : Prop where
 tw : GoodTw c.Town
 r4 : c.Town.Rooms.length ≤ 4
 b0 : 0 ≤ c.Break
 b1 : c.Break ≤ 120
 sl : c.Sleep.length = c.Town.Rooms.length
 sv : ∀ x ∈ c.Sleep,0 ≤ x ∧ x ≤ 720
structure GoodB (c : T_City) (b : T_Band) (sq : List Int) : Prop where
 f0 : 0 ≤ b.First
 f1 : b.First < (c.Town.Rooms.length : Int)
 wk : Wk c.Town.Streets b.First b.Path sq
 pl : b.Path.length ≤ 4
 s0 : 0 ≤ b.Start.Lo
 s1 : b.Start.Lo ≤ b.Start.Hi
 s2 : b.Start.Hi - b.Start.Lo ≤ 30
 y0 : 1 ≤ b.Stay
 y1 : b.Stay ≤ 20
 p0 : 0 ≤ b.People
 p1 : b.People ≤ 600
 en : b.Start.Hi + b.Stay * ((b.Path.length : Int) + 1) ≤ 720
theorem cityOf_p (N : Nat) (hN : 1000 < N) (d : T_bk_Drum) : ∃ (c : T_City) (d' : T_bk_Drum),p_bk_CityOf N d = some (c,d') ∧ GoodC c:=by
 unfold p_bk_CityOf
 obtain ⟨t,d1,e,ht,h4,_,_⟩:=townOf_p N hN d 4 5 1 (by omega) (by omega) (by omega) (by omega)
 rw [show ((4 : Nat) : Int) = 4 from rfl,show ((5 : Nat) : Int) = 5 from rfl,show ((1 : Nat) : Int) = 1 from rfl] at e
 rw [e,Option.bind_some]; clear e
 dsimp only
 obtain ⟨x1,d2,e,x0,x1'⟩:=roll_le N d1 10 (by omega) (by omega)
 rw [e,Option.bind_some]; clear e
 dsimp only
 obtain ⟨x2,d3,e,y0,y1⟩:=roll_le N d2 60 (by omega) (by omega)
 rw [e,Option.bind_some]; clear e
 dsimp only
 obtain ⟨br,d4,e,hb⟩:=any_p N d3 [0,1,x1,x2] (by simp) (by simp)
 have hb : br = 0 ∨ br = 1 ∨ br = x1 ∨ br = x2:=by simpa using hb
 rw [e,Option.bind_some]; clear e
 dsimp only
 let T : Option (T_City × T_bk_Drum) → Prop:=fun x => ∃ (c : T_City) (d' : T_bk_Drum),x = some (c,d') ∧ GoodC c
 show T _
 refine letJ_gen T _ _ (fun K1 hK1 => ?_)
 have hr:=ht.r2
 refine loop3_T T (fun i b (l : List Int) => 0 ≤ i ∧ i ≤ (t.Rooms.length : Int) ∧ (l.length : Int) = i ∧ ∀ x ∈ l,0 ≤ x ∧ x ≤ 720) (fun i b l => (t.Rooms.length - i.toNat)) ?_ N 0 _ [] ⟨by omega,by omega,by simp,by simp⟩ (by omega)
 rintro rec i b l ⟨i0,i1,hl,hx⟩ ih
 by_cases hi : i < (t.Rooms.length : Int)
 ·rw [dT hi,cond_true]
  obtain ⟨x1,d4,e,x0,x1'⟩:=roll_le N ⟨b⟩ 721 (by omega) (by omega)
  rw [e,Option.bind_some]; clear e
  dsimp only
  obtain ⟨x2,d5,e,y0,y1,_⟩:=mid_p N d4 300 600 (by omega) (by omega) (by omega) (by omega)
  have y1:=y1 (by omega)
  rw [e,Option.bind_some]; clear e
  dsimp only
  obtain ⟨x3,d6,e,hx3⟩:=any_p N d5 [0,x1,x2] (by simp) (by simp)
  have hx3 : x3 = 0 ∨ x3 = x1 ∨ x3 = x2:=by simpa using hx3
  rw [e,Option.bind_some]; clear e
  dsimp only
  rw [pushI_ok (by simp; omega),Option.bind_some,w64 (x:=i + 1) (by omega) (by omega)]
  refine ih _ _ _ ⟨by omega,by omega,by simp; omega,fun x hm => ?_⟩ (by omega)
  rcases List.mem_append.1 hm with hm | hm
  ·exact hx x hm
  ·obtain rfl:=List.mem_singleton.1 hm
   omega
 ·rw [dF hi,cond_false,hK1]
  exact ⟨_,_,rfl,⟨ht,h4,by dsimp only; omega,by dsimp only; omega,by dsimp only; omega,hx⟩⟩
theorem bandOf_p (N : Nat) (hN : 1000 < N) (d : T_bk_Drum) (c : T_City) (hc : GoodC c) : ∃ (b : T_Band) (d' : T_bk_Drum),p_bk_BandOf N d c = some (b,d') ∧ ∃ sq,GoodB c b sq ∧ b.Start.Hi - b.Start.Lo ≤ 4:=by
 unfold p_bk_BandOf
 have hr1:=hc.tw.r1; have hr2:=hc.tw.r2
 obtain ⟨first,d1,e,f0,f1⟩:=roll_le N d ((c.Town.Rooms.length : Nat) : Int) (by omega) (by omega)
 rw [e,Option.bind_some]; clear e
 dsimp only
 obtain ⟨z,d2,e,hz⟩:=any_p N d1 [6,20] (by simp) (by simp)
 have hz : z = 6 ∨ z = 20:=by simpa using hz
 rw [e,Option.bind_some]; clear e
 dsimp only
 obtain ⟨stay,d3,e,y0,y1,_⟩:=mid_p N d2 1 z (by omega) (by omega) (by omega) (by omega)
 have y1:=y1 (by omega)
 rw [e,Option.bind_some]; clear e
 dsimp only
 obtain ⟨q1,d4,e,q10,q11⟩:=roll_le N d3 60 (by omega) (by omega)
 rw [e,Option.bind_some]; clear e
 dsimp only
 obtain ⟨q2,d5,e,q20,q21⟩:=roll_le N d4 600 (by omega) (by omega)
 rw [e,Option.bind_some]; clear e
 dsimp only
 obtain ⟨pp,d6,e,hp⟩:=any_p N d5 [0,q1,q2] (by simp) (by simp)
 have hp : pp = 0 ∨ pp = q1 ∨ pp = q2:=by simpa using hp
 rw [e,Option.bind_some]; clear e
 dsimp only
 obtain ⟨k,d7,e,k0,k1⟩:=roll_le N d6 5 (by omega) (by omega)
 rw [e,Option.bind_some]; clear e
 dsimp only
 let T : Option (T_Band × T_bk_Drum) → Prop:=fun x => ∃ (b : T_Band) (d' : T_bk_Drum),x = some (b,d') ∧ ∃ sq,GoodB c b sq ∧ b.Start.Hi - b.Start.Lo ≤ 4
 show T _
 refine letJ_gen T _ _ (fun K1 hK1 => ?_)
 refine path_p N c.Town.Rooms.length c.Town.Streets hc.tw.st first k _ first [] T K1 hN (by omega) k0 hc.tw.s1 ⟨[first],Wk.nil _ first,rfl⟩ (fun b4 p hw hpl => ?_) (fun _ _ _ _ _ => rfl)
 obtain ⟨sq,hw⟩:=hw
 rw [hK1]
 dsimp only
 have hm : stay * ((p.length : Int) + 1) ≤ 20 * 5:=Int.mul_le_mul (by omega) (by omega) (by omega) (by omega)
 have hm0 : 0 ≤ stay * ((p.length : Int) + 1):=Int.mul_nonneg (by omega) (by omega)
 rw [w64 (x:=(p.length : Int) + 1) (by omega) (by omega)]
 generalize hM : stay * ((p.length : Int) + 1) = M at hm hm0
 rw [w64 (x:=M) (by omega) (by omega),w64 (x:=720 - M) (by omega) (by omega),Option.bind_some,w64 (x:=720 - M - 4) (by omega) (by omega)]
 obtain ⟨z2,d8,e,hz2⟩:=any_p N ⟨b4⟩ [60,200,720 - M - 4] (by simp) (by simp)
 have hz2 : z2 = 60 ∨ z2 = 200 ∨ z2 = 720 - M - 4:=by simpa using hz2
 rw [e,Option.bind_some]; clear e
 dsimp only
 obtain ⟨st,d9,e,st0,st1⟩:=roll_le N d8 z2 (by omega) (by omega)
 rw [e,Option.bind_some]; clear e
 dsimp only
 obtain ⟨w1,d10,e,w10,w11⟩:=roll_le N d9 5 (by omega) (by omega)
 rw [e,Option.bind_some]; clear e
 dsimp only
 obtain ⟨w2,d11,e,hw2⟩:=any_p N d10 [0,0,w1] (by simp) (by simp)
 have hw2 : w2 = 0 ∨ w2 = w1:=by simpa using hw2
 rw [e,Option.bind_some]; clear e
 dsimp only
 rw [w64 (x:=st + w2) (by omega) (by omega)]
 exact ⟨_,_,rfl,sq,⟨f0,f1,hw,hpl,by dsimp only; omega,by dsimp only; omega,by dsimp only; omega,y0,by dsimp only; omega,by dsimp only; omega,by dsimp only; omega,by dsimp only; rw [hM]; omega⟩,by dsimp only; omega⟩
theorem bandsOf_p (N : Nat) (hN : 1000 < N) (d : T_bk_Drum) (c : T_City) (hc : GoodC c) (most : Nat) (hm : most ≤ 10) : ∃ (l : List T_Band) (d' : T_bk_Drum),p_bk_BandsOf N d c (most : Int) = some (l,d') ∧ l.length ≤ most ∧ ∀ b ∈ l,∃ sq,GoodB c b sq ∧ b.Start.Hi - b.Start.Lo ≤ 4:=by
 unfold p_bk_BandsOf
 rw [w64 (x:=(most : Int) + 1) (by omega) (by omega)]
 obtain ⟨n,d1,e,n0,n1⟩:=roll_le N d ((most : Int) + 1) (by omega) (by omega)
 rw [e,Option.bind_some]; clear e
 dsimp only
 let T : Option (List T_Band × T_bk_Drum) → Prop:=fun x => ∃ (l : List T_Band) (d' : T_bk_Drum),x = some (l,d') ∧ l.length ≤ most ∧ ∀ b ∈ l,∃ sq,GoodB c b sq ∧ b.Start.Hi - b.Start.Lo ≤ 4
 show T _
 refine letJ_gen T _ _ (fun K1 hK1 => ?_)
 refine loop3_T T (fun (l : List T_Band) i b => 0 ≤ i ∧ (l.length : Int) + i ≤ most ∧ ∀ b ∈ l,∃ sq,GoodB c b sq ∧ b.Start.Hi - b.Start.Lo ≤ 4) (fun l i b => i.toNat) ?_ N [] n _ ⟨by omega,by simp; omega,by simp⟩ (by omega)
 rintro rec l i b ⟨i0,i1,hl⟩ ih
 by_cases hi : i > 0
 ·rw [dT hi,cond_true]
  obtain ⟨x,d2,e,hx⟩:=bandOf_p N hN ⟨b⟩ c hc
  rw [e,Option.bind_some]; clear e
  dsimp only
  rw [pushI_ok (by simp; omega),Option.bind_some,w64 (x:=i - 1) (by omega) (by omega)]
  refine ih _ _ _ ⟨by omega,by simp; omega,fun y hy => ?_⟩ (by omega)
  rcases List.mem_append.1 hy with hy | hy
  ·exact hl y hy
  ·obtain rfl:=List.mem_singleton.1 hy
   exact hx
 ·rw [dF hi,cond_false,hK1]
  exact ⟨_,_,rfl,by omega,hl⟩
end Go.Proofs.YthfpmjnmaifgaaaDoor
end
section
namespace Go.Proofs.YthfpmjnmaifgaaaDoor
open Go.RowKit
attribute [local simp] ren ren1 AV.plain AV.plain1 AV.clean cleanL cleanI cleanBo cleanSt cleanII plFB clFB faFB KL_bk_Drum KL_Span KL_Street KL_Group KL_Town KL_City KL_Band A_bk_Drum C_bk_Drum A_Span C_Span A_Street C_Street A_Group C_Group A_Town C_Town A_City C_City A_Band C_Band back back1 re re1 List.idxOf? List.findIdx? List.findIdx?.go KB_bk_Drum KB_Span KB_Street KB_Group KB_Town KB_City KB_Band fadeS fadeV
def p_crowd_within (N : Nat) (n_1 : Int) (least_2 : Int) (most_3 : Int) : Option (Bool):=(bif (decide (n_1 ≥ least_2)) then some (decide (n_1 ≤ most_3)) else some false)
def v_crowd_within (r : Bool) : AV:=.bool r
attribute [local simp] v_crowd_within
theorem a_crowd_within (n_1 : Int) (least_2 : Int) (most_3 : Int) : [i6 n_1,i6 least_2,i6 most_3].mapM (ren []) = some [i6 n_1,i6 least_2,i6 most_3]:=by simp
theorem b_crowd_within (r : Bool) (n n2 m : Nat) : back n n2 m (v_crowd_within r) = some (v_crowd_within r):=by simp
theorem d_crowd_within (N : Nat) (n_1 : Int) (least_2 : Int) (most_3 : Int) (r : Bool) (h : p_crowd_within N n_1 least_2 most_3 = some r) : Does Tryd.prog 56 [i6 n_1,i6 least_2,i6 most_3] [] fun v c => v = v_crowd_within r ∧ c = []:=by
 unfold p_crowd_within at h
 refine Does.ofL comp56 _ _ rfl rfl ?_
 refine Ex.seq (rg 1 [0,1,2] (mkS 15 [(0,i6 n_1),(1,i6 least_2),(2,i6 most_3)]) ⟨[],[]⟩ ?_)
 refine Ex.seq ?_
 rcases condI h with ⟨hc_4,h⟩ | ⟨hc_4,h⟩
 ·refine regH 9 [(3, .eq (.bool true))] [6] [AV.bool (decide (n_1 ≥ least_2)) = AV.bool true] (mkS 15 [(6, .bool (decide (n_1 ≤ most_3)))]) (⟨[], []⟩) (by kernel_rfl) ⟨congrArg AV.bool hc_4, trivial⟩ rfl ?_
  refine Ex.ret ?_
  obtain rfl:=sJ h
  exact rt (.bool (decide (n_1 ≤ most_3)))
 ·refine regH 9 [(3, .eq (.bool false))] [6] [AV.bool (decide (n_1 ≥ least_2)) = AV.bool false] (mkS 15 [(6, .bool false)]) (⟨[], []⟩) (by kernel_rfl) ⟨congrArg AV.bool hc_4, trivial⟩ rfl ?_
  refine Ex.ret ?_
  obtain rfl:=sJ h
  exact rt (.bool false)
def p_crowd_checkSquares (N : Nat) (t_1 : T_Town) : Option (Int):=(bif (((t_1.Rooms.length : Nat) : Int) == 0) then some 4 else (bif (decide (((t_1.Rooms.length : Nat) : Int) > 12)) then some 5 else (letJ (fun (_ : Unit) => some 0) (fun k_4 => (loop1 (fun rec_8 (y_7 : Int) => (bif (decide (y_7 < ((t_1.Rooms.length : Nat) : Int))) then ((getI t_1.Rooms y_7).bind fun x_12 => ((p_crowd_within N x_12 0 1000000).bind fun r_13 => (bif (!r_13) then some 2 else (rec_8 (IntKind.i64.wrap (y_7 + 1)))))) else (k_4 ()))) N 0)))))
def v_crowd_checkSquares (r : Int) : AV:=i6 r
attribute [local simp] v_crowd_checkSquares
theorem a_crowd_checkSquares (t_1 : T_Town) : [(A_Town t_1)].mapM (ren []) = some [(A_Town t_1)]:=by simp
theorem b_crowd_checkSquares (r : Int) (n n2 m : Nat) : back n n2 m (v_crowd_checkSquares r) = some (v_crowd_checkSquares r):=by simp
theorem d_crowd_checkSquares (N : Nat) (t_1 : T_Town) (r : Int) (h : p_crowd_checkSquares N t_1 = some r) : Does Tryd.prog 54 [(A_Town t_1)] [] fun v c => v = v_crowd_checkSquares r ∧ c = []:=by
 unfold p_crowd_checkSquares at h
 refine Does.ofL comp54 _ _ rfl rfl ?_
 refine Ex.seq (rg 2 [1] (mkS 26 [(1,.ptr 0 0)]) ⟨[(C_Town t_1)],[]⟩ ?_)
 refine Ex.seq ?_
 refine Ex.blockK ?_
 refine Ex.seq ?_
 refine regH 5 [(2,.eq (i6 ((t_1.Rooms.length : Nat) : Int)))] [1,5] [AV.int .i64 (((t_1.Rooms.map (AV.int .i64)).length : Nat) : Int) = AV.int .i64 ((t_1.Rooms.length : Nat) : Int)] (mkS 26 [(1,.ptr 0 0),(5,.bool (((t_1.Rooms.length : Nat) : Int) == 0))]) (⟨[(C_Town t_1)],[]⟩) (by kernel_rfl) ⟨lenM _ _,trivial⟩ rfl ?_
 rcases condI h with ⟨hc_2,h⟩ | ⟨hc_2,h⟩
 ·refine Ex.condT _ rfl hc_2 ?_
  refine Ex.seq (rg 1 [2] (mkS 26 [(2,i6 4)]) ⟨[(C_Town t_1)],[]⟩ ?_)
  refine Ex.ret ?_
  obtain rfl:=sJ h
  exact rt (i6 4)
 ·refine Ex.condF _ rfl hc_2 ?_
  refine Ex.seq ?_
  refine regH 5 [(2,.eq (i6 ((t_1.Rooms.length : Nat) : Int)))] [1,10] [AV.int .i64 (((t_1.Rooms.map (AV.int .i64)).length : Nat) : Int) = AV.int .i64 ((t_1.Rooms.length : Nat) : Int)] (mkS 26 [(1,.ptr 0 0),(10,.bool (decide (((t_1.Rooms.length : Nat) : Int) > 12)))]) (⟨[(C_Town t_1)],[]⟩) (by kernel_rfl) ⟨lenM _ _,trivial⟩ rfl ?_
  rcases condI h with ⟨hc_3,h⟩ | ⟨hc_3,h⟩
  ·refine Ex.condT _ rfl hc_3 ?_
   refine Ex.seq (rg 1 [2] (mkS 26 [(2,i6 5)]) ⟨[(C_Town t_1)],[]⟩ ?_)
   refine Ex.ret ?_
   obtain rfl:=sJ h
   exact rt (i6 5)
  ·refine Ex.condF _ rfl hc_3 ?_
   refine Ex.skip ?_
   refine Ex.seq (Ex.seq ?_)
   refine regH 4 [(2,.eq (i6 ((t_1.Rooms.length : Nat) : Int)))] [16,17,18] [AV.int .i64 (((t_1.Rooms.map (AV.int .i64)).length : Nat) : Int) = AV.int .i64 ((t_1.Rooms.length : Nat) : Int)] (mkS 26 [(16,.sl (t_1.Rooms.map (AV.int .i64)) none),(17,i6 ((t_1.Rooms.length : Nat) : Int)),(18,i6 0)]) (⟨[(C_Town t_1)],[]⟩) (by kernel_rfl) ⟨lenM _ _,trivial⟩ rfl ?_
   obtain ⟨K_5,hK_6,h⟩:=letE h
   refine Ex.blockJ (fun a S => K_5 () = some r ∧ a = mkS 26 [] ∧ S = ⟨[],[]⟩) ?_ ?_
   ·obtain ⟨B_9,hB_10,h⟩:=loop1I h
    refine Ex.loopF (fun k a S => ∃ (y_7 : Int),loop1 B_9 k y_7 = some r ∧ a = mkS 26 [(16,.sl (t_1.Rooms.map (AV.int .i64)) none),(17,i6 ((t_1.Rooms.length : Nat) : Int)),(18,i6 y_7)] ∧ S = ⟨[],[]⟩) N ⟨_,_,forgetA (m:=26) 0 [] [(16,.sl (t_1.Rooms.map (AV.int .i64)) none),(17,i6 ((t_1.Rooms.length : Nat) : Int)),(18,i6 0)] [] [] (by simp [setAll]) (by simp) ⟨(reN (cleanI _ _)),rfl,rfl,trivial⟩ (by simp) rfl (by decide),0,h,rfl,rfl⟩ ?_
    rintro k a S ⟨y_7,h,rfl,rfl⟩
    cases k with
    | zero => exact (loop1Z h).elim
    | succ k =>
     replace h:=loop1S h hB_10
     refine Ex.seq (rg 1 [16,17,18,19] (mkS 26 [(16,.sl (t_1.Rooms.map (AV.int .i64)) none),(17,i6 ((t_1.Rooms.length : Nat) : Int)),(18,i6 y_7),(19,.bool (decide (y_7 < ((t_1.Rooms.length : Nat) : Int))))]) ⟨[],[]⟩ ?_)
     refine Ex.seq ?_
     rcases condI h with ⟨hc_11,h⟩ | ⟨hc_11,h⟩
     ·refine Ex.condT _ rfl hc_11 ?_
      refine Ex.skip ?_
      refine Ex.seq ?_
      refine Ex.blockK ?_
      refine Ex.seq ?_
      obtain ⟨x_12,hx_12,h⟩:=bE h
      refine regH 3 [(0,.rop [i6 x_12])] [4,16,17,18] [LGet (t_1.Rooms.map (AV.int .i64)) y_7 1 [i6 x_12]] (mkS 26 [(4,i6 x_12),(16,.sl (t_1.Rooms.map (AV.int .i64)) none),(17,i6 ((t_1.Rooms.length : Nat) : Int)),(18,i6 y_7)]) (⟨[],[]⟩) (by kernel_rfl) ⟨LGet.of hx_12 rfl,trivial⟩ rfl ?_
      refine Ex.seq ?_
      obtain ⟨r_13,hr_13,h⟩:=bE h
      refine Ex.reg (rn 1 [16,17,18,22] (mkS 26 [(16,.sl (t_1.Rooms.map (AV.int .i64)) none),(17,i6 ((t_1.Rooms.length : Nat) : Int)),(18,i6 y_7),(22,i6 x_12)]) ⟨[],[]⟩ ?_)
      refine ExO.callL [] [i6 x_12,i6 0,i6 1000000] rfl rfl (a_crowd_within x_12 0 1000000) rfl rfl (d_crowd_within N x_12 0 1000000 r_13 hr_13) (b_crowd_within _ _ _ _) rfl ?_
      refine rn 1 [16,17,18,24] (mkS 26 [(16,.sl (t_1.Rooms.map (AV.int .i64)) none),(17,i6 ((t_1.Rooms.length : Nat) : Int)),(18,i6 y_7),(24,.bool (!r_13))]) ⟨[],[]⟩ ?_
      refine ExO.nil ?_
      rcases condI h with ⟨hc_14,h⟩ | ⟨hc_14,h⟩
      ·refine Ex.condT _ rfl hc_14 ?_
       refine Ex.seq (rg 1 [2] (mkS 26 [(2,i6 2)]) ⟨[],[]⟩ ?_)
       refine Ex.ret ?_
       obtain rfl:=sJ h
       exact rt (i6 2)
      ·refine Ex.condF _ rfl hc_14 ?_
       refine Ex.skip ?_
       refine rg 2 [16,17,18] (mkS 26 [(16,.sl (t_1.Rooms.map (AV.int .i64)) none),(17,i6 ((t_1.Rooms.length : Nat) : Int)),(18,i6 (IntKind.i64.wrap (y_7 + 1)))]) ⟨[],[]⟩ ?_
       dsimp only
       exact ⟨_,_,Forgets.refl _ _ _,k,Nat.lt_succ_self k,(IntKind.i64.wrap (y_7 + 1)),h,rfl,rfl⟩
     ·refine Ex.condF _ rfl hc_11 ?_
      refine Ex.exit ?_
      (try simp only [reduceCtorEq,AEx.ex.injEq,Nat.reduceEqDiff,if_true,if_false])
      exact ⟨_,_,forgetK [],h,rfl,rfl⟩
   ·rintro a S ⟨h,rfl,rfl⟩
    subst hK_6
    refine Ex.seq (rg 1 [2] (mkS 26 [(2,i6 0)]) ⟨[],[]⟩ ?_)
    refine Ex.ret ?_
    obtain rfl:=sJ h
    exact rt (i6 0)
def p_crowd_isSquare (N : Nat) (t_1 : T_Town) (n_2 : Int) : Option (Bool):=((p_crowd_within N n_2 0 (IntKind.i64.wrap (((t_1.Rooms.length : Nat) : Int) - 1))).bind fun r_3 => some r_3)
def v_crowd_isSquare (r : Bool) : AV:=.bool r
attribute [local simp] v_crowd_isSquare
theorem a_crowd_isSquare (t_1 : T_Town) (n_2 : Int) : [(A_Town t_1),i6 n_2].mapM (ren []) = some [(A_Town t_1),i6 n_2]:=by simp
theorem b_crowd_isSquare (r : Bool) (n n2 m : Nat) : back n n2 m (v_crowd_isSquare r) = some (v_crowd_isSquare r):=by simp
theorem d_crowd_isSquare (N : Nat) (t_1 : T_Town) (n_2 : Int) (r : Bool) (h : p_crowd_isSquare N t_1 n_2 = some r) : Does Tryd.prog 60 [(A_Town t_1),i6 n_2] [] fun v c => v = v_crowd_isSquare r ∧ c = []:=by
 unfold p_crowd_isSquare at h
 refine Does.ofL comp60 _ _ rfl rfl ?_
 refine Ex.seq (rg 2 [1,2] (mkS 11 [(1,i6 n_2),(2,.ptr 0 0)]) ⟨[(C_Town t_1)],[]⟩ ?_)
 refine Ex.seq ?_
 obtain ⟨r_3,hr_3,h⟩:=bE h
 refine Ex.reg ?_
 refine runH 5 [(3,.eq (i6 ((t_1.Rooms.length : Nat) : Int)))] [5,9] [AV.int .i64 (((t_1.Rooms.map (AV.int .i64)).length : Nat) : Int) = AV.int .i64 ((t_1.Rooms.length : Nat) : Int)] (mkS 11 [(5,i6 n_2),(9,i6 (IntKind.i64.wrap (((t_1.Rooms.length : Nat) : Int) - 1)))]) (⟨[(C_Town t_1)],[]⟩) (by kernel_rfl) ⟨lenM _ _,trivial⟩ ?_
 refine ExO.callL [] [i6 n_2,i6 0,i6 (IntKind.i64.wrap (((t_1.Rooms.length : Nat) : Int) - 1))] rfl rfl (a_crowd_within n_2 0 (IntKind.i64.wrap (((t_1.Rooms.length : Nat) : Int) - 1))) rfl rfl (d_crowd_within N n_2 0 (IntKind.i64.wrap (((t_1.Rooms.length : Nat) : Int) - 1)) r_3 hr_3) (b_crowd_within _ _ _ _) rfl ?_
 refine rn 1 [4] (mkS 11 [(4,.bool r_3)]) ⟨[(C_Town t_1)],[]⟩ ?_
 refine ExO.nil ?_
 refine Ex.ret ?_
 obtain rfl:=sJ h
 exact rt (.bool r_3)
def p_crowd_checkStreets (N : Nat) (t_1 : T_Town) : Option (Int):=(bif (decide (((t_1.Streets.length : Nat) : Int) > 12)) then some 5 else (letJ (fun (_ : Unit) => some 0) (fun k_3 => (loop1 (fun rec_7 (y_6 : Int) => (bif (decide (y_6 < ((t_1.Streets.length : Nat) : Int))) then ((getI t_1.Streets y_6).bind fun x_11 => (letJ (fun (y_12 : Bool) => (bif y_12 then some 7 else (bif (x_11.A == x_11.B) then some 1 else (rec_7 (IntKind.i64.wrap (y_6 + 1)))))) (fun k_13 => ((p_crowd_isSquare N t_1 x_11.A).bind fun r_16 => (bif (!r_16) then (k_13 true) else ((p_crowd_isSquare N t_1 x_11.B).bind fun r_18 => (k_13 (!r_18)))))))) else (k_3 ()))) N 0))))
def v_crowd_checkStreets (r : Int) : AV:=i6 r
attribute [local simp] v_crowd_checkStreets
theorem a_crowd_checkStreets (t_1 : T_Town) : [(A_Town t_1)].mapM (ren []) = some [(A_Town t_1)]:=by simp
theorem b_crowd_checkStreets (r : Int) (n n2 m : Nat) : back n n2 m (v_crowd_checkStreets r) = some (v_crowd_checkStreets r):=by simp
theorem d_crowd_checkStreets (N : Nat) (t_1 : T_Town) (r : Int) (h : p_crowd_checkStreets N t_1 = some r) : Does Tryd.prog 55 [(A_Town t_1)] [] fun v c => v = v_crowd_checkStreets r ∧ c = []:=by
 unfold p_crowd_checkStreets at h
 refine Does.ofL comp55 _ _ rfl rfl ?_
 refine Ex.seq (rg 2 [1] (mkS 36 [(1,.ptr 0 0)]) ⟨[(C_Town t_1)],[]⟩ ?_)
 refine Ex.seq (Ex.seq ?_)
 refine regH 4 [(2,.eq (i6 ((t_1.Streets.length : Nat) : Int)))] [1,8] [AV.int .i64 (((t_1.Streets.map A_Street).length : Nat) : Int) = AV.int .i64 ((t_1.Streets.length : Nat) : Int)] (mkS 36 [(1,.ptr 0 0),(8,.bool (decide (((t_1.Streets.length : Nat) : Int) > 12)))]) (⟨[(C_Town t_1)],[]⟩) (by kernel_rfl) ⟨lenM _ _,trivial⟩ rfl ?_
 rcases condI h with ⟨hc_2,h⟩ | ⟨hc_2,h⟩
 ·refine Ex.condT _ rfl hc_2 ?_
  refine Ex.seq (rg 1 [2] (mkS 36 [(2,i6 5)]) ⟨[(C_Town t_1)],[]⟩ ?_)
  refine Ex.ret ?_
  obtain rfl:=sJ h
  exact rt (i6 5)
 ·refine Ex.condF _ rfl hc_2 ?_
  refine Ex.skip ?_
  refine Ex.seq (Ex.seq ?_)
  refine regH 4 [(2,.eq (i6 ((t_1.Streets.length : Nat) : Int)))] [1,10,11,12] [AV.int .i64 (((t_1.Streets.map A_Street).length : Nat) : Int) = AV.int .i64 ((t_1.Streets.length : Nat) : Int)] (mkS 36 [(1,.ptr 0 0),(10,.sl (t_1.Streets.map A_Street) none),(11,i6 ((t_1.Streets.length : Nat) : Int)),(12,i6 0)]) (⟨[(C_Town t_1)],[]⟩) (by kernel_rfl) ⟨lenM _ _,trivial⟩ rfl ?_
  obtain ⟨K_4,hK_5,h⟩:=letE h
  refine Ex.blockJ (fun a S => K_4 () = some r ∧ a = mkS 36 [] ∧ S = ⟨[],[]⟩) ?_ ?_
  ·obtain ⟨B_8,hB_9,h⟩:=loop1I h
   refine Ex.loopF (fun k a S => ∃ (y_6 : Int),loop1 B_8 k y_6 = some r ∧ a = mkS 36 [(1,.ptr 0 0),(10,.sl (t_1.Streets.map A_Street) none),(11,i6 ((t_1.Streets.length : Nat) : Int)),(12,i6 y_6)] ∧ S = ⟨[(C_Town t_1)],[]⟩) N ⟨_,_,Forgets.refl _ _ _,0,h,rfl,rfl⟩ ?_
   rintro k a S ⟨y_6,h,rfl,rfl⟩
   cases k with
   | zero => exact (loop1Z h).elim
   | succ k =>
    replace h:=loop1S h hB_9
    refine Ex.seq (rg 1 [1,10,11,12,13] (mkS 36 [(1,.ptr 0 0),(10,.sl (t_1.Streets.map A_Street) none),(11,i6 ((t_1.Streets.length : Nat) : Int)),(12,i6 y_6),(13,.bool (decide (y_6 < ((t_1.Streets.length : Nat) : Int))))]) ⟨[(C_Town t_1)],[]⟩ ?_)
    refine Ex.seq ?_
    rcases condI h with ⟨hc_10,h⟩ | ⟨hc_10,h⟩
    ·refine Ex.condT _ rfl hc_10 ?_
     refine Ex.skip ?_
     refine Ex.seq ?_
     refine Ex.blockK ?_
     refine Ex.seq ?_
     obtain ⟨x_11,hx_11,h⟩:=bE h
     refine regH 4 [(0,.rop (C_Street x_11))] [1,4,10,11,12] [LGet (t_1.Streets.map A_Street) y_6 2 (C_Street x_11)] (mkS 36 [(1,.ptr 0 0),(4,.ptr 1 0),(10,.sl (t_1.Streets.map A_Street) none),(11,i6 ((t_1.Streets.length : Nat) : Int)),(12,i6 y_6)]) (⟨[(C_Town t_1),(C_Street x_11)],[]⟩) (by kernel_rfl) ⟨LGet.of hx_11 rfl,trivial⟩ rfl ?_
     refine Ex.blockK ?_
     obtain ⟨K_14,hK_15,h⟩:=letE h
     refine Ex.seqJ (fun a S => ∃ (y_12 : Bool),K_14 y_12 = some r ∧ a = mkS 36 [(1,.ptr 0 0),(4,.ptr 1 0),(10,.sl (t_1.Streets.map A_Street) none),(11,i6 ((t_1.Streets.length : Nat) : Int)),(12,i6 y_6),(16,.bool y_12)] ∧ S = ⟨[(C_Town t_1),(C_Street x_11)],[]⟩) ?_ ?_
     ·obtain ⟨r_16,hr_16,h⟩:=bE h
      refine Ex.reg (rn 3 [1,4,10,11,12,17,19] (mkS 36 [(1,.ptr 0 0),(4,.ptr 1 0),(10,.sl (t_1.Streets.map A_Street) none),(11,i6 ((t_1.Streets.length : Nat) : Int)),(12,i6 y_6),(17,(A_Town t_1)),(19,i6 x_11.A)]) ⟨[(C_Town t_1),(C_Street x_11)],[]⟩ ?_)
      refine ExO.callL [] [(A_Town t_1),i6 x_11.A] rfl rfl (a_crowd_isSquare t_1 x_11.A) rfl rfl (d_crowd_isSquare N t_1 x_11.A r_16 hr_16) (b_crowd_isSquare _ _ _ _) rfl ?_
      rcases condI h with ⟨hc_17,h⟩ | ⟨hc_17,h⟩
      ·refine runH 9 [(1, .eq (.bool true))] [1, 4, 10, 11, 12, 16] [AV.bool (!r_16) = AV.bool true] (mkS 36 [(1, .ptr 0 0), (4, .ptr 1 0), (10, .sl (t_1.Streets.map A_Street) none), (11, i6 ((t_1.Streets.length : Nat) : Int)), (12, i6 y_6), (16, .bool true)]) (⟨[(C_Town t_1), (C_Street x_11)], []⟩) (by kernel_rfl) ⟨congrArg AV.bool hc_17, trivial⟩ ?_
       refine ExO.nil ?_
       (try simp only [reduceCtorEq,AEx.ex.injEq,Nat.reduceEqDiff,if_true,if_false])
       exact ⟨_,_,Forgets.refl _ _ _,true,h,rfl,rfl⟩
      ·obtain ⟨r_18,hr_18,h⟩:=bE h
       refine runH 5 [(1,.eq (.bool false))] [1,4,10,11,12,22,23,25] [AV.bool (!r_16) = AV.bool false] (mkS 36 [(1,.ptr 0 0),(4,.ptr 1 0),(10,.sl (t_1.Streets.map A_Street) none),(11,i6 ((t_1.Streets.length : Nat) : Int)),(12,i6 y_6),(22,.bool false),(23,(A_Town t_1)),(25,i6 x_11.B)]) (⟨[(C_Town t_1),(C_Street x_11)],[]⟩) (by kernel_rfl) ⟨congrArg AV.bool hc_17,trivial⟩ ?_
       refine ExO.callL [] [(A_Town t_1),i6 x_11.B] rfl rfl (a_crowd_isSquare t_1 x_11.B) rfl rfl (d_crowd_isSquare N t_1 x_11.B r_18 hr_18) (b_crowd_isSquare _ _ _ _) rfl ?_
       refine rn 3 [1,4,10,11,12,16] (mkS 36 [(1,.ptr 0 0),(4,.ptr 1 0),(10,.sl (t_1.Streets.map A_Street) none),(11,i6 ((t_1.Streets.length : Nat) : Int)),(12,i6 y_6),(16,.bool (!r_18))]) ⟨[(C_Town t_1),(C_Street x_11)],[]⟩ ?_
       refine ExO.nil ?_
       (try simp only [reduceCtorEq,AEx.ex.injEq,Nat.reduceEqDiff,if_true,if_false])
       exact ⟨_,_,Forgets.refl _ _ _,(!r_18),h,rfl,rfl⟩
     ·rintro a S ⟨y_12,h,rfl,rfl⟩
      subst hK_15
      rcases condI h with ⟨hc_19,h⟩ | ⟨hc_19,h⟩
      ·refine Ex.condT _ rfl hc_19 ?_
       refine Ex.seq (rg 1 [2] (mkS 36 [(2,i6 7)]) ⟨[(C_Town t_1),(C_Street x_11)],[]⟩ ?_)
       refine Ex.ret ?_
       obtain rfl:=sJ h
       exact rt (i6 7)
      ·refine Ex.condF _ rfl hc_19 ?_
       refine Ex.seq (rg 6 [1,10,11,12,29] (mkS 36 [(1,.ptr 0 0),(10,.sl (t_1.Streets.map A_Street) none),(11,i6 ((t_1.Streets.length : Nat) : Int)),(12,i6 y_6),(29,.bool (x_11.A == x_11.B))]) ⟨[(C_Town t_1),(C_Street x_11)],[]⟩ ?_)
       rcases condI h with ⟨hc_20,h⟩ | ⟨hc_20,h⟩
       ·refine Ex.condT _ rfl hc_20 ?_
        refine Ex.seq (rg 1 [2] (mkS 36 [(2,i6 1)]) ⟨[(C_Town t_1),(C_Street x_11)],[]⟩ ?_)
        refine Ex.ret ?_
        obtain rfl:=sJ h
        exact rt (i6 1)
       ·refine Ex.condF _ rfl hc_20 ?_
        refine Ex.skip ?_
        refine rg 2 [1,10,11,12] (mkS 36 [(1,.ptr 0 0),(10,.sl (t_1.Streets.map A_Street) none),(11,i6 ((t_1.Streets.length : Nat) : Int)),(12,i6 (IntKind.i64.wrap (y_6 + 1)))]) ⟨[(C_Town t_1),(C_Street x_11)],[]⟩ ?_
        dsimp only
        exact ⟨_,_,forgetA (m:=36) 1 [] [(1,.ptr 0 0),(10,.sl (t_1.Streets.map A_Street) none),(11,i6 ((t_1.Streets.length : Nat) : Int)),(12,i6 (IntKind.i64.wrap (y_6 + 1)))] [(C_Town t_1)] [] (by simp [setAll]) (by simp) ⟨rfl,(reN (KL_Street _)),rfl,rfl,trivial⟩ (by simp) rfl (by decide),k,Nat.lt_succ_self k,(IntKind.i64.wrap (y_6 + 1)),h,rfl,rfl⟩
    ·refine Ex.condF _ rfl hc_10 ?_
     refine Ex.exit ?_
     (try simp only [reduceCtorEq,AEx.ex.injEq,Nat.reduceEqDiff,if_true,if_false])
     exact ⟨_,_,forgetA (m:=36) 0 [] [] [] [] (by simp [setAll]) (by simp) trivial (by simp) rfl (by decide),h,rfl,rfl⟩
  ·rintro a S ⟨h,rfl,rfl⟩
   subst hK_5
   refine Ex.seq (rg 1 [2] (mkS 36 [(2,i6 0)]) ⟨[],[]⟩ ?_)
   refine Ex.ret ?_
   obtain rfl:=sJ h
   exact rt (i6 0)
def p_crowd_checkSpan (N : Nat) (x_1 : T_Span) (most_2 : Int) : Option (Int):=(letJ (fun (y_3 : Bool) => (bif y_3 then some 2 else (bif (decide (x_1.Lo > x_1.Hi)) then some 9 else some 0))) (fun k_4 => ((p_crowd_within N x_1.Lo 0 most_2).bind fun r_7 => (bif (!r_7) then (k_4 true) else ((p_crowd_within N x_1.Hi 0 most_2).bind fun r_9 => (k_4 (!r_9)))))))
def v_crowd_checkSpan (r : Int) : AV:=i6 r
attribute [local simp] v_crowd_checkSpan
theorem a_crowd_checkSpan (x_1 : T_Span) (most_2 : Int) : [(A_Span x_1),i6 most_2].mapM (ren []) = some [(A_Span x_1),i6 most_2]:=by simp
theorem b_crowd_checkSpan (r : Int) (n n2 m : Nat) : back n n2 m (v_crowd_checkSpan r) = some (v_crowd_checkSpan r):=by simp
theorem d_crowd_checkSpan (N : Nat) (x_1 : T_Span) (most_2 : Int) (r : Int) (h : p_crowd_checkSpan N x_1 most_2 = some r) : Does Tryd.prog 61 [(A_Span x_1),i6 most_2] [] fun v c => v = v_crowd_checkSpan r ∧ c = []:=by
 unfold p_crowd_checkSpan at h
 refine Does.ofL comp61 _ _ rfl rfl ?_
 refine Ex.seq (rg 2 [1,2] (mkS 24 [(1,i6 most_2),(2,.ptr 0 0)]) ⟨[(C_Span x_1)],[]⟩ ?_)
 refine Ex.seq ?_
 refine Ex.blockK ?_
 obtain ⟨K_5,hK_6,h⟩:=letE h
 refine Ex.seqJ (fun a S => ∃ (y_3 : Bool),K_5 y_3 = some r ∧ a = mkS 24 [(2,.ptr 0 0),(5,.bool y_3)] ∧ S = ⟨[(C_Span x_1)],[]⟩) ?_ ?_
 ·obtain ⟨r_7,hr_7,h⟩:=bE h
  refine Ex.reg (rn 3 [1,2,7,8] (mkS 24 [(1,i6 most_2),(2,.ptr 0 0),(7,i6 x_1.Lo),(8,i6 most_2)]) ⟨[(C_Span x_1)],[]⟩ ?_)
  refine ExO.callL [] [i6 x_1.Lo,i6 0,i6 most_2] rfl rfl (a_crowd_within x_1.Lo 0 most_2) rfl rfl (d_crowd_within N x_1.Lo 0 most_2 r_7 hr_7) (b_crowd_within _ _ _ _) rfl ?_
  rcases condI h with ⟨hc_8,h⟩ | ⟨hc_8,h⟩
  ·refine runH 9 [(1, .eq (.bool true))] [2, 5] [AV.bool (!r_7) = AV.bool true] (mkS 24 [(2, .ptr 0 0), (5, .bool true)]) (⟨[(C_Span x_1)], []⟩) (by kernel_rfl) ⟨congrArg AV.bool hc_8, trivial⟩ ?_
   refine ExO.nil ?_
   (try simp only [reduceCtorEq,AEx.ex.injEq,Nat.reduceEqDiff,if_true,if_false])
   exact ⟨_,_,Forgets.refl _ _ _,true,h,rfl,rfl⟩
  ·obtain ⟨r_9,hr_9,h⟩:=bE h
   refine runH 5 [(1,.eq (.bool false))] [2,11,13,14] [AV.bool (!r_7) = AV.bool false] (mkS 24 [(2,.ptr 0 0),(11,.bool false),(13,i6 x_1.Hi),(14,i6 most_2)]) (⟨[(C_Span x_1)],[]⟩) (by kernel_rfl) ⟨congrArg AV.bool hc_8,trivial⟩ ?_
   refine ExO.callL [] [i6 x_1.Hi,i6 0,i6 most_2] rfl rfl (a_crowd_within x_1.Hi 0 most_2) rfl rfl (d_crowd_within N x_1.Hi 0 most_2 r_9 hr_9) (b_crowd_within _ _ _ _) rfl ?_
   refine rn 3 [2,5] (mkS 24 [(2,.ptr 0 0),(5,.bool (!r_9))]) ⟨[(C_Span x_1)],[]⟩ ?_
   refine ExO.nil ?_
   (try simp only [reduceCtorEq,AEx.ex.injEq,Nat.reduceEqDiff,if_true,if_false])
   exact ⟨_,_,Forgets.refl _ _ _,(!r_9),h,rfl,rfl⟩
 ·rintro a S ⟨y_3,h,rfl,rfl⟩
  subst hK_6
  rcases condI h with ⟨hc_10,h⟩ | ⟨hc_10,h⟩
  ·refine Ex.condT _ rfl hc_10 ?_
   refine Ex.seq (rg 1 [4] (mkS 24 [(4,i6 2)]) ⟨[(C_Span x_1)],[]⟩ ?_)
   refine Ex.ret ?_
   obtain rfl:=sJ h
   exact rt (i6 2)
  ·refine Ex.condF _ rfl hc_10 ?_
   refine Ex.seq (rg 6 [18] (mkS 24 [(18,.bool (decide (x_1.Lo > x_1.Hi)))]) ⟨[(C_Span x_1)],[]⟩ ?_)
   rcases condI h with ⟨hc_11,h⟩ | ⟨hc_11,h⟩
   ·refine Ex.condT _ rfl hc_11 ?_
    refine Ex.seq (rg 1 [4] (mkS 24 [(4,i6 9)]) ⟨[(C_Span x_1)],[]⟩ ?_)
    refine Ex.ret ?_
    obtain rfl:=sJ h
    exact rt (i6 9)
   ·refine Ex.condF _ rfl hc_11 ?_
    refine Ex.skip ?_
    refine Ex.seq (rg 1 [4] (mkS 24 [(4,i6 0)]) ⟨[(C_Span x_1)],[]⟩ ?_)
    refine Ex.ret ?_
    obtain rfl:=sJ h
    exact rt (i6 0)
def p_crowd_isStreet (N : Nat) (t_1 : T_Town) (n_2 : Int) : Option (Bool):=((p_crowd_within N n_2 0 (IntKind.i64.wrap (((t_1.Streets.length : Nat) : Int) - 1))).bind fun r_3 => some r_3)
def v_crowd_isStreet (r : Bool) : AV:=.bool r
attribute [local simp] v_crowd_isStreet
theorem a_crowd_isStreet (t_1 : T_Town) (n_2 : Int) : [(A_Town t_1),i6 n_2].mapM (ren []) = some [(A_Town t_1),i6 n_2]:=by simp
theorem b_crowd_isStreet (r : Bool) (n n2 m : Nat) : back n n2 m (v_crowd_isStreet r) = some (v_crowd_isStreet r):=by simp
theorem d_crowd_isStreet (N : Nat) (t_1 : T_Town) (n_2 : Int) (r : Bool) (h : p_crowd_isStreet N t_1 n_2 = some r) : Does Tryd.prog 65 [(A_Town t_1),i6 n_2] [] fun v c => v = v_crowd_isStreet r ∧ c = []:=by
 unfold p_crowd_isStreet at h
 refine Does.ofL comp65 _ _ rfl rfl ?_
 refine Ex.seq (rg 2 [1,2] (mkS 11 [(1,i6 n_2),(2,.ptr 0 0)]) ⟨[(C_Town t_1)],[]⟩ ?_)
 refine Ex.seq ?_
 obtain ⟨r_3,hr_3,h⟩:=bE h
 refine Ex.reg ?_
 refine runH 5 [(3,.eq (i6 ((t_1.Streets.length : Nat) : Int)))] [5,9] [AV.int .i64 (((t_1.Streets.map A_Street).length : Nat) : Int) = AV.int .i64 ((t_1.Streets.length : Nat) : Int)] (mkS 11 [(5,i6 n_2),(9,i6 (IntKind.i64.wrap (((t_1.Streets.length : Nat) : Int) - 1)))]) (⟨[(C_Town t_1)],[]⟩) (by kernel_rfl) ⟨lenM _ _,trivial⟩ ?_
 refine ExO.callL [] [i6 n_2,i6 0,i6 (IntKind.i64.wrap (((t_1.Streets.length : Nat) : Int) - 1))] rfl rfl (a_crowd_within n_2 0 (IntKind.i64.wrap (((t_1.Streets.length : Nat) : Int) - 1))) rfl rfl (d_crowd_within N n_2 0 (IntKind.i64.wrap (((t_1.Streets.length : Nat) : Int) - 1)) r_3 hr_3) (b_crowd_within _ _ _ _) rfl ?_
 refine rn 1 [4] (mkS 11 [(4,.bool r_3)]) ⟨[(C_Town t_1)],[]⟩ ?_
 refine ExO.nil ?_
 refine Ex.ret ?_
 obtain rfl:=sJ h
 exact rt (.bool r_3)
def p_crowd_otherEnd (N : Nat) (x_1 : T_Street) (square_2 : Int) : Option (Int):=(bif (x_1.A == square_2) then some x_1.B else some x_1.A)
def v_crowd_otherEnd (r : Int) : AV:=i6 r
attribute [local simp] v_crowd_otherEnd
theorem a_crowd_otherEnd (x_1 : T_Street) (square_2 : Int) : [(A_Street x_1),i6 square_2].mapM (ren []) = some [(A_Street x_1),i6 square_2]:=by simp
theorem b_crowd_otherEnd (r : Int) (n n2 m : Nat) : back n n2 m (v_crowd_otherEnd r) = some (v_crowd_otherEnd r):=by simp
theorem d_crowd_otherEnd (N : Nat) (x_1 : T_Street) (square_2 : Int) (r : Int) (h : p_crowd_otherEnd N x_1 square_2 = some r) : Does Tryd.prog 66 [(A_Street x_1),i6 square_2] [] fun v c => v = v_crowd_otherEnd r ∧ c = []:=by
 unfold p_crowd_otherEnd at h
 refine Does.ofL comp66 _ _ rfl rfl ?_
 refine Ex.seq (rg 2 [1,2] (mkS 13 [(1,i6 square_2),(2,.ptr 0 0)]) ⟨[(C_Street x_1)],[]⟩ ?_)
 refine Ex.seq (Ex.seq ?_)
 refine rg 4 [2,8] (mkS 13 [(2,.ptr 0 0),(8,.bool (x_1.A == square_2))]) ⟨[(C_Street x_1)],[]⟩ ?_
 rcases condI h with ⟨hc_3,h⟩ | ⟨hc_3,h⟩
 ·refine Ex.condT _ rfl hc_3 ?_
  refine Ex.seq (rg 3 [4] (mkS 13 [(4,i6 x_1.B)]) ⟨[(C_Street x_1)],[]⟩ ?_)
  refine Ex.ret ?_
  obtain rfl:=sJ h
  exact rt (i6 x_1.B)
 ·refine Ex.condF _ rfl hc_3 ?_
  refine Ex.skip ?_
  refine Ex.seq (rg 3 [4] (mkS 13 [(4,i6 x_1.A)]) ⟨[(C_Street x_1)],[]⟩ ?_)
  refine Ex.ret ?_
  obtain rfl:=sJ h
  exact rt (i6 x_1.A)
def p_crowd_checkPath (N : Nat) (t_1 : T_Town) (g_2 : T_Group) : Option (Int):=(bif (decide (((g_2.Path.length : Nat) : Int) > 12)) then some 5 else (letJ (fun (_ : Unit) => some 0) (fun k_4 => (loop2 (fun rec_9 (square_7 : Int) (y_8 : Int) => (bif (decide (y_8 < ((g_2.Path.length : Nat) : Int))) then ((getI g_2.Path y_8).bind fun x_13 => ((p_crowd_isStreet N t_1 x_13).bind fun r_14 => (bif (!r_14) then some 7 else ((getI t_1.Streets x_13).bind fun x_16 => (letJ (fun (y_17 : Bool) => (bif y_17 then some 1 else ((p_crowd_otherEnd N x_16 square_7).bind fun r_23 => (rec_9 r_23 (IntKind.i64.wrap (y_8 + 1)))))) (fun k_18 => (bif (x_16.A != square_7) then (k_18 (x_16.B != square_7)) else (k_18 false)))))))) else (k_4 ()))) N g_2.First 0))))
def v_crowd_checkPath (r : Int) : AV:=i6 r
attribute [local simp] v_crowd_checkPath
theorem a_crowd_checkPath (t_1 : T_Town) (g_2 : T_Group) : [(A_Town t_1),(A_Group g_2)].mapM (ren []) = some [(A_Town t_1),(A_Group g_2)]:=by simp
theorem b_crowd_checkPath (r : Int) (n n2 m : Nat) : back n n2 m (v_crowd_checkPath r) = some (v_crowd_checkPath r):=by simp
theorem d_crowd_checkPath (N : Nat) (t_1 : T_Town) (g_2 : T_Group) (r : Int) (h : p_crowd_checkPath N t_1 g_2 = some r) : Does Tryd.prog 62 [(A_Town t_1),(A_Group g_2)] [] fun v c => v = v_crowd_checkPath r ∧ c = []:=by
 unfold p_crowd_checkPath at h
 refine Does.ofL comp62 _ _ rfl rfl ?_
 refine Ex.seq (rg 3 [2,3] (mkS 45 [(2,.ptr 0 0),(3,.ptr 1 0)]) ⟨[(C_Town t_1),(C_Group g_2)],[]⟩ ?_)
 refine Ex.seq (Ex.seq ?_)
 refine regH 4 [(2,.eq (i6 ((g_2.Path.length : Nat) : Int)))] [2,3,12] [AV.int .i64 (((g_2.Path.map (AV.int .i64)).length : Nat) : Int) = AV.int .i64 ((g_2.Path.length : Nat) : Int)] (mkS 45 [(2,.ptr 0 0),(3,.ptr 1 0),(12,.bool (decide (((g_2.Path.length : Nat) : Int) > 12)))]) (⟨[(C_Town t_1),(C_Group g_2)],[]⟩) (by kernel_rfl) ⟨lenM _ _,trivial⟩ rfl ?_
 rcases condI h with ⟨hc_3,h⟩ | ⟨hc_3,h⟩
 ·refine Ex.condT _ rfl hc_3 ?_
  refine Ex.seq (rg 1 [4] (mkS 45 [(4,i6 5)]) ⟨[(C_Town t_1),(C_Group g_2)],[]⟩ ?_)
  refine Ex.ret ?_
  obtain rfl:=sJ h
  exact rt (i6 5)
 ·refine Ex.condF _ rfl hc_3 ?_
  refine Ex.skip ?_
  refine Ex.seq (rg 3 [2,3,5] (mkS 45 [(2,.ptr 0 0),(3,.ptr 1 0),(5,i6 g_2.First)]) ⟨[(C_Town t_1),(C_Group g_2)],[]⟩ ?_)
  refine Ex.seq (Ex.seq ?_)
  refine regH 4 [(2,.eq (i6 ((g_2.Path.length : Nat) : Int)))] [2,5,16,17,18] [AV.int .i64 (((g_2.Path.map (AV.int .i64)).length : Nat) : Int) = AV.int .i64 ((g_2.Path.length : Nat) : Int)] (mkS 45 [(2,.ptr 0 0),(5,i6 g_2.First),(16,.sl (g_2.Path.map (AV.int .i64)) none),(17,i6 ((g_2.Path.length : Nat) : Int)),(18,i6 0)]) (⟨[(C_Town t_1),(C_Group g_2)],[]⟩) (by kernel_rfl) ⟨lenM _ _,trivial⟩ rfl ?_
  obtain ⟨K_5,hK_6,h⟩:=letE h
  refine Ex.blockJ (fun a S => K_5 () = some r ∧ a = mkS 45 [] ∧ S = ⟨[],[]⟩) ?_ ?_
  ·obtain ⟨B_10,hB_11,h⟩:=loop2I h
   refine Ex.loopF (fun k a S => ∃ (square_7 : Int),∃ (y_8 : Int),loop2 B_10 k square_7 y_8 = some r ∧ a = mkS 45 [(2,.ptr 0 0),(5,i6 square_7),(16,.sl (g_2.Path.map (AV.int .i64)) none),(17,i6 ((g_2.Path.length : Nat) : Int)),(18,i6 y_8)] ∧ S = ⟨[(C_Town t_1)],[]⟩) N ⟨_,_,forgetA (m:=45) 1 [] [(2,.ptr 0 0),(5,i6 g_2.First),(16,.sl (g_2.Path.map (AV.int .i64)) none),(17,i6 ((g_2.Path.length : Nat) : Int)),(18,i6 0)] [(C_Town t_1)] [] (by simp [setAll]) (by simp) ⟨rfl,rfl,(reN (cleanI _ _)),rfl,rfl,trivial⟩ (by simp) rfl (by decide),g_2.First,0,h,rfl,rfl⟩ ?_
   rintro k a S ⟨square_7,y_8,h,rfl,rfl⟩
   cases k with
   | zero => exact (loop2Z h).elim
   | succ k =>
    replace h:=loop2S h hB_11
    refine Ex.seq (rg 1 [2,5,16,17,18,19] (mkS 45 [(2,.ptr 0 0),(5,i6 square_7),(16,.sl (g_2.Path.map (AV.int .i64)) none),(17,i6 ((g_2.Path.length : Nat) : Int)),(18,i6 y_8),(19,.bool (decide (y_8 < ((g_2.Path.length : Nat) : Int))))]) ⟨[(C_Town t_1)],[]⟩ ?_)
    refine Ex.seq ?_
    rcases condI h with ⟨hc_12,h⟩ | ⟨hc_12,h⟩
    ·refine Ex.condT _ rfl hc_12 ?_
     refine Ex.skip ?_
     refine Ex.seq ?_
     refine Ex.blockK ?_
     refine Ex.seq ?_
     obtain ⟨x_13,hx_13,h⟩:=bE h
     refine regH 3 [(0,.rop [i6 x_13])] [2,5,7,16,17,18] [LGet (g_2.Path.map (AV.int .i64)) y_8 1 [i6 x_13]] (mkS 45 [(2,.ptr 0 0),(5,i6 square_7),(7,i6 x_13),(16,.sl (g_2.Path.map (AV.int .i64)) none),(17,i6 ((g_2.Path.length : Nat) : Int)),(18,i6 y_8)]) (⟨[(C_Town t_1)],[]⟩) (by kernel_rfl) ⟨LGet.of hx_13 rfl,trivial⟩ rfl ?_
     refine Ex.seq (Ex.seq ?_)
     obtain ⟨r_14,hr_14,h⟩:=bE h
     refine Ex.reg (rn 2 [2,5,7,16,17,18,22,23] (mkS 45 [(2,.ptr 0 0),(5,i6 square_7),(7,i6 x_13),(16,.sl (g_2.Path.map (AV.int .i64)) none),(17,i6 ((g_2.Path.length : Nat) : Int)),(18,i6 y_8),(22,(A_Town t_1)),(23,i6 x_13)]) ⟨[(C_Town t_1)],[]⟩ ?_)
     refine ExO.callL [] [(A_Town t_1),i6 x_13] rfl rfl (a_crowd_isStreet t_1 x_13) rfl rfl (d_crowd_isStreet N t_1 x_13 r_14 hr_14) (b_crowd_isStreet _ _ _ _) rfl ?_
     refine rn 1 [2,5,7,16,17,18,25] (mkS 45 [(2,.ptr 0 0),(5,i6 square_7),(7,i6 x_13),(16,.sl (g_2.Path.map (AV.int .i64)) none),(17,i6 ((g_2.Path.length : Nat) : Int)),(18,i6 y_8),(25,.bool (!r_14))]) ⟨[(C_Town t_1)],[]⟩ ?_
     refine ExO.nil ?_
     rcases condI h with ⟨hc_15,h⟩ | ⟨hc_15,h⟩
     ·refine Ex.condT _ rfl hc_15 ?_
      refine Ex.seq (rg 1 [4] (mkS 45 [(4,i6 7)]) ⟨[(C_Town t_1)],[]⟩ ?_)
      refine Ex.ret ?_
      obtain rfl:=sJ h
      exact rt (i6 7)
     ·refine Ex.condF _ rfl hc_15 ?_
      refine Ex.skip ?_
      refine Ex.seq ?_
      obtain ⟨x_16,hx_16,h⟩:=bE h
      refine regH 7 [(3,.rop (C_Street x_16))] [2,5,8,16,17,18] [LGet (t_1.Streets.map A_Street) x_13 2 (C_Street x_16)] (mkS 45 [(2,.ptr 0 0),(5,i6 square_7),(8,.ptr 1 0),(16,.sl (g_2.Path.map (AV.int .i64)) none),(17,i6 ((g_2.Path.length : Nat) : Int)),(18,i6 y_8)]) (⟨[(C_Town t_1),(C_Street x_16)],[]⟩) (by kernel_rfl) ⟨LGet.of hx_16 rfl,trivial⟩ rfl ?_
      refine Ex.seq ?_
      obtain ⟨K_19,hK_20,h⟩:=letE h
      refine Ex.seqJ (fun a S => ∃ (y_17 : Bool),K_19 y_17 = some r ∧ a = mkS 45 [(2,.ptr 0 0),(5,i6 square_7),(8,.ptr 1 0),(16,.sl (g_2.Path.map (AV.int .i64)) none),(17,i6 ((g_2.Path.length : Nat) : Int)),(18,i6 y_8),(40,.bool y_17)] ∧ S = ⟨[(C_Town t_1),(C_Street x_16)],[]⟩) ?_ ?_
      ·rcases condI h with ⟨hc_21,h⟩ | ⟨hc_21,h⟩
       ·refine regH 10 [(4, .eq (.bool true))] [2, 5, 8, 16, 17, 18, 40] [AV.bool (x_16.A != square_7) = AV.bool true] (mkS 45 [(2, .ptr 0 0), (5, i6 square_7), (8, .ptr 1 0), (16, .sl (g_2.Path.map (AV.int .i64)) none), (17, i6 ((g_2.Path.length : Nat) : Int)), (18, i6 y_8), (40, .bool (x_16.B != square_7))]) (⟨[(C_Town t_1), (C_Street x_16)], []⟩) (by kernel_rfl) ⟨congrArg AV.bool hc_21, trivial⟩ rfl ?_
        (try simp only [reduceCtorEq,AEx.ex.injEq,Nat.reduceEqDiff,if_true,if_false])
        exact ⟨_,_,Forgets.refl _ _ _,(x_16.B != square_7),h,rfl,rfl⟩
       ·refine regH 10 [(4, .eq (.bool false))] [2, 5, 8, 16, 17, 18, 40] [AV.bool (x_16.A != square_7) = AV.bool false] (mkS 45 [(2, .ptr 0 0), (5, i6 square_7), (8, .ptr 1 0), (16, .sl (g_2.Path.map (AV.int .i64)) none), (17, i6 ((g_2.Path.length : Nat) : Int)), (18, i6 y_8), (40, .bool false)]) (⟨[(C_Town t_1), (C_Street x_16)], []⟩) (by kernel_rfl) ⟨congrArg AV.bool hc_21, trivial⟩ rfl ?_
        (try simp only [reduceCtorEq,AEx.ex.injEq,Nat.reduceEqDiff,if_true,if_false])
        exact ⟨_,_,Forgets.refl _ _ _,false,h,rfl,rfl⟩
      ·rintro a S ⟨y_17,h,rfl,rfl⟩
       subst hK_20
       rcases condI h with ⟨hc_22,h⟩ | ⟨hc_22,h⟩
       ·refine Ex.condT _ rfl hc_22 ?_
        refine Ex.seq (rg 1 [4] (mkS 45 [(4,i6 1)]) ⟨[(C_Town t_1),(C_Street x_16)],[]⟩ ?_)
        refine Ex.ret ?_
        obtain rfl:=sJ h
        exact rt (i6 1)
       ·refine Ex.condF _ rfl hc_22 ?_
        refine Ex.skip ?_
        obtain ⟨r_23,hr_23,h⟩:=bE h
        refine Ex.reg (rn 2 [2,16,17,18,41,42] (mkS 45 [(2,.ptr 0 0),(16,.sl (g_2.Path.map (AV.int .i64)) none),(17,i6 ((g_2.Path.length : Nat) : Int)),(18,i6 y_8),(41,(A_Street x_16)),(42,i6 square_7)]) ⟨[(C_Town t_1),(C_Street x_16)],[]⟩ ?_)
        refine ExO.callL [] [(A_Street x_16),i6 square_7] rfl rfl (a_crowd_otherEnd x_16 square_7) rfl rfl (d_crowd_otherEnd N x_16 square_7 r_23 hr_23) (b_crowd_otherEnd _ _ _ _) rfl ?_
        refine rn 1 [2,5,16,17,18] (mkS 45 [(2,.ptr 0 0),(5,i6 r_23),(16,.sl (g_2.Path.map (AV.int .i64)) none),(17,i6 ((g_2.Path.length : Nat) : Int)),(18,i6 y_8)]) ⟨[(C_Town t_1),(C_Street x_16)],[]⟩ ?_
        refine ExO.nil ?_
        refine rg 2 [2,5,16,17,18] (mkS 45 [(2,.ptr 0 0),(5,i6 r_23),(16,.sl (g_2.Path.map (AV.int .i64)) none),(17,i6 ((g_2.Path.length : Nat) : Int)),(18,i6 (IntKind.i64.wrap (y_8 + 1)))]) ⟨[(C_Town t_1),(C_Street x_16)],[]⟩ ?_
        dsimp only
        exact ⟨_,_,forgetA (m:=45) 1 [] [(2,.ptr 0 0),(5,i6 r_23),(16,.sl (g_2.Path.map (AV.int .i64)) none),(17,i6 ((g_2.Path.length : Nat) : Int)),(18,i6 (IntKind.i64.wrap (y_8 + 1)))] [(C_Town t_1)] [] (by simp [setAll]) (by simp) ⟨rfl,rfl,(reN (cleanI _ _)),rfl,rfl,trivial⟩ (by simp) rfl (by decide),k,Nat.lt_succ_self k,r_23,(IntKind.i64.wrap (y_8 + 1)),h,rfl,rfl⟩
    ·refine Ex.condF _ rfl hc_12 ?_
     refine Ex.exit ?_
     (try simp only [reduceCtorEq,AEx.ex.injEq,Nat.reduceEqDiff,if_true,if_false])
     exact ⟨_,_,forgetA (m:=45) 0 [] [] [] [] (by simp [setAll]) (by simp) trivial (by simp) rfl (by decide),h,rfl,rfl⟩
  ·rintro a S ⟨h,rfl,rfl⟩
   subst hK_6
   refine Ex.seq (rg 1 [4] (mkS 45 [(4,i6 0)]) ⟨[],[]⟩ ?_)
   refine Ex.ret ?_
   obtain rfl:=sJ h
   exact rt (i6 0)
def p_crowd_checkGroup (N : Nat) (t_1 : T_Town) (g_2 : T_Group) : Option (Int):=((p_crowd_checkSpan N g_2.Size 1000000).bind fun r_3 => (bif (r_3 != 0) then some r_3 else ((p_crowd_checkSpan N g_2.At 96).bind fun r_5 => (bif (r_5 != 0) then some r_5 else ((p_crowd_within N g_2.Stay 1 96).bind fun r_7 => (bif (!r_7) then some 2 else ((p_crowd_isSquare N t_1 g_2.First).bind fun r_9 => (bif (!r_9) then some 7 else ((p_crowd_checkPath N t_1 g_2).bind fun r_11 => some r_11)))))))))
def v_crowd_checkGroup (r : Int) : AV:=i6 r
attribute [local simp] v_crowd_checkGroup
theorem a_crowd_checkGroup (t_1 : T_Town) (g_2 : T_Group) : [(A_Town t_1),(A_Group g_2)].mapM (ren []) = some [(A_Town t_1),(A_Group g_2)]:=by simp
theorem b_crowd_checkGroup (r : Int) (n n2 m : Nat) : back n n2 m (v_crowd_checkGroup r) = some (v_crowd_checkGroup r):=by simp
theorem d_crowd_checkGroup (N : Nat) (t_1 : T_Town) (g_2 : T_Group) (r : Int) (h : p_crowd_checkGroup N t_1 g_2 = some r) : Does Tryd.prog 57 [(A_Town t_1),(A_Group g_2)] [] fun v c => v = v_crowd_checkGroup r ∧ c = []:=by
 unfold p_crowd_checkGroup at h
 refine Does.ofL comp57 _ _ rfl rfl ?_
 refine Ex.seq (rg 3 [2,3] (mkS 33 [(2,.ptr 0 0),(3,.ptr 1 0)]) ⟨[(C_Town t_1),(C_Group g_2)],[]⟩ ?_)
 refine Ex.seq (Ex.seq ?_)
 obtain ⟨r_3,hr_3,h⟩:=bE h
 refine Ex.reg (rn 2 [2,3,8] (mkS 33 [(2,.ptr 0 0),(3,.ptr 1 0),(8,(A_Span g_2.Size))]) ⟨[(C_Town t_1),(C_Group g_2)],[]⟩ ?_)
 refine ExO.callL [] [(A_Span g_2.Size),i6 1000000] rfl rfl (a_crowd_checkSpan g_2.Size 1000000) rfl rfl (d_crowd_checkSpan N g_2.Size 1000000 r_3 hr_3) (b_crowd_checkSpan _ _ _ _) rfl ?_
 refine rn 1 [2,3,5] (mkS 33 [(2,.ptr 0 0),(3,.ptr 1 0),(5,i6 r_3)]) ⟨[(C_Town t_1),(C_Group g_2)],[]⟩ ?_
 refine ExO.nil ?_
 refine Ex.seq (rg 2 [2,3,5,11] (mkS 33 [(2,.ptr 0 0),(3,.ptr 1 0),(5,i6 r_3),(11,.bool (r_3 != 0))]) ⟨[(C_Town t_1),(C_Group g_2)],[]⟩ ?_)
 rcases condI h with ⟨hc_4,h⟩ | ⟨hc_4,h⟩
 ·refine Ex.condT _ rfl hc_4 ?_
  refine Ex.seq (rg 2 [4] (mkS 33 [(4,i6 r_3)]) ⟨[(C_Town t_1),(C_Group g_2)],[]⟩ ?_)
  refine Ex.ret ?_
  obtain rfl:=sJ h
  exact rt (i6 r_3)
 ·refine Ex.condF _ rfl hc_4 ?_
  refine Ex.skip ?_
  refine Ex.seq (Ex.seq ?_)
  obtain ⟨r_5,hr_5,h⟩:=bE h
  refine Ex.reg (rn 2 [2,3,14] (mkS 33 [(2,.ptr 0 0),(3,.ptr 1 0),(14,(A_Span g_2.At))]) ⟨[(C_Town t_1),(C_Group g_2)],[]⟩ ?_)
  refine ExO.callL [] [(A_Span g_2.At),i6 96] rfl rfl (a_crowd_checkSpan g_2.At 96) rfl rfl (d_crowd_checkSpan N g_2.At 96 r_5 hr_5) (b_crowd_checkSpan _ _ _ _) rfl ?_
  refine rn 1 [2,3,6] (mkS 33 [(2,.ptr 0 0),(3,.ptr 1 0),(6,i6 r_5)]) ⟨[(C_Town t_1),(C_Group g_2)],[]⟩ ?_
  refine ExO.nil ?_
  refine Ex.seq (rg 2 [2,3,6,17] (mkS 33 [(2,.ptr 0 0),(3,.ptr 1 0),(6,i6 r_5),(17,.bool (r_5 != 0))]) ⟨[(C_Town t_1),(C_Group g_2)],[]⟩ ?_)
  rcases condI h with ⟨hc_6,h⟩ | ⟨hc_6,h⟩
  ·refine Ex.condT _ rfl hc_6 ?_
   refine Ex.seq (rg 2 [4] (mkS 33 [(4,i6 r_5)]) ⟨[(C_Town t_1),(C_Group g_2)],[]⟩ ?_)
   refine Ex.ret ?_
   obtain rfl:=sJ h
   exact rt (i6 r_5)
  ·refine Ex.condF _ rfl hc_6 ?_
   refine Ex.skip ?_
   refine Ex.seq ?_
   refine Ex.blockK ?_
   refine Ex.seq ?_
   obtain ⟨r_7,hr_7,h⟩:=bE h
   refine Ex.reg (rn 2 [2,3,21] (mkS 33 [(2,.ptr 0 0),(3,.ptr 1 0),(21,i6 g_2.Stay)]) ⟨[(C_Town t_1),(C_Group g_2)],[]⟩ ?_)
   refine ExO.callL [] [i6 g_2.Stay,i6 1,i6 96] rfl rfl (a_crowd_within g_2.Stay 1 96) rfl rfl (d_crowd_within N g_2.Stay 1 96 r_7 hr_7) (b_crowd_within _ _ _ _) rfl ?_
   refine rn 2 [2,3,19] (mkS 33 [(2,.ptr 0 0),(3,.ptr 1 0),(19,.bool (!r_7))]) ⟨[(C_Town t_1),(C_Group g_2)],[]⟩ ?_
   refine ExO.nil ?_
   rcases condI h with ⟨hc_8,h⟩ | ⟨hc_8,h⟩
   ·refine Ex.condT _ rfl hc_8 ?_
    refine Ex.seq (rg 1 [4] (mkS 33 [(4,i6 2)]) ⟨[(C_Town t_1),(C_Group g_2)],[]⟩ ?_)
    refine Ex.ret ?_
    obtain rfl:=sJ h
    exact rt (i6 2)
   ·refine Ex.condF _ rfl hc_8 ?_
    refine Ex.seq ?_
    obtain ⟨r_9,hr_9,h⟩:=bE h
    refine Ex.reg (rn 3 [2,3,25,27] (mkS 33 [(2,.ptr 0 0),(3,.ptr 1 0),(25,(A_Town t_1)),(27,i6 g_2.First)]) ⟨[(C_Town t_1),(C_Group g_2)],[]⟩ ?_)
    refine ExO.callL [] [(A_Town t_1),i6 g_2.First] rfl rfl (a_crowd_isSquare t_1 g_2.First) rfl rfl (d_crowd_isSquare N t_1 g_2.First r_9 hr_9) (b_crowd_isSquare _ _ _ _) rfl ?_
    refine rn 2 [2,3,24] (mkS 33 [(2,.ptr 0 0),(3,.ptr 1 0),(24,.bool (!r_9))]) ⟨[(C_Town t_1),(C_Group g_2)],[]⟩ ?_
    refine ExO.nil ?_
    rcases condI h with ⟨hc_10,h⟩ | ⟨hc_10,h⟩
    ·refine Ex.condT _ rfl hc_10 ?_
     refine Ex.seq (rg 1 [4] (mkS 33 [(4,i6 7)]) ⟨[(C_Town t_1),(C_Group g_2)],[]⟩ ?_)
     refine Ex.ret ?_
     obtain rfl:=sJ h
     exact rt (i6 7)
    ·refine Ex.condF _ rfl hc_10 ?_
     refine Ex.skip ?_
     refine Ex.seq ?_
     obtain ⟨r_11,hr_11,h⟩:=bE h
     refine Ex.reg (rn 2 [30,31] (mkS 33 [(30,(A_Town t_1)),(31,(A_Group g_2))]) ⟨[(C_Town t_1),(C_Group g_2)],[]⟩ ?_)
     refine ExO.callL [] [(A_Town t_1),(A_Group g_2)] rfl rfl (a_crowd_checkPath t_1 g_2) rfl rfl (d_crowd_checkPath N t_1 g_2 r_11 hr_11) (b_crowd_checkPath _ _ _ _) rfl ?_
     refine rn 1 [4] (mkS 33 [(4,i6 r_11)]) ⟨[(C_Town t_1),(C_Group g_2)],[]⟩ ?_
     refine ExO.nil ?_
     refine Ex.ret ?_
     obtain rfl:=sJ h
     exact rt (i6 r_11)
def p_crowd_Check (N : Nat) (t_1 : T_Town) : Option (Int):=((p_crowd_checkSquares N t_1).bind fun r_2 => (bif (r_2 != 0) then some r_2 else ((p_crowd_checkStreets N t_1).bind fun r_4 => (bif (r_4 != 0) then some r_4 else ((p_crowd_within N t_1.Steps 0 96).bind fun r_6 => (bif (!r_6) then some 2 else (bif (decide (((t_1.Groups.length : Nat) : Int) > 12)) then some 5 else (letJ (fun (_ : Unit) => some 0) (fun k_9 => (loop1 (fun rec_13 (y_12 : Int) => (bif (decide (y_12 < ((t_1.Groups.length : Nat) : Int))) then ((getI t_1.Groups y_12).bind fun x_17 => ((p_crowd_checkGroup N t_1 x_17).bind fun r_18 => (bif (r_18 != 0) then some r_18 else (rec_13 (IntKind.i64.wrap (y_12 + 1)))))) else (k_9 ()))) N 0))))))))))
def v_crowd_Check (r : Int) : AV:=i6 r
attribute [local simp] v_crowd_Check
theorem a_crowd_Check (t_1 : T_Town) : [(A_Town t_1)].mapM (ren []) = some [(A_Town t_1)]:=by simp
theorem b_crowd_Check (r : Int) (n n2 m : Nat) : back n n2 m (v_crowd_Check r) = some (v_crowd_Check r):=by simp
theorem d_crowd_Check (N : Nat) (t_1 : T_Town) (r : Int) (h : p_crowd_Check N t_1 = some r) : Does Tryd.prog 44 [(A_Town t_1)] [] fun v c => v = v_crowd_Check r ∧ c = []:=by
 unfold p_crowd_Check at h
 refine Does.ofL comp44 _ _ rfl rfl ?_
 refine Ex.seq (rg 2 [1] (mkS 42 [(1,.ptr 0 0)]) ⟨[(C_Town t_1)],[]⟩ ?_)
 refine Ex.seq (Ex.seq ?_)
 obtain ⟨r_2,hr_2,h⟩:=bE h
 refine Ex.reg (rn 1 [1,8] (mkS 42 [(1,.ptr 0 0),(8,(A_Town t_1))]) ⟨[(C_Town t_1)],[]⟩ ?_)
 refine ExO.callL [] [(A_Town t_1)] rfl rfl (a_crowd_checkSquares t_1) rfl rfl (d_crowd_checkSquares N t_1 r_2 hr_2) (b_crowd_checkSquares _ _ _ _) rfl ?_
 refine rn 1 [1,3] (mkS 42 [(1,.ptr 0 0),(3,i6 r_2)]) ⟨[(C_Town t_1)],[]⟩ ?_
 refine ExO.nil ?_
 refine Ex.seq (rg 2 [1,3,11] (mkS 42 [(1,.ptr 0 0),(3,i6 r_2),(11,.bool (r_2 != 0))]) ⟨[(C_Town t_1)],[]⟩ ?_)
 rcases condI h with ⟨hc_3,h⟩ | ⟨hc_3,h⟩
 ·refine Ex.condT _ rfl hc_3 ?_
  refine Ex.seq (rg 2 [2] (mkS 42 [(2,i6 r_2)]) ⟨[(C_Town t_1)],[]⟩ ?_)
  refine Ex.ret ?_
  obtain rfl:=sJ h
  exact rt (i6 r_2)
 ·refine Ex.condF _ rfl hc_3 ?_
  refine Ex.skip ?_
  refine Ex.seq (Ex.seq ?_)
  obtain ⟨r_4,hr_4,h⟩:=bE h
  refine Ex.reg (rn 1 [1,13] (mkS 42 [(1,.ptr 0 0),(13,(A_Town t_1))]) ⟨[(C_Town t_1)],[]⟩ ?_)
  refine ExO.callL [] [(A_Town t_1)] rfl rfl (a_crowd_checkStreets t_1) rfl rfl (d_crowd_checkStreets N t_1 r_4 hr_4) (b_crowd_checkStreets _ _ _ _) rfl ?_
  refine rn 1 [1,4] (mkS 42 [(1,.ptr 0 0),(4,i6 r_4)]) ⟨[(C_Town t_1)],[]⟩ ?_
  refine ExO.nil ?_
  refine Ex.seq (rg 2 [1,4,16] (mkS 42 [(1,.ptr 0 0),(4,i6 r_4),(16,.bool (r_4 != 0))]) ⟨[(C_Town t_1)],[]⟩ ?_)
  rcases condI h with ⟨hc_5,h⟩ | ⟨hc_5,h⟩
  ·refine Ex.condT _ rfl hc_5 ?_
   refine Ex.seq (rg 2 [2] (mkS 42 [(2,i6 r_4)]) ⟨[(C_Town t_1)],[]⟩ ?_)
   refine Ex.ret ?_
   obtain rfl:=sJ h
   exact rt (i6 r_4)
  ·refine Ex.condF _ rfl hc_5 ?_
   refine Ex.skip ?_
   refine Ex.seq ?_
   refine Ex.blockK ?_
   refine Ex.seq ?_
   obtain ⟨r_6,hr_6,h⟩:=bE h
   refine Ex.reg (rn 2 [1,20] (mkS 42 [(1,.ptr 0 0),(20,i6 t_1.Steps)]) ⟨[(C_Town t_1)],[]⟩ ?_)
   refine ExO.callL [] [i6 t_1.Steps,i6 0,i6 96] rfl rfl (a_crowd_within t_1.Steps 0 96) rfl rfl (d_crowd_within N t_1.Steps 0 96 r_6 hr_6) (b_crowd_within _ _ _ _) rfl ?_
   refine rn 2 [1,18] (mkS 42 [(1,.ptr 0 0),(18,.bool (!r_6))]) ⟨[(C_Town t_1)],[]⟩ ?_
   refine ExO.nil ?_
   rcases condI h with ⟨hc_7,h⟩ | ⟨hc_7,h⟩
   ·refine Ex.condT _ rfl hc_7 ?_
    refine Ex.seq (rg 1 [2] (mkS 42 [(2,i6 2)]) ⟨[(C_Town t_1)],[]⟩ ?_)
    refine Ex.ret ?_
    obtain rfl:=sJ h
    exact rt (i6 2)
   ·refine Ex.condF _ rfl hc_7 ?_
    refine Ex.seq ?_
    refine regH 5 [(2,.eq (i6 ((t_1.Groups.length : Nat) : Int)))] [1,23] [AV.int .i64 (((t_1.Groups.map A_Group).length : Nat) : Int) = AV.int .i64 ((t_1.Groups.length : Nat) : Int)] (mkS 42 [(1,.ptr 0 0),(23,.bool (decide (((t_1.Groups.length : Nat) : Int) > 12)))]) (⟨[(C_Town t_1)],[]⟩) (by kernel_rfl) ⟨lenM _ _,trivial⟩ rfl ?_
    rcases condI h with ⟨hc_8,h⟩ | ⟨hc_8,h⟩
    ·refine Ex.condT _ rfl hc_8 ?_
     refine Ex.seq (rg 1 [2] (mkS 42 [(2,i6 5)]) ⟨[(C_Town t_1)],[]⟩ ?_)
     refine Ex.ret ?_
     obtain rfl:=sJ h
     exact rt (i6 5)
    ·refine Ex.condF _ rfl hc_8 ?_
     refine Ex.skip ?_
     refine Ex.seq (Ex.seq ?_)
     refine regH 4 [(2,.eq (i6 ((t_1.Groups.length : Nat) : Int)))] [1,29,30,31] [AV.int .i64 (((t_1.Groups.map A_Group).length : Nat) : Int) = AV.int .i64 ((t_1.Groups.length : Nat) : Int)] (mkS 42 [(1,.ptr 0 0),(29,.sl (t_1.Groups.map A_Group) none),(30,i6 ((t_1.Groups.length : Nat) : Int)),(31,i6 0)]) (⟨[(C_Town t_1)],[]⟩) (by kernel_rfl) ⟨lenM _ _,trivial⟩ rfl ?_
     obtain ⟨K_10,hK_11,h⟩:=letE h
     refine Ex.blockJ (fun a S => K_10 () = some r ∧ a = mkS 42 [] ∧ S = ⟨[],[]⟩) ?_ ?_
     ·obtain ⟨B_14,hB_15,h⟩:=loop1I h
      refine Ex.loopF (fun k a S => ∃ (y_12 : Int),loop1 B_14 k y_12 = some r ∧ a = mkS 42 [(1,.ptr 0 0),(29,.sl (t_1.Groups.map A_Group) none),(30,i6 ((t_1.Groups.length : Nat) : Int)),(31,i6 y_12)] ∧ S = ⟨[(C_Town t_1)],[]⟩) N ⟨_,_,Forgets.refl _ _ _,0,h,rfl,rfl⟩ ?_
      rintro k a S ⟨y_12,h,rfl,rfl⟩
      cases k with
      | zero => exact (loop1Z h).elim
      | succ k =>
       replace h:=loop1S h hB_15
       refine Ex.seq (rg 1 [1,29,30,31,32] (mkS 42 [(1,.ptr 0 0),(29,.sl (t_1.Groups.map A_Group) none),(30,i6 ((t_1.Groups.length : Nat) : Int)),(31,i6 y_12),(32,.bool (decide (y_12 < ((t_1.Groups.length : Nat) : Int))))]) ⟨[(C_Town t_1)],[]⟩ ?_)
       refine Ex.seq ?_
       rcases condI h with ⟨hc_16,h⟩ | ⟨hc_16,h⟩
       ·refine Ex.condT _ rfl hc_16 ?_
        refine Ex.skip ?_
        refine Ex.seq ?_
        refine Ex.blockK ?_
        refine Ex.seq ?_
        obtain ⟨x_17,hx_17,h⟩:=bE h
        refine regH 4 [(0,.rop (C_Group x_17))] [1,6,29,30,31] [LGet (t_1.Groups.map A_Group) y_12 7 (C_Group x_17)] (mkS 42 [(1,.ptr 0 0),(6,.ptr 1 0),(29,.sl (t_1.Groups.map A_Group) none),(30,i6 ((t_1.Groups.length : Nat) : Int)),(31,i6 y_12)]) (⟨[(C_Town t_1),(C_Group x_17)],[]⟩) (by kernel_rfl) ⟨LGet.of hx_17 rfl,trivial⟩ rfl ?_
        refine Ex.seq ?_
        obtain ⟨r_18,hr_18,h⟩:=bE h
        refine Ex.reg (rn 2 [1,29,30,31,35,36] (mkS 42 [(1,.ptr 0 0),(29,.sl (t_1.Groups.map A_Group) none),(30,i6 ((t_1.Groups.length : Nat) : Int)),(31,i6 y_12),(35,(A_Town t_1)),(36,(A_Group x_17))]) ⟨[(C_Town t_1),(C_Group x_17)],[]⟩ ?_)
        refine ExO.callL [] [(A_Town t_1),(A_Group x_17)] rfl rfl (a_crowd_checkGroup t_1 x_17) rfl rfl (d_crowd_checkGroup N t_1 x_17 r_18 hr_18) (b_crowd_checkGroup _ _ _ _) rfl ?_
        refine rn 1 [1,7,29,30,31] (mkS 42 [(1,.ptr 0 0),(7,i6 r_18),(29,.sl (t_1.Groups.map A_Group) none),(30,i6 ((t_1.Groups.length : Nat) : Int)),(31,i6 y_12)]) ⟨[(C_Town t_1),(C_Group x_17)],[]⟩ ?_
        refine ExO.nil ?_
        refine Ex.seq (rg 2 [1,7,29,30,31,39] (mkS 42 [(1,.ptr 0 0),(7,i6 r_18),(29,.sl (t_1.Groups.map A_Group) none),(30,i6 ((t_1.Groups.length : Nat) : Int)),(31,i6 y_12),(39,.bool (r_18 != 0))]) ⟨[(C_Town t_1),(C_Group x_17)],[]⟩ ?_)
        rcases condI h with ⟨hc_19,h⟩ | ⟨hc_19,h⟩
        ·refine Ex.condT _ rfl hc_19 ?_
         refine Ex.seq (rg 2 [2] (mkS 42 [(2,i6 r_18)]) ⟨[(C_Town t_1),(C_Group x_17)],[]⟩ ?_)
         refine Ex.ret ?_
         obtain rfl:=sJ h
         exact rt (i6 r_18)
        ·refine Ex.condF _ rfl hc_19 ?_
         refine Ex.skip ?_
         refine rg 2 [1,29,30,31] (mkS 42 [(1,.ptr 0 0),(29,.sl (t_1.Groups.map A_Group) none),(30,i6 ((t_1.Groups.length : Nat) : Int)),(31,i6 (IntKind.i64.wrap (y_12 + 1)))]) ⟨[(C_Town t_1),(C_Group x_17)],[]⟩ ?_
         dsimp only
         exact ⟨_,_,forgetA (m:=42) 1 [] [(1,.ptr 0 0),(29,.sl (t_1.Groups.map A_Group) none),(30,i6 ((t_1.Groups.length : Nat) : Int)),(31,i6 (IntKind.i64.wrap (y_12 + 1)))] [(C_Town t_1)] [] (by simp [setAll]) (by simp) ⟨rfl,(reN (KL_Group _)),rfl,rfl,trivial⟩ (by simp) rfl (by decide),k,Nat.lt_succ_self k,(IntKind.i64.wrap (y_12 + 1)),h,rfl,rfl⟩
       ·refine Ex.condF _ rfl hc_16 ?_
        refine Ex.exit ?_
        (try simp only [reduceCtorEq,AEx.ex.injEq,Nat.reduceEqDiff,if_true,if_false])
        exact ⟨_,_,forgetA (m:=42) 0 [] [] [] [] (by simp [setAll]) (by simp) trivial (by simp) rfl (by decide),h,rfl,rfl⟩
     ·rintro a S ⟨h,rfl,rfl⟩
      subst hK_11
      refine Ex.seq (rg 1 [2] (mkS 42 [(2,i6 0)]) ⟨[],[]⟩ ?_)
      refine Ex.ret ?_
      obtain rfl:=sJ h
      exact rt (i6 0)
def p_band_within (N : Nat) (n_1 : Int) (least_2 : Int) (most_3 : Int) : Option (Bool):=(bif (decide (n_1 ≥ least_2)) then some (decide (n_1 ≤ most_3)) else some false)
def v_band_within (r : Bool) : AV:=.bool r
attribute [local simp] v_band_within
theorem a_band_within (n_1 : Int) (least_2 : Int) (most_3 : Int) : [i6 n_1,i6 least_2,i6 most_3].mapM (ren []) = some [i6 n_1,i6 least_2,i6 most_3]:=by simp
theorem b_band_within (r : Bool) (n n2 m : Nat) : back n n2 m (v_band_within r) = some (v_band_within r):=by simp
theorem d_band_within (N : Nat) (n_1 : Int) (least_2 : Int) (most_3 : Int) (r : Bool) (h : p_band_within N n_1 least_2 most_3 = some r) : Does Tryd.prog 22 [i6 n_1,i6 least_2,i6 most_3] [] fun v c => v = v_band_within r ∧ c = []:=by
 unfold p_band_within at h
 refine Does.ofL comp22 _ _ rfl rfl ?_
 refine Ex.seq (rg 1 [0,1,2] (mkS 15 [(0,i6 n_1),(1,i6 least_2),(2,i6 most_3)]) ⟨[],[]⟩ ?_)
 refine Ex.seq ?_
 rcases condI h with ⟨hc_4,h⟩ | ⟨hc_4,h⟩
 ·refine regH 9 [(3, .eq (.bool true))] [6] [AV.bool (decide (n_1 ≥ least_2)) = AV.bool true] (mkS 15 [(6, .bool (decide (n_1 ≤ most_3)))]) (⟨[], []⟩) (by kernel_rfl) ⟨congrArg AV.bool hc_4, trivial⟩ rfl ?_
  refine Ex.ret ?_
  obtain rfl:=sJ h
  exact rt (.bool (decide (n_1 ≤ most_3)))
 ·refine regH 9 [(3, .eq (.bool false))] [6] [AV.bool (decide (n_1 ≥ least_2)) = AV.bool false] (mkS 15 [(6, .bool false)]) (⟨[], []⟩) (by kernel_rfl) ⟨congrArg AV.bool hc_4, trivial⟩ rfl ?_
  refine Ex.ret ?_
  obtain rfl:=sJ h
  exact rt (.bool false)
def p_band_Check (N : Nat) (c_1 : T_City) : Option (Int):=((p_crowd_Check N c_1.Town).bind fun r_2 => (bif (r_2 != 0) then some r_2 else ((p_band_within N c_1.Break 0 120).bind fun r_4 => (bif (!r_4) then some 2 else (bif (((c_1.Sleep.length : Nat) : Int) != ((c_1.Town.Rooms.length : Nat) : Int)) then some 1 else (letJ (fun (_ : Unit) => some 0) (fun k_7 => (loop1 (fun rec_11 (y_10 : Int) => (bif (decide (y_10 < ((c_1.Sleep.length : Nat) : Int))) then ((getI c_1.Sleep y_10).bind fun x_15 => ((p_band_within N x_15 0 720).bind fun r_16 => (bif (!r_16) then some 2 else (rec_11 (IntKind.i64.wrap (y_10 + 1)))))) else (k_7 ()))) N 0))))))))
def v_band_Check (r : Int) : AV:=i6 r
attribute [local simp] v_band_Check
theorem a_band_Check (c_1 : T_City) : [(A_City c_1)].mapM (ren []) = some [(A_City c_1)]:=by simp
theorem b_band_Check (r : Int) (n n2 m : Nat) : back n n2 m (v_band_Check r) = some (v_band_Check r):=by simp
theorem d_band_Check (N : Nat) (c_1 : T_City) (r : Int) (h : p_band_Check N c_1 = some r) : Does Tryd.prog 33 [(A_City c_1)] [] fun v c => v = v_band_Check r ∧ c = []:=by
 unfold p_band_Check at h
 refine Does.ofL comp33 _ _ rfl rfl ?_
 refine Ex.seq (rg 2 [1] (mkS 37 [(1,.ptr 0 0)]) ⟨[(C_City c_1)],[]⟩ ?_)
 refine Ex.seq (Ex.seq ?_)
 obtain ⟨r_2,hr_2,h⟩:=bE h
 refine Ex.reg (rn 2 [1,7] (mkS 37 [(1,.ptr 0 0),(7,(A_Town c_1.Town))]) ⟨[(C_City c_1)],[]⟩ ?_)
 refine ExO.callL [] [(A_Town c_1.Town)] rfl rfl (a_crowd_Check c_1.Town) rfl rfl (d_crowd_Check N c_1.Town r_2 hr_2) (b_crowd_Check _ _ _ _) rfl ?_
 refine rn 1 [1,3] (mkS 37 [(1,.ptr 0 0),(3,i6 r_2)]) ⟨[(C_City c_1)],[]⟩ ?_
 refine ExO.nil ?_
 refine Ex.seq (rg 2 [1,3,10] (mkS 37 [(1,.ptr 0 0),(3,i6 r_2),(10,.bool (r_2 != 0))]) ⟨[(C_City c_1)],[]⟩ ?_)
 rcases condI h with ⟨hc_3,h⟩ | ⟨hc_3,h⟩
 ·refine Ex.condT _ rfl hc_3 ?_
  refine Ex.seq (rg 2 [2] (mkS 37 [(2,i6 r_2)]) ⟨[(C_City c_1)],[]⟩ ?_)
  refine Ex.ret ?_
  obtain rfl:=sJ h
  exact rt (i6 r_2)
 ·refine Ex.condF _ rfl hc_3 ?_
  refine Ex.skip ?_
  refine Ex.seq ?_
  refine Ex.blockK ?_
  refine Ex.seq ?_
  obtain ⟨r_4,hr_4,h⟩:=bE h
  refine Ex.reg (rn 2 [1,14] (mkS 37 [(1,.ptr 0 0),(14,i6 c_1.Break)]) ⟨[(C_City c_1)],[]⟩ ?_)
  refine ExO.callL [] [i6 c_1.Break,i6 0,i6 120] rfl rfl (a_band_within c_1.Break 0 120) rfl rfl (d_band_within N c_1.Break 0 120 r_4 hr_4) (b_band_within _ _ _ _) rfl ?_
  refine rn 2 [1,12] (mkS 37 [(1,.ptr 0 0),(12,.bool (!r_4))]) ⟨[(C_City c_1)],[]⟩ ?_
  refine ExO.nil ?_
  rcases condI h with ⟨hc_5,h⟩ | ⟨hc_5,h⟩
  ·refine Ex.condT _ rfl hc_5 ?_
   refine Ex.seq (rg 1 [2] (mkS 37 [(2,i6 2)]) ⟨[(C_City c_1)],[]⟩ ?_)
   refine Ex.ret ?_
   obtain rfl:=sJ h
   exact rt (i6 2)
  ·refine Ex.condF _ rfl hc_5 ?_
   refine Ex.seq ?_
   refine regH 9 [(2,.eq (i6 ((c_1.Sleep.length : Nat) : Int))),(6,.eq (i6 ((c_1.Town.Rooms.length : Nat) : Int)))] [1,17] [AV.int .i64 (((c_1.Sleep.map (AV.int .i64)).length : Nat) : Int) = AV.int .i64 ((c_1.Sleep.length : Nat) : Int),AV.int .i64 (((c_1.Town.Rooms.map (AV.int .i64)).length : Nat) : Int) = AV.int .i64 ((c_1.Town.Rooms.length : Nat) : Int)] (mkS 37 [(1,.ptr 0 0),(17,.bool (((c_1.Sleep.length : Nat) : Int) != ((c_1.Town.Rooms.length : Nat) : Int)))]) (⟨[(C_City c_1)],[]⟩) (by kernel_rfl) ⟨lenM _ _,lenM _ _,trivial⟩ rfl ?_
   rcases condI h with ⟨hc_6,h⟩ | ⟨hc_6,h⟩
   ·refine Ex.condT _ rfl hc_6 ?_
    refine Ex.seq (rg 1 [2] (mkS 37 [(2,i6 1)]) ⟨[(C_City c_1)],[]⟩ ?_)
    refine Ex.ret ?_
    obtain rfl:=sJ h
    exact rt (i6 1)
   ·refine Ex.condF _ rfl hc_6 ?_
    refine Ex.skip ?_
    refine Ex.seq (Ex.seq ?_)
    refine regH 4 [(2,.eq (i6 ((c_1.Sleep.length : Nat) : Int)))] [27,28,29] [AV.int .i64 (((c_1.Sleep.map (AV.int .i64)).length : Nat) : Int) = AV.int .i64 ((c_1.Sleep.length : Nat) : Int)] (mkS 37 [(27,.sl (c_1.Sleep.map (AV.int .i64)) none),(28,i6 ((c_1.Sleep.length : Nat) : Int)),(29,i6 0)]) (⟨[(C_City c_1)],[]⟩) (by kernel_rfl) ⟨lenM _ _,trivial⟩ rfl ?_
    obtain ⟨K_8,hK_9,h⟩:=letE h
    refine Ex.blockJ (fun a S => K_8 () = some r ∧ a = mkS 37 [] ∧ S = ⟨[],[]⟩) ?_ ?_
    ·obtain ⟨B_12,hB_13,h⟩:=loop1I h
     refine Ex.loopF (fun k a S => ∃ (y_10 : Int),loop1 B_12 k y_10 = some r ∧ a = mkS 37 [(27,.sl (c_1.Sleep.map (AV.int .i64)) none),(28,i6 ((c_1.Sleep.length : Nat) : Int)),(29,i6 y_10)] ∧ S = ⟨[],[]⟩) N ⟨_,_,forgetA (m:=37) 0 [] [(27,.sl (c_1.Sleep.map (AV.int .i64)) none),(28,i6 ((c_1.Sleep.length : Nat) : Int)),(29,i6 0)] [] [] (by simp [setAll]) (by simp) ⟨(reN (cleanI _ _)),rfl,rfl,trivial⟩ (by simp) rfl (by decide),0,h,rfl,rfl⟩ ?_
     rintro k a S ⟨y_10,h,rfl,rfl⟩
     cases k with
     | zero => exact (loop1Z h).elim
     | succ k =>
      replace h:=loop1S h hB_13
      refine Ex.seq (rg 1 [27,28,29,30] (mkS 37 [(27,.sl (c_1.Sleep.map (AV.int .i64)) none),(28,i6 ((c_1.Sleep.length : Nat) : Int)),(29,i6 y_10),(30,.bool (decide (y_10 < ((c_1.Sleep.length : Nat) : Int))))]) ⟨[],[]⟩ ?_)
      refine Ex.seq ?_
      rcases condI h with ⟨hc_14,h⟩ | ⟨hc_14,h⟩
      ·refine Ex.condT _ rfl hc_14 ?_
       refine Ex.skip ?_
       refine Ex.seq ?_
       refine Ex.blockK ?_
       refine Ex.seq ?_
       obtain ⟨x_15,hx_15,h⟩:=bE h
       refine regH 3 [(0,.rop [i6 x_15])] [5,27,28,29] [LGet (c_1.Sleep.map (AV.int .i64)) y_10 1 [i6 x_15]] (mkS 37 [(5,i6 x_15),(27,.sl (c_1.Sleep.map (AV.int .i64)) none),(28,i6 ((c_1.Sleep.length : Nat) : Int)),(29,i6 y_10)]) (⟨[],[]⟩) (by kernel_rfl) ⟨LGet.of hx_15 rfl,trivial⟩ rfl ?_
       refine Ex.seq ?_
       obtain ⟨r_16,hr_16,h⟩:=bE h
       refine Ex.reg (rn 1 [27,28,29,33] (mkS 37 [(27,.sl (c_1.Sleep.map (AV.int .i64)) none),(28,i6 ((c_1.Sleep.length : Nat) : Int)),(29,i6 y_10),(33,i6 x_15)]) ⟨[],[]⟩ ?_)
       refine ExO.callL [] [i6 x_15,i6 0,i6 720] rfl rfl (a_band_within x_15 0 720) rfl rfl (d_band_within N x_15 0 720 r_16 hr_16) (b_band_within _ _ _ _) rfl ?_
       refine rn 1 [27,28,29,35] (mkS 37 [(27,.sl (c_1.Sleep.map (AV.int .i64)) none),(28,i6 ((c_1.Sleep.length : Nat) : Int)),(29,i6 y_10),(35,.bool (!r_16))]) ⟨[],[]⟩ ?_
       refine ExO.nil ?_
       rcases condI h with ⟨hc_17,h⟩ | ⟨hc_17,h⟩
       ·refine Ex.condT _ rfl hc_17 ?_
        refine Ex.seq (rg 1 [2] (mkS 37 [(2,i6 2)]) ⟨[],[]⟩ ?_)
        refine Ex.ret ?_
        obtain rfl:=sJ h
        exact rt (i6 2)
       ·refine Ex.condF _ rfl hc_17 ?_
        refine Ex.skip ?_
        refine rg 2 [27,28,29] (mkS 37 [(27,.sl (c_1.Sleep.map (AV.int .i64)) none),(28,i6 ((c_1.Sleep.length : Nat) : Int)),(29,i6 (IntKind.i64.wrap (y_10 + 1)))]) ⟨[],[]⟩ ?_
        dsimp only
        exact ⟨_,_,Forgets.refl _ _ _,k,Nat.lt_succ_self k,(IntKind.i64.wrap (y_10 + 1)),h,rfl,rfl⟩
      ·refine Ex.condF _ rfl hc_14 ?_
       refine Ex.exit ?_
       (try simp only [reduceCtorEq,AEx.ex.injEq,Nat.reduceEqDiff,if_true,if_false])
       exact ⟨_,_,forgetK [],h,rfl,rfl⟩
    ·rintro a S ⟨h,rfl,rfl⟩
     subst hK_9
     refine Ex.seq (rg 1 [2] (mkS 37 [(2,i6 0)]) ⟨[],[]⟩ ?_)
     refine Ex.ret ?_
     obtain rfl:=sJ h
     exact rt (i6 0)
def p_band_squaresOf (N : Nat) (t_1 : T_Town) (b_2 : T_Band) : Option ((List Int) × Int):=((p_band_within N b_2.First 0 (IntKind.i64.wrap (((t_1.Rooms.length : Nat) : Int) - 1))).bind fun r_3 => (bif (!r_3) then some ([],7) else (bif (decide (((b_2.Path.length : Nat) : Int) > 12)) then some ([],5) else (letJ (fun (squares_6 : List Int) => some (squares_6,0)) (fun k_7 => (loop3 (fun rec_13 (square_10 : Int) (squares_11 : List Int) (y_12 : Int) => (bif (decide (y_12 < ((b_2.Path.length : Nat) : Int))) then ((getI b_2.Path y_12).bind fun x_17 => ((p_band_within N x_17 0 (IntKind.i64.wrap (((t_1.Streets.length : Nat) : Int) - 1))).bind fun r_18 => (bif (!r_18) then some ([],7) else ((getI t_1.Streets x_17).bind fun x_20 => (letJ (fun (square_21 : Int) => ((pushI squares_11 ([square_21] : List Int)).bind fun l_27 => (rec_13 square_21 l_27 (IntKind.i64.wrap (y_12 + 1))))) (fun k_22 => (bif (square_10 == x_20.A) then (k_22 x_20.B) else (bif (square_10 == x_20.B) then (k_22 x_20.A) else some ([],1))))))))) else (k_7 squares_11))) N b_2.First [b_2.First] 0))))))
def v_band_squaresOf (r : (List Int) × Int) : AV:=.tup [.sl (r.1.map (AV.int .i64)) none,i6 r.2]
attribute [local simp] v_band_squaresOf
theorem a_band_squaresOf (t_1 : T_Town) (b_2 : T_Band) : [(A_Town t_1),(A_Band b_2)].mapM (ren []) = some [(A_Town t_1),(A_Band b_2)]:=by simp
theorem b_band_squaresOf (r : (List Int) × Int) (n n2 m : Nat) : back n n2 m (v_band_squaresOf r) = some (v_band_squaresOf r):=by simp
theorem d_band_squaresOf (N : Nat) (t_1 : T_Town) (b_2 : T_Band) (r : (List Int) × Int) (h : p_band_squaresOf N t_1 b_2 = some r) : Does Tryd.prog 34 [(A_Town t_1),(A_Band b_2)] [] fun v c => v = v_band_squaresOf r ∧ c = []:=by
 unfold p_band_squaresOf at h
 refine Does.ofL comp34 _ _ rfl rfl ?_
 refine Ex.seq (rg 4 [2,3] (mkS 67 [(2,.ptr 0 0),(3,.ptr 1 0)]) ⟨[(C_Town t_1),(C_Band b_2)],[]⟩ ?_)
 refine Ex.seq ?_
 refine Ex.blockK ?_
 refine Ex.seq ?_
 obtain ⟨r_3,hr_3,h⟩:=bE h
 refine Ex.reg ?_
 refine runH 6 [(4,.eq (i6 ((t_1.Rooms.length : Nat) : Int)))] [2,3,13,17] [AV.int .i64 (((t_1.Rooms.map (AV.int .i64)).length : Nat) : Int) = AV.int .i64 ((t_1.Rooms.length : Nat) : Int)] (mkS 67 [(2,.ptr 0 0),(3,.ptr 1 0),(13,i6 b_2.First),(17,i6 (IntKind.i64.wrap (((t_1.Rooms.length : Nat) : Int) - 1)))]) (⟨[(C_Town t_1),(C_Band b_2)],[]⟩) (by kernel_rfl) ⟨lenM _ _,trivial⟩ ?_
 refine ExO.callL [] [i6 b_2.First,i6 0,i6 (IntKind.i64.wrap (((t_1.Rooms.length : Nat) : Int) - 1))] rfl rfl (a_band_within b_2.First 0 (IntKind.i64.wrap (((t_1.Rooms.length : Nat) : Int) - 1))) rfl rfl (d_band_within N b_2.First 0 (IntKind.i64.wrap (((t_1.Rooms.length : Nat) : Int) - 1)) r_3 hr_3) (b_band_within _ _ _ _) rfl ?_
 refine rn 2 [2,3,11] (mkS 67 [(2,.ptr 0 0),(3,.ptr 1 0),(11,.bool (!r_3))]) ⟨[(C_Town t_1),(C_Band b_2)],[]⟩ ?_
 refine ExO.nil ?_
 rcases condI h with ⟨hc_4,h⟩ | ⟨hc_4,h⟩
 ·refine Ex.condT _ rfl hc_4 ?_
  refine Ex.seq (rg 2 [4,5] (mkS 67 [(4,.nils),(5,i6 7)]) ⟨[(C_Town t_1),(C_Band b_2)],[]⟩ ?_)
  refine Ex.ret ?_
  obtain rfl:=sJ h
  exact rt (.tup [.nils,i6 7])
 ·refine Ex.condF _ rfl hc_4 ?_
  refine Ex.seq ?_
  refine regH 5 [(2,.eq (i6 ((b_2.Path.length : Nat) : Int)))] [2,3,20] [AV.int .i64 (((b_2.Path.map (AV.int .i64)).length : Nat) : Int) = AV.int .i64 ((b_2.Path.length : Nat) : Int)] (mkS 67 [(2,.ptr 0 0),(3,.ptr 1 0),(20,.bool (decide (((b_2.Path.length : Nat) : Int) > 12)))]) (⟨[(C_Town t_1),(C_Band b_2)],[]⟩) (by kernel_rfl) ⟨lenM _ _,trivial⟩ rfl ?_
  rcases condI h with ⟨hc_5,h⟩ | ⟨hc_5,h⟩
  ·refine Ex.condT _ rfl hc_5 ?_
   refine Ex.seq (rg 2 [4,5] (mkS 67 [(4,.nils),(5,i6 5)]) ⟨[(C_Town t_1),(C_Band b_2)],[]⟩ ?_)
   refine Ex.ret ?_
   obtain rfl:=sJ h
   exact rt (.tup [.nils,i6 5])
  ·refine Ex.condF _ rfl hc_5 ?_
   refine Ex.skip ?_
   refine Ex.seq (rg 3 [2,3,6] (mkS 67 [(2,.ptr 0 0),(3,.ptr 1 0),(6,i6 b_2.First)]) ⟨[(C_Town t_1),(C_Band b_2)],[]⟩ ?_)
   refine Ex.seq (rg 3 [2,3,6,7] (mkS 67 [(2,.ptr 0 0),(3,.ptr 1 0),(6,i6 b_2.First),(7,.sl (([b_2.First] : List Int).map (AV.int .i64)) (some 0))]) ⟨[(C_Town t_1),(C_Band b_2)],[(1,1)]⟩ ?_)
   refine Ex.seq (Ex.seq ?_)
   refine regH 4 [(2,.eq (i6 ((b_2.Path.length : Nat) : Int)))] [2,6,7,30,31,32] [AV.int .i64 (((b_2.Path.map (AV.int .i64)).length : Nat) : Int) = AV.int .i64 ((b_2.Path.length : Nat) : Int)] (mkS 67 [(2,.ptr 0 0),(6,i6 b_2.First),(7,.sl (([b_2.First] : List Int).map (AV.int .i64)) (some 0)),(30,.sl (b_2.Path.map (AV.int .i64)) none),(31,i6 ((b_2.Path.length : Nat) : Int)),(32,i6 0)]) (⟨[(C_Town t_1),(C_Band b_2)],[(1,1)]⟩) (by kernel_rfl) ⟨lenM _ _,trivial⟩ rfl ?_
   obtain ⟨K_8,hK_9,h⟩:=letE h
   refine Ex.blockJ (fun a S => ∃ (squares_6 : List Int),K_8 squares_6 = some r ∧ a = mkS 67 [(7,.sl (squares_6.map (AV.int .i64)) (some 0))] ∧ S = ⟨[],[(squares_6.length,1)]⟩) ?_ ?_
   ·obtain ⟨B_14,hB_15,h⟩:=loop3I h
    refine Ex.loopF (fun k a S => ∃ (square_10 : Int),∃ (squares_11 : List Int),∃ (y_12 : Int),loop3 B_14 k square_10 squares_11 y_12 = some r ∧ a = mkS 67 [(2,.ptr 0 0),(6,i6 square_10),(7,.sl (squares_11.map (AV.int .i64)) (some 0)),(30,.sl (b_2.Path.map (AV.int .i64)) none),(31,i6 ((b_2.Path.length : Nat) : Int)),(32,i6 y_12)] ∧ S = ⟨[(C_Town t_1)],[(squares_11.length,1)]⟩) N ⟨_,_,forgetA (m:=67) 1 [0] [(2,.ptr 0 0),(6,i6 b_2.First),(7,.sl (([b_2.First] : List Int).map (AV.int .i64)) (some 0)),(30,.sl (b_2.Path.map (AV.int .i64)) none),(31,i6 ((b_2.Path.length : Nat) : Int)),(32,i6 0)] [(C_Town t_1)] [(1,1)] (by simp [setAll]) (by simp) ⟨rfl,rfl,(reT (cleanI _ _) rfl),(reN (cleanI _ _)),rfl,rfl,trivial⟩ (by simp) rfl (by decide),b_2.First,[b_2.First],0,h,rfl,rfl⟩ ?_
    rintro k a S ⟨square_10,squares_11,y_12,h,rfl,rfl⟩
    cases k with
    | zero => exact (loop3Z h).elim
    | succ k =>
     replace h:=loop3S h hB_15
     refine Ex.seq (rg 1 [2,6,7,30,31,32,33] (mkS 67 [(2,.ptr 0 0),(6,i6 square_10),(7,.sl (squares_11.map (AV.int .i64)) (some 0)),(30,.sl (b_2.Path.map (AV.int .i64)) none),(31,i6 ((b_2.Path.length : Nat) : Int)),(32,i6 y_12),(33,.bool (decide (y_12 < ((b_2.Path.length : Nat) : Int))))]) ⟨[(C_Town t_1)],[(squares_11.length,1)]⟩ ?_)
     refine Ex.seq ?_
     rcases condI h with ⟨hc_16,h⟩ | ⟨hc_16,h⟩
     ·refine Ex.condT _ rfl hc_16 ?_
      refine Ex.skip ?_
      refine Ex.seq ?_
      refine Ex.blockK ?_
      refine Ex.seq ?_
      obtain ⟨x_17,hx_17,h⟩:=bE h
      refine regH 3 [(0,.rop [i6 x_17])] [2,6,7,9,30,31,32] [LGet (b_2.Path.map (AV.int .i64)) y_12 1 [i6 x_17]] (mkS 67 [(2,.ptr 0 0),(6,i6 square_10),(7,.sl (squares_11.map (AV.int .i64)) (some 0)),(9,i6 x_17),(30,.sl (b_2.Path.map (AV.int .i64)) none),(31,i6 ((b_2.Path.length : Nat) : Int)),(32,i6 y_12)]) (⟨[(C_Town t_1)],[(squares_11.length,1)]⟩) (by kernel_rfl) ⟨LGet.of hx_17 rfl,trivial⟩ rfl ?_
      refine Ex.seq (Ex.seq ?_)
      obtain ⟨r_18,hr_18,h⟩:=bE h
      refine Ex.reg ?_
      refine runH 5 [(3,.eq (i6 ((t_1.Streets.length : Nat) : Int)))] [2,6,7,9,30,31,32,36,40] [AV.int .i64 (((t_1.Streets.map A_Street).length : Nat) : Int) = AV.int .i64 ((t_1.Streets.length : Nat) : Int)] (mkS 67 [(2,.ptr 0 0),(6,i6 square_10),(7,.sl (squares_11.map (AV.int .i64)) (some 0)),(9,i6 x_17),(30,.sl (b_2.Path.map (AV.int .i64)) none),(31,i6 ((b_2.Path.length : Nat) : Int)),(32,i6 y_12),(36,i6 x_17),(40,i6 (IntKind.i64.wrap (((t_1.Streets.length : Nat) : Int) - 1)))]) (⟨[(C_Town t_1)],[(squares_11.length,1)]⟩) (by kernel_rfl) ⟨lenM _ _,trivial⟩ ?_
      refine ExO.callL [] [i6 x_17,i6 0,i6 (IntKind.i64.wrap (((t_1.Streets.length : Nat) : Int) - 1))] rfl rfl (a_band_within x_17 0 (IntKind.i64.wrap (((t_1.Streets.length : Nat) : Int) - 1))) rfl rfl (d_band_within N x_17 0 (IntKind.i64.wrap (((t_1.Streets.length : Nat) : Int) - 1)) r_18 hr_18) (b_band_within _ _ _ _) rfl ?_
      refine rn 1 [2,6,7,9,30,31,32,42] (mkS 67 [(2,.ptr 0 0),(6,i6 square_10),(7,.sl (squares_11.map (AV.int .i64)) (some 0)),(9,i6 x_17),(30,.sl (b_2.Path.map (AV.int .i64)) none),(31,i6 ((b_2.Path.length : Nat) : Int)),(32,i6 y_12),(42,.bool (!r_18))]) ⟨[(C_Town t_1)],[(squares_11.length,1)]⟩ ?_
      refine ExO.nil ?_
      rcases condI h with ⟨hc_19,h⟩ | ⟨hc_19,h⟩
      ·refine Ex.condT _ rfl hc_19 ?_
       refine Ex.seq (rg 2 [4,5] (mkS 67 [(4,.nils),(5,i6 7)]) ⟨[(C_Town t_1)],[(squares_11.length,1)]⟩ ?_)
       refine Ex.ret ?_
       obtain rfl:=sJ h
       exact rt (.tup [.nils,i6 7])
      ·refine Ex.condF _ rfl hc_19 ?_
       refine Ex.skip ?_
       refine Ex.seq ?_
       obtain ⟨x_20,hx_20,h⟩:=bE h
       refine regH 7 [(3,.rop (C_Street x_20))] [2,6,7,10,30,31,32] [LGet (t_1.Streets.map A_Street) x_17 2 (C_Street x_20)] (mkS 67 [(2,.ptr 0 0),(6,i6 square_10),(7,.sl (squares_11.map (AV.int .i64)) (some 0)),(10,.ptr 1 0),(30,.sl (b_2.Path.map (AV.int .i64)) none),(31,i6 ((b_2.Path.length : Nat) : Int)),(32,i6 y_12)]) (⟨[(C_Town t_1),(C_Street x_20)],[(squares_11.length,1)]⟩) (by kernel_rfl) ⟨LGet.of hx_20 rfl,trivial⟩ rfl ?_
       refine Ex.seq (Ex.seq ?_)
       refine rg 1 [2,7,10,30,31,32,48] (mkS 67 [(2,.ptr 0 0),(7,.sl (squares_11.map (AV.int .i64)) (some 0)),(10,.ptr 1 0),(30,.sl (b_2.Path.map (AV.int .i64)) none),(31,i6 ((b_2.Path.length : Nat) : Int)),(32,i6 y_12),(48,i6 square_10)]) ⟨[(C_Town t_1),(C_Street x_20)],[(squares_11.length,1)]⟩ ?_
       obtain ⟨K_23,hK_24,h⟩:=letE h
       refine Ex.blockJ (fun a S => ∃ (square_21 : Int),K_23 square_21 = some r ∧ a = mkS 67 [(2,.ptr 0 0),(6,i6 square_21),(7,.sl (squares_11.map (AV.int .i64)) (some 0)),(30,.sl (b_2.Path.map (AV.int .i64)) none),(31,i6 ((b_2.Path.length : Nat) : Int)),(32,i6 y_12)] ∧ S = ⟨[(C_Town t_1)],[(squares_11.length,1)]⟩) ?_ ?_
       ·refine Ex.seq (rg 4 [2,7,10,30,31,32,48,49] (mkS 67 [(2,.ptr 0 0),(7,.sl (squares_11.map (AV.int .i64)) (some 0)),(10,.ptr 1 0),(30,.sl (b_2.Path.map (AV.int .i64)) none),(31,i6 ((b_2.Path.length : Nat) : Int)),(32,i6 y_12),(48,i6 square_10),(49,.bool (square_10 == x_20.A))]) ⟨[(C_Town t_1),(C_Street x_20)],[(squares_11.length,1)]⟩ ?_)
        rcases condI h with ⟨hc_25,h⟩ | ⟨hc_25,h⟩
        ·refine Ex.condT _ rfl hc_25 ?_
         refine rg 3 [2,6,7,30,31,32] (mkS 67 [(2,.ptr 0 0),(6,i6 x_20.B),(7,.sl (squares_11.map (AV.int .i64)) (some 0)),(30,.sl (b_2.Path.map (AV.int .i64)) none),(31,i6 ((b_2.Path.length : Nat) : Int)),(32,i6 y_12)]) ⟨[(C_Town t_1),(C_Street x_20)],[(squares_11.length,1)]⟩ ?_
         (try simp only [reduceCtorEq,AEx.ex.injEq,Nat.reduceEqDiff,if_true,if_false])
         exact ⟨_,_,forgetA (m:=67) 1 [0] [(2,.ptr 0 0),(6,i6 x_20.B),(7,.sl (squares_11.map (AV.int .i64)) (some 0)),(30,.sl (b_2.Path.map (AV.int .i64)) none),(31,i6 ((b_2.Path.length : Nat) : Int)),(32,i6 y_12)] [(C_Town t_1)] [(squares_11.length,1)] (by simp [setAll]) (by simp) ⟨rfl,rfl,(reT (cleanI _ _) rfl),(reN (cleanI _ _)),rfl,rfl,trivial⟩ (by simp) rfl (by decide),x_20.B,h,rfl,rfl⟩
        ·refine Ex.condF _ rfl hc_25 ?_
         refine Ex.seq (rg 4 [2,7,10,30,31,32,55] (mkS 67 [(2,.ptr 0 0),(7,.sl (squares_11.map (AV.int .i64)) (some 0)),(10,.ptr 1 0),(30,.sl (b_2.Path.map (AV.int .i64)) none),(31,i6 ((b_2.Path.length : Nat) : Int)),(32,i6 y_12),(55,.bool (square_10 == x_20.B))]) ⟨[(C_Town t_1),(C_Street x_20)],[(squares_11.length,1)]⟩ ?_)
         rcases condI h with ⟨hc_26,h⟩ | ⟨hc_26,h⟩
         ·refine Ex.condT _ rfl hc_26 ?_
          refine rg 3 [2,6,7,30,31,32] (mkS 67 [(2,.ptr 0 0),(6,i6 x_20.A),(7,.sl (squares_11.map (AV.int .i64)) (some 0)),(30,.sl (b_2.Path.map (AV.int .i64)) none),(31,i6 ((b_2.Path.length : Nat) : Int)),(32,i6 y_12)]) ⟨[(C_Town t_1),(C_Street x_20)],[(squares_11.length,1)]⟩ ?_
          (try simp only [reduceCtorEq,AEx.ex.injEq,Nat.reduceEqDiff,if_true,if_false])
          exact ⟨_,_,forgetA (m:=67) 1 [0] [(2,.ptr 0 0),(6,i6 x_20.A),(7,.sl (squares_11.map (AV.int .i64)) (some 0)),(30,.sl (b_2.Path.map (AV.int .i64)) none),(31,i6 ((b_2.Path.length : Nat) : Int)),(32,i6 y_12)] [(C_Town t_1)] [(squares_11.length,1)] (by simp [setAll]) (by simp) ⟨rfl,rfl,(reT (cleanI _ _) rfl),(reN (cleanI _ _)),rfl,rfl,trivial⟩ (by simp) rfl (by decide),x_20.A,h,rfl,rfl⟩
         ·refine Ex.condF _ rfl hc_26 ?_
          refine Ex.seq (rg 2 [4,5] (mkS 67 [(4,.nils),(5,i6 1)]) ⟨[(C_Town t_1),(C_Street x_20)],[(squares_11.length,1)]⟩ ?_)
          refine Ex.ret ?_
          obtain rfl:=sJ h
          exact rt (.tup [.nils,i6 1])
       ·rintro a S ⟨square_21,h,rfl,rfl⟩
        subst hK_24
        obtain ⟨l_27,hl_27,h⟩:=bE h
        refine regH 5 [(3,.app (l_27.map (AV.int .i64)) l_27.length)] [2,6,7,30,31,32] [LApp squares_11.length (squares_11.map (AV.int .i64)) (([square_21] : List Int).map (AV.int .i64)) 1 (l_27.map (AV.int .i64)) l_27.length] (mkS 67 [(2,.ptr 0 0),(6,i6 square_21),(7,.sl (l_27.map (AV.int .i64)) (some 0)),(30,.sl (b_2.Path.map (AV.int .i64)) none),(31,i6 ((b_2.Path.length : Nat) : Int)),(32,i6 y_12)]) (⟨[(C_Town t_1)],[(l_27.length,1),(1,1)]⟩) (by kernel_rfl) ⟨LApp.of hl_27 (fun _ => rfl),trivial⟩ rfl ?_
        refine rg 2 [2,6,7,30,31,32] (mkS 67 [(2,.ptr 0 0),(6,i6 square_21),(7,.sl (l_27.map (AV.int .i64)) (some 0)),(30,.sl (b_2.Path.map (AV.int .i64)) none),(31,i6 ((b_2.Path.length : Nat) : Int)),(32,i6 (IntKind.i64.wrap (y_12 + 1)))]) ⟨[(C_Town t_1)],[(l_27.length,1),(1,1)]⟩ ?_
        dsimp only
        exact ⟨_,_,forgetA (m:=67) 1 [0] [(2,.ptr 0 0),(6,i6 square_21),(7,.sl (l_27.map (AV.int .i64)) (some 0)),(30,.sl (b_2.Path.map (AV.int .i64)) none),(31,i6 ((b_2.Path.length : Nat) : Int)),(32,i6 (IntKind.i64.wrap (y_12 + 1)))] [(C_Town t_1)] [(l_27.length,1)] (by simp [setAll]) (by simp) ⟨rfl,rfl,(reT (cleanI _ _) rfl),(reN (cleanI _ _)),rfl,rfl,trivial⟩ (by simp) rfl (by decide),k,Nat.lt_succ_self k,square_21,l_27,(IntKind.i64.wrap (y_12 + 1)),h,rfl,rfl⟩
     ·refine Ex.condF _ rfl hc_16 ?_
      refine Ex.exit ?_
      (try simp only [reduceCtorEq,AEx.ex.injEq,Nat.reduceEqDiff,if_true,if_false])
      exact ⟨_,_,forgetA (m:=67) 0 [0] [(7,.sl (squares_11.map (AV.int .i64)) (some 0))] [] [(squares_11.length,1)] (by simp [setAll]) (by simp) ⟨(reT (cleanI _ _) rfl),trivial⟩ (by simp) rfl (by decide),squares_11,h,rfl,rfl⟩
   ·rintro a S ⟨squares_6,h,rfl,rfl⟩
    subst hK_9
    refine Ex.seq (rg 3 [4,5] (mkS 67 [(4,.sl (squares_6.map (AV.int .i64)) (some 0)),(5,i6 0)]) ⟨[],[(squares_6.length,1)]⟩ ?_)
    refine Ex.ret ?_
    obtain rfl:=sJ h
    exact rt (.tup [.sl (squares_6.map (AV.int .i64)) (some 0),i6 0])
def p_band_checkNumbers (N : Nat) (b_1 : T_Band) : Option (Int):=(letJ (fun (y_2 : Bool) => (bif y_2 then some 2 else (bif (decide (b_1.Start.Lo > b_1.Start.Hi)) then some 9 else (bif (decide ((IntKind.i64.wrap (b_1.Start.Hi - b_1.Start.Lo)) > 30)) then some 2 else (letJ (fun (y_12 : Bool) => (bif y_12 then some 2 else ((some (IntKind.i64.wrap (b_1.Start.Hi + (IntKind.i64.wrap (b_1.Stay * (IntKind.i64.wrap (((b_1.Path.length : Nat) : Int) + 1))))))).bind fun n_20 => (bif (decide (n_20 > 720)) then some 12 else some 0)))) (fun k_13 => ((p_band_within N b_1.Stay 1 120).bind fun r_16 => (bif (!r_16) then (k_13 true) else ((p_band_within N b_1.People 0 1000000).bind fun r_18 => (k_13 (!r_18))))))))))) (fun k_3 => ((p_band_within N b_1.Start.Lo 0 720).bind fun r_6 => (bif (!r_6) then (k_3 true) else ((p_band_within N b_1.Start.Hi 0 720).bind fun r_8 => (k_3 (!r_8)))))))
def v_band_checkNumbers (r : Int) : AV:=i6 r
attribute [local simp] v_band_checkNumbers
theorem a_band_checkNumbers (b_1 : T_Band) : [(A_Band b_1)].mapM (ren []) = some [(A_Band b_1)]:=by simp
theorem b_band_checkNumbers (r : Int) (n n2 m : Nat) : back n n2 m (v_band_checkNumbers r) = some (v_band_checkNumbers r):=by simp
theorem d_band_checkNumbers (N : Nat) (b_1 : T_Band) (r : Int) (h : p_band_checkNumbers N b_1 = some r) : Does Tryd.prog 35 [(A_Band b_1)] [] fun v c => v = v_band_checkNumbers r ∧ c = []:=by
 unfold p_band_checkNumbers at h
 refine Does.ofL comp35 _ _ rfl rfl ?_
 refine Ex.seq (rg 2 [1] (mkS 53 [(1,.ptr 0 0)]) ⟨[(C_Band b_1)],[]⟩ ?_)
 refine Ex.seq (rg 4 [1,3] (mkS 53 [(1,.ptr 0 0),(3,.ptr 1 0)]) ⟨[(C_Band b_1),(C_Span b_1.Start)],[]⟩ ?_)
 refine Ex.seq ?_
 refine Ex.blockK ?_
 obtain ⟨K_4,hK_5,h⟩:=letE h
 refine Ex.seqJ (fun a S => ∃ (y_2 : Bool),K_4 y_2 = some r ∧ a = mkS 53 [(1,.ptr 0 0),(3,.ptr 1 0),(6,.bool y_2)] ∧ S = ⟨[(C_Band b_1),(C_Span b_1.Start)],[]⟩) ?_ ?_
 ·obtain ⟨r_6,hr_6,h⟩:=bE h
  refine Ex.reg (rn 2 [1,3,8] (mkS 53 [(1,.ptr 0 0),(3,.ptr 1 0),(8,i6 b_1.Start.Lo)]) ⟨[(C_Band b_1),(C_Span b_1.Start)],[]⟩ ?_)
  refine ExO.callL [] [i6 b_1.Start.Lo,i6 0,i6 720] rfl rfl (a_band_within b_1.Start.Lo 0 720) rfl rfl (d_band_within N b_1.Start.Lo 0 720 r_6 hr_6) (b_band_within _ _ _ _) rfl ?_
  rcases condI h with ⟨hc_7,h⟩ | ⟨hc_7,h⟩
  ·refine runH 8 [(1, .eq (.bool true))] [1, 3, 6] [AV.bool (!r_6) = AV.bool true] (mkS 53 [(1, .ptr 0 0), (3, .ptr 1 0), (6, .bool true)]) (⟨[(C_Band b_1), (C_Span b_1.Start)], []⟩) (by kernel_rfl) ⟨congrArg AV.bool hc_7, trivial⟩ ?_
   refine ExO.nil ?_
   (try simp only [reduceCtorEq,AEx.ex.injEq,Nat.reduceEqDiff,if_true,if_false])
   exact ⟨_,_,Forgets.refl _ _ _,true,h,rfl,rfl⟩
  ·obtain ⟨r_8,hr_8,h⟩:=bE h
   refine runH 4 [(1,.eq (.bool false))] [1,3,11,13] [AV.bool (!r_6) = AV.bool false] (mkS 53 [(1,.ptr 0 0),(3,.ptr 1 0),(11,.bool false),(13,i6 b_1.Start.Hi)]) (⟨[(C_Band b_1),(C_Span b_1.Start)],[]⟩) (by kernel_rfl) ⟨congrArg AV.bool hc_7,trivial⟩ ?_
   refine ExO.callL [] [i6 b_1.Start.Hi,i6 0,i6 720] rfl rfl (a_band_within b_1.Start.Hi 0 720) rfl rfl (d_band_within N b_1.Start.Hi 0 720 r_8 hr_8) (b_band_within _ _ _ _) rfl ?_
   refine rn 3 [1,3,6] (mkS 53 [(1,.ptr 0 0),(3,.ptr 1 0),(6,.bool (!r_8))]) ⟨[(C_Band b_1),(C_Span b_1.Start)],[]⟩ ?_
   refine ExO.nil ?_
   (try simp only [reduceCtorEq,AEx.ex.injEq,Nat.reduceEqDiff,if_true,if_false])
   exact ⟨_,_,Forgets.refl _ _ _,(!r_8),h,rfl,rfl⟩
 ·rintro a S ⟨y_2,h,rfl,rfl⟩
  subst hK_5
  rcases condI h with ⟨hc_9,h⟩ | ⟨hc_9,h⟩
  ·refine Ex.condT _ rfl hc_9 ?_
   refine Ex.seq (rg 1 [2] (mkS 53 [(2,i6 2)]) ⟨[(C_Band b_1),(C_Span b_1.Start)],[]⟩ ?_)
   refine Ex.ret ?_
   obtain rfl:=sJ h
   exact rt (i6 2)
  ·refine Ex.condF _ rfl hc_9 ?_
   refine Ex.seq (rg 6 [1,3,17] (mkS 53 [(1,.ptr 0 0),(3,.ptr 1 0),(17,.bool (decide (b_1.Start.Lo > b_1.Start.Hi)))]) ⟨[(C_Band b_1),(C_Span b_1.Start)],[]⟩ ?_)
   rcases condI h with ⟨hc_10,h⟩ | ⟨hc_10,h⟩
   ·refine Ex.condT _ rfl hc_10 ?_
    refine Ex.seq (rg 1 [2] (mkS 53 [(2,i6 9)]) ⟨[(C_Band b_1),(C_Span b_1.Start)],[]⟩ ?_)
    refine Ex.ret ?_
    obtain rfl:=sJ h
    exact rt (i6 9)
   ·refine Ex.condF _ rfl hc_10 ?_
    refine Ex.seq (rg 7 [1,3,23] (mkS 53 [(1,.ptr 0 0),(3,.ptr 1 0),(23,.bool (decide ((IntKind.i64.wrap (b_1.Start.Hi - b_1.Start.Lo)) > 30)))]) ⟨[(C_Band b_1),(C_Span b_1.Start)],[]⟩ ?_)
    rcases condI h with ⟨hc_11,h⟩ | ⟨hc_11,h⟩
    ·refine Ex.condT _ rfl hc_11 ?_
     refine Ex.seq (rg 1 [2] (mkS 53 [(2,i6 2)]) ⟨[(C_Band b_1),(C_Span b_1.Start)],[]⟩ ?_)
     refine Ex.ret ?_
     obtain rfl:=sJ h
     exact rt (i6 2)
    ·refine Ex.condF _ rfl hc_11 ?_
     obtain ⟨K_14,hK_15,h⟩:=letE h
     refine Ex.seqJ (fun a S => ∃ (y_12 : Bool),K_14 y_12 = some r ∧ a = mkS 53 [(1,.ptr 0 0),(3,.ptr 1 0),(30,.bool y_12)] ∧ S = ⟨[(C_Band b_1),(C_Span b_1.Start)],[]⟩) ?_ ?_
     ·obtain ⟨r_16,hr_16,h⟩:=bE h
      refine Ex.reg (rn 2 [1,3,32] (mkS 53 [(1,.ptr 0 0),(3,.ptr 1 0),(32,i6 b_1.Stay)]) ⟨[(C_Band b_1),(C_Span b_1.Start)],[]⟩ ?_)
      refine ExO.callL [] [i6 b_1.Stay,i6 1,i6 120] rfl rfl (a_band_within b_1.Stay 1 120) rfl rfl (d_band_within N b_1.Stay 1 120 r_16 hr_16) (b_band_within _ _ _ _) rfl ?_
      rcases condI h with ⟨hc_17,h⟩ | ⟨hc_17,h⟩
      ·refine runH 8 [(1, .eq (.bool true))] [1, 3, 30] [AV.bool (!r_16) = AV.bool true] (mkS 53 [(1, .ptr 0 0), (3, .ptr 1 0), (30, .bool true)]) (⟨[(C_Band b_1), (C_Span b_1.Start)], []⟩) (by kernel_rfl) ⟨congrArg AV.bool hc_17, trivial⟩ ?_
       refine ExO.nil ?_
       (try simp only [reduceCtorEq,AEx.ex.injEq,Nat.reduceEqDiff,if_true,if_false])
       exact ⟨_,_,Forgets.refl _ _ _,true,h,rfl,rfl⟩
      ·obtain ⟨r_18,hr_18,h⟩:=bE h
       refine runH 4 [(1,.eq (.bool false))] [1,3,35,37] [AV.bool (!r_16) = AV.bool false] (mkS 53 [(1,.ptr 0 0),(3,.ptr 1 0),(35,.bool false),(37,i6 b_1.People)]) (⟨[(C_Band b_1),(C_Span b_1.Start)],[]⟩) (by kernel_rfl) ⟨congrArg AV.bool hc_17,trivial⟩ ?_
       refine ExO.callL [] [i6 b_1.People,i6 0,i6 1000000] rfl rfl (a_band_within b_1.People 0 1000000) rfl rfl (d_band_within N b_1.People 0 1000000 r_18 hr_18) (b_band_within _ _ _ _) rfl ?_
       refine rn 3 [1,3,30] (mkS 53 [(1,.ptr 0 0),(3,.ptr 1 0),(30,.bool (!r_18))]) ⟨[(C_Band b_1),(C_Span b_1.Start)],[]⟩ ?_
       refine ExO.nil ?_
       (try simp only [reduceCtorEq,AEx.ex.injEq,Nat.reduceEqDiff,if_true,if_false])
       exact ⟨_,_,Forgets.refl _ _ _,(!r_18),h,rfl,rfl⟩
     ·rintro a S ⟨y_12,h,rfl,rfl⟩
      subst hK_15
      rcases condI h with ⟨hc_19,h⟩ | ⟨hc_19,h⟩
      ·refine Ex.condT _ rfl hc_19 ?_
       refine Ex.seq (rg 1 [2] (mkS 53 [(2,i6 2)]) ⟨[(C_Band b_1),(C_Span b_1.Start)],[]⟩ ?_)
       refine Ex.ret ?_
       obtain rfl:=sJ h
       exact rt (i6 2)
      ·refine Ex.condF _ rfl hc_19 ?_
       refine Ex.seq ?_
       obtain ⟨n_20,hn_20,h⟩:=bE h
       refine regH 12 [(6,.eq (i6 ((b_1.Path.length : Nat) : Int))),(9,.eq (i6 n_20))] [41] [AV.int .i64 (((b_1.Path.map (AV.int .i64)).length : Nat) : Int) = AV.int .i64 ((b_1.Path.length : Nat) : Int),AV.int .i64 (IntKind.i64.wrap (b_1.Start.Hi + (IntKind.i64.wrap (b_1.Stay * (IntKind.i64.wrap (((b_1.Path.length : Nat) : Int) + 1)))))) = AV.int .i64 n_20] (mkS 53 [(41,.bool (decide (n_20 > 720)))]) (⟨[(C_Band b_1),(C_Span b_1.Start)],[]⟩) (by kernel_rfl) ⟨lenM _ _,congrArg (AV.int .i64) (Option.some.inj hn_20),trivial⟩ rfl ?_
       rcases condI h with ⟨hc_21,h⟩ | ⟨hc_21,h⟩
       ·refine Ex.condT _ rfl hc_21 ?_
        refine Ex.seq (rg 1 [2] (mkS 53 [(2,i6 12)]) ⟨[(C_Band b_1),(C_Span b_1.Start)],[]⟩ ?_)
        refine Ex.ret ?_
        obtain rfl:=sJ h
        exact rt (i6 12)
       ·refine Ex.condF _ rfl hc_21 ?_
        refine Ex.skip ?_
        refine Ex.seq (rg 1 [2] (mkS 53 [(2,i6 0)]) ⟨[(C_Band b_1),(C_Span b_1.Start)],[]⟩ ?_)
        refine Ex.ret ?_
        obtain rfl:=sJ h
        exact rt (i6 0)
structure T_band_tour where
 Band : T_Band
 squares_ : (List Int)
 deriving Inhabited
def C_band_tour (x : T_band_tour) : List AV:=[i6 x.Band.First,.sl (x.Band.Path.map (AV.int .i64)) none,i6 x.Band.Start.Lo,i6 x.Band.Start.Hi,i6 x.Band.Stay,i6 x.Band.People,.sl (x.squares_.map (AV.int .i64)) none]
attribute [local simp] C_band_tour
def A_band_tour (x : T_band_tour) : AV:=.agg (C_band_tour x)
attribute [local simp] A_band_tour
theorem KC_band_tour (x : T_band_tour) : cleanL (C_band_tour x) = true:=by simp
theorem KA_band_tour (x : T_band_tour) : (A_band_tour x).clean = true:=KC_band_tour x
theorem KL_band_tour (l : List T_band_tour) : cleanL (l.map A_band_tour) = true:=cleanM KA_band_tour l
attribute [local simp] KL_band_tour
theorem KB_band_tour (x : T_band_tour) (n : Nat) (σ : List Nat) : (C_band_tour x).mapM (re n σ) = some (C_band_tour x):=by simp
attribute [local simp] KB_band_tour
def p_band_toursOf (N : Nat) (c_1 : T_City) (bands_2 : (List T_Band)) : Option ((List T_band_tour) × Int):=((p_band_Check N c_1).bind fun r_3 => (bif (r_3 != 0) then some ([],r_3) else (bif (decide (((bands_2.length : Nat) : Int) > 10)) then some ([],5) else (letJ (fun (tours_6 : List T_band_tour) => some (tours_6,0)) (fun k_7 => (loop2 (fun rec_12 (tours_10 : List T_band_tour) (y_11 : Int) => (bif (decide (y_11 < ((bands_2.length : Nat) : Int))) then ((getI bands_2 y_11).bind fun x_16 => ((p_band_squaresOf N c_1.Town x_16).bind fun r_17 => (bif (r_17.2 != 0) then some ([],r_17.2) else ((p_band_checkNumbers N x_16).bind fun r_19 => (bif (r_19 != 0) then some ([],r_19) else ((pushI tours_10 ([(⟨x_16,r_17.1⟩ : T_band_tour)] : List T_band_tour)).bind fun l_21 => (rec_12 l_21 (IntKind.i64.wrap (y_11 + 1))))))))) else (k_7 tours_10))) N [] 0))))))
def v_band_toursOf (r : (List T_band_tour) × Int) : AV:=.tup [.sl (r.1.map A_band_tour) none,i6 r.2]
attribute [local simp] v_band_toursOf
theorem a_band_toursOf (c_1 : T_City) (bands_2 : (List T_Band)) : [(A_City c_1),.sl (bands_2.map A_Band) none].mapM (ren []) = some [(A_City c_1),.sl (bands_2.map A_Band) none]:=by simp
theorem b_band_toursOf (r : (List T_band_tour) × Int) (n n2 m : Nat) : back n n2 m (v_band_toursOf r) = some (v_band_toursOf r):=by simp
theorem d_band_toursOf (N : Nat) (c_1 : T_City) (bands_2 : (List T_Band)) (r : (List T_band_tour) × Int) (h : p_band_toursOf N c_1 bands_2 = some r) : Does Tryd.prog 20 [(A_City c_1),.sl (bands_2.map A_Band) none] [] fun v c => v = v_band_toursOf r ∧ c = []:=by
 unfold p_band_toursOf at h
 refine Does.ofL comp20 _ _ rfl rfl ?_
 refine Ex.seq (rg 3 [1,2] (mkS 50 [(1,.sl (bands_2.map A_Band) none),(2,.ptr 0 0)]) ⟨[(C_City c_1)],[]⟩ ?_)
 refine Ex.seq (Ex.seq ?_)
 obtain ⟨r_3,hr_3,h⟩:=bE h
 refine Ex.reg (rn 1 [1,2,13] (mkS 50 [(1,.sl (bands_2.map A_Band) none),(2,.ptr 0 0),(13,(A_City c_1))]) ⟨[(C_City c_1)],[]⟩ ?_)
 refine ExO.callL [] [(A_City c_1)] rfl rfl (a_band_Check c_1) rfl rfl (d_band_Check N c_1 r_3 hr_3) (b_band_Check _ _ _ _) rfl ?_
 refine rn 1 [1,2,6] (mkS 50 [(1,.sl (bands_2.map A_Band) none),(2,.ptr 0 0),(6,i6 r_3)]) ⟨[(C_City c_1)],[]⟩ ?_
 refine ExO.nil ?_
 refine Ex.seq (rg 2 [1,2,6,16] (mkS 50 [(1,.sl (bands_2.map A_Band) none),(2,.ptr 0 0),(6,i6 r_3),(16,.bool (r_3 != 0))]) ⟨[(C_City c_1)],[]⟩ ?_)
 rcases condI h with ⟨hc_4,h⟩ | ⟨hc_4,h⟩
 ·refine Ex.condT _ rfl hc_4 ?_
  refine Ex.seq (rg 3 [4,5] (mkS 50 [(4,.nils),(5,i6 r_3)]) ⟨[(C_City c_1)],[]⟩ ?_)
  refine Ex.ret ?_
  obtain rfl:=sJ h
  exact rt (.tup [.nils,i6 r_3])
 ·refine Ex.condF _ rfl hc_4 ?_
  refine Ex.skip ?_
  refine Ex.seq (Ex.seq ?_)
  refine regH 3 [(1,.eq (i6 ((bands_2.length : Nat) : Int)))] [1,2,20] [AV.int .i64 (((bands_2.map A_Band).length : Nat) : Int) = AV.int .i64 ((bands_2.length : Nat) : Int)] (mkS 50 [(1,.sl (bands_2.map A_Band) none),(2,.ptr 0 0),(20,.bool (decide (((bands_2.length : Nat) : Int) > 10)))]) (⟨[(C_City c_1)],[]⟩) (by kernel_rfl) ⟨lenM _ _,trivial⟩ rfl ?_
  rcases condI h with ⟨hc_5,h⟩ | ⟨hc_5,h⟩
  ·refine Ex.condT _ rfl hc_5 ?_
   refine Ex.seq (rg 2 [4,5] (mkS 50 [(4,.nils),(5,i6 5)]) ⟨[(C_City c_1)],[]⟩ ?_)
   refine Ex.ret ?_
   obtain rfl:=sJ h
   exact rt (.tup [.nils,i6 5])
  ·refine Ex.condF _ rfl hc_5 ?_
   refine Ex.skip ?_
   refine Ex.seq (rg 1 [1,2,7] (mkS 50 [(1,.sl (bands_2.map A_Band) none),(2,.ptr 0 0),(7,.nils)]) ⟨[(C_City c_1)],[]⟩ ?_)
   refine Ex.seq (Ex.seq ?_)
   refine regH 3 [(1,.eq (i6 ((bands_2.length : Nat) : Int)))] [2,7,21,22,23] [AV.int .i64 (((bands_2.map A_Band).length : Nat) : Int) = AV.int .i64 ((bands_2.length : Nat) : Int)] (mkS 50 [(2,.ptr 0 0),(7,.nils),(21,.sl (bands_2.map A_Band) none),(22,i6 ((bands_2.length : Nat) : Int)),(23,i6 0)]) (⟨[(C_City c_1)],[]⟩) (by kernel_rfl) ⟨lenM _ _,trivial⟩ rfl ?_
   obtain ⟨K_8,hK_9,h⟩:=letE h
   refine Ex.blockJ (fun a S => ∃ (tours_6 : List T_band_tour),K_8 tours_6 = some r ∧ a = mkS 50 [(7,.sl (tours_6.map A_band_tour) (some 0))] ∧ S = ⟨[],[(tours_6.length,7)]⟩) ?_ ?_
   ·refine Ex.forget (nilK 7 7 rfl) ?_
    refine Ex.castA (a2:=mkS 50 [(2,.ptr 0 0),(7,.sl (([] : List T_band_tour).map A_band_tour) (some 0)),(21,.sl (bands_2.map A_Band) none),(22,i6 ((bands_2.length : Nat) : Int)),(23,i6 0)]) (S2:=⟨[(C_City c_1)],[(0,7)]⟩) (by kernel_rfl) (by kernel_rfl) ?_
    obtain ⟨B_13,hB_14,h⟩:=loop2I h
    refine Ex.loopF (fun k a S => ∃ (tours_10 : List T_band_tour),∃ (y_11 : Int),loop2 B_13 k tours_10 y_11 = some r ∧ a = mkS 50 [(2,.ptr 0 0),(7,.sl (tours_10.map A_band_tour) (some 0)),(21,.sl (bands_2.map A_Band) none),(22,i6 ((bands_2.length : Nat) : Int)),(23,i6 y_11)] ∧ S = ⟨[(C_City c_1)],[(tours_10.length,7)]⟩) N ⟨_,_,Forgets.refl _ _ _,[],0,h,rfl,rfl⟩ ?_
    rintro k a S ⟨tours_10,y_11,h,rfl,rfl⟩
    cases k with
    | zero => exact (loop2Z h).elim
    | succ k =>
     replace h:=loop2S h hB_14
     refine Ex.seq (rg 1 [2,7,21,22,23,24] (mkS 50 [(2,.ptr 0 0),(7,.sl (tours_10.map A_band_tour) (some 0)),(21,.sl (bands_2.map A_Band) none),(22,i6 ((bands_2.length : Nat) : Int)),(23,i6 y_11),(24,.bool (decide (y_11 < ((bands_2.length : Nat) : Int))))]) ⟨[(C_City c_1)],[(tours_10.length,7)]⟩ ?_)
     refine Ex.seq ?_
     rcases condI h with ⟨hc_15,h⟩ | ⟨hc_15,h⟩
     ·refine Ex.condT _ rfl hc_15 ?_
      refine Ex.skip ?_
      refine Ex.seq ?_
      refine Ex.blockK ?_
      refine Ex.seq ?_
      obtain ⟨x_16,hx_16,h⟩:=bE h
      refine regH 4 [(0,.rop (C_Band x_16))] [2,7,9,21,22,23] [LGet (bands_2.map A_Band) y_11 6 (C_Band x_16)] (mkS 50 [(2,.ptr 0 0),(7,.sl (tours_10.map A_band_tour) (some 0)),(9,.ptr 1 0),(21,.sl (bands_2.map A_Band) none),(22,i6 ((bands_2.length : Nat) : Int)),(23,i6 y_11)]) (⟨[(C_City c_1),(C_Band x_16)],[(tours_10.length,7)]⟩) (by kernel_rfl) ⟨LGet.of hx_16 rfl,trivial⟩ rfl ?_
      refine Ex.seq ?_
      obtain ⟨r_17,hr_17,h⟩:=bE h
      refine Ex.reg (rn 3 [2,7,9,21,22,23,29,30] (mkS 50 [(2,.ptr 0 0),(7,.sl (tours_10.map A_band_tour) (some 0)),(9,.ptr 1 0),(21,.sl (bands_2.map A_Band) none),(22,i6 ((bands_2.length : Nat) : Int)),(23,i6 y_11),(29,(A_Town c_1.Town)),(30,(A_Band x_16))]) ⟨[(C_City c_1),(C_Band x_16)],[(tours_10.length,7)]⟩ ?_)
      refine ExO.callL [] [(A_Town c_1.Town),(A_Band x_16)] rfl rfl (a_band_squaresOf c_1.Town x_16) rfl rfl (d_band_squaresOf N c_1.Town x_16 r_17 hr_17) (b_band_squaresOf _ _ _ _) rfl ?_
      refine rn 5 [2,7,9,10,11,21,22,23] (mkS 50 [(2,.ptr 0 0),(7,.sl (tours_10.map A_band_tour) (some 0)),(9,.ptr 1 0),(10,.sl (r_17.1.map (AV.int .i64)) none),(11,i6 r_17.2),(21,.sl (bands_2.map A_Band) none),(22,i6 ((bands_2.length : Nat) : Int)),(23,i6 y_11)]) ⟨[(C_City c_1),(C_Band x_16)],[(tours_10.length,7)]⟩ ?_
      refine ExO.nil ?_
      refine Ex.seq (Ex.seq ?_)
      refine rg 2 [2,7,9,10,11,21,22,23,35] (mkS 50 [(2,.ptr 0 0),(7,.sl (tours_10.map A_band_tour) (some 0)),(9,.ptr 1 0),(10,.sl (r_17.1.map (AV.int .i64)) none),(11,i6 r_17.2),(21,.sl (bands_2.map A_Band) none),(22,i6 ((bands_2.length : Nat) : Int)),(23,i6 y_11),(35,.bool (r_17.2 != 0))]) ⟨[(C_City c_1),(C_Band x_16)],[(tours_10.length,7)]⟩ ?_
      rcases condI h with ⟨hc_18,h⟩ | ⟨hc_18,h⟩
      ·refine Ex.condT _ rfl hc_18 ?_
       refine Ex.seq (rg 3 [4,5] (mkS 50 [(4,.nils),(5,i6 r_17.2)]) ⟨[(C_City c_1),(C_Band x_16)],[(tours_10.length,7)]⟩ ?_)
       refine Ex.ret ?_
       obtain rfl:=sJ h
       exact rt (.tup [.nils,i6 r_17.2])
      ·refine Ex.condF _ rfl hc_18 ?_
       refine Ex.skip ?_
       refine Ex.seq (Ex.seq ?_)
       obtain ⟨r_19,hr_19,h⟩:=bE h
       refine Ex.reg (rn 1 [2,7,9,10,21,22,23,37] (mkS 50 [(2,.ptr 0 0),(7,.sl (tours_10.map A_band_tour) (some 0)),(9,.ptr 1 0),(10,.sl (r_17.1.map (AV.int .i64)) none),(21,.sl (bands_2.map A_Band) none),(22,i6 ((bands_2.length : Nat) : Int)),(23,i6 y_11),(37,(A_Band x_16))]) ⟨[(C_City c_1),(C_Band x_16)],[(tours_10.length,7)]⟩ ?_)
       refine ExO.callL [] [(A_Band x_16)] rfl rfl (a_band_checkNumbers x_16) rfl rfl (d_band_checkNumbers N x_16 r_19 hr_19) (b_band_checkNumbers _ _ _ _) rfl ?_
       refine rn 1 [2,7,9,10,12,21,22,23] (mkS 50 [(2,.ptr 0 0),(7,.sl (tours_10.map A_band_tour) (some 0)),(9,.ptr 1 0),(10,.sl (r_17.1.map (AV.int .i64)) none),(12,i6 r_19),(21,.sl (bands_2.map A_Band) none),(22,i6 ((bands_2.length : Nat) : Int)),(23,i6 y_11)]) ⟨[(C_City c_1),(C_Band x_16)],[(tours_10.length,7)]⟩ ?_
       refine ExO.nil ?_
       refine Ex.seq (rg 2 [2,7,9,10,12,21,22,23,40] (mkS 50 [(2,.ptr 0 0),(7,.sl (tours_10.map A_band_tour) (some 0)),(9,.ptr 1 0),(10,.sl (r_17.1.map (AV.int .i64)) none),(12,i6 r_19),(21,.sl (bands_2.map A_Band) none),(22,i6 ((bands_2.length : Nat) : Int)),(23,i6 y_11),(40,.bool (r_19 != 0))]) ⟨[(C_City c_1),(C_Band x_16)],[(tours_10.length,7)]⟩ ?_)
       rcases condI h with ⟨hc_20,h⟩ | ⟨hc_20,h⟩
       ·refine Ex.condT _ rfl hc_20 ?_
        refine Ex.seq (rg 3 [4,5] (mkS 50 [(4,.nils),(5,i6 r_19)]) ⟨[(C_City c_1),(C_Band x_16)],[(tours_10.length,7)]⟩ ?_)
        refine Ex.ret ?_
        obtain rfl:=sJ h
        exact rt (.tup [.nils,i6 r_19])
       ·refine Ex.condF _ rfl hc_20 ?_
        refine Ex.skip ?_
        refine Ex.postF ?_
        obtain ⟨l_21,hl_21,h⟩:=bE h
        refine regH 7 [(5,.app (l_21.map A_band_tour) l_21.length)] [2,7,21,22,23] [LApp tours_10.length (tours_10.map A_band_tour) (([(⟨x_16,r_17.1⟩ : T_band_tour)] : List T_band_tour).map A_band_tour) 7 (l_21.map A_band_tour) l_21.length] (mkS 50 [(2,.ptr 0 0),(7,.sl (l_21.map A_band_tour) (some 0)),(21,.sl (bands_2.map A_Band) none),(22,i6 ((bands_2.length : Nat) : Int)),(23,i6 y_11)]) (⟨[(C_City c_1),(C_Band x_16)],[(l_21.length,7),(1,7)]⟩) (by kernel_rfl) ⟨LApp.of hl_21 (fun _ => rfl),trivial⟩ rfl ?_
        refine ⟨mkS 50 [(2,.ptr 0 0),(7,.sl (l_21.map A_band_tour) (some 0)),(21,.sl (bands_2.map A_Band) none),(22,i6 ((bands_2.length : Nat) : Int)),(23,i6 y_11)],⟨[(C_City c_1),(C_Band x_16)],[(l_21.length,7),(1,7)]⟩,Forgets.refl _ _ _,?_⟩
        refine rg 2 [2,7,21,22,23] (mkS 50 [(2,.ptr 0 0),(7,.sl (l_21.map A_band_tour) (some 0)),(21,.sl (bands_2.map A_Band) none),(22,i6 ((bands_2.length : Nat) : Int)),(23,i6 (IntKind.i64.wrap (y_11 + 1)))]) ⟨[(C_City c_1),(C_Band x_16)],[(l_21.length,7),(1,7)]⟩ ?_
        dsimp only
        exact ⟨_,_,forgetA (m:=50) 1 [0] [(2,.ptr 0 0),(7,.sl (l_21.map A_band_tour) (some 0)),(21,.sl (bands_2.map A_Band) none),(22,i6 ((bands_2.length : Nat) : Int)),(23,i6 (IntKind.i64.wrap (y_11 + 1)))] [(C_City c_1)] [(l_21.length,7)] (by simp [setAll]) (by simp) ⟨rfl,(reT (KL_band_tour _) rfl),(reN (KL_Band _)),rfl,rfl,trivial⟩ (by simp) rfl (by decide),k,Nat.lt_succ_self k,l_21,(IntKind.i64.wrap (y_11 + 1)),h,rfl,rfl⟩
     ·refine Ex.condF _ rfl hc_15 ?_
      refine Ex.exit ?_
      (try simp only [reduceCtorEq,AEx.ex.injEq,Nat.reduceEqDiff,if_true,if_false])
      exact ⟨_,_,forgetA (m:=50) 0 [0] [(7,.sl (tours_10.map A_band_tour) (some 0))] [] [(tours_10.length,7)] (by simp [setAll]) (by simp) ⟨(reT (KL_band_tour _) rfl),trivial⟩ (by simp) rfl (by decide),tours_10,h,rfl,rfl⟩
   ·rintro a S ⟨tours_6,h,rfl,rfl⟩
    subst hK_9
    refine Ex.seq (rg 3 [4,5] (mkS 50 [(4,.sl (tours_6.map A_band_tour) (some 0)),(5,i6 0)]) ⟨[],[(tours_6.length,7)]⟩ ?_)
    refine Ex.ret ?_
    obtain rfl:=sJ h
    exact rt (.tup [.sl (tours_6.map A_band_tour) (some 0),i6 0])
def p_band_tour_starts (N : Nat) (t_1 : T_band_tour) : Option (T_band_tour):=some t_1
def v_band_tour_starts (r : T_band_tour) : AV:=.fn 45 [] [.rop (C_band_tour r)]
attribute [local simp] v_band_tour_starts
theorem a_band_tour_starts (t_1 : T_band_tour) : [(A_band_tour t_1)].mapM (ren []) = some [(A_band_tour t_1)]:=by simp
theorem b_band_tour_starts (r : T_band_tour) (n n2 m : Nat) : back n n2 m (v_band_tour_starts r) = some (v_band_tour_starts r):=by simp
theorem d_band_tour_starts (N : Nat) (t_1 : T_band_tour) (r : T_band_tour) (h : p_band_tour_starts N t_1 = some r) : Does Tryd.prog 36 [(A_band_tour t_1)] [] fun v c => v = v_band_tour_starts r ∧ c = []:=by
 unfold p_band_tour_starts at h
 refine Does.ofL comp36 _ _ rfl rfl ?_
 refine Ex.seq (rg 2 [1] (mkS 4 [(1,.ptr 0 0)]) ⟨[(C_band_tour t_1)],[]⟩ ?_)
 refine Ex.seq (rg 2 [2] (mkS 4 [(2,.fn 45 [] [.ptr 0 0])]) ⟨[(C_band_tour t_1)],[]⟩ ?_)
 refine Ex.forget (forgetK [2]) ?_
 refine Ex.castA (a2:=mkS 4 [(2,.fn 45 [] [.ptr 0 0])]) (S2:=⟨[(C_band_tour t_1)],[]⟩) (by kernel_rfl) (by kernel_rfl) ?_
 obtain rfl:=sJ h
 refine Ex.forget (chillP 2 0 (C_band_tour t_1) _ rfl rfl) ?_
 refine Ex.castA (a2:=mkS 4 [(2,.fn 45 [] [.rop (C_band_tour t_1)])]) (S2:=⟨[[]],[]⟩) (by kernel_rfl) (by kernel_rfl) ?_
 refine Ex.ret ?_
 exact rt (.fn 45 [] [.rop (C_band_tour t_1)])
structure T_band_visit where
 Span : T_Span
 square_ : Int
 street_ : Int
 deriving Inhabited
def C_band_visit (x : T_band_visit) : List AV:=[i6 x.Span.Lo,i6 x.Span.Hi,i6 x.square_,i6 x.street_]
attribute [local simp] C_band_visit
def A_band_visit (x : T_band_visit) : AV:=.agg (C_band_visit x)
attribute [local simp] A_band_visit
theorem KC_band_visit (x : T_band_visit) : cleanL (C_band_visit x) = true:=by simp
theorem KA_band_visit (x : T_band_visit) : (A_band_visit x).clean = true:=KC_band_visit x
theorem KL_band_visit (l : List T_band_visit) : cleanL (l.map A_band_visit) = true:=cleanM KA_band_visit l
attribute [local simp] KL_band_visit
theorem KB_band_visit (x : T_band_visit) (n : Nat) (σ : List Nat) : (C_band_visit x).mapM (re n σ) = some (C_band_visit x):=by simp
attribute [local simp] KB_band_visit
def p_band_tour_visits (N : Nat) (t_1 : T_band_tour) (start_2 : T_Span) : Option ((List T_band_visit)):=((mkI ((t_1.squares_.length : Nat) : Int)).bind fun k_3 => (letJ (fun (visits_4 : List T_band_visit) => some visits_4) (fun k_5 => (loop3 (fun rec_11 (visits_8 : List T_band_visit) (street_9 : Int) (y_10 : Int) => (bif (decide (y_10 < ((t_1.squares_.length : Nat) : Int))) then ((getI t_1.squares_ y_10).bind fun x_15 => ((some (IntKind.i64.wrap ((IntKind.i64.wrap (start_2.Hi + (IntKind.i64.wrap ((IntKind.i64.wrap (y_10 + 1)) * t_1.Band.Stay)))) - 1))).bind fun n_16 => (letJ (fun (street_17 : Int) => ((pushI visits_8 ([(⟨(⟨(IntKind.i64.wrap (start_2.Lo + (IntKind.i64.wrap (y_10 * t_1.Band.Stay)))),n_16⟩ : T_Span),x_15,street_17⟩ : T_band_visit)] : List T_band_visit)).bind fun l_23 => (rec_11 l_23 street_17 (IntKind.i64.wrap (y_10 + 1))))) (fun k_18 => (bif (decide (y_10 > 0)) then ((getI t_1.Band.Path (IntKind.i64.wrap (y_10 - 1))).bind fun x_22 => (k_18 x_22)) else (k_18 street_9)))))) else (k_5 visits_8))) N [] (-1) 0))))
def v_band_tour_visits (r : (List T_band_visit)) : AV:=.sl (r.map A_band_visit) none
attribute [local simp] v_band_tour_visits
theorem a_band_tour_visits (t_1 : T_band_tour) (start_2 : T_Span) : [(A_band_tour t_1),(A_Span start_2)].mapM (ren []) = some [(A_band_tour t_1),(A_Span start_2)]:=by simp
theorem b_band_tour_visits (r : (List T_band_visit)) (n n2 m : Nat) : back n n2 m (v_band_tour_visits r) = some (v_band_tour_visits r):=by simp
theorem d_band_tour_visits (N : Nat) (t_1 : T_band_tour) (start_2 : T_Span) (r : (List T_band_visit)) (h : p_band_tour_visits N t_1 start_2 = some r) : Does Tryd.prog 37 [(A_band_tour t_1),(A_Span start_2)] [] fun v c => v = v_band_tour_visits r ∧ c = []:=by
 unfold p_band_tour_visits at h
 refine Does.ofL comp37 _ _ rfl rfl ?_
 refine Ex.seq (rg 3 [2,3] (mkS 59 [(2,.ptr 0 0),(3,.ptr 1 0)]) ⟨[(C_band_tour t_1),(C_Span start_2)],[]⟩ ?_)
 refine Ex.seq ?_
 obtain ⟨k_3,hk_3,h⟩:=bE h
 refine regH 5 [(2,.eq (i6 ((t_1.squares_.length : Nat) : Int))),(3,.mk0)] [2,3,5] [AV.int .i64 (((t_1.squares_.map (AV.int .i64)).length : Nat) : Int) = AV.int .i64 ((t_1.squares_.length : Nat) : Int),0 ≤ ((t_1.squares_.length : Nat) : Int) ∧ ((t_1.squares_.length : Nat) : Int) ≤ 65536] (mkS 59 [(2,.ptr 0 0),(3,.ptr 1 0),(5,.sl (([] : List T_band_visit).map A_band_visit) (some 0))]) (⟨[(C_band_tour t_1),(C_Span start_2)],[(0,4)]⟩) (by kernel_rfl) ⟨lenM _ _,mk0_of hk_3,trivial⟩ rfl ?_
 refine Ex.seq (rg 1 [2,3,5,6] (mkS 59 [(2,.ptr 0 0),(3,.ptr 1 0),(5,.sl (([] : List T_band_visit).map A_band_visit) (some 0)),(6,i6 (-1))]) ⟨[(C_band_tour t_1),(C_Span start_2)],[(0,4)]⟩ ?_)
 refine Ex.seq (Ex.seq ?_)
 refine regH 4 [(2,.eq (i6 ((t_1.squares_.length : Nat) : Int)))] [2,3,5,6,15,16,17] [AV.int .i64 (((t_1.squares_.map (AV.int .i64)).length : Nat) : Int) = AV.int .i64 ((t_1.squares_.length : Nat) : Int)] (mkS 59 [(2,.ptr 0 0),(3,.ptr 1 0),(5,.sl (([] : List T_band_visit).map A_band_visit) (some 0)),(6,i6 (-1)),(15,.sl (t_1.squares_.map (AV.int .i64)) none),(16,i6 ((t_1.squares_.length : Nat) : Int)),(17,i6 0)]) (⟨[(C_band_tour t_1),(C_Span start_2)],[(0,4)]⟩) (by kernel_rfl) ⟨lenM _ _,trivial⟩ rfl ?_
 obtain ⟨K_6,hK_7,h⟩:=letE h
 refine Ex.blockJ (fun a S => ∃ (visits_4 : List T_band_visit),K_6 visits_4 = some r ∧ a = mkS 59 [(5,.sl (visits_4.map A_band_visit) (some 0))] ∧ S = ⟨[],[(visits_4.length,4)]⟩) ?_ ?_
 ·obtain ⟨B_12,hB_13,h⟩:=loop3I h
  refine Ex.loopF (fun k a S => ∃ (visits_8 : List T_band_visit),∃ (street_9 : Int),∃ (y_10 : Int),loop3 B_12 k visits_8 street_9 y_10 = some r ∧ a = mkS 59 [(2,.ptr 0 0),(3,.ptr 1 0),(5,.sl (visits_8.map A_band_visit) (some 0)),(6,i6 street_9),(15,.sl (t_1.squares_.map (AV.int .i64)) none),(16,i6 ((t_1.squares_.length : Nat) : Int)),(17,i6 y_10)] ∧ S = ⟨[(C_band_tour t_1),(C_Span start_2)],[(visits_8.length,4)]⟩) N ⟨_,_,Forgets.refl _ _ _,[],(-1),0,h,rfl,rfl⟩ ?_
  rintro k a S ⟨visits_8,street_9,y_10,h,rfl,rfl⟩
  cases k with
  | zero => exact (loop3Z h).elim
  | succ k =>
   replace h:=loop3S h hB_13
   refine Ex.seq (rg 1 [2,3,5,6,15,16,17,18] (mkS 59 [(2,.ptr 0 0),(3,.ptr 1 0),(5,.sl (visits_8.map A_band_visit) (some 0)),(6,i6 street_9),(15,.sl (t_1.squares_.map (AV.int .i64)) none),(16,i6 ((t_1.squares_.length : Nat) : Int)),(17,i6 y_10),(18,.bool (decide (y_10 < ((t_1.squares_.length : Nat) : Int))))]) ⟨[(C_band_tour t_1),(C_Span start_2)],[(visits_8.length,4)]⟩ ?_)
   refine Ex.seq ?_
   rcases condI h with ⟨hc_14,h⟩ | ⟨hc_14,h⟩
   ·refine Ex.condT _ rfl hc_14 ?_
    refine Ex.skip ?_
    refine Ex.seq ?_
    refine Ex.blockK ?_
    refine Ex.seq ?_
    obtain ⟨x_15,hx_15,h⟩:=bE h
    refine regH 5 [(1,.rop [i6 x_15])] [2,3,5,6,7,8,15,16,17] [LGet (t_1.squares_.map (AV.int .i64)) y_10 1 [i6 x_15]] (mkS 59 [(2,.ptr 0 0),(3,.ptr 1 0),(5,.sl (visits_8.map A_band_visit) (some 0)),(6,i6 street_9),(7,i6 y_10),(8,i6 x_15),(15,.sl (t_1.squares_.map (AV.int .i64)) none),(16,i6 ((t_1.squares_.length : Nat) : Int)),(17,i6 y_10)]) (⟨[(C_band_tour t_1),(C_Span start_2)],[(visits_8.length,4)]⟩) (by kernel_rfl) ⟨LGet.of hx_15 rfl,trivial⟩ rfl ?_
    refine Ex.seq ?_
    obtain ⟨n_16,hn_16,h⟩:=bE h
    refine regH 21 [(17,.eq (i6 n_16))] [2,3,5,6,7,8,9,15,16,17] [AV.int .i64 (IntKind.i64.wrap ((IntKind.i64.wrap (start_2.Hi + (IntKind.i64.wrap ((IntKind.i64.wrap (y_10 + 1)) * t_1.Band.Stay)))) - 1)) = AV.int .i64 n_16] (mkS 59 [(2,.ptr 0 0),(3,.ptr 1 0),(5,.sl (visits_8.map A_band_visit) (some 0)),(6,i6 street_9),(7,i6 y_10),(8,i6 x_15),(9,.ptr 2 0),(15,.sl (t_1.squares_.map (AV.int .i64)) none),(16,i6 ((t_1.squares_.length : Nat) : Int)),(17,i6 y_10)]) (⟨[(C_band_tour t_1),(C_Span start_2),[i6 (IntKind.i64.wrap (start_2.Lo + (IntKind.i64.wrap (y_10 * t_1.Band.Stay)))),i6 n_16]],[(visits_8.length,4)]⟩) (by kernel_rfl) ⟨congrArg (AV.int .i64) (Option.some.inj hn_16),trivial⟩ rfl ?_
    obtain ⟨K_19,hK_20,h⟩:=letE h
    refine Ex.seqJ (fun a S => ∃ (street_17 : Int),K_19 street_17 = some r ∧ a = mkS 59 [(2,.ptr 0 0),(3,.ptr 1 0),(5,.sl (visits_8.map A_band_visit) (some 0)),(6,i6 street_17),(8,i6 x_15),(9,.ptr 2 0),(15,.sl (t_1.squares_.map (AV.int .i64)) none),(16,i6 ((t_1.squares_.length : Nat) : Int)),(17,i6 y_10)] ∧ S = ⟨[(C_band_tour t_1),(C_Span start_2),[i6 (IntKind.i64.wrap (start_2.Lo + (IntKind.i64.wrap (y_10 * t_1.Band.Stay)))),i6 n_16]],[(visits_8.length,4)]⟩) ?_ ?_
    ·refine Ex.seq (rg 2 [2,3,5,6,7,8,9,15,16,17,42] (mkS 59 [(2,.ptr 0 0),(3,.ptr 1 0),(5,.sl (visits_8.map A_band_visit) (some 0)),(6,i6 street_9),(7,i6 y_10),(8,i6 x_15),(9,.ptr 2 0),(15,.sl (t_1.squares_.map (AV.int .i64)) none),(16,i6 ((t_1.squares_.length : Nat) : Int)),(17,i6 y_10),(42,.bool (decide (y_10 > 0)))]) ⟨[(C_band_tour t_1),(C_Span start_2),[i6 (IntKind.i64.wrap (start_2.Lo + (IntKind.i64.wrap (y_10 * t_1.Band.Stay)))),i6 n_16]],[(visits_8.length,4)]⟩ ?_)
     rcases condI h with ⟨hc_21,h⟩ | ⟨hc_21,h⟩
     ·refine Ex.condT _ rfl hc_21 ?_
      obtain ⟨x_22,hx_22,h⟩:=bE h
      refine regH 8 [(5,.rop [i6 x_22])] [2,3,5,6,8,9,15,16,17] [LGet (t_1.Band.Path.map (AV.int .i64)) (IntKind.i64.wrap (y_10 - 1)) 1 [i6 x_22]] (mkS 59 [(2,.ptr 0 0),(3,.ptr 1 0),(5,.sl (visits_8.map A_band_visit) (some 0)),(6,i6 x_22),(8,i6 x_15),(9,.ptr 2 0),(15,.sl (t_1.squares_.map (AV.int .i64)) none),(16,i6 ((t_1.squares_.length : Nat) : Int)),(17,i6 y_10)]) (⟨[(C_band_tour t_1),(C_Span start_2),[i6 (IntKind.i64.wrap (start_2.Lo + (IntKind.i64.wrap (y_10 * t_1.Band.Stay)))),i6 n_16]],[(visits_8.length,4)]⟩) (by kernel_rfl) ⟨LGet.of hx_22 rfl,trivial⟩ rfl ?_
      (try simp only [reduceCtorEq,AEx.ex.injEq,Nat.reduceEqDiff,if_true,if_false])
      exact ⟨_,_,Forgets.refl _ _ _,x_22,h,rfl,rfl⟩
     ·refine Ex.condF _ rfl hc_21 ?_
      refine Ex.skip ?_
      (try simp only [reduceCtorEq,AEx.ex.injEq,Nat.reduceEqDiff,if_true,if_false])
      exact ⟨_,_,forgetK [2,3,5,6,8,9,15,16,17],street_9,h,rfl,rfl⟩
    ·rintro a S ⟨street_17,h,rfl,rfl⟩
     subst hK_20
     obtain ⟨l_23,hl_23,h⟩:=bE h
     refine regH 8 [(6,.app (l_23.map A_band_visit) l_23.length)] [2,3,5,6,15,16,17] [LApp visits_8.length (visits_8.map A_band_visit) (([(⟨(⟨(IntKind.i64.wrap (start_2.Lo + (IntKind.i64.wrap (y_10 * t_1.Band.Stay)))),n_16⟩ : T_Span),x_15,street_17⟩ : T_band_visit)] : List T_band_visit).map A_band_visit) 4 (l_23.map A_band_visit) l_23.length] (mkS 59 [(2,.ptr 0 0),(3,.ptr 1 0),(5,.sl (l_23.map A_band_visit) (some 0)),(6,i6 street_17),(15,.sl (t_1.squares_.map (AV.int .i64)) none),(16,i6 ((t_1.squares_.length : Nat) : Int)),(17,i6 y_10)]) (⟨[(C_band_tour t_1),(C_Span start_2),[i6 (IntKind.i64.wrap (start_2.Lo + (IntKind.i64.wrap (y_10 * t_1.Band.Stay)))),i6 n_16]],[(l_23.length,4),(1,4)]⟩) (by kernel_rfl) ⟨LApp.of hl_23 (fun _ => rfl),trivial⟩ rfl ?_
     refine rg 2 [2,3,5,6,15,16,17] (mkS 59 [(2,.ptr 0 0),(3,.ptr 1 0),(5,.sl (l_23.map A_band_visit) (some 0)),(6,i6 street_17),(15,.sl (t_1.squares_.map (AV.int .i64)) none),(16,i6 ((t_1.squares_.length : Nat) : Int)),(17,i6 (IntKind.i64.wrap (y_10 + 1)))]) ⟨[(C_band_tour t_1),(C_Span start_2),[i6 (IntKind.i64.wrap (start_2.Lo + (IntKind.i64.wrap (y_10 * t_1.Band.Stay)))),i6 n_16]],[(l_23.length,4),(1,4)]⟩ ?_
     dsimp only
     exact ⟨_,_,forgetA (m:=59) 2 [0] [(2,.ptr 0 0),(3,.ptr 1 0),(5,.sl (l_23.map A_band_visit) (some 0)),(6,i6 street_17),(15,.sl (t_1.squares_.map (AV.int .i64)) none),(16,i6 ((t_1.squares_.length : Nat) : Int)),(17,i6 (IntKind.i64.wrap (y_10 + 1)))] [(C_band_tour t_1),(C_Span start_2)] [(l_23.length,4)] (by simp [setAll]) (by simp) ⟨rfl,rfl,(reT (KL_band_visit _) rfl),rfl,(reN (cleanI _ _)),rfl,rfl,trivial⟩ (by simp) rfl (by decide),k,Nat.lt_succ_self k,l_23,street_17,(IntKind.i64.wrap (y_10 + 1)),h,rfl,rfl⟩
   ·refine Ex.condF _ rfl hc_14 ?_
    refine Ex.exit ?_
    (try simp only [reduceCtorEq,AEx.ex.injEq,Nat.reduceEqDiff,if_true,if_false])
    exact ⟨_,_,forgetA (m:=59) 0 [0] [(5,.sl (visits_8.map A_band_visit) (some 0))] [] [(visits_8.length,4)] (by simp [setAll]) (by simp) ⟨(reT (KL_band_visit _) rfl),trivial⟩ (by simp) rfl (by decide),visits_8,h,rfl,rfl⟩
 ·rintro a S ⟨visits_4,h,rfl,rfl⟩
  subst hK_7
  refine Ex.seq (rg 2 [4] (mkS 59 [(4,.sl (visits_4.map A_band_visit) (some 0))]) ⟨[],[(visits_4.length,4)]⟩ ?_)
  refine Ex.ret ?_
  obtain rfl:=sJ h
  exact rt (.sl (visits_4.map A_band_visit) (some 0))
def p_band_visit_meets (N : Nat) (v_1 : T_band_visit) (w_2 : T_band_visit) (pause_3 : Int) : Option (Bool):=(letJ (fun (near_4 : Bool) => (bif (v_1.street_ == w_2.street_) then (bif (v_1.street_ != (-1)) then (bif near_4 then some true else some (v_1.Span.Lo == w_2.Span.Lo)) else (bif near_4 then some true else some false)) else (bif near_4 then some true else some false))) (fun k_5 => (bif (v_1.square_ == w_2.square_) then (bif (decide ((IntKind.i64.wrap (w_2.Span.Lo - v_1.Span.Hi)) ≤ pause_3)) then (k_5 (decide ((IntKind.i64.wrap (v_1.Span.Lo - w_2.Span.Hi)) ≤ pause_3))) else (k_5 false)) else (k_5 false))))
def v_band_visit_meets (r : Bool) : AV:=.bool r
attribute [local simp] v_band_visit_meets
theorem a_band_visit_meets (v_1 : T_band_visit) (w_2 : T_band_visit) (pause_3 : Int) : [(A_band_visit v_1),(A_band_visit w_2),i6 pause_3].mapM (ren []) = some [(A_band_visit v_1),(A_band_visit w_2),i6 pause_3]:=by simp
theorem b_band_visit_meets (r : Bool) (n n2 m : Nat) : back n n2 m (v_band_visit_meets r) = some (v_band_visit_meets r):=by simp
theorem d_band_visit_meets (N : Nat) (v_1 : T_band_visit) (w_2 : T_band_visit) (pause_3 : Int) (r : Bool) (h : p_band_visit_meets N v_1 w_2 pause_3 = some r) : Does Tryd.prog 49 [(A_band_visit v_1),(A_band_visit w_2),i6 pause_3] [] fun v c => v = v_band_visit_meets r ∧ c = []:=by
 unfold p_band_visit_meets at h
 refine Does.ofL comp49 _ _ rfl rfl ?_
 refine Ex.seq (rg 3 [2,3,4] (mkS 59 [(2,i6 pause_3),(3,.ptr 0 0),(4,.ptr 1 0)]) ⟨[(C_band_visit v_1),(C_band_visit w_2)],[]⟩ ?_)
 obtain ⟨K_6,hK_7,h⟩:=letE h
 refine Ex.seqJ (fun a S => ∃ (near_4 : Bool),K_6 near_4 = some r ∧ a = mkS 59 [(3,.ptr 0 0),(4,.ptr 1 0),(7,.bool near_4)] ∧ S = ⟨[(C_band_visit v_1),(C_band_visit w_2)],[]⟩) ?_ ?_
 ·rcases condI h with ⟨hc_8,h⟩ | ⟨hc_8,h⟩
  ·rcases condI h with ⟨hc_9,h⟩ | ⟨hc_9,h⟩
   ·refine regH 28 [(5, .eq (.bool true)), (16, .eq (.bool true))] [3, 4, 7] [AV.bool (v_1.square_ == w_2.square_) = AV.bool true, AV.bool (decide ((IntKind.i64.wrap (w_2.Span.Lo - v_1.Span.Hi)) ≤ pause_3)) = AV.bool true] (mkS 59 [(3, .ptr 0 0), (4, .ptr 1 0), (7, .bool (decide ((IntKind.i64.wrap (v_1.Span.Lo - w_2.Span.Hi)) ≤ pause_3)))]) (⟨[(C_band_visit v_1), (C_band_visit w_2)], []⟩) (by kernel_rfl) ⟨congrArg AV.bool hc_8, congrArg AV.bool hc_9, trivial⟩ rfl ?_
    (try simp only [reduceCtorEq,AEx.ex.injEq,Nat.reduceEqDiff,if_true,if_false])
    exact ⟨_,_,Forgets.refl _ _ _,(decide ((IntKind.i64.wrap (v_1.Span.Lo - w_2.Span.Hi)) ≤ pause_3)),h,rfl,rfl⟩
   ·refine regH 28 [(5, .eq (.bool true)), (16, .eq (.bool false))] [3, 4, 7] [AV.bool (v_1.square_ == w_2.square_) = AV.bool true, AV.bool (decide ((IntKind.i64.wrap (w_2.Span.Lo - v_1.Span.Hi)) ≤ pause_3)) = AV.bool false] (mkS 59 [(3, .ptr 0 0), (4, .ptr 1 0), (7, .bool false)]) (⟨[(C_band_visit v_1), (C_band_visit w_2)], []⟩) (by kernel_rfl) ⟨congrArg AV.bool hc_8, congrArg AV.bool hc_9, trivial⟩ rfl ?_
    (try simp only [reduceCtorEq,AEx.ex.injEq,Nat.reduceEqDiff,if_true,if_false])
    exact ⟨_,_,Forgets.refl _ _ _,false,h,rfl,rfl⟩
  ·refine regH 28 [(5, .eq (.bool false))] [3, 4, 7] [AV.bool (v_1.square_ == w_2.square_) = AV.bool false] (mkS 59 [(3, .ptr 0 0), (4, .ptr 1 0), (7, .bool false)]) (⟨[(C_band_visit v_1), (C_band_visit w_2)], []⟩) (by kernel_rfl) ⟨congrArg AV.bool hc_8, trivial⟩ rfl ?_
   (try simp only [reduceCtorEq,AEx.ex.injEq,Nat.reduceEqDiff,if_true,if_false])
   exact ⟨_,_,Forgets.refl _ _ _,false,h,rfl,rfl⟩
 ·rintro a S ⟨near_4,h,rfl,rfl⟩
  subst hK_7
  refine Ex.seq ?_
  rcases condI h with ⟨hc_10,h⟩ | ⟨hc_10,h⟩
  ·rcases condI h with ⟨hc_11,h⟩ | ⟨hc_11,h⟩
   ·refine regH 20 [(5, .eq (.bool true)), (10, .eq (.bool true))] [7, 8] [AV.bool (v_1.street_ == w_2.street_) = AV.bool true, AV.bool (v_1.street_ != (-1)) = AV.bool true] (mkS 59 [(7, .bool near_4), (8, .bool (v_1.Span.Lo == w_2.Span.Lo))]) (⟨[(C_band_visit v_1), (C_band_visit w_2)], []⟩) (by kernel_rfl) ⟨congrArg AV.bool hc_10, congrArg AV.bool hc_11, trivial⟩ rfl ?_
    refine Ex.seq ?_
    rcases condI h with ⟨hc_12,h⟩ | ⟨hc_12,h⟩
    ·refine regH 5 [(1, .eq (.bool true))] [6] [AV.bool near_4 = AV.bool true] (mkS 59 [(6, .bool true)]) (⟨[(C_band_visit v_1), (C_band_visit w_2)], []⟩) (by kernel_rfl) ⟨congrArg AV.bool hc_12, trivial⟩ rfl ?_
     refine Ex.ret ?_
     obtain rfl:=sJ h
     exact rt (.bool true)
    ·refine regH 5 [(1, .eq (.bool false))] [6] [AV.bool near_4 = AV.bool false] (mkS 59 [(6, .bool (v_1.Span.Lo == w_2.Span.Lo))]) (⟨[(C_band_visit v_1), (C_band_visit w_2)], []⟩) (by kernel_rfl) ⟨congrArg AV.bool hc_12, trivial⟩ rfl ?_
     refine Ex.ret ?_
     obtain rfl:=sJ h
     exact rt (.bool (v_1.Span.Lo == w_2.Span.Lo))
   ·refine regH 20 [(5, .eq (.bool true)), (10, .eq (.bool false))] [7, 8] [AV.bool (v_1.street_ == w_2.street_) = AV.bool true, AV.bool (v_1.street_ != (-1)) = AV.bool false] (mkS 59 [(7, .bool near_4), (8, .bool false)]) (⟨[(C_band_visit v_1), (C_band_visit w_2)], []⟩) (by kernel_rfl) ⟨congrArg AV.bool hc_10, congrArg AV.bool hc_11, trivial⟩ rfl ?_
    refine Ex.seq ?_
    rcases condI h with ⟨hc_13,h⟩ | ⟨hc_13,h⟩
    ·refine regH 5 [(1, .eq (.bool true))] [6] [AV.bool near_4 = AV.bool true] (mkS 59 [(6, .bool true)]) (⟨[(C_band_visit v_1), (C_band_visit w_2)], []⟩) (by kernel_rfl) ⟨congrArg AV.bool hc_13, trivial⟩ rfl ?_
     refine Ex.ret ?_
     obtain rfl:=sJ h
     exact rt (.bool true)
    ·refine regH 5 [(1, .eq (.bool false))] [6] [AV.bool near_4 = AV.bool false] (mkS 59 [(6, .bool false)]) (⟨[(C_band_visit v_1), (C_band_visit w_2)], []⟩) (by kernel_rfl) ⟨congrArg AV.bool hc_13, trivial⟩ rfl ?_
     refine Ex.ret ?_
     obtain rfl:=sJ h
     exact rt (.bool false)
  ·refine regH 20 [(5, .eq (.bool false))] [7, 8] [AV.bool (v_1.street_ == w_2.street_) = AV.bool false] (mkS 59 [(7, .bool near_4), (8, .bool false)]) (⟨[(C_band_visit v_1), (C_band_visit w_2)], []⟩) (by kernel_rfl) ⟨congrArg AV.bool hc_10, trivial⟩ rfl ?_
   refine Ex.seq ?_
   rcases condI h with ⟨hc_14,h⟩ | ⟨hc_14,h⟩
   ·refine regH 5 [(1, .eq (.bool true))] [6] [AV.bool near_4 = AV.bool true] (mkS 59 [(6, .bool true)]) (⟨[(C_band_visit v_1), (C_band_visit w_2)], []⟩) (by kernel_rfl) ⟨congrArg AV.bool hc_14, trivial⟩ rfl ?_
    refine Ex.ret ?_
    obtain rfl:=sJ h
    exact rt (.bool true)
   ·refine regH 5 [(1, .eq (.bool false))] [6] [AV.bool near_4 = AV.bool false] (mkS 59 [(6, .bool false)]) (⟨[(C_band_visit v_1), (C_band_visit w_2)], []⟩) (by kernel_rfl) ⟨congrArg AV.bool hc_14, trivial⟩ rfl ?_
    refine Ex.ret ?_
    obtain rfl:=sJ h
    exact rt (.bool false)
def p_band_meet_1_1 (N : Nat) (w_1 : T_band_visit) (a_2 : T_band_visit) (a_3 : Int) : Option (Bool):=((p_band_visit_meets N a_2 w_1 a_3).bind fun r_4 => some r_4)
def v_band_meet_1_1 (r : Bool) : AV:=.bool r
attribute [local simp] v_band_meet_1_1
theorem b_band_meet_1_1 (r : Bool) (n n2 m : Nat) : back n n2 m (v_band_meet_1_1 r) = some (v_band_meet_1_1 r):=by simp
theorem d_band_meet_1_1 (N : Nat) (w_1 : T_band_visit) (a_2 : T_band_visit) (a_3 : Int) (r : Bool) (h : p_band_meet_1_1 N w_1 a_2 a_3 = some r) : Does Tryd.prog 48 [(A_band_visit w_1),.ptr 0 0,.ptr 1 0] [(C_band_visit a_2),[i6 a_3]] fun v c => v = v_band_meet_1_1 r ∧ c = [(C_band_visit a_2),[i6 a_3]]:=by
 unfold p_band_meet_1_1 at h
 refine Does.ofL comp48 _ _ rfl rfl ?_
 refine Ex.seq (rg 2 [1,2,3] (mkS 9 [(1,.ptr 0 0),(2,.ptr 1 0),(3,.ptr 2 0)]) ⟨[(C_band_visit a_2),[i6 a_3],(C_band_visit w_1)],[]⟩ ?_)
 refine Ex.seq ?_
 obtain ⟨r_4,hr_4,h⟩:=bE h
 refine Ex.reg (rn 3 [5,6,7] (mkS 9 [(5,(A_band_visit a_2)),(6,(A_band_visit w_1)),(7,i6 a_3)]) ⟨[(C_band_visit a_2),[i6 a_3],(C_band_visit w_1)],[]⟩ ?_)
 refine ExO.callL [] [(A_band_visit a_2),(A_band_visit w_1),i6 a_3] rfl rfl (a_band_visit_meets a_2 w_1 a_3) rfl rfl (d_band_visit_meets N a_2 w_1 a_3 r_4 hr_4) (b_band_visit_meets _ _ _ _) rfl ?_
 refine rn 1 [4] (mkS 9 [(4,.bool r_4)]) ⟨[(C_band_visit a_2),[i6 a_3],(C_band_visit w_1)],[]⟩ ?_
 refine ExO.nil ?_
 refine Ex.ret ?_
 obtain rfl:=sJ h
 exact rt (.bool r_4)
def p_slices_IndexFunc_band_visit_band_visit_band_meet_1_1 (N : Nat) (s_1 : (List T_band_visit)) (a_2 : T_band_visit) (a_3 : Int) : Option (Int):=(letJ (fun (_ : Unit) => some (-1)) (fun k_4 => (loop1 (fun rec_8 (y_7 : Int) => (bif (decide (y_7 < ((s_1.length : Nat) : Int))) then ((getI s_1 y_7).bind fun x_12 => ((p_band_meet_1_1 N x_12 a_2 a_3).bind fun r_13 => (bif r_13 then some y_7 else (rec_8 (IntKind.i64.wrap (y_7 + 1)))))) else (k_4 ()))) N 0)))
def v_slices_IndexFunc_band_visit_band_visit_band_meet_1_1 (r : Int) : AV:=i6 r
attribute [local simp] v_slices_IndexFunc_band_visit_band_visit_band_meet_1_1
theorem b_slices_IndexFunc_band_visit_band_visit_band_meet_1_1 (r : Int) (n n2 m : Nat) : back n n2 m (v_slices_IndexFunc_band_visit_band_visit_band_meet_1_1 r) = some (v_slices_IndexFunc_band_visit_band_visit_band_meet_1_1 r):=by simp
theorem d_slices_IndexFunc_band_visit_band_visit_band_meet_1_1 (N : Nat) (s_1 : (List T_band_visit)) (a_2 : T_band_visit) (a_3 : Int) (r : Int) (h : p_slices_IndexFunc_band_visit_band_visit_band_meet_1_1 N s_1 a_2 a_3 = some r) : Does Tryd.prog 58 [.sl (s_1.map A_band_visit) none,.fn 48 [] [.ptr 0 0,.ptr 1 0]] [(C_band_visit a_2),[i6 a_3]] fun v c => v = v_slices_IndexFunc_band_visit_band_visit_band_meet_1_1 r ∧ c = [(C_band_visit a_2),[i6 a_3]]:=by
 unfold p_slices_IndexFunc_band_visit_band_visit_band_meet_1_1 at h
 refine Does.ofL comp58 _ _ rfl rfl ?_
 refine Ex.seq (rg 1 [0,1] (mkS 19 [(0,.sl (s_1.map A_band_visit) none),(1,.fn 48 [] [.ptr 0 0,.ptr 1 0])]) ⟨[(C_band_visit a_2),[i6 a_3]],[]⟩ ?_)
 refine Ex.seq (Ex.seq ?_)
 refine regH 3 [(1,.eq (i6 ((s_1.length : Nat) : Int)))] [0,1,7,8] [AV.int .i64 (((s_1.map A_band_visit).length : Nat) : Int) = AV.int .i64 ((s_1.length : Nat) : Int)] (mkS 19 [(0,.sl (s_1.map A_band_visit) none),(1,.fn 48 [] [.ptr 0 0,.ptr 1 0]),(7,i6 ((s_1.length : Nat) : Int)),(8,i6 0)]) (⟨[(C_band_visit a_2),[i6 a_3]],[]⟩) (by kernel_rfl) ⟨lenM _ _,trivial⟩ rfl ?_
 obtain ⟨K_5,hK_6,h⟩:=letE h
 refine Ex.blockJ (fun a S => K_5 () = some r ∧ a = mkS 19 [] ∧ S = ⟨[(C_band_visit a_2),[i6 a_3]],[]⟩) ?_ ?_
 ·obtain ⟨B_9,hB_10,h⟩:=loop1I h
  refine Ex.loopF (fun k a S => ∃ (y_7 : Int),loop1 B_9 k y_7 = some r ∧ a = mkS 19 [(0,.sl (s_1.map A_band_visit) none),(1,.fn 48 [] [.ptr 0 0,.ptr 1 0]),(7,i6 ((s_1.length : Nat) : Int)),(8,i6 y_7)] ∧ S = ⟨[(C_band_visit a_2),[i6 a_3]],[]⟩) N ⟨_,_,Forgets.refl _ _ _,0,h,rfl,rfl⟩ ?_
  rintro k a S ⟨y_7,h,rfl,rfl⟩
  cases k with
  | zero => exact (loop1Z h).elim
  | succ k =>
   replace h:=loop1S h hB_10
   refine Ex.seq (rg 1 [0,1,7,8,9] (mkS 19 [(0,.sl (s_1.map A_band_visit) none),(1,.fn 48 [] [.ptr 0 0,.ptr 1 0]),(7,i6 ((s_1.length : Nat) : Int)),(8,i6 y_7),(9,.bool (decide (y_7 < ((s_1.length : Nat) : Int))))]) ⟨[(C_band_visit a_2),[i6 a_3]],[]⟩ ?_)
   refine Ex.seq ?_
   rcases condI h with ⟨hc_11,h⟩ | ⟨hc_11,h⟩
   ·refine Ex.condT _ rfl hc_11 ?_
    refine Ex.skip ?_
    refine Ex.seq ?_
    refine Ex.blockK ?_
    refine Ex.seq (rg 2 [0,1,5,7,8] (mkS 19 [(0,.sl (s_1.map A_band_visit) none),(1,.fn 48 [] [.ptr 0 0,.ptr 1 0]),(5,i6 y_7),(7,i6 ((s_1.length : Nat) : Int)),(8,i6 y_7)]) ⟨[(C_band_visit a_2),[i6 a_3]],[]⟩ ?_)
    refine Ex.seq ?_
    obtain ⟨x_12,hx_12,h⟩:=bE h
    obtain ⟨r_13,hr_13,h⟩:=bE h
    refine Ex.reg ?_
    refine runH 5 [(3,.rop (C_band_visit x_12))] [0,1,5,7,8,11,15] [LGet (s_1.map A_band_visit) y_7 4 (C_band_visit x_12)] (mkS 19 [(0,.sl (s_1.map A_band_visit) none),(1,.fn 48 [] [.ptr 0 0,.ptr 1 0]),(5,i6 y_7),(7,i6 ((s_1.length : Nat) : Int)),(8,i6 y_7),(11,.fn 48 [] [.ptr 0 0,.ptr 1 0]),(15,(A_band_visit x_12))]) (⟨[(C_band_visit a_2),[i6 a_3]],[]⟩) (by kernel_rfl) ⟨LGet.of hx_12 rfl,trivial⟩ ?_
    refine ExO.callL [0,1] [(A_band_visit x_12),.ptr 0 0,.ptr 1 0] rfl rfl (by simp; try rfl) rfl (by simp) (d_band_meet_1_1 N x_12 a_2 a_3 r_13 hr_13) (b_band_meet_1_1 _ _ _ _) (by simp) ?_
    refine rn 0 [0,1,5,7,8,16] (mkS 19 [(0,.sl (s_1.map A_band_visit) none),(1,.fn 48 [] [.ptr 0 0,.ptr 1 0]),(5,i6 y_7),(7,i6 ((s_1.length : Nat) : Int)),(8,i6 y_7),(16,.bool r_13)]) ⟨[(C_band_visit a_2),[i6 a_3]],[]⟩ ?_
    refine ExO.nil ?_
    rcases condI h with ⟨hc_14,h⟩ | ⟨hc_14,h⟩
    ·refine Ex.condT _ rfl hc_14 ?_
     refine Ex.seq (rg 2 [4] (mkS 19 [(4,i6 y_7)]) ⟨[(C_band_visit a_2),[i6 a_3]],[]⟩ ?_)
     refine Ex.ret ?_
     obtain rfl:=sJ h
     exact rt (i6 y_7)
    ·refine Ex.condF _ rfl hc_14 ?_
     refine Ex.skip ?_
     refine rg 2 [0,1,7,8] (mkS 19 [(0,.sl (s_1.map A_band_visit) none),(1,.fn 48 [] [.ptr 0 0,.ptr 1 0]),(7,i6 ((s_1.length : Nat) : Int)),(8,i6 (IntKind.i64.wrap (y_7 + 1)))]) ⟨[(C_band_visit a_2),[i6 a_3]],[]⟩ ?_
     dsimp only
     exact ⟨_,_,Forgets.refl _ _ _,k,Nat.lt_succ_self k,(IntKind.i64.wrap (y_7 + 1)),h,rfl,rfl⟩
   ·refine Ex.condF _ rfl hc_11 ?_
    refine Ex.exit ?_
    (try simp only [reduceCtorEq,AEx.ex.injEq,Nat.reduceEqDiff,if_true,if_false])
    exact ⟨_,_,forgetK [],h,rfl,rfl⟩
 ·rintro a S ⟨h,rfl,rfl⟩
  subst hK_6
  refine Ex.seq (rg 1 [4] (mkS 19 [(4,i6 (-1))]) ⟨[(C_band_visit a_2),[i6 a_3]],[]⟩ ?_)
  refine Ex.ret ?_
  obtain rfl:=sJ h
  exact rt (i6 (-1))
def p_slices_ContainsFunc_band_visit_band_visit_band_meet_1_1 (N : Nat) (s_1 : (List T_band_visit)) (a_2 : T_band_visit) (a_3 : Int) : Option (Bool):=((p_slices_IndexFunc_band_visit_band_visit_band_meet_1_1 N s_1 a_2 a_3).bind fun r_4 => some (decide (r_4 ≥ 0)))
def v_slices_ContainsFunc_band_visit_band_visit_band_meet_1_1 (r : Bool) : AV:=.bool r
attribute [local simp] v_slices_ContainsFunc_band_visit_band_visit_band_meet_1_1
theorem b_slices_ContainsFunc_band_visit_band_visit_band_meet_1_1 (r : Bool) (n n2 m : Nat) : back n n2 m (v_slices_ContainsFunc_band_visit_band_visit_band_meet_1_1 r) = some (v_slices_ContainsFunc_band_visit_band_visit_band_meet_1_1 r):=by simp
theorem d_slices_ContainsFunc_band_visit_band_visit_band_meet_1_1 (N : Nat) (s_1 : (List T_band_visit)) (a_2 : T_band_visit) (a_3 : Int) (r : Bool) (h : p_slices_ContainsFunc_band_visit_band_visit_band_meet_1_1 N s_1 a_2 a_3 = some r) : Does Tryd.prog 46 [.sl (s_1.map A_band_visit) none,.fn 48 [] [.ptr 0 0,.ptr 1 0]] [(C_band_visit a_2),[i6 a_3]] fun v c => v = v_slices_ContainsFunc_band_visit_band_visit_band_meet_1_1 r ∧ c = [(C_band_visit a_2),[i6 a_3]]:=by
 unfold p_slices_ContainsFunc_band_visit_band_visit_band_meet_1_1 at h
 refine Does.ofL comp46 _ _ rfl rfl ?_
 refine Ex.seq (rg 1 [0,1] (mkS 9 [(0,.sl (s_1.map A_band_visit) none),(1,.fn 48 [] [.ptr 0 0,.ptr 1 0])]) ⟨[(C_band_visit a_2),[i6 a_3]],[]⟩ ?_)
 refine Ex.seq ?_
 obtain ⟨r_4,hr_4,h⟩:=bE h
 refine Ex.reg (rn 2 [5,6] (mkS 9 [(5,.sl (s_1.map A_band_visit) none),(6,.fn 48 [] [.ptr 0 0,.ptr 1 0])]) ⟨[(C_band_visit a_2),[i6 a_3]],[]⟩ ?_)
 refine ExO.callL [0,1] [.sl (s_1.map A_band_visit) none,.fn 48 [] [.ptr 0 0,.ptr 1 0]] rfl rfl (by simp; try rfl) rfl (by simp) (d_slices_IndexFunc_band_visit_band_visit_band_meet_1_1 N s_1 a_2 a_3 r_4 hr_4) (b_slices_IndexFunc_band_visit_band_visit_band_meet_1_1 _ _ _ _) (by simp) ?_
 refine rn 2 [4] (mkS 9 [(4,.bool (decide (r_4 ≥ 0)))]) ⟨[(C_band_visit a_2),[i6 a_3]],[]⟩ ?_
 refine ExO.nil ?_
 refine Ex.ret ?_
 obtain rfl:=sJ h
 exact rt (.bool (decide (r_4 ≥ 0)))
def p_band_meet_1 (N : Nat) (v_1 : T_band_visit) (a_2 : (List T_band_visit)) (a_3 : Int) : Option (Bool):=((p_slices_ContainsFunc_band_visit_band_visit_band_meet_1_1 N a_2 v_1 a_3).bind fun r_4 => some r_4)
def v_band_meet_1 (r : Bool) : AV:=.bool r
attribute [local simp] v_band_meet_1
theorem b_band_meet_1 (r : Bool) (n n2 m : Nat) : back n n2 m (v_band_meet_1 r) = some (v_band_meet_1 r):=by simp
theorem d_band_meet_1 (N : Nat) (v_1 : T_band_visit) (a_2 : (List T_band_visit)) (a_3 : Int) (r : Bool) (h : p_band_meet_1 N v_1 a_2 a_3 = some r) : Does Tryd.prog 47 [(A_band_visit v_1),.ptr 0 0,.ptr 1 0] [[.sl (a_2.map A_band_visit) none],[i6 a_3]] fun v c => v = v_band_meet_1 r ∧ c = [[.sl (a_2.map A_band_visit) none],[i6 a_3]]:=by
 unfold p_band_meet_1 at h
 refine Does.ofL comp47 _ _ rfl rfl ?_
 refine Ex.seq (rg 2 [1,2,3] (mkS 8 [(1,.ptr 0 0),(2,.ptr 1 0),(3,.ptr 2 0)]) ⟨[[.sl (a_2.map A_band_visit) none],[i6 a_3],(C_band_visit v_1)],[]⟩ ?_)
 refine Ex.seq ?_
 obtain ⟨r_4,hr_4,h⟩:=bE h
 refine Ex.reg (rn 2 [5,6] (mkS 8 [(5,.sl (a_2.map A_band_visit) none),(6,.fn 48 [] [.ptr 2 0,.ptr 1 0])]) ⟨[[.sl (a_2.map A_band_visit) none],[i6 a_3],(C_band_visit v_1)],[]⟩ ?_)
 refine ExO.callL [2,1] [.sl (a_2.map A_band_visit) none,.fn 48 [] [.ptr 2 0,.ptr 1 0]] rfl rfl (by simp; try rfl) rfl (by simp) (d_slices_ContainsFunc_band_visit_band_visit_band_meet_1_1 N a_2 v_1 a_3 r_4 hr_4) (b_slices_ContainsFunc_band_visit_band_visit_band_meet_1_1 _ _ _ _) (by simp) ?_
 refine rn 1 [4] (mkS 8 [(4,.bool r_4)]) ⟨[[.sl (a_2.map A_band_visit) none],[i6 a_3],(C_band_visit v_1)],[]⟩ ?_
 refine ExO.nil ?_
 refine Ex.ret ?_
 obtain rfl:=sJ h
 exact rt (.bool r_4)
def p_slices_IndexFunc_band_visit_band_visit_band_meet_1 (N : Nat) (s_1 : (List T_band_visit)) (a_2 : (List T_band_visit)) (a_3 : Int) : Option (Int):=(letJ (fun (_ : Unit) => some (-1)) (fun k_4 => (loop1 (fun rec_8 (y_7 : Int) => (bif (decide (y_7 < ((s_1.length : Nat) : Int))) then ((getI s_1 y_7).bind fun x_12 => ((p_band_meet_1 N x_12 a_2 a_3).bind fun r_13 => (bif r_13 then some y_7 else (rec_8 (IntKind.i64.wrap (y_7 + 1)))))) else (k_4 ()))) N 0)))
def v_slices_IndexFunc_band_visit_band_visit_band_meet_1 (r : Int) : AV:=i6 r
attribute [local simp] v_slices_IndexFunc_band_visit_band_visit_band_meet_1
theorem b_slices_IndexFunc_band_visit_band_visit_band_meet_1 (r : Int) (n n2 m : Nat) : back n n2 m (v_slices_IndexFunc_band_visit_band_visit_band_meet_1 r) = some (v_slices_IndexFunc_band_visit_band_visit_band_meet_1 r):=by simp
theorem d_slices_IndexFunc_band_visit_band_visit_band_meet_1 (N : Nat) (s_1 : (List T_band_visit)) (a_2 : (List T_band_visit)) (a_3 : Int) (r : Int) (h : p_slices_IndexFunc_band_visit_band_visit_band_meet_1 N s_1 a_2 a_3 = some r) : Does Tryd.prog 58 [.sl (s_1.map A_band_visit) none,.fn 47 [] [.ptr 0 0,.ptr 1 0]] [[.sl (a_2.map A_band_visit) none],[i6 a_3]] fun v c => v = v_slices_IndexFunc_band_visit_band_visit_band_meet_1 r ∧ c = [[.sl (a_2.map A_band_visit) none],[i6 a_3]]:=by
 unfold p_slices_IndexFunc_band_visit_band_visit_band_meet_1 at h
 refine Does.ofL comp58 _ _ rfl rfl ?_
 refine Ex.seq (rg 1 [0,1] (mkS 19 [(0,.sl (s_1.map A_band_visit) none),(1,.fn 47 [] [.ptr 0 0,.ptr 1 0])]) ⟨[[.sl (a_2.map A_band_visit) none],[i6 a_3]],[]⟩ ?_)
 refine Ex.seq (Ex.seq ?_)
 refine regH 3 [(1,.eq (i6 ((s_1.length : Nat) : Int)))] [0,1,7,8] [AV.int .i64 (((s_1.map A_band_visit).length : Nat) : Int) = AV.int .i64 ((s_1.length : Nat) : Int)] (mkS 19 [(0,.sl (s_1.map A_band_visit) none),(1,.fn 47 [] [.ptr 0 0,.ptr 1 0]),(7,i6 ((s_1.length : Nat) : Int)),(8,i6 0)]) (⟨[[.sl (a_2.map A_band_visit) none],[i6 a_3]],[]⟩) (by kernel_rfl) ⟨lenM _ _,trivial⟩ rfl ?_
 obtain ⟨K_5,hK_6,h⟩:=letE h
 refine Ex.blockJ (fun a S => K_5 () = some r ∧ a = mkS 19 [] ∧ S = ⟨[[.sl (a_2.map A_band_visit) none],[i6 a_3]],[]⟩) ?_ ?_
 ·obtain ⟨B_9,hB_10,h⟩:=loop1I h
  refine Ex.loopF (fun k a S => ∃ (y_7 : Int),loop1 B_9 k y_7 = some r ∧ a = mkS 19 [(0,.sl (s_1.map A_band_visit) none),(1,.fn 47 [] [.ptr 0 0,.ptr 1 0]),(7,i6 ((s_1.length : Nat) : Int)),(8,i6 y_7)] ∧ S = ⟨[[.sl (a_2.map A_band_visit) none],[i6 a_3]],[]⟩) N ⟨_,_,Forgets.refl _ _ _,0,h,rfl,rfl⟩ ?_
  rintro k a S ⟨y_7,h,rfl,rfl⟩
  cases k with
  | zero => exact (loop1Z h).elim
  | succ k =>
   replace h:=loop1S h hB_10
   refine Ex.seq (rg 1 [0,1,7,8,9] (mkS 19 [(0,.sl (s_1.map A_band_visit) none),(1,.fn 47 [] [.ptr 0 0,.ptr 1 0]),(7,i6 ((s_1.length : Nat) : Int)),(8,i6 y_7),(9,.bool (decide (y_7 < ((s_1.length : Nat) : Int))))]) ⟨[[.sl (a_2.map A_band_visit) none],[i6 a_3]],[]⟩ ?_)
   refine Ex.seq ?_
   rcases condI h with ⟨hc_11,h⟩ | ⟨hc_11,h⟩
   ·refine Ex.condT _ rfl hc_11 ?_
    refine Ex.skip ?_
    refine Ex.seq ?_
    refine Ex.blockK ?_
    refine Ex.seq (rg 2 [0,1,5,7,8] (mkS 19 [(0,.sl (s_1.map A_band_visit) none),(1,.fn 47 [] [.ptr 0 0,.ptr 1 0]),(5,i6 y_7),(7,i6 ((s_1.length : Nat) : Int)),(8,i6 y_7)]) ⟨[[.sl (a_2.map A_band_visit) none],[i6 a_3]],[]⟩ ?_)
    refine Ex.seq ?_
    obtain ⟨x_12,hx_12,h⟩:=bE h
    obtain ⟨r_13,hr_13,h⟩:=bE h
    refine Ex.reg ?_
    refine runH 5 [(3,.rop (C_band_visit x_12))] [0,1,5,7,8,11,15] [LGet (s_1.map A_band_visit) y_7 4 (C_band_visit x_12)] (mkS 19 [(0,.sl (s_1.map A_band_visit) none),(1,.fn 47 [] [.ptr 0 0,.ptr 1 0]),(5,i6 y_7),(7,i6 ((s_1.length : Nat) : Int)),(8,i6 y_7),(11,.fn 47 [] [.ptr 0 0,.ptr 1 0]),(15,(A_band_visit x_12))]) (⟨[[.sl (a_2.map A_band_visit) none],[i6 a_3]],[]⟩) (by kernel_rfl) ⟨LGet.of hx_12 rfl,trivial⟩ ?_
    refine ExO.callL [0,1] [(A_band_visit x_12),.ptr 0 0,.ptr 1 0] rfl rfl (by simp; try rfl) rfl (by simp) (d_band_meet_1 N x_12 a_2 a_3 r_13 hr_13) (b_band_meet_1 _ _ _ _) (by simp) ?_
    refine rn 0 [0,1,5,7,8,16] (mkS 19 [(0,.sl (s_1.map A_band_visit) none),(1,.fn 47 [] [.ptr 0 0,.ptr 1 0]),(5,i6 y_7),(7,i6 ((s_1.length : Nat) : Int)),(8,i6 y_7),(16,.bool r_13)]) ⟨[[.sl (a_2.map A_band_visit) none],[i6 a_3]],[]⟩ ?_
    refine ExO.nil ?_
    rcases condI h with ⟨hc_14,h⟩ | ⟨hc_14,h⟩
    ·refine Ex.condT _ rfl hc_14 ?_
     refine Ex.seq (rg 2 [4] (mkS 19 [(4,i6 y_7)]) ⟨[[.sl (a_2.map A_band_visit) none],[i6 a_3]],[]⟩ ?_)
     refine Ex.ret ?_
     obtain rfl:=sJ h
     exact rt (i6 y_7)
    ·refine Ex.condF _ rfl hc_14 ?_
     refine Ex.skip ?_
     refine rg 2 [0,1,7,8] (mkS 19 [(0,.sl (s_1.map A_band_visit) none),(1,.fn 47 [] [.ptr 0 0,.ptr 1 0]),(7,i6 ((s_1.length : Nat) : Int)),(8,i6 (IntKind.i64.wrap (y_7 + 1)))]) ⟨[[.sl (a_2.map A_band_visit) none],[i6 a_3]],[]⟩ ?_
     dsimp only
     exact ⟨_,_,Forgets.refl _ _ _,k,Nat.lt_succ_self k,(IntKind.i64.wrap (y_7 + 1)),h,rfl,rfl⟩
   ·refine Ex.condF _ rfl hc_11 ?_
    refine Ex.exit ?_
    (try simp only [reduceCtorEq,AEx.ex.injEq,Nat.reduceEqDiff,if_true,if_false])
    exact ⟨_,_,forgetK [],h,rfl,rfl⟩
 ·rintro a S ⟨h,rfl,rfl⟩
  subst hK_6
  refine Ex.seq (rg 1 [4] (mkS 19 [(4,i6 (-1))]) ⟨[[.sl (a_2.map A_band_visit) none],[i6 a_3]],[]⟩ ?_)
  refine Ex.ret ?_
  obtain rfl:=sJ h
  exact rt (i6 (-1))
def p_slices_ContainsFunc_band_visit_band_visit_band_meet_1 (N : Nat) (s_1 : (List T_band_visit)) (a_2 : (List T_band_visit)) (a_3 : Int) : Option (Bool):=((p_slices_IndexFunc_band_visit_band_visit_band_meet_1 N s_1 a_2 a_3).bind fun r_4 => some (decide (r_4 ≥ 0)))
def v_slices_ContainsFunc_band_visit_band_visit_band_meet_1 (r : Bool) : AV:=.bool r
attribute [local simp] v_slices_ContainsFunc_band_visit_band_visit_band_meet_1
theorem b_slices_ContainsFunc_band_visit_band_visit_band_meet_1 (r : Bool) (n n2 m : Nat) : back n n2 m (v_slices_ContainsFunc_band_visit_band_visit_band_meet_1 r) = some (v_slices_ContainsFunc_band_visit_band_visit_band_meet_1 r):=by simp
theorem d_slices_ContainsFunc_band_visit_band_visit_band_meet_1 (N : Nat) (s_1 : (List T_band_visit)) (a_2 : (List T_band_visit)) (a_3 : Int) (r : Bool) (h : p_slices_ContainsFunc_band_visit_band_visit_band_meet_1 N s_1 a_2 a_3 = some r) : Does Tryd.prog 46 [.sl (s_1.map A_band_visit) none,.fn 47 [] [.ptr 0 0,.ptr 1 0]] [[.sl (a_2.map A_band_visit) none],[i6 a_3]] fun v c => v = v_slices_ContainsFunc_band_visit_band_visit_band_meet_1 r ∧ c = [[.sl (a_2.map A_band_visit) none],[i6 a_3]]:=by
 unfold p_slices_ContainsFunc_band_visit_band_visit_band_meet_1 at h
 refine Does.ofL comp46 _ _ rfl rfl ?_
 refine Ex.seq (rg 1 [0,1] (mkS 9 [(0,.sl (s_1.map A_band_visit) none),(1,.fn 47 [] [.ptr 0 0,.ptr 1 0])]) ⟨[[.sl (a_2.map A_band_visit) none],[i6 a_3]],[]⟩ ?_)
 refine Ex.seq ?_
 obtain ⟨r_4,hr_4,h⟩:=bE h
 refine Ex.reg (rn 2 [5,6] (mkS 9 [(5,.sl (s_1.map A_band_visit) none),(6,.fn 47 [] [.ptr 0 0,.ptr 1 0])]) ⟨[[.sl (a_2.map A_band_visit) none],[i6 a_3]],[]⟩ ?_)
 refine ExO.callL [0,1] [.sl (s_1.map A_band_visit) none,.fn 47 [] [.ptr 0 0,.ptr 1 0]] rfl rfl (by simp; try rfl) rfl (by simp) (d_slices_IndexFunc_band_visit_band_visit_band_meet_1 N s_1 a_2 a_3 r_4 hr_4) (b_slices_IndexFunc_band_visit_band_visit_band_meet_1 _ _ _ _) (by simp) ?_
 refine rn 2 [4] (mkS 9 [(4,.bool (decide (r_4 ≥ 0)))]) ⟨[[.sl (a_2.map A_band_visit) none],[i6 a_3]],[]⟩ ?_
 refine ExO.nil ?_
 refine Ex.ret ?_
 obtain rfl:=sJ h
 exact rt (.bool (decide (r_4 ≥ 0)))
def p_band_meet (N : Nat) (visits_1 : (List T_band_visit)) (others_2 : (List T_band_visit)) (pause_3 : Int) : Option (Bool):=((p_slices_ContainsFunc_band_visit_band_visit_band_meet_1 N visits_1 others_2 pause_3).bind fun r_4 => some r_4)
def v_band_meet (r : Bool) : AV:=.bool r
attribute [local simp] v_band_meet
theorem a_band_meet (visits_1 : (List T_band_visit)) (others_2 : (List T_band_visit)) (pause_3 : Int) : [.sl (visits_1.map A_band_visit) none,.sl (others_2.map A_band_visit) none,i6 pause_3].mapM (ren []) = some [.sl (visits_1.map A_band_visit) none,.sl (others_2.map A_band_visit) none,i6 pause_3]:=by simp
theorem b_band_meet (r : Bool) (n n2 m : Nat) : back n n2 m (v_band_meet r) = some (v_band_meet r):=by simp
theorem d_band_meet (N : Nat) (visits_1 : (List T_band_visit)) (others_2 : (List T_band_visit)) (pause_3 : Int) (r : Bool) (h : p_band_meet N visits_1 others_2 pause_3 = some r) : Does Tryd.prog 38 [.sl (visits_1.map A_band_visit) none,.sl (others_2.map A_band_visit) none,i6 pause_3] [] fun v c => v = v_band_meet r ∧ c = []:=by
 unfold p_band_meet at h
 refine Does.ofL comp38 _ _ rfl rfl ?_
 refine Ex.seq (rg 3 [0,4,5] (mkS 10 [(0,.sl (visits_1.map A_band_visit) none),(4,.ptr 0 0),(5,.ptr 1 0)]) ⟨[[.sl (others_2.map A_band_visit) none],[i6 pause_3]],[]⟩ ?_)
 refine Ex.seq ?_
 obtain ⟨r_4,hr_4,h⟩:=bE h
 refine Ex.reg (rn 2 [7,8] (mkS 10 [(7,.sl (visits_1.map A_band_visit) none),(8,.fn 47 [] [.ptr 0 0,.ptr 1 0])]) ⟨[[.sl (others_2.map A_band_visit) none],[i6 pause_3]],[]⟩ ?_)
 refine ExO.callL [0,1] [.sl (visits_1.map A_band_visit) none,.fn 47 [] [.ptr 0 0,.ptr 1 0]] rfl rfl (by simp; try rfl) rfl (by simp) (d_slices_ContainsFunc_band_visit_band_visit_band_meet_1 N visits_1 others_2 pause_3 r_4 hr_4) (b_slices_ContainsFunc_band_visit_band_visit_band_meet_1 _ _ _ _) (by simp) ?_
 refine rn 1 [6] (mkS 10 [(6,.bool r_4)]) ⟨[[.sl (others_2.map A_band_visit) none],[i6 pause_3]],[]⟩ ?_
 refine ExO.nil ?_
 refine Ex.ret ?_
 obtain rfl:=sJ h
 exact rt (.bool r_4)
def p_band_verdict (N : Nat) (a_1 : T_band_tour) (b_2 : T_band_tour) (pause_3 : Int) : Option (Int):=((p_band_tour_starts N a_1).bind fun r_4 => (letJ (fun (b_12 : Bool) (b_13 : Bool) => (bif (!b_13) then some 1 else (bif (!b_12) then some 2 else some 3))) (fun k_14 => (letJ (fun (b_17 : Bool) (b_18 : Bool) => (k_14 b_17 b_18)) (fun k_19 => (loop3 (fun rec_25 (start_22 : Int) (b_23 : Bool) (b_24 : Bool) => (bif (decide (start_22 ≤ r_4.Band.Start.Hi)) then (letJ (fun (b_37 : Bool) (b_38 : Bool) => (rec_25 (IntKind.i64.wrap (start_22 + 1)) b_37 b_38)) (fun k_39 => ((p_band_tour_visits N a_1 (⟨start_22,start_22⟩ : T_Span)).bind fun r_42 => ((p_band_tour_starts N b_2).bind fun r_43 => (letJ (fun (b_51 : Bool) (b_52 : Bool) => (k_39 b_51 b_52)) (fun k_53 => (letJ (fun (b_56 : Bool) (b_57 : Bool) => (k_53 b_56 b_57)) (fun k_58 => (loop3 (fun rec_64 (start_61 : Int) (b_62 : Bool) (b_63 : Bool) => (bif (decide (start_61 ≤ r_43.Band.Start.Hi)) then (letJ (fun (b_76 : Bool) (b_77 : Bool) => (rec_64 (IntKind.i64.wrap (start_61 + 1)) b_76 b_77)) (fun k_78 => (letJ (fun (b_81 : Bool) (b_82 : Bool) => (k_78 b_81 b_82)) (fun k_83 => ((p_band_tour_visits N b_2 (⟨start_61,start_61⟩ : T_Span)).bind fun r_86 => ((p_band_meet N r_42 r_86 pause_3).bind fun r_88 => (bif r_88 then (k_83 true b_63) else (k_83 b_62 true)))))))) else (k_58 b_62 b_63))) N r_43.Band.Start.Lo b_23 b_24))))))))) else (k_19 b_23 b_24))) N r_4.Band.Start.Lo false false))))))
def v_band_verdict (r : Int) : AV:=i6 r
attribute [local simp] v_band_verdict
theorem a_band_verdict (a_1 : T_band_tour) (b_2 : T_band_tour) (pause_3 : Int) : [(A_band_tour a_1),(A_band_tour b_2),i6 pause_3].mapM (ren []) = some [(A_band_tour a_1),(A_band_tour b_2),i6 pause_3]:=by simp
theorem b_band_verdict (r : Int) (n n2 m : Nat) : back n n2 m (v_band_verdict r) = some (v_band_verdict r):=by simp
theorem d_band_verdict (N : Nat) (a_1 : T_band_tour) (b_2 : T_band_tour) (pause_3 : Int) (r : Int) (h : p_band_verdict N a_1 b_2 pause_3 = some r) : Does Tryd.prog 21 [(A_band_tour a_1),(A_band_tour b_2),i6 pause_3] [] fun v c => v = v_band_verdict r ∧ c = []:=by
 unfold p_band_verdict at h
 refine Does.ofL comp21 _ _ rfl rfl ?_
 refine Ex.seq (rg 4 [3,4,5,6] (mkS 33 [(3,.ptr 0 0),(4,.ptr 1 0),(5,.ptr 2 0),(6,i6 0)]) ⟨[(C_band_tour a_1),(C_band_tour b_2),[i6 pause_3]],[]⟩ ?_)
 refine Ex.seq (rg 4 [3,4,5,6,7,8] (mkS 33 [(3,.ptr 0 0),(4,.ptr 1 0),(5,.ptr 2 0),(6,i6 0),(7,.ptr 3 0),(8,.ptr 4 0)]) ⟨[(C_band_tour a_1),(C_band_tour b_2),[i6 pause_3],[.bool false],[.bool false]],[]⟩ ?_)
 refine Ex.seq (Ex.seq ?_)
 obtain ⟨r_4,hr_4,h⟩:=bE h
 refine Ex.reg (rn 1 [3,4,5,6,7,8,12] (mkS 33 [(3,.ptr 0 0),(4,.ptr 1 0),(5,.ptr 2 0),(6,i6 0),(7,.ptr 3 0),(8,.ptr 4 0),(12,(A_band_tour a_1))]) ⟨[(C_band_tour a_1),(C_band_tour b_2),[i6 pause_3],[.bool false],[.bool false]],[]⟩ ?_)
 refine ExO.callL [] [(A_band_tour a_1)] rfl rfl (a_band_tour_starts a_1) rfl rfl (d_band_tour_starts N a_1 r_4 hr_4) (b_band_tour_starts _ _ _ _) rfl ?_
 refine rn 0 [3,4,5,6,7,8,13] (mkS 33 [(3,.ptr 0 0),(4,.ptr 1 0),(5,.ptr 2 0),(6,i6 0),(7,.ptr 3 0),(8,.ptr 4 0),(13,.fn 45 [] [.rop (C_band_tour r_4)])]) ⟨[(C_band_tour a_1),(C_band_tour b_2),[i6 pause_3],[.bool false],[.bool false]],[]⟩ ?_
 refine ExO.nil ?_
 refine Ex.blockK ?_
 obtain ⟨K_15,hK_16,h⟩:=letE h
 refine Ex.rangeJ (fun k S => (k = 0 ∧ ∃ (b_12 : Bool),∃ (b_13 : Bool),K_15 b_12 b_13 = some r ∧ S = ⟨[(C_band_tour a_1),(C_band_tour b_2),[i6 pause_3],[.bool b_12],[.bool b_13]],[(0,0)]⟩)) 45 [.rop (C_band_tour r_4)] _ rfl comp45 rfl (by simp [setAll]) (by exact trivial) (mkS 22 [(1,.rop (C_band_tour r_4)),(2,.tup []),(3,.tup []),(4,.tup []),(5,.tup []),(6,.tup []),(7,.tup []),(8,.tup []),(9,.tup []),(10,.tup []),(11,.tup []),(12,.tup []),(13,.tup []),(14,.tup []),(15,.tup []),(16,.tup []),(17,.tup []),(18,.tup []),(19,.tup []),(20,.tup []),(21,.tup [])]) (⟨[(C_band_tour a_1),(C_band_tour b_2),[i6 pause_3],[.bool false],[.bool false]],[(0,0)]⟩) (fun _ => by kernel_rfl) (by kernel_rfl) ?_ ?_
 ·intro cx_6 Lp_5 hcn_7 hcm_8 hLt_9 hL_10 hup_11
  refine Ex.castA (a2:=mkS 22 [(0,.yld Lp_5.l 0),(1,.rop (C_band_tour r_4)),(2,.tup []),(3,.tup []),(4,.tup []),(5,.tup []),(6,.tup []),(7,.tup []),(8,.tup []),(9,.tup []),(10,.tup []),(11,.tup []),(12,.tup []),(13,.tup []),(14,.tup []),(15,.tup []),(16,.tup []),(17,.tup []),(18,.tup []),(19,.tup []),(20,.tup []),(21,.tup [])]) (S2:=⟨[(C_band_tour a_1),(C_band_tour b_2),[i6 pause_3],[.bool false],[.bool false]],[(0,0)]⟩) (by kernel_rfl) rfl ?_
  refine Ex.seq (rg 5 [0,1,3] (mkS 22 [(0,.yld Lp_5.l 0),(1,.rop (C_band_tour r_4)),(3,i6 r_4.Band.Start.Lo)]) ⟨[(C_band_tour a_1),(C_band_tour b_2),[i6 pause_3],[.bool false],[.bool false]],[(0,0)]⟩ ?_)
  obtain ⟨K_20,hK_21,h⟩:=letE h
  refine Ex.blockJ (fun a S => ∃ (b_17 : Bool),∃ (b_18 : Bool),K_20 b_17 b_18 = some r ∧ a = mkS 22 [] ∧ S = ⟨[(C_band_tour a_1),(C_band_tour b_2),[i6 pause_3],[.bool b_17],[.bool b_18]],[(0,0)]⟩) ?_ ?_
  ·obtain ⟨B_26,hB_27,h⟩:=loop3I h
   refine Ex.loopF (fun k a S => ∃ (start_22 : Int),∃ (b_23 : Bool),∃ (b_24 : Bool),loop3 B_26 k start_22 b_23 b_24 = some r ∧ a = mkS 22 [(0,.yld Lp_5.l 0),(1,.rop (C_band_tour r_4)),(3,i6 start_22)] ∧ S = ⟨[(C_band_tour a_1),(C_band_tour b_2),[i6 pause_3],[.bool b_23],[.bool b_24]],[(0,0)]⟩) N ⟨_,_,Forgets.refl _ _ _,r_4.Band.Start.Lo,false,false,h,rfl,rfl⟩ ?_
   rintro k a S ⟨start_22,b_23,b_24,h,rfl,rfl⟩
   cases k with
   | zero => exact (loop3Z h).elim
   | succ k =>
    replace h:=loop3S h hB_27
    refine Ex.seq (Ex.seq ?_)
    refine rg 6 [0,1,3,13] (mkS 22 [(0,.yld Lp_5.l 0),(1,.rop (C_band_tour r_4)),(3,i6 start_22),(13,.bool (decide (start_22 ≤ r_4.Band.Start.Hi)))]) ⟨[(C_band_tour a_1),(C_band_tour b_2),[i6 pause_3],[.bool b_23],[.bool b_24]],[(0,0)]⟩ ?_
    rcases condI h with ⟨hc_28,h⟩ | ⟨hc_28,h⟩
    ·refine Ex.condT _ rfl hc_28 ?_
     refine Ex.skip ?_
     refine Ex.seq ?_
     refine Ex.blockK ?_
     refine Ex.seq ?_
     refine Ex.regI ?_
     refine runI 4 [] [0,1,3,16,19] [] (mkS 22 [(0,.yld Lp_5.l 0),(1,.rop (C_band_tour r_4)),(3,i6 start_22),(16,.yld Lp_5.l 0),(19,.agg [i6 start_22,i6 start_22])]) (⟨[(C_band_tour a_1),(C_band_tour b_2),[i6 pause_3],[.bool b_23],[.bool b_24]],[(0,0)]⟩) (by kernel_rfl) trivial ?_
     obtain ⟨K_40,hK_41,h⟩:=letE h
     refine ExI.yieldT 0 hLt_9 hL_10 [.agg [i6 start_22,i6 start_22]] rfl rfl rfl (by kernel_rfl) rfl rfl (leC hcn_7 (by simp [setAll])) ?_
     intro ca_29 cb_30 ha_31 hb_32 hma_33 hmb_34 hup_35 hbz_36
     refine Ex.castA (a2:=mkS 33 [(3,.ptr 0 0),(4,.ptr 1 0),(5,.ptr 2 0),(6,i6 0),(7,.ptr 3 0),(8,.ptr 4 0),(13,.fn 45 [] [.rop (C_band_tour r_4)]),(14,.agg [i6 start_22,i6 start_22])]) (S2:=⟨[(C_band_tour a_1),(C_band_tour b_2),[i6 pause_3],[.bool b_23],[.bool b_24]],[(0,0)]⟩) (by kernel_rfl) (by kernel_rfl) ?_
     refine Ex.two (fun z S => (z = AEx.norm ∧ ∃ (b_37 : Bool),∃ (b_38 : Bool),K_40 b_37 b_38 = some r ∧ S = ⟨[(C_band_tour a_1),(C_band_tour b_2),[i6 pause_3],[.bool b_37],[.bool b_38]],[(0,0)]⟩)) ?_ ?_
     ·refine rg 2 [3,4,5,7,8,9] (mkS 33 [(3,.ptr 0 0),(4,.ptr 1 0),(5,.ptr 2 0),(7,.ptr 3 0),(8,.ptr 4 0),(9,.ptr 5 0)]) ⟨[(C_band_tour a_1),(C_band_tour b_2),[i6 pause_3],[.bool b_23],[.bool b_24],[i6 start_22,i6 start_22]],[(0,0)]⟩ ?_
      refine ⟨rfl,rfl,?_⟩
      refine Ex.blockK ?_
      refine Ex.seq ?_
      obtain ⟨r_42,hr_42,h⟩:=bE h
      refine Ex.reg (rn 2 [4,5,7,8,15,16] (mkS 33 [(4,.ptr 1 0),(5,.ptr 2 0),(7,.ptr 3 0),(8,.ptr 4 0),(15,(A_band_tour a_1)),(16,.agg [i6 start_22,i6 start_22])]) ⟨[(C_band_tour a_1),(C_band_tour b_2),[i6 pause_3],[.bool b_23],[.bool b_24],[i6 start_22,i6 start_22]],[(0,0)]⟩ ?_)
      refine ExO.callL [] [(A_band_tour a_1),.agg [i6 start_22,i6 start_22]] rfl rfl (a_band_tour_visits a_1 (⟨start_22,start_22⟩ : T_Span)) rfl rfl (d_band_tour_visits N a_1 (⟨start_22,start_22⟩ : T_Span) r_42 hr_42) (b_band_tour_visits _ _ _ _) rfl ?_
      refine rn 2 [4,5,7,8,10] (mkS 33 [(4,.ptr 1 0),(5,.ptr 2 0),(7,.ptr 3 0),(8,.ptr 4 0),(10,.ptr 6 0)]) ⟨[(C_band_tour a_1),(C_band_tour b_2),[i6 pause_3],[.bool b_23],[.bool b_24],[i6 start_22,i6 start_22],[.sl (r_42.map A_band_visit) none]],[(0,0)]⟩ ?_
      refine ExO.nil ?_
      refine Ex.seq ?_
      obtain ⟨r_43,hr_43,h⟩:=bE h
      refine Ex.reg (rn 1 [4,5,7,8,10,18] (mkS 33 [(4,.ptr 1 0),(5,.ptr 2 0),(7,.ptr 3 0),(8,.ptr 4 0),(10,.ptr 6 0),(18,(A_band_tour b_2))]) ⟨[(C_band_tour a_1),(C_band_tour b_2),[i6 pause_3],[.bool b_23],[.bool b_24],[i6 start_22,i6 start_22],[.sl (r_42.map A_band_visit) none]],[(0,0)]⟩ ?_)
      refine ExO.callL [] [(A_band_tour b_2)] rfl rfl (a_band_tour_starts b_2) rfl rfl (d_band_tour_starts N b_2 r_43 hr_43) (b_band_tour_starts _ _ _ _) rfl ?_
      refine rn 0 [4,5,7,8,10,19] (mkS 33 [(4,.ptr 1 0),(5,.ptr 2 0),(7,.ptr 3 0),(8,.ptr 4 0),(10,.ptr 6 0),(19,.fn 45 [] [.rop (C_band_tour r_43)])]) ⟨[(C_band_tour a_1),(C_band_tour b_2),[i6 pause_3],[.bool b_23],[.bool b_24],[i6 start_22,i6 start_22],[.sl (r_42.map A_band_visit) none]],[(0,0)]⟩ ?_
      refine ExO.nil ?_
      refine Ex.blockK ?_
      obtain ⟨K_54,hK_55,h⟩:=letE h
      refine Ex.rangeJ (fun k S => (k = 0 ∧ ∃ (b_51 : Bool),∃ (b_52 : Bool),K_54 b_51 b_52 = some r ∧ S = ⟨[(C_band_tour a_1),(C_band_tour b_2),[i6 pause_3],[.bool b_51],[.bool b_52],[i6 start_22,i6 start_22],[.sl (r_42.map A_band_visit) none]],[(0,0),(0,0)]⟩)) 45 [.rop (C_band_tour r_43)] _ rfl comp45 rfl (leC hb_32 (by simp [setAll])) (by exact ⟨_,hbz_36,rfl⟩) (mkS 22 [(1,.rop (C_band_tour r_43)),(2,.tup []),(3,.tup []),(4,.tup []),(5,.tup []),(6,.tup []),(7,.tup []),(8,.tup []),(9,.tup []),(10,.tup []),(11,.tup []),(12,.tup []),(13,.tup []),(14,.tup []),(15,.tup []),(16,.tup []),(17,.tup []),(18,.tup []),(19,.tup []),(20,.tup []),(21,.tup [])]) (⟨[(C_band_tour a_1),(C_band_tour b_2),[i6 pause_3],[.bool b_23],[.bool b_24],[i6 start_22,i6 start_22],[.sl (r_42.map A_band_visit) none]],[(0,0),(0,0)]⟩) (fun _ => by kernel_rfl) (by kernel_rfl) ?_ ?_
      ·intro cx_45 Lp_44 hcn_46 hcm_47 hLt_48 hL_49 hup_50
       refine Ex.castA (a2:=mkS 22 [(0,.yld Lp_44.l 1),(1,.rop (C_band_tour r_43)),(2,.tup []),(3,.tup []),(4,.tup []),(5,.tup []),(6,.tup []),(7,.tup []),(8,.tup []),(9,.tup []),(10,.tup []),(11,.tup []),(12,.tup []),(13,.tup []),(14,.tup []),(15,.tup []),(16,.tup []),(17,.tup []),(18,.tup []),(19,.tup []),(20,.tup []),(21,.tup [])]) (S2:=⟨[(C_band_tour a_1),(C_band_tour b_2),[i6 pause_3],[.bool b_23],[.bool b_24],[i6 start_22,i6 start_22],[.sl (r_42.map A_band_visit) none]],[(0,0),(0,0)]⟩) (by kernel_rfl) rfl ?_
       refine Ex.seq (rg 5 [0,1,3] (mkS 22 [(0,.yld Lp_44.l 1),(1,.rop (C_band_tour r_43)),(3,i6 r_43.Band.Start.Lo)]) ⟨[(C_band_tour a_1),(C_band_tour b_2),[i6 pause_3],[.bool b_23],[.bool b_24],[i6 start_22,i6 start_22],[.sl (r_42.map A_band_visit) none]],[(0,0),(0,0)]⟩ ?_)
       obtain ⟨K_59,hK_60,h⟩:=letE h
       refine Ex.blockJ (fun a S => ∃ (b_56 : Bool),∃ (b_57 : Bool),K_59 b_56 b_57 = some r ∧ a = mkS 22 [] ∧ S = ⟨[(C_band_tour a_1),(C_band_tour b_2),[i6 pause_3],[.bool b_56],[.bool b_57],[i6 start_22,i6 start_22],[.sl (r_42.map A_band_visit) none]],[(0,0),(0,0)]⟩) ?_ ?_
       ·obtain ⟨B_65,hB_66,h⟩:=loop3I h
        refine Ex.loopF (fun k a S => ∃ (start_61 : Int),∃ (b_62 : Bool),∃ (b_63 : Bool),loop3 B_65 k start_61 b_62 b_63 = some r ∧ a = mkS 22 [(0,.yld Lp_44.l 1),(1,.rop (C_band_tour r_43)),(3,i6 start_61)] ∧ S = ⟨[(C_band_tour a_1),(C_band_tour b_2),[i6 pause_3],[.bool b_62],[.bool b_63],[i6 start_22,i6 start_22],[.sl (r_42.map A_band_visit) none]],[(0,0),(0,0)]⟩) N ⟨_,_,Forgets.refl _ _ _,r_43.Band.Start.Lo,b_23,b_24,h,rfl,rfl⟩ ?_
        rintro k a S ⟨start_61,b_62,b_63,h,rfl,rfl⟩
        cases k with
        | zero => exact (loop3Z h).elim
        | succ k =>
         replace h:=loop3S h hB_66
         refine Ex.seq (Ex.seq ?_)
         refine rg 6 [0,1,3,13] (mkS 22 [(0,.yld Lp_44.l 1),(1,.rop (C_band_tour r_43)),(3,i6 start_61),(13,.bool (decide (start_61 ≤ r_43.Band.Start.Hi)))]) ⟨[(C_band_tour a_1),(C_band_tour b_2),[i6 pause_3],[.bool b_62],[.bool b_63],[i6 start_22,i6 start_22],[.sl (r_42.map A_band_visit) none]],[(0,0),(0,0)]⟩ ?_
         rcases condI h with ⟨hc_67,h⟩ | ⟨hc_67,h⟩
         ·refine Ex.condT _ rfl hc_67 ?_
          refine Ex.skip ?_
          refine Ex.seq ?_
          refine Ex.blockK ?_
          refine Ex.seq ?_
          refine Ex.regI ?_
          refine runI 4 [] [0,1,3,16,19] [] (mkS 22 [(0,.yld Lp_44.l 1),(1,.rop (C_band_tour r_43)),(3,i6 start_61),(16,.yld Lp_44.l 1),(19,.agg [i6 start_61,i6 start_61])]) (⟨[(C_band_tour a_1),(C_band_tour b_2),[i6 pause_3],[.bool b_62],[.bool b_63],[i6 start_22,i6 start_22],[.sl (r_42.map A_band_visit) none]],[(0,0),(0,0)]⟩) (by kernel_rfl) trivial ?_
          obtain ⟨K_79,hK_80,h⟩:=letE h
          refine ExI.yieldT 1 hLt_48 hL_49 [.agg [i6 start_61,i6 start_61]] rfl rfl rfl (by kernel_rfl) rfl rfl (leC hcn_46 (by simp [setAll])) ?_
          intro ca_68 cb_69 ha_70 hb_71 hma_72 hmb_73 hup_74 hbz_75
          refine Ex.castA (a2:=mkS 33 [(4,.ptr 1 0),(5,.ptr 2 0),(7,.ptr 3 0),(8,.ptr 4 0),(10,.ptr 6 0),(19,.fn 45 [] [.rop (C_band_tour r_43)]),(20,.agg [i6 start_61,i6 start_61])]) (S2:=⟨[(C_band_tour a_1),(C_band_tour b_2),[i6 pause_3],[.bool b_62],[.bool b_63],[i6 start_22,i6 start_22],[.sl (r_42.map A_band_visit) none]],[(0,0),(0,0)]⟩) (by kernel_rfl) (by kernel_rfl) ?_
          refine Ex.two (fun z S => (z = AEx.norm ∧ ∃ (b_76 : Bool),∃ (b_77 : Bool),K_79 b_76 b_77 = some r ∧ S = ⟨[(C_band_tour a_1),(C_band_tour b_2),[i6 pause_3],[.bool b_76],[.bool b_77],[i6 start_22,i6 start_22],[.sl (r_42.map A_band_visit) none]],[(0,0),(0,0)]⟩)) ?_ ?_
          ·refine rg 2 [4,5,7,8,10,11] (mkS 33 [(4,.ptr 1 0),(5,.ptr 2 0),(7,.ptr 3 0),(8,.ptr 4 0),(10,.ptr 6 0),(11,.ptr 7 0)]) ⟨[(C_band_tour a_1),(C_band_tour b_2),[i6 pause_3],[.bool b_62],[.bool b_63],[i6 start_22,i6 start_22],[.sl (r_42.map A_band_visit) none],[i6 start_61,i6 start_61]],[(0,0),(0,0)]⟩ ?_
           refine ⟨rfl,rfl,?_⟩
           obtain ⟨K_84,hK_85,h⟩:=letE h
           refine Ex.blockJ (fun a S => ∃ (b_81 : Bool),∃ (b_82 : Bool),K_84 b_81 b_82 = some r ∧ a = mkS 33 [] ∧ S = ⟨[(C_band_tour a_1),(C_band_tour b_2),[i6 pause_3],[.bool b_81],[.bool b_82],[i6 start_22,i6 start_22],[.sl (r_42.map A_band_visit) none]],[(0,0),(0,0)]⟩) ?_ ?_
           ·refine Ex.seq ?_
            obtain ⟨r_86,hr_86,h⟩:=bE h
            have hT_87 : DoesA Tryd.prog [⟨37,[(A_band_tour b_2),.agg [i6 start_61,i6 start_61]],[],(v_band_tour_visits r_86),[]⟩] ∧ ConsA [⟨37,[(A_band_tour b_2),.agg [i6 start_61,i6 start_61]],[],(v_band_tour_visits r_86),[]⟩]:=⟨⟨(d_band_tour_visits N b_2 (⟨start_61,start_61⟩ : T_Span) r_86 hr_86),rfl,trivial⟩,⟨trivial,trivial⟩⟩
            refine Ex.drawE (a1:=mkS 33 [(4,.ptr 1 0),(5,.ptr 2 0),(7,.ptr 3 0),(8,.ptr 4 0),(10,.ptr 6 0),(11,.ptr 7 0),(21,.sl (r_42.map A_band_visit) none),(22,(A_band_tour b_2)),(23,.agg [i6 start_61,i6 start_61]),(24,.sl (r_86.map A_band_visit) none),(25,i6 pause_3)]) (tabO_ok hT_87.1) [] [] [] ?_ ?_
            ·refine drS [0, 1, 2, 3, 4, 5, 6, 7] 3 [] [] (mkS 33 [(4, .ptr 1 0), (5, .ptr 2 0), (7, .ptr 3 0), (8, .ptr 4 0), (10, .ptr 6 0), (11, .ptr 7 0), (21, .sl (r_42.map A_band_visit) none), (22, (A_band_tour b_2)), (23, .agg [i6 start_61, i6 start_61])]) (by simp) (by kernel_rfl) trivial (by kernel_rfl) ?_
             refine drC hT_87.2 0 _ [(A_band_tour b_2),.agg [i6 start_61,i6 start_61]] (v_band_tour_visits r_86) rfl rfl rfl rfl rfl (fun _ => rfl) rfl (by simp; try rfl) (fun _ => b_band_tour_visits _ _ _ _) ?_
             refine drS [0,1,2,3,4,5,6,7] 1 [] [] (mkS 33 [(4,.ptr 1 0),(5,.ptr 2 0),(7,.ptr 3 0),(8,.ptr 4 0),(10,.ptr 6 0),(11,.ptr 7 0),(21,.sl (r_42.map A_band_visit) none),(22,(A_band_tour b_2)),(23,.agg [i6 start_61,i6 start_61]),(24,.sl (r_86.map A_band_visit) none),(25,i6 pause_3)]) (by simp) (by kernel_rfl) trivial (by kernel_rfl) ?_
             exact DrO.nil rfl
            ·dsimp only [List.getLastD_cons,List.getLastD_nil]
             obtain ⟨r_88,hr_88,h⟩:=bE h
             refine ExO.callL [] [.sl (r_42.map A_band_visit) none,.sl (r_86.map A_band_visit) none,i6 pause_3] rfl rfl (a_band_meet r_42 r_86 pause_3) rfl rfl (d_band_meet N r_42 r_86 pause_3 r_88 hr_88) (b_band_meet _ _ _ _) rfl ?_
             refine rn 0 [7,8,26] (mkS 33 [(7,.ptr 3 0),(8,.ptr 4 0),(26,.bool r_88)]) ⟨[(C_band_tour a_1),(C_band_tour b_2),[i6 pause_3],[.bool b_62],[.bool b_63],[i6 start_22,i6 start_22],[.sl (r_42.map A_band_visit) none],[i6 start_61,i6 start_61]],[(0,0),(0,0)]⟩ ?_
             refine ExO.nil ?_
             rcases condI h with ⟨hc_89,h⟩ | ⟨hc_89,h⟩
             ·refine Ex.condT _ rfl hc_89 ?_
              refine rg 1 [] (mkS 33 []) ⟨[(C_band_tour a_1),(C_band_tour b_2),[i6 pause_3],[.bool true],[.bool b_63],[i6 start_22,i6 start_22],[.sl (r_42.map A_band_visit) none],[i6 start_61,i6 start_61]],[(0,0),(0,0)]⟩ ?_
              (try simp only [reduceCtorEq,AEx.ex.injEq,Nat.reduceEqDiff,if_true,if_false])
              exact ⟨_,_,forgetA (m:=33) 7 [0,1] [] [(C_band_tour a_1),(C_band_tour b_2),[i6 pause_3],[.bool true],[.bool b_63],[i6 start_22,i6 start_22],[.sl (r_42.map A_band_visit) none]] [(0,0),(0,0)] (leC hb_71 (by simp [setAll])) (by simp) trivial (by simp) rfl (by decide) (sig0 2 hmb_73 rfl),true,b_63,h,rfl,rfl⟩
             ·refine Ex.condF _ rfl hc_89 ?_
              refine rg 1 [] (mkS 33 []) ⟨[(C_band_tour a_1),(C_band_tour b_2),[i6 pause_3],[.bool b_62],[.bool true],[i6 start_22,i6 start_22],[.sl (r_42.map A_band_visit) none],[i6 start_61,i6 start_61]],[(0,0),(0,0)]⟩ ?_
              (try simp only [reduceCtorEq,AEx.ex.injEq,Nat.reduceEqDiff,if_true,if_false])
              exact ⟨_,_,forgetA (m:=33) 7 [0,1] [] [(C_band_tour a_1),(C_band_tour b_2),[i6 pause_3],[.bool b_62],[.bool true],[i6 start_22,i6 start_22],[.sl (r_42.map A_band_visit) none]] [(0,0),(0,0)] (leC hb_71 (by simp [setAll])) (by simp) trivial (by simp) rfl (by decide) (sig0 2 hmb_73 rfl),b_62,true,h,rfl,rfl⟩
           ·rintro a S ⟨b_81,b_82,h,rfl,rfl⟩
            subst hK_85
            (try simp only [reduceCtorEq,AEx.ex.injEq,Nat.reduceEqDiff,if_true,if_false])
            exact ⟨_,_,Forgets.refl _ _ _,⟨by first | rfl | trivial,b_81,b_82,h,rfl⟩⟩
          ·rintro z a2 S (⟨rfl,b_76,b_77,h,rfl⟩)
           subst hK_80
           refine runI 1 [] [0,1,3,21] [] (mkS 22 [(0,.yld Lp_44.l 1),(1,.rop (C_band_tour r_43)),(3,i6 start_61),(21,.bool false)]) (⟨[(C_band_tour a_1),(C_band_tour b_2),[i6 pause_3],[.bool b_76],[.bool b_77],[i6 start_22,i6 start_22],[.sl (r_42.map A_band_visit) none]],[(0,0),(0,0)]⟩) (by kernel_rfl) trivial ?_
           refine ExI.nil ?_
           refine Ex.cond (b:=false) rfl ?_
           refine Ex.skip ?_
           refine rg 3 [0,1,3] (mkS 22 [(0,.yld Lp_44.l 1),(1,.rop (C_band_tour r_43)),(3,i6 (IntKind.i64.wrap (start_61 + 1)))]) ⟨[(C_band_tour a_1),(C_band_tour b_2),[i6 pause_3],[.bool b_76],[.bool b_77],[i6 start_22,i6 start_22],[.sl (r_42.map A_band_visit) none]],[(0,0),(0,0)]⟩ ?_
           dsimp only
           exact ⟨_,_,Forgets.refl _ _ _,k,Nat.lt_succ_self k,(IntKind.i64.wrap (start_61 + 1)),b_76,b_77,h,rfl,rfl⟩
         ·refine Ex.condF _ rfl hc_67 ?_
          refine Ex.exit ?_
          (try simp only [reduceCtorEq,AEx.ex.injEq,Nat.reduceEqDiff,if_true,if_false])
          exact ⟨_,_,forgetK [],b_62,b_63,h,rfl,rfl⟩
       ·rintro a S ⟨b_56,b_57,h,rfl,rfl⟩
        subst hK_60
        exact ⟨_,_,Forgets.refl _ _ _,.inl rfl,0,rfl,⟨by first | rfl | trivial,b_56,b_57,h,rfl⟩⟩
      ·rintro k S (⟨rfl,b_51,b_52,h,rfl⟩)
       subst hK_55
       (try simp only [reduceCtorEq,AEx.ex.injEq,Nat.reduceEqDiff,if_true,if_false])
       exact ⟨_,_,forgetA (m:=33) 5 [0] [] [(C_band_tour a_1),(C_band_tour b_2),[i6 pause_3],[.bool b_51],[.bool b_52]] [(0,0)] (leC hb_32 (by simp [setAll])) (by simp) trivial (by simp) rfl (by decide) (sig0 1 hmb_34 rfl),⟨by first | rfl | trivial,b_51,b_52,h,rfl⟩⟩
     ·rintro z a2 S (⟨rfl,b_37,b_38,h,rfl⟩)
      subst hK_41
      refine runI 1 [] [0,1,3,21] [] (mkS 22 [(0,.yld Lp_5.l 0),(1,.rop (C_band_tour r_4)),(3,i6 start_22),(21,.bool false)]) (⟨[(C_band_tour a_1),(C_band_tour b_2),[i6 pause_3],[.bool b_37],[.bool b_38]],[(0,0)]⟩) (by kernel_rfl) trivial ?_
      refine ExI.nil ?_
      refine Ex.cond (b:=false) rfl ?_
      refine Ex.skip ?_
      refine rg 3 [0,1,3] (mkS 22 [(0,.yld Lp_5.l 0),(1,.rop (C_band_tour r_4)),(3,i6 (IntKind.i64.wrap (start_22 + 1)))]) ⟨[(C_band_tour a_1),(C_band_tour b_2),[i6 pause_3],[.bool b_37],[.bool b_38]],[(0,0)]⟩ ?_
      dsimp only
      exact ⟨_,_,Forgets.refl _ _ _,k,Nat.lt_succ_self k,(IntKind.i64.wrap (start_22 + 1)),b_37,b_38,h,rfl,rfl⟩
    ·refine Ex.condF _ rfl hc_28 ?_
     refine Ex.exit ?_
     (try simp only [reduceCtorEq,AEx.ex.injEq,Nat.reduceEqDiff,if_true,if_false])
     exact ⟨_,_,forgetK [],b_23,b_24,h,rfl,rfl⟩
  ·rintro a S ⟨b_17,b_18,h,rfl,rfl⟩
   subst hK_21
   exact ⟨_,_,Forgets.refl _ _ _,.inl rfl,0,rfl,⟨by first | rfl | trivial,b_17,b_18,h,rfl⟩⟩
 ·rintro k S (⟨rfl,b_12,b_13,h,rfl⟩)
  subst hK_16
  refine Ex.seq ?_
  refine Ex.blockK ?_
  refine Ex.seq (rg 3 [7,27] (mkS 33 [(7,.ptr 3 0),(27,.bool (!b_13))]) ⟨[(C_band_tour a_1),(C_band_tour b_2),[i6 pause_3],[.bool b_12],[.bool b_13]],[(0,0)]⟩ ?_)
  rcases condI h with ⟨hc_90,h⟩ | ⟨hc_90,h⟩
  ·refine Ex.condT _ rfl hc_90 ?_
   refine Ex.seq (rg 1 [6] (mkS 33 [(6,i6 1)]) ⟨[(C_band_tour a_1),(C_band_tour b_2),[i6 pause_3],[.bool b_12],[.bool b_13]],[(0,0)]⟩ ?_)
   refine Ex.ret ?_
   obtain rfl:=sJ h
   exact rt (i6 1)
  ·refine Ex.condF _ rfl hc_90 ?_
   refine Ex.seq (rg 3 [30] (mkS 33 [(30,.bool (!b_12))]) ⟨[(C_band_tour a_1),(C_band_tour b_2),[i6 pause_3],[.bool b_12],[.bool b_13]],[(0,0)]⟩ ?_)
   rcases condI h with ⟨hc_91,h⟩ | ⟨hc_91,h⟩
   ·refine Ex.condT _ rfl hc_91 ?_
    refine Ex.seq (rg 1 [6] (mkS 33 [(6,i6 2)]) ⟨[(C_band_tour a_1),(C_band_tour b_2),[i6 pause_3],[.bool b_12],[.bool b_13]],[(0,0)]⟩ ?_)
    refine Ex.ret ?_
    obtain rfl:=sJ h
    exact rt (i6 2)
   ·refine Ex.condF _ rfl hc_91 ?_
    refine Ex.skip ?_
    refine Ex.seq (rg 1 [6] (mkS 33 [(6,i6 3)]) ⟨[(C_band_tour a_1),(C_band_tour b_2),[i6 pause_3],[.bool b_12],[.bool b_13]],[(0,0)]⟩ ?_)
    refine Ex.ret ?_
    obtain rfl:=sJ h
    exact rt (i6 3)
def p_band_Cross (N : Nat) (c_1 : T_City) (a_2 : T_Band) (b_3 : T_Band) : Option (Int × Int):=((p_band_toursOf N c_1 [a_2,b_3]).bind fun r_4 => (bif (r_4.2 != 0) then some (0,r_4.2) else ((getI r_4.1 0).bind fun x_6 => ((getI r_4.1 1).bind fun x_7 => ((p_band_verdict N x_6 x_7 c_1.Break).bind fun r_8 => some (r_8,0))))))
def v_band_Cross (r : Int × Int) : AV:=.tup [i6 r.1,i6 r.2]
attribute [local simp] v_band_Cross
theorem b_band_Cross (r : Int × Int) (n n2 m : Nat) : back n n2 m (v_band_Cross r) = some (v_band_Cross r):=by simp
theorem d_band_Cross (N : Nat) (c_1 : T_City) (a_2 : T_Band) (b_3 : T_Band) (r : Int × Int) (h : p_band_Cross N c_1 a_2 b_3 = some r) : Does Tryd.prog 9 [(A_City c_1),(A_Band a_2),(A_Band b_3)] [] fun v c => v = v_band_Cross r ∧ c = []:=by
 unfold p_band_Cross at h
 refine Does.ofL comp9 _ _ rfl rfl ?_
 refine Ex.seq (rg 5 [3,4,5] (mkS 30 [(3,.ptr 0 0),(4,.ptr 1 0),(5,.ptr 2 0)]) ⟨[(C_City c_1),(C_Band a_2),(C_Band b_3)],[]⟩ ?_)
 refine Ex.seq ?_
 refine Ex.postF ?_
 obtain ⟨r_4,hr_4,h⟩:=bE h
 refine Ex.reg (rn 4 [3,11,14] (mkS 30 [(3,.ptr 0 0),(11,(A_City c_1)),(14,.sl (([a_2,b_3] : List T_Band).map A_Band) (some 0))]) ⟨[(C_City c_1),(C_Band a_2),(C_Band b_3)],[(2,6)]⟩ ?_)
 refine ExO.callL [] [(A_City c_1),.sl (([a_2,b_3] : List T_Band).map A_Band) (some 0)] rfl rfl (a_band_toursOf c_1 [a_2,b_3]) rfl rfl (d_band_toursOf N c_1 [a_2,b_3] r_4 hr_4) (b_band_toursOf _ _ _ _) rfl ?_
 refine rn 5 [3,8,9] (mkS 30 [(3,.ptr 0 0),(8,.sl (r_4.1.map A_band_tour) none),(9,i6 r_4.2)]) ⟨[(C_City c_1),(C_Band a_2),(C_Band b_3)],[(2,6)]⟩ ?_
 refine ExO.nil ?_
 refine ⟨mkS 30 [(3,.ptr 0 0),(8,.sl (r_4.1.map A_band_tour) none),(9,i6 r_4.2)],⟨[(C_City c_1),(C_Band a_2),(C_Band b_3)],[(2,6)]⟩,Forgets.refl _ _ _,?_⟩
 refine Ex.seq (Ex.seq ?_)
 refine rg 2 [3,8,9,19] (mkS 30 [(3,.ptr 0 0),(8,.sl (r_4.1.map A_band_tour) none),(9,i6 r_4.2),(19,.bool (r_4.2 != 0))]) ⟨[(C_City c_1),(C_Band a_2),(C_Band b_3)],[(2,6)]⟩ ?_
 rcases condI h with ⟨hc_5,h⟩ | ⟨hc_5,h⟩
 ·refine Ex.condT _ rfl hc_5 ?_
  refine Ex.seq (rg 3 [6,7] (mkS 30 [(6,i6 0),(7,i6 r_4.2)]) ⟨[(C_City c_1),(C_Band a_2),(C_Band b_3)],[(2,6)]⟩ ?_)
  refine Ex.ret ?_
  obtain rfl:=sJ h
  exact rt (.tup [i6 0,i6 r_4.2])
 ·refine Ex.condF _ rfl hc_5 ?_
  refine Ex.skip ?_
  refine Ex.seq ?_
  obtain ⟨x_6,hx_6,h⟩:=bE h
  obtain ⟨x_7,hx_7,h⟩:=bE h
  refine Ex.drawE (a1:=mkS 30 [(3,.ptr 0 0),(8,.sl (r_4.1.map A_band_tour) none),(9,i6 r_4.2),(19,.bool (r_4.2 != 0)),(21,.sl (r_4.1.map A_band_tour) none),(22,.rop (C_band_tour x_6)),(23,(A_band_tour x_6)),(24,.sl (r_4.1.map A_band_tour) none),(25,.rop (C_band_tour x_7)),(26,(A_band_tour x_7)),(27,.ptr 0 4),(28,i6 c_1.Break)]) (noClr_ok _) [] [] [] ?_ ?_
  ·refine drS [0, 1, 2] 8 [(1, .rop (C_band_tour x_6)), (4, .rop (C_band_tour x_7))] [LGet (r_4.1.map A_band_tour) 0 7 (C_band_tour x_6), LGet (r_4.1.map A_band_tour) 1 7 (C_band_tour x_7)] (mkS 30 [(3, .ptr 0 0), (8, .sl (r_4.1.map A_band_tour) none), (9, i6 r_4.2), (19, .bool (r_4.2 != 0)), (21, .sl (r_4.1.map A_band_tour) none), (22, .rop (C_band_tour x_6)), (23, (A_band_tour x_6)), (24, .sl (r_4.1.map A_band_tour) none), (25, .rop (C_band_tour x_7)), (26, (A_band_tour x_7)), (27, .ptr 0 4), (28, i6 c_1.Break)]) (by simp) (by kernel_rfl) ⟨LGet.of hx_6 rfl, LGet.of hx_7 rfl, trivial⟩ (by kernel_rfl) ?_
   exact DrO.nil rfl
  ·dsimp only [List.getLastD_cons,List.getLastD_nil]
   obtain ⟨r_8,hr_8,h⟩:=bE h
   refine ExO.callL [] [(A_band_tour x_6),(A_band_tour x_7),i6 c_1.Break] rfl rfl (a_band_verdict x_6 x_7 c_1.Break) rfl rfl (d_band_verdict N x_6 x_7 c_1.Break r_8 hr_8) (b_band_verdict _ _ _ _) rfl ?_
   refine rn 2 [6,7] (mkS 30 [(6,i6 r_8),(7,i6 0)]) ⟨[(C_City c_1),(C_Band a_2),(C_Band b_3)],[(2,6)]⟩ ?_
   refine ExO.nil ?_
   refine Ex.ret ?_
   obtain rfl:=sJ h
   exact rt (.tup [i6 r_8,i6 0])
end Go.Proofs.YthfpmjnmaifgaaaDoor
end
section
namespace Go.Proofs.YthfpmjnmaifgaaaDoor
open Go.RowKit

def wi (a b n : Int) : Bool:=bif decide (n ≥ a) then decide (n ≤ b) else false
theorem wi_t {a b n : Int} (h0 : a ≤ n) (h1 : n ≤ b) : wi a b n = true:=by
 unfold wi; rw [dT (show n ≥ a from h0),cond_true,dT h1]
theorem cw_p (N : Nat) (n a b : Int) : p_crowd_within N n a b = some (wi a b n):=by
 unfold p_crowd_within wi
 cases decide (n ≥ a) <;> rfl
theorem bw_p (N : Nat) (n a b : Int) : p_band_within N n a b = some (wi a b n):=by
 unfold p_band_within wi
 cases decide (n ≥ a) <;> rfl
theorem isSq_p (N : Nat) (t : T_Town) (n : Int) (hl : t.Rooms.length ≤ 1000) (h0 : 0 ≤ n) (h1 : n < (t.Rooms.length : Int)) : p_crowd_isSquare N t n = some true:=by
 unfold p_crowd_isSquare
 rw [w64 (by omega) (by omega),cw_p,wi_t h0 (by omega)]; rfl
theorem isStr_p (N : Nat) (t : T_Town) (n : Int) (hl : t.Streets.length ≤ 1000) (h0 : 0 ≤ n) (h1 : n < (t.Streets.length : Int)) : p_crowd_isStreet N t n = some true:=by
 unfold p_crowd_isStreet
 rw [w64 (by omega) (by omega),cw_p,wi_t h0 (by omega)]; rfl
theorem span_c (N : Nat) (x : T_Span) (m : Int) (h0 : 0 ≤ x.Lo) (h1 : x.Lo ≤ x.Hi) (h2 : x.Hi ≤ m) : p_crowd_checkSpan N x m = some 0:=by
 unfold p_crowd_checkSpan
 simp only [letJ_eq,cw_p,Option.bind_some,wi_t h0 (show x.Lo ≤ m by omega),wi_t (show 0 ≤ x.Hi by omega) h2,Bool.not_true,cond_false]
 rw [dF (by omega),cond_false]
theorem Wk.at {ss : List T_Street} {f : Int} {p sq : List Int} (h : Wk ss f p sq) {i : Nat} (hi : i < p.length) : ∃ k s,p[i]? = some k ∧ 0 ≤ k ∧ k < (ss.length : Int) ∧ getI ss k = some s ∧ (sq[i]?.getD 0 = s.A ∧ sq[i + 1]?.getD 0 = s.B ∨ sq[i]?.getD 0 ≠ s.A ∧ sq[i]?.getD 0 = s.B ∧ sq[i + 1]?.getD 0 = s.A):=by
 have hk : p[i]? = some p[i]:=List.getElem?_eq_getElem hi
 obtain ⟨h0,s,a,b,g1,g2,g3,g4⟩:=h.step i _ hk
 have hlt:=(List.getElem?_eq_some_iff.1 g1).1
 refine ⟨p[i],s,hk,h0,by omega,?_,by rw [g2,g3]; exact g4⟩
 obtain ⟨n,hn⟩ : ∃ n : Nat,p[i] = (n : Int):=⟨p[i].toNat,by omega⟩
 rw [hn] at g1 ⊢
 rw [getI_nat]; exact g1
theorem path_c (N : Nat) (hN : 1000 < N) (t : T_Town) (g : T_Group) (sq : List Int) (hw : Wk t.Streets g.First g.Path sq) (hp : g.Path.length ≤ 12) (hs : t.Streets.length ≤ 12) : p_crowd_checkPath N t g = some 0:=by
 unfold p_crowd_checkPath
 rw [dF (by omega),cond_false]
 simp only [letJ_eq]
 have hf : g.First = sq[0]?.getD 0:=by rw [hw.fst]; rfl
 rw [hf]
 refine st2' g.Path.length (fun i => sq[i]?.getD 0) _ (some 0) (fun rec => by simp only [ltE,cond_false]) (fun rec i hi => ?_) N 0 (Nat.zero_le _) (by omega)
 obtain ⟨k,s,hk,k0,k1,hgs,hab⟩:=hw.at hi
 rw [ltD hi,cond_true,getD_at hk,Option.bind_some,isStr_p N t k (by omega) k0 k1,Option.bind_some,Bool.not_true,cond_false,hgs,Option.bind_some,nadd1 i (by omega)]
 simp only [p_crowd_otherEnd]
 rcases hab with ⟨h1,h2⟩ | ⟨h0,h1,h2⟩
 ·rw [← h1]
  simp only [bne_self_eq_false,beq_self_eq_true,cond_false,cond_true,Option.bind_some,h2]
 ·rw [show (s.A != sq[i]?.getD 0) = true from by simpa using Ne.symm h0, cond_true, ← h1]
  simp only [bne_self_eq_false,cond_false]
  rw [show (s.A == sq[i]?.getD 0) = false from by simpa using Ne.symm h0,cond_false,Option.bind_some,h2]
theorem group_c (N : Nat) (hN : 1000 < N) (t : T_Town) (ht : GoodTw t) (g : T_Group) (hg : g ∈ t.Groups) : p_crowd_checkGroup N t g = some 0:=by
 have h:=ht.gr g hg
 unfold p_crowd_checkGroup
 obtain ⟨sq,hw⟩:=h.wk
 have:=h.pl; have:=ht.s1; have:=ht.r2
 rw [span_c N g.Size 1000000 h.s0 h.s1 (by have:=h.s2; omega),Option.bind_some,span_c N g.At 96 h.t0 h.t1 (by have:=h.t2; omega),Option.bind_some,cw_p,wi_t h.y0 (by have:=h.y1; omega),isSq_p N t g.First (by omega) h.f0 h.f1,path_c N hN t g sq hw (by omega) (by omega)]
 rfl
theorem street_c (N : Nat) (hN : 1000 < N) (t : T_Town) (ht : GoodTw t) : p_crowd_checkStreets N t = some 0:=by
 unfold p_crowd_checkStreets
 have:=ht.s1; have:=ht.r2
 rw [dF (by omega),cond_false]
 simp only [letJ_eq]
 refine st1 t.Streets.length _ (some 0) (fun rec => by simp only [ltE,cond_false]) (fun rec i hi => ?_) N 0 (Nat.zero_le _) (by omega)
 have hx : t.Streets[i]? = some t.Streets[i]:=List.getElem?_eq_getElem hi
 have hs:=ht.st _ (List.getElem_mem hi)
 rw [ltD hi,cond_true,getD_at hx,Option.bind_some,isSq_p N t _ (by omega) hs.a0 hs.a1,isSq_p N t _ (by omega) hs.b0 hs.b1,nadd1 i (by omega)]
 simp only [Option.bind_some,Bool.not_true,cond_false]
 rw [show (t.Streets[i].A == t.Streets[i].B) = false from by simpa using hs.ne,cond_false]
theorem town_c (N : Nat) (hN : 1000 < N) (t : T_Town) (ht : GoodTw t) : p_crowd_Check N t = some 0:=by
 unfold p_crowd_Check
 have h1:=ht.r1; have h2:=ht.r2; have h3:=ht.g1
 have hsq : p_crowd_checkSquares N t = some 0:=by
  unfold p_crowd_checkSquares
  rw [show (((t.Rooms.length : Nat) : Int) == 0) = false from beq_eq_false_iff_ne.2 (by omega),cond_false,dF (by omega),cond_false]
  simp only [letJ_eq]
  refine st1 t.Rooms.length _ (some 0) (fun rec => by simp only [ltE,cond_false]) (fun rec i hi => ?_) N 0 (Nat.zero_le _) (by omega)
  have hx : t.Rooms[i]? = some t.Rooms[i]:=List.getElem?_eq_getElem hi
  have hr:=ht.rm _ (List.getElem_mem hi)
  have hr2 : t.Rooms[i] ≤ 1000000:=Int.le_trans hr.2 (by omega)
  rw [ltD hi,cond_true,getD_at hx,Option.bind_some,cw_p,wi_t hr.1 hr2,nadd1 i (by omega)]
  rfl
 rw [hsq,Option.bind_some,street_c N hN t ht,Option.bind_some,cw_p,wi_t ht.e0 (by have:=ht.e1; omega),Option.bind_some]
 simp only [bne_self_eq_false,cond_false,Bool.not_true]
 rw [dF (by omega),cond_false]
 simp only [letJ_eq]
 refine st1 t.Groups.length _ (some 0) (fun rec => by simp only [ltE,cond_false]) (fun rec i hi => ?_) N 0 (Nat.zero_le _) (by omega)
 have hx : t.Groups[i]? = some t.Groups[i]:=List.getElem?_eq_getElem hi
 rw [ltD hi,cond_true,getD_at hx,Option.bind_some,group_c N hN t ht _ (List.getElem_mem hi),nadd1 i (by omega)]
 rfl
theorem city_c (N : Nat) (hN : 1000 < N) (c : T_City) (hc : GoodC c) : p_band_Check N c = some 0:=by
 unfold p_band_Check
 have h2:=hc.tw.r2; have hl:=hc.sl
 rw [town_c N hN _ hc.tw,Option.bind_some,bw_p,wi_t hc.b0 hc.b1,Option.bind_some,hl]
 simp only [bne_self_eq_false,cond_false,Bool.not_true,letJ_eq]
 rw [← hl]
 refine st1 c.Sleep.length _ (some 0) (fun rec => by simp only [ltE,cond_false]) (fun rec i hi => ?_) N 0 (Nat.zero_le _) (by omega)
 have hx : c.Sleep[i]? = some c.Sleep[i]:=List.getElem?_eq_getElem hi
 have hr:=hc.sv _ (List.getElem_mem hi)
 rw [ltD hi,cond_true,getD_at hx,Option.bind_some,bw_p,wi_t hr.1 hr.2,nadd1 i (by omega)]
 rfl
def GoodT (c : T_City) (t : T_band_tour) : Prop:=GoodB c t.Band t.squares_
theorem squares_c (N : Nat) (hN : 1000 < N) (c : T_City) (hc : GoodC c) (b : T_Band) (sq : List Int) (h : GoodB c b sq) : p_band_squaresOf N c.Town b = some (sq,0):=by
 unfold p_band_squaresOf
 have:=hc.tw.r2; have:=hc.tw.s1; have:=h.pl
 rw [w64 (by omega) (by omega),bw_p,wi_t h.f0 (by have:=h.f1; omega),Option.bind_some,Bool.not_true,cond_false,dF (by omega),cond_false]
 simp only [letJ_eq]
 have hlen:=h.wk.len
 have hf : b.First = sq[0]?.getD 0:=by rw [h.wk.fst]; rfl
 have ht1 : [b.First] = sq.take (0 + 1):=by rw [List.take_add_one,h.wk.fst]; rfl
 rw [ht1,hf]
 refine st3' b.Path.length (fun i => sq[i]?.getD 0) (fun i => sq.take (i + 1)) _ (some (sq,0)) (fun rec => ?_) (fun rec i hi => ?_) N 0 (Nat.zero_le _) (by omega)
 ·simp only [ltE,cond_false]
  rw [List.take_of_length_le (by omega)]
 ·obtain ⟨k,s,hk,k0,k1,hgs,hab⟩:=h.wk.at hi
  have hnx : sq[i + 1]? = some (sq[i + 1]?.getD 0):=by rw [List.getElem?_eq_getElem (by omega)]; rfl
  have hpush : ∀ x,x = sq[i + 1]?.getD 0 → pushI (sq.take (i + 1)) [x] = some (sq.take (i + 1 + 1)):=fun x hx => by
   rw [pushI_ok (by simp; omega),hx,List.take_add_one (i:=i + 1),hnx]; rfl
  rw [ltD hi,cond_true,getD_at hk,Option.bind_some,w64 (by omega) (by omega),bw_p,wi_t k0 (by omega),Option.bind_some,Bool.not_true,cond_false,hgs,Option.bind_some,nadd1 i (by omega)]
  rcases hab with ⟨h1,h2⟩ | ⟨h0,h1,h2⟩
  ·rw [show (sq[i]?.getD 0 == s.A) = true from by simpa using h1,cond_true,hpush _ h2.symm,Option.bind_some,h2]
  ·rw [show (sq[i]?.getD 0 == s.A) = false from by simpa using h0,cond_false,show (sq[i]?.getD 0 == s.B) = true from by simpa using h1,cond_true,hpush _ h2.symm,Option.bind_some,h2]
theorem GoodB.mul {c : T_City} {b : T_Band} {sq : List Int} (h : GoodB c b sq) : 0 ≤ b.Stay * ((b.Path.length : Int) + 1) ∧ b.Stay * ((b.Path.length : Int) + 1) ≤ 100:=by
 have:=h.y0; have:=h.y1; have:=h.pl
 exact ⟨Int.mul_nonneg (by omega) (by omega),Int.mul_le_mul (a:=b.Stay) (b:=(b.Path.length : Int) + 1) (c:=20) (d:=5) (by omega) (by omega) (by omega) (by omega)⟩
theorem numbers_c (N : Nat) (c : T_City) (b : T_Band) (sq : List Int) (h : GoodB c b sq) : p_band_checkNumbers N b = some 0:=by
 unfold p_band_checkNumbers
 have h0:=h.s0; have h1:=h.s1; have h2:=h.s2; have h3:=h.en; have hm:=h.mul
 have:=h.y0; have:=h.y1; have:=h.p0; have:=h.p1; have:=h.pl
 simp only [letJ_eq,bw_p,Option.bind_some]
 rw [wi_t (n:=b.Start.Lo) (by omega) (by omega),wi_t (n:=b.Start.Hi) (by omega) (by omega),wi_t (n:=b.Stay) (by omega) (by omega),wi_t (n:=b.People) (by omega) (by omega)]
 simp only [Bool.not_true,cond_false]
 rw [w64 (x:=b.Start.Hi - b.Start.Lo) (by omega) (by omega),w64 (x:=(b.Path.length : Int) + 1) (by omega) (by omega),w64 (x:=b.Stay * ((b.Path.length : Int) + 1)) (by omega) (by omega),w64 (x:=b.Start.Hi + b.Stay * ((b.Path.length : Int) + 1)) (by omega) (by omega)]
 rw [dF (show ¬ b.Start.Lo > b.Start.Hi by omega),cond_false,dF (show ¬ b.Start.Hi - b.Start.Lo > 30 by omega),cond_false,dF (show ¬ b.Start.Hi + b.Stay * ((b.Path.length : Int) + 1) > 720 by omega),cond_false]
theorem tours_c (N : Nat) (hN : 1000 < N) (c : T_City) (hc : GoodC c) (ts : List T_band_tour) (hl : ts.length ≤ 10) (h : ∀ t ∈ ts,GoodT c t) : p_band_toursOf N c (ts.map (·.Band)) = some (ts,0):=by
 unfold p_band_toursOf
 rw [city_c N hN c hc,Option.bind_some,List.length_map]
 simp only [bne_self_eq_false,cond_false,letJ_eq]
 rw [dF (by omega),cond_false]
 refine st2z' ts.length (fun i => ts.take i) rfl (by omega) (fun rec => by simp only [ltE,cond_false,List.take_length]) fun rec i hi => ?_
 have hx : ts[i]? = some ts[i]:=List.getElem?_eq_getElem hi
 have hx2 : (ts.map (·.Band))[i]? = some ts[i].Band:=by rw [List.getElem?_map,hx]; rfl
 have hg:=h _ (List.getElem_mem hi)
 rw [ltD hi,cond_true,getD_at hx2,Option.bind_some,squares_c N hN c hc _ _ hg,Option.bind_some]
 simp only [bne_self_eq_false,cond_false]
 rw [numbers_c N c _ _ hg,Option.bind_some]
 simp only [bne_self_eq_false,cond_false]
 rw [pushI_ok (by simp; omega),Option.bind_some,nadd1 i (by omega),List.take_add_one,hx]
 rfl
theorem tours_ex {c : T_City} {P : T_Band → Prop} : ∀ (l : List T_Band),(∀ b ∈ l,∃ sq,GoodB c b sq ∧ P b) → ∃ ts : List T_band_tour,l = ts.map (·.Band) ∧ ∀ t ∈ ts,GoodT c t ∧ P t.Band
 | [],_ => ⟨[],rfl,by simp⟩
 | b :: l,h => by
  obtain ⟨ts,h1,h2⟩:=tours_ex l fun x hx => h x (List.mem_cons_of_mem _ hx)
  obtain ⟨sq,h3⟩:=h b (by simp)
  refine ⟨⟨b,sq⟩ :: ts,by rw [h1]; rfl,fun t ht => ?_⟩
  rcases List.mem_cons.1 ht with rfl | ht
  ·exact h3
  ·exact h2 t ht
def stA (t : T_band_tour) : Nat → Int
 | 0 => -1
 | k + 1 => t.Band.Path[k]?.getD 0
def vis (t : T_band_tour) (lo hi : Int) (k : Nat) : T_band_visit:=⟨⟨lo + (k : Int) * t.Band.Stay,hi + ((k : Int) + 1) * t.Band.Stay - 1⟩,t.squares_[k]?.getD 0,stA t k⟩
def visL (t : T_band_tour) (lo hi : Int) : List T_band_visit:=(List.range t.squares_.length).map (vis t lo hi)
theorem GoodT.kmul {c : T_City} {t : T_band_tour} (h : GoodT c t) (k : Nat) (hk : k < t.squares_.length) : 0 ≤ (k : Int) * t.Band.Stay ∧ (k : Int) * t.Band.Stay ≤ 80 ∧ ((k : Int) + 1) * t.Band.Stay = (k : Int) * t.Band.Stay + t.Band.Stay ∧ ((k : Int) + 1) * t.Band.Stay ≤ t.Band.Stay * ((t.Band.Path.length : Int) + 1):=by
 have h1:=h.y0; have h2:=h.y1; have h3:=h.pl; have h4:=h.wk.len
 refine ⟨Int.mul_nonneg (by omega) (by omega),Int.mul_le_mul (a:=(k : Int)) (b:=t.Band.Stay) (c:=4) (d:=20) (by omega) (by omega) (by omega) (by omega),by rw [Int.add_mul,Int.one_mul],?_⟩
 rw [Int.mul_comm t.Band.Stay]
 exact Int.mul_le_mul_of_nonneg_right (by omega) (by omega)
theorem visits_c (N : Nat) (hN : 1000 < N) (c : T_City) (t : T_band_tour) (h : GoodT c t) (lo hi : Int) (h0 : 0 ≤ lo) (h1 : lo ≤ 1000) (h2 : 0 ≤ hi) (h3 : hi ≤ 1000) : p_band_tour_visits N t ⟨lo,hi⟩ = some (visL t lo hi):=by
 unfold p_band_tour_visits
 have hlen : t.squares_.length = t.Band.Path.length + 1:=h.wk.len
 have hpl:=h.pl; have hy0:=h.y0; have hy1:=h.y1
 have hmk : mkI ((t.squares_.length : Nat) : Int) = some t.squares_.length:=by unfold mkI; rw [if_pos (by omega)]; simp
 rw [hmk,Option.bind_some]
 simp only [letJ_eq]
 refine st3z' t.squares_.length (fun i => (List.range i).map (vis t lo hi)) (fun i => stA t (i - 1)) rfl rfl (by omega) (fun rec => by simp only [ltE,cond_false]; rfl) fun rec i hi' => ?_
 have hx : t.squares_[i]? = some t.squares_[i]:=List.getElem?_eq_getElem hi'
 obtain ⟨m0,m1,m2,m3⟩:=h.kmul i hi'
 rw [ltD hi',cond_true,getD_at hx,Option.bind_some]
 rw [w64 (x:=(i : Int) + 1) (by omega) (by omega),w64 (x:=((i : Int) + 1) * t.Band.Stay) (by omega) (by omega),w64 (x:=(i : Int) * t.Band.Stay) (by omega) (by omega),w64 (x:=hi + ((i : Int) + 1) * t.Band.Stay) (by omega) (by omega),w64 (x:=hi + ((i : Int) + 1) * t.Band.Stay - 1) (by omega) (by omega),w64 (x:=lo + (i : Int) * t.Band.Stay) (by omega) (by omega)]
 have hpush : ∀ s,s = stA t i → pushI ((List.range i).map (vis t lo hi)) [(⟨⟨lo + (i : Int) * t.Band.Stay,hi + ((i : Int) + 1) * t.Band.Stay - 1⟩,t.squares_[i],s⟩ : T_band_visit)] = some ((List.range (i + 1)).map (vis t lo hi)):=fun s hs => by
  rw [pushI_ok (by simp; omega),List.range_succ,List.map_append,hs]
  simp [vis,hx]
 have e1 : ((i + 1 : Nat) : Int) = (i : Int) + 1:=by omega
 rw [Option.bind_some,e1]
 cases i with
 | zero =>
  rw [dF (show ¬ ((0 : Nat) : Int) > 0 by omega),cond_false,hpush _ rfl]
  rfl
 | succ j =>
  have hp : t.Band.Path[j]? = some t.Band.Path[j]:=List.getElem?_eq_getElem (by omega)
  rw [dT (show (((j + 1 : Nat)) : Int) > 0 by omega),cond_true,w64 (x:=((j + 1 : Nat) : Int) - 1) (by omega) (by omega),show ((j + 1 : Nat) : Int) - 1 = (j : Int) by omega,getD_at hp,Option.bind_some,hpush _ (by simp [stA,hp]),Option.bind_some]
  simp [stA,hp]
end Go.Proofs.YthfpmjnmaifgaaaDoor
end
section
namespace Go.Proofs.YthfpmjnmaifgaaaDoor
open Go.RowKit

theorem idxL {α : Type} (l : List α) (p : α → Bool) {body : (Int → Option Int) → Int → Option Int} {N : Nat} (hN : l.length < N) (hend : ∀ rec,body rec (l.length : Int) = some (-1)) (hstep : ∀ rec (i : Nat) x,l[i]? = some x → body rec (i : Int) = bif p x then some (i : Int) else rec ((i + 1 : Nat) : Int)) : ∃ r,loop1 body N 0 = some r ∧ ((r = -1 ∧ ∀ x ∈ l,p x = false) ∨ ∃ (k : Nat) (x : α),r = (k : Int) ∧ l[k]? = some x ∧ p x = true):=by
 refine loop1_T (fun x => ∃ r,x = some r ∧ ((r = -1 ∧ ∀ x ∈ l,p x = false) ∨ ∃ (k : Nat) (x : α),r = (k : Int) ∧ l[k]? = some x ∧ p x = true)) (fun y => ∃ i : Nat,y = (i : Int) ∧ i ≤ l.length ∧ ∀ (j : Nat) x,j < i → l[j]? = some x → p x = false) (fun y => l.length - y.toNat) ?_ N 0 ⟨0,rfl,Nat.zero_le _,fun j x hj => absurd hj (Nat.not_lt_zero _)⟩ (by simpa using hN)
 rintro rec y ⟨i,rfl,hi,hno⟩ ih
 by_cases hlt : i < l.length
 ·have hx : l[i]? = some l[i]:=List.getElem?_eq_getElem hlt
  rw [hstep rec i _ hx]
  cases hp : p l[i] with
  | true => exact ⟨_,rfl,.inr ⟨i,_,rfl,hx,hp⟩⟩
  | false =>
   rw [cond_false]
   refine ih _ ⟨i + 1,rfl,by omega,fun j x hj hjx => ?_⟩ (by omega)
   by_cases hji : j = i
   ·subst hji; rw [hx] at hjx; cases hjx; exact hp
   ·exact hno j x (by omega) hjx
 ·have : i = l.length := by omega
  subst this
  rw [hend]
  refine ⟨_,rfl,.inl ⟨rfl,fun x hm => ?_⟩⟩
  obtain ⟨j,hj,rfl⟩:=List.mem_iff_getElem.1 hm
  exact hno j _ hj (List.getElem?_eq_getElem hj)
end Go.Proofs.YthfpmjnmaifgaaaDoor
end
section
namespace Go.Proofs.YthfpmjnmaifgaaaDoor
open Go.RowKit
set_option maxHeartbeats 400000

def meetsV (v w : T_band_visit) (p : Int) : Bool:=(v.square_ == w.square_ && decide (w.Span.Lo - v.Span.Hi ≤ p) && decide (v.Span.Lo - w.Span.Hi ≤ p)) || (v.street_ == w.street_ && v.street_ != -1 && v.Span.Lo == w.Span.Lo)
structure VisOk (v : T_band_visit) : Prop where
 l0 : 0 ≤ v.Span.Lo
 l1 : v.Span.Lo ≤ 100000
 h0 : -1 ≤ v.Span.Hi
 h1 : v.Span.Hi ≤ 100000
theorem meets_p (N : Nat) (v w : T_band_visit) (p : Int) (hv : VisOk v) (hw : VisOk w) : p_band_visit_meets N v w p = some (meetsV v w p):=by
 unfold p_band_visit_meets meetsV
 have:=hv.l0; have:=hv.l1; have:=hv.h0; have:=hv.h1; have:=hw.l0; have:=hw.l1; have:=hw.h0; have:=hw.h1
 rw [w64 (x:=w.Span.Lo - v.Span.Hi) (by omega) (by omega),w64 (x:=v.Span.Lo - w.Span.Hi) (by omega) (by omega)]
 simp only [letJ_eq]
 cases (v.square_ == w.square_) <;> cases decide (w.Span.Lo - v.Span.Hi ≤ p) <;> cases decide (v.Span.Lo - w.Span.Hi ≤ p) <;> cases (v.street_ == w.street_) <;> cases (v.street_ != -1) <;> simp
theorem vis_ok {c : T_City} {t : T_band_tour} (h : GoodT c t) {s : Int} (h0 : 0 ≤ s) (h1 : s ≤ 1000) {k : Nat} (hk : k < t.squares_.length) : VisOk (vis t s s k):=by
 obtain ⟨m0,m1,m2,m3⟩:=h.kmul k hk
 have:=h.y0; have:=h.y1
 exact ⟨by simp only [vis]; omega,by simp only [vis]; omega,by simp only [vis]; omega,by simp only [vis]; omega⟩
theorem visL_ok {c : T_City} {t : T_band_tour} (h : GoodT c t) {s : Int} (h0 : 0 ≤ s) (h1 : s ≤ 1000) : ∀ v ∈ visL t s s,VisOk v:=by
 intro v hv
 simp only [visL,List.mem_map,List.mem_range] at hv
 obtain ⟨k,hk,rfl⟩:=hv
 exact vis_ok h h0 h1 hk
theorem any_of_idx {α : Type} {l : List α} {p : α → Bool} {r : Int} (h : (r = -1 ∧ ∀ x ∈ l,p x = false) ∨ ∃ (k : Nat) (x : α),r = (k : Int) ∧ l[k]? = some x ∧ p x = true) : decide (r ≥ 0) = l.any p:=by
 rcases h with ⟨rfl,h⟩ | ⟨k,x,rfl,h1,h2⟩
 ·rw [dF (by omega)]
  symm; rw [List.any_eq_false]
  intro x hx; rw [h x hx]; decide
 ·rw [dT (by omega)]
  symm; rw [List.any_eq_true]
  exact ⟨x,List.mem_of_getElem? h1,h2⟩
theorem meet1_p (N : Nat) (hN : 1000 < N) (v : T_band_visit) (ws : List T_band_visit) (p : Int) (hv : VisOk v) (hw : ∀ w ∈ ws,VisOk w) (hl : ws.length ≤ 100) : p_band_meet_1 N v ws p = some (ws.any fun w => meetsV v w p):=by
 unfold p_band_meet_1 p_slices_ContainsFunc_band_visit_band_visit_band_meet_1_1 p_slices_IndexFunc_band_visit_band_visit_band_meet_1_1
 simp only [letJ_eq]
 obtain ⟨r, e, h⟩ := idxL ws (fun w => meetsV v w p) (N := N) (by omega) (body := fun rec_8 y_7 => (bif (decide (y_7 < ((ws.length : Nat) : Int))) then ((getI ws y_7).bind fun x_12 => ((p_band_meet_1_1 N x_12 v p).bind fun r_13 => (bif r_13 then some y_7 else (rec_8 (IntKind.i64.wrap (y_7 + 1)))))) else some (-1))) (fun rec => by simp only [ltE, cond_false]) (fun rec i x hx => by
  have hlt:=(List.getElem?_eq_some_iff.1 hx).1
  have e1 : p_band_meet_1_1 N x v p = some (meetsV v x p):=by
   unfold p_band_meet_1_1
   rw [meets_p N v x p hv (hw x (List.mem_of_getElem? hx))]; rfl
  simp only [ltD hlt, cond_true, getD_at hx, Option.bind_some, e1, nadd1 i (by omega)])
 rw [e,Option.bind_some,Option.bind_some,any_of_idx h]
theorem meet_p (N : Nat) (hN : 1000 < N) (vs ws : List T_band_visit) (p : Int) (hv : ∀ v ∈ vs,VisOk v) (hw : ∀ w ∈ ws,VisOk w) (hlv : vs.length ≤ 100) (hl : ws.length ≤ 100) : p_band_meet N vs ws p = some (vs.any fun v => ws.any fun w => meetsV v w p):=by
 unfold p_band_meet p_slices_ContainsFunc_band_visit_band_visit_band_meet_1 p_slices_IndexFunc_band_visit_band_visit_band_meet_1
 simp only [letJ_eq]
 obtain ⟨r, e, h⟩ := idxL vs (fun v => ws.any fun w => meetsV v w p) (N := N) (by omega) (body := fun rec_8 y_7 => (bif (decide (y_7 < ((vs.length : Nat) : Int))) then ((getI vs y_7).bind fun x_12 => ((p_band_meet_1 N x_12 ws p).bind fun r_13 => (bif r_13 then some y_7 else (rec_8 (IntKind.i64.wrap (y_7 + 1)))))) else some (-1))) (fun rec => by simp only [ltE, cond_false]) (fun rec i x hx => by
  have hlt:=(List.getElem?_eq_some_iff.1 hx).1
  simp only [ltD hlt, cond_true, getD_at hx, Option.bind_some, meet1_p N hN x ws p (hv x (List.mem_of_getElem? hx)) hw hl, nadd1 i (by omega)])
 rw [e,Option.bind_some,Option.bind_some,any_of_idx h]
def MB (a b : T_band_tour) (p s1 s2 : Int) : Bool:=(visL a s1 s1).any fun v => (visL b s2 s2).any fun w => meetsV v w p
theorem meetT_p {c c' : T_City} (N : Nat) (hN : 1000 < N) (a b : T_band_tour) (ha : GoodT c a) (hb : GoodT c' b) (p s1 s2 : Int) (h1 : 0 ≤ s1) (h2 : s1 ≤ 1000) (h3 : 0 ≤ s2) (h4 : s2 ≤ 1000) : p_band_meet N (visL a s1 s1) (visL b s2 s2) p = some (MB a b p s1 s2):=by
 have e1:=ha.wk.len; have e2:=ha.pl; have e3:=hb.wk.len; have e4:=hb.pl
 exact meet_p N hN _ _ p (visL_ok ha h1 h2) (visL_ok hb h3 h4) (by simp [visL]; omega) (by simp [visL]; omega)
theorem ex_snoc {lo x : Int} {P : Int → Prop} (h : lo ≤ x) : (∃ s,lo ≤ s ∧ s < x + 1 ∧ P s) ↔ (∃ s,lo ≤ s ∧ s < x ∧ P s) ∨ P x:=by
 constructor
 ·rintro ⟨s,h1,h2,h3⟩
  by_cases he : s = x
  ·subst he; exact .inr h3
  ·exact .inl ⟨s,h1,by omega,h3⟩
 ·rintro (⟨s,h1,h2,h3⟩ | h3)
  ·exact ⟨s,h1,by omega,h3⟩
  ·exact ⟨x,h,by omega,h3⟩
theorem verdict_c {c c' : T_City} (N : Nat) (hN : 1000 < N) (a b : T_band_tour) (ha : GoodT c a) (hb : GoodT c' b) (p : Int) : ∃ v,p_band_verdict N a b p = some v ∧ (v = 1 ∨ v = 2 ∨ v = 3) ∧ (v = 1 ↔ ∀ s1,a.Band.Start.Lo ≤ s1 → s1 ≤ a.Band.Start.Hi → ∀ s2,b.Band.Start.Lo ≤ s2 → s2 ≤ b.Band.Start.Hi → MB a b p s1 s2 = true) ∧ (v = 2 ↔ ∀ s1,a.Band.Start.Lo ≤ s1 → s1 ≤ a.Band.Start.Hi → ∀ s2,b.Band.Start.Lo ≤ s2 → s2 ≤ b.Band.Start.Hi → MB a b p s1 s2 = false):=by
 unfold p_band_verdict
 have a0:=ha.s0; have a1:=ha.s1; have a2:=ha.en; have am:=ha.mul
 have b0:=hb.s0; have b1:=hb.s1; have b2:=hb.en; have bm:=hb.mul
 rw [show p_band_tour_starts N a = some a from rfl,Option.bind_some]
 let R : Int → (Int → Prop) → Prop:=fun x P => ∃ s,a.Band.Start.Lo ≤ s ∧ s < x ∧ P s
 let T : Option Int → Prop:=fun x => ∃ v,x = some v ∧ (v = 1 ∨ v = 2 ∨ v = 3) ∧ (v = 1 ↔ ∀ s1,a.Band.Start.Lo ≤ s1 → s1 ≤ a.Band.Start.Hi → ∀ s2,b.Band.Start.Lo ≤ s2 → s2 ≤ b.Band.Start.Hi → MB a b p s1 s2 = true) ∧ (v = 2 ↔ ∀ s1,a.Band.Start.Lo ≤ s1 → s1 ≤ a.Band.Start.Hi → ∀ s2,b.Band.Start.Lo ≤ s2 → s2 ≤ b.Band.Start.Hi → MB a b p s1 s2 = false)
 show T _
 refine letJ_gen T _ _ (fun K1 hK1 => ?_)
 refine letJ_gen T _ _ (fun K2 hK2 => ?_)
 refine loop3_T T (fun start x y => a.Band.Start.Lo ≤ start ∧ start ≤ a.Band.Start.Hi + 1 ∧ (x = true ↔ ∃ s1,a.Band.Start.Lo ≤ s1 ∧ s1 < start ∧ ∃ s2,b.Band.Start.Lo ≤ s2 ∧ s2 < b.Band.Start.Hi + 1 ∧ MB a b p s1 s2 = true) ∧ (y = true ↔ ∃ s1,a.Band.Start.Lo ≤ s1 ∧ s1 < start ∧ ∃ s2,b.Band.Start.Lo ≤ s2 ∧ s2 < b.Band.Start.Hi + 1 ∧ MB a b p s1 s2 = false)) (fun start x y => (a.Band.Start.Hi + 1 - start).toNat) ?_ N a.Band.Start.Lo false false ⟨Int.le_refl _,by omega,⟨fun hh => (by cases hh),fun ⟨s,h1,h2,_⟩ => by omega⟩,⟨fun hh => (by cases hh),fun ⟨s,h1,h2,_⟩ => by omega⟩⟩ (by omega)
 rintro rec start x y ⟨p0,p1,px,py⟩ ih
 by_cases hle : start ≤ a.Band.Start.Hi
 ·rw [dT hle,cond_true]
  refine letJ_gen T _ _ (fun K3 hK3 => ?_)
  rw [visits_c N hN c a ha start start (by omega) (by omega) (by omega) (by omega),Option.bind_some,show p_band_tour_starts N b = some b from rfl,Option.bind_some]
  refine letJ_gen T _ _ (fun K4 hK4 => ?_)
  refine letJ_gen T _ _ (fun K5 hK5 => ?_)
  refine loop3_T T (fun other x' y' => b.Band.Start.Lo ≤ other ∧ other ≤ b.Band.Start.Hi + 1 ∧ (x' = true ↔ (x = true ∨ ∃ s2,b.Band.Start.Lo ≤ s2 ∧ s2 < other ∧ MB a b p start s2 = true)) ∧ (y' = true ↔ (y = true ∨ ∃ s2,b.Band.Start.Lo ≤ s2 ∧ s2 < other ∧ MB a b p start s2 = false))) (fun other x y => (b.Band.Start.Hi + 1 - other).toNat) ?_ N b.Band.Start.Lo x y ⟨Int.le_refl _,by omega,⟨.inl,fun hh => hh.elim id fun ⟨s,h1,h2,_⟩ => by omega⟩,⟨.inl,fun hh => hh.elim id fun ⟨s,h1,h2,_⟩ => by omega⟩⟩ (by omega)
  rintro rec2 other x' y' ⟨q0,q1,qx,qy⟩ ih2
  by_cases hle2 : other ≤ b.Band.Start.Hi
  ·rw [dT hle2,cond_true]
   simp only [letJ_eq]
   rw [visits_c N hN c' b hb other other (by omega) (by omega) (by omega) (by omega),Option.bind_some,meetT_p N hN a b ha hb p start other (by omega) (by omega) (by omega) (by omega),Option.bind_some,w64 (x:=other + 1) (by omega) (by omega)]
   cases hm : MB a b p start other with
   | true =>
    rw [cond_true]
    refine ih2 _ _ _ ⟨by omega,by omega,?_,?_⟩ (by omega)
    ·rw [ex_snoc q0]; exact ⟨fun _ => .inr (.inr hm),fun _ => rfl⟩
    ·rw [ex_snoc q0,qy,hm]; simp
   | false =>
    rw [cond_false]
    refine ih2 _ _ _ ⟨by omega,by omega,?_,?_⟩ (by omega)
    ·rw [ex_snoc q0,qx,hm]; simp
    ·rw [ex_snoc q0]; exact ⟨fun _ => .inr (.inr hm),fun _ => rfl⟩
  ·have ho : other = b.Band.Start.Hi + 1 := by omega
   subst ho
   rw [dF hle2,cond_false,hK5,hK4,hK3,w64 (x:=start + 1) (by omega) (by omega)]
   refine ih _ _ _ ⟨by omega,by omega,?_,?_⟩ (by omega)
   ·rw [ex_snoc p0,qx,px]
   ·rw [ex_snoc p0,qy,py]
 ·have hst : start = a.Band.Start.Hi + 1 := by omega
  subst hst
  rw [dF hle,cond_false,hK2,hK1]
  have hy : y = false ↔ ∀ s1,a.Band.Start.Lo ≤ s1 → s1 ≤ a.Band.Start.Hi → ∀ s2,b.Band.Start.Lo ≤ s2 → s2 ≤ b.Band.Start.Hi → MB a b p s1 s2 = true:=by
   constructor
   ·intro h s1 g1 g2 s2 g3 g4
    cases hm : MB a b p s1 s2 with
    | true => rfl
    | false =>
     have:=py.2 ⟨s1,g1,by omega,s2,g3,by omega,hm⟩
     rw [h] at this; cases this
   ·intro h
    cases y with
    | false => rfl
    | true =>
     obtain ⟨s1,g1,g2,s2,g3,g4,g5⟩:=py.1 rfl
     rw [h s1 g1 (by omega) s2 g3 (by omega)] at g5; cases g5
  have hx : x = false ↔ ∀ s1,a.Band.Start.Lo ≤ s1 → s1 ≤ a.Band.Start.Hi → ∀ s2,b.Band.Start.Lo ≤ s2 → s2 ≤ b.Band.Start.Hi → MB a b p s1 s2 = false:=by
   constructor
   ·intro h s1 g1 g2 s2 g3 g4
    cases hm : MB a b p s1 s2 with
    | false => rfl
    | true =>
     have:=px.2 ⟨s1,g1,by omega,s2,g3,by omega,hm⟩
     rw [h] at this; cases this
   ·intro h
    cases x with
    | false => rfl
    | true =>
     obtain ⟨s1,g1,g2,s2,g3,g4,g5⟩:=px.1 rfl
     rw [h s1 g1 (by omega) s2 g3 (by omega)] at g5; cases g5
  have hne : ¬ (x = false ∧ y = false):=fun ⟨e1,e2⟩ => by
   have g1:=hx.1 e1 a.Band.Start.Lo (Int.le_refl _) a1 b.Band.Start.Lo (Int.le_refl _) b1
   have g2:=hy.1 e2 a.Band.Start.Lo (Int.le_refl _) a1 b.Band.Start.Lo (Int.le_refl _) b1
   rw [g1] at g2; cases g2
  refine ⟨if y = false then 1 else if x = false then 2 else 3,?_,?_,?_,?_⟩
  ·cases y <;> cases x <;> rfl
  ·split
   ·exact .inl rfl
   ·split
    ·exact .inr (.inl rfl)
    ·exact .inr (.inr rfl)
  ·rw [← hy]
   cases y <;> cases x <;> simp
  ·rw [← hx]
   cases y <;> cases x <;> simp at hne ⊢
theorem cross_c (N : Nat) (hN : 1000 < N) (c : T_City) (hc : GoodC c) (a b : T_band_tour) (ha : GoodT c a) (hb : GoodT c b) : ∃ v,p_band_Cross N c a.Band b.Band = some (v,0) ∧ (v = 1 ∨ v = 2 ∨ v = 3) ∧ (v = 1 ↔ ∀ s1,a.Band.Start.Lo ≤ s1 → s1 ≤ a.Band.Start.Hi → ∀ s2,b.Band.Start.Lo ≤ s2 → s2 ≤ b.Band.Start.Hi → MB a b c.Break s1 s2 = true) ∧ (v = 2 ↔ ∀ s1,a.Band.Start.Lo ≤ s1 → s1 ≤ a.Band.Start.Hi → ∀ s2,b.Band.Start.Lo ≤ s2 → s2 ≤ b.Band.Start.Hi → MB a b c.Break s1 s2 = false):=by
 unfold p_band_Cross
 have htr := tours_c N hN c hc [a, b] (by simp) (fun t ht => by
  rcases List.mem_cons.1 ht with rfl | ht
  ·exact ha
  ·obtain rfl := List.mem_singleton.1 ht; exact hb)
 rw [show ([a,b].map (·.Band)) = [a.Band,b.Band] from rfl] at htr
 rw [htr,Option.bind_some]
 obtain ⟨v,e,h⟩:=verdict_c N hN a b ha hb c.Break
 refine ⟨v,?_,h⟩
 have g0 : getI [a,b] 0 = some a:=rfl
 have g1 : getI [a,b] 1 = some b:=rfl
 simp only [bne_self_eq_false,cond_false,g0,g1,Option.bind_some,e]
end Go.Proofs.YthfpmjnmaifgaaaDoor
end
