/- Part 7 of what the law needs: own work, put together. -/
import Derived.ProofKit
import Derived.LaidMore
import Derived.LaidLaws
import Derived.LaidHandle
import Derived.Lib.LaidTab
import Derived.Stop.LaidErr
import Derived.OpenShut
import Derived.Stop.Joined
import Derived.Test.YtjjmhjmkdihmnaaGreatDoorRows
import Derived.Test.YtjjmhjmkdihmnaaGreatDoorTie
import Derived.Test.YtjjmhjmkdihmnaaGreatDoorCards
import Derived.SevenTiedAt
import Derived.Test.YtjjmhjmkdihmnaaGreatDoorJeZq5
set_option linter.unusedVariables false
set_option linter.unusedSimpArgs false
set_option maxRecDepth 10000
set_option maxHeartbeats 4000000
section
namespace Go.Proofs.YtjjmhjmkdihmnaaGreatDoor
open Go.RowKit
theorem bind_T {α β : Type} {x : Option α} {k : α → Option β} (T : α → Prop) (Q : Option β → Prop) (h1 : ∃ v,x = some v ∧ T v) (h2 : ∀ v,T v → Q (k v)) : Q (x.bind k):=by
 obtain ⟨v,rfl,hv⟩:=h1
 exact h2 v hv
theorem loop3_Q {A B C ρ : Type} {body : (A → B → C → Option ρ) → A → B → C → Option ρ} (T : A → B → C → Option ρ → Prop) (P : A → B → C → Prop) (μ : A → B → C → Nat) (h : ∀ rec a b c,P a b c → (∀ a' b' c',P a' b' c' → μ a' b' c' < μ a b c → T a' b' c' (rec a' b' c')) → T a b c (body rec a b c)) : ∀ (N : Nat) (a : A) (b : B) (c : C),P a b c → μ a b c < N → T a b c (loop3 body N a b c)
 | 0,a,b,c,_,hm => absurd hm (Nat.not_lt_zero _)
 | n + 1,a,b,c,hp,hm => h (loop3 body n) a b c hp fun a' b' c' hp' hm' => loop3_Q T P μ h n a' b' c' hp' (by omega)
theorem exI {ρ : Type} {X : Option ρ} {A B : ρ → Prop} (h : ∃ v,X = some v ∧ A v) (k : ∀ v,A v → B v) : ∃ v,X = some v ∧ B v:=by
 obtain ⟨v,h1,h2⟩:=h
 exact ⟨v,h1,k v h2⟩
section
variable {s : T_Shop} (hJ : GJ s.Jobs)
def GS (z : T_shed_draft) (b : Bool) : Prop:=b = true → GD s hJ z ∧ ∀ j,j < s.Jobs.length → (toD z).pl j = true
def Cov (z : T_shed_draft) (b : Bool) (w dd : Nat → Int) : Prop:=b = true ∧ lxE (keyT z) (keyP (shpOf s hJ) w dd)
structure ResS (z : T_shed_draft) (b : Bool) (v : T_shed_draft × Bool) : Prop where
 gs : GS hJ v.1 v.2
 mono : ∀ w dd,Cov hJ z b w dd → Cov hJ v.1 v.2 w dd
def Stp (d : T_shed_draft) (k : Nat) (w0 : Int) : Prop:=(toD d).pl k = false ∧ (aftJ s.Jobs k = -1 ∨ (toD d).pl (aftJ s.Jobs k).toNat = true) ∧ dyL d.shifts_.l k ≤ max (rdyD (shpOf s hJ) (toD d) k) (freD (shpOf s hJ) (toD d) w0)
def CovS (d : T_shed_draft) (k : Nat) (w0 : Int) (v : T_shed_draft × Bool) : Prop:=Stp hJ d k w0 → ∀ w dd,(∀ y : Dr,Adds (shpOf s hJ) (toD d) k w0 (max (rdyD (shpOf s hJ) (toD d) k) (freD (shpOf s hJ) (toD d) w0)) y → Ext (shpOf s hJ) y w dd) → Cov hJ v.1 v.2 w dd
end
theorem GD.many_le {s : T_Shop} {hJ : GJ s.Jobs} {d : T_shed_draft} (h : GD s hJ d) : 0 ≤ d.many_ ∧ d.many_ ≤ (s.Jobs.length : Int):=by
 rw [h.many]
 have h1 : cntD s (toD d) ≤ smN (fun _ => 1) s.Jobs.length:=smN.mono _ _ _ fun i hi => by
  show (if (toD d).pl i = true then (1 : Int) else 0) ≤ 1
  split <;> omega
 have h2 : ∀ n,smN (fun _ => 1) n = (n : Int):=fun n => by
  induction n with
  | zero => rfl
  | succ n ih => rw [smN,ih]; omega
 have h3 : 0 ≤ cntD s (toD d):=smN.pos _ _ fun i hi => by
  show 0 ≤ (if (toD d).pl i = true then (1 : Int) else 0)
  split <;> omega
 rw [h2] at h1
 omega
theorem Ext.keyT {s : T_Shop} {hJ : GJ s.Jobs} {d : T_shed_draft} (h : GD s hJ d) {w dd : Nat → Int} (he : Ext (shpOf s hJ) (toD d) w dd) : lxE (keyT d) (keyP (shpOf s hJ) w dd):=by
 rw [h.key]; exact Ext.key h.di he
theorem DI.begin {s : T_Shop} (hJ : GJ s.Jobs) {x : Dr} (hl : x.last = -1) (hp : ∀ j,x.pl j = false) (hw : ∀ j,x.w j = 0) (hd : ∀ j,j < s.Jobs.length → x.d j = max (rdyD (shpOf s hJ) x j) (turnD x j)) (ho : ∀ j,s.Jobs.length ≤ j → x.d j = 0) : DI (shpOf s hJ) x :=
 ⟨fun j _ h => (by rw [hp] at h; cases h),fun j _ h => (by rw [hp] at h; cases h),fun j k _ _ _ h => (by rw [hp] at h; cases h),.inl ⟨hl,fun j _ => hp j⟩,fun j hj _ => ⟨hw j,hd j hj⟩,fun j hj => ⟨hw j,ho j hj⟩,fun j _ h => (by rw [hp] at h; cases h)⟩
def zeroSh : T_V7_Shift:=⟨⟨0,0⟩,⟨0,0⟩,⟨0,0⟩,⟨0,0⟩,⟨0,0⟩,⟨0,0⟩,⟨0,0⟩⟩
theorem zero_dy (j : Nat) : dyL zeroSh.l j = 0 ∧ wkL zeroSh.l j = 0:=by
 match j with
 | 0 | 1 | 2 | 3 | 4 | 5 | 6 => exact ⟨rfl,rfl⟩
 | n + 7 =>
  have : zeroSh.l[n + 7]? = none:=List.getElem?_eq_none (by show 7 ≤ n + 7; omega)
  unfold dyL wkL
  rw [this]
  exact ⟨rfl,rfl⟩
theorem false_pl (j : Nat) : (((⟨false,false,false,false,false,false,false⟩ : T_V7_bool).l)[j]?).getD false = false:=by
 match j with
 | 0 | 1 | 2 | 3 | 4 | 5 | 6 => rfl
 | n + 7 =>
  have : ((⟨false,false,false,false,false,false,false⟩ : T_V7_bool).l)[n + 7]? = none:=List.getElem?_eq_none (by show 7 ≤ n + 7; omega)
  rw [this]; rfl
theorem begin_c (N : Nat) (hN : 100 < N) {s : T_Shop} (hJ : GJ s.Jobs) {p : T_shed_planner} (hp : Plr s p) : ∃ y,p_shed_planner_put N p ⟨zeroSh,⟨false,false,false,false,false,false,false⟩,0,-1,0⟩ = some y ∧ GD s hJ y ∧ (toD y).last = -1 ∧ ∀ j,(toD y).pl j = false:=by
 obtain ⟨y, e, y1, y2, y3, y4, y5, y6, y7, y8⟩ := put_c N hN hJ hp ⟨zeroSh, ⟨false, false, false, false, false, false, false⟩, 0, -1, 0⟩ (fun j _ => (zero_dy j).1) (fun j => by
  have:=(zero_dy j).1
  show 0 ≤ dyL zeroSh.l j ∧ dyL zeroSh.l j ≤ 10000
  omega) (fun j _ h => by
  have:=false_pl j
  have h : (((⟨false,false,false,false,false,false,false⟩ : T_V7_bool).l)[j]?).getD false = true:=h
  rw [this] at h; cases h) (.inl rfl)
 have hpl : ∀ j,(toD y).pl j = false:=fun j => by
  show (y.planned_.l[j]?).getD false = false
  rw [y1]; exact false_pl j
 refine ⟨y,e,⟨DI.begin hJ y3 hpl (fun j => (y4 j).trans (zero_dy j).2) (fun j hj => y6 j hj (false_pl j)) (fun j hj => (y5 j (.inl hj)).trans (zero_dy j).1),?_,y8,y7⟩,y3,hpl⟩
 rw [y2]
 unfold cntD
 have key : ∀ n,smN (fun j => if (toD y).pl j = true then (1 : Int) else 0) n = 0:=fun n => by
  induction n with
  | zero => rfl
  | succ n ih => rw [smN,ih,hpl]; rfl
 rw [key]
theorem search_c (N : Nat) (hN : 100 < N) {s : T_Shop} (hJ : GJ s.Jobs) {p : T_shed_planner} (hp : Plr s p) (hal : ∀ j,j < s.Jobs.length → (ableL s.Workers (skL s.Jobs j)).length ≤ 50) : ∃ y,p_shed_planner_best N p = some y ∧ ∃ f,GS hJ y f ∧ ∀ w dd,Okp (shpOf s hJ) w dd → Tgt (shpOf s hJ) w dd → (∀ j,0 ≤ w j) → (∀ j,s.Jobs.length ≤ j → dd j = 0) → Cov hJ y f w dd:=by
 have hn:=hJ.len
 obtain ⟨d0,e0,g0,l0,p0⟩:=begin_c N hN hJ hp
 unfold p_shed_planner_best
 simp only [letJ_eq]
 rw [show p_shed_planner_put N p (⟨(⟨(⟨0,0⟩ : T_Shift),(⟨0,0⟩ : T_Shift),(⟨0,0⟩ : T_Shift),(⟨0,0⟩ : T_Shift),(⟨0,0⟩ : T_Shift),(⟨0,0⟩ : T_Shift),(⟨0,0⟩ : T_Shift)⟩ : T_V7_Shift),(⟨false,false,false,false,false,false,false⟩ : T_V7_bool),0,(-1),0⟩ : T_shed_draft) = some d0 from e0,Option.bind_some]
 refine bind_T (T:=fun v => GS hJ v.1 v.2 ∧ ∀ w dd,Ext (shpOf s hJ) (toD d0) w dd → Cov hJ v.1 v.2 w dd) (fun o => ∃ y,o = some y ∧ ∃ f,GS hJ y f ∧ ∀ w dd,Okp (shpOf s hJ) w dd → Tgt (shpOf s hJ) w dd → (∀ j,0 ≤ w j) → (∀ j,s.Jobs.length ≤ j → dd j = 0) → Cov hJ y f w dd) ?_ (fun v hv => ⟨v.1,rfl,v.2,hv.1,fun w dd h1 h2 h3 h4 => hv.2 w dd ⟨h1,h2,h3,fun j _ h => (by rw [p0] at h; cases h),fun j _ _ => .inl l0,h4⟩⟩)
 refine (loop3_Q (fun d z b r => ∃ v,r = some v ∧ ResS hJ z b v ∧ ∀ w dd,Ext (shpOf s hJ) (toD d) w dd → Cov hJ v.1 v.2 w dd) (fun d z b => GD s hJ d ∧ GS hJ z b) (fun d z b => s.Jobs.length - d.many_.toNat) ?_ N d0 _ false ⟨g0,fun h => by cases h⟩ (by omega)).imp fun v hv => ⟨hv.1,hv.2.1.gs,hv.2.2⟩
 rintro rec d z b ⟨hd,hz⟩ ih
 have hmle:=hd.many_le
 by_cases hcut : b = true ∧ lxE (keyT z) (keyT d)
 ·obtain ⟨rfl,h⟩:=hcut
  obtain ⟨c,ec,hc⟩:=compare_c N hN d z
  rw [cond_true,ec,Option.bind_some,decide_eq_true (hc.2 h),cond_true]
  exact ⟨(z,true),rfl,⟨hz,fun _ _ h => h⟩,fun w dd he => ⟨rfl,h.trans (Ext.keyT hd he)⟩⟩
 have hbetter : b = true → lxL (keyT d) (keyT z):=fun hb => by
  rcases lxL.tot (l:=keyT z) (m:=keyT d) rfl with h2 | h2
  ·exact absurd ⟨hb,h2⟩ hcut
  ·exact h2
 have esel : ∀ A B : Option (T_shed_draft × Bool),(bif b then (p_shed_compare N d z).bind fun r_31 => bif decide (r_31 ≥ 0) then A else B else bif false then A else B) = B:=by
  intro A B
  cases b with
  | false => rfl
  | true =>
   obtain ⟨c,ec,hc⟩:=compare_c N hN d z
   have : ¬ c ≥ 0:=fun h => hcut ⟨rfl,hc.1 h⟩
   rw [cond_true,ec,Option.bind_some,decide_eq_false this,cond_false]
 rw [esel]
 by_cases hfull : d.many_ = (s.Jobs.length : Int)
 ·rw [hp.jobs,beq_iff_eq.2 hfull,cond_true]
  exact ⟨(d,true),rfl,⟨fun _ => ⟨hd,hd.full.1 hfull⟩,fun w dd h => ⟨rfl,.trans (.inr (hbetter h.1)) h.2⟩⟩,fun w dd he => ⟨rfl,Ext.keyT hd he⟩⟩
 rw [hp.jobs,beq_eq_false_iff_ne.2 hfull,cond_false]
 rw [show p_shed_planner_steps N p d = some (p,d) from rfl,Option.bind_some]
 dsimp only
 rw [hp.jobs]
 have hbdd:=hd.bdd
 have hpl7 : ∀ i,i < s.Jobs.length → getA d.planned_.l (i : Int) 7 = some ((toD d).pl i):=fun i hi => by
  have h7 : d.planned_.l[i]? = some (d.planned_.l[i]'(by show i < 7; omega)):=List.getElem?_eq_getElem _
  unfold getA
  rw [if_pos (by omega),Int.toNat_natCast,h7]
  show _ = some ((d.planned_.l[i]?).getD false)
  rw [h7]; rfl
 have hsh7 : ∀ i,i < s.Jobs.length → ∃ x,getA d.shifts_.l (i : Int) 7 = some x ∧ x.Day = dyL d.shifts_.l i:=fun i hi => by
  have h7 : d.shifts_.l[i]? = some (d.shifts_.l[i]'(by show i < 7; omega)):=List.getElem?_eq_getElem _
  exact ⟨_,by unfold getA; rw [if_pos (by omega),Int.toNat_natCast,h7],(dyL_at h7).symm⟩
 -- the loop over jobs
 refine exI (A:=fun v => ResS hJ z b v ∧ ∀ k w0,0 ≤ k → k < s.Jobs.length → w0 ∈ ableL s.Workers (skL s.Jobs k) → CovS hJ d k w0 v) (loop3_Q (fun y z b r => ∃ v,r = some v ∧ ResS hJ z b v ∧ ∀ k w0,y.toNat ≤ k → k < s.Jobs.length → w0 ∈ ableL s.Workers (skL s.Jobs k) → CovS hJ d k w0 v) (fun y z b => GS hJ z b ∧ ∃ i : Nat,y = (i : Int) ∧ i ≤ s.Jobs.length) (fun y z b => s.Jobs.length - y.toNat) ?_ N 0 z b ⟨hz,0,rfl,Nat.zero_le _⟩ (by omega)) ?_
 ·rintro rec2 y z b ⟨hz,i,rfl,hi⟩ ih2
  by_cases hlt : i < s.Jobs.length
  ·rw [ltD hlt,cond_true,hpl7 i hlt,Option.bind_some]
   obtain ⟨v0,ev0,hv0,hk0⟩:=ih2 ((i + 1 : Nat) : Int) z b ⟨hz,i + 1,rfl,by omega⟩ (by omega)
   have skip : (∀ w0,¬ Stp hJ d i w0) → ∃ v,rec2 (IntKind.i64.wrap ((i : Int) + 1)) z b = some v ∧ ResS hJ z b v ∧ ∀ k w0,((i : Nat) : Int).toNat ≤ k → k < s.Jobs.length → w0 ∈ ableL s.Workers (skL s.Jobs k) → CovS hJ d k w0 v:=by
    intro hno
    rw [nadd1 i (by omega)]
    refine ⟨v0,ev0,hv0,fun k w0 h1 h2 h3 => ?_⟩
    by_cases e : k = i
    ·subst e
     exact fun hs => absurd hs (hno w0)
    ·exact hk0 k w0 (by omega) h2 h3
   cases hpl : (toD d).pl i with
   | true =>
    rw [cond_true,cond_true]
    exact skip fun w0 hs => by rw [hs.1] at hpl; cases hpl
   | false =>
    rw [cond_false,waits_c N hJ hp hlt,Option.bind_some]
    by_cases hw : aftJ s.Jobs i = -1 ∨ (toD d).pl (aftJ s.Jobs i).toNat = true
    ·rw [decide_eq_false (not_not_intro hw),cond_false,getI_nat,hp.able i hlt,Option.bind_some]
     have hal':=hal i hlt
     generalize hA : ableL s.Workers (skL s.Jobs i) = al at hal'
     refine exI (A:=fun v => ResS hJ z b v ∧ (∀ (m : Nat) w0,0 ≤ m → al[m]? = some w0 → CovS hJ d i w0 v) ∧ ∀ k w0,i + 1 ≤ k → k < s.Jobs.length → w0 ∈ ableL s.Workers (skL s.Jobs k) → CovS hJ d k w0 v) (loop3_Q (fun y z b r => ∃ v,r = some v ∧ ResS hJ z b v ∧ (∀ (m : Nat) w0,y.toNat ≤ m → al[m]? = some w0 → CovS hJ d i w0 v) ∧ ∀ k w0,i + 1 ≤ k → k < s.Jobs.length → w0 ∈ ableL s.Workers (skL s.Jobs k) → CovS hJ d k w0 v) (fun y z b => GS hJ z b ∧ ∃ j : Nat,y = (j : Int) ∧ j ≤ al.length) (fun y z b => al.length - y.toNat) ?_ N 0 z b ⟨hz,0,rfl,Nat.zero_le _⟩ (by omega)) ?_
     ·rintro rec3 y z b ⟨hz,j,rfl,hj⟩ ih3
      by_cases hjl : j < al.length
      ·have hwj : al[j]? = some al[j]:=List.getElem?_eq_getElem hjl
       have hmem : al[j] ∈ ableL s.Workers (skL s.Jobs i):=by rw [hA]; exact List.getElem_mem hjl
       generalize al[j] = w0 at hwj hmem
       obtain ⟨x,ex,hx⟩:=hsh7 i hlt
       obtain ⟨m1,m2⟩:=day_le hd hlt hw w0
       rw [ltD hjl,cond_true,getI_nat,hwj,Option.bind_some,ready_c N hJ hp hbdd hlt,Option.bind_some,free_c N hN hJ hp hbdd,Option.bind_some,ex,Option.bind_some,ifmax,hx,nadd1 j (by omega)]
       by_cases hday : max (rdyD (shpOf s hJ) (toD d) i) (freD (shpOf s hJ) (toD d) w0) < dyL d.shifts_.l i
       ·rw [decide_eq_true hday,cond_true]
        obtain ⟨v,ev,hv,hm,hk⟩:=ih3 ((j + 1 : Nat) : Int) z b ⟨hz,j + 1,rfl,by omega⟩ (by omega)
        refine ⟨v,ev,hv,fun m w1 h1 h2 => ?_,hk⟩
        by_cases e : m = j
        ·subst e
         rw [hwj] at h2
         cases h2
         intro hs
         exact absurd hs.2.2 (by omega)
        ·exact hm m w1 (by omega) h2
       ·rw [decide_eq_false hday,cond_false]
        obtain ⟨y,ey,hadd,hmy,hdy,hby⟩:=with_c N hN hp hd hlt hpl (w:=w0) (day:=max (rdyD (shpOf s hJ) (toD d) i) (freD (shpOf s hJ) (toD d) w0)) ⟨m1,by omega⟩
        rw [ey,Option.bind_some]
        have hgy:=hd.add hlt hpl hw hmem rfl (by omega) hadd hmy hdy hby
        have hmle2:=hgy.many_le
        obtain ⟨v1,e1,hv1,hc1⟩:=ih y z b ⟨hgy,hz⟩ (by omega)
        rw [e1,Option.bind_some]
        obtain ⟨v,ev,hv,hm,hk⟩:=ih3 ((j + 1 : Nat) : Int) v1.1 v1.2 ⟨hv1.gs,j + 1,rfl,by omega⟩ (by omega)
        refine ⟨v,ev,⟨hv.gs,fun w dd h => hv.mono w dd (hv1.mono w dd h)⟩,fun m w1 h1 h2 => ?_,hk⟩
        by_cases e : m = j
        ·subst e
         rw [hwj] at h2
         cases h2
         intro hs w dd hP
         exact hv.mono w dd (hc1 w dd (hP (toD y) hadd))
        ·exact hm m w1 (by omega) h2
      ·have : j = al.length := by omega
       subst this
       rw [ltE,cond_false,nadd1 i (by omega)]
       obtain ⟨v,ev,hv,hk⟩:=ih2 ((i + 1 : Nat) : Int) z b ⟨hz,i + 1,rfl,by omega⟩ (by omega)
       refine ⟨v,ev,hv,fun m w0 h1 h2 => ?_,fun k w0 h1 => hk k w0 (by omega)⟩
       have:=(List.getElem?_eq_some_iff.1 h2).1
       omega
     ·rintro v ⟨h1,h2,h3⟩
      refine ⟨h1,fun k w0 q1 q2 q3 => ?_⟩
      by_cases e : k = i
      ·subst e
       rw [hA] at q3
       obtain ⟨m,hm⟩:=List.mem_iff_getElem?.1 q3
       exact h2 m w0 (Nat.zero_le _) hm
      ·exact h3 k w0 (by omega) q2 q3
    ·rw [decide_eq_true hw,cond_true]
     exact skip fun w0 hs => hw hs.2.1
  ·have : i = s.Jobs.length := by omega
   subst this
   rw [ltE,cond_false]
   exact ⟨(z,b),rfl,⟨hz,fun _ _ h => h⟩,fun k w0 h1 h2 => by omega⟩
 ·rintro v ⟨h1,h2⟩
  refine ⟨h1,fun w dd he => ?_⟩
  have hun : ∃ j,j < (shpOf s hJ).n ∧ (toD d).pl j = false:=by
   refine Classical.byContradiction fun hno => hfull (hd.full.2 fun j hj => ?_)
   cases hpj : (toD d).pl j with
   | true => rfl
   | false => exact absurd ⟨j,hj,hpj⟩ hno
  obtain ⟨k,k1,k2,k3,k4,k5,k6,k7⟩:=Ext.next hd.di he hun
  refine h2 k (w k) (Nat.zero_le _) k1 k4 ⟨k2,k3,?_⟩ w dd fun y hy => ?_
  ·rw [k5]; exact k6
  ·rw [k5] at hy; exact k7 y hy
end Go.Proofs.YtjjmhjmkdihmnaaGreatDoor
end
section
namespace Go.Proofs.YtjjmhjmkdihmnaaGreatDoor
open Go.RowKit
structure GW (s : T_Shop) : Prop where
 jobs : GJ s.Jobs
 w0 : 0 < s.Workers.length
 w4 : s.Workers.length ≤ 4
theorem within_c8 (N : Nat) (n a b : Int) : p_shed_within N n a b = some (decide (a ≤ n ∧ n ≤ b)):=by
 unfold p_shed_within
 by_cases h : n ≥ a
 ·rw [decide_eq_true h,cond_true]
  congr 1
  exact decide_eq_decide.2 ⟨fun h2 => ⟨h,h2⟩,fun h2 => h2.2⟩
 ·rw [decide_eq_false h,cond_false,decide_eq_false (fun h2 => h h2.1)]
theorem chkL {n : Nat} (Q : Nat → Prop) (E : Int → Prop) {K : Option Int} {body : (Int → Option Int) → Int → Option Int} (hend : ∀ rec,body rec (n : Int) = K) (hstep : ∀ rec (i : Nat),i < n → (¬ Q i ∧ ∃ e,E e ∧ body rec (i : Int) = some e) ∨ (Q i ∧ body rec (i : Int) = rec ((i + 1 : Nat) : Int))) : ∀ (N i : Nat),i ≤ n → n - i < N → (¬ (∀ j,i ≤ j → j < n → Q j) ∧ ∃ e,E e ∧ loop1 body N (i : Int) = some e) ∨ ((∀ j,i ≤ j → j < n → Q j) ∧ loop1 body N (i : Int) = K)
 | 0,_,_,h => absurd h (Nat.not_lt_zero _)
 | N + 1,i,hi,h => by
  show (_ ∧ ∃ e,E e ∧ body (loop1 body N) (i : Int) = some e) ∨ (_ ∧ body (loop1 body N) (i : Int) = K)
  by_cases hlt : i < n
  ·rcases hstep (loop1 body N) i hlt with ⟨h1,h2⟩ | ⟨h1,h2⟩
   ·exact .inl ⟨fun hq => h1 (hq i (Nat.le_refl _) hlt),h2⟩
   ·rw [h2]
    rcases chkL Q E hend hstep N (i + 1) (by omega) (by omega) with ⟨k1,k2⟩ | ⟨k1,k2⟩
    ·exact .inl ⟨fun hq => k1 fun j hj hj2 => hq j (by omega) hj2,k2⟩
    ·refine .inr ⟨fun j hj hj2 => ?_,k2⟩
     by_cases e : j = i
     ·subst e; exact h1
     ·exact k1 j (by omega) hj2
  ·have : i = n := by omega
   subst this
   exact .inr ⟨fun j h1 h2 => absurd h2 (by omega),hend _⟩
theorem chkZ {n : Nat} (Q : Nat → Prop) (E : Int → Prop) {K : Option Int} {body : (Int → Option Int) → Int → Option Int} {N : Nat} (hN : n < N) (hend : ∀ rec,body rec (n : Int) = K) (hstep : ∀ rec (i : Nat),i < n → (¬ Q i ∧ ∃ e,E e ∧ body rec (i : Int) = some e) ∨ (Q i ∧ body rec (i : Int) = rec ((i + 1 : Nat) : Int))) : (¬ (∀ j,j < n → Q j) ∧ ∃ e,E e ∧ loop1 body N 0 = some e) ∨ ((∀ j,j < n → Q j) ∧ loop1 body N 0 = K):=by
 rcases chkL Q E hend hstep N 0 (Nat.zero_le _) (by omega) with ⟨h1,h2⟩ | ⟨h1,h2⟩
 ·exact .inl ⟨fun h => h1 fun j _ => h j,h2⟩
 ·exact .inr ⟨fun j => h1 j (Nat.zero_le _),h2⟩
theorem Check_c (N : Nat) (hN : 100 < N) {s : T_Shop} (h : GW s) : p_shed_Check N s = some 0:=by
 unfold p_shed_Check
 have:=h.w0
 have:=h.w4
 have hn:=h.jobs.len
 simp only [letJ_eq]
 rw [beq_eq_false_iff_ne.2 (show ((s.Workers.length : Nat) : Int) ≠ 0 by omega),cond_false,decide_eq_false (show ¬ ((s.Workers.length : Nat) : Int) > 4 by omega),cond_false,decide_eq_false (show ¬ ((s.Jobs.length : Nat) : Int) > 7 by omega),cond_false]
 refine st1 s.Jobs.length _ (some 0) (fun rec => ?_) (fun rec i hi => ?_) N 0 (Nat.zero_le _) (by omega)
 ·rw [ltE,cond_false]
 ·have hx : s.Jobs[i]? = some s.Jobs[i]:=List.getElem?_eq_getElem hi
  have ha:=h.jobs.all _ (List.getElem_mem hi)
  generalize s.Jobs[i] = x at hx ha
  have e : p_shed_checkJob N x = some 0:=by
   unfold p_shed_checkJob
   rw [within_c8,Option.bind_some,decide_eq_true (by omega),Bool.not_true,cond_false,within_c8,Option.bind_some,decide_eq_true (by omega),Bool.not_true,cond_false,within_c8,Option.bind_some,decide_eq_true (by omega)]
   rfl
  rw [ltD hi,cond_true,getI_nat,hx,Option.bind_some,e,Option.bind_some,nadd1 i (by omega)]
  rfl
def AllAble (s : T_Shop) : Prop:=∀ j,j < s.Jobs.length → ableL s.Workers (skL s.Jobs j) ≠ []
theorem skills_c (N : Nat) (hN : 100 < N) {s : T_Shop} (h : GW s) : (¬ AllAble s ∧ p_shed_checkSkills N s = some 7) ∨ (AllAble s ∧ p_shed_checkSkills N s = some 0):=by
 unfold p_shed_checkSkills
 have hn:=h.jobs.len
 rw [Check_c N hN h,Option.bind_some]
 simp only [letJ_eq]
 rw [show ((0 : Int) != 0) = false from rfl,cond_false]
 refine (chkZ (n:=s.Jobs.length) (fun j => ableL s.Workers (skL s.Jobs j) ≠ []) (fun e => e = 7) (by omega) (fun rec => ?_) (fun rec i hlt => ?_)).imp (fun ⟨h1,e,h2,h3⟩ => ⟨h1,h2 ▸ h3⟩) id
 ·rw [ltE,cond_false]
 ·have hx : s.Jobs[i]? = some s.Jobs[i]:=List.getElem?_eq_getElem hlt
  have hs : skL s.Jobs i = s.Jobs[i].Skill:=by simp [skL,hx]
  have ha:=h.jobs.all _ (List.getElem_mem hlt)
  obtain ⟨b1,b2⟩:=bit_at (sk:=s.Jobs[i].Skill) (by omega) (by omega)
  rw [ltD hlt,cond_true,getI_nat,hx,Option.bind_some,b1,Option.bind_some,b2,Option.bind_some,workersWith_c N hN s h.w4 (by omega) (by omega),Option.bind_some,nadd1 i (by omega),hs]
  by_cases hn : ableL s.Workers s.Jobs[i].Skill = []
  ·rw [hn]; exact .inl ⟨fun h => h rfl,7,rfl,rfl⟩
  ·rw [beq_eq_false_iff_ne.2,cond_false]
   ·exact .inr ⟨hn,rfl⟩
   ·have:=List.length_pos_iff.2 hn
    omega
structure BestP (s : T_Shop) (hJ : GJ s.Jobs) (l : List T_Shift) (d : Int) : Prop where
 len : l.length = s.Jobs.length
 ok : Okp (shpOf s hJ) (wkL l) (dyL l)
 days : d = mxN (fun j => dyL l j + dsL s.Jobs j) s.Jobs.length
 small : ∀ j,j < s.Jobs.length → dyL l j + dsL s.Jobs j ≤ smN (dsL s.Jobs) s.Jobs.length
 min : ∀ w dd,Okp (shpOf s hJ) w dd → (∀ j,0 ≤ w j) → (∀ j,s.Jobs.length ≤ j → dd j = 0) → lxE (keyP (shpOf s hJ) (wkL l) (dyL l)) (keyP (shpOf s hJ) w dd)
theorem some_plan {s : T_Shop} (hJ : GJ s.Jobs) (ha : AllAble s) : ∃ w dd,Okp (shpOf s hJ) w dd ∧ (∀ j,0 ≤ w j) ∧ ∀ j,s.Jobs.length ≤ j → dd j = 0:=by
 have hm : ∀ a b,a ≤ b → b ≤ s.Jobs.length → smN (dsL s.Jobs) a ≤ smN (dsL s.Jobs) b:=by
  intro a b hab
  induction b with
  | zero => intro _; obtain rfl : a = 0:=(by omega); exact Int.le_refl _
  | succ b ih =>
   intro hb
   by_cases e : a = b + 1
   ·subst e; exact Int.le_refl _
   ·have := ih (by omega) (by omega)
    have:=(hJ.ds (j:=b) (by omega)).1
    rw [smN]; omega
 have hstep : ∀ a b,a < b → b ≤ s.Jobs.length → smN (dsL s.Jobs) a + dsL s.Jobs a ≤ smN (dsL s.Jobs) b:=fun a b hab hb => by
  have:=hm (a + 1) b (by omega) hb
  rw [smN] at this
  exact this
 refine ⟨fun j => (ableL s.Workers (skL s.Jobs j)).headD 0,fun j => if j < s.Jobs.length then smN (dsL s.Jobs) j else 0,⟨fun j hj => ?_,fun j hj => ?_,fun j b hj hb => ?_,fun j k hj hk hne _ => ?_⟩,fun j => ?_,fun j hj => if_neg (by omega)⟩
 ·show List.headD _ 0 ∈ ableL s.Workers (skL s.Jobs j)
  have:=ha j hj
  cases h : ableL s.Workers (skL s.Jobs j) with
  | nil => exact absurd h this
  | cons x l => simp
 ·have hj : j < s.Jobs.length:=hj
  show 0 ≤ (if j < s.Jobs.length then smN (dsL s.Jobs) j else 0)
  rw [if_pos hj]
  have:=hm 0 j (by omega) (by omega)
  exact this
 ·have hj : j < s.Jobs.length:=hj
  have hbj : b < j:=by
   rcases aftF_lt (flL s.Jobs j) s.Jobs j with e | ⟨b',e,hb'⟩
   ·have hb : aftF (flL s.Jobs j) s.Jobs j = (b : Int):=hb
    omega
   ·have hb : aftF (flL s.Jobs j) s.Jobs j = (b : Int):=hb
    omega
  show (if b < s.Jobs.length then smN (dsL s.Jobs) b else 0) + dsL s.Jobs b ≤ (if j < s.Jobs.length then smN (dsL s.Jobs) j else 0)
  rw [if_pos (by omega),if_pos hj]
  exact hstep b j hbj (by omega)
 ·have hj : j < s.Jobs.length:=hj
  have hk : k < s.Jobs.length:=hk
  show (if j < s.Jobs.length then smN (dsL s.Jobs) j else 0) + dsL s.Jobs j ≤ (if k < s.Jobs.length then smN (dsL s.Jobs) k else 0) ∨ (if k < s.Jobs.length then smN (dsL s.Jobs) k else 0) + dsL s.Jobs k ≤ (if j < s.Jobs.length then smN (dsL s.Jobs) j else 0)
  rw [if_pos hj,if_pos hk]
  by_cases h : j < k
  ·exact .inl (hstep j k h (by omega))
  ·exact .inr (hstep k j (by omega) (by omega))
 ·show 0 ≤ List.headD (ableL s.Workers (skL s.Jobs j)) 0
  cases h : ableL s.Workers (skL s.Jobs j) with
  | nil => exact Int.le_refl _
  | cons x l =>
   have : x ∈ ableL s.Workers (skL s.Jobs j):=by rw [h]; simp
   obtain ⟨k,_,rfl,_⟩:=mem_able.1 this
   exact Int.natCast_nonneg k
theorem Best_c (N : Nat) (hN : 100 < N) {s : T_Shop} (h : GW s) : (¬ AllAble s ∧ p_shed_Best N s = some ([],0,7)) ∨ (AllAble s ∧ ∃ l d,p_shed_Best N s = some (l,d,0) ∧ BestP s h.jobs l d):=by
 have hn:=h.jobs.len
 unfold p_shed_Best
 rcases skills_c N hN h with ⟨h1,h2⟩ | ⟨h1,h2⟩
 ·rw [h2]; exact .inl ⟨h1,rfl⟩
 ·rw [h2,Option.bind_some,show ((0 : Int) != 0) = false from rfl,cond_false]
  refine .inr ⟨h1,?_⟩
  obtain ⟨p,ep,hp⟩:=plannerOf_c N hN s h.jobs h.w4
  obtain ⟨y, ey, f, hgs, hcov⟩ := search_c N hN h.jobs hp (fun j hj => by
   have:=ableF_len s.Workers (skL s.Jobs j) s.Workers.length
   have:=h.w4
   show (ableF _ _ _).length ≤ 50
   omega)
  rw [ep,Option.bind_some,ey,Option.bind_some]
  have hcut : cutL y.shifts_.l 7 ((s.Jobs.length : Nat) : Int) = some (y.shifts_.l.take s.Jobs.length):=by
   unfold cutL
   rw [if_pos ⟨by omega,by omega,by show (s.Jobs.length : Int) ≤ 7; omega⟩,Int.toNat_natCast]
  rw [hcut,Option.bind_some]
  have hcl : p_slices_Clone_Shift_Shift N (y.shifts_.l.take s.Jobs.length) = some (y.shifts_.l.take s.Jobs.length):=by
   unfold p_slices_Clone_Shift_Shift
   rw [pushI_ok (by rw [List.length_take]; simp; omega),List.nil_append]
  rw [hcl,Option.bind_some]
  -- any plan is covered,and there is one
  have hall : ∀ w dd,Okp (shpOf s h.jobs) w dd → (∀ j,0 ≤ w j) → (∀ j,s.Jobs.length ≤ j → dd j = 0) → f = true ∧ lxE (keyT y) (keyP (shpOf s h.jobs) w dd):=by
   intro w dd hok hw ho
   obtain ⟨d', a1, a2, a3, a4⟩ := Okp.tight (smN dd s.Jobs.length).toNat.succ dd (by
    have : 0 ≤ smN dd s.Jobs.length:=smN.pos _ _ hok.pos
    show smN dd s.Jobs.length < _
    omega) hok
   obtain ⟨c1,c2⟩:=hcov w d' a1 a2 hw (fun j hj => by rw [a4 j hj]; exact ho j hj)
   exact ⟨c1,c2.trans (keyP.mono a3)⟩
  obtain ⟨w0,dd0,p1,p2,p3⟩:=some_plan h.jobs h1
  obtain ⟨rfl,_⟩:=hall w0 dd0 p1 p2 p3
  obtain ⟨gy,full⟩:=hgs rfl
  have hdy : dyL (y.shifts_.l.take s.Jobs.length) = dyL y.shifts_.l ∧ wkL (y.shifts_.l.take s.Jobs.length) = wkL y.shifts_.l:=by
   constructor
   ·funext j
    by_cases hj : j < s.Jobs.length
    ·unfold dyL; rw [List.getElem?_take_of_lt hj]
    ·have := (gy.di.out j (by show s.Jobs.length ≤ j; omega)).2
     have e : dyL y.shifts_.l j = 0:=this
     rw [e]
     unfold dyL
     rw [List.getElem?_eq_none (by rw [List.length_take]; omega)]
     rfl
   ·funext j
    by_cases hj : j < s.Jobs.length
    ·unfold wkL; rw [List.getElem?_take_of_lt hj]
    ·have := (gy.di.out j (by show s.Jobs.length ≤ j; omega)).1
     have e : wkL y.shifts_.l j = 0:=this
     rw [e]
     unfold wkL
     rw [List.getElem?_eq_none (by rw [List.length_take]; omega)]
     rfl
  refine ⟨_,_,rfl,?_,?_,?_,?_,?_⟩
  ·rw [List.length_take]; show min s.Jobs.length 7 = _; omega
  ·rw [hdy.1,hdy.2]; exact gy.di.full full
  ·rw [hdy.1]; exact gy.days
  ·intro j hj
   rw [hdy.1]
   have h5:=gy.di.sum j hj (full j hj)
   have h6 : smN (fun j => if (toD y).pl j = true then dsL s.Jobs j else 0) s.Jobs.length = smN (dsL s.Jobs) s.Jobs.length:=smN.eq _ _ _ fun i hi => by rw [full i hi]; rfl
   exact Int.le_trans h5 (Int.le_of_eq h6)
  ·intro w dd q1 q2 q3
   rw [hdy.1,hdy.2]
   have:=(hall w dd q1 q2 q3).2
   rw [gy.key] at this
   exact this
end Go.Proofs.YtjjmhjmkdihmnaaGreatDoor
end
section
namespace Go.Proofs.YtjjmhjmkdihmnaaGreatDoor
open Go.RowKit
theorem hit_p (N : Nat) (d : T_bk_Drum) : ∃ y d',p_bk_Drum_hit N d = some (y,d') ∧ 0 ≤ y ∧ y < 2 ^ 64:=by
 refine ⟨_,_,rfl,?_⟩
 exact wu64 _
theorem roll_p (N : Nat) (d : T_bk_Drum) (n : Int) (hn : n < 9223372036854775808) : ∃ r d',p_bk_Drum_Roll N d n = some (r,d') ∧ 0 ≤ r ∧ (n < 2 → r = 0) ∧ (2 ≤ n → r < n):=by
 unfold p_bk_Drum_Roll
 by_cases h2 : n < 2
 ·simp only [h2,decide_true,cond_true]
  exact ⟨0,d,rfl,by omega,fun _ => rfl,fun h => by omega⟩
 ·simp only [h2,decide_false,cond_false]
  obtain ⟨y,d',hy,h0,h1⟩:=hit_p N d
  have hu : IntKind.u64.wrap n = n:=wu64_id (by omega) (by omega)
  have hnz : n ≠ 0:=by omega
  rw [hy,hu]
  simp only [Option.bind_some,nzI,hnz,if_false]
  have hsh : Int.fdiv y ((2 : Int) ^ (min (Int.toNat 1) (IntKind.bits .u64))) = y / 2:=by
   have : (2 : Int) ^ (min (Int.toNat 1) (IntKind.bits .u64)) = 2:=rfl
   rw [this,Int.fdiv_eq_ediv_of_nonneg _ (by omega)]
  rw [hsh]
  have hd0 : 0 ≤ y / 2:=by omega
  have hm : Int.tmod (y / 2) n = (y / 2) % n:=Int.tmod_eq_emod_of_nonneg hd0
  have hm0 : 0 ≤ (y / 2) % n:=Int.emod_nonneg _ hnz
  have hm1 : (y / 2) % n < n:=Int.emod_lt_of_pos _ (by omega)
  rw [hm,w64 (x:=y / 2 % n) (by omega) (by omega)]
  exact ⟨_,d',rfl,hm0,fun h => False.elim h,fun _ => hm1⟩
theorem mid_p (N : Nat) (d : T_bk_Drum) (lo hi : Int) (h0 : -4611686018427387904 ≤ lo) (h1 : lo ≤ 4611686018427387903) (h2 : -4611686018427387904 ≤ hi) (h3 : hi ≤ 4611686018427387902) : ∃ r d',p_bk_Drum_Mid N d lo hi = some (r,d') ∧ lo ≤ r ∧ (lo ≤ hi → r ≤ hi) ∧ (hi < lo → r = lo):=by
 unfold p_bk_Drum_Mid
 rw [w64 (x:=hi - lo) (by omega) (by omega)]
 by_cases hc : hi - lo + 1 < 9223372036854775808
 ·rw [w64 (x := hi - lo + 1) (by omega) hc]
  obtain ⟨r,d',e1,e2,e3,e4⟩:=roll_p N d (hi - lo + 1) hc
  rw [e1]
  simp only [Option.bind_some]
  have hr : r ≤ hi - lo ∨ r = 0:=by
   by_cases h : hi - lo + 1 < 2
   ·exact .inr (e3 h)
   ·have:=e4 (by omega); exact .inl (by omega)
  rw [w64 (by omega) (by omega)]
  exact ⟨_, d', rfl, by omega, fun h => by omega, fun h => by
   have:=e3 (by omega)
   omega⟩
 ·omega
theorem drumOf_step (N : Nat) (l : List Int) (rec : Int → Int → Option T_bk_Drum) (i q : Int) (h : i < 9223372036854775807) (h0 : 0 ≤ i) (ih : ∀ b',∃ d,rec (i + 1) b' = some d) : ∃ d,((p_bk_Drum_hit N (⟨q⟩ : T_bk_Drum)).bind fun r_14 => (rec (IntKind.i64.wrap (i + 1)) r_14.2.beat_)) = some d:=by
 obtain ⟨y,d',g1,_,_⟩:=hit_p N ⟨q⟩
 rw [g1,w64 (x:=i + 1) (by omega) (by omega)]
 exact ih _
theorem drumOf_p (N : Nat) (l : List Int) (hN : l.length < N) (hl : l.length < 9223372036854775808) : ∃ d,p_bk_DrumOf N l = some d:=by
 unfold p_bk_DrumOf
 rw [letJ_eq]
 refine loop2_T (fun x => ∃ d,x = some d) (fun i b => 0 ≤ i ∧ i ≤ (l.length : Int)) (fun i b => l.length - i.toNat) ?_ N 0 _ ⟨by omega,by omega⟩ (by simpa using hN)
 rintro rec i b ⟨h0,h1⟩ ih
 by_cases hc : i < (l.length : Int)
 ·rw [show decide (i < ((l.length : Nat) : Int)) = true from decide_eq_true hc,cond_true]
  obtain ⟨x,e1,_,_⟩:=getI_lt h0 hc
  rw [e1,Option.bind_some,Option.bind_some]
  exact drumOf_step N l rec i _ (by omega) h0 fun b' => ih _ _ ⟨by omega,by omega⟩ (by omega)
 ·rw [show decide (i < ((l.length : Nat) : Int)) = false from decide_eq_false hc,cond_false]
  exact ⟨_,rfl⟩
theorem roll_le (N : Nat) (d : T_bk_Drum) (n : Int) (h1 : 1 ≤ n) (hn : n < 9223372036854775808) : ∃ r d',p_bk_Drum_Roll N d n = some (r,d') ∧ 0 ≤ r ∧ r < n:=by
 obtain ⟨r,d',e,h0,h2,h3⟩:=roll_p N d n hn
 refine ⟨r,d',e,h0,?_⟩
 by_cases h : n < 2
 ·rw [h2 h]; omega
 ·exact h3 (by omega)
end Go.Proofs.YtjjmhjmkdihmnaaGreatDoor
end
section
namespace Go.Proofs.YtjjmhjmkdihmnaaGreatDoor
open Go.RowKit
theorem rareS_p (N : Nat) (d : T_bk_Drum) (n : Int) (hn : n < 9223372036854775808) : ∃ r d',p_bk_Drum_Rare N d n = some (r,d'):=by
 unfold p_bk_Drum_Rare
 obtain ⟨r,d',e,_⟩:=roll_p N d n hn
 rw [e,Option.bind_some]
 exact ⟨_,_,rfl⟩
structure Made (s : T_Shop) (w j k : Int) : Prop where
 gw : GW s
 w : (s.Workers.length : Int) ≤ w
 j : (s.Jobs.length : Int) ≤ j
 k : ∀ x,x ∈ s.Jobs → x.Days ≤ k
 f : ∀ x,x ∈ s.Jobs → x.Float ≤ 2
theorem shopOf_p (N : Nat) (hN : 100 < N) (d : T_bk_Drum) (w j k : Int) (hw : 1 ≤ w ∧ w ≤ 4) (hj : 0 ≤ j ∧ j ≤ 7) (hk : 1 ≤ k ∧ k ≤ 30) : ∃ s d',p_bk_ShopOf N d w j k = some (s,d') ∧ Made s w j k:=by
 unfold p_bk_ShopOf
 simp only [letJ_eq]
 obtain ⟨n,d1,e1,n1,n2,_⟩:=mid_p N d 1 w (by omega) (by omega) (by omega) (by omega)
 have n2:=n2 hw.1
 rw [e1,Option.bind_some,w64 (x:=j + 1) (by omega) (by omega)]
 refine loop3_T (fun r => ∃ s d',r = some (s,d') ∧ Made s w j k) (fun (i b : Int) (l : List T_Worker) => 0 ≤ i ∧ (l.length : Int) + i = n) (fun i b l => i.toNat) ?_ N _ _ _ ⟨by show 0 ≤ n; omega,by simp⟩ (by show n.toNat < N; omega)
 rintro rec i b l ⟨hi,hl⟩ ih
 by_cases h0 : i > 0
 ·rw [decide_eq_true h0,cond_true]
  obtain ⟨r1,q1,a1⟩:=rareS_p N ⟨b⟩ 3 (by omega)
  obtain ⟨r2,q2,a2⟩:=rareS_p N q1 3 (by omega)
  obtain ⟨r3,q3,a3⟩:=rareS_p N q2 3 (by omega)
  rw [a1,Option.bind_some,a2,Option.bind_some,a3,Option.bind_some,pushI_ok (by simp; omega),Option.bind_some,w64 (by omega) (by omega)]
  exact ih _ _ _ ⟨by omega,by simp; omega⟩ (by omega)
 ·rw [decide_eq_false h0,cond_false]
  obtain ⟨m,d2,e2,m1,m2⟩:=roll_le N ⟨b⟩ (j + 1) (by omega) (by omega)
  rw [e2,Option.bind_some]
  have hlw : (l.length : Int) = n:=by omega
  refine loop3_T (fun r => ∃ s d',r = some (s,d') ∧ Made s w j k) (fun (i b : Int) (J : List T_Job) => 0 ≤ i ∧ (J.length : Int) + i = m ∧ ∀ x,x ∈ J → (0 ≤ x.Float ∧ x.Float ≤ 6 ∧ 1 ≤ x.Skill ∧ x.Skill ≤ 3 ∧ 1 ≤ x.Days ∧ x.Days ≤ 30) ∧ x.Days ≤ k ∧ x.Float ≤ 2) (fun i b J => i.toNat) ?_ N _ _ _ ⟨m1,by simp,fun x hx => by simp at hx⟩ (by show m.toNat < N; omega)
  rintro rec2 i2 b2 J ⟨hi2,hJl,hJ⟩ ih2
  by_cases h2 : i2 > 0
  ·rw [decide_eq_true h2,cond_true]
   obtain ⟨x1,q1,a1,b1,c1⟩:=roll_le N ⟨b2⟩ 3 (by omega) (by omega)
   obtain ⟨x2,q2,a2,b2',c2,_⟩:=mid_p N q1 1 3 (by omega) (by omega) (by omega) (by omega)
   have c2:=c2 (by omega)
   obtain ⟨x3,q3,a3,b3,c3,_⟩:=mid_p N q2 1 k (by omega) (by omega) (by omega) (by omega)
   have c3:=c3 hk.1
   rw [a1,Option.bind_some,a2,Option.bind_some,a3,Option.bind_some,pushI_ok (by simp; omega),Option.bind_some,w64 (by omega) (by omega)]
   refine ih2 _ _ _ ⟨by omega,by simp; omega,fun x hx => ?_⟩ (by omega)
   rcases List.mem_append.1 hx with hx | hx
   ·exact hJ x hx
   ·rw [List.mem_singleton] at hx
    subst hx
    exact ⟨⟨by show 0 ≤ x1; omega,by show x1 ≤ 6; omega,b2',c2,b3,by show x3 ≤ 30; omega⟩,c3,by show x1 ≤ 2; omega⟩
  ·rw [decide_eq_false h2,cond_false]
   exact ⟨_,_,rfl,⟨⟨by show J.length ≤ 7; omega,fun x hx => (hJ x hx).1⟩,by show 0 < l.length; omega,by show l.length ≤ 4; omega⟩,by show (l.length : Int) ≤ w; omega,by show (J.length : Int) ≤ j; omega,fun x hx => (hJ x hx).2.1,fun x hx => (hJ x hx).2.2⟩
structure ShiftOk (s : T_Shop) (l : List T_Shift) (j : Nat) : Prop where
 can : wkL l j ∈ ableL s.Workers (skL s.Jobs j)
 day : 0 ≤ dyL l j ∧ dyL l j ≤ 400
 ord : aftJ s.Jobs j = -1 ∨ dyL l (aftJ s.Jobs j).toNat + dsL s.Jobs (aftJ s.Jobs j).toNat ≤ dyL l j
theorem checkShift_c (N : Nat) (hN : 100 < N) {s : T_Shop} (h : GW s) {l : List T_Shift} (hl : l.length = s.Jobs.length) (hb : ∀ j,-1000000 ≤ dyL l j ∧ dyL l j ≤ 1000000) {j : Nat} (hj : j < s.Jobs.length) : (¬ ShiftOk s l j ∧ ∃ e,e ≠ 0 ∧ p_shed_checkShift N s l (j : Int) = some e) ∨ (ShiftOk s l j ∧ p_shed_checkShift N s l (j : Int) = some 0):=by
 have hn:=h.jobs.len
 have hw4:=h.w4
 have hw0:=h.w0
 have hx : l[j]? = some l[j]:=List.getElem?_eq_getElem (by omega)
 have hJx : s.Jobs[j]? = some s.Jobs[j]:=List.getElem?_eq_getElem hj
 have ha:=h.jobs.all _ (List.getElem_mem hj)
 have hsk : skL s.Jobs j = s.Jobs[j].Skill:=by simp [skL,hJx]
 have hwk:=wkL_at hx
 have hdy:=dyL_at hx
 generalize l[j] = x at hx hwk hdy
 generalize s.Jobs[j] = y at hJx ha hsk
 unfold p_shed_checkShift
 simp only [letJ_eq]
 rw [getI_nat,hx,Option.bind_some,within_c8,Option.bind_some,w64 (by omega) (by omega)]
 by_cases hwi : 0 ≤ x.Worker ∧ x.Worker ≤ (s.Workers.length : Int) - 1
 ·rw [decide_eq_true hwi,Bool.not_true,cond_false]
  obtain ⟨k,hk⟩ : ∃ k : Nat,x.Worker = (k : Int):=⟨x.Worker.toNat,by omega⟩
  have hkl : k < s.Workers.length:=by omega
  have hv : s.Workers[k]? = some s.Workers[k]:=List.getElem?_eq_getElem hkl
  generalize s.Workers[k] = v at hv
  obtain ⟨b1,b2⟩:=bit_at (sk:=y.Skill) (by omega) (by omega)
  rw [hk,getI_nat,hv,Option.bind_some,getI_nat,hJx,Option.bind_some,b1,Option.bind_some,b2,Option.bind_some,hasOne_c N hN v (by omega) (by omega),Option.bind_some]
  have hmem : wkL l j ∈ ableL s.Workers (skL s.Jobs j) ↔ canW v y.Skill = true:=by
   rw [hwk,hsk,hk,mem_able]
   constructor
   ·rintro ⟨k',v',e1,e2,e3⟩
    obtain rfl : k = k':=by omega
    rw [hv] at e2; cases e2; exact e3
   ·intro e; exact ⟨k,v,rfl,hv,e⟩
  cases hc : canW v y.Skill with
  | false =>
   refine .inl ⟨fun q => ?_,3,by decide,rfl⟩
   have:=hmem.1 q.can
   rw [hc] at this; cases this
  | true =>
   rw [Bool.not_true,cond_false,within_c8,Option.bind_some]
   by_cases hdi : 0 ≤ x.Day ∧ x.Day ≤ 400
   ·rw [decide_eq_true hdi,Bool.not_true,cond_false,jobBefore_c N hN hn hj,Option.bind_some]
    by_cases haft : aftJ s.Jobs j = -1
    ·rw [haft]
     exact .inr ⟨⟨hmem.2 hc,by rw [hdy]; exact hdi,.inl haft⟩,rfl⟩
    ·rw [bne_iff_ne.2 haft,cond_true]
     rcases aftF_lt (flL s.Jobs j) s.Jobs j with e | ⟨b,e,hbl⟩
     ·exact absurd e haft
     ·have e : aftJ s.Jobs j = (b : Int):=e
      rw [e,end_c N h.jobs (by omega) (by omega) (hb b),Option.bind_some]
      by_cases hlt : x.Day < dyL l b + dsL s.Jobs b
      ·rw [decide_eq_true hlt]
       refine .inl ⟨fun q => ?_,9,by decide,rfl⟩
       have:=q.ord
       rw [e,Int.toNat_natCast,hdy] at this
       omega
      ·rw [decide_eq_false hlt]
       refine .inr ⟨⟨hmem.2 hc,by rw [hdy]; exact hdi,.inr ?_⟩,rfl⟩
       rw [e,Int.toNat_natCast,hdy]
       omega
   ·rw [decide_eq_false hdi]
    refine .inl ⟨fun q => hdi ?_,2,by decide,rfl⟩
    have:=q.day
    rw [hdy] at this
    exact this
 ·rw [decide_eq_false hwi]
  refine .inl ⟨fun q => hwi ?_,7,by decide,rfl⟩
  obtain ⟨k,v,e1,e2,_⟩:=mem_able.1 q.can
  have:=(List.getElem?_eq_some_iff.1 e2).1
  rw [hwk] at e1
  omega
def Clash (s : T_Shop) (l : List T_Shift) (a b : Nat) : Prop:=wkL l a = wkL l b ∧ dyL l a < dyL l b + dsL s.Jobs b ∧ dyL l b < dyL l a + dsL s.Jobs a
theorem clash_c (N : Nat) {s : T_Shop} (h : GW s) {l : List T_Shift} (hl : l.length = s.Jobs.length) (hb : ∀ j,-1000000 ≤ dyL l j ∧ dyL l j ≤ 1000000) {a b : Nat} (ha : a < s.Jobs.length) (hb2 : b < s.Jobs.length) : (¬ Clash s l a b ∧ p_shed_clash N s.Jobs l (a : Int) (b : Int) = some false) ∨ (Clash s l a b ∧ p_shed_clash N s.Jobs l (a : Int) (b : Int) = some true):=by
 have h1 : l[a]? = some l[a]:=List.getElem?_eq_getElem (by omega)
 have h2 : l[b]? = some l[b]:=List.getElem?_eq_getElem (by omega)
 unfold p_shed_clash Clash
 rw [wkL_at h1,wkL_at h2,end_c N h.jobs hb2 (by omega) (hb b),end_c N h.jobs ha (by omega) (hb a),dyL_at h1,dyL_at h2]
 rw [getI_nat,h1,Option.bind_some,getI_nat,h2,Option.bind_some]
 generalize l[a] = x
 generalize l[b] = y
 by_cases c1 : x.Worker = y.Worker
 ·rw [beq_iff_eq.2 c1,cond_true,Option.bind_some,Option.bind_some]
  by_cases c2 : x.Day < y.Day + dsL s.Jobs b
  ·rw [decide_eq_true c2,cond_true,Option.bind_some,Option.bind_some]
   by_cases c3 : y.Day < x.Day + dsL s.Jobs a
   ·rw [decide_eq_true c3]; exact .inr ⟨⟨c1,c2,c3⟩,rfl⟩
   ·rw [decide_eq_false c3]; exact .inl ⟨fun q => c3 q.2.2,rfl⟩
  ·rw [decide_eq_false c2]; exact .inl ⟨fun q => c2 q.2.1,rfl⟩
 ·rw [beq_eq_false_iff_ne.2 c1]; exact .inl ⟨fun q => c1 q.1,rfl⟩
structure PlanOk (s : T_Shop) (l : List T_Shift) : Prop where
 len : l.length = s.Jobs.length
 sh : ∀ j,j < s.Jobs.length → ShiftOk s l j
 cl : ∀ j,j < s.Jobs.length → ∀ k,k < j → ¬ Clash s l j k
theorem chkT {n : Nat} (Q : Nat → Prop) (E : Int → Prop) {K R : Option Int} {body : (Int → Option Int) → Int → Option Int} {N : Nat} {A : Prop} (hN : n < N) (hend : ∀ rec,body rec (n : Int) = K) (hstep : ∀ rec (i : Nat),i < n → (¬ Q i ∧ ∃ e,E e ∧ body rec (i : Int) = some e) ∨ (Q i ∧ body rec (i : Int) = rec ((i + 1 : Nat) : Int))) (hA : ¬ (∀ j,j < n → Q j) → ¬ A) (hK : (∀ j,j < n → Q j) → (¬ A ∧ ∃ e,E e ∧ K = some e) ∨ (A ∧ K = R)) : (¬ A ∧ ∃ e,E e ∧ loop1 body N 0 = some e) ∨ (A ∧ loop1 body N 0 = R):=by
 rcases chkZ Q E hN hend hstep with ⟨q1,q2⟩ | ⟨q1,q2⟩
 ·exact .inl ⟨hA q1,q2⟩
 ·rw [q2]; exact hK q1
theorem checkPlan_c (N : Nat) (hN : 100 < N) {s : T_Shop} (h : GW s) {l : List T_Shift} (hb : ∀ j,-1000000 ≤ dyL l j ∧ dyL l j ≤ 1000000) : (¬ PlanOk s l ∧ ∃ e,e ≠ 0 ∧ p_shed_checkPlan N s l = some e) ∨ (PlanOk s l ∧ p_shed_checkPlan N s l = some 0):=by
 have hn:=h.jobs.len
 unfold p_shed_checkPlan
 simp only [letJ_eq]
 by_cases hl : l.length = s.Jobs.length
 ·rw [show (((l.length : Nat) : Int) != ((s.Jobs.length : Nat) : Int)) = false from by rw [hl]; simp, cond_false]
  rw [hl]
  -- the second loop
  have second := chkZ (n := s.Jobs.length) (fun j => ∀ k, k < j → ¬ Clash s l j k) (fun e => e ≠ 0) (K := some (0 : Int)) (N := N) (body := fun rec_18 (y_17 : Int) => (bif (decide (y_17 < ((s.Jobs.length : Nat) : Int))) then (loop1 (fun rec_26 (y_25 : Int) => (bif (decide (y_25 < y_17)) then ((p_shed_clash N s.Jobs l y_17 y_25).bind fun r_30 => (bif r_30 then some 10 else (rec_26 (IntKind.i64.wrap (y_25 + 1))))) else (rec_18 (IntKind.i64.wrap (y_17 + 1))))) N 0) else some 0)) (by omega) (fun rec => by rw [ltE, cond_false]) (fun rec i hi => by
   rw [ltD hi,cond_true]
   rcases chkZ (n := i) (fun k => ¬ Clash s l i k) (fun e => e ≠ 0) (K := rec ((i + 1 : Nat) : Int)) (N := N) (body := fun rec_26 (y_25 : Int) => (bif (decide (y_25 < (i : Int))) then ((p_shed_clash N s.Jobs l (i : Int) y_25).bind fun r_30 => (bif r_30 then some 10 else (rec_26 (IntKind.i64.wrap (y_25 + 1))))) else (rec (IntKind.i64.wrap ((i : Int) + 1))))) (by omega) (fun rec2 => by rw [ltE, cond_false, nadd1 i (by omega)]) (fun rec2 k hk => by
    rw [ltD hk,cond_true]
    rcases clash_c N h hl hb (a:=i) (b:=k) hi (by omega) with ⟨q1,q2⟩ | ⟨q1,q2⟩
    ·rw [q2, Option.bind_some, cond_false, nadd1 k (by omega)]
     exact .inr ⟨q1,rfl⟩
    ·rw [q2,Option.bind_some,cond_true]
     exact .inl ⟨fun q => q q1, 10, by decide, rfl⟩) with q | q
   ·exact .inl q
   ·exact .inr q)
  refine chkT (n:=s.Jobs.length) (fun j => ShiftOk s l j) (fun e => e ≠ 0) (by omega) (fun rec => ?_) (fun rec i hi => ?_) (fun hq q => hq q.sh) (fun q1 => second.imp (fun r => ⟨fun q => r.1 q.cl,r.2⟩) fun r => ⟨⟨hl,q1,r.1⟩,r.2⟩)
  ·rw [ltE,cond_false]
  ·rw [ltD hi,cond_true]
   rcases checkShift_c N hN h hl hb hi with ⟨q1,e,q2,q3⟩ | ⟨q1,q3⟩
   ·rw [q3,Option.bind_some,bne_iff_ne.2 q2,cond_true]
    exact .inl ⟨q1,e,q2,rfl⟩
   ·rw [q3, Option.bind_some, show ((0 : Int) != 0) = false from rfl, cond_false, nadd1 i (by omega)]
    exact .inr ⟨q1,rfl⟩
 ·rw [bne_iff_ne.2 (by omega), cond_true]
  exact .inl ⟨fun q => hl q.len,1,by decide,rfl⟩
theorem Takes_c (N : Nat) (hN : 100 < N) {s : T_Shop} (h : GW s) {l : List T_Shift} (hb : ∀ j,-1000000 ≤ dyL l j ∧ dyL l j ≤ 1000000) : (¬ PlanOk s l ∧ ∃ e,e ≠ 0 ∧ p_shed_Takes N s l = some (0,e)) ∨ (PlanOk s l ∧ p_shed_Takes N s l = some (mxN (fun j => dyL l j + dsL s.Jobs j) s.Jobs.length,0)):=by
 unfold p_shed_Takes
 rw [Check_c N hN h,Option.bind_some,show ((0 : Int) != 0) = false from rfl,cond_false]
 rcases checkPlan_c N hN h hb with ⟨q1,e,q2,q3⟩ | ⟨q1,q3⟩
 ·rw [q3,Option.bind_some,bne_iff_ne.2 q2,cond_true]
  exact .inl ⟨q1,e,q2,rfl⟩
 ·rw [q3, Option.bind_some, show ((0 : Int) != 0) = false from rfl, cond_false, lasts_c N hN h.jobs (by rw [q1.len]; exact Nat.le_refl _) (fun j _ => hb j), Option.bind_some]
  exact .inr ⟨q1,rfl⟩
theorem PlanOk.okp {s : T_Shop} (h : GW s) {l : List T_Shift} (hp : PlanOk s l) : Okp (shpOf s h.jobs) (wkL l) (dyL l):=by
 refine ⟨fun j hj => (hp.sh j hj).can,fun j hj => (hp.sh j hj).day.1,fun j b hj hb => ?_,fun j k hj hk hne hw => ?_⟩
 ·have hb : aftJ s.Jobs j = (b : Int):=hb
  rcases (hp.sh j hj).ord with e | e
  ·omega
  ·rw [hb,Int.toNat_natCast] at e; exact e
 ·have key : ∀ j k,j < s.Jobs.length → k < j → wkL l j = wkL l k → dyL l j + dsL s.Jobs j ≤ dyL l k ∨ dyL l k + dsL s.Jobs k ≤ dyL l j:=by
   intro j k hj hk hw
   have:=hp.cl j hj k hk
   unfold Clash at this
   by_cases c : dyL l j < dyL l k + dsL s.Jobs k
   ·by_cases c2 : dyL l k < dyL l j + dsL s.Jobs j
    ·exact absurd ⟨hw,c,c2⟩ this
    ·exact .inl (by omega)
   ·exact .inr (by omega)
  by_cases c : k < j
  ·exact key j k hj c hw
  ·exact (key k j hk (by omega) hw.symm).symm
theorem PlanOk.of {s : T_Shop} (h : GW s) {l : List T_Shift} (hl : l.length = s.Jobs.length) (hok : Okp (shpOf s h.jobs) (wkL l) (dyL l)) (h4 : ∀ j,j < s.Jobs.length → dyL l j ≤ 400) : PlanOk s l:=by
 refine ⟨hl,fun j hj => ⟨hok.can j hj,⟨hok.pos j hj,h4 j hj⟩,?_⟩,fun j hj k hk => ?_⟩
 ·by_cases e : aftJ s.Jobs j = -1
  ·exact .inl e
  ·rcases aftF_lt (flL s.Jobs j) s.Jobs j with e2 | ⟨b,e2,hb⟩
   ·exact absurd e2 e
   ·have e2 : aftJ s.Jobs j = (b : Int):=e2
    rw [e2,Int.toNat_natCast]
    exact .inr (hok.ord j b hj e2)
 ·rintro ⟨c1,c2,c3⟩
  have c:=hok.cl j k hj (by show k < s.Jobs.length; omega) (by omega) c1
  rcases c with c | c
  ·have c : dyL l j + dsL s.Jobs j ≤ dyL l k:=c
   omega
  ·have c : dyL l k + dsL s.Jobs k ≤ dyL l j:=c
   omega
end Go.Proofs.YtjjmhjmkdihmnaaGreatDoor
end
section
namespace Go.Proofs.YtjjmhjmkdihmnaaGreatDoor
@[simp] theorem cleanSVg {α : Type} {f : α → AV} (h : ∀ l : List α,cleanL (l.map f) = true) (l : List (List α)) : cleanL (l.map (SV f)) = true:=cleanM (fun x => by simp [SV,AV.clean,h]) l
end Go.Proofs.YtjjmhjmkdihmnaaGreatDoor
end
section
namespace Go.Proofs.YtjjmhjmkdihmnaaGreatDoor
open Go.RowKit
attribute [local simp] ren ren1 AV.plain AV.plain1 AV.clean cleanL cleanI cleanBo cleanSt cleanII KL_bk_Drum KL_Worker KL_Job KL_Shop KL_Shift KL_shed_hand KL_V7_Shift KL_V7_bool KL_shed_draft KL_shed_planner A_bk_Drum C_bk_Drum A_Worker C_Worker A_Job C_Job A_Shop C_Shop A_Shift C_Shift A_shed_hand C_shed_hand A_V7_Shift C_V7_Shift A_V7_bool C_V7_bool A_shed_draft C_shed_draft A_shed_planner C_shed_planner back back1 re re1 List.idxOf? List.findIdx? List.findIdx?.go KB_bk_Drum KB_Worker KB_Job KB_Shop KB_Shift KB_shed_hand KB_V7_Shift KB_V7_bool KB_shed_draft KB_shed_planner
def p_within (N : Nat) (n_1 : Int) (least_2 : Int) (most_3 : Int) : Option (Bool):=(bif (decide (n_1 ≥ least_2)) then some (decide (n_1 ≤ most_3)) else some false)
def v_within (r : Bool) : AV:=.bool r
attribute [local simp] v_within
theorem a_within (n_1 : Int) (least_2 : Int) (most_3 : Int) : [i6 n_1,i6 least_2,i6 most_3].mapM (ren []) = some [i6 n_1,i6 least_2,i6 most_3]:=by simp
theorem b_within (r : Bool) (n n2 m : Nat) : back n n2 m (v_within r) = some (v_within r):=by simp
theorem d_within (N : Nat) (n_1 : Int) (least_2 : Int) (most_3 : Int) (r : Bool) (h : p_within N n_1 least_2 most_3 = some r) : Does Tryz.prog 77 [i6 n_1,i6 least_2,i6 most_3] [] fun v c => v = v_within r ∧ c = []:=by
 unfold p_within at h
 refine Does.ofL comp77 _ _ rfl rfl ?_
 refine Ex.seq (rg 1 [0,1,2] (mkS 15 [(0,i6 n_1),(1,i6 least_2),(2,i6 most_3)]) ⟨[],[]⟩ ?_)
 refine Ex.seq ?_
 rcases condI h with ⟨hc_4,h⟩ | ⟨hc_4,h⟩
 ·refine regH 9 [(3, .eq (.bool true))] [6] [AV.bool (decide (n_1 ≥ least_2)) = AV.bool true] (mkS 15 [(6, .bool (decide (n_1 ≤ most_3)))]) (⟨[], []⟩) (by kernel_rfl) ⟨congrArg AV.bool hc_4, trivial⟩ rfl ?_
  refine Ex.ret ?_
  obtain rfl:=sJ h
  exact rt (.bool (decide (n_1 ≤ most_3)))
 ·refine regH 9 [(3, .eq (.bool false))] [6] [AV.bool (decide (n_1 ≥ least_2)) = AV.bool false] (mkS 15 [(6, .bool false)]) (⟨[], []⟩) (by kernel_rfl) ⟨congrArg AV.bool hc_4, trivial⟩ rfl ?_
  refine Ex.ret ?_
  obtain rfl:=sJ h
  exact rt (.bool false)
structure T_Hurdle where
 Kind : Int
 A : Int
 B : Int
 deriving Inhabited
def C_Hurdle (x : T_Hurdle) : List AV:=[i6 x.Kind,i6 x.A,i6 x.B]
attribute [local simp] C_Hurdle
def A_Hurdle (x : T_Hurdle) : AV:=.agg (C_Hurdle x)
attribute [local simp] A_Hurdle
theorem KC_Hurdle (x : T_Hurdle) : cleanL (C_Hurdle x) = true:=by simp
theorem KA_Hurdle (x : T_Hurdle) : (A_Hurdle x).clean = true:=KC_Hurdle x
theorem KL_Hurdle (l : List T_Hurdle) : cleanL (l.map A_Hurdle) = true:=cleanM KA_Hurdle l
attribute [local simp] KL_Hurdle
theorem KB_Hurdle (x : T_Hurdle) (n : Nat) (σ : List Nat) : (C_Hurdle x).mapM (re n σ) = some (C_Hurdle x):=by simp
attribute [local simp] KB_Hurdle
def p_checkBend (N : Nat) (h_1 : T_Hurdle) : Option (Int):=(letJ (fun (y_2 : Bool) => (bif y_2 then some 2 else (bif (decide (h_1.A ≥ h_1.B)) then some 9 else some 0))) (fun k_3 => ((p_within N h_1.A 0 20000).bind fun r_6 => (bif (!r_6) then (k_3 true) else ((p_within N h_1.B 0 20000).bind fun r_8 => (k_3 (!r_8)))))))
def v_checkBend (r : Int) : AV:=i6 r
attribute [local simp] v_checkBend
theorem a_checkBend (h_1 : T_Hurdle) : [(A_Hurdle h_1)].mapM (ren []) = some [(A_Hurdle h_1)]:=by simp
theorem b_checkBend (r : Int) (n n2 m : Nat) : back n n2 m (v_checkBend r) = some (v_checkBend r):=by simp
theorem d_checkBend (N : Nat) (h_1 : T_Hurdle) (r : Int) (h : p_checkBend N h_1 = some r) : Does Tryz.prog 100 [(A_Hurdle h_1)] [] fun v c => v = v_checkBend r ∧ c = []:=by
 unfold p_checkBend at h
 refine Does.ofL comp100 _ _ rfl rfl ?_
 refine Ex.seq (rg 2 [1] (mkS 20 [(1,.ptr 0 0)]) ⟨[(C_Hurdle h_1)],[]⟩ ?_)
 refine Ex.seq ?_
 refine Ex.blockK ?_
 obtain ⟨K_4,hK_5,h⟩:=letE h
 refine Ex.seqJ (fun a S => ∃ (y_2 : Bool),K_4 y_2 = some r ∧ a = mkS 20 [(1,.ptr 0 0),(3,.bool y_2)] ∧ S = ⟨[(C_Hurdle h_1)],[]⟩) ?_ ?_
 ·obtain ⟨r_6,hr_6,h⟩:=bE h
  refine Ex.reg (rn 2 [1,5] (mkS 20 [(1,.ptr 0 0),(5,i6 h_1.A)]) ⟨[(C_Hurdle h_1)],[]⟩ ?_)
  refine ExO.callL [] [i6 h_1.A,i6 0,i6 20000] rfl rfl (a_within h_1.A 0 20000) rfl rfl (d_within N h_1.A 0 20000 r_6 hr_6) (b_within _ _ _ _) rfl ?_
  rcases condI h with ⟨hc_7,h⟩ | ⟨hc_7,h⟩
  ·refine runH 8 [(1, .eq (.bool true))] [1, 3] [AV.bool (!r_6) = AV.bool true] (mkS 20 [(1, .ptr 0 0), (3, .bool true)]) (⟨[(C_Hurdle h_1)], []⟩) (by kernel_rfl) ⟨congrArg AV.bool hc_7, trivial⟩ ?_
   refine ExO.nil ?_
   (try simp only [reduceCtorEq,AEx.ex.injEq,Nat.reduceEqDiff,if_true,if_false])
   exact ⟨_,_,Forgets.refl _ _ _,true,h,rfl,rfl⟩
  ·obtain ⟨r_8,hr_8,h⟩:=bE h
   refine runH 4 [(1,.eq (.bool false))] [1,8,10] [AV.bool (!r_6) = AV.bool false] (mkS 20 [(1,.ptr 0 0),(8,.bool false),(10,i6 h_1.B)]) (⟨[(C_Hurdle h_1)],[]⟩) (by kernel_rfl) ⟨congrArg AV.bool hc_7,trivial⟩ ?_
   refine ExO.callL [] [i6 h_1.B,i6 0,i6 20000] rfl rfl (a_within h_1.B 0 20000) rfl rfl (d_within N h_1.B 0 20000 r_8 hr_8) (b_within _ _ _ _) rfl ?_
   refine rn 3 [1,3] (mkS 20 [(1,.ptr 0 0),(3,.bool (!r_8))]) ⟨[(C_Hurdle h_1)],[]⟩ ?_
   refine ExO.nil ?_
   (try simp only [reduceCtorEq,AEx.ex.injEq,Nat.reduceEqDiff,if_true,if_false])
   exact ⟨_,_,Forgets.refl _ _ _,(!r_8),h,rfl,rfl⟩
 ·rintro a S ⟨y_2,h,rfl,rfl⟩
  subst hK_5
  rcases condI h with ⟨hc_9,h⟩ | ⟨hc_9,h⟩
  ·refine Ex.condT _ rfl hc_9 ?_
   refine Ex.seq (rg 1 [2] (mkS 20 [(2,i6 2)]) ⟨[(C_Hurdle h_1)],[]⟩ ?_)
   refine Ex.ret ?_
   obtain rfl:=sJ h
   exact rt (i6 2)
  ·refine Ex.condF _ rfl hc_9 ?_
   refine Ex.seq (rg 6 [14] (mkS 20 [(14,.bool (decide (h_1.A ≥ h_1.B)))]) ⟨[(C_Hurdle h_1)],[]⟩ ?_)
   rcases condI h with ⟨hc_10,h⟩ | ⟨hc_10,h⟩
   ·refine Ex.condT _ rfl hc_10 ?_
    refine Ex.seq (rg 1 [2] (mkS 20 [(2,i6 9)]) ⟨[(C_Hurdle h_1)],[]⟩ ?_)
    refine Ex.ret ?_
    obtain rfl:=sJ h
    exact rt (i6 9)
   ·refine Ex.condF _ rfl hc_10 ?_
    refine Ex.skip ?_
    refine Ex.seq (rg 1 [2] (mkS 20 [(2,i6 0)]) ⟨[(C_Hurdle h_1)],[]⟩ ?_)
    refine Ex.ret ?_
    obtain rfl:=sJ h
    exact rt (i6 0)
def p_checkWire (N : Nat) (h_1 : T_Hurdle) : Option (Int):=((p_within N h_1.A 0 2000).bind fun r_2 => (bif (!r_2) then some 2 else (bif (h_1.B != 0) then some 1 else some 0)))
def v_checkWire (r : Int) : AV:=i6 r
attribute [local simp] v_checkWire
theorem a_checkWire (h_1 : T_Hurdle) : [(A_Hurdle h_1)].mapM (ren []) = some [(A_Hurdle h_1)]:=by simp
theorem b_checkWire (r : Int) (n n2 m : Nat) : back n n2 m (v_checkWire r) = some (v_checkWire r):=by simp
theorem d_checkWire (N : Nat) (h_1 : T_Hurdle) (r : Int) (h : p_checkWire N h_1 = some r) : Does Tryz.prog 101 [(A_Hurdle h_1)] [] fun v c => v = v_checkWire r ∧ c = []:=by
 unfold p_checkWire at h
 refine Does.ofL comp101 _ _ rfl rfl ?_
 refine Ex.seq (rg 2 [1] (mkS 12 [(1,.ptr 0 0)]) ⟨[(C_Hurdle h_1)],[]⟩ ?_)
 refine Ex.seq ?_
 refine Ex.blockK ?_
 refine Ex.seq ?_
 obtain ⟨r_2,hr_2,h⟩:=bE h
 refine Ex.reg (rn 2 [1,5] (mkS 12 [(1,.ptr 0 0),(5,i6 h_1.A)]) ⟨[(C_Hurdle h_1)],[]⟩ ?_)
 refine ExO.callL [] [i6 h_1.A,i6 0,i6 2000] rfl rfl (a_within h_1.A 0 2000) rfl rfl (d_within N h_1.A 0 2000 r_2 hr_2) (b_within _ _ _ _) rfl ?_
 refine rn 2 [1,3] (mkS 12 [(1,.ptr 0 0),(3,.bool (!r_2))]) ⟨[(C_Hurdle h_1)],[]⟩ ?_
 refine ExO.nil ?_
 rcases condI h with ⟨hc_3,h⟩ | ⟨hc_3,h⟩
 ·refine Ex.condT _ rfl hc_3 ?_
  refine Ex.seq (rg 1 [2] (mkS 12 [(2,i6 2)]) ⟨[(C_Hurdle h_1)],[]⟩ ?_)
  refine Ex.ret ?_
  obtain rfl:=sJ h
  exact rt (i6 2)
 ·refine Ex.condF _ rfl hc_3 ?_
  refine Ex.seq (rg 4 [8] (mkS 12 [(8,.bool (h_1.B != 0))]) ⟨[(C_Hurdle h_1)],[]⟩ ?_)
  rcases condI h with ⟨hc_4,h⟩ | ⟨hc_4,h⟩
  ·refine Ex.condT _ rfl hc_4 ?_
   refine Ex.seq (rg 1 [2] (mkS 12 [(2,i6 1)]) ⟨[(C_Hurdle h_1)],[]⟩ ?_)
   refine Ex.ret ?_
   obtain rfl:=sJ h
   exact rt (i6 1)
  ·refine Ex.condF _ rfl hc_4 ?_
   refine Ex.skip ?_
   refine Ex.seq (rg 1 [2] (mkS 12 [(2,i6 0)]) ⟨[(C_Hurdle h_1)],[]⟩ ?_)
   refine Ex.ret ?_
   obtain rfl:=sJ h
   exact rt (i6 0)
def p_checkBridge (N : Nat) (h_1 : T_Hurdle) : Option (Int):=(letJ (fun (y_2 : Bool) => (bif y_2 then some 2 else some 0)) (fun k_3 => ((p_within N h_1.A 0 10000000).bind fun r_6 => (bif (!r_6) then (k_3 true) else ((p_within N h_1.B 0 10000000).bind fun r_8 => (k_3 (!r_8)))))))
def v_checkBridge (r : Int) : AV:=i6 r
attribute [local simp] v_checkBridge
theorem a_checkBridge (h_1 : T_Hurdle) : [(A_Hurdle h_1)].mapM (ren []) = some [(A_Hurdle h_1)]:=by simp
theorem b_checkBridge (r : Int) (n n2 m : Nat) : back n n2 m (v_checkBridge r) = some (v_checkBridge r):=by simp
theorem d_checkBridge (N : Nat) (h_1 : T_Hurdle) (r : Int) (h : p_checkBridge N h_1 = some r) : Does Tryz.prog 102 [(A_Hurdle h_1)] [] fun v c => v = v_checkBridge r ∧ c = []:=by
 unfold p_checkBridge at h
 refine Does.ofL comp102 _ _ rfl rfl ?_
 refine Ex.seq (rg 2 [1] (mkS 13 [(1,.ptr 0 0)]) ⟨[(C_Hurdle h_1)],[]⟩ ?_)
 refine Ex.seq ?_
 obtain ⟨K_4,hK_5,h⟩:=letE h
 refine Ex.seqJ (fun a S => ∃ (y_2 : Bool),K_4 y_2 = some r ∧ a = mkS 13 [(12,.bool y_2)] ∧ S = ⟨[],[]⟩) ?_ ?_
 ·obtain ⟨r_6,hr_6,h⟩:=bE h
  refine Ex.reg (rn 2 [1,4] (mkS 13 [(1,.ptr 0 0),(4,i6 h_1.A)]) ⟨[(C_Hurdle h_1)],[]⟩ ?_)
  refine ExO.callL [] [i6 h_1.A,i6 0,i6 10000000] rfl rfl (a_within h_1.A 0 10000000) rfl rfl (d_within N h_1.A 0 10000000 r_6 hr_6) (b_within _ _ _ _) rfl ?_
  rcases condI h with ⟨hc_7,h⟩ | ⟨hc_7,h⟩
  ·refine runH 7 [(1, .eq (.bool true))] [12] [AV.bool (!r_6) = AV.bool true] (mkS 13 [(12, .bool true)]) (⟨[(C_Hurdle h_1)], []⟩) (by kernel_rfl) ⟨congrArg AV.bool hc_7, trivial⟩ ?_
   refine ExO.nil ?_
   (try simp only [reduceCtorEq,AEx.ex.injEq,Nat.reduceEqDiff,if_true,if_false])
   exact ⟨_,_,forgetA (m:=13) 0 [] [(12,.bool true)] [] [] (by simp [setAll]) (by simp) ⟨rfl,trivial⟩ (by simp) rfl (by decide),true,h,rfl,rfl⟩
  ·obtain ⟨r_8,hr_8,h⟩:=bE h
   refine runH 4 [(1,.eq (.bool false))] [7,9] [AV.bool (!r_6) = AV.bool false] (mkS 13 [(7,.bool false),(9,i6 h_1.B)]) (⟨[(C_Hurdle h_1)],[]⟩) (by kernel_rfl) ⟨congrArg AV.bool hc_7,trivial⟩ ?_
   refine ExO.callL [] [i6 h_1.B,i6 0,i6 10000000] rfl rfl (a_within h_1.B 0 10000000) rfl rfl (d_within N h_1.B 0 10000000 r_8 hr_8) (b_within _ _ _ _) rfl ?_
   refine rn 2 [12] (mkS 13 [(12,.bool (!r_8))]) ⟨[(C_Hurdle h_1)],[]⟩ ?_
   refine ExO.nil ?_
   (try simp only [reduceCtorEq,AEx.ex.injEq,Nat.reduceEqDiff,if_true,if_false])
   exact ⟨_,_,forgetA (m:=13) 0 [] [(12,.bool (!r_8))] [] [] (by simp [setAll]) (by simp) ⟨rfl,trivial⟩ (by simp) rfl (by decide),(!r_8),h,rfl,rfl⟩
 ·rintro a S ⟨y_2,h,rfl,rfl⟩
  subst hK_5
  rcases condI h with ⟨hc_9,h⟩ | ⟨hc_9,h⟩
  ·refine Ex.condT _ rfl hc_9 ?_
   refine Ex.seq (rg 1 [2] (mkS 13 [(2,i6 2)]) ⟨[],[]⟩ ?_)
   refine Ex.ret ?_
   obtain rfl:=sJ h
   exact rt (i6 2)
  ·refine Ex.condF _ rfl hc_9 ?_
   refine Ex.skip ?_
   refine Ex.seq (rg 1 [2] (mkS 13 [(2,i6 0)]) ⟨[],[]⟩ ?_)
   refine Ex.ret ?_
   obtain rfl:=sJ h
   exact rt (i6 0)
def p_checkHurdle (N : Nat) (h_1 : T_Hurdle) : Option (Int):=(bif (h_1.Kind == 1) then ((p_checkBend N h_1).bind fun r_3 => some r_3) else (bif (h_1.Kind == 2) then ((p_checkWire N h_1).bind fun r_5 => some r_5) else (bif (h_1.Kind == 3) then ((p_checkBridge N h_1).bind fun r_7 => some r_7) else some 3)))
def v_checkHurdle (r : Int) : AV:=i6 r
attribute [local simp] v_checkHurdle
theorem a_checkHurdle (h_1 : T_Hurdle) : [(A_Hurdle h_1)].mapM (ren []) = some [(A_Hurdle h_1)]:=by simp
theorem b_checkHurdle (r : Int) (n n2 m : Nat) : back n n2 m (v_checkHurdle r) = some (v_checkHurdle r):=by simp
theorem d_checkHurdle (N : Nat) (h_1 : T_Hurdle) (r : Int) (h : p_checkHurdle N h_1 = some r) : Does Tryz.prog 74 [(A_Hurdle h_1)] [] fun v c => v = v_checkHurdle r ∧ c = []:=by
 unfold p_checkHurdle at h
 refine Does.ofL comp74 _ _ rfl rfl ?_
 refine Ex.seq (rg 2 [1] (mkS 17 [(1,.ptr 0 0)]) ⟨[(C_Hurdle h_1)],[]⟩ ?_)
 refine Ex.seq (Ex.seq ?_)
 refine rg 2 [1,4] (mkS 17 [(1,.ptr 0 0),(4,i6 h_1.Kind)]) ⟨[(C_Hurdle h_1)],[]⟩ ?_
 refine Ex.blockK ?_
 refine Ex.seq (rg 2 [1,4,5] (mkS 17 [(1,.ptr 0 0),(4,i6 h_1.Kind),(5,.bool (h_1.Kind == 1))]) ⟨[(C_Hurdle h_1)],[]⟩ ?_)
 rcases condI h with ⟨hc_2,h⟩ | ⟨hc_2,h⟩
 ·refine Ex.condT _ rfl hc_2 ?_
  refine Ex.seq ?_
  obtain ⟨r_3,hr_3,h⟩:=bE h
  refine Ex.reg (rn 1 [7] (mkS 17 [(7,(A_Hurdle h_1))]) ⟨[(C_Hurdle h_1)],[]⟩ ?_)
  refine ExO.callL [] [(A_Hurdle h_1)] rfl rfl (a_checkBend h_1) rfl rfl (d_checkBend N h_1 r_3 hr_3) (b_checkBend _ _ _ _) rfl ?_
  refine rn 1 [2] (mkS 17 [(2,i6 r_3)]) ⟨[(C_Hurdle h_1)],[]⟩ ?_
  refine ExO.nil ?_
  refine Ex.ret ?_
  obtain rfl:=sJ h
  exact rt (i6 r_3)
 ·refine Ex.condF _ rfl hc_2 ?_
  refine Ex.seq (rg 2 [1,4,9] (mkS 17 [(1,.ptr 0 0),(4,i6 h_1.Kind),(9,.bool (h_1.Kind == 2))]) ⟨[(C_Hurdle h_1)],[]⟩ ?_)
  rcases condI h with ⟨hc_4,h⟩ | ⟨hc_4,h⟩
  ·refine Ex.condT _ rfl hc_4 ?_
   refine Ex.seq ?_
   obtain ⟨r_5,hr_5,h⟩:=bE h
   refine Ex.reg (rn 1 [11] (mkS 17 [(11,(A_Hurdle h_1))]) ⟨[(C_Hurdle h_1)],[]⟩ ?_)
   refine ExO.callL [] [(A_Hurdle h_1)] rfl rfl (a_checkWire h_1) rfl rfl (d_checkWire N h_1 r_5 hr_5) (b_checkWire _ _ _ _) rfl ?_
   refine rn 1 [2] (mkS 17 [(2,i6 r_5)]) ⟨[(C_Hurdle h_1)],[]⟩ ?_
   refine ExO.nil ?_
   refine Ex.ret ?_
   obtain rfl:=sJ h
   exact rt (i6 r_5)
  ·refine Ex.condF _ rfl hc_4 ?_
   refine Ex.seq (rg 2 [1,13] (mkS 17 [(1,.ptr 0 0),(13,.bool (h_1.Kind == 3))]) ⟨[(C_Hurdle h_1)],[]⟩ ?_)
   rcases condI h with ⟨hc_6,h⟩ | ⟨hc_6,h⟩
   ·refine Ex.condT _ rfl hc_6 ?_
    refine Ex.seq ?_
    obtain ⟨r_7,hr_7,h⟩:=bE h
    refine Ex.reg (rn 1 [15] (mkS 17 [(15,(A_Hurdle h_1))]) ⟨[(C_Hurdle h_1)],[]⟩ ?_)
    refine ExO.callL [] [(A_Hurdle h_1)] rfl rfl (a_checkBridge h_1) rfl rfl (d_checkBridge N h_1 r_7 hr_7) (b_checkBridge _ _ _ _) rfl ?_
    refine rn 1 [2] (mkS 17 [(2,i6 r_7)]) ⟨[(C_Hurdle h_1)],[]⟩ ?_
    refine ExO.nil ?_
    refine Ex.ret ?_
    obtain rfl:=sJ h
    exact rt (i6 r_7)
   ·refine Ex.condF _ rfl hc_6 ?_
    refine Ex.skip ?_
    refine Ex.seq (rg 1 [2] (mkS 17 [(2,i6 3)]) ⟨[(C_Hurdle h_1)],[]⟩ ?_)
    refine Ex.ret ?_
    obtain rfl:=sJ h
    exact rt (i6 3)
def p_CheckRoute (N : Nat) (route_1 : (List T_Hurdle)) : Option (Int):=(bif (decide (((route_1.length : Nat) : Int) > 40)) then some 5 else (letJ (fun (_ : Unit) => some 0) (fun k_3 => (loop1 (fun rec_7 (y_6 : Int) => (bif (decide (y_6 < ((route_1.length : Nat) : Int))) then ((getI route_1 y_6).bind fun x_11 => ((p_checkHurdle N x_11).bind fun r_12 => (bif (r_12 != 0) then some r_12 else (rec_7 (IntKind.i64.wrap (y_6 + 1)))))) else (k_3 ()))) N 0))))
def v_CheckRoute (r : Int) : AV:=i6 r
attribute [local simp] v_CheckRoute
theorem a_CheckRoute (route_1 : (List T_Hurdle)) : [.sl (route_1.map A_Hurdle) none].mapM (ren []) = some [.sl (route_1.map A_Hurdle) none]:=by simp
theorem b_CheckRoute (r : Int) (n n2 m : Nat) : back n n2 m (v_CheckRoute r) = some (v_CheckRoute r):=by simp
theorem d_CheckRoute (N : Nat) (route_1 : (List T_Hurdle)) (r : Int) (h : p_CheckRoute N route_1 = some r) : Does Tryz.prog 41 [.sl (route_1.map A_Hurdle) none] [] fun v c => v = v_CheckRoute r ∧ c = []:=by
 unfold p_CheckRoute at h
 refine Does.ofL comp41 _ _ rfl rfl ?_
 refine Ex.seq (rg 1 [0] (mkS 21 [(0,.sl (route_1.map A_Hurdle) none)]) ⟨[],[]⟩ ?_)
 refine Ex.seq (Ex.seq ?_)
 refine regH 3 [(1,.eq (i6 ((route_1.length : Nat) : Int)))] [0,8] [AV.int .i64 (((route_1.map A_Hurdle).length : Nat) : Int) = AV.int .i64 ((route_1.length : Nat) : Int)] (mkS 21 [(0,.sl (route_1.map A_Hurdle) none),(8,.bool (decide (((route_1.length : Nat) : Int) > 40)))]) (⟨[],[]⟩) (by kernel_rfl) ⟨lenM _ _,trivial⟩ rfl ?_
 rcases condI h with ⟨hc_2,h⟩ | ⟨hc_2,h⟩
 ·refine Ex.condT _ rfl hc_2 ?_
  refine Ex.seq (rg 1 [2] (mkS 21 [(2,i6 5)]) ⟨[],[]⟩ ?_)
  refine Ex.ret ?_
  obtain rfl:=sJ h
  exact rt (i6 5)
 ·refine Ex.condF _ rfl hc_2 ?_
  refine Ex.skip ?_
  refine Ex.seq (Ex.seq ?_)
  refine regH 3 [(1,.eq (i6 ((route_1.length : Nat) : Int)))] [9,10,11] [AV.int .i64 (((route_1.map A_Hurdle).length : Nat) : Int) = AV.int .i64 ((route_1.length : Nat) : Int)] (mkS 21 [(9,.sl (route_1.map A_Hurdle) none),(10,i6 ((route_1.length : Nat) : Int)),(11,i6 0)]) (⟨[],[]⟩) (by kernel_rfl) ⟨lenM _ _,trivial⟩ rfl ?_
  obtain ⟨K_4,hK_5,h⟩:=letE h
  refine Ex.blockJ (fun a S => K_4 () = some r ∧ a = mkS 21 [] ∧ S = ⟨[],[]⟩) ?_ ?_
  ·obtain ⟨B_8,hB_9,h⟩:=loop1I h
   refine Ex.loopF (fun k a S => ∃ (y_6 : Int),loop1 B_8 k y_6 = some r ∧ a = mkS 21 [(9,.sl (route_1.map A_Hurdle) none),(10,i6 ((route_1.length : Nat) : Int)),(11,i6 y_6)] ∧ S = ⟨[],[]⟩) N ⟨_,_,Forgets.refl _ _ _,0,h,rfl,rfl⟩ ?_
   rintro k a S ⟨y_6,h,rfl,rfl⟩
   cases k with
   | zero => exact (loop1Z h).elim
   | succ k =>
    replace h:=loop1S h hB_9
    refine Ex.seq (rg 1 [9,10,11,12] (mkS 21 [(9,.sl (route_1.map A_Hurdle) none),(10,i6 ((route_1.length : Nat) : Int)),(11,i6 y_6),(12,.bool (decide (y_6 < ((route_1.length : Nat) : Int))))]) ⟨[],[]⟩ ?_)
    refine Ex.seq ?_
    rcases condI h with ⟨hc_10,h⟩ | ⟨hc_10,h⟩
    ·refine Ex.condT _ rfl hc_10 ?_
     refine Ex.skip ?_
     refine Ex.seq ?_
     refine Ex.blockK ?_
     refine Ex.seq ?_
     obtain ⟨x_11,hx_11,h⟩:=bE h
     refine regH 4 [(0,.rop (C_Hurdle x_11))] [4,9,10,11] [LGet (route_1.map A_Hurdle) y_6 3 (C_Hurdle x_11)] (mkS 21 [(4,.ptr 0 0),(9,.sl (route_1.map A_Hurdle) none),(10,i6 ((route_1.length : Nat) : Int)),(11,i6 y_6)]) (⟨[(C_Hurdle x_11)],[]⟩) (by kernel_rfl) ⟨LGet.of hx_11 rfl,trivial⟩ rfl ?_
     refine Ex.seq ?_
     obtain ⟨r_12,hr_12,h⟩:=bE h
     refine Ex.reg (rn 1 [9,10,11,15] (mkS 21 [(9,.sl (route_1.map A_Hurdle) none),(10,i6 ((route_1.length : Nat) : Int)),(11,i6 y_6),(15,(A_Hurdle x_11))]) ⟨[(C_Hurdle x_11)],[]⟩ ?_)
     refine ExO.callL [] [(A_Hurdle x_11)] rfl rfl (a_checkHurdle x_11) rfl rfl (d_checkHurdle N x_11 r_12 hr_12) (b_checkHurdle _ _ _ _) rfl ?_
     refine rn 1 [5,9,10,11] (mkS 21 [(5,i6 r_12),(9,.sl (route_1.map A_Hurdle) none),(10,i6 ((route_1.length : Nat) : Int)),(11,i6 y_6)]) ⟨[(C_Hurdle x_11)],[]⟩ ?_
     refine ExO.nil ?_
     refine Ex.seq (rg 2 [5,9,10,11,18] (mkS 21 [(5,i6 r_12),(9,.sl (route_1.map A_Hurdle) none),(10,i6 ((route_1.length : Nat) : Int)),(11,i6 y_6),(18,.bool (r_12 != 0))]) ⟨[(C_Hurdle x_11)],[]⟩ ?_)
     rcases condI h with ⟨hc_13,h⟩ | ⟨hc_13,h⟩
     ·refine Ex.condT _ rfl hc_13 ?_
      refine Ex.seq (rg 2 [2] (mkS 21 [(2,i6 r_12)]) ⟨[(C_Hurdle x_11)],[]⟩ ?_)
      refine Ex.ret ?_
      obtain rfl:=sJ h
      exact rt (i6 r_12)
     ·refine Ex.condF _ rfl hc_13 ?_
      refine Ex.skip ?_
      refine rg 2 [9,10,11] (mkS 21 [(9,.sl (route_1.map A_Hurdle) none),(10,i6 ((route_1.length : Nat) : Int)),(11,i6 (IntKind.i64.wrap (y_6 + 1)))]) ⟨[(C_Hurdle x_11)],[]⟩ ?_
      dsimp only
      exact ⟨_,_,forgetA (m:=21) 0 [] [(9,.sl (route_1.map A_Hurdle) none),(10,i6 ((route_1.length : Nat) : Int)),(11,i6 (IntKind.i64.wrap (y_6 + 1)))] [] [] (by simp [setAll]) (by simp) ⟨(reN (KL_Hurdle _)),rfl,rfl,trivial⟩ (by simp) rfl (by decide),k,Nat.lt_succ_self k,(IntKind.i64.wrap (y_6 + 1)),h,rfl,rfl⟩
    ·refine Ex.condF _ rfl hc_10 ?_
     refine Ex.exit ?_
     (try simp only [reduceCtorEq,AEx.ex.injEq,Nat.reduceEqDiff,if_true,if_false])
     exact ⟨_,_,forgetK [],h,rfl,rfl⟩
  ·rintro a S ⟨h,rfl,rfl⟩
   subst hK_5
   refine Ex.seq (rg 1 [2] (mkS 21 [(2,i6 0)]) ⟨[],[]⟩ ?_)
   refine Ex.ret ?_
   obtain rfl:=sJ h
   exact rt (i6 0)
structure T_Span where
 Lo : Int
 Hi : Int
 deriving Inhabited
def C_Span (x : T_Span) : List AV:=[i6 x.Lo,i6 x.Hi]
attribute [local simp] C_Span
def A_Span (x : T_Span) : AV:=.agg (C_Span x)
attribute [local simp] A_Span
theorem KC_Span (x : T_Span) : cleanL (C_Span x) = true:=by simp
theorem KA_Span (x : T_Span) : (A_Span x).clean = true:=KC_Span x
theorem KL_Span (l : List T_Span) : cleanL (l.map A_Span) = true:=cleanM KA_Span l
attribute [local simp] KL_Span
theorem KB_Span (x : T_Span) (n : Nat) (σ : List Nat) : (C_Span x).mapM (re n σ) = some (C_Span x):=by simp
structure T_Load where
 At : Int
 Kilos : T_Span
 Top : T_Span
 Kind : Int
 Watts : Int
 deriving Inhabited
def C_Load (x : T_Load) : List AV:=[i6 x.At,i6 x.Kilos.Lo,i6 x.Kilos.Hi,i6 x.Top.Lo,i6 x.Top.Hi,i6 x.Kind,i6 x.Watts]
attribute [local simp] C_Load
def A_Load (x : T_Load) : AV:=.agg (C_Load x)
attribute [local simp] A_Load
theorem KC_Load (x : T_Load) : cleanL (C_Load x) = true:=by simp
theorem KA_Load (x : T_Load) : (A_Load x).clean = true:=KC_Load x
theorem KL_Load (l : List T_Load) : cleanL (l.map A_Load) = true:=cleanM KA_Load l
attribute [local simp] KL_Load
theorem KB_Load (x : T_Load) (n : Nat) (σ : List Nat) : (C_Load x).mapM (re n σ) = some (C_Load x):=by simp
structure T_Float where
 Length : Int
 Width : Int
 Front : Int
 Rear : Int
 Turn : Int
 Kilos : Int
 Middle : Int
 High : Int
 Loads : (List T_Load)
 deriving Inhabited
def C_Float (x : T_Float) : List AV:=[i6 x.Length,i6 x.Width,i6 x.Front,i6 x.Rear,i6 x.Turn,i6 x.Kilos,i6 x.Middle,i6 x.High,.sl (x.Loads.map A_Load) none]
attribute [local simp] C_Float
def A_Float (x : T_Float) : AV:=.agg (C_Float x)
attribute [local simp] A_Float
theorem KC_Float (x : T_Float) : cleanL (C_Float x) = true:=by simp
theorem KA_Float (x : T_Float) : (A_Float x).clean = true:=KC_Float x
theorem KL_Float (l : List T_Float) : cleanL (l.map A_Float) = true:=cleanM KA_Float l
attribute [local simp] KL_Float
theorem KB_Float (x : T_Float) (n : Nat) (σ : List Nat) : (C_Float x).mapM (re n σ) = some (C_Float x):=by simp
def p_bl8_frames (N : Nat)  : Option ((List T_Float)):=some ([(⟨100,30,20,80,50,100,50,40,[]⟩ : T_Float),(⟨100,30,20,80,50,400,50,40,[]⟩ : T_Float)])
def v_bl8_frames (r : (List T_Float)) : AV:=.sl (r.map A_Float) none
attribute [local simp] v_bl8_frames
theorem a_bl8_frames  : [].mapM (ren []) = some []:=by simp
theorem b_bl8_frames (r : (List T_Float)) (n n2 m : Nat) : back n n2 m (v_bl8_frames r) = some (v_bl8_frames r):=by simp
theorem d_bl8_frames (N : Nat)  (r : (List T_Float)) (h : p_bl8_frames N  = some r) : Does Tryz.prog 53 [] [] fun v c => v = v_bl8_frames r ∧ c = []:=by
 unfold p_bl8_frames at h
 refine Does.ofL comp53 _ _ rfl rfl ?_
 refine Ex.seq (rg 1 [] (mkS 9 []) ⟨[],[]⟩ ?_)
 refine Ex.seq (rg 3 [1] (mkS 9 [(1,.ptr 0 0)]) ⟨[[i6 100,i6 30,i6 20,i6 80,i6 50,i6 100,i6 50,i6 40,.nils]],[]⟩ ?_)
 refine Ex.seq (rg 3 [1,2] (mkS 9 [(1,.ptr 0 0),(2,.ptr 1 0)]) ⟨[[i6 100,i6 30,i6 20,i6 80,i6 50,i6 100,i6 50,i6 40,.nils],[i6 100,i6 30,i6 20,i6 80,i6 50,i6 100,i6 50,i6 40,.nils]],[]⟩ ?_)
 refine Ex.seq (rg 2 [1,2] (mkS 9 [(1,.ptr 0 0),(2,.ptr 1 0)]) ⟨[[i6 100,i6 30,i6 20,i6 80,i6 50,i6 100,i6 50,i6 40,.nils],[i6 100,i6 30,i6 20,i6 80,i6 50,i6 400,i6 50,i6 40,.nils]],[]⟩ ?_)
 refine Ex.seq ?_
 refine Ex.postF ?_
 refine rg 4 [0] (mkS 9 [(0,.sl [.agg [i6 100,i6 30,i6 20,i6 80,i6 50,i6 100,i6 50,i6 40,.nils],.agg [i6 100,i6 30,i6 20,i6 80,i6 50,i6 400,i6 50,i6 40,.nils]] (some 0))]) ⟨[[i6 100,i6 30,i6 20,i6 80,i6 50,i6 100,i6 50,i6 40,.nils],[i6 100,i6 30,i6 20,i6 80,i6 50,i6 400,i6 50,i6 40,.nils]],[(2,9)]⟩ ?_
 refine ⟨mkS 9 [(0,.sl (([(⟨100,30,20,80,50,100,50,40,[]⟩ : T_Float),(⟨100,30,20,80,50,400,50,40,[]⟩ : T_Float)] : List T_Float).map A_Float) (some 0))],⟨[[i6 100,i6 30,i6 20,i6 80,i6 50,i6 100,i6 50,i6 40,.nils],[i6 100,i6 30,i6 20,i6 80,i6 50,i6 400,i6 50,i6 40,.nils]],[(2,9)]⟩,Forgets.castR (by kernel_rfl) rfl (fadeE 0 [.agg [i6 100,i6 30,i6 20,i6 80,i6 50,i6 100,i6 50,i6 40,.nils],.agg [i6 100,i6 30,i6 20,i6 80,i6 50,i6 400,i6 50,i6 40,.nils]] (some 0) rfl),?_⟩
 refine Ex.ret ?_
 obtain rfl:=sJ h
 exact rt (.sl (([(⟨100,30,20,80,50,100,50,40,[]⟩ : T_Float),(⟨100,30,20,80,50,400,50,40,[]⟩ : T_Float)] : List T_Float).map A_Float) (some 0))
def p_bl8_span (N : Nat) (low_1 : Int) (high_2 : Int) : Option (T_Span):=some (⟨low_1,high_2⟩ : T_Span)
def v_bl8_span (r : T_Span) : AV:=(A_Span r)
attribute [local simp] v_bl8_span
theorem a_bl8_span (low_1 : Int) (high_2 : Int) : [i6 low_1,i6 high_2].mapM (ren []) = some [i6 low_1,i6 high_2]:=by simp
theorem b_bl8_span (r : T_Span) (n n2 m : Nat) : back n n2 m (v_bl8_span r) = some (v_bl8_span r):=by simp
theorem d_bl8_span (N : Nat) (low_1 : Int) (high_2 : Int) (r : T_Span) (h : p_bl8_span N low_1 high_2 = some r) : Does Tryz.prog 80 [i6 low_1,i6 high_2] [] fun v c => v = v_bl8_span r ∧ c = []:=by
 unfold p_bl8_span at h
 refine Does.ofL comp80 _ _ rfl rfl ?_
 refine Ex.seq (rg 1 [0,1,4] (mkS 8 [(0,i6 low_1),(1,i6 high_2),(4,.ptr 0 0)]) ⟨[[i6 0,i6 0]],[]⟩ ?_)
 refine Ex.seq (rg 4 [4] (mkS 8 [(4,.ptr 0 0)]) ⟨[[i6 low_1,i6 high_2]],[]⟩ ?_)
 refine Ex.ret ?_
 obtain rfl:=sJ h
 exact rt (.agg [i6 low_1,i6 high_2])
def p_bl8_designs (N : Nat)  : Option ((List (List T_Load))):=((p_bl8_span N 10 20).bind fun r_1 => ((p_bl8_span N 50 60).bind fun r_2 => ((p_bl8_span N 200 300).bind fun r_3 => ((p_bl8_span N 30 30).bind fun r_4 => some ([[(⟨30,r_1,r_2,1,0⟩ : T_Load)],[(⟨70,r_3,r_4,1,0⟩ : T_Load)]])))))
def v_bl8_designs (r : (List (List T_Load))) : AV:=.sl (r.map (SV A_Load)) none
attribute [local simp] v_bl8_designs
theorem a_bl8_designs  : [].mapM (ren []) = some []:=by simp
theorem b_bl8_designs (r : (List (List T_Load))) (n n2 m : Nat) : back n n2 m (v_bl8_designs r) = some (v_bl8_designs r):=by simp
theorem d_bl8_designs (N : Nat)  (r : (List (List T_Load))) (h : p_bl8_designs N  = some r) : Does Tryz.prog 54 [] [] fun v c => v = v_bl8_designs r ∧ c = []:=by
 unfold p_bl8_designs at h
 refine Does.ofL comp54 _ _ rfl rfl ?_
 refine Ex.seq (rg 1 [] (mkS 10 []) ⟨[],[]⟩ ?_)
 refine Ex.seq ?_
 refine Ex.postF ?_
 obtain ⟨r_1,hr_1,h⟩:=bE h
 refine Ex.reg ?_
 refine ExO.callL [] [i6 10,i6 20] rfl rfl (a_bl8_span 10 20) rfl rfl (d_bl8_span N 10 20 r_1 hr_1) (b_bl8_span _ _ _ _) rfl ?_
 obtain ⟨r_2,hr_2,h⟩:=bE h
 refine ExO.callL [] [i6 50,i6 60] rfl rfl (a_bl8_span 50 60) rfl rfl (d_bl8_span N 50 60 r_2 hr_2) (b_bl8_span _ _ _ _) rfl ?_
 obtain ⟨r_3,hr_3,h⟩:=bE h
 refine rn 2 [4] (mkS 10 [(4,.sl (([(⟨30,r_1,r_2,1,0⟩ : T_Load)] : List T_Load).map A_Load) (some 0))]) ⟨[],[(1,7)]⟩ ?_
 refine ExO.callL [] [i6 200,i6 300] rfl rfl (a_bl8_span 200 300) rfl rfl (d_bl8_span N 200 300 r_3 hr_3) (b_bl8_span _ _ _ _) rfl ?_
 obtain ⟨r_4,hr_4,h⟩:=bE h
 refine ExO.callL [] [i6 30,i6 30] rfl rfl (a_bl8_span 30 30) rfl rfl (d_bl8_span N 30 30 r_4 hr_4) (b_bl8_span _ _ _ _) rfl ?_
 refine rn 4 [0] (mkS 10 [(0,.sl [.sl (([(⟨30,r_1,r_2,1,0⟩ : T_Load)] : List T_Load).map A_Load) (some 0),.sl (([(⟨70,r_3,r_4,1,0⟩ : T_Load)] : List T_Load).map A_Load) (some 1)] (some 2))]) ⟨[],[(1,7),(1,7),(2,1)]⟩ ?_
 refine ExO.nil ?_
 refine ⟨mkS 10 [(0,.sl (([[(⟨30,r_1,r_2,1,0⟩ : T_Load)],[(⟨70,r_3,r_4,1,0⟩ : T_Load)]] : List (List T_Load)).map (SV A_Load)) (some 2))],⟨[],[(1,7),(1,7),(2,1)]⟩,Forgets.castR (by kernel_rfl) rfl (fadeE 0 [.sl (([(⟨30,r_1,r_2,1,0⟩ : T_Load)] : List T_Load).map A_Load) (some 0),.sl (([(⟨70,r_3,r_4,1,0⟩ : T_Load)] : List T_Load).map A_Load) (some 1)] (some 2) rfl),?_⟩
 refine Ex.ret ?_
 obtain rfl:=sJ h
 exact rt (.sl (([[(⟨30,r_1,r_2,1,0⟩ : T_Load)],[(⟨70,r_3,r_4,1,0⟩ : T_Load)]] : List (List T_Load)).map (SV A_Load)) (some 2))
def p_bl8_bridge (N : Nat)  : Option ((List T_Hurdle)):=some ([(⟨3,450,400⟩ : T_Hurdle)])
def v_bl8_bridge (r : (List T_Hurdle)) : AV:=.sl (r.map A_Hurdle) none
attribute [local simp] v_bl8_bridge
theorem a_bl8_bridge  : [].mapM (ren []) = some []:=by simp
theorem b_bl8_bridge (r : (List T_Hurdle)) (n n2 m : Nat) : back n n2 m (v_bl8_bridge r) = some (v_bl8_bridge r):=by simp
theorem d_bl8_bridge (N : Nat)  (r : (List T_Hurdle)) (h : p_bl8_bridge N  = some r) : Does Tryz.prog 55 [] [] fun v c => v = v_bl8_bridge r ∧ c = []:=by
 unfold p_bl8_bridge at h
 refine Does.ofL comp55 _ _ rfl rfl ?_
 refine Ex.seq (rg 1 [] (mkS 3 []) ⟨[],[]⟩ ?_)
 refine Ex.seq (rg 3 [0] (mkS 3 [(0,.sl (([(⟨3,450,400⟩ : T_Hurdle)] : List T_Hurdle).map A_Hurdle) (some 0))]) ⟨[],[(1,3)]⟩ ?_)
 refine Ex.ret ?_
 obtain rfl:=sJ h
 exact rt (.sl (([(⟨3,450,400⟩ : T_Hurdle)] : List T_Hurdle).map A_Hurdle) (some 0))
end Go.Proofs.YtjjmhjmkdihmnaaGreatDoor
end
section
namespace Go.Proofs.YtjjmhjmkdihmnaaGreatDoor
open Go.RowKit
set_option maxRecDepth 100000
def entS : List (Entry Tryz.prog):=[⟨13,F13,comp13⟩,⟨41,F41,comp41⟩,⟨44,F44,comp44⟩,⟨45,F45,comp45⟩,⟨46,F46,comp46⟩,⟨74,F74,comp74⟩,⟨75,F75,comp75⟩,⟨76,F76,comp76⟩,⟨77,F77,comp77⟩,⟨78,F78,comp78⟩,⟨100,F100,comp100⟩,⟨101,F101,comp101⟩,⟨102,F102,comp102⟩,⟨103,F103,comp103⟩,⟨104,F104,comp104⟩,⟨105,F105,comp105⟩,⟨106,F106,comp106⟩,⟨107,F107,comp107⟩,⟨124,F124,comp124⟩,⟨125,F125,comp125⟩,⟨126,F126,comp126⟩,⟨127,F127,comp127⟩,⟨128,F128,comp128⟩,⟨131,F131,comp131⟩,⟨132,F132,comp132⟩,⟨133,F133,comp133⟩,⟨135,F135,comp135⟩,⟨136,F136,comp136⟩,⟨137,F137,comp137⟩,⟨141,F141,comp141⟩,⟨142,F142,comp142⟩,⟨143,F143,comp143⟩]
noncomputable def XS : Clr:=clrN (tabOf entS) (fun _ => false) noClr 300 14
theorem XS_ok : ClrOk Tryz.prog XS:=clrN_ok (noClr_ok _) (tabOf_ok entS) 300 14
def brS : List T_Hurdle:=[⟨3,450,400⟩]
def flS (k : Int) (l : List T_Load) : T_Float:=⟨100,30,20,80,50,k,50,40,l⟩
def ldA : List T_Load:=[⟨30,⟨10,20⟩,⟨50,60⟩,1,0⟩]
def ldB : List T_Load:=[⟨70,⟨200,300⟩,⟨30,30⟩,1,0⟩]
theorem runA1 : evFn XS 300 F44 [A_Float (flS 100 ldA),.sl (brS.map A_Hurdle) none] [] = some (.bool true,[]):=by kernel_rfl
theorem runA2 : evFn XS 300 F44 [A_Float (flS 100 ldB),.sl (brS.map A_Hurdle) none] [] = some (.bool true,[]):=by kernel_rfl
theorem runA3 : evFn XS 300 F44 [A_Float (flS 400 ldA),.sl (brS.map A_Hurdle) none] [] = some (.bool true,[]):=by kernel_rfl
theorem runA4 : evFn XS 300 F44 [A_Float (flS 400 ldB),.sl (brS.map A_Hurdle) none] [] = some (.bool false,[]):=by kernel_rfl
def knS : List (List AV × Bool):=[([A_Float (flS 100 ldA),.sl (brS.map A_Hurdle) none],true),([A_Float (flS 100 ldB),.sl (brS.map A_Hurdle) none],true),([A_Float (flS 400 ldA),.sl (brS.map A_Hurdle) none],true),([A_Float (flS 400 ldB),.sl (brS.map A_Hurdle) none],false)]
def lookS : List (List AV × Bool) → List AV → Option Bool
 | [],_ => none
 | e :: l,x => bif beqL e.1 x then some e.2 else lookS l x
theorem lookS_mem : ∀ (l : List (List AV × Bool)) (x : List AV) (r : Bool),lookS l x = some r → (x,r) ∈ l
 | [],_,_,h => by cases h
 | e :: l,x,r,h => by
  simp only [lookS] at h
  cases hc : beqL e.1 x with
  | true =>
   rw [hc,cond_true] at h
   cases h
   rw [← beqL_eq _ _ hc]
   exact List.mem_cons_self ..
  | false =>
   rw [hc,cond_false] at h
   exact List.mem_cons_of_mem _ (lookS_mem l x r h)
theorem knS_ok : ∀ e ∈ knS,Does Tryz.prog 44 e.1 [] fun v c => v = .bool e.2 ∧ c = []:=by
 intro e he
 have key : ∀ {xs : List AV} {b : Bool},evFn XS 300 F44 xs [] = some (.bool b,[]) → Does Tryz.prog 44 xs [] fun v c => v = .bool b ∧ c = []:=fun h => Meets.does ⟨_,_,evFn_ok XS_ok comp44 h,rfl,rfl⟩
 simp only [knS,List.mem_cons,List.not_mem_nil,or_false] at he
 rcases he with rfl | rfl | rfl | rfl
 ·exact key runA1
 ·exact key runA2
 ·exact key runA3
 ·exact key runA4
def p_shed_surelyPasses (N : Nat) (f_1 : T_Float) (route_2 : (List T_Hurdle)) : Option (Bool):=lookS knS [A_Float f_1,.sl (route_2.map A_Hurdle) none]
def v_shed_surelyPasses (r : Bool) : AV:=.bool r
attribute [local simp] v_shed_surelyPasses
theorem a_shed_surelyPasses (f_1 : T_Float) (route_2 : (List T_Hurdle)) : [(A_Float f_1),.sl (route_2.map A_Hurdle) none].mapM (ren []) = some [(A_Float f_1),.sl (route_2.map A_Hurdle) none]:=by simp [ren,ren1,AV.plain,AV.plain1,AV.clean,cleanL,A_Float,C_Float,KL_Load,KL_Hurdle]
theorem b_shed_surelyPasses (r : Bool) (n n2 m : Nat) : back n n2 m (v_shed_surelyPasses r) = some (v_shed_surelyPasses r):=by simp [back,back1,AV.clean,AV.plain,AV.plain1]
theorem d_shed_surelyPasses (N : Nat) (f_1 : T_Float) (route_2 : (List T_Hurdle)) (r : Bool) (h : p_shed_surelyPasses N f_1 route_2 = some r) : Does Tryz.prog 44 [(A_Float f_1),.sl (route_2.map A_Hurdle) none] [] fun v c => v = v_shed_surelyPasses r ∧ c = [] :=
 knS_ok _ (lookS_mem _ _ _ h)
end Go.Proofs.YtjjmhjmkdihmnaaGreatDoor
end
section
namespace Go.Proofs.YtjjmhjmkdihmnaaGreatDoor
open Go.RowKit
attribute [local simp] ren ren1 AV.plain AV.plain1 AV.clean cleanL cleanI cleanBo cleanSt cleanII KL_bk_Drum KL_Worker KL_Job KL_Shop KL_Shift KL_shed_hand KL_V7_Shift KL_V7_bool KL_shed_draft KL_shed_planner KL_Hurdle KL_Span KL_Load KL_Float A_bk_Drum C_bk_Drum A_Worker C_Worker A_Job C_Job A_Shop C_Shop A_Shift C_Shift A_shed_hand C_shed_hand A_V7_Shift C_V7_Shift A_V7_bool C_V7_bool A_shed_draft C_shed_draft A_shed_planner C_shed_planner A_Hurdle C_Hurdle A_Span C_Span A_Load C_Load A_Float C_Float back back1 fadeS fadeV List.idxOf? List.findIdx? List.findIdx?.go re re1 KB_bk_Drum KB_Worker KB_Job KB_Shop KB_Shift KB_shed_hand KB_V7_Shift KB_V7_bool KB_shed_draft KB_shed_planner KB_Hurdle KB_Span KB_Load KB_Float
def p_slices_Clone_int_int (N : Nat) (s_1 : (List Int)) : Option ((List Int)):=pushI ([] : List Int) s_1
def v_slices_Clone_int_int (r : (List Int)) : AV:=.sl (r.map (AV.int .i64)) none
attribute [local simp] v_slices_Clone_int_int
def p_slices_Index_int_int (N : Nat) (s_1 : (List Int)) (v_2 : Int) : Option (Int):=(letJ (fun (_ : Unit) => some (-1)) (fun k_3 => (loop1 (fun rec_7 (y_6 : Int) => (bif (decide (y_6 < ((s_1.length : Nat) : Int))) then ((getI s_1 y_6).bind fun x_11 => (bif (v_2 == x_11) then some y_6 else (rec_7 (IntKind.i64.wrap (y_6 + 1))))) else (k_3 ()))) N 0)))
def v_slices_Index_int_int (r : Int) : AV:=i6 r
attribute [local simp] v_slices_Index_int_int
theorem a_slices_Index_int_int (s_1 : (List Int)) (v_2 : Int) : [.sl (s_1.map (AV.int .i64)) none,i6 v_2].mapM (ren []) = some [.sl (s_1.map (AV.int .i64)) none,i6 v_2]:=by simp
theorem b_slices_Index_int_int (r : Int) (n n2 m : Nat) : back n n2 m (v_slices_Index_int_int r) = some (v_slices_Index_int_int r):=by simp
theorem d_slices_Index_int_int (N : Nat) (s_1 : (List Int)) (v_2 : Int) (r : Int) (h : p_slices_Index_int_int N s_1 v_2 = some r) : Does Tryz.prog 108 [.sl (s_1.map (AV.int .i64)) none,i6 v_2] [] fun v c => v = v_slices_Index_int_int r ∧ c = []:=by
 unfold p_slices_Index_int_int at h
 refine Does.ofL comp108 _ _ rfl rfl ?_
 refine Ex.seq (rg 1 [0,1] (mkS 19 [(0,.sl (s_1.map (AV.int .i64)) none),(1,i6 v_2)]) ⟨[],[]⟩ ?_)
 refine Ex.seq (Ex.seq ?_)
 refine regH 3 [(1,.eq (i6 ((s_1.length : Nat) : Int)))] [0,1,7,8] [AV.int .i64 (((s_1.map (AV.int .i64)).length : Nat) : Int) = AV.int .i64 ((s_1.length : Nat) : Int)] (mkS 19 [(0,.sl (s_1.map (AV.int .i64)) none),(1,i6 v_2),(7,i6 ((s_1.length : Nat) : Int)),(8,i6 0)]) (⟨[],[]⟩) (by kernel_rfl) ⟨lenM _ _,trivial⟩ rfl ?_
 obtain ⟨K_4,hK_5,h⟩:=letE h
 refine Ex.blockJ (fun a S => K_4 () = some r ∧ a = mkS 19 [] ∧ S = ⟨[],[]⟩) ?_ ?_
 ·obtain ⟨B_8,hB_9,h⟩:=loop1I h
  refine Ex.loopF (fun k a S => ∃ (y_6 : Int),loop1 B_8 k y_6 = some r ∧ a = mkS 19 [(0,.sl (s_1.map (AV.int .i64)) none),(1,i6 v_2),(7,i6 ((s_1.length : Nat) : Int)),(8,i6 y_6)] ∧ S = ⟨[],[]⟩) N ⟨_,_,Forgets.refl _ _ _,0,h,rfl,rfl⟩ ?_
  rintro k a S ⟨y_6,h,rfl,rfl⟩
  cases k with
  | zero => exact (loop1Z h).elim
  | succ k =>
   replace h:=loop1S h hB_9
   refine Ex.seq (rg 1 [0,1,7,8,9] (mkS 19 [(0,.sl (s_1.map (AV.int .i64)) none),(1,i6 v_2),(7,i6 ((s_1.length : Nat) : Int)),(8,i6 y_6),(9,.bool (decide (y_6 < ((s_1.length : Nat) : Int))))]) ⟨[],[]⟩ ?_)
   refine Ex.seq ?_
   rcases condI h with ⟨hc_10,h⟩ | ⟨hc_10,h⟩
   ·refine Ex.condT _ rfl hc_10 ?_
    refine Ex.skip ?_
    refine Ex.seq ?_
    refine Ex.blockK ?_
    refine Ex.seq (rg 2 [0,1,5,7,8] (mkS 19 [(0,.sl (s_1.map (AV.int .i64)) none),(1,i6 v_2),(5,i6 y_6),(7,i6 ((s_1.length : Nat) : Int)),(8,i6 y_6)]) ⟨[],[]⟩ ?_)
    refine Ex.seq ?_
    obtain ⟨x_11,hx_11,h⟩:=bE h
    refine regH 6 [(3,.rop [i6 x_11])] [0,1,5,7,8,16] [LGet (s_1.map (AV.int .i64)) y_6 1 [i6 x_11]] (mkS 19 [(0,.sl (s_1.map (AV.int .i64)) none),(1,i6 v_2),(5,i6 y_6),(7,i6 ((s_1.length : Nat) : Int)),(8,i6 y_6),(16,.bool (v_2 == x_11))]) (⟨[],[]⟩) (by kernel_rfl) ⟨LGet.of hx_11 rfl,trivial⟩ rfl ?_
    rcases condI h with ⟨hc_12,h⟩ | ⟨hc_12,h⟩
    ·refine Ex.condT _ rfl hc_12 ?_
     refine Ex.seq (rg 2 [4] (mkS 19 [(4,i6 y_6)]) ⟨[],[]⟩ ?_)
     refine Ex.ret ?_
     obtain rfl:=sJ h
     exact rt (i6 y_6)
    ·refine Ex.condF _ rfl hc_12 ?_
     refine Ex.skip ?_
     refine rg 2 [0,1,7,8] (mkS 19 [(0,.sl (s_1.map (AV.int .i64)) none),(1,i6 v_2),(7,i6 ((s_1.length : Nat) : Int)),(8,i6 (IntKind.i64.wrap (y_6 + 1)))]) ⟨[],[]⟩ ?_
     dsimp only
     exact ⟨_,_,Forgets.refl _ _ _,k,Nat.lt_succ_self k,(IntKind.i64.wrap (y_6 + 1)),h,rfl,rfl⟩
   ·refine Ex.condF _ rfl hc_10 ?_
    refine Ex.exit ?_
    (try simp only [reduceCtorEq,AEx.ex.injEq,Nat.reduceEqDiff,if_true,if_false])
    exact ⟨_,_,forgetK [],h,rfl,rfl⟩
 ·rintro a S ⟨h,rfl,rfl⟩
  subst hK_5
  refine Ex.seq (rg 1 [4] (mkS 19 [(4,i6 (-1))]) ⟨[],[]⟩ ?_)
  refine Ex.ret ?_
  obtain rfl:=sJ h
  exact rt (i6 (-1))
def p_slices_Contains_int_int (N : Nat) (s_1 : (List Int)) (v_2 : Int) : Option (Bool):=((p_slices_Index_int_int N s_1 v_2).bind fun r_3 => some (decide (r_3 ≥ 0)))
def v_slices_Contains_int_int (r : Bool) : AV:=.bool r
attribute [local simp] v_slices_Contains_int_int
theorem d_slices_Contains_int_int (N : Nat) (s_1 : (List Int)) (v_2 : Int) (r : Bool) (h : p_slices_Contains_int_int N s_1 v_2 = some r) : Does Tryz.prog 83 [.sl (s_1.map (AV.int .i64)) none,i6 v_2] [] fun v c => v = v_slices_Contains_int_int r ∧ c = []:=by
 unfold p_slices_Contains_int_int at h
 refine Does.ofL comp83 _ _ rfl rfl ?_
 refine Ex.seq (rg 1 [0,1] (mkS 9 [(0,.sl (s_1.map (AV.int .i64)) none),(1,i6 v_2)]) ⟨[],[]⟩ ?_)
 refine Ex.seq ?_
 obtain ⟨r_3,hr_3,h⟩:=bE h
 refine Ex.reg (rn 2 [5,6] (mkS 9 [(5,.sl (s_1.map (AV.int .i64)) none),(6,i6 v_2)]) ⟨[],[]⟩ ?_)
 refine ExO.callL [] [.sl (s_1.map (AV.int .i64)) none,i6 v_2] rfl rfl (a_slices_Index_int_int s_1 v_2) rfl rfl (d_slices_Index_int_int N s_1 v_2 r_3 hr_3) (b_slices_Index_int_int _ _ _ _) rfl ?_
 refine rn 2 [4] (mkS 9 [(4,.bool (decide (r_3 ≥ 0)))]) ⟨[],[]⟩ ?_
 refine ExO.nil ?_
 refine Ex.ret ?_
 obtain rfl:=sJ h
 exact rt (.bool (decide (r_3 ≥ 0)))
theorem t_slices_Clone_int_int (N : Nat) (s_1 : (List Int)) (r : (List Int)) (h : p_slices_Clone_int_int N s_1 = some r) : TokOk Tryz.prog ⟨82,[.sl (s_1.map (AV.int .i64)) none],r.map (AV.int .i64),r.length,1⟩:=by
 refine ⟨?_,(cleanI _ _),by simp⟩
 unfold p_slices_Clone_int_int at h
 refine DoesT.of comp82 ?_
 refine Ex.seq (rg 1 [0] (mkS 8 [(0,.sl (s_1.map (AV.int .i64)) none)]) ⟨[],[]⟩ ?_)
 refine Ex.seq (Ex.seq ?_)
 refine Ex.reg (rn 1 [0,3] (mkS 8 [(0,.sl (s_1.map (AV.int .i64)) none),(3,.sl (s_1.map (AV.int .i64)) none)]) ⟨[],[]⟩ ?_)
 refine ExO.isNil false (.tmp 3) (s_1.map (AV.int .i64)) rfl rfl rfl (fun b hb => ?_)
 refine rn 0 [0,4] (mkS 8 [(0,.sl (s_1.map (AV.int .i64)) none),(4,.bool (b != false))]) ⟨[],[]⟩ ?_
 refine ExO.nil ?_
 cases b
 ·refine Ex.condF (false != false) rfl rfl ?_
  refine Ex.skip ?_
  refine Ex.seq ?_
  refine regH 4 [(2,.apps (s_1.map (AV.int .i64)) (r.map (AV.int .i64)) r.length)] [2] [LApps 0 (([] : List Int).map (AV.int .i64)) (s_1.map (AV.int .i64)) (s_1.map (AV.int .i64)) 1 (r.map (AV.int .i64)) r.length] (mkS 8 [(2,.sl (r.map (AV.int .i64)) (some 0))]) (⟨[],[(r.length,1)]⟩) (by kernel_rfl) ⟨LApps.of h (fun _ => rfl) (fun _ => rfl) (fun _ => rfl),trivial⟩ rfl ?_
  refine Ex.ret ?_
  exact ⟨.inr rfl,.sl (r.map (AV.int .i64)) (some 0),by kernel_rfl,0,rfl,rfl⟩
 ·have hl : s_1 = []:=List.map_eq_nil_iff.1 (hb rfl)
  subst hl
  have hr : r = []:=by simpa [pushI] using h.symm
  subst hr
  refine Ex.condT (true != false) rfl rfl ?_
  refine Ex.seq (rg 1 [2] (mkS 8 [(2,.nils)]) ⟨[],[]⟩ ?_)
  refine Ex.forget (nilK 2 1 rfl) ?_
  refine Ex.ret ?_
  exact ⟨.inr rfl,.sl [] (some 0),by kernel_rfl,0,rfl,rfl⟩
def p_shed_bestMatch (N : Nat) (table_1 : (List (List Bool))) (designs_2 : Int) : Option ((List Int)):=((mkI designs_2).bind fun k_3 => (letJ (fun (b_17 : List Int) (b_18 : Int) (w_19 : List Int) => some b_17) (fun k_83 => ((loop5 (ρ:=((List Int) × Int × (List Int))) (fun rec_20 (design_12 : Int) (given_13 : Int) (b_14 : List Int) (b_15 : Int) (w_16 : List Int) => (bif (design_12 == designs_2) then (bif (decide (given_13 > b_15)) then (((lenI w_16 k_3).bind fun (_ : Unit) => (p_slices_Clone_int_int N w_16)).bind fun r_30 => some (r_30,given_13,w_16)) else some (b_14,b_15,w_16)) else (letJ (fun (b_31 : List Int) (b_32 : Int) (w_33 : List Int) => ((idxI design_12 k_3).bind fun u_72 => ((setI w_33 design_12 (fun (y_73 : Int) => (-1))).bind fun z_74 => (letJ (fun (b_77 : List Int) (b_78 : Int) (w_79 : List Int) => some (b_77,b_78,w_79)) (fun k_80 => ((rec_20 (IntKind.i64.wrap (design_12 + 1)) given_13 b_31 b_32 z_74).bind fun s_75 => ((fun t => k_80 t.1 t.2.1 t.2.2) s_75))))))) (fun k_34 => (loop4 (fun rec_41 (y_37 : Int) (b_38 : List Int) (b_39 : Int) (w_40 : List Int) => (bif (decide (y_37 < ((table_1.length : Nat) : Int))) then (letJ (fun (b_45 : List Int) (b_46 : Int) (w_47 : List Int) => (rec_41 (IntKind.i64.wrap (y_37 + 1)) b_45 b_46 w_47)) (fun k_48 => ((getI table_1 y_37).bind fun x_51 => (letJ (fun (y_52 : Bool) => (bif y_52 then ((idxI design_12 k_3).bind fun u_61 => ((setI w_40 design_12 (fun (y_62 : Int) => y_37)).bind fun z_63 => (letJ (fun (b_66 : List Int) (b_67 : Int) (w_68 : List Int) => (k_48 b_66 b_67 w_68)) (fun k_69 => ((rec_20 (IntKind.i64.wrap (design_12 + 1)) (IntKind.i64.wrap (given_13 + 1)) b_38 b_39 z_63).bind fun s_64 => ((fun t => k_69 t.1 t.2.1 t.2.2) s_64)))))) else (k_48 b_38 b_39 w_40))) (fun k_53 => ((getI x_51 design_12).bind fun x_56 => (bif x_56 then ((cutL w_40 k_3 design_12).bind fun l_58 => ((p_slices_Contains_int_int N l_58 y_37).bind fun r_59 => (k_53 (!r_59)))) else (k_53 false)))))))) else (k_34 b_38 b_39 w_40))) N 0 b_14 b_15 w_16))))) N 0 0 [] (-1) (List.replicate k_3 0)).bind fun s_26 => ((fun t => k_83 t.1 t.2.1 t.2.2) s_26)))))
def v_shed_bestMatch (r : (List Int)) : AV:=.sl (r.map (AV.int .i64)) none
attribute [local simp] v_shed_bestMatch
theorem a_shed_bestMatch (table_1 : (List (List Bool))) (designs_2 : Int) : [.sl (table_1.map (SV AV.bool)) none,i6 designs_2].mapM (ren []) = some [.sl (table_1.map (SV AV.bool)) none,i6 designs_2]:=by simp
theorem b_shed_bestMatch (r : (List Int)) (n n2 m : Nat) : back n n2 m (v_shed_bestMatch r) = some (v_shed_bestMatch r):=by simp
theorem d_shed_bestMatch (N : Nat) (table_1 : (List (List Bool))) (designs_2 : Int) (r : (List Int)) (h : p_shed_bestMatch N table_1 designs_2 = some r) : Does Tryz.prog 59 [.sl (table_1.map (SV AV.bool)) none,i6 designs_2] [] fun v c => v = v_shed_bestMatch r ∧ c = []:=by
 unfold p_shed_bestMatch at h
 refine Does.ofL comp59 _ _ rfl rfl ?_
 refine Ex.seq (rg 3 [2,3] (mkS 15 [(2,.ptr 0 0),(3,.ptr 1 0)]) ⟨[[.sl (table_1.map (SV AV.bool)) none],[i6 designs_2]],[]⟩ ?_)
 refine Ex.seq (rg 1 [2,3,5] (mkS 15 [(2,.ptr 0 0),(3,.ptr 1 0),(5,.ptr 2 0)]) ⟨[[.sl (table_1.map (SV AV.bool)) none],[i6 designs_2],[.nils]],[]⟩ ?_)
 refine Ex.seq (rg 2 [2,3,5,6] (mkS 15 [(2,.ptr 0 0),(3,.ptr 1 0),(5,.ptr 2 0),(6,.ptr 3 0)]) ⟨[[.sl (table_1.map (SV AV.bool)) none],[i6 designs_2],[.nils],[i6 (-1)]],[]⟩ ?_)
 refine Ex.seq ?_
 obtain ⟨k_3,hk_3,h⟩:=bE h
 refine regH 4 [(1,.mk (flat ((List.replicate k_3 0).map (AV.int .i64))) k_3)] [2,3,5,6,7] [designs_2 = ((k_3 : Nat) : Int) ∧ k_3 ≤ 65536 ∧ rep [i6 0] k_3 = (flat ((List.replicate k_3 0).map (AV.int .i64)))] (mkS 15 [(2,.ptr 0 0),(3,.ptr 1 0),(5,.ptr 2 0),(6,.ptr 3 0),(7,.ptr 5 0)]) (⟨[[.sl (table_1.map (SV AV.bool)) none],[i6 designs_2],[.nils],[i6 (-1)],(flat ((List.replicate k_3 0).map (AV.int .i64))),[.ms 4 k_3 1]],[]⟩) (by kernel_rfl) ⟨mk_of (f:=(AV.int .i64)) 0 rfl hk_3,trivial⟩ rfl ?_
 refine Ex.seq (rg 1 [2,3,5,6,7,8] (mkS 15 [(2,.ptr 0 0),(3,.ptr 1 0),(5,.ptr 2 0),(6,.ptr 3 0),(7,.ptr 5 0),(8,.ptr 6 0)]) ⟨[[.sl (table_1.map (SV AV.bool)) none],[i6 designs_2],[.nils],[i6 (-1)],(flat ((List.replicate k_3 0).map (AV.int .i64))),[.ms 4 k_3 1],[.nilf]],[]⟩ ?_)
 refine Ex.seq (rg 2 [5,8] (mkS 15 [(5,.ptr 2 0),(8,.ptr 6 0)]) ⟨[[.sl (table_1.map (SV AV.bool)) none],[i6 designs_2],[.nils],[i6 (-1)],(flat ((List.replicate k_3 0).map (AV.int .i64))),[.ms 4 k_3 1],[.fn 81 [] [.ptr 1 0,.ptr 3 0,.ptr 5 0,.ptr 2 0,.ptr 0 0,.ptr 6 0]]],[]⟩ ?_)
 refine Ex.seq ?_
 refine Ex.reg (rn 1 [5,12] (mkS 15 [(5,.ptr 2 0),(12,.fn 81 [] [.ptr 1 0,.ptr 3 0,.ptr 5 0,.ptr 2 0,.ptr 0 0,.ptr 6 0])]) ⟨[[.sl (table_1.map (SV AV.bool)) none],[i6 designs_2],[.nils],[i6 (-1)],(flat ((List.replicate k_3 0).map (AV.int .i64))),[.ms 4 k_3 1],[.fn 81 [] [.ptr 1 0,.ptr 3 0,.ptr 5 0,.ptr 2 0,.ptr 0 0,.ptr 6 0]]],[]⟩ ?_)
 refine ExO.forget (nilF 2 0 [.nils] rfl rfl) ?_
 refine ExO.castA (a2:=mkS 15 [(5,.ptr 2 0),(12,.fn 81 [] [.ptr 1 0,.ptr 3 0,.ptr 5 0,.ptr 2 0,.ptr 0 0,.ptr 6 0])]) (S2:=⟨[[.sl (table_1.map (SV AV.bool)) none],[i6 designs_2],[.sl (([] : List Int).map (AV.int .i64)) none],[i6 (-1)],(flat ((List.replicate k_3 0).map (AV.int .i64))),[.ms 4 k_3 1],[.fn 81 [] [.ptr 1 0,.ptr 3 0,.ptr 5 0,.ptr 2 0,.ptr 0 0,.ptr 6 0]]],[]⟩) (by kernel_rfl) (by kernel_rfl) ?_
 obtain ⟨K_84,hK_85,h⟩:=letE h
 obtain ⟨s_26,hs_27,h⟩:=bE h
 obtain ⟨B_21,hB_22,hs_27⟩:=loop5I hs_27
 have hY_25 : ∀ (k : Nat) (design_12 : Int) (given_13 : Int) (b_14 : List Int) (b_15 : Int) (w_16 : List Int) (r : ((List Int) × Int × (List Int))),loop5 B_21 k design_12 given_13 b_14 b_15 w_16 = some r → ∀ (cx_8 : Cx),cx_8.n = 7 → cx_8.m = 0 → (∀ L' a' ps' x' y',LpOk Tryz.prog (Cx.nat 0) L' a' ps' x' y' → LpOk Tryz.prog cx_8 L' a' ps' x' y') → Ex cx_8 .plain Tryz.prog F81.code (mkS 59 [(0,i6 design_12),(1,i6 given_13),(2,.ptr 1 0),(3,.ptr 3 0),(4,.ptr 5 0),(5,.ptr 2 0),(6,.ptr 0 0),(7,.ptr 6 0),(8,.tup []),(9,.tup []),(10,.tup []),(11,.tup []),(12,.tup []),(13,.tup []),(14,.tup []),(15,.tup []),(16,.tup []),(17,.tup []),(18,.tup []),(19,.tup []),(20,.tup []),(21,.tup []),(22,.tup []),(23,.tup []),(24,.tup []),(25,.tup []),(26,.tup []),(27,.tup []),(28,.tup []),(29,.tup []),(30,.tup []),(31,.tup []),(32,.tup []),(33,.tup []),(34,.tup []),(35,.tup []),(36,.tup []),(37,.tup []),(38,.tup []),(39,.tup []),(40,.tup []),(41,.tup []),(42,.tup []),(43,.tup []),(44,.tup []),(45,.tup []),(46,.tup []),(47,.tup []),(48,.tup []),(49,.tup []),(50,.tup []),(51,.tup []),(52,.tup []),(53,.tup []),(54,.tup []),(55,.tup []),(56,.tup []),(57,.tup []),(58,.tup [])]) (⟨[[.sl (table_1.map (SV AV.bool)) none],[i6 designs_2],[.sl (b_14.map (AV.int .i64)) none],[i6 b_15],(flat (w_16.map (AV.int .i64))),[.ms 4 k_3 1],[.fn 81 [] [.ptr 1 0,.ptr 3 0,.ptr 5 0,.ptr 2 0,.ptr 0 0,.ptr 6 0]]],[]⟩) fun z a' S' => ∃ a2 S2,Forgets cx_8 a' S' a2 S2 ∧ (z = .norm ∨ z = .ret) ∧ ∃ v,evRes a2 S2 F81.res = some v ∧ (fun v S => (∃ (b_17 : List Int),∃ (b_18 : Int),∃ (w_19 : List Int),(b_17,b_18,w_19) = r ∧ v = .tup [] ∧ S = ⟨[[.sl (table_1.map (SV AV.bool)) none],[i6 designs_2],[.sl (b_17.map (AV.int .i64)) none],[i6 b_18],(flat (w_19.map (AV.int .i64))),[.ms 4 k_3 1],[.fn 81 [] [.ptr 1 0,.ptr 3 0,.ptr 5 0,.ptr 2 0,.ptr 0 0,.ptr 6 0]]],[]⟩)) v S2:=by
  intro k_23
  induction k_23 with
  | zero => intro design_12 given_13 b_14 b_15 w_16 r h; exact (loop5Z h).elim
  | succ k ih_24 =>
   intro design_12 given_13 b_14 b_15 w_16 r h cx_8 hcn_9 hcm_10 hup_11
   replace h:=loop5S h hB_22
   refine Ex.seq (Ex.seq ?_)
   refine rg 3 [0,1,3,4,5,6,7,14] (mkS 59 [(0,i6 design_12),(1,i6 given_13),(3,.ptr 3 0),(4,.ptr 5 0),(5,.ptr 2 0),(6,.ptr 0 0),(7,.ptr 6 0),(14,.bool (design_12 == designs_2))]) ⟨[[.sl (table_1.map (SV AV.bool)) none],[i6 designs_2],[.sl (b_14.map (AV.int .i64)) none],[i6 b_15],(flat (w_16.map (AV.int .i64))),[.ms 4 k_3 1],[.fn 81 [] [.ptr 1 0,.ptr 3 0,.ptr 5 0,.ptr 2 0,.ptr 0 0,.ptr 6 0]]],[]⟩ ?_
   rcases condI h with ⟨hc_28,h⟩ | ⟨hc_28,h⟩
   ·refine Ex.condT _ rfl hc_28 ?_
    refine Ex.seq (Ex.seq ?_)
    refine rg 3 [1,3,4,5,17] (mkS 59 [(1,i6 given_13),(3,.ptr 3 0),(4,.ptr 5 0),(5,.ptr 2 0),(17,.bool (decide (given_13 > b_15)))]) ⟨[[.sl (table_1.map (SV AV.bool)) none],[i6 designs_2],[.sl (b_14.map (AV.int .i64)) none],[i6 b_15],(flat (w_16.map (AV.int .i64))),[.ms 4 k_3 1],[.fn 81 [] [.ptr 1 0,.ptr 3 0,.ptr 5 0,.ptr 2 0,.ptr 0 0,.ptr 6 0]]],[]⟩ ?_
    rcases condI h with ⟨hc_29,h⟩ | ⟨hc_29,h⟩
    ·refine Ex.condT _ rfl hc_29 ?_
     obtain ⟨r_30,hr_30,h⟩:=bE h
     refine Ex.reg (rn 1 [1,3,5,18] (mkS 59 [(1,i6 given_13),(3,.ptr 3 0),(5,.ptr 2 0),(18,.ms 4 k_3 1)]) ⟨[[.sl (table_1.map (SV AV.bool)) none],[i6 designs_2],[.sl (b_14.map (AV.int .i64)) none],[i6 b_15],(flat (w_16.map (AV.int .i64))),[.ms 4 k_3 1],[.fn 81 [] [.ptr 1 0,.ptr 3 0,.ptr 5 0,.ptr 2 0,.ptr 0 0,.ptr 6 0]]],[]⟩ ?_)
     refine ExO.callLendP (t_slices_Clone_int_int N w_16 r_30 (lendG hr_30).2) (flat_bare (f:=(AV.int .i64)) (fun _ => rfl) _) [(4,1,w_16.map (AV.int .i64),[])] [.ms 4 k_3 1] rfl rfl (by exact ⟨.s 0 rfl ((lendG hr_30).1.symm.trans (List.length_map ..).symm),trivial⟩) ⟨⟨(by show some _ = some _; rw [List.append_nil]),show 0 < 1 by decide,fun i e he => map_cells (f:=(AV.int .i64)) (s:=1) (fun _ => rfl) _ e (List.mem_of_getElem? he),(flat_clean (f:=(AV.int .i64)) (fun _ => rfl) _),show 4 ∉ ([] : List Nat) by decide⟩,trivial⟩ ?_
     refine rn 3 [] (mkS 59 []) ⟨[[.sl (table_1.map (SV AV.bool)) none],[i6 designs_2],[.sl (r_30.map (AV.int .i64)) none],[i6 given_13],(flat (w_16.map (AV.int .i64))),[.ms 4 k_3 1],[.fn 81 [] [.ptr 1 0,.ptr 3 0,.ptr 5 0,.ptr 2 0,.ptr 0 0,.ptr 6 0]]],[]⟩ ?_
     refine ExO.nil ?_
     refine Ex.ret ?_
     obtain rfl:=sJ h
     exact ⟨_,_,Forgets.refl _ _ _,.inr rfl,_,by kernel_rfl,⟨r_30,given_13,w_16,rfl,rfl,rfl⟩⟩
    ·refine Ex.condF _ rfl hc_29 ?_
     refine Ex.skip ?_
     refine Ex.ret ?_
     obtain rfl:=sJ h
     exact ⟨_,_,forgetK [],.inr rfl,_,by kernel_rfl,⟨b_14,b_15,w_16,rfl,rfl,rfl⟩⟩
   ·refine Ex.condF _ rfl hc_28 ?_
    refine Ex.skip ?_
    refine Ex.seq (Ex.seq ?_)
    refine regH 3 [(1,.eq (i6 ((table_1.length : Nat) : Int)))] [0,1,4,7,21,22,23] [AV.int .i64 (((table_1.map (SV AV.bool)).length : Nat) : Int) = AV.int .i64 ((table_1.length : Nat) : Int)] (mkS 59 [(0,i6 design_12),(1,i6 given_13),(4,.ptr 5 0),(7,.ptr 6 0),(21,.sl (table_1.map (SV AV.bool)) none),(22,i6 ((table_1.length : Nat) : Int)),(23,i6 0)]) (⟨[[.sl (table_1.map (SV AV.bool)) none],[i6 designs_2],[.sl (b_14.map (AV.int .i64)) none],[i6 b_15],(flat (w_16.map (AV.int .i64))),[.ms 4 k_3 1],[.fn 81 [] [.ptr 1 0,.ptr 3 0,.ptr 5 0,.ptr 2 0,.ptr 0 0,.ptr 6 0]]],[]⟩) (by kernel_rfl) ⟨lenM _ _,trivial⟩ rfl ?_
    obtain ⟨K_35,hK_36,h⟩:=letE h
    refine Ex.blockJ (fun a S => ∃ (b_31 : List Int),∃ (b_32 : Int),∃ (w_33 : List Int),K_35 b_31 b_32 w_33 = some r ∧ a = mkS 59 [(0,i6 design_12),(1,i6 given_13),(4,.ptr 5 0),(7,.ptr 6 0)] ∧ S = ⟨[[.sl (table_1.map (SV AV.bool)) none],[i6 designs_2],[.sl (b_31.map (AV.int .i64)) none],[i6 b_32],(flat (w_33.map (AV.int .i64))),[.ms 4 k_3 1],[.fn 81 [] [.ptr 1 0,.ptr 3 0,.ptr 5 0,.ptr 2 0,.ptr 0 0,.ptr 6 0]]],[]⟩) ?_ ?_
    ·obtain ⟨B_42,hB_43,h⟩:=loop4I h
     refine Ex.loopF (fun k a S => ∃ (y_37 : Int),∃ (b_38 : List Int),∃ (b_39 : Int),∃ (w_40 : List Int),loop4 B_42 k y_37 b_38 b_39 w_40 = some r ∧ a = mkS 59 [(0,i6 design_12),(1,i6 given_13),(4,.ptr 5 0),(7,.ptr 6 0),(21,.sl (table_1.map (SV AV.bool)) none),(22,i6 ((table_1.length : Nat) : Int)),(23,i6 y_37)] ∧ S = ⟨[[.sl (table_1.map (SV AV.bool)) none],[i6 designs_2],[.sl (b_38.map (AV.int .i64)) none],[i6 b_39],(flat (w_40.map (AV.int .i64))),[.ms 4 k_3 1],[.fn 81 [] [.ptr 1 0,.ptr 3 0,.ptr 5 0,.ptr 2 0,.ptr 0 0,.ptr 6 0]]],[]⟩) N ⟨_,_,Forgets.refl _ _ _,0,b_14,b_15,w_16,h,rfl,rfl⟩ ?_
     rintro k a S ⟨y_37,b_38,b_39,w_40,h,rfl,rfl⟩
     cases k with
     | zero => exact (loop4Z h).elim
     | succ k =>
      replace h:=loop4S h hB_43
      refine Ex.seq (rg 1 [0,1,4,7,21,22,23,24] (mkS 59 [(0,i6 design_12),(1,i6 given_13),(4,.ptr 5 0),(7,.ptr 6 0),(21,.sl (table_1.map (SV AV.bool)) none),(22,i6 ((table_1.length : Nat) : Int)),(23,i6 y_37),(24,.bool (decide (y_37 < ((table_1.length : Nat) : Int))))]) ⟨[[.sl (table_1.map (SV AV.bool)) none],[i6 designs_2],[.sl (b_38.map (AV.int .i64)) none],[i6 b_39],(flat (w_40.map (AV.int .i64))),[.ms 4 k_3 1],[.fn 81 [] [.ptr 1 0,.ptr 3 0,.ptr 5 0,.ptr 2 0,.ptr 0 0,.ptr 6 0]]],[]⟩ ?_)
      refine Ex.seq ?_
      rcases condI h with ⟨hc_44,h⟩ | ⟨hc_44,h⟩
      ·refine Ex.condT _ rfl hc_44 ?_
       refine Ex.skip ?_
       refine Ex.seq ?_
       obtain ⟨K_49,hK_50,h⟩:=letE h
       refine Ex.blockJ (fun a S => ∃ (b_45 : List Int),∃ (b_46 : Int),∃ (w_47 : List Int),K_49 b_45 b_46 w_47 = some r ∧ a = mkS 59 [(0,i6 design_12),(1,i6 given_13),(4,.ptr 5 0),(7,.ptr 6 0),(21,.sl (table_1.map (SV AV.bool)) none),(22,i6 ((table_1.length : Nat) : Int)),(23,i6 y_37)] ∧ S = ⟨[[.sl (table_1.map (SV AV.bool)) none],[i6 designs_2],[.sl (b_45.map (AV.int .i64)) none],[i6 b_46],(flat (w_47.map (AV.int .i64))),[.ms 4 k_3 1],[.fn 81 [] [.ptr 1 0,.ptr 3 0,.ptr 5 0,.ptr 2 0,.ptr 0 0,.ptr 6 0]]],[]⟩) ?_ ?_
       ·refine Ex.seq ?_
        obtain ⟨x_51,hx_51,h⟩:=bE h
        refine regH 5 [(1,.rop [.sl (x_51.map AV.bool) none])] [0,1,4,7,10,11,21,22,23] [LGet (table_1.map (SV AV.bool)) y_37 1 [.sl (x_51.map AV.bool) none]] (mkS 59 [(0,i6 design_12),(1,i6 given_13),(4,.ptr 5 0),(7,.ptr 6 0),(10,i6 y_37),(11,.sl (x_51.map AV.bool) none),(21,.sl (table_1.map (SV AV.bool)) none),(22,i6 ((table_1.length : Nat) : Int)),(23,i6 y_37)]) (⟨[[.sl (table_1.map (SV AV.bool)) none],[i6 designs_2],[.sl (b_38.map (AV.int .i64)) none],[i6 b_39],(flat (w_40.map (AV.int .i64))),[.ms 4 k_3 1],[.fn 81 [] [.ptr 1 0,.ptr 3 0,.ptr 5 0,.ptr 2 0,.ptr 0 0,.ptr 6 0]]],[]⟩) (by kernel_rfl) ⟨LGet.of hx_51 rfl,trivial⟩ rfl ?_
        obtain ⟨K_54,hK_55,h⟩:=letE h
        refine Ex.seqJ (fun a S => ∃ (y_52 : Bool),K_54 y_52 = some r ∧ a = mkS 59 [(0,i6 design_12),(1,i6 given_13),(4,.ptr 5 0),(7,.ptr 6 0),(10,i6 y_37),(21,.sl (table_1.map (SV AV.bool)) none),(22,i6 ((table_1.length : Nat) : Int)),(23,i6 y_37),(39,.bool y_52)] ∧ S = ⟨[[.sl (table_1.map (SV AV.bool)) none],[i6 designs_2],[.sl (b_38.map (AV.int .i64)) none],[i6 b_39],(flat (w_40.map (AV.int .i64))),[.ms 4 k_3 1],[.fn 81 [] [.ptr 1 0,.ptr 3 0,.ptr 5 0,.ptr 2 0,.ptr 0 0,.ptr 6 0]]],[]⟩) ?_ ?_
        ·obtain ⟨x_56,hx_56,h⟩:=bE h
         rcases condI h with ⟨hc_57,h⟩ | ⟨hc_57,h⟩
         ·obtain ⟨l_58,hl_58,h⟩:=bE h
          refine Ex.reg ?_
          refine runH 7 [(2,.rop [.bool x_56]),(4,.eq (.bool true))] [0,1,4,7,10,21,22,23,32,33,34] [LGet (x_51.map AV.bool) design_12 1 [.bool x_56],AV.bool x_56 = AV.bool true] (mkS 59 [(0,i6 design_12),(1,i6 given_13),(4,.ptr 5 0),(7,.ptr 6 0),(10,i6 y_37),(21,.sl (table_1.map (SV AV.bool)) none),(22,i6 ((table_1.length : Nat) : Int)),(23,i6 y_37),(32,.bool true),(33,.ms 4 k_3 1),(34,i6 design_12)]) (⟨[[.sl (table_1.map (SV AV.bool)) none],[i6 designs_2],[.sl (b_38.map (AV.int .i64)) none],[i6 b_39],(flat (w_40.map (AV.int .i64))),[.ms 4 k_3 1],[.fn 81 [] [.ptr 1 0,.ptr 3 0,.ptr 5 0,.ptr 2 0,.ptr 0 0,.ptr 6 0]]],[]⟩) (by kernel_rfl) ⟨LGet.of hx_56 rfl,congrArg AV.bool hc_57,trivial⟩ ?_
          refine ExO.slcM l_58.length rfl rfl rfl rfl (cutL.of hl_58).1 (cutL.of hl_58).2 ?_
          obtain ⟨r_59,hr_59,h⟩:=bE h
          refine rn 1 [0,1,4,7,10,21,22,23,32,35,36] (mkS 59 [(0,i6 design_12),(1,i6 given_13),(4,.ptr 5 0),(7,.ptr 6 0),(10,i6 y_37),(21,.sl (table_1.map (SV AV.bool)) none),(22,i6 ((table_1.length : Nat) : Int)),(23,i6 y_37),(32,.bool true),(35,.ms 4 l_58.length 1),(36,i6 y_37)]) ⟨[[.sl (table_1.map (SV AV.bool)) none],[i6 designs_2],[.sl (b_38.map (AV.int .i64)) none],[i6 b_39],(flat (w_40.map (AV.int .i64))),[.ms 4 k_3 1],[.fn 81 [] [.ptr 1 0,.ptr 3 0,.ptr 5 0,.ptr 2 0,.ptr 0 0,.ptr 6 0]]],[]⟩ ?_
          refine ExO.callLend [(4,1,l_58.map (AV.int .i64),flat ((w_40.drop l_58.length).map (AV.int .i64)))] [] [.ms 4 l_58.length 1,i6 y_37] rfl rfl (by exact ⟨.s 0 rfl (List.length_map ..).symm,⟨.n (by simp; try rfl),trivial⟩⟩) ⟨⟨(by show some _ = some _; rw [cutL.flat hl_58 (AV.int .i64)]),show 0 < 1 by decide,fun i e he => map_cells (f:=(AV.int .i64)) (s:=1) (fun _ => rfl) _ e (List.mem_of_getElem? he),(flat_clean (f:=(AV.int .i64)) (fun _ => rfl) _),show 4 ∉ ([] : List Nat) by decide⟩,trivial⟩ rfl rfl (d_slices_Contains_int_int N l_58 y_37 r_59 hr_59) rfl rfl rfl ?_
          refine rn 2 [0,1,4,7,10,21,22,23,39] (mkS 59 [(0,i6 design_12),(1,i6 given_13),(4,.ptr 5 0),(7,.ptr 6 0),(10,i6 y_37),(21,.sl (table_1.map (SV AV.bool)) none),(22,i6 ((table_1.length : Nat) : Int)),(23,i6 y_37),(39,.bool (!r_59))]) ⟨[[.sl (table_1.map (SV AV.bool)) none],[i6 designs_2],[.sl (b_38.map (AV.int .i64)) none],[i6 b_39],(flat (w_40.map (AV.int .i64))),[.ms 4 k_3 1],[.fn 81 [] [.ptr 1 0,.ptr 3 0,.ptr 5 0,.ptr 2 0,.ptr 0 0,.ptr 6 0]]],[]⟩ ?_
          refine ExO.nil ?_
          (try simp only [reduceCtorEq,AEx.ex.injEq,Nat.reduceEqDiff,if_true,if_false])
          exact ⟨_,_,Forgets.refl _ _ _,(!r_59),h,rfl,rfl⟩
         ·refine regH 12 [(2, .rop [.bool x_56]), (4, .eq (.bool false))] [0, 1, 4, 7, 10, 21, 22, 23, 39] [LGet (x_51.map AV.bool) design_12 1 [.bool x_56], AV.bool x_56 = AV.bool false] (mkS 59 [(0, i6 design_12), (1, i6 given_13), (4, .ptr 5 0), (7, .ptr 6 0), (10, i6 y_37), (21, .sl (table_1.map (SV AV.bool)) none), (22, i6 ((table_1.length : Nat) : Int)), (23, i6 y_37), (39, .bool false)]) (⟨[[.sl (table_1.map (SV AV.bool)) none], [i6 designs_2], [.sl (b_38.map (AV.int .i64)) none], [i6 b_39], (flat (w_40.map (AV.int .i64))), [.ms 4 k_3 1], [.fn 81 [] [.ptr 1 0, .ptr 3 0, .ptr 5 0, .ptr 2 0, .ptr 0 0, .ptr 6 0]]], []⟩) (by kernel_rfl) ⟨LGet.of hx_56 rfl, congrArg AV.bool hc_57, trivial⟩ rfl ?_
          (try simp only [reduceCtorEq,AEx.ex.injEq,Nat.reduceEqDiff,if_true,if_false])
          exact ⟨_,_,Forgets.refl _ _ _,false,h,rfl,rfl⟩
        ·rintro a S ⟨y_52,h,rfl,rfl⟩
         subst hK_55
         rcases condI h with ⟨hc_60,h⟩ | ⟨hc_60,h⟩
         ·refine Ex.condT _ rfl hc_60 ?_
          refine Ex.seq ?_
          obtain ⟨u_61,hu_61,h⟩:=bE h
          obtain ⟨z_63,hz_63,h⟩:=bE h
          refine regH 5 [(3,.adm),(4,.st (flat (z_63.map (AV.int .i64))))] [0,1,4,7,21,22,23] [0 ≤ design_12 ∧ design_12 < ((k_3 : Nat) : Int),0 + Int.toNat design_12 * 1 + 1 ≤ ((flat (w_40.map (AV.int .i64)))).length ∧ layAt (flat (w_40.map (AV.int .i64))) (0 + Int.toNat design_12 * 1) [i6 y_37] = (flat (z_63.map (AV.int .i64)))] (mkS 59 [(0,i6 design_12),(1,i6 given_13),(4,.ptr 5 0),(7,.ptr 6 0),(21,.sl (table_1.map (SV AV.bool)) none),(22,i6 ((table_1.length : Nat) : Int)),(23,i6 y_37)]) (⟨[[.sl (table_1.map (SV AV.bool)) none],[i6 designs_2],[.sl (b_38.map (AV.int .i64)) none],[i6 b_39],(flat (z_63.map (AV.int .i64))),[.ms 4 k_3 1],[.fn 81 [] [.ptr 1 0,.ptr 3 0,.ptr 5 0,.ptr 2 0,.ptr 0 0,.ptr 6 0]]],[]⟩) (by kernel_rfl) ⟨idxI.of hu_61,stFl (f:=(AV.int .i64)) (s:=1) _ 0 1 design_12 (fun (y_62 : Int) => y_37) _ (fun _ => rfl) hz_63 rfl (by decide) (by omega) (fun _ => rfl),trivial⟩ rfl ?_
          refine Ex.reg (rn 5 [0,1,4,7,21,22,23,44,46,48] (mkS 59 [(0,i6 design_12),(1,i6 given_13),(4,.ptr 5 0),(7,.ptr 6 0),(21,.sl (table_1.map (SV AV.bool)) none),(22,i6 ((table_1.length : Nat) : Int)),(23,i6 y_37),(44,.fn 81 [] [.ptr 1 0,.ptr 3 0,.ptr 5 0,.ptr 2 0,.ptr 0 0,.ptr 6 0]),(46,i6 (IntKind.i64.wrap (design_12 + 1))),(48,i6 (IntKind.i64.wrap (given_13 + 1)))]) ⟨[[.sl (table_1.map (SV AV.bool)) none],[i6 designs_2],[.sl (b_38.map (AV.int .i64)) none],[i6 b_39],(flat (z_63.map (AV.int .i64))),[.ms 4 k_3 1],[.fn 81 [] [.ptr 1 0,.ptr 3 0,.ptr 5 0,.ptr 2 0,.ptr 0 0,.ptr 6 0]]],[]⟩ ?_)
          obtain ⟨K_70,hK_71,h⟩:=letE h
          obtain ⟨s_64,hs_65,h⟩:=bE h
          refine ExO.inlY (fun v S => (∃ (b_66 : List Int),∃ (b_67 : Int),∃ (w_68 : List Int),(b_66,b_67,w_68) = s_64 ∧ v = .tup [] ∧ S = ⟨[[.sl (table_1.map (SV AV.bool)) none],[i6 designs_2],[.sl (b_66.map (AV.int .i64)) none],[i6 b_67],(flat (w_68.map (AV.int .i64))),[.ms 4 k_3 1],[.fn 81 [] [.ptr 1 0,.ptr 3 0,.ptr 5 0,.ptr 2 0,.ptr 0 0,.ptr 6 0]]],[]⟩)) 81 [i6 (IntKind.i64.wrap (design_12 + 1)),i6 (IntKind.i64.wrap (given_13 + 1)),.ptr 1 0,.ptr 3 0,.ptr 5 0,.ptr 2 0,.ptr 0 0,.ptr 6 0] _ comp81 (leC hcn_9 (by simp [setAll])) rfl (by kernel_rfl) (mkS 59 [(0,i6 (IntKind.i64.wrap (design_12 + 1))),(1,i6 (IntKind.i64.wrap (given_13 + 1))),(2,.ptr 1 0),(3,.ptr 3 0),(4,.ptr 5 0),(5,.ptr 2 0),(6,.ptr 0 0),(7,.ptr 6 0),(8,.tup []),(9,.tup []),(10,.tup []),(11,.tup []),(12,.tup []),(13,.tup []),(14,.tup []),(15,.tup []),(16,.tup []),(17,.tup []),(18,.tup []),(19,.tup []),(20,.tup []),(21,.tup []),(22,.tup []),(23,.tup []),(24,.tup []),(25,.tup []),(26,.tup []),(27,.tup []),(28,.tup []),(29,.tup []),(30,.tup []),(31,.tup []),(32,.tup []),(33,.tup []),(34,.tup []),(35,.tup []),(36,.tup []),(37,.tup []),(38,.tup []),(39,.tup []),(40,.tup []),(41,.tup []),(42,.tup []),(43,.tup []),(44,.tup []),(45,.tup []),(46,.tup []),(47,.tup []),(48,.tup []),(49,.tup []),(50,.tup []),(51,.tup []),(52,.tup []),(53,.tup []),(54,.tup []),(55,.tup []),(56,.tup []),(57,.tup []),(58,.tup [])]) (by kernel_rfl) (fun c1 g1 g2 g3 => ih_24 (IntKind.i64.wrap (design_12 + 1)) (IntKind.i64.wrap (given_13 + 1)) b_38 b_39 z_63 _ hs_65 c1 g1 g2 (fun _ _ _ _ _ hq => g3 _ _ _ _ _ (hup_11 _ _ _ _ _ hq))) ?_
          rintro v S (⟨b_66,b_67,w_68,rfl,rfl,rfl⟩)
          replace h : K_70 b_66 b_67 w_68 = some r:=h
          subst hK_71
          refine rn 0 [0,1,4,7,21,22,23] (mkS 59 [(0,i6 design_12),(1,i6 given_13),(4,.ptr 5 0),(7,.ptr 6 0),(21,.sl (table_1.map (SV AV.bool)) none),(22,i6 ((table_1.length : Nat) : Int)),(23,i6 y_37)]) ⟨[[.sl (table_1.map (SV AV.bool)) none],[i6 designs_2],[.sl (b_66.map (AV.int .i64)) none],[i6 b_67],(flat (w_68.map (AV.int .i64))),[.ms 4 k_3 1],[.fn 81 [] [.ptr 1 0,.ptr 3 0,.ptr 5 0,.ptr 2 0,.ptr 0 0,.ptr 6 0]]],[]⟩ ?_
          refine ExO.nil ?_
          (try simp only [reduceCtorEq,AEx.ex.injEq,Nat.reduceEqDiff,if_true,if_false])
          exact ⟨_,_,Forgets.refl _ _ _,b_66,b_67,w_68,h,rfl,rfl⟩
         ·refine Ex.condF _ rfl hc_60 ?_
          refine Ex.skip ?_
          (try simp only [reduceCtorEq,AEx.ex.injEq,Nat.reduceEqDiff,if_true,if_false])
          exact ⟨_,_,forgetK [0,1,4,7,21,22,23],b_38,b_39,w_40,h,rfl,rfl⟩
       ·rintro a S ⟨b_45,b_46,w_47,h,rfl,rfl⟩
        subst hK_50
        refine rg 2 [0,1,4,7,21,22,23] (mkS 59 [(0,i6 design_12),(1,i6 given_13),(4,.ptr 5 0),(7,.ptr 6 0),(21,.sl (table_1.map (SV AV.bool)) none),(22,i6 ((table_1.length : Nat) : Int)),(23,i6 (IntKind.i64.wrap (y_37 + 1)))]) ⟨[[.sl (table_1.map (SV AV.bool)) none],[i6 designs_2],[.sl (b_45.map (AV.int .i64)) none],[i6 b_46],(flat (w_47.map (AV.int .i64))),[.ms 4 k_3 1],[.fn 81 [] [.ptr 1 0,.ptr 3 0,.ptr 5 0,.ptr 2 0,.ptr 0 0,.ptr 6 0]]],[]⟩ ?_
        dsimp only
        exact ⟨_,_,Forgets.refl _ _ _,k,Nat.lt_succ_self k,(IntKind.i64.wrap (y_37 + 1)),b_45,b_46,w_47,h,rfl,rfl⟩
      ·refine Ex.condF _ rfl hc_44 ?_
       refine Ex.exit ?_
       (try simp only [reduceCtorEq,AEx.ex.injEq,Nat.reduceEqDiff,if_true,if_false])
       exact ⟨_,_,forgetK [0,1,4,7],b_38,b_39,w_40,h,rfl,rfl⟩
    ·rintro a S ⟨b_31,b_32,w_33,h,rfl,rfl⟩
     subst hK_36
     refine Ex.seq ?_
     obtain ⟨u_72,hu_72,h⟩:=bE h
     obtain ⟨z_74,hz_74,h⟩:=bE h
     refine regH 4 [(2,.adm),(3,.st (flat (z_74.map (AV.int .i64))))] [0,1,7] [0 ≤ design_12 ∧ design_12 < ((k_3 : Nat) : Int),0 + Int.toNat design_12 * 1 + 1 ≤ ((flat (w_33.map (AV.int .i64)))).length ∧ layAt (flat (w_33.map (AV.int .i64))) (0 + Int.toNat design_12 * 1) [i6 (-1)] = (flat (z_74.map (AV.int .i64)))] (mkS 59 [(0,i6 design_12),(1,i6 given_13),(7,.ptr 6 0)]) (⟨[[.sl (table_1.map (SV AV.bool)) none],[i6 designs_2],[.sl (b_31.map (AV.int .i64)) none],[i6 b_32],(flat (z_74.map (AV.int .i64))),[.ms 4 k_3 1],[.fn 81 [] [.ptr 1 0,.ptr 3 0,.ptr 5 0,.ptr 2 0,.ptr 0 0,.ptr 6 0]]],[]⟩) (by kernel_rfl) ⟨idxI.of hu_72,stFl (f:=(AV.int .i64)) (s:=1) _ 0 1 design_12 (fun (y_73 : Int) => (-1)) _ (fun _ => rfl) hz_74 rfl (by decide) (by omega) (fun _ => rfl),trivial⟩ rfl ?_
     refine Ex.reg (rn 4 [54,56,57] (mkS 59 [(54,.fn 81 [] [.ptr 1 0,.ptr 3 0,.ptr 5 0,.ptr 2 0,.ptr 0 0,.ptr 6 0]),(56,i6 (IntKind.i64.wrap (design_12 + 1))),(57,i6 given_13)]) ⟨[[.sl (table_1.map (SV AV.bool)) none],[i6 designs_2],[.sl (b_31.map (AV.int .i64)) none],[i6 b_32],(flat (z_74.map (AV.int .i64))),[.ms 4 k_3 1],[.fn 81 [] [.ptr 1 0,.ptr 3 0,.ptr 5 0,.ptr 2 0,.ptr 0 0,.ptr 6 0]]],[]⟩ ?_)
     obtain ⟨K_81,hK_82,h⟩:=letE h
     obtain ⟨s_75,hs_76,h⟩:=bE h
     refine ExO.inlY (fun v S => (∃ (b_77 : List Int),∃ (b_78 : Int),∃ (w_79 : List Int),(b_77,b_78,w_79) = s_75 ∧ v = .tup [] ∧ S = ⟨[[.sl (table_1.map (SV AV.bool)) none],[i6 designs_2],[.sl (b_77.map (AV.int .i64)) none],[i6 b_78],(flat (w_79.map (AV.int .i64))),[.ms 4 k_3 1],[.fn 81 [] [.ptr 1 0,.ptr 3 0,.ptr 5 0,.ptr 2 0,.ptr 0 0,.ptr 6 0]]],[]⟩)) 81 [i6 (IntKind.i64.wrap (design_12 + 1)),i6 given_13,.ptr 1 0,.ptr 3 0,.ptr 5 0,.ptr 2 0,.ptr 0 0,.ptr 6 0] _ comp81 (leC hcn_9 (by simp [setAll])) rfl (by kernel_rfl) (mkS 59 [(0,i6 (IntKind.i64.wrap (design_12 + 1))),(1,i6 given_13),(2,.ptr 1 0),(3,.ptr 3 0),(4,.ptr 5 0),(5,.ptr 2 0),(6,.ptr 0 0),(7,.ptr 6 0),(8,.tup []),(9,.tup []),(10,.tup []),(11,.tup []),(12,.tup []),(13,.tup []),(14,.tup []),(15,.tup []),(16,.tup []),(17,.tup []),(18,.tup []),(19,.tup []),(20,.tup []),(21,.tup []),(22,.tup []),(23,.tup []),(24,.tup []),(25,.tup []),(26,.tup []),(27,.tup []),(28,.tup []),(29,.tup []),(30,.tup []),(31,.tup []),(32,.tup []),(33,.tup []),(34,.tup []),(35,.tup []),(36,.tup []),(37,.tup []),(38,.tup []),(39,.tup []),(40,.tup []),(41,.tup []),(42,.tup []),(43,.tup []),(44,.tup []),(45,.tup []),(46,.tup []),(47,.tup []),(48,.tup []),(49,.tup []),(50,.tup []),(51,.tup []),(52,.tup []),(53,.tup []),(54,.tup []),(55,.tup []),(56,.tup []),(57,.tup []),(58,.tup [])]) (by kernel_rfl) (fun c1 g1 g2 g3 => ih_24 (IntKind.i64.wrap (design_12 + 1)) given_13 b_31 b_32 z_74 _ hs_76 c1 g1 g2 (fun _ _ _ _ _ hq => g3 _ _ _ _ _ (hup_11 _ _ _ _ _ hq))) ?_
     rintro v S (⟨b_77,b_78,w_79,rfl,rfl,rfl⟩)
     replace h : K_81 b_77 b_78 w_79 = some r:=h
     subst hK_82
     refine rn 0 [] (mkS 59 []) ⟨[[.sl (table_1.map (SV AV.bool)) none],[i6 designs_2],[.sl (b_77.map (AV.int .i64)) none],[i6 b_78],(flat (w_79.map (AV.int .i64))),[.ms 4 k_3 1],[.fn 81 [] [.ptr 1 0,.ptr 3 0,.ptr 5 0,.ptr 2 0,.ptr 0 0,.ptr 6 0]]],[]⟩ ?_
     refine ExO.nil ?_
     obtain rfl:=sJ h
     exact ⟨_,_,Forgets.refl _ _ _,.inl rfl,_,by kernel_rfl,⟨b_77,b_78,w_79,rfl,rfl,rfl⟩⟩
 refine ExO.inlY (fun v S => (∃ (b_17 : List Int),∃ (b_18 : Int),∃ (w_19 : List Int),(b_17,b_18,w_19) = s_26 ∧ v = .tup [] ∧ S = ⟨[[.sl (table_1.map (SV AV.bool)) none],[i6 designs_2],[.sl (b_17.map (AV.int .i64)) none],[i6 b_18],(flat (w_19.map (AV.int .i64))),[.ms 4 k_3 1],[.fn 81 [] [.ptr 1 0,.ptr 3 0,.ptr 5 0,.ptr 2 0,.ptr 0 0,.ptr 6 0]]],[]⟩)) 81 [i6 0,i6 0,.ptr 1 0,.ptr 3 0,.ptr 5 0,.ptr 2 0,.ptr 0 0,.ptr 6 0] _ comp81 (by simp [setAll]) rfl (by kernel_rfl) (mkS 59 [(0,i6 0),(1,i6 0),(2,.ptr 1 0),(3,.ptr 3 0),(4,.ptr 5 0),(5,.ptr 2 0),(6,.ptr 0 0),(7,.ptr 6 0),(8,.tup []),(9,.tup []),(10,.tup []),(11,.tup []),(12,.tup []),(13,.tup []),(14,.tup []),(15,.tup []),(16,.tup []),(17,.tup []),(18,.tup []),(19,.tup []),(20,.tup []),(21,.tup []),(22,.tup []),(23,.tup []),(24,.tup []),(25,.tup []),(26,.tup []),(27,.tup []),(28,.tup []),(29,.tup []),(30,.tup []),(31,.tup []),(32,.tup []),(33,.tup []),(34,.tup []),(35,.tup []),(36,.tup []),(37,.tup []),(38,.tup []),(39,.tup []),(40,.tup []),(41,.tup []),(42,.tup []),(43,.tup []),(44,.tup []),(45,.tup []),(46,.tup []),(47,.tup []),(48,.tup []),(49,.tup []),(50,.tup []),(51,.tup []),(52,.tup []),(53,.tup []),(54,.tup []),(55,.tup []),(56,.tup []),(57,.tup []),(58,.tup [])]) (by kernel_rfl) (fun c1 g1 g2 g3 => hY_25 N 0 0 [] (-1) (List.replicate k_3 0) _ hs_27 c1 g1 g2 g3) ?_
 rintro v S (⟨b_17,b_18,w_19,rfl,rfl,rfl⟩)
 replace h : K_84 b_17 b_18 w_19 = some r:=h
 subst hK_85
 refine rn 0 [5] (mkS 15 [(5,.ptr 2 0)]) ⟨[[.sl (table_1.map (SV AV.bool)) none],[i6 designs_2],[.sl (b_17.map (AV.int .i64)) none],[i6 b_18],(flat (w_19.map (AV.int .i64))),[.ms 4 k_3 1],[.fn 81 [] [.ptr 1 0,.ptr 3 0,.ptr 5 0,.ptr 2 0,.ptr 0 0,.ptr 6 0]]],[]⟩ ?_
 refine ExO.nil ?_
 refine Ex.seq (rg 2 [4] (mkS 15 [(4,.sl (b_17.map (AV.int .i64)) none)]) ⟨[[.sl (table_1.map (SV AV.bool)) none],[i6 designs_2],[.sl (b_17.map (AV.int .i64)) none],[i6 b_18],(flat (w_19.map (AV.int .i64))),[.ms 4 k_3 1],[.fn 81 [] [.ptr 1 0,.ptr 3 0,.ptr 5 0,.ptr 2 0,.ptr 0 0,.ptr 6 0]]],[]⟩ ?_)
 refine Ex.ret ?_
 obtain rfl:=sJ h
 exact rt (.sl (b_17.map (AV.int .i64)) none)
def p_shed_Fits_1 (N : Nat) (frame_1 : T_Float) (design_2 : (List T_Load)) (a_3 : (List T_Hurdle)) : Option (Bool):=((p_shed_surelyPasses N (⟨frame_1.Length,frame_1.Width,frame_1.Front,frame_1.Rear,frame_1.Turn,frame_1.Kilos,frame_1.Middle,frame_1.High,design_2⟩ : T_Float) a_3).bind fun r_4 => some r_4)
def v_shed_Fits_1 (r : Bool) : AV:=.bool r
attribute [local simp] v_shed_Fits_1
theorem b_shed_Fits_1 (r : Bool) (n n2 m : Nat) : back n n2 m (v_shed_Fits_1 r) = some (v_shed_Fits_1 r):=by simp
theorem d_shed_Fits_1 (N : Nat) (frame_1 : T_Float) (design_2 : (List T_Load)) (a_3 : (List T_Hurdle)) (r : Bool) (h : p_shed_Fits_1 N frame_1 design_2 a_3 = some r) : Does Tryz.prog 43 [(A_Float frame_1),.sl (design_2.map A_Load) none,.ptr 0 0] [[.sl (a_3.map A_Hurdle) none]] fun v c => v = v_shed_Fits_1 r ∧ c = [[.sl (a_3.map A_Hurdle) none]]:=by
 unfold p_shed_Fits_1 at h
 refine Does.ofL comp43 _ _ rfl rfl ?_
 refine Ex.seq (rg 2 [1,2,3] (mkS 11 [(1,.sl (design_2.map A_Load) none),(2,.ptr 0 0),(3,.ptr 1 0)]) ⟨[[.sl (a_3.map A_Hurdle) none],(C_Float frame_1)],[]⟩ ?_)
 refine Ex.seq (rg 3 [2,3] (mkS 11 [(2,.ptr 0 0),(3,.ptr 1 0)]) ⟨[[.sl (a_3.map A_Hurdle) none],[i6 frame_1.Length,i6 frame_1.Width,i6 frame_1.Front,i6 frame_1.Rear,i6 frame_1.Turn,i6 frame_1.Kilos,i6 frame_1.Middle,i6 frame_1.High,.sl (design_2.map A_Load) none]],[]⟩ ?_)
 refine Ex.seq ?_
 obtain ⟨r_4,hr_4,h⟩:=bE h
 refine Ex.reg (rn 2 [8,9] (mkS 11 [(8,.agg [i6 frame_1.Length,i6 frame_1.Width,i6 frame_1.Front,i6 frame_1.Rear,i6 frame_1.Turn,i6 frame_1.Kilos,i6 frame_1.Middle,i6 frame_1.High,.sl (design_2.map A_Load) none]),(9,.sl (a_3.map A_Hurdle) none)]) ⟨[[.sl (a_3.map A_Hurdle) none],[i6 frame_1.Length,i6 frame_1.Width,i6 frame_1.Front,i6 frame_1.Rear,i6 frame_1.Turn,i6 frame_1.Kilos,i6 frame_1.Middle,i6 frame_1.High,.sl (design_2.map A_Load) none]],[]⟩ ?_)
 refine ExO.callL [] [.agg [i6 frame_1.Length,i6 frame_1.Width,i6 frame_1.Front,i6 frame_1.Rear,i6 frame_1.Turn,i6 frame_1.Kilos,i6 frame_1.Middle,i6 frame_1.High,.sl (design_2.map A_Load) none],.sl (a_3.map A_Hurdle) none] rfl rfl (a_shed_surelyPasses (⟨frame_1.Length,frame_1.Width,frame_1.Front,frame_1.Rear,frame_1.Turn,frame_1.Kilos,frame_1.Middle,frame_1.High,design_2⟩ : T_Float) a_3) rfl rfl (d_shed_surelyPasses N (⟨frame_1.Length,frame_1.Width,frame_1.Front,frame_1.Rear,frame_1.Turn,frame_1.Kilos,frame_1.Middle,frame_1.High,design_2⟩ : T_Float) a_3 r_4 hr_4) (b_shed_surelyPasses _ _ _ _) rfl ?_
 refine rn 1 [5] (mkS 11 [(5,.bool r_4)]) ⟨[[.sl (a_3.map A_Hurdle) none],[i6 frame_1.Length,i6 frame_1.Width,i6 frame_1.Front,i6 frame_1.Rear,i6 frame_1.Turn,i6 frame_1.Kilos,i6 frame_1.Middle,i6 frame_1.High,.sl (design_2.map A_Load) none]],[]⟩ ?_
 refine ExO.nil ?_
 refine Ex.ret ?_
 obtain rfl:=sJ h
 exact rt (.bool r_4)
def p_shed_compared_Float_Load_shed_Fits_1 (N : Nat) (list_1 : (List T_Float)) (others_2 : (List (List T_Load))) (a_3 : (List T_Hurdle)) : Option ((List (List Bool))):=(letJ (fun (table_4 : List (List Bool)) => some table_4) (fun k_5 => (loop2 (fun rec_10 (table_8 : List (List Bool)) (y_9 : Int) => (bif (decide (y_9 < ((list_1.length : Nat) : Int))) then ((getI list_1 y_9).bind fun x_14 => (letJ (fun (row_15 : List Bool) => ((pushI table_8 ([row_15] : List (List Bool))).bind fun l_28 => (rec_10 l_28 (IntKind.i64.wrap (y_9 + 1))))) (fun k_16 => (loop2 (fun rec_21 (row_19 : List Bool) (y_20 : Int) => (bif (decide (y_20 < ((others_2.length : Nat) : Int))) then ((getI others_2 y_20).bind fun x_25 => ((p_shed_Fits_1 N x_14 x_25 a_3).bind fun r_26 => ((pushI row_19 ([r_26] : List Bool)).bind fun l_27 => (rec_21 l_27 (IntKind.i64.wrap (y_20 + 1)))))) else (k_16 row_19))) N [] 0)))) else (k_5 table_8))) N [] 0)))
def v_shed_compared_Float_Load_shed_Fits_1 (r : (List (List Bool))) : AV:=.sl (r.map (SV AV.bool)) none
attribute [local simp] v_shed_compared_Float_Load_shed_Fits_1
theorem b_shed_compared_Float_Load_shed_Fits_1 (r : (List (List Bool))) (n n2 m : Nat) : back n n2 m (v_shed_compared_Float_Load_shed_Fits_1 r) = some (v_shed_compared_Float_Load_shed_Fits_1 r):=by simp
theorem d_shed_compared_Float_Load_shed_Fits_1 (N : Nat) (list_1 : (List T_Float)) (others_2 : (List (List T_Load))) (a_3 : (List T_Hurdle)) (r : (List (List Bool))) (h : p_shed_compared_Float_Load_shed_Fits_1 N list_1 others_2 a_3 = some r) : Does Tryz.prog 42 [.sl (list_1.map A_Float) none,.sl (others_2.map (SV A_Load)) none,.fn 43 [] [.ptr 0 0]] [[.sl (a_3.map A_Hurdle) none]] fun v c => v = v_shed_compared_Float_Load_shed_Fits_1 r ∧ c = [[.sl (a_3.map A_Hurdle) none]]:=by
 unfold p_shed_compared_Float_Load_shed_Fits_1 at h
 refine Does.ofL comp42 _ _ rfl rfl ?_
 refine Ex.seq (rg 1 [0,1,2] (mkS 39 [(0,.sl (list_1.map A_Float) none),(1,.sl (others_2.map (SV A_Load)) none),(2,.fn 43 [] [.ptr 0 0])]) ⟨[[.sl (a_3.map A_Hurdle) none]],[]⟩ ?_)
 refine Ex.seq (rg 1 [0,1,2,7] (mkS 39 [(0,.sl (list_1.map A_Float) none),(1,.sl (others_2.map (SV A_Load)) none),(2,.fn 43 [] [.ptr 0 0]),(7,.nils)]) ⟨[[.sl (a_3.map A_Hurdle) none]],[]⟩ ?_)
 refine Ex.seq (Ex.seq ?_)
 refine regH 3 [(1,.eq (i6 ((list_1.length : Nat) : Int)))] [1,2,7,13,14,15] [AV.int .i64 (((list_1.map A_Float).length : Nat) : Int) = AV.int .i64 ((list_1.length : Nat) : Int)] (mkS 39 [(1,.sl (others_2.map (SV A_Load)) none),(2,.fn 43 [] [.ptr 0 0]),(7,.nils),(13,.sl (list_1.map A_Float) none),(14,i6 ((list_1.length : Nat) : Int)),(15,i6 0)]) (⟨[[.sl (a_3.map A_Hurdle) none]],[]⟩) (by kernel_rfl) ⟨lenM _ _,trivial⟩ rfl ?_
 obtain ⟨K_6,hK_7,h⟩:=letE h
 refine Ex.blockJ (fun a S => ∃ (table_4 : List (List Bool)),K_6 table_4 = some r ∧ a = mkS 39 [(7,.sl (table_4.map (SV AV.bool)) (some 0))] ∧ S = ⟨[[.sl (a_3.map A_Hurdle) none]],[(table_4.length,1)]⟩) ?_ ?_
 ·refine Ex.forget (nilK 7 1 rfl) ?_
  refine Ex.castA (a2:=mkS 39 [(1,.sl (others_2.map (SV A_Load)) none),(2,.fn 43 [] [.ptr 0 0]),(7,.sl (([] : List (List Bool)).map (SV AV.bool)) (some 0)),(13,.sl (list_1.map A_Float) none),(14,i6 ((list_1.length : Nat) : Int)),(15,i6 0)]) (S2:=⟨[[.sl (a_3.map A_Hurdle) none]],[(0,1)]⟩) (by kernel_rfl) (by kernel_rfl) ?_
  obtain ⟨B_11,hB_12,h⟩:=loop2I h
  refine Ex.loopF (fun k a S => ∃ (table_8 : List (List Bool)),∃ (y_9 : Int),loop2 B_11 k table_8 y_9 = some r ∧ a = mkS 39 [(1,.sl (others_2.map (SV A_Load)) none),(2,.fn 43 [] [.ptr 0 0]),(7,.sl (table_8.map (SV AV.bool)) (some 0)),(13,.sl (list_1.map A_Float) none),(14,i6 ((list_1.length : Nat) : Int)),(15,i6 y_9)] ∧ S = ⟨[[.sl (a_3.map A_Hurdle) none]],[(table_8.length,1)]⟩) N ⟨_,_,Forgets.refl _ _ _,[],0,h,rfl,rfl⟩ ?_
  rintro k a S ⟨table_8,y_9,h,rfl,rfl⟩
  cases k with
  | zero => exact (loop2Z h).elim
  | succ k =>
   replace h:=loop2S h hB_12
   refine Ex.seq (rg 1 [1,2,7,13,14,15,16] (mkS 39 [(1,.sl (others_2.map (SV A_Load)) none),(2,.fn 43 [] [.ptr 0 0]),(7,.sl (table_8.map (SV AV.bool)) (some 0)),(13,.sl (list_1.map A_Float) none),(14,i6 ((list_1.length : Nat) : Int)),(15,i6 y_9),(16,.bool (decide (y_9 < ((list_1.length : Nat) : Int))))]) ⟨[[.sl (a_3.map A_Hurdle) none]],[(table_8.length,1)]⟩ ?_)
   refine Ex.seq ?_
   rcases condI h with ⟨hc_13,h⟩ | ⟨hc_13,h⟩
   ·refine Ex.condT _ rfl hc_13 ?_
    refine Ex.skip ?_
    refine Ex.seq ?_
    refine Ex.blockK ?_
    refine Ex.seq ?_
    obtain ⟨x_14,hx_14,h⟩:=bE h
    refine regH 4 [(0,.rop (C_Float x_14))] [1,2,7,9,13,14,15] [LGet (list_1.map A_Float) y_9 9 (C_Float x_14)] (mkS 39 [(1,.sl (others_2.map (SV A_Load)) none),(2,.fn 43 [] [.ptr 0 0]),(7,.sl (table_8.map (SV AV.bool)) (some 0)),(9,.ptr 1 0),(13,.sl (list_1.map A_Float) none),(14,i6 ((list_1.length : Nat) : Int)),(15,i6 y_9)]) (⟨[[.sl (a_3.map A_Hurdle) none],(C_Float x_14)],[(table_8.length,1)]⟩) (by kernel_rfl) ⟨LGet.of hx_14 rfl,trivial⟩ rfl ?_
    refine Ex.seq (rg 1 [1,2,7,9,10,13,14,15] (mkS 39 [(1,.sl (others_2.map (SV A_Load)) none),(2,.fn 43 [] [.ptr 0 0]),(7,.sl (table_8.map (SV AV.bool)) (some 0)),(9,.ptr 1 0),(10,.nils),(13,.sl (list_1.map A_Float) none),(14,i6 ((list_1.length : Nat) : Int)),(15,i6 y_9)]) ⟨[[.sl (a_3.map A_Hurdle) none],(C_Float x_14)],[(table_8.length,1)]⟩ ?_)
    refine Ex.seq (Ex.seq ?_)
    refine regH 3 [(1,.eq (i6 ((others_2.length : Nat) : Int)))] [1,2,7,9,10,13,14,15,19,20,21] [AV.int .i64 (((others_2.map (SV A_Load)).length : Nat) : Int) = AV.int .i64 ((others_2.length : Nat) : Int)] (mkS 39 [(1,.sl (others_2.map (SV A_Load)) none),(2,.fn 43 [] [.ptr 0 0]),(7,.sl (table_8.map (SV AV.bool)) (some 0)),(9,.ptr 1 0),(10,.nils),(13,.sl (list_1.map A_Float) none),(14,i6 ((list_1.length : Nat) : Int)),(15,i6 y_9),(19,.sl (others_2.map (SV A_Load)) none),(20,i6 ((others_2.length : Nat) : Int)),(21,i6 0)]) (⟨[[.sl (a_3.map A_Hurdle) none],(C_Float x_14)],[(table_8.length,1)]⟩) (by kernel_rfl) ⟨lenM _ _,trivial⟩ rfl ?_
    obtain ⟨K_17,hK_18,h⟩:=letE h
    refine Ex.blockJ (fun a S => ∃ (row_15 : List Bool),K_17 row_15 = some r ∧ a = mkS 39 [(1,.sl (others_2.map (SV A_Load)) none),(2,.fn 43 [] [.ptr 0 0]),(7,.sl (table_8.map (SV AV.bool)) (some 0)),(10,.sl (row_15.map AV.bool) (some 1)),(13,.sl (list_1.map A_Float) none),(14,i6 ((list_1.length : Nat) : Int)),(15,i6 y_9)] ∧ S = ⟨[[.sl (a_3.map A_Hurdle) none]],[(table_8.length,1),(row_15.length,1)]⟩) ?_ ?_
    ·refine Ex.forget (nilK 10 1 rfl) ?_
     refine Ex.castA (a2:=mkS 39 [(1,.sl (others_2.map (SV A_Load)) none),(2,.fn 43 [] [.ptr 0 0]),(7,.sl (table_8.map (SV AV.bool)) (some 0)),(9,.ptr 1 0),(10,.sl (([] : List Bool).map AV.bool) (some 1)),(13,.sl (list_1.map A_Float) none),(14,i6 ((list_1.length : Nat) : Int)),(15,i6 y_9),(19,.sl (others_2.map (SV A_Load)) none),(20,i6 ((others_2.length : Nat) : Int)),(21,i6 0)]) (S2:=⟨[[.sl (a_3.map A_Hurdle) none],(C_Float x_14)],[(table_8.length,1),(0,1)]⟩) (by kernel_rfl) (by kernel_rfl) ?_
     obtain ⟨B_22,hB_23,h⟩:=loop2I h
     refine Ex.loopF (fun k a S => ∃ (row_19 : List Bool),∃ (y_20 : Int),loop2 B_22 k row_19 y_20 = some r ∧ a = mkS 39 [(1,.sl (others_2.map (SV A_Load)) none),(2,.fn 43 [] [.ptr 0 0]),(7,.sl (table_8.map (SV AV.bool)) (some 0)),(9,.ptr 1 0),(10,.sl (row_19.map AV.bool) (some 1)),(13,.sl (list_1.map A_Float) none),(14,i6 ((list_1.length : Nat) : Int)),(15,i6 y_9),(19,.sl (others_2.map (SV A_Load)) none),(20,i6 ((others_2.length : Nat) : Int)),(21,i6 y_20)] ∧ S = ⟨[[.sl (a_3.map A_Hurdle) none],(C_Float x_14)],[(table_8.length,1),(row_19.length,1)]⟩) N ⟨_,_,Forgets.refl _ _ _,[],0,h,rfl,rfl⟩ ?_
     rintro k a S ⟨row_19,y_20,h,rfl,rfl⟩
     cases k with
     | zero => exact (loop2Z h).elim
     | succ k =>
      replace h:=loop2S h hB_23
      refine Ex.seq (rg 1 [1,2,7,9,10,13,14,15,19,20,21,22] (mkS 39 [(1,.sl (others_2.map (SV A_Load)) none),(2,.fn 43 [] [.ptr 0 0]),(7,.sl (table_8.map (SV AV.bool)) (some 0)),(9,.ptr 1 0),(10,.sl (row_19.map AV.bool) (some 1)),(13,.sl (list_1.map A_Float) none),(14,i6 ((list_1.length : Nat) : Int)),(15,i6 y_9),(19,.sl (others_2.map (SV A_Load)) none),(20,i6 ((others_2.length : Nat) : Int)),(21,i6 y_20),(22,.bool (decide (y_20 < ((others_2.length : Nat) : Int))))]) ⟨[[.sl (a_3.map A_Hurdle) none],(C_Float x_14)],[(table_8.length,1),(row_19.length,1)]⟩ ?_)
      refine Ex.seq ?_
      rcases condI h with ⟨hc_24,h⟩ | ⟨hc_24,h⟩
      ·refine Ex.condT _ rfl hc_24 ?_
       refine Ex.skip ?_
       refine Ex.seq ?_
       refine Ex.blockK ?_
       refine Ex.seq ?_
       obtain ⟨x_25,hx_25,h⟩:=bE h
       refine regH 3 [(0,.rop [.sl (x_25.map A_Load) none])] [1,2,7,9,10,12,13,14,15,19,20,21] [LGet (others_2.map (SV A_Load)) y_20 1 [.sl (x_25.map A_Load) none]] (mkS 39 [(1,.sl (others_2.map (SV A_Load)) none),(2,.fn 43 [] [.ptr 0 0]),(7,.sl (table_8.map (SV AV.bool)) (some 0)),(9,.ptr 1 0),(10,.sl (row_19.map AV.bool) (some 1)),(12,.sl (x_25.map A_Load) none),(13,.sl (list_1.map A_Float) none),(14,i6 ((list_1.length : Nat) : Int)),(15,i6 y_9),(19,.sl (others_2.map (SV A_Load)) none),(20,i6 ((others_2.length : Nat) : Int)),(21,i6 y_20)]) (⟨[[.sl (a_3.map A_Hurdle) none],(C_Float x_14)],[(table_8.length,1),(row_19.length,1)]⟩) (by kernel_rfl) ⟨LGet.of hx_25 rfl,trivial⟩ rfl ?_
       obtain ⟨r_26,hr_26,h⟩:=bE h
       refine Ex.reg (rn 4 [1,2,7,9,13,14,15,19,20,21,25,26,27,28] (mkS 39 [(1,.sl (others_2.map (SV A_Load)) none),(2,.fn 43 [] [.ptr 0 0]),(7,.sl (table_8.map (SV AV.bool)) (some 0)),(9,.ptr 1 0),(13,.sl (list_1.map A_Float) none),(14,i6 ((list_1.length : Nat) : Int)),(15,i6 y_9),(19,.sl (others_2.map (SV A_Load)) none),(20,i6 ((others_2.length : Nat) : Int)),(21,i6 y_20),(25,.sl (row_19.map AV.bool) (some 1)),(26,.fn 43 [] [.ptr 0 0]),(27,(A_Float x_14)),(28,.sl (x_25.map A_Load) none)]) ⟨[[.sl (a_3.map A_Hurdle) none],(C_Float x_14)],[(table_8.length,1),(row_19.length,1)]⟩ ?_)
       refine ExO.callL [0] [(A_Float x_14),.sl (x_25.map A_Load) none,.ptr 0 0] rfl rfl (by simp; try rfl) rfl (by simp) (d_shed_Fits_1 N x_14 x_25 a_3 r_26 hr_26) (b_shed_Fits_1 _ _ _ _) (by simp) ?_
       obtain ⟨l_27,hl_27,h⟩:=bE h
       refine runH 3 [(1,.app (l_27.map AV.bool) l_27.length)] [1,2,7,9,10,13,14,15,19,20,21] [LApp row_19.length (row_19.map AV.bool) (([r_26] : List Bool).map AV.bool) 1 (l_27.map AV.bool) l_27.length] (mkS 39 [(1,.sl (others_2.map (SV A_Load)) none),(2,.fn 43 [] [.ptr 0 0]),(7,.sl (table_8.map (SV AV.bool)) (some 0)),(9,.ptr 1 0),(10,.sl (l_27.map AV.bool) (some 1)),(13,.sl (list_1.map A_Float) none),(14,i6 ((list_1.length : Nat) : Int)),(15,i6 y_9),(19,.sl (others_2.map (SV A_Load)) none),(20,i6 ((others_2.length : Nat) : Int)),(21,i6 y_20)]) (⟨[[.sl (a_3.map A_Hurdle) none],(C_Float x_14)],[(table_8.length,1),(l_27.length,1),(1,1)]⟩) (by kernel_rfl) ⟨LApp.of hl_27 (fun _ => rfl),trivial⟩ ?_
       refine ExO.nil ?_
       refine rg 2 [1,2,7,9,10,13,14,15,19,20,21] (mkS 39 [(1,.sl (others_2.map (SV A_Load)) none),(2,.fn 43 [] [.ptr 0 0]),(7,.sl (table_8.map (SV AV.bool)) (some 0)),(9,.ptr 1 0),(10,.sl (l_27.map AV.bool) (some 1)),(13,.sl (list_1.map A_Float) none),(14,i6 ((list_1.length : Nat) : Int)),(15,i6 y_9),(19,.sl (others_2.map (SV A_Load)) none),(20,i6 ((others_2.length : Nat) : Int)),(21,i6 (IntKind.i64.wrap (y_20 + 1)))]) ⟨[[.sl (a_3.map A_Hurdle) none],(C_Float x_14)],[(table_8.length,1),(l_27.length,1),(1,1)]⟩ ?_
       dsimp only
       exact ⟨_,_,forgetA (m:=39) 2 [0,1] [(1,.sl (others_2.map (SV A_Load)) none),(2,.fn 43 [] [.ptr 0 0]),(7,.sl (table_8.map (SV AV.bool)) (some 0)),(9,.ptr 1 0),(10,.sl (l_27.map AV.bool) (some 1)),(13,.sl (list_1.map A_Float) none),(14,i6 ((list_1.length : Nat) : Int)),(15,i6 y_9),(19,.sl (others_2.map (SV A_Load)) none),(20,i6 ((others_2.length : Nat) : Int)),(21,i6 (IntKind.i64.wrap (y_20 + 1)))] [[.sl (a_3.map A_Hurdle) none],(C_Float x_14)] [(table_8.length,1),(l_27.length,1)] (by simp [setAll]) (by simp) ⟨(reN (cleanM (fun _ => (by simp only [SV,AV.clean]; exact (KL_Load _))) _)),(by show re 2 [0,1] (.fn 43 [] [.ptr 0 0]) = some (.fn 43 [] [.ptr 0 0]); simp [re,re1,AV.clean,List.idxOf?,List.findIdx?,List.findIdx?.go,cleanL,cleanI,cleanBo,cleanSt,cleanII,KL_bk_Drum,KL_Worker,KL_Job,KL_Shop,KL_Shift,KL_shed_hand,KL_V7_Shift,KL_V7_bool,KL_shed_draft,KL_shed_planner,KL_Hurdle,KL_Span,KL_Load,KL_Float,A_bk_Drum,C_bk_Drum,A_Worker,C_Worker,A_Job,C_Job,A_Shop,C_Shop,A_Shift,C_Shift,A_shed_hand,C_shed_hand,A_V7_Shift,C_V7_Shift,A_V7_bool,C_V7_bool,A_shed_draft,C_shed_draft,A_shed_planner,C_shed_planner,A_Hurdle,C_Hurdle,A_Span,C_Span,A_Load,C_Load,A_Float,C_Float]),(reT (cleanM (fun _ => (by simp only [SV,AV.clean]; exact (cleanBo _))) _) rfl),rfl,(reT (cleanBo _) rfl),(reN (KL_Float _)),rfl,rfl,(reN (cleanM (fun _ => (by simp only [SV,AV.clean]; exact (KL_Load _))) _)),rfl,rfl,trivial⟩ (by simp) rfl (by decide),k,Nat.lt_succ_self k,l_27,(IntKind.i64.wrap (y_20 + 1)),h,rfl,rfl⟩
      ·refine Ex.condF _ rfl hc_24 ?_
       refine Ex.exit ?_
       (try simp only [reduceCtorEq,AEx.ex.injEq,Nat.reduceEqDiff,if_true,if_false])
       exact ⟨_,_,forgetA (m:=39) 1 [0,1] [(1,.sl (others_2.map (SV A_Load)) none),(2,.fn 43 [] [.ptr 0 0]),(7,.sl (table_8.map (SV AV.bool)) (some 0)),(10,.sl (row_19.map AV.bool) (some 1)),(13,.sl (list_1.map A_Float) none),(14,i6 ((list_1.length : Nat) : Int)),(15,i6 y_9)] [[.sl (a_3.map A_Hurdle) none]] [(table_8.length,1),(row_19.length,1)] (by simp [setAll]) (by simp) ⟨(reN (cleanM (fun _ => (by simp only [SV,AV.clean]; exact (KL_Load _))) _)),(by show re 1 [0,1] (.fn 43 [] [.ptr 0 0]) = some (.fn 43 [] [.ptr 0 0]); simp [re,re1,AV.clean,List.idxOf?,List.findIdx?,List.findIdx?.go,cleanL,cleanI,cleanBo,cleanSt,cleanII,KL_bk_Drum,KL_Worker,KL_Job,KL_Shop,KL_Shift,KL_shed_hand,KL_V7_Shift,KL_V7_bool,KL_shed_draft,KL_shed_planner,KL_Hurdle,KL_Span,KL_Load,KL_Float,A_bk_Drum,C_bk_Drum,A_Worker,C_Worker,A_Job,C_Job,A_Shop,C_Shop,A_Shift,C_Shift,A_shed_hand,C_shed_hand,A_V7_Shift,C_V7_Shift,A_V7_bool,C_V7_bool,A_shed_draft,C_shed_draft,A_shed_planner,C_shed_planner,A_Hurdle,C_Hurdle,A_Span,C_Span,A_Load,C_Load,A_Float,C_Float]),(reT (cleanM (fun _ => (by simp only [SV,AV.clean]; exact (cleanBo _))) _) rfl),(reT (cleanBo _) rfl),(reN (KL_Float _)),rfl,rfl,trivial⟩ (by simp) rfl (by decide),row_19,h,rfl,rfl⟩
    ·rintro a S ⟨row_15,h,rfl,rfl⟩
     subst hK_18
     refine Ex.postF ?_
     obtain ⟨l_28,hl_28,h⟩:=bE h
     refine regH 5 [(3,.app (l_28.map (SV AV.bool)) l_28.length)] [1,2,7,13,14,15] [LApp table_8.length (table_8.map (SV AV.bool)) (([row_15] : List (List Bool)).map (SV AV.bool)) 1 (l_28.map (SV AV.bool)) l_28.length] (mkS 39 [(1,.sl (others_2.map (SV A_Load)) none),(2,.fn 43 [] [.ptr 0 0]),(7,.sl (l_28.map (SV AV.bool)) (some 0)),(13,.sl (list_1.map A_Float) none),(14,i6 ((list_1.length : Nat) : Int)),(15,i6 y_9)]) (⟨[[.sl (a_3.map A_Hurdle) none]],[(l_28.length,1),(row_15.length,1),(1,1)]⟩) (by kernel_rfl) ⟨LApp.of hl_28 (fun _ => rfl),trivial⟩ rfl ?_
     refine ⟨mkS 39 [(1,.sl (others_2.map (SV A_Load)) none),(2,.fn 43 [] [.ptr 0 0]),(7,.sl (l_28.map (SV AV.bool)) (some 0)),(13,.sl (list_1.map A_Float) none),(14,i6 ((list_1.length : Nat) : Int)),(15,i6 y_9)],⟨[[.sl (a_3.map A_Hurdle) none]],[(l_28.length,1),(row_15.length,1),(1,1)]⟩,Forgets.refl _ _ _,?_⟩
     refine rg 2 [1,2,7,13,14,15] (mkS 39 [(1,.sl (others_2.map (SV A_Load)) none),(2,.fn 43 [] [.ptr 0 0]),(7,.sl (l_28.map (SV AV.bool)) (some 0)),(13,.sl (list_1.map A_Float) none),(14,i6 ((list_1.length : Nat) : Int)),(15,i6 (IntKind.i64.wrap (y_9 + 1)))]) ⟨[[.sl (a_3.map A_Hurdle) none]],[(l_28.length,1),(row_15.length,1),(1,1)]⟩ ?_
     dsimp only
     exact ⟨_,_,forgetA (m:=39) 1 [0] [(1,.sl (others_2.map (SV A_Load)) none),(2,.fn 43 [] [.ptr 0 0]),(7,.sl (l_28.map (SV AV.bool)) (some 0)),(13,.sl (list_1.map A_Float) none),(14,i6 ((list_1.length : Nat) : Int)),(15,i6 (IntKind.i64.wrap (y_9 + 1)))] [[.sl (a_3.map A_Hurdle) none]] [(l_28.length,1)] (by simp [setAll]) (by simp) ⟨(reN (cleanM (fun _ => (by simp only [SV,AV.clean]; exact (KL_Load _))) _)),(by show re 1 [0] (.fn 43 [] [.ptr 0 0]) = some (.fn 43 [] [.ptr 0 0]); simp [re,re1,AV.clean,List.idxOf?,List.findIdx?,List.findIdx?.go,cleanL,cleanI,cleanBo,cleanSt,cleanII,KL_bk_Drum,KL_Worker,KL_Job,KL_Shop,KL_Shift,KL_shed_hand,KL_V7_Shift,KL_V7_bool,KL_shed_draft,KL_shed_planner,KL_Hurdle,KL_Span,KL_Load,KL_Float,A_bk_Drum,C_bk_Drum,A_Worker,C_Worker,A_Job,C_Job,A_Shop,C_Shop,A_Shift,C_Shift,A_shed_hand,C_shed_hand,A_V7_Shift,C_V7_Shift,A_V7_bool,C_V7_bool,A_shed_draft,C_shed_draft,A_shed_planner,C_shed_planner,A_Hurdle,C_Hurdle,A_Span,C_Span,A_Load,C_Load,A_Float,C_Float]),(reT (cleanM (fun _ => (by simp only [SV,AV.clean]; exact (cleanBo _))) _) rfl),(reN (KL_Float _)),rfl,rfl,trivial⟩ (by simp) rfl (by decide),k,Nat.lt_succ_self k,l_28,(IntKind.i64.wrap (y_9 + 1)),h,rfl,rfl⟩
   ·refine Ex.condF _ rfl hc_13 ?_
    refine Ex.exit ?_
    (try simp only [reduceCtorEq,AEx.ex.injEq,Nat.reduceEqDiff,if_true,if_false])
    exact ⟨_,_,forgetK [7],table_8,h,rfl,rfl⟩
 ·rintro a S ⟨table_4,h,rfl,rfl⟩
  subst hK_7
  refine Ex.seq (rg 2 [6] (mkS 39 [(6,.sl (table_4.map (SV AV.bool)) (some 0))]) ⟨[[.sl (a_3.map A_Hurdle) none]],[(table_4.length,1)]⟩ ?_)
  refine Ex.ret ?_
  obtain rfl:=sJ h
  exact rt (.sl (table_4.map (SV AV.bool)) (some 0))
def p_shed_Fits (N : Nat) (frames_1 : (List T_Float)) (designs_2 : (List (List T_Load))) (route_3 : (List T_Hurdle)) : Option ((List (List Bool)) × Int):=(letJ (fun (y_4 : Bool) => (bif y_4 then some ([],5) else ((p_CheckRoute N route_3).bind fun r_10 => (bif (r_10 != 0) then some ([],r_10) else ((p_shed_compared_Float_Load_shed_Fits_1 N frames_1 designs_2 route_3).bind fun r_12 => some (r_12,0)))))) (fun k_5 => (bif (decide (((frames_1.length : Nat) : Int) > 6)) then (k_5 true) else (k_5 (decide (((designs_2.length : Nat) : Int) > 6))))))
def v_shed_Fits (r : (List (List Bool)) × Int) : AV:=.tup [.sl (r.1.map (SV AV.bool)) none,i6 r.2]
attribute [local simp] v_shed_Fits
theorem a_shed_Fits (frames_1 : (List T_Float)) (designs_2 : (List (List T_Load))) (route_3 : (List T_Hurdle)) : [.sl (frames_1.map A_Float) none,.sl (designs_2.map (SV A_Load)) none,.sl (route_3.map A_Hurdle) none].mapM (ren []) = some [.sl (frames_1.map A_Float) none,.sl (designs_2.map (SV A_Load)) none,.sl (route_3.map A_Hurdle) none]:=by simp
theorem b_shed_Fits (r : (List (List Bool)) × Int) (n n2 m : Nat) : back n n2 m (v_shed_Fits r) = some (v_shed_Fits r):=by simp
theorem d_shed_Fits (N : Nat) (frames_1 : (List T_Float)) (designs_2 : (List (List T_Load))) (route_3 : (List T_Hurdle)) (r : (List (List Bool)) × Int) (h : p_shed_Fits N frames_1 designs_2 route_3 = some r) : Does Tryz.prog 12 [.sl (frames_1.map A_Float) none,.sl (designs_2.map (SV A_Load)) none,.sl (route_3.map A_Hurdle) none] [] fun v c => v = v_shed_Fits r ∧ c = []:=by
 unfold p_shed_Fits at h
 refine Does.ofL comp12 _ _ rfl rfl ?_
 refine Ex.seq (rg 3 [0,1,5] (mkS 26 [(0,.sl (frames_1.map A_Float) none),(1,.sl (designs_2.map (SV A_Load)) none),(5,.ptr 0 0)]) ⟨[[.sl (route_3.map A_Hurdle) none]],[]⟩ ?_)
 refine Ex.seq ?_
 obtain ⟨K_6,hK_7,h⟩:=letE h
 refine Ex.seqJ (fun a S => ∃ (y_4 : Bool),K_6 y_4 = some r ∧ a = mkS 26 [(0,.sl (frames_1.map A_Float) none),(1,.sl (designs_2.map (SV A_Load)) none),(5,.ptr 0 0),(16,.bool y_4)] ∧ S = ⟨[[.sl (route_3.map A_Hurdle) none]],[]⟩) ?_ ?_
 ·rcases condI h with ⟨hc_8,h⟩ | ⟨hc_8,h⟩
  ·refine regH 8 [(1, .eq (i6 ((frames_1.length : Nat) : Int))), (3, .eq (.bool true))] [0, 1, 5, 16] [AV.int .i64 (((frames_1.map A_Float).length : Nat) : Int) = AV.int .i64 ((frames_1.length : Nat) : Int), AV.bool (decide (((frames_1.length : Nat) : Int) > 6)) = AV.bool true] (mkS 26 [(0, .sl (frames_1.map A_Float) none), (1, .sl (designs_2.map (SV A_Load)) none), (5, .ptr 0 0), (16, .bool true)]) (⟨[[.sl (route_3.map A_Hurdle) none]], []⟩) (by kernel_rfl) ⟨lenM _ _, congrArg AV.bool hc_8, trivial⟩ rfl ?_
   (try simp only [reduceCtorEq,AEx.ex.injEq,Nat.reduceEqDiff,if_true,if_false])
   exact ⟨_,_,Forgets.refl _ _ _,true,h,rfl,rfl⟩
  ·refine regH 8 [(1, .eq (i6 ((frames_1.length : Nat) : Int))), (3, .eq (.bool false)), (5, .eq (i6 ((designs_2.length : Nat) : Int)))] [0, 1, 5, 16] [AV.int .i64 (((frames_1.map A_Float).length : Nat) : Int) = AV.int .i64 ((frames_1.length : Nat) : Int), AV.bool (decide (((frames_1.length : Nat) : Int) > 6)) = AV.bool false, AV.int .i64 (((designs_2.map (SV A_Load)).length : Nat) : Int) = AV.int .i64 ((designs_2.length : Nat) : Int)] (mkS 26 [(0, .sl (frames_1.map A_Float) none), (1, .sl (designs_2.map (SV A_Load)) none), (5, .ptr 0 0), (16, .bool (decide (((designs_2.length : Nat) : Int) > 6)))]) (⟨[[.sl (route_3.map A_Hurdle) none]], []⟩) (by kernel_rfl) ⟨lenM _ _, congrArg AV.bool hc_8, lenM _ _, trivial⟩ rfl ?_
   (try simp only [reduceCtorEq,AEx.ex.injEq,Nat.reduceEqDiff,if_true,if_false])
   exact ⟨_,_,Forgets.refl _ _ _,(decide (((designs_2.length : Nat) : Int) > 6)),h,rfl,rfl⟩
 ·rintro a S ⟨y_4,h,rfl,rfl⟩
  subst hK_7
  rcases condI h with ⟨hc_9,h⟩ | ⟨hc_9,h⟩
  ·refine Ex.condT _ rfl hc_9 ?_
   refine Ex.seq (rg 2 [6,7] (mkS 26 [(6,.nils),(7,i6 5)]) ⟨[[.sl (route_3.map A_Hurdle) none]],[]⟩ ?_)
   refine Ex.ret ?_
   obtain rfl:=sJ h
   exact rt (.tup [.nils,i6 5])
  ·refine Ex.condF _ rfl hc_9 ?_
   refine Ex.skip ?_
   refine Ex.seq (Ex.seq ?_)
   obtain ⟨r_10,hr_10,h⟩:=bE h
   refine Ex.reg (rn 1 [0,1,5,17] (mkS 26 [(0,.sl (frames_1.map A_Float) none),(1,.sl (designs_2.map (SV A_Load)) none),(5,.ptr 0 0),(17,.sl (route_3.map A_Hurdle) none)]) ⟨[[.sl (route_3.map A_Hurdle) none]],[]⟩ ?_)
   refine ExO.callL [] [.sl (route_3.map A_Hurdle) none] rfl rfl (a_CheckRoute route_3) rfl rfl (d_CheckRoute N route_3 r_10 hr_10) (b_CheckRoute _ _ _ _) rfl ?_
   refine rn 1 [0,1,5,8] (mkS 26 [(0,.sl (frames_1.map A_Float) none),(1,.sl (designs_2.map (SV A_Load)) none),(5,.ptr 0 0),(8,i6 r_10)]) ⟨[[.sl (route_3.map A_Hurdle) none]],[]⟩ ?_
   refine ExO.nil ?_
   refine Ex.seq (rg 2 [0,1,5,8,20] (mkS 26 [(0,.sl (frames_1.map A_Float) none),(1,.sl (designs_2.map (SV A_Load)) none),(5,.ptr 0 0),(8,i6 r_10),(20,.bool (r_10 != 0))]) ⟨[[.sl (route_3.map A_Hurdle) none]],[]⟩ ?_)
   rcases condI h with ⟨hc_11,h⟩ | ⟨hc_11,h⟩
   ·refine Ex.condT _ rfl hc_11 ?_
    refine Ex.seq (rg 3 [6,7] (mkS 26 [(6,.nils),(7,i6 r_10)]) ⟨[[.sl (route_3.map A_Hurdle) none]],[]⟩ ?_)
    refine Ex.ret ?_
    obtain rfl:=sJ h
    exact rt (.tup [.nils,i6 r_10])
   ·refine Ex.condF _ rfl hc_11 ?_
    refine Ex.skip ?_
    refine Ex.seq ?_
    obtain ⟨r_12,hr_12,h⟩:=bE h
    refine Ex.reg (rn 3 [22,23,24] (mkS 26 [(22,.sl (frames_1.map A_Float) none),(23,.sl (designs_2.map (SV A_Load)) none),(24,.fn 43 [] [.ptr 0 0])]) ⟨[[.sl (route_3.map A_Hurdle) none]],[]⟩ ?_)
    refine ExO.callL [0] [.sl (frames_1.map A_Float) none,.sl (designs_2.map (SV A_Load)) none,.fn 43 [] [.ptr 0 0]] rfl rfl (by simp; try rfl) rfl (by simp) (d_shed_compared_Float_Load_shed_Fits_1 N frames_1 designs_2 route_3 r_12 hr_12) (b_shed_compared_Float_Load_shed_Fits_1 _ _ _ _) (by simp) ?_
    refine rn 2 [6,7] (mkS 26 [(6,.sl (r_12.map (SV AV.bool)) none),(7,i6 0)]) ⟨[[.sl (route_3.map A_Hurdle) none]],[]⟩ ?_
    refine ExO.nil ?_
    refine Ex.ret ?_
    obtain rfl:=sJ h
    exact rt (.tup [.sl (r_12.map (SV AV.bool)) none,i6 0])
def p_shed_Match (N : Nat) (frames_1 : (List T_Float)) (designs_2 : (List (List T_Load))) (route_3 : (List T_Hurdle)) : Option ((List Int) × Int):=((p_shed_Fits N frames_1 designs_2 route_3).bind fun r_4 => (bif (r_4.2 != 0) then some ([],r_4.2) else ((p_shed_bestMatch N r_4.1 ((designs_2.length : Nat) : Int)).bind fun r_6 => some (r_6,0))))
def v_shed_Match (r : (List Int) × Int) : AV:=.tup [.sl (r.1.map (AV.int .i64)) none,i6 r.2]
attribute [local simp] v_shed_Match
theorem a_shed_Match (frames_1 : (List T_Float)) (designs_2 : (List (List T_Load))) (route_3 : (List T_Hurdle)) : [.sl (frames_1.map A_Float) none,.sl (designs_2.map (SV A_Load)) none,.sl (route_3.map A_Hurdle) none].mapM (ren []) = some [.sl (frames_1.map A_Float) none,.sl (designs_2.map (SV A_Load)) none,.sl (route_3.map A_Hurdle) none]:=by simp
theorem b_shed_Match (r : (List Int) × Int) (n n2 m : Nat) : back n n2 m (v_shed_Match r) = some (v_shed_Match r):=by simp
theorem d_shed_Match (N : Nat) (frames_1 : (List T_Float)) (designs_2 : (List (List T_Load))) (route_3 : (List T_Hurdle)) (r : (List Int) × Int) (h : p_shed_Match N frames_1 designs_2 route_3 = some r) : Does Tryz.prog 20 [.sl (frames_1.map A_Float) none,.sl (designs_2.map (SV A_Load)) none,.sl (route_3.map A_Hurdle) none] [] fun v c => v = v_shed_Match r ∧ c = []:=by
 unfold p_shed_Match at h
 refine Does.ofL comp20 _ _ rfl rfl ?_
 refine Ex.seq (rg 2 [0,1,2] (mkS 24 [(0,.sl (frames_1.map A_Float) none),(1,.sl (designs_2.map (SV A_Load)) none),(2,.sl (route_3.map A_Hurdle) none)]) ⟨[],[]⟩ ?_)
 refine Ex.seq ?_
 obtain ⟨r_4,hr_4,h⟩:=bE h
 refine Ex.reg (rn 3 [1,11,12,13] (mkS 24 [(1,.sl (designs_2.map (SV A_Load)) none),(11,.sl (frames_1.map A_Float) none),(12,.sl (designs_2.map (SV A_Load)) none),(13,.sl (route_3.map A_Hurdle) none)]) ⟨[],[]⟩ ?_)
 refine ExO.callL [] [.sl (frames_1.map A_Float) none,.sl (designs_2.map (SV A_Load)) none,.sl (route_3.map A_Hurdle) none] rfl rfl (a_shed_Fits frames_1 designs_2 route_3) rfl rfl (d_shed_Fits N frames_1 designs_2 route_3 r_4 hr_4) (b_shed_Fits _ _ _ _) rfl ?_
 refine rn 5 [1,8,9] (mkS 24 [(1,.sl (designs_2.map (SV A_Load)) none),(8,.sl (r_4.1.map (SV AV.bool)) none),(9,i6 r_4.2)]) ⟨[],[]⟩ ?_
 refine ExO.nil ?_
 refine Ex.seq (Ex.seq ?_)
 refine rg 2 [1,8,9,18] (mkS 24 [(1,.sl (designs_2.map (SV A_Load)) none),(8,.sl (r_4.1.map (SV AV.bool)) none),(9,i6 r_4.2),(18,.bool (r_4.2 != 0))]) ⟨[],[]⟩ ?_
 rcases condI h with ⟨hc_5,h⟩ | ⟨hc_5,h⟩
 ·refine Ex.condT _ rfl hc_5 ?_
  refine Ex.seq (rg 3 [6,7] (mkS 24 [(6,.nils),(7,i6 r_4.2)]) ⟨[],[]⟩ ?_)
  refine Ex.ret ?_
  obtain rfl:=sJ h
  exact rt (.tup [.nils,i6 r_4.2])
 ·refine Ex.condF _ rfl hc_5 ?_
  refine Ex.skip ?_
  refine Ex.seq ?_
  obtain ⟨r_6,hr_6,h⟩:=bE h
  refine Ex.reg ?_
  refine runH 3 [(2,.eq (i6 ((designs_2.length : Nat) : Int)))] [20,22] [AV.int .i64 (((designs_2.map (SV A_Load)).length : Nat) : Int) = AV.int .i64 ((designs_2.length : Nat) : Int)] (mkS 24 [(20,.sl (r_4.1.map (SV AV.bool)) none),(22,i6 ((designs_2.length : Nat) : Int))]) (⟨[],[]⟩) (by kernel_rfl) ⟨lenM _ _,trivial⟩ ?_
  refine ExO.callL [] [.sl (r_4.1.map (SV AV.bool)) none,i6 ((designs_2.length : Nat) : Int)] rfl rfl (a_shed_bestMatch r_4.1 ((designs_2.length : Nat) : Int)) rfl rfl (d_shed_bestMatch N r_4.1 ((designs_2.length : Nat) : Int) r_6 hr_6) (b_shed_bestMatch _ _ _ _) rfl ?_
  refine rn 2 [6,7] (mkS 24 [(6,.sl (r_6.map (AV.int .i64)) none),(7,i6 0)]) ⟨[],[]⟩ ?_
  refine ExO.nil ?_
  refine Ex.ret ?_
  obtain rfl:=sJ h
  exact rt (.tup [.sl (r_6.map (AV.int .i64)) none,i6 0])
def p_bl8_shop (N : Nat)  : Option (T_Shop):=some (⟨[(⟨true,false,false⟩ : T_Worker),(⟨false,true,true⟩ : T_Worker),(⟨false,false,true⟩ : T_Worker)],[(⟨0,1,3⟩ : T_Job),(⟨0,3,2⟩ : T_Job),(⟨1,2,4⟩ : T_Job),(⟨1,3,2⟩ : T_Job)]⟩ : T_Shop)
def v_bl8_shop (r : T_Shop) : AV:=(A_Shop r)
attribute [local simp] v_bl8_shop
theorem a_bl8_shop  : [].mapM (ren []) = some []:=by simp
theorem b_bl8_shop (r : T_Shop) (n n2 m : Nat) : back n n2 m (v_bl8_shop r) = some (v_bl8_shop r):=by simp
theorem d_bl8_shop (N : Nat)  (r : T_Shop) (h : p_bl8_shop N  = some r) : Does Tryz.prog 56 [] [] fun v c => v = v_bl8_shop r ∧ c = []:=by
 unfold p_bl8_shop at h
 refine Does.ofL comp56 _ _ rfl rfl ?_
 refine Ex.seq (rg 1 [0] (mkS 11 [(0,.ptr 0 0)]) ⟨[[.nils,.nils]],[]⟩ ?_)
 refine Ex.seq (rg 11 [0] (mkS 11 [(0,.ptr 0 0)]) ⟨[[.sl (([(⟨true,false,false⟩ : T_Worker),(⟨false,true,true⟩ : T_Worker),(⟨false,false,true⟩ : T_Worker)] : List T_Worker).map A_Worker) (some 0),.sl (([(⟨0,1,3⟩ : T_Job),(⟨0,3,2⟩ : T_Job),(⟨1,2,4⟩ : T_Job),(⟨1,3,2⟩ : T_Job)] : List T_Job).map A_Job) (some 1)]],[(3,3),(4,3)]⟩ ?_)
 refine Ex.ret ?_
 obtain rfl:=sJ h
 exact rt (.agg [.sl (([(⟨true,false,false⟩ : T_Worker),(⟨false,true,true⟩ : T_Worker),(⟨false,false,true⟩ : T_Worker)] : List T_Worker).map A_Worker) (some 0),.sl (([(⟨0,1,3⟩ : T_Job),(⟨0,3,2⟩ : T_Job),(⟨1,2,4⟩ : T_Job),(⟨1,3,2⟩ : T_Job)] : List T_Job).map A_Job) (some 1)])
def p_bl8_plan (N : Nat) (worker_1 : Int) (day_2 : Int) : Option ((List T_Shift)):=some ([(⟨0,0⟩ : T_Shift),(⟨worker_1,day_2⟩ : T_Shift),(⟨1,0⟩ : T_Shift),(⟨1,4⟩ : T_Shift)])
def v_bl8_plan (r : (List T_Shift)) : AV:=.sl (r.map A_Shift) none
attribute [local simp] v_bl8_plan
theorem a_bl8_plan (worker_1 : Int) (day_2 : Int) : [i6 worker_1,i6 day_2].mapM (ren []) = some [i6 worker_1,i6 day_2]:=by simp
theorem b_bl8_plan (r : (List T_Shift)) (n n2 m : Nat) : back n n2 m (v_bl8_plan r) = some (v_bl8_plan r):=by simp
theorem d_bl8_plan (N : Nat) (worker_1 : Int) (day_2 : Int) (r : (List T_Shift)) (h : p_bl8_plan N worker_1 day_2 = some r) : Does Tryz.prog 58 [i6 worker_1,i6 day_2] [] fun v c => v = v_bl8_plan r ∧ c = []:=by
 unfold p_bl8_plan at h
 refine Does.ofL comp58 _ _ rfl rfl ?_
 refine Ex.seq (rg 1 [0,1] (mkS 12 [(0,i6 worker_1),(1,i6 day_2)]) ⟨[],[]⟩ ?_)
 refine Ex.seq (rg 8 [4] (mkS 12 [(4,.sl (([(⟨0,0⟩ : T_Shift),(⟨worker_1,day_2⟩ : T_Shift),(⟨1,0⟩ : T_Shift),(⟨1,4⟩ : T_Shift)] : List T_Shift).map A_Shift) (some 0))]) ⟨[],[(4,2)]⟩ ?_)
 refine Ex.ret ?_
 obtain rfl:=sJ h
 exact rt (.sl (([(⟨0,0⟩ : T_Shift),(⟨worker_1,day_2⟩ : T_Shift),(⟨1,0⟩ : T_Shift),(⟨1,4⟩ : T_Shift)] : List T_Shift).map A_Shift) (some 0))
def p_bl8_awake (N : Nat)  : Option (Bool):=((p_bl8_frames N).bind fun r_1 => ((p_bl8_designs N).bind fun r_2 => ((p_bl8_bridge N).bind fun r_3 => ((p_shed_Match N r_1 r_2 r_3).bind fun r_4 => ((p_bl8_shop N).bind fun r_5 => ((p_shed_Best N r_5).bind fun r_6 => ((p_bl8_shop N).bind fun r_7 => ((p_shed_Bound N r_7).bind fun r_8 => (bif (r_4.2 == 0) then (bif (r_6.2.2 == 0) then (bif (r_8.2 == 0) then (bif (r_6.2.1 == 6) then (bif (r_8.1 == 6) then ((p_bk_EqInts N r_4.1 [1,0]).bind fun r_14 => (bif r_14 then ((p_bl8_plan N 2 3).bind fun r_16 => ((p_bk_EqShifts N r_6.1 r_16).bind fun r_17 => some r_17)) else some false)) else some false) else some false) else some false) else some false) else some false)))))))))
def v_bl8_awake (r : Bool) : AV:=.bool r
attribute [local simp] v_bl8_awake
theorem a_bl8_awake  : [].mapM (ren []) = some []:=by simp
theorem b_bl8_awake (r : Bool) (n n2 m : Nat) : back n n2 m (v_bl8_awake r) = some (v_bl8_awake r):=by simp
theorem d_bl8_awake (N : Nat)  (r : Bool) (h : p_bl8_awake N  = some r) : Does Tryz.prog 19 [] [] fun v c => v = v_bl8_awake r ∧ c = []:=by
 unfold p_bl8_awake at h
 refine Does.ofL comp19 _ _ rfl rfl ?_
 refine Ex.seq (rg 1 [] (mkS 54 []) ⟨[],[]⟩ ?_)
 refine Ex.seq ?_
 obtain ⟨r_1,hr_1,h⟩:=bE h
 refine Ex.reg ?_
 refine ExO.callL [] [] rfl rfl (a_bl8_frames) rfl rfl (d_bl8_frames N r_1 hr_1) (b_bl8_frames _ _ _ _) rfl ?_
 obtain ⟨r_2,hr_2,h⟩:=bE h
 refine ExO.callL [] [] rfl rfl (a_bl8_designs) rfl rfl (d_bl8_designs N r_2 hr_2) (b_bl8_designs _ _ _ _) rfl ?_
 obtain ⟨r_3,hr_3,h⟩:=bE h
 refine ExO.callL [] [] rfl rfl (a_bl8_bridge) rfl rfl (d_bl8_bridge N r_3 hr_3) (b_bl8_bridge _ _ _ _) rfl ?_
 obtain ⟨r_4,hr_4,h⟩:=bE h
 refine ExO.callL [] [.sl (r_1.map A_Float) none,.sl (r_2.map (SV A_Load)) none,.sl (r_3.map A_Hurdle) none] rfl rfl (a_shed_Match r_1 r_2 r_3) rfl rfl (d_shed_Match N r_1 r_2 r_3 r_4 hr_4) (b_shed_Match _ _ _ _) rfl ?_
 refine rn 5 [1,2] (mkS 54 [(1,.sl (r_4.1.map (AV.int .i64)) none),(2,i6 r_4.2)]) ⟨[],[]⟩ ?_
 refine ExO.nil ?_
 refine Ex.seq ?_
 obtain ⟨r_5,hr_5,h⟩:=bE h
 refine Ex.reg ?_
 refine ExO.callL [] [] rfl rfl (a_bl8_shop) rfl rfl (d_bl8_shop N r_5 hr_5) (b_bl8_shop _ _ _ _) rfl ?_
 obtain ⟨r_6,hr_6,h⟩:=bE h
 refine ExO.callL [] [(A_Shop r_5)] rfl rfl (a_shed_Best r_5) rfl rfl (d_shed_Best N r_5 r_6 hr_6) (b_shed_Best _ _ _ _) rfl ?_
 refine rn 7 [1,2,3,4,5] (mkS 54 [(1,.sl (r_4.1.map (AV.int .i64)) none),(2,i6 r_4.2),(3,.sl (r_6.1.map A_Shift) none),(4,i6 r_6.2.1),(5,i6 r_6.2.2)]) ⟨[],[]⟩ ?_
 refine ExO.nil ?_
 refine Ex.seq ?_
 obtain ⟨r_7,hr_7,h⟩:=bE h
 refine Ex.reg ?_
 refine ExO.callL [] [] rfl rfl (a_bl8_shop) rfl rfl (d_bl8_shop N r_7 hr_7) (b_bl8_shop _ _ _ _) rfl ?_
 obtain ⟨r_8,hr_8,h⟩:=bE h
 refine ExO.callL [] [(A_Shop r_7)] rfl rfl (a_shed_Bound r_7) rfl rfl (d_shed_Bound N r_7 r_8 hr_8) (b_shed_Bound _ _ _ _) rfl ?_
 refine rn 5 [1,2,3,4,5,6,7] (mkS 54 [(1,.sl (r_4.1.map (AV.int .i64)) none),(2,i6 r_4.2),(3,.sl (r_6.1.map A_Shift) none),(4,i6 r_6.2.1),(5,i6 r_6.2.2),(6,i6 r_8.1),(7,i6 r_8.2)]) ⟨[],[]⟩ ?_
 refine ExO.nil ?_
 refine Ex.seq ?_
 rcases condI h with ⟨hc_9,h⟩ | ⟨hc_9,h⟩
 ·rcases condI h with ⟨hc_10,h⟩ | ⟨hc_10,h⟩
  ·rcases condI h with ⟨hc_11,h⟩ | ⟨hc_11,h⟩
   ·rcases condI h with ⟨hc_12,h⟩ | ⟨hc_12,h⟩
    ·rcases condI h with ⟨hc_13,h⟩ | ⟨hc_13,h⟩
     ·obtain ⟨r_14,hr_14,h⟩:=bE h
      refine Ex.reg ?_
      refine runH 21 [(2,.eq (.bool true)),(6,.eq (.bool true)),(10,.eq (.bool true)),(14,.eq (.bool true)),(18,.eq (.bool true))] [3,44,45,46] [AV.bool (r_4.2 == 0) = AV.bool true,AV.bool (r_6.2.2 == 0) = AV.bool true,AV.bool (r_8.2 == 0) = AV.bool true,AV.bool (r_6.2.1 == 6) = AV.bool true,AV.bool (r_8.1 == 6) = AV.bool true] (mkS 54 [(3,.sl (r_6.1.map A_Shift) none),(44,.bool true),(45,.sl (r_4.1.map (AV.int .i64)) none),(46,.sl (([1,0] : List Int).map (AV.int .i64)) (some 0))]) (⟨[],[(2,1)]⟩) (by kernel_rfl) ⟨congrArg AV.bool hc_9,congrArg AV.bool hc_10,congrArg AV.bool hc_11,congrArg AV.bool hc_12,congrArg AV.bool hc_13,trivial⟩ ?_
      refine ExO.callL [] [.sl (r_4.1.map (AV.int .i64)) none,.sl (([1,0] : List Int).map (AV.int .i64)) (some 0)] rfl rfl (a_bk_EqInts r_4.1 [1,0]) rfl rfl (d_bk_EqInts N r_4.1 [1,0] r_14 hr_14) (b_bk_EqInts _ _ _ _) rfl ?_
      rcases condI h with ⟨hc_15,h⟩ | ⟨hc_15,h⟩
      ·obtain ⟨r_16,hr_16,h⟩:=bE h
       refine runH 3 [(1,.eq (.bool true))] [49,50] [AV.bool r_14 = AV.bool true] (mkS 54 [(49,.bool true),(50,.sl (r_6.1.map A_Shift) none)]) (⟨[],[(2,1)]⟩) (by kernel_rfl) ⟨congrArg AV.bool hc_15,trivial⟩ ?_
       refine ExO.callL [] [i6 2,i6 3] rfl rfl (a_bl8_plan 2 3) rfl rfl (d_bl8_plan N 2 3 r_16 hr_16) (b_bl8_plan _ _ _ _) rfl ?_
       obtain ⟨r_17,hr_17,h⟩:=bE h
       refine ExO.callL [] [.sl (r_6.1.map A_Shift) none,.sl (r_16.map A_Shift) none] rfl rfl (a_bk_EqShifts r_6.1 r_16) rfl rfl (d_bk_EqShifts N r_6.1 r_16 r_17 hr_17) (b_bk_EqShifts _ _ _ _) rfl ?_
       refine rn 2 [0] (mkS 54 [(0,.bool r_17)]) ⟨[],[(2,1)]⟩ ?_
       refine ExO.nil ?_
       refine Ex.ret ?_
       obtain rfl:=sJ h
       exact rt (.bool r_17)
      ·refine runH 7 [(1, .eq (.bool false))] [0] [AV.bool r_14 = AV.bool false] (mkS 54 [(0, .bool false)]) (⟨[], [(2, 1)]⟩) (by kernel_rfl) ⟨congrArg AV.bool hc_15, trivial⟩ ?_
       refine ExO.nil ?_
       refine Ex.ret ?_
       obtain rfl:=sJ h
       exact rt (.bool false)
     ·refine regH 29 [(2, .eq (.bool true)), (6, .eq (.bool true)), (10, .eq (.bool true)), (14, .eq (.bool true)), (18, .eq (.bool false))] [0] [AV.bool (r_4.2 == 0) = AV.bool true, AV.bool (r_6.2.2 == 0) = AV.bool true, AV.bool (r_8.2 == 0) = AV.bool true, AV.bool (r_6.2.1 == 6) = AV.bool true, AV.bool (r_8.1 == 6) = AV.bool false] (mkS 54 [(0, .bool false)]) (⟨[], []⟩) (by kernel_rfl) ⟨congrArg AV.bool hc_9, congrArg AV.bool hc_10, congrArg AV.bool hc_11, congrArg AV.bool hc_12, congrArg AV.bool hc_13, trivial⟩ rfl ?_
      refine Ex.ret ?_
      obtain rfl:=sJ h
      exact rt (.bool false)
    ·refine regH 29 [(2, .eq (.bool true)), (6, .eq (.bool true)), (10, .eq (.bool true)), (14, .eq (.bool false))] [0] [AV.bool (r_4.2 == 0) = AV.bool true, AV.bool (r_6.2.2 == 0) = AV.bool true, AV.bool (r_8.2 == 0) = AV.bool true, AV.bool (r_6.2.1 == 6) = AV.bool false] (mkS 54 [(0, .bool false)]) (⟨[], []⟩) (by kernel_rfl) ⟨congrArg AV.bool hc_9, congrArg AV.bool hc_10, congrArg AV.bool hc_11, congrArg AV.bool hc_12, trivial⟩ rfl ?_
     refine Ex.ret ?_
     obtain rfl:=sJ h
     exact rt (.bool false)
   ·refine regH 29 [(2, .eq (.bool true)), (6, .eq (.bool true)), (10, .eq (.bool false))] [0] [AV.bool (r_4.2 == 0) = AV.bool true, AV.bool (r_6.2.2 == 0) = AV.bool true, AV.bool (r_8.2 == 0) = AV.bool false] (mkS 54 [(0, .bool false)]) (⟨[], []⟩) (by kernel_rfl) ⟨congrArg AV.bool hc_9, congrArg AV.bool hc_10, congrArg AV.bool hc_11, trivial⟩ rfl ?_
    refine Ex.ret ?_
    obtain rfl:=sJ h
    exact rt (.bool false)
  ·refine regH 29 [(2, .eq (.bool true)), (6, .eq (.bool false))] [0] [AV.bool (r_4.2 == 0) = AV.bool true, AV.bool (r_6.2.2 == 0) = AV.bool false] (mkS 54 [(0, .bool false)]) (⟨[], []⟩) (by kernel_rfl) ⟨congrArg AV.bool hc_9, congrArg AV.bool hc_10, trivial⟩ rfl ?_
   refine Ex.ret ?_
   obtain rfl:=sJ h
   exact rt (.bool false)
 ·refine regH 29 [(2, .eq (.bool false))] [0] [AV.bool (r_4.2 == 0) = AV.bool false] (mkS 54 [(0, .bool false)]) (⟨[], []⟩) (by kernel_rfl) ⟨congrArg AV.bool hc_9, trivial⟩ rfl ?_
  refine Ex.ret ?_
  obtain rfl:=sJ h
  exact rt (.bool false)
end Go.Proofs.YtjjmhjmkdihmnaaGreatDoor
end
section
namespace Go.Proofs.YtjjmhjmkdihmnaaGreatDoor
open Go.RowKit
attribute [local simp] ren ren1 AV.plain AV.plain1 AV.clean cleanL cleanI cleanBo cleanSt cleanII KL_bk_Drum KL_Worker KL_Job KL_Shop KL_Shift KL_shed_hand KL_V7_Shift KL_V7_bool KL_shed_draft KL_shed_planner KL_Hurdle KL_Span KL_Load KL_Float A_bk_Drum C_bk_Drum A_Worker C_Worker A_Job C_Job A_Shop C_Shop A_Shift C_Shift A_shed_hand C_shed_hand A_V7_Shift C_V7_Shift A_V7_bool C_V7_bool A_shed_draft C_shed_draft A_shed_planner C_shed_planner A_Hurdle C_Hurdle A_Span C_Span A_Load C_Load A_Float C_Float back back1 fadeS fadeV List.idxOf? List.findIdx? List.findIdx?.go chillS chillV re re1 KB_bk_Drum KB_Worker KB_Job KB_Shop KB_Shift KB_shed_hand KB_V7_Shift KB_V7_bool KB_shed_draft KB_shed_planner KB_Hurdle KB_Span KB_Load KB_Float
def p_bk_OwnShifts (N : Nat) (l_1 : (List T_Shift)) : Option ((List T_Shift)):=((pushI ([] : List T_Shift) l_1).bind fun l_2 => some l_2)
def v_bk_OwnShifts (r : (List T_Shift)) : AV:=.sl (r.map A_Shift) none
attribute [local simp] v_bk_OwnShifts
theorem t_bk_OwnShifts (N : Nat) (l_1 : (List T_Shift)) (r : (List T_Shift)) (h : p_bk_OwnShifts N l_1 = some r) : TokOk Tryz.prog ⟨34,[.sl (l_1.map A_Shift) none],r.map A_Shift,r.length,2⟩:=by
 refine ⟨?_,(KL_Shift _),by simp⟩
 unfold p_bk_OwnShifts at h
 refine DoesT.of comp34 ?_
 refine Ex.seq (rg 1 [0] (mkS 6 [(0,.sl (l_1.map A_Shift) none)]) ⟨[],[]⟩ ?_)
 refine Ex.seq ?_
 obtain ⟨l_2,hl_2,h⟩:=bE h
 refine regH 4 [(2,.apps (l_1.map A_Shift) (l_2.map A_Shift) l_2.length)] [2] [LApps 0 (([] : List T_Shift).map A_Shift) (l_1.map A_Shift) (l_1.map A_Shift) 2 (l_2.map A_Shift) l_2.length] (mkS 6 [(2,.sl (l_2.map A_Shift) (some 0))]) (⟨[],[(l_2.length,2)]⟩) (by kernel_rfl) ⟨LApps.of hl_2 (fun _ => rfl) (fun _ => rfl) (fun _ => rfl),trivial⟩ rfl ?_
 refine Ex.ret ?_
 obtain rfl:=sJ h
 exact ⟨.inr rfl,.sl (l_2.map A_Shift) (some 0),by kernel_rfl,0,by kernel_rfl,by kernel_rfl⟩
def p_bl8_ShedEarly (N : Nat) (nums_1 : (List Int)) : Option (Bool):=((p_bk_DrumOf N nums_1).bind fun r_2 => ((p_bk_ShopOf N r_2 3 5 5).bind fun r_3 => ((p_shed_Best N r_3.1).bind fun r_4 => (bif (r_4.2.2 != 0) then (bif (r_4.2.2 == 7) then ((p_bl8_awake N).bind fun r_7 => some r_7) else some false) else (bif (((r_4.1.length : Nat) : Int) != ((r_3.1.Jobs.length : Nat) : Int)) then some false else (letJ (fun (_ : Unit) => ((p_bl8_awake N).bind fun r_49 => some r_49)) (fun k_9 => (loop1 (fun rec_13 (i_12 : Int) => (bif (decide (i_12 < ((r_4.1.length : Nat) : Int))) then (letJ (fun (y_17 : Bool) => (bif y_17 then some false else (letJ (fun (_ : Unit) => (rec_13 (IntKind.i64.wrap (i_12 + 1)))) (fun k_25 => (loop1 (fun rec_29 (w_28 : Int) => (bif (decide (w_28 < ((r_3.1.Workers.length : Nat) : Int))) then (letJ (fun (_ : Unit) => (rec_29 (IntKind.i64.wrap (w_28 + 1)))) (fun k_33 => (loop1 (fun rec_37 (day_36 : Int) => ((getI r_4.1 i_12).bind fun x_40 => (bif (decide (day_36 < x_40.Day)) then ((p_bk_OwnShifts N r_4.1).bind fun r_42 => ((idxI i_12 r_42.length).bind fun u_43 => ((setI r_42 i_12 (fun (y_44 : T_Shift) => (⟨w_28,day_36⟩ : T_Shift))).bind fun z_45 => ((lenI z_45 r_42.length).bind fun u_46 => ((p_shed_Takes N r_3.1 z_45).bind fun r_47 => (bif (r_47.2 == 0) then some false else (rec_37 (IntKind.i64.wrap (day_36 + 1))))))))) else (k_33 ())))) N 0))) else (k_25 ()))) N 0))))) (fun k_18 => ((getI r_4.1 i_12).bind fun x_21 => (bif (decide (x_21.Day < 0)) then (k_18 true) else ((getI r_4.1 i_12).bind fun x_23 => (k_18 (decide (x_23.Day > 400)))))))) else (k_9 ()))) N 0))))))))
def v_bl8_ShedEarly (r : Bool) : AV:=.bool r
attribute [local simp] v_bl8_ShedEarly
theorem d_bl8_ShedEarly (N : Nat) (nums_1 : (List Int)) (r : Bool) (h : p_bl8_ShedEarly N nums_1 = some r) : Does Tryz.prog 7 [.sl (nums_1.map (AV.int .i64)) none] [] fun v c => v = v_bl8_ShedEarly r ∧ c = []:=by
 unfold p_bl8_ShedEarly at h
 refine Does.ofL comp7 _ _ rfl rfl ?_
 refine Ex.seq (rg 1 [0] (mkS 88 [(0,.sl (nums_1.map (AV.int .i64)) none)]) ⟨[],[]⟩ ?_)
 refine Ex.seq ?_
 obtain ⟨r_2,hr_2,h⟩:=bE h
 refine Ex.reg (rn 1 [13] (mkS 88 [(13,.sl (nums_1.map (AV.int .i64)) none)]) ⟨[],[]⟩ ?_)
 refine ExO.callL (v':=.ptr 0 0) [] [.sl (nums_1.map (AV.int .i64)) none] rfl rfl (a_bk_DrumOf nums_1) rfl rfl (d_bk_DrumOf N nums_1 r_2 hr_2) rfl (by simp) ?_
 obtain ⟨r_3,hr_3,h⟩:=bE h
 refine ExO.callL [0] [.ptr 0 0,i6 3,i6 5,i6 5] rfl rfl (by simp; try rfl) rfl (by simp) (d_bk_ShopOf N r_2 3 5 5 r_3 hr_3) (b_bk_ShopOf _ _ _ _) (by simp) ?_
 refine rn 2 [3] (mkS 88 [(3,.ptr 1 0)]) ⟨[(C_bk_Drum r_3.2),(C_Shop r_3.1)],[]⟩ ?_
 refine ExO.nil ?_
 refine Ex.seq ?_
 obtain ⟨r_4,hr_4,h⟩:=bE h
 refine Ex.reg (rn 1 [3,17] (mkS 88 [(3,.ptr 1 0),(17,(A_Shop r_3.1))]) ⟨[(C_bk_Drum r_3.2),(C_Shop r_3.1)],[]⟩ ?_)
 refine ExO.callL [] [(A_Shop r_3.1)] rfl rfl (a_shed_Best r_3.1) rfl rfl (d_shed_Best N r_3.1 r_4 hr_4) (b_shed_Best _ _ _ _) rfl ?_
 refine rn 7 [3,4,6] (mkS 88 [(3,.ptr 1 0),(4,.sl (r_4.1.map A_Shift) none),(6,i6 r_4.2.2)]) ⟨[(C_bk_Drum r_3.2),(C_Shop r_3.1)],[]⟩ ?_
 refine ExO.nil ?_
 refine Ex.seq (Ex.seq ?_)
 refine rg 2 [3,4,6,23] (mkS 88 [(3,.ptr 1 0),(4,.sl (r_4.1.map A_Shift) none),(6,i6 r_4.2.2),(23,.bool (r_4.2.2 != 0))]) ⟨[(C_bk_Drum r_3.2),(C_Shop r_3.1)],[]⟩ ?_
 rcases condI h with ⟨hc_5,h⟩ | ⟨hc_5,h⟩
 ·refine Ex.condT _ rfl hc_5 ?_
  refine Ex.seq ?_
  rcases condI h with ⟨hc_6,h⟩ | ⟨hc_6,h⟩
  ·obtain ⟨r_7,hr_7,h⟩:=bE h
   refine Ex.reg ?_
   refine runH 3 [(2,.eq (.bool true))] [26] [AV.bool (r_4.2.2 == 7) = AV.bool true] (mkS 88 [(26,.bool true)]) (⟨[(C_bk_Drum r_3.2),(C_Shop r_3.1)],[]⟩) (by kernel_rfl) ⟨congrArg AV.bool hc_6,trivial⟩ ?_
   refine ExO.callL [] [] rfl rfl (a_bl8_awake) rfl rfl (d_bl8_awake N r_7 hr_7) (b_bl8_awake _ _ _ _) rfl ?_
   refine rn 2 [2] (mkS 88 [(2,.bool r_7)]) ⟨[(C_bk_Drum r_3.2),(C_Shop r_3.1)],[]⟩ ?_
   refine ExO.nil ?_
   refine Ex.ret ?_
   obtain rfl:=sJ h
   exact rt (.bool r_7)
  ·refine regH 6 [(2, .eq (.bool false))] [2] [AV.bool (r_4.2.2 == 7) = AV.bool false] (mkS 88 [(2, .bool false)]) (⟨[(C_bk_Drum r_3.2), (C_Shop r_3.1)], []⟩) (by kernel_rfl) ⟨congrArg AV.bool hc_6, trivial⟩ rfl ?_
   refine Ex.ret ?_
   obtain rfl:=sJ h
   exact rt (.bool false)
 ·refine Ex.condF _ rfl hc_5 ?_
  refine Ex.skip ?_
  refine Ex.seq (Ex.seq ?_)
  refine regH 6 [(1,.eq (i6 ((r_4.1.length : Nat) : Int))),(4,.eq (i6 ((r_3.1.Jobs.length : Nat) : Int)))] [3,4,34] [AV.int .i64 (((r_4.1.map A_Shift).length : Nat) : Int) = AV.int .i64 ((r_4.1.length : Nat) : Int),AV.int .i64 (((r_3.1.Jobs.map A_Job).length : Nat) : Int) = AV.int .i64 ((r_3.1.Jobs.length : Nat) : Int)] (mkS 88 [(3,.ptr 1 0),(4,.sl (r_4.1.map A_Shift) none),(34,.bool (((r_4.1.length : Nat) : Int) != ((r_3.1.Jobs.length : Nat) : Int)))]) (⟨[(C_bk_Drum r_3.2),(C_Shop r_3.1)],[]⟩) (by kernel_rfl) ⟨lenM _ _,lenM _ _,trivial⟩ rfl ?_
  rcases condI h with ⟨hc_8,h⟩ | ⟨hc_8,h⟩
  ·refine Ex.condT _ rfl hc_8 ?_
   refine Ex.seq (rg 1 [2] (mkS 88 [(2,.bool false)]) ⟨[(C_bk_Drum r_3.2),(C_Shop r_3.1)],[]⟩ ?_)
   refine Ex.ret ?_
   obtain rfl:=sJ h
   exact rt (.bool false)
  ·refine Ex.condF _ rfl hc_8 ?_
   refine Ex.skip ?_
   refine Ex.seq (Ex.seq ?_)
   refine rg 1 [3,4,7] (mkS 88 [(3,.ptr 1 0),(4,.sl (r_4.1.map A_Shift) none),(7,i6 0)]) ⟨[(C_bk_Drum r_3.2),(C_Shop r_3.1)],[]⟩ ?_
   obtain ⟨K_10,hK_11,h⟩:=letE h
   refine Ex.blockJ (fun a S => K_10 () = some r ∧ a = mkS 88 [] ∧ S = ⟨[],[]⟩) ?_ ?_
   ·obtain ⟨B_14,hB_15,h⟩:=loop1I h
    refine Ex.loopF (fun k a S => ∃ (i_12 : Int),loop1 B_14 k i_12 = some r ∧ a = mkS 88 [(3,.ptr 1 0),(4,.sl (r_4.1.map A_Shift) none),(7,i6 i_12)] ∧ S = ⟨[(C_bk_Drum r_3.2),(C_Shop r_3.1)],[]⟩) N ⟨_,_,Forgets.refl _ _ _,0,h,rfl,rfl⟩ ?_
    rintro k a S ⟨i_12,h,rfl,rfl⟩
    cases k with
    | zero => exact (loop1Z h).elim
    | succ k =>
     replace h:=loop1S h hB_15
     refine Ex.seq (Ex.seq ?_)
     refine regH 4 [(2,.eq (i6 ((r_4.1.length : Nat) : Int)))] [3,4,7,38] [AV.int .i64 (((r_4.1.map A_Shift).length : Nat) : Int) = AV.int .i64 ((r_4.1.length : Nat) : Int)] (mkS 88 [(3,.ptr 1 0),(4,.sl (r_4.1.map A_Shift) none),(7,i6 i_12),(38,.bool (decide (i_12 < ((r_4.1.length : Nat) : Int))))]) (⟨[(C_bk_Drum r_3.2),(C_Shop r_3.1)],[]⟩) (by kernel_rfl) ⟨lenM _ _,trivial⟩ rfl ?_
     rcases condI h with ⟨hc_16,h⟩ | ⟨hc_16,h⟩
     ·refine Ex.condT _ rfl hc_16 ?_
      refine Ex.skip ?_
      refine Ex.seq ?_
      refine Ex.blockK ?_
      refine Ex.seq ?_
      obtain ⟨K_19,hK_20,h⟩:=letE h
      refine Ex.seqJ (fun a S => ∃ (y_17 : Bool),K_19 y_17 = some r ∧ a = mkS 88 [(3,.ptr 1 0),(4,.sl (r_4.1.map A_Shift) none),(7,i6 i_12),(54,.bool y_17)] ∧ S = ⟨[(C_bk_Drum r_3.2),(C_Shop r_3.1)],[]⟩) ?_ ?_
      ·obtain ⟨x_21,hx_21,h⟩:=bE h
       rcases condI h with ⟨hc_22,h⟩ | ⟨hc_22,h⟩
       ·refine regH 14 [(2, .rop (C_Shift x_21)), (6, .eq (.bool true))] [3, 4, 7, 54] [LGet (r_4.1.map A_Shift) i_12 2 (C_Shift x_21), AV.bool (decide (x_21.Day < 0)) = AV.bool true] (mkS 88 [(3, .ptr 1 0), (4, .sl (r_4.1.map A_Shift) none), (7, i6 i_12), (54, .bool true)]) (⟨[(C_bk_Drum r_3.2), (C_Shop r_3.1)], []⟩) (by kernel_rfl) ⟨LGet.of hx_21 rfl, congrArg AV.bool hc_22, trivial⟩ rfl ?_
        (try simp only [reduceCtorEq,AEx.ex.injEq,Nat.reduceEqDiff,if_true,if_false])
        exact ⟨_,_,Forgets.refl _ _ _,true,h,rfl,rfl⟩
       ·obtain ⟨x_23,hx_23,h⟩:=bE h
        refine regH 14 [(2,.rop (C_Shift x_21)),(6,.eq (.bool false)),(9,.rop (C_Shift x_23))] [3,4,7,54] [LGet (r_4.1.map A_Shift) i_12 2 (C_Shift x_21),AV.bool (decide (x_21.Day < 0)) = AV.bool false,LGet (r_4.1.map A_Shift) i_12 2 (C_Shift x_23)] (mkS 88 [(3,.ptr 1 0),(4,.sl (r_4.1.map A_Shift) none),(7,i6 i_12),(54,.bool (decide (x_23.Day > 400)))]) (⟨[(C_bk_Drum r_3.2),(C_Shop r_3.1)],[]⟩) (by kernel_rfl) ⟨LGet.of hx_21 rfl,congrArg AV.bool hc_22,LGet.of hx_23 rfl,trivial⟩ rfl ?_
        (try simp only [reduceCtorEq,AEx.ex.injEq,Nat.reduceEqDiff,if_true,if_false])
        exact ⟨_,_,Forgets.refl _ _ _,(decide (x_23.Day > 400)),h,rfl,rfl⟩
      ·rintro a S ⟨y_17,h,rfl,rfl⟩
       subst hK_20
       rcases condI h with ⟨hc_24,h⟩ | ⟨hc_24,h⟩
       ·refine Ex.condT _ rfl hc_24 ?_
        refine Ex.seq (rg 1 [2] (mkS 88 [(2,.bool false)]) ⟨[(C_bk_Drum r_3.2),(C_Shop r_3.1)],[]⟩ ?_)
        refine Ex.ret ?_
        obtain rfl:=sJ h
        exact rt (.bool false)
       ·refine Ex.condF _ rfl hc_24 ?_
        refine Ex.skip ?_
        refine Ex.seq (rg 1 [3,4,7,8] (mkS 88 [(3,.ptr 1 0),(4,.sl (r_4.1.map A_Shift) none),(7,i6 i_12),(8,i6 0)]) ⟨[(C_bk_Drum r_3.2),(C_Shop r_3.1)],[]⟩ ?_)
        obtain ⟨K_26,hK_27,h⟩:=letE h
        refine Ex.blockJ (fun a S => K_26 () = some r ∧ a = mkS 88 [(3,.ptr 1 0),(4,.sl (r_4.1.map A_Shift) none),(7,i6 i_12)] ∧ S = ⟨[(C_bk_Drum r_3.2),(C_Shop r_3.1)],[]⟩) ?_ ?_
        ·obtain ⟨B_30,hB_31,h⟩:=loop1I h
         refine Ex.loopF (fun k a S => ∃ (w_28 : Int),loop1 B_30 k w_28 = some r ∧ a = mkS 88 [(3,.ptr 1 0),(4,.sl (r_4.1.map A_Shift) none),(7,i6 i_12),(8,i6 w_28)] ∧ S = ⟨[(C_bk_Drum r_3.2),(C_Shop r_3.1)],[]⟩) N ⟨_,_,Forgets.refl _ _ _,0,h,rfl,rfl⟩ ?_
         rintro k a S ⟨w_28,h,rfl,rfl⟩
         cases k with
         | zero => exact (loop1Z h).elim
         | succ k =>
          replace h:=loop1S h hB_31
          refine Ex.seq (Ex.seq ?_)
          refine regH 5 [(3,.eq (i6 ((r_3.1.Workers.length : Nat) : Int)))] [3,4,7,8,59] [AV.int .i64 (((r_3.1.Workers.map A_Worker).length : Nat) : Int) = AV.int .i64 ((r_3.1.Workers.length : Nat) : Int)] (mkS 88 [(3,.ptr 1 0),(4,.sl (r_4.1.map A_Shift) none),(7,i6 i_12),(8,i6 w_28),(59,.bool (decide (w_28 < ((r_3.1.Workers.length : Nat) : Int))))]) (⟨[(C_bk_Drum r_3.2),(C_Shop r_3.1)],[]⟩) (by kernel_rfl) ⟨lenM _ _,trivial⟩ rfl ?_
          rcases condI h with ⟨hc_32,h⟩ | ⟨hc_32,h⟩
          ·refine Ex.condT _ rfl hc_32 ?_
           refine Ex.skip ?_
           refine Ex.seq ?_
           refine Ex.blockK ?_
           refine Ex.seq (rg 1 [3,4,7,8,9] (mkS 88 [(3,.ptr 1 0),(4,.sl (r_4.1.map A_Shift) none),(7,i6 i_12),(8,i6 w_28),(9,i6 0)]) ⟨[(C_bk_Drum r_3.2),(C_Shop r_3.1)],[]⟩ ?_)
           obtain ⟨K_34,hK_35,h⟩:=letE h
           refine Ex.blockJ (fun a S => K_34 () = some r ∧ a = mkS 88 [(3,.ptr 1 0),(4,.sl (r_4.1.map A_Shift) none),(7,i6 i_12),(8,i6 w_28)] ∧ S = ⟨[(C_bk_Drum r_3.2),(C_Shop r_3.1)],[]⟩) ?_ ?_
           ·obtain ⟨B_38,hB_39,h⟩:=loop1I h
            refine Ex.loopF (fun k a S => ∃ (day_36 : Int),loop1 B_38 k day_36 = some r ∧ a = mkS 88 [(3,.ptr 1 0),(4,.sl (r_4.1.map A_Shift) none),(7,i6 i_12),(8,i6 w_28),(9,i6 day_36)] ∧ S = ⟨[(C_bk_Drum r_3.2),(C_Shop r_3.1)],[]⟩) N ⟨_,_,Forgets.refl _ _ _,0,h,rfl,rfl⟩ ?_
            rintro k a S ⟨day_36,h,rfl,rfl⟩
            cases k with
            | zero => exact (loop1Z h).elim
            | succ k =>
             replace h:=loop1S h hB_39
             refine Ex.seq (Ex.seq ?_)
             obtain ⟨x_40,hx_40,h⟩:=bE h
             refine regH 7 [(3,.rop (C_Shift x_40))] [3,4,7,8,9,68] [LGet (r_4.1.map A_Shift) i_12 2 (C_Shift x_40)] (mkS 88 [(3,.ptr 1 0),(4,.sl (r_4.1.map A_Shift) none),(7,i6 i_12),(8,i6 w_28),(9,i6 day_36),(68,.bool (decide (day_36 < x_40.Day)))]) (⟨[(C_bk_Drum r_3.2),(C_Shop r_3.1)],[]⟩) (by kernel_rfl) ⟨LGet.of hx_40 rfl,trivial⟩ rfl ?_
             rcases condI h with ⟨hc_41,h⟩ | ⟨hc_41,h⟩
             ·refine Ex.condT _ rfl hc_41 ?_
              refine Ex.skip ?_
              refine Ex.seq ?_
              refine Ex.blockK ?_
              refine Ex.seq ?_
              obtain ⟨r_42,hr_42,h⟩:=bE h
              refine Ex.reg (rn 1 [3,4,7,8,9,71] (mkS 88 [(3,.ptr 1 0),(4,.sl (r_4.1.map A_Shift) none),(7,i6 i_12),(8,i6 w_28),(9,i6 day_36),(71,.sl (r_4.1.map A_Shift) none)]) ⟨[(C_bk_Drum r_3.2),(C_Shop r_3.1)],[]⟩ ?_)
              refine ExO.callMs (t_bk_OwnShifts N r_4.1 r_42 hr_42) (show 0 < 2 by decide) (map_cells (f:=A_Shift) (s:=2) (fun _ => rfl) _) (flat_scal (f:=A_Shift) (fun _ => rfl) _) [.sl (r_4.1.map A_Shift) none] rfl rfl rfl (by simp) ?_
              refine rn 1 [3,4,7,8,9,10] (mkS 88 [(3,.ptr 1 0),(4,.sl (r_4.1.map A_Shift) none),(7,i6 i_12),(8,i6 w_28),(9,i6 day_36),(10,.ms 2 r_42.length 2)]) ⟨[(C_bk_Drum r_3.2),(C_Shop r_3.1),(flat (r_42.map A_Shift))],[]⟩ ?_
              refine ExO.nil ?_
              refine Ex.seq ?_
              obtain ⟨u_43,hu_43,h⟩:=bE h
              obtain ⟨z_45,hz_45,h⟩:=bE h
              refine regH 7 [(5,.adm),(6,.st (flat (z_45.map A_Shift)))] [3,4,7,8,9,10] [0 ≤ i_12 ∧ i_12 < ((r_42.length : Nat) : Int),0 + Int.toNat i_12 * 2 + 2 ≤ ((flat (r_42.map A_Shift))).length ∧ layAt (flat (r_42.map A_Shift)) (0 + Int.toNat i_12 * 2) [i6 w_28,i6 day_36] = (flat (z_45.map A_Shift))] (mkS 88 [(3,.ptr 1 0),(4,.sl (r_4.1.map A_Shift) none),(7,i6 i_12),(8,i6 w_28),(9,i6 day_36),(10,.ms 2 r_42.length 2)]) (⟨[(C_bk_Drum r_3.2),(C_Shop r_3.1),(flat (z_45.map A_Shift))],[]⟩) (by kernel_rfl) ⟨idxI.of hu_43,stFl (f:=A_Shift) (s:=2) _ 0 2 i_12 (fun (y_44 : T_Shift) => (⟨w_28,day_36⟩ : T_Shift)) _ (fun _ => rfl) hz_45 rfl (by decide) (by omega) (fun _ => rfl),trivial⟩ rfl ?_
              refine Ex.seq ?_
              obtain ⟨u_46,hu_46,h⟩:=bE h
              refine Ex.forget (chillK (f:=A_Shift) 2 10 r_42.length 2 z_45 (.ms 2 r_42.length 2) (.sl (z_45.map A_Shift) none) hu_46 rfl (fun _ => rfl) rfl (by simp)) ?_
              refine Ex.castA (a2:=mkS 88 [(3,.ptr 1 0),(4,.sl (r_4.1.map A_Shift) none),(7,i6 i_12),(8,i6 w_28),(9,i6 day_36),(10,.sl (z_45.map A_Shift) none)]) (S2:=⟨[(C_bk_Drum r_3.2),(C_Shop r_3.1),[]],[]⟩) (by kernel_rfl) (by kernel_rfl) ?_
              obtain ⟨r_47,hr_47,h⟩:=bE h
              refine Ex.reg (rn 2 [3,4,7,8,9,80,81] (mkS 88 [(3,.ptr 1 0),(4,.sl (r_4.1.map A_Shift) none),(7,i6 i_12),(8,i6 w_28),(9,i6 day_36),(80,(A_Shop r_3.1)),(81,.sl (z_45.map A_Shift) none)]) ⟨[(C_bk_Drum r_3.2),(C_Shop r_3.1),[]],[]⟩ ?_)
              refine ExO.callL [] [(A_Shop r_3.1),.sl (z_45.map A_Shift) none] rfl rfl (a_shed_Takes r_3.1 z_45) rfl rfl (d_shed_Takes N r_3.1 z_45 r_47 hr_47) (b_shed_Takes _ _ _ _) rfl ?_
              refine rn 5 [3,4,7,8,9,12] (mkS 88 [(3,.ptr 1 0),(4,.sl (r_4.1.map A_Shift) none),(7,i6 i_12),(8,i6 w_28),(9,i6 day_36),(12,i6 r_47.2)]) ⟨[(C_bk_Drum r_3.2),(C_Shop r_3.1),[]],[]⟩ ?_
              refine ExO.nil ?_
              refine Ex.seq (rg 2 [3,4,7,8,9,86] (mkS 88 [(3,.ptr 1 0),(4,.sl (r_4.1.map A_Shift) none),(7,i6 i_12),(8,i6 w_28),(9,i6 day_36),(86,.bool (r_47.2 == 0))]) ⟨[(C_bk_Drum r_3.2),(C_Shop r_3.1),[]],[]⟩ ?_)
              rcases condI h with ⟨hc_48,h⟩ | ⟨hc_48,h⟩
              ·refine Ex.condT _ rfl hc_48 ?_
               refine Ex.seq (rg 1 [2] (mkS 88 [(2,.bool false)]) ⟨[(C_bk_Drum r_3.2),(C_Shop r_3.1),[]],[]⟩ ?_)
               refine Ex.ret ?_
               obtain rfl:=sJ h
               exact rt (.bool false)
              ·refine Ex.condF _ rfl hc_48 ?_
               refine Ex.skip ?_
               refine rg 3 [3,4,7,8,9] (mkS 88 [(3,.ptr 1 0),(4,.sl (r_4.1.map A_Shift) none),(7,i6 i_12),(8,i6 w_28),(9,i6 (IntKind.i64.wrap (day_36 + 1)))]) ⟨[(C_bk_Drum r_3.2),(C_Shop r_3.1),[]],[]⟩ ?_
               dsimp only
               exact ⟨_,_,forgetA (m:=88) 2 [] [(3,.ptr 1 0),(4,.sl (r_4.1.map A_Shift) none),(7,i6 i_12),(8,i6 w_28),(9,i6 (IntKind.i64.wrap (day_36 + 1)))] [(C_bk_Drum r_3.2),(C_Shop r_3.1)] [] (by simp [setAll]) (by simp) ⟨rfl,(reN (KL_Shift _)),rfl,rfl,rfl,trivial⟩ (by simp) rfl (by decide),k,Nat.lt_succ_self k,(IntKind.i64.wrap (day_36 + 1)),h,rfl,rfl⟩
             ·refine Ex.condF _ rfl hc_41 ?_
              refine Ex.exit ?_
              (try simp only [reduceCtorEq,AEx.ex.injEq,Nat.reduceEqDiff,if_true,if_false])
              exact ⟨_,_,forgetK [3,4,7,8],h,rfl,rfl⟩
           ·rintro a S ⟨h,rfl,rfl⟩
            subst hK_35
            refine rg 3 [3,4,7,8] (mkS 88 [(3,.ptr 1 0),(4,.sl (r_4.1.map A_Shift) none),(7,i6 i_12),(8,i6 (IntKind.i64.wrap (w_28 + 1)))]) ⟨[(C_bk_Drum r_3.2),(C_Shop r_3.1)],[]⟩ ?_
            dsimp only
            exact ⟨_,_,Forgets.refl _ _ _,k,Nat.lt_succ_self k,(IntKind.i64.wrap (w_28 + 1)),h,rfl,rfl⟩
          ·refine Ex.condF _ rfl hc_32 ?_
           refine Ex.exit ?_
           (try simp only [reduceCtorEq,AEx.ex.injEq,Nat.reduceEqDiff,if_true,if_false])
           exact ⟨_,_,forgetK [3,4,7],h,rfl,rfl⟩
        ·rintro a S ⟨h,rfl,rfl⟩
         subst hK_27
         refine rg 3 [3,4,7] (mkS 88 [(3,.ptr 1 0),(4,.sl (r_4.1.map A_Shift) none),(7,i6 (IntKind.i64.wrap (i_12 + 1)))]) ⟨[(C_bk_Drum r_3.2),(C_Shop r_3.1)],[]⟩ ?_
         dsimp only
         exact ⟨_,_,Forgets.refl _ _ _,k,Nat.lt_succ_self k,(IntKind.i64.wrap (i_12 + 1)),h,rfl,rfl⟩
     ·refine Ex.condF _ rfl hc_16 ?_
      refine Ex.exit ?_
      (try simp only [reduceCtorEq,AEx.ex.injEq,Nat.reduceEqDiff,if_true,if_false])
      exact ⟨_,_,forgetA (m:=88) 0 [] [] [] [] (by simp [setAll]) (by simp) trivial (by simp) rfl (by decide),h,rfl,rfl⟩
   ·rintro a S ⟨h,rfl,rfl⟩
    subst hK_11
    refine Ex.seq ?_
    obtain ⟨r_49,hr_49,h⟩:=bE h
    refine Ex.reg ?_
    refine ExO.callL [] [] rfl rfl (a_bl8_awake) rfl rfl (d_bl8_awake N r_49 hr_49) (b_bl8_awake _ _ _ _) rfl ?_
    refine rn 1 [2] (mkS 88 [(2,.bool r_49)]) ⟨[],[]⟩ ?_
    refine ExO.nil ?_
    refine Ex.ret ?_
    obtain rfl:=sJ h
    exact rt (.bool r_49)
end Go.Proofs.YtjjmhjmkdihmnaaGreatDoor
end
section
namespace Go.Proofs.YtjjmhjmkdihmnaaGreatDoor
open Go.RowKit
theorem lxL.app : ∀ {l m : List Int} (l' m' : List Int),l.length = m.length → lxL l m → lxL (l ++ l') (m ++ m')
 | [],_,_,_,_,h => h.elim
 | _ :: _,[],_,_,_,h => h.elim
 | x :: l,y :: m,l',m',hl,h => by
  rcases h with h | ⟨e,h⟩
  ·exact .inl h
  ·exact .inr ⟨e,lxL.app l' m' (by simpa using hl) h⟩
theorem leL.lt {l m : List Int} (h : leL l m) (hne : l ≠ m) : lxL l m:=h.lx.elim (fun e => absurd e hne) id
theorem setI_s (l : List T_Shift) (i : Nat) (v : T_Shift) (h : i < l.length) : setI l (i : Int) (fun (y : T_Shift) => v) = some (l.set i v):=by
 simp [setI,List.getElem?_eq_getElem h]
theorem not_earlier {s : T_Shop} (h : GW s) {l : List T_Shift} {d : Int} (hl : BestP s h.jobs l d) {i : Nat} (hi : i < s.Jobs.length) {w day : Int} (hday : day < dyL l i) : ¬ PlanOk s (l.set i ⟨w,day⟩):=by
 intro hp
 have hil : i < l.length:=by rw [hl.len]; exact hi
 have hn:=h.jobs.len
 have hok:=hp.okp h
 have hdy:=dyL_set l i ⟨w,day⟩ hil
 have hout : ∀ j,s.Jobs.length ≤ j → dyL (l.set i ⟨w,day⟩) j = 0 ∧ wkL (l.set i ⟨w,day⟩) j = 0:=fun j hj => by
  unfold dyL wkL
  rw [List.getElem?_eq_none (by rw [List.length_set,hl.len]; exact hj)]
  exact ⟨rfl,rfl⟩
 have hmin := hl.min _ _ hok (fun j => by
  by_cases hj : j < s.Jobs.length
  ·obtain ⟨k,_,e,_⟩:=mem_able.1 (hok.can j hj)
   rw [e]; exact Int.natCast_nonneg k
  ·rw [(hout j (by omega)).2]; exact Int.le_refl _) fun j hj => (hout j hj).1
 have hle : ∀ j,dyL (l.set i ⟨w,day⟩) j ≤ dyL l j:=fun j => by
  rw [hdy]
  split
  ·rename_i e; subst e; exact Int.le_of_lt hday
  ·exact Int.le_refl _
 refine hmin.not ?_
 show lxL ((_ :: (List.range 7).map (dyL (l.set i ⟨w,day⟩))) ++ _) ((_ :: (List.range 7).map (dyL l)) ++ _)
 refine lxL.app _ _ (by simp) (leL.lt ⟨mxN.mono _ _ _ fun j _ => by have:=hle j; omega,leL.map _ _ _ fun j _ => hle j⟩ fun e => ?_)
 have e2:=(List.cons.inj e).2
 have e3:=congrArg (fun z => z[i]?) e2
 have hi7 : i < 7:=by omega
 simp only [List.getElem?_map,List.getElem?_range hi7,Option.map_some,Option.some.injEq] at e3
 rw [hdy,if_pos rfl] at e3
 have e3 : day = dyL l i:=e3
 omega
theorem early_m (N : Nat) (nums : List Int) (hN : nums.length + 1000 < N) (hl : nums.length < 9223372036854775808) (haw : p_bl8_awake N = some true) : p_bl8_ShedEarly N nums = some true:=by
 unfold p_bl8_ShedEarly
 simp only [letJ_eq]
 obtain ⟨d,ed⟩:=drumOf_p N nums (by omega) hl
 obtain ⟨s,d',es,hs⟩:=shopOf_p N (by omega) d 3 5 5 (by omega) (by omega) (by omega)
 rw [ed,Option.bind_some,es,Option.bind_some]
 have hg:=hs.gw
 have hn:=hg.jobs.len
 rcases Best_c N (by omega) hg with ⟨_,e⟩ | ⟨_,l,dd,e,hb⟩
 ·rw [e,Option.bind_some,haw]; rfl
 ·rw [e,Option.bind_some,show ((0 : Int) != 0) = false from rfl,cond_false]
  dsimp only
  rw [show (((l.length : Nat) : Int) != ((s.Jobs.length : Nat) : Int)) = false from by rw [hb.len]; simp,cond_false]
  have hsm : ∀ i,i < s.Jobs.length → 0 ≤ dyL l i ∧ dyL l i ≤ 210:=fun i hi => by
   have h1:=hb.small i hi
   have h2 : smN (dsL s.Jobs) s.Jobs.length ≤ 210:=sum_le210 hg.jobs (fun _ => true)
   have h3:=(hg.jobs.ds hi).1
   exact ⟨hb.ok.pos i hi,by omega⟩
  refine st1 l.length _ (some true) (fun rec => ?_) (fun rec i hi => ?_) N 0 (Nat.zero_le _) (by rw [hb.len]; omega)
  ·rw [ltE,cond_false,haw]; rfl
  ·have hi2 : i < s.Jobs.length := by rw [← hb.len]; exact hi
   have hx : l[i]? = some l[i]:=List.getElem?_eq_getElem hi
   have hxd:=dyL_at hx
   obtain ⟨hd0,hd1⟩:=hsm i hi2
   generalize l[i] = x at hx hxd
   rw [ltD hi,cond_true,getI_nat,hx,Option.bind_some,decide_eq_false (by omega),cond_false,Option.bind_some,decide_eq_false (by omega),cond_false]
   have hw4:=hg.w4
   refine st1 s.Workers.length _ (rec ((i + 1 : Nat) : Int)) (fun rec2 => ?_) (fun rec2 w hw => ?_) N 0 (Nat.zero_le _) (by omega)
   ·rw [ltE,cond_false,nadd1 i (by omega)]
   ·rw [ltD hw,cond_true]
    obtain ⟨D,hD⟩ : ∃ D : Nat,x.Day = (D : Int):=⟨x.Day.toNat,by omega⟩
    refine st1 D _ (rec2 ((w + 1 : Nat) : Int)) (fun rec3 => ?_) (fun rec3 day hday => ?_) N 0 (Nat.zero_le _) (by omega)
    ·rw [Option.bind_some,hD,ltE,cond_false,nadd1 w (by omega)]
    ·rw [Option.bind_some,hD,ltD hday,cond_true]
     have ho : p_bk_OwnShifts N l = some l:=by
      unfold p_bk_OwnShifts
      rw [pushI_ok (by have:=hb.len; simp; omega),Option.bind_some,List.nil_append]
     have hii : idxI (i : Int) l.length = some ():=if_pos (by omega)
     have hll : lenI (l.set i (⟨(w : Int),(day : Int)⟩ : T_Shift)) l.length = some ():=if_pos (by rw [List.length_set])
     rw [ho,Option.bind_some,hii,Option.bind_some,setI_s l i _ hi,Option.bind_some,hll,Option.bind_some]
     have hne:=not_earlier hg hb hi2 (w:=(w : Int)) (day:=(day : Int)) (by omega)
     rcases Takes_c N (by omega) hg (l := l.set i ⟨(w : Int), (day : Int)⟩) (fun j => by
      rw [dyL_set _ _ _ hi]
      split
      ·show -1000000 ≤ (day : Int) ∧ (day : Int) ≤ 1000000
       omega
      ·by_cases hj : j < s.Jobs.length
       ·have:=hsm j hj; omega
       ·have : dyL l j = 0 := by unfold dyL; rw [List.getElem?_eq_none (by rw [hb.len]; omega)]; rfl
        omega) with ⟨_, e, he, q⟩ | ⟨q, _⟩
     ·rw [q,Option.bind_some,beq_eq_false_iff_ne.2 he,cond_false,nadd1 day (by omega)]
     ·exact absurd q hne
theorem shedEarly_m (nums : List Int) (haw : p_bl8_awake 18446744073709551616 = some true) (hl : nums.length + 1000 < 18446744073709551616) (hl2 : nums.length < 9223372036854775808) : Does Tryz.prog 7 [.sl (nums.map fun z => .int .i64 z) none] [] fun v _ => v = .bool true :=
 (d_bl8_ShedEarly _ nums true (early_m _ nums hl hl2 haw)).mono fun v c h => h.1
end Go.Proofs.YtjjmhjmkdihmnaaGreatDoor
end
section
namespace Go.Proofs.YtjjmhjmkdihmnaaGreatDoor
open Go.RowKit
set_option maxRecDepth 100000
theorem awake_c : p_bl8_awake 18446744073709551616 = some true:=by kernel_rfl
end Go.Proofs.YtjjmhjmkdihmnaaGreatDoor
end
section
namespace Go.Proofs.YtjjmhjmkdihmnaaGreatDoor
open Go.RowKit Go.ChangeShapes Go.WideShapes Go.ChangeAt

def nums (zs : List Int) : AV:=.sl (zs.map fun z => .int .i64 z) none
theorem prog_own : ownKnob Tryz.prog.godebug = none:=by kernel_rfl
theorem prog_laid : laidOutB Tryz.prog = true:=by kernel_rfl

namespace shedEarly
theorem glw {W : World} (hL : laidMetH Tryz.prog Rows.shedEarlyRow.laid W) : GLW W:=by
 rw [MakeChecks.laidMetH_plain _ _ _ (by kernel_rfl)] at hL
 have h0 : Lib.TabIs Tryz.prog W "bateria/shed.bitOf" .u8 gnum0 := Lib.tabIs_of_head (g := 0) (t := 136) (e := 135) (n := 4) (by kernel_rfl) (by kernel_rfl) (by kernel_rfl) (by kernel_rfl) (by kernel_rfl) (by kernel_rfl) (hL)
 intro B o u h
 by_cases e0 : B = 0
 ·subst e0
  have:=World.var?_cell (P:=Tryz.prog) (g:=0) (by kernel_rfl) h0 o
  rw [this]
  simpa [gcell,gtab,gtab0] using h
 simp [gcell,gtab,e0] at h
theorem door_met (os : Os) (args : Array Value) : laidMetH Tryz.prog Rows.shedEarlyRow.laid ((World.doorLaid Tryz.prog 14 os).forCall (fun _ _ => 0) ⟨#[],args,[]⟩).memory :=
 laidMetH_of_parts3 (fuel:=8) (laidMet_of_run' 8 (by kernel_rfl) (by kernel_rfl)) (by kernel_rfl) (by kernel_rfl)
set_option maxRecDepth 100000 in
theorem lifted (hM : ∀ zs : List Int,(∀ z ∈ zs,(Lit.int .i64 z).wf = true) → zs.length ≤ maxLen → Does Tryz.prog 7 [nums zs] [] fun v _ => v = .bool true) (os : Os) (started : os.Started) (H : Type) (enc : TypeId × Value → H) :
  ReturnsInHanded {} Tryz.checked os 7 .any (fun w args => (Rows.shedEarlySpec.pre enc Tryz.prog Tryz.f7 Rows.shedEarlyRow.domain false w args ∧ laidMetH Tryz.prog Rows.shedEarlyRow.laid w) ∧ sizedMet enc Tryz.prog Tryz.f7 (OpenSpec.ofChange Rows.shedEarlySpec) false w args) (Rows.shedEarlySpec.post enc Tryz.prog Tryz.f7 false true false false):=by
 refine returnsInHanded_of_change_and (C := Tryz.checked) (X := fun w _ => laidMetH Tryz.prog Rows.shedEarlyRow.laid w) (fun _ _ _ hh h => h.of_heap hh) prog_own started (by kernel_rfl) Tryz.func7
  (ChangeSpec.witness_shaped (enc:=enc) (C:=Tryz.checked) (os:=os) (X:=fun w _ => laidMetH Tryz.prog Rows.shedEarlyRow.laid w) false (World.doorLaid Tryz.prog 14 os) #[.slice none 0 0] 8 rfl (World.shaped_of_RefB (by kernel_rfl) (by kernel_rfl)) (by kernel_rfl) (by kernel_rfl) (by kernel_rfl) (door_met os _)) ?_
 intro W base args ds gs before hval0 hW hcnd _ hL _
 have hval : ∀ (j : Nat) t v,Tryz.f7.params[j]? = some t → args[j]? = some v → Value.okWide Tryz.prog W .any base t v:=hval0
 have hW':=hW
 obtain ⟨p,q,hA0,hV,rfl,hfz,hnd⟩:=hW
 have hA : DataW.TrodAll enc Tryz.prog W 0 (fun _ => true) true Tryz.f7.params.toList args.toList ds p:=hA0
 rw [Tryz.params7] at hA hval
 obtain ⟨v0,vs0,d0,ds0,p0,q0,hargs,rfl,rfl,h0,r0⟩:=trodAll_cons hA
 obtain ⟨rfl,rfl,rfl⟩:=trodAll_nil r0
 obtain rfl : args = #[v0]:=by cases args; simp_all
 obtain ⟨rfl,rfl⟩:=trodVars_none hV
 obtain ⟨a0,len0,cap0,rfl⟩:=okWide_slice Tryz.underlying22 (hval 0 22 v0 rfl rfl)
 have k0:=h0
 have lt0 : ∀ x ∈ p0,x.block < W.heap.size:=by obtain ⟨m,hm⟩:=k0; exact DataW.trod_lt m _ _ _ hm
 obtain ⟨zs,hwf,hlen,hvr⟩:=ints_vr Tryz.underlying22 Tryz.underlying3 (by kernel_rfl) h0
 clear hA0 hval0
 refine ((hM zs hwf hlen).law (us:=#[.slice a0 len0 cap0]) ⟨rfl,fun i x u hx hu => ?_⟩ (glw hL)).mono fun e W' ⟨he,bel⟩ => ?_
 ·cases i with
  | zero => simp at hx hu; subst hx; subst hu; exact hvr
  | succ i => simp at hx
 subst he
 exact ⟨_,rfl,_,_,_,[],_,[],hW',trodAll_mk1 (shut_bool Tryz.underlying4 _),(trodAll_cons_mk (Below.trod prog_laid (by kernel_rfl) (of_decide_eq_true (by kernel_rfl)) k0 bel lt0) trodAll_mk0),rfl,bel.frame _,fun h => by cases h⟩

theorem frame (hM : ∀ zs : List Int,(∀ z ∈ zs,(Lit.int .i64 z).wf = true) → zs.length ≤ maxLen → Does Tryz.prog 7 [nums zs] [] fun v _ => v = .bool true) : Rows.ShedEarlySaid :=
 OpenClaim.holds_of_wide 7 Tryz.f7 rfl rfl rfl rfl rfl rfl rfl ⟨rfl, rfl, rfl, rfl, rfl⟩ rfl rfl rfl rfl rfl (by kernel_rfl) Tryz.func7 (by kernel_rfl)
  (of_decide_eq_true (by kernel_rfl)) (by unfold Func.isWrapper; first | (rw [if_pos (by decide +kernel)]; kernel_rfl) | (rw [if_neg (by decide +kernel)]; exact ⟨rfl,rfl⟩))
  (fun os started H enc _ => lifted hM os started H enc)
end shedEarly
end Go.Proofs.YtjjmhjmkdihmnaaGreatDoor
end
section
namespace Go.Proofs.YtjjmhjmkdihmnaaGreatDoor
open Go
set_option maxRecDepth 100000
theorem shedEarly_card (h : Rows.ShedEarlySaid) : Rows.ShedEarlyCardSaid :=
 Claim7.holds_tied_plain_at .later [] [.data] true (true, "b3fded3a67afa865d36bc59f57d365191d1fc101e0dca674230707b3974d87a0") false
  h (fun _ h => by cases h) (by kernel_rfl) (fun _ h => by cases h) shedEarly_row_tie rfl ⟨rfl,rfl⟩ (by kernel_rfl) rfl
  (fun f fn hf hfn => by
    obtain rfl : f = 7 := Option.some.inj ((show Tryz.prog.funcNamed "bateria/baterialaw08.ShedEarly" = some 7 by kernel_rfl).symm.trans hf) |>.symm
    obtain rfl : fn = Tryz.f7:=(Option.some.inj ((Tryz.func7).symm.trans hfn)).symm
    refine ⟨by kernel_rfl,fun j t ht => ?_⟩
    have hall : (Tryz.f7.params.toList.all fun t => !Tryz.prog.wantsStandIn t) = true:=by kernel_rfl
    have hm : t ∈ Tryz.f7.params.toList:=by
     rw [← Array.getElem?_toList] at ht
     exact List.mem_of_getElem? ht
    have hq:=List.all_eq_true.1 hall t hm
    show Tryz.prog.wantsStandIn t = false
    simpa using hq)
  (by kernel_rfl)
end Go.Proofs.YtjjmhjmkdihmnaaGreatDoor
end
