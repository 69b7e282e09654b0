/- Part 7 of what the law needs: own work, put together. -/
import Derived.ProofKit
import Derived.LaidMore
import Derived.LaidLaws
import Derived.LaidHandle
import Derived.Lib.LaidTab
import Derived.Stop.LaidErr
import Derived.OpenShut
import Derived.Stop.Joined
import Derived.Test.YtjjmhjmkdihmnaaGreatDoorRows
import Derived.Test.YtjjmhjmkdihmnaaGreatDoorTie
import Derived.Test.YtjjmhjmkdihmnaaGreatDoorCards
import Derived.SevenTiedAt
import Derived.Test.YtjjmhjmkdihmnaaGreatDoorJbZq5
set_option linter.unusedVariables false
set_option linter.unusedSimpArgs false
set_option maxRecDepth 10000
set_option maxHeartbeats 4000000
section
namespace Go.Proofs.YtjjmhjmkdihmnaaGreatDoor
open Go.RowKit
theorem aGI {α β : Type} {x : Option α} {k : α → Option β} (T : α → Prop) (Q : Option β → Prop) (h1 : ∃ v,x = some v ∧ T v) (h2 : ∀ v,T v → Q (k v)) : Q (x.bind k):=by
 obtain ⟨v,rfl,hv⟩:=h1
 exact h2 v hv
theorem wL {A B C ρ : Type} {body : (A → B → C → Option ρ) → A → B → C → Option ρ} (T : A → B → C → Option ρ → Prop) (P : A → B → C → Prop) (μ : A → B → C → Nat) (h : ∀ rec a b c,P a b c → (∀ a' b' c',P a' b' c' → μ a' b' c' < μ a b c → T a' b' c' (rec a' b' c')) → T a b c (body rec a b c)) : ∀ (N : Nat) (a : A) (b : B) (c : C),P a b c → μ a b c < N → T a b c (loop3 body N a b c)
 | 0,a,b,c,_,hm => absurd hm (Nat.not_lt_zero _)
 | n + 1,a,b,c,hp,hm => h (loop3 body n) a b c hp fun a' b' c' hp' hm' => wL T P μ h n a' b' c' hp' (by omega)
theorem exI {ρ : Type} {X : Option ρ} {A B : ρ → Prop} (h : ∃ v,X = some v ∧ A v) (k : ∀ v,A v → B v) : ∃ v,X = some v ∧ B v:=by
 obtain ⟨v,h1,h2⟩:=h
 exact ⟨v,h1,k v h2⟩
section
variable {s : aV} (hJ : GJ s.Jobs)
def GS (z : aF) (b : Bool) : Prop:=b = true → GD s hJ z ∧ ∀ j,j < s.Jobs.length → (toD z).pl j = true
def Cov (z : aF) (b : Bool) (w dd : Nat → Int) : Prop:=b = true ∧ lxE (keyT z) (keyP (bP s hJ) w dd)
structure ResS (z : aF) (b : Bool) (v : aF × Bool) : Prop where
 gs : GS hJ v.1 v.2
 mono : ∀ w dd,Cov hJ z b w dd → Cov hJ v.1 v.2 w dd
def Stp (d : aF) (k : Nat) (w0 : Int) : Prop:=(toD d).pl k = false ∧ (aftJ s.Jobs k = -1 ∨ (toD d).pl (aftJ s.Jobs k).toNat = true) ∧ dyL d.shifts_.l k ≤ max (rdyD (bP s hJ) (toD d) k) (freD (bP s hJ) (toD d) w0)
def CovS (d : aF) (k : Nat) (w0 : Int) (v : aF × Bool) : Prop:=Stp hJ d k w0 → ∀ w dd,(∀ y : Dr,Adds (bP s hJ) (toD d) k w0 (max (rdyD (bP s hJ) (toD d) k) (freD (bP s hJ) (toD d) w0)) y → Ext (bP s hJ) y w dd) → Cov hJ v.1 v.2 w dd
end
theorem GD.many_le {s : aV} {hJ : GJ s.Jobs} {d : aF} (h : GD s hJ d) : 0 ≤ d.many_ ∧ d.many_ ≤ (s.Jobs.length : Int):=by
 rw [h.many]
 have h1 : cntD s (toD d) ≤ smN (fun _ => 1) s.Jobs.length:=smN.mono _ _ _ fun i hi => by
  show (if (toD d).pl i = true then (1 : Int) else 0) ≤ 1
  split <;> omega
 have h2 : ∀ n,smN (fun _ => 1) n = (n : Int):=fun n => by
  induction n with
  | zero => rfl
  | succ n ih => rw [smN,ih]; omega
 have h3 : 0 ≤ cntD s (toD d):=smN.pos _ _ fun i hi => by
  show 0 ≤ (if (toD d).pl i = true then (1 : Int) else 0)
  split <;> omega
 rw [h2] at h1
 omega
theorem Ext.keyT {s : aV} {hJ : GJ s.Jobs} {d : aF} (h : GD s hJ d) {w dd : Nat → Int} (he : Ext (bP s hJ) (toD d) w dd) : lxE (keyT d) (keyP (bP s hJ) w dd):=by
 rw [h.key]; exact Ext.key h.di he
theorem DI.begin {s : aV} (hJ : GJ s.Jobs) {x : Dr} (hl : x.last = -1) (hp : ∀ j,x.pl j = false) (hw : ∀ j,x.w j = 0) (hd : ∀ j,j < s.Jobs.length → x.d j = max (rdyD (bP s hJ) x j) (gV x j)) (ho : ∀ j,s.Jobs.length ≤ j → x.d j = 0) : DI (bP s hJ) x :=
 ⟨fun j _ h => (by rw [hp] at h; cases h),fun j _ h => (by rw [hp] at h; cases h),fun j k _ _ _ h => (by rw [hp] at h; cases h),.inl ⟨hl,fun j _ => hp j⟩,fun j hj _ => ⟨hw j,hd j hj⟩,fun j hj => ⟨hw j,ho j hj⟩,fun j _ h => (by rw [hp] at h; cases h)⟩
def sO : bF:=⟨⟨0,0⟩,⟨0,0⟩,⟨0,0⟩,⟨0,0⟩,⟨0,0⟩,⟨0,0⟩,⟨0,0⟩⟩
theorem wI (j : Nat) : dyL sO.l j = 0 ∧ wkL sO.l j = 0:=by
 match j with
 | 0 | 1 | 2 | 3 | 4 | 5 | 6 => exact ⟨rfl,rfl⟩
 | n + 7 =>
  have : sO.l[n + 7]? = none:=List.getElem?_eq_none (by show 7 ≤ n + 7; omega)
  unfold dyL wkL
  rw [this]
  exact ⟨rfl,rfl⟩
theorem xK (j : Nat) : (((⟨false,false,false,false,false,false,false⟩ : bX).l)[j]?).getD false = false:=by
 match j with
 | 0 | 1 | 2 | 3 | 4 | 5 | 6 => rfl
 | n + 7 =>
  have : ((⟨false,false,false,false,false,false,false⟩ : bX).l)[n + 7]? = none:=List.getElem?_eq_none (by show 7 ≤ n + 7; omega)
  rw [this]; rfl
theorem aFI (N : Nat) (hN : 100 < N) {s : aV} (hJ : GJ s.Jobs) {p : aU} (hp : Plr s p) : ∃ y,dB N p ⟨sO,⟨false,false,false,false,false,false,false⟩,0,-1,0⟩ = some y ∧ GD s hJ y ∧ (toD y).last = -1 ∧ ∀ j,(toD y).pl j = false:=by
 obtain ⟨y, e, y1, y2, y3, y4, y5, y6, y7, y8⟩ := aFT N hN hJ hp ⟨sO, ⟨false, false, false, false, false, false, false⟩, 0, -1, 0⟩ (fun j _ => (wI j).1) (fun j => by
  have:=(wI j).1
  show 0 ≤ dyL sO.l j ∧ dyL sO.l j ≤ 10000
  omega) (fun j _ h => by
  have:=xK j
  have h : (((⟨false,false,false,false,false,false,false⟩ : bX).l)[j]?).getD false = true:=h
  rw [this] at h; cases h) (.inl rfl)
 have hpl : ∀ j,(toD y).pl j = false:=fun j => by
  show (y.planned_.l[j]?).getD false = false
  rw [y1]; exact xK j
 refine ⟨y,e,⟨DI.begin hJ y3 hpl (fun j => (y4 j).trans (wI j).2) (fun j hj => y6 j hj (xK j)) (fun j hj => (y5 j (.inl hj)).trans (wI j).1),?_,y8,y7⟩,y3,hpl⟩
 rw [y2]
 unfold cntD
 have key : ∀ n,smN (fun j => if (toD y).pl j = true then (1 : Int) else 0) n = 0:=fun n => by
  induction n with
  | zero => rfl
  | succ n ih => rw [smN,ih,hpl]; rfl
 rw [key]
theorem aEh (N : Nat) (hN : 100 < N) {s : aV} (hJ : GJ s.Jobs) {p : aU} (hp : Plr s p) (hal : ∀ j,j < s.Jobs.length → (fV s.Workers (skL s.Jobs j)).length ≤ 50) : ∃ y,eV N p = some y ∧ ∃ f,GS hJ y f ∧ ∀ w dd,Okp (bP s hJ) w dd → Tgt (bP s hJ) w dd → (∀ j,0 ≤ w j) → (∀ j,s.Jobs.length ≤ j → dd j = 0) → Cov hJ y f w dd:=by
 have hn:=hJ.len
 obtain ⟨d0,e0,g0,l0,p0⟩:=aFI N hN hJ hp
 unfold eV
 simp only [eC]
 rw [show dB N p (⟨(⟨(⟨0,0⟩ : aG),(⟨0,0⟩ : aG),(⟨0,0⟩ : aG),(⟨0,0⟩ : aG),(⟨0,0⟩ : aG),(⟨0,0⟩ : aG),(⟨0,0⟩ : aG)⟩ : bF),(⟨false,false,false,false,false,false,false⟩ : bX),0,(-1),0⟩ : aF) = some d0 from e0,Option.bind_some]
 refine aGI (T:=fun v => GS hJ v.1 v.2 ∧ ∀ w dd,Ext (bP s hJ) (toD d0) w dd → Cov hJ v.1 v.2 w dd) (fun o => ∃ y,o = some y ∧ ∃ f,GS hJ y f ∧ ∀ w dd,Okp (bP s hJ) w dd → Tgt (bP s hJ) w dd → (∀ j,0 ≤ w j) → (∀ j,s.Jobs.length ≤ j → dd j = 0) → Cov hJ y f w dd) ?_ (fun v hv => ⟨v.1,rfl,v.2,hv.1,fun w dd h1 h2 h3 h4 => hv.2 w dd ⟨h1,h2,h3,fun j _ h => (by rw [p0] at h; cases h),fun j _ _ => .inl l0,h4⟩⟩)
 refine (wL (fun d z b r => ∃ v,r = some v ∧ ResS hJ z b v ∧ ∀ w dd,Ext (bP s hJ) (toD d) w dd → Cov hJ v.1 v.2 w dd) (fun d z b => GD s hJ d ∧ GS hJ z b) (fun d z b => s.Jobs.length - d.many_.toNat) ?_ N d0 _ false ⟨g0,fun h => by cases h⟩ (by omega)).imp fun v hv => ⟨hv.1,hv.2.1.gs,hv.2.2⟩
 rintro rec d z b ⟨hd,hz⟩ ih
 have hmle:=hd.many_le
 by_cases hcut : b = true ∧ lxE (keyT z) (keyT d)
 ·obtain ⟨rfl,h⟩:=hcut
  obtain ⟨c,ec,hc⟩:=aAb N hN d z
  rw [cond_true,ec,Option.bind_some,decide_eq_true (hc.2 h),cond_true]
  exact ⟨(z,true),rfl,⟨hz,fun _ _ h => h⟩,fun w dd he => ⟨rfl,h.trans (Ext.keyT hd he)⟩⟩
 have hbetter : b = true → lxL (keyT d) (keyT z):=fun hb => by
  rcases lxL.tot (l:=keyT z) (m:=keyT d) rfl with h2 | h2
  ·exact absurd ⟨hb,h2⟩ hcut
  ·exact h2
 have esel : ∀ A B : Option (aF × Bool),(bif b then (gI N d z).bind fun r_31 => bif decide (r_31 ≥ 0) then A else B else bif false then A else B) = B:=by
  intro A B
  cases b with
  | false => rfl
  | true =>
   obtain ⟨c,ec,hc⟩:=aAb N hN d z
   have : ¬ c ≥ 0:=fun h => hcut ⟨rfl,hc.1 h⟩
   rw [cond_true,ec,Option.bind_some,decide_eq_false this,cond_false]
 rw [esel]
 by_cases hfull : d.many_ = (s.Jobs.length : Int)
 ·rw [hp.jobs,beq_iff_eq.2 hfull,cond_true]
  exact ⟨(d,true),rfl,⟨fun _ => ⟨hd,hd.full.1 hfull⟩,fun w dd h => ⟨rfl,.trans (.inr (hbetter h.1)) h.2⟩⟩,fun w dd he => ⟨rfl,Ext.keyT hd he⟩⟩
 rw [hp.jobs,beq_eq_false_iff_ne.2 hfull,cond_false]
 rw [show fR N p d = some (p,d) from rfl,Option.bind_some]
 dsimp only
 rw [hp.jobs]
 have hbdd:=hd.bdd
 have hpl7 : ∀ i,i < s.Jobs.length → getA d.planned_.l (i : Int) 7 = some ((toD d).pl i):=fun i hi => by
  have h7 : d.planned_.l[i]? = some (d.planned_.l[i]'(by show i < 7; omega)):=List.getElem?_eq_getElem _
  unfold getA
  rw [if_pos (by omega),Int.toNat_natCast,h7]
  show _ = some ((d.planned_.l[i]?).getD false)
  rw [h7]; rfl
 have hsh7 : ∀ i,i < s.Jobs.length → ∃ x,getA d.shifts_.l (i : Int) 7 = some x ∧ x.Day = dyL d.shifts_.l i:=fun i hi => by
  have h7 : d.shifts_.l[i]? = some (d.shifts_.l[i]'(by show i < 7; omega)):=List.getElem?_eq_getElem _
  exact ⟨_,by unfold getA; rw [if_pos (by omega),Int.toNat_natCast,h7],(qK h7).symm⟩
 -- the loop over jobs
 refine exI (A:=fun v => ResS hJ z b v ∧ ∀ k w0,0 ≤ k → k < s.Jobs.length → w0 ∈ fV s.Workers (skL s.Jobs k) → CovS hJ d k w0 v) (wL (fun y z b r => ∃ v,r = some v ∧ ResS hJ z b v ∧ ∀ k w0,y.toNat ≤ k → k < s.Jobs.length → w0 ∈ fV s.Workers (skL s.Jobs k) → CovS hJ d k w0 v) (fun y z b => GS hJ z b ∧ ∃ i : Nat,y = (i : Int) ∧ i ≤ s.Jobs.length) (fun y z b => s.Jobs.length - y.toNat) ?_ N 0 z b ⟨hz,0,rfl,Nat.zero_le _⟩ (by omega)) ?_
 ·rintro rec2 y z b ⟨hz,i,rfl,hi⟩ ih2
  by_cases hlt : i < s.Jobs.length
  ·rw [ltD hlt,cond_true,hpl7 i hlt,Option.bind_some]
   obtain ⟨v0,ev0,hv0,hk0⟩:=ih2 ((i + 1 : Nat) : Int) z b ⟨hz,i + 1,rfl,by omega⟩ (by omega)
   have skip : (∀ w0,¬ Stp hJ d i w0) → ∃ v,rec2 (IntKind.i64.wrap ((i : Int) + 1)) z b = some v ∧ ResS hJ z b v ∧ ∀ k w0,((i : Nat) : Int).toNat ≤ k → k < s.Jobs.length → w0 ∈ fV s.Workers (skL s.Jobs k) → CovS hJ d k w0 v:=by
    intro hno
    rw [nadd1 i (by omega)]
    refine ⟨v0,ev0,hv0,fun k w0 h1 h2 h3 => ?_⟩
    by_cases e : k = i
    ·subst e
     exact fun hs => absurd hs (hno w0)
    ·exact hk0 k w0 (by omega) h2 h3
   cases hpl : (toD d).pl i with
   | true =>
    rw [cond_true,cond_true]
    exact skip fun w0 hs => by rw [hs.1] at hpl; cases hpl
   | false =>
    rw [cond_false,aFe N hJ hp hlt,Option.bind_some]
    by_cases hw : aftJ s.Jobs i = -1 ∨ (toD d).pl (aftJ s.Jobs i).toNat = true
    ·rw [decide_eq_false (not_not_intro hw),cond_false,cM,hp.able i hlt,Option.bind_some]
     have hal':=hal i hlt
     generalize hA : fV s.Workers (skL s.Jobs i) = al at hal'
     refine exI (A:=fun v => ResS hJ z b v ∧ (∀ (m : Nat) w0,0 ≤ m → al[m]? = some w0 → CovS hJ d i w0 v) ∧ ∀ k w0,i + 1 ≤ k → k < s.Jobs.length → w0 ∈ fV s.Workers (skL s.Jobs k) → CovS hJ d k w0 v) (wL (fun y z b r => ∃ v,r = some v ∧ ResS hJ z b v ∧ (∀ (m : Nat) w0,y.toNat ≤ m → al[m]? = some w0 → CovS hJ d i w0 v) ∧ ∀ k w0,i + 1 ≤ k → k < s.Jobs.length → w0 ∈ fV s.Workers (skL s.Jobs k) → CovS hJ d k w0 v) (fun y z b => GS hJ z b ∧ ∃ j : Nat,y = (j : Int) ∧ j ≤ al.length) (fun y z b => al.length - y.toNat) ?_ N 0 z b ⟨hz,0,rfl,Nat.zero_le _⟩ (by omega)) ?_
     ·rintro rec3 y z b ⟨hz,j,rfl,hj⟩ ih3
      by_cases hjl : j < al.length
      ·have hwj : al[j]? = some al[j]:=List.getElem?_eq_getElem hjl
       have hmem : al[j] ∈ fV s.Workers (skL s.Jobs i):=by rw [hA]; exact List.getElem_mem hjl
       generalize al[j] = w0 at hwj hmem
       obtain ⟨x,ex,hx⟩:=hsh7 i hlt
       obtain ⟨m1,m2⟩:=aGD hd hlt hw w0
       rw [ltD hjl,cond_true,cM,hwj,Option.bind_some,aCY N hJ hp hbdd hlt,Option.bind_some,aGx N hN hJ hp hbdd,Option.bind_some,ex,Option.bind_some,ifmax,hx,nadd1 j (by omega)]
       by_cases hday : max (rdyD (bP s hJ) (toD d) i) (freD (bP s hJ) (toD d) w0) < dyL d.shifts_.l i
       ·rw [decide_eq_true hday,cond_true]
        obtain ⟨v,ev,hv,hm,hk⟩:=ih3 ((j + 1 : Nat) : Int) z b ⟨hz,j + 1,rfl,by omega⟩ (by omega)
        refine ⟨v,ev,hv,fun m w1 h1 h2 => ?_,hk⟩
        by_cases e : m = j
        ·subst e
         rw [hwj] at h2
         cases h2
         intro hs
         exact absurd hs.2.2 (by omega)
        ·exact hm m w1 (by omega) h2
       ·rw [decide_eq_false hday,cond_false]
        obtain ⟨y,ey,hadd,hmy,hdy,hby⟩:=aGf N hN hp hd hlt hpl (w:=w0) (day:=max (rdyD (bP s hJ) (toD d) i) (freD (bP s hJ) (toD d) w0)) ⟨m1,by omega⟩
        rw [ey,Option.bind_some]
        have hgy:=hd.add hlt hpl hw hmem rfl (by omega) hadd hmy hdy hby
        have hmle2:=hgy.many_le
        obtain ⟨v1,e1,hv1,hc1⟩:=ih y z b ⟨hgy,hz⟩ (by omega)
        rw [e1,Option.bind_some]
        obtain ⟨v,ev,hv,hm,hk⟩:=ih3 ((j + 1 : Nat) : Int) v1.1 v1.2 ⟨hv1.gs,j + 1,rfl,by omega⟩ (by omega)
        refine ⟨v,ev,⟨hv.gs,fun w dd h => hv.mono w dd (hv1.mono w dd h)⟩,fun m w1 h1 h2 => ?_,hk⟩
        by_cases e : m = j
        ·subst e
         rw [hwj] at h2
         cases h2
         intro hs w dd hP
         exact hv.mono w dd (hc1 w dd (hP (toD y) hadd))
        ·exact hm m w1 (by omega) h2
      ·have : j = al.length := by omega
       subst this
       rw [ltE,cond_false,nadd1 i (by omega)]
       obtain ⟨v,ev,hv,hk⟩:=ih2 ((i + 1 : Nat) : Int) z b ⟨hz,i + 1,rfl,by omega⟩ (by omega)
       refine ⟨v,ev,hv,fun m w0 h1 h2 => ?_,fun k w0 h1 => hk k w0 (by omega)⟩
       have:=(List.getElem?_eq_some_iff.1 h2).1
       omega
     ·rintro v ⟨h1,h2,h3⟩
      refine ⟨h1,fun k w0 q1 q2 q3 => ?_⟩
      by_cases e : k = i
      ·subst e
       rw [hA] at q3
       obtain ⟨m,hm⟩:=List.mem_iff_getElem?.1 q3
       exact h2 m w0 (Nat.zero_le _) hm
      ·exact h3 k w0 (by omega) q2 q3
    ·rw [decide_eq_true hw,cond_true]
     exact skip fun w0 hs => hw hs.2.1
  ·have : i = s.Jobs.length := by omega
   subst this
   rw [ltE,cond_false]
   exact ⟨(z,b),rfl,⟨hz,fun _ _ h => h⟩,fun k w0 h1 h2 => by omega⟩
 ·rintro v ⟨h1,h2⟩
  refine ⟨h1,fun w dd he => ?_⟩
  have hun : ∃ j,j < (bP s hJ).n ∧ (toD d).pl j = false:=by
   refine Classical.byContradiction fun hno => hfull (hd.full.2 fun j hj => ?_)
   cases hpj : (toD d).pl j with
   | true => rfl
   | false => exact absurd ⟨j,hj,hpj⟩ hno
  obtain ⟨k,k1,k2,k3,k4,k5,k6,k7⟩:=Ext.next hd.di he hun
  refine h2 k (w k) (Nat.zero_le _) k1 k4 ⟨k2,k3,?_⟩ w dd fun y hy => ?_
  ·rw [k5]; exact k6
  ·rw [k5] at hy; exact k7 y hy
end Go.Proofs.YtjjmhjmkdihmnaaGreatDoor
end
section
namespace Go.Proofs.YtjjmhjmkdihmnaaGreatDoor
open Go.RowKit
structure GW (s : aV) : Prop where
 jobs : GJ s.Jobs
 w0 : 0 < s.Workers.length
 w4 : s.Workers.length ≤ 4
theorem nX (N : Nat) (n a b : Int) : eJ N n a b = some (decide (a ≤ n ∧ n ≤ b)):=by
 unfold eJ
 by_cases h : n ≥ a
 ·rw [decide_eq_true h,cond_true]
  congr 1
  exact decide_eq_decide.2 ⟨fun h2 => ⟨h,h2⟩,fun h2 => h2.2⟩
 ·rw [decide_eq_false h,cond_false,decide_eq_false (fun h2 => h h2.1)]
theorem chkL {n : Nat} (Q : Nat → Prop) (E : Int → Prop) {K : Option Int} {body : (Int → Option Int) → Int → Option Int} (hend : ∀ rec,body rec (n : Int) = K) (hstep : ∀ rec (i : Nat),i < n → (¬ Q i ∧ ∃ e,E e ∧ body rec (i : Int) = some e) ∨ (Q i ∧ body rec (i : Int) = rec ((i + 1 : Nat) : Int))) : ∀ (N i : Nat),i ≤ n → n - i < N → (¬ (∀ j,i ≤ j → j < n → Q j) ∧ ∃ e,E e ∧ loop1 body N (i : Int) = some e) ∨ ((∀ j,i ≤ j → j < n → Q j) ∧ loop1 body N (i : Int) = K)
 | 0,_,_,h => absurd h (Nat.not_lt_zero _)
 | N + 1,i,hi,h => by
  show (_ ∧ ∃ e,E e ∧ body (loop1 body N) (i : Int) = some e) ∨ (_ ∧ body (loop1 body N) (i : Int) = K)
  by_cases hlt : i < n
  ·rcases hstep (loop1 body N) i hlt with ⟨h1,h2⟩ | ⟨h1,h2⟩
   ·exact .inl ⟨fun hq => h1 (hq i (Nat.le_refl _) hlt),h2⟩
   ·rw [h2]
    rcases chkL Q E hend hstep N (i + 1) (by omega) (by omega) with ⟨k1,k2⟩ | ⟨k1,k2⟩
    ·exact .inl ⟨fun hq => k1 fun j hj hj2 => hq j (by omega) hj2,k2⟩
    ·refine .inr ⟨fun j hj hj2 => ?_,k2⟩
     by_cases e : j = i
     ·subst e; exact h1
     ·exact k1 j (by omega) hj2
  ·have : i = n := by omega
   subst this
   exact .inr ⟨fun j h1 h2 => absurd h2 (by omega),hend _⟩
theorem chkZ {n : Nat} (Q : Nat → Prop) (E : Int → Prop) {K : Option Int} {body : (Int → Option Int) → Int → Option Int} {N : Nat} (hN : n < N) (hend : ∀ rec,body rec (n : Int) = K) (hstep : ∀ rec (i : Nat),i < n → (¬ Q i ∧ ∃ e,E e ∧ body rec (i : Int) = some e) ∨ (Q i ∧ body rec (i : Int) = rec ((i + 1 : Nat) : Int))) : (¬ (∀ j,j < n → Q j) ∧ ∃ e,E e ∧ loop1 body N 0 = some e) ∨ ((∀ j,j < n → Q j) ∧ loop1 body N 0 = K):=by
 rcases chkL Q E hend hstep N 0 (Nat.zero_le _) (by omega) with ⟨h1,h2⟩ | ⟨h1,h2⟩
 ·exact .inl ⟨fun h => h1 fun j _ => h j,h2⟩
 ·exact .inr ⟨fun j => h1 j (Nat.zero_le _),h2⟩
theorem aDx (N : Nat) (hN : 100 < N) {s : aV} (h : GW s) : iO N s = some 0:=by
 unfold iO
 have:=h.w0
 have:=h.w4
 have hn:=h.jobs.len
 simp only [eC]
 rw [beq_eq_false_iff_ne.2 (show ((s.Workers.length : Nat) : Int) ≠ 0 by omega),cond_false,decide_eq_false (show ¬ ((s.Workers.length : Nat) : Int) > 4 by omega),cond_false,decide_eq_false (show ¬ ((s.Jobs.length : Nat) : Int) > 7 by omega),cond_false]
 refine st1 s.Jobs.length _ (some 0) (fun rec => ?_) (fun rec i hi => ?_) N 0 (Nat.zero_le _) (by omega)
 ·rw [ltE,cond_false]
 ·have hx : s.Jobs[i]? = some s.Jobs[i]:=List.getElem?_eq_getElem hi
  have ha:=h.jobs.all _ (List.getElem_mem hi)
  generalize s.Jobs[i] = x at hx ha
  have e : gX N x = some 0:=by
   unfold gX
   rw [nX,Option.bind_some,decide_eq_true (by omega),Bool.not_true,cond_false,nX,Option.bind_some,decide_eq_true (by omega),Bool.not_true,cond_false,nX,Option.bind_some,decide_eq_true (by omega)]
   rfl
  rw [ltD hi,cond_true,cM,hx,Option.bind_some,e,Option.bind_some,nadd1 i (by omega)]
  rfl
def jH (s : aV) : Prop:=∀ j,j < s.Jobs.length → fV s.Workers (skL s.Jobs j) ≠ []
theorem aBn (N : Nat) (hN : 100 < N) {s : aV} (h : GW s) : (¬ jH s ∧ dM N s = some 7) ∨ (jH s ∧ dM N s = some 0):=by
 unfold dM
 have hn:=h.jobs.len
 rw [aDx N hN h,Option.bind_some]
 simp only [eC]
 rw [show ((0 : Int) != 0) = false from rfl,cond_false]
 refine (chkZ (n:=s.Jobs.length) (fun j => fV s.Workers (skL s.Jobs j) ≠ []) (fun e => e = 7) (by omega) (fun rec => ?_) (fun rec i hlt => ?_)).imp (fun ⟨h1,e,h2,h3⟩ => ⟨h1,h2 ▸ h3⟩) id
 ·rw [ltE,cond_false]
 ·have hx : s.Jobs[i]? = some s.Jobs[i]:=List.getElem?_eq_getElem hlt
  have hs : skL s.Jobs i = s.Jobs[i].Skill:=by simp [skL,hx]
  have ha:=h.jobs.all _ (List.getElem_mem hlt)
  obtain ⟨b1,b2⟩:=aAM (sk:=s.Jobs[i].Skill) (by omega) (by omega)
  rw [ltD hlt,cond_true,cM,hx,Option.bind_some,b1,Option.bind_some,b2,Option.bind_some,sD N hN s h.w4 (by omega) (by omega),Option.bind_some,nadd1 i (by omega),hs]
  by_cases hn : fV s.Workers s.Jobs[i].Skill = []
  ·rw [hn]; exact .inl ⟨fun h => h rfl,7,rfl,rfl⟩
  ·rw [beq_eq_false_iff_ne.2,cond_false]
   ·exact .inr ⟨hn,rfl⟩
   ·have:=List.length_pos_iff.2 hn
    omega
structure aCn (s : aV) (hJ : GJ s.Jobs) (l : List aG) (d : Int) : Prop where
 len : l.length = s.Jobs.length
 ok : Okp (bP s hJ) (wkL l) (dyL l)
 days : d = mxN (fun j => dyL l j + dsL s.Jobs j) s.Jobs.length
 small : ∀ j,j < s.Jobs.length → dyL l j + dsL s.Jobs j ≤ smN (dsL s.Jobs) s.Jobs.length
 min : ∀ w dd,Okp (bP s hJ) w dd → (∀ j,0 ≤ w j) → (∀ j,s.Jobs.length ≤ j → dd j = 0) → lxE (keyP (bP s hJ) (wkL l) (dyL l)) (keyP (bP s hJ) w dd)
theorem aDG {s : aV} (hJ : GJ s.Jobs) (ha : jH s) : ∃ w dd,Okp (bP s hJ) w dd ∧ (∀ j,0 ≤ w j) ∧ ∀ j,s.Jobs.length ≤ j → dd j = 0:=by
 have hm : ∀ a b,a ≤ b → b ≤ s.Jobs.length → smN (dsL s.Jobs) a ≤ smN (dsL s.Jobs) b:=by
  intro a b hab
  induction b with
  | zero => intro _; obtain rfl : a = 0:=(by omega); exact Int.le_refl _
  | succ b ih =>
   intro hb
   by_cases e : a = b + 1
   ·subst e; exact Int.le_refl _
   ·have := ih (by omega) (by omega)
    have:=(hJ.ds (j:=b) (by omega)).1
    rw [smN]; omega
 have hstep : ∀ a b,a < b → b ≤ s.Jobs.length → smN (dsL s.Jobs) a + dsL s.Jobs a ≤ smN (dsL s.Jobs) b:=fun a b hab hb => by
  have:=hm (a + 1) b (by omega) hb
  rw [smN] at this
  exact this
 refine ⟨fun j => (fV s.Workers (skL s.Jobs j)).headD 0,fun j => if j < s.Jobs.length then smN (dsL s.Jobs) j else 0,⟨fun j hj => ?_,fun j hj => ?_,fun j b hj hb => ?_,fun j k hj hk hne _ => ?_⟩,fun j => ?_,fun j hj => if_neg (by omega)⟩
 ·show List.headD _ 0 ∈ fV s.Workers (skL s.Jobs j)
  have:=ha j hj
  cases h : fV s.Workers (skL s.Jobs j) with
  | nil => exact absurd h this
  | cons x l => simp
 ·have hj : j < s.Jobs.length:=hj
  show 0 ≤ (if j < s.Jobs.length then smN (dsL s.Jobs) j else 0)
  rw [if_pos hj]
  have:=hm 0 j (by omega) (by omega)
  exact this
 ·have hj : j < s.Jobs.length:=hj
  have hbj : b < j:=by
   rcases lF (flL s.Jobs j) s.Jobs j with e | ⟨b',e,hb'⟩
   ·have hb : aftF (flL s.Jobs j) s.Jobs j = (b : Int):=hb
    omega
   ·have hb : aftF (flL s.Jobs j) s.Jobs j = (b : Int):=hb
    omega
  show (if b < s.Jobs.length then smN (dsL s.Jobs) b else 0) + dsL s.Jobs b ≤ (if j < s.Jobs.length then smN (dsL s.Jobs) j else 0)
  rw [if_pos (by omega),if_pos hj]
  exact hstep b j hbj (by omega)
 ·have hj : j < s.Jobs.length:=hj
  have hk : k < s.Jobs.length:=hk
  show (if j < s.Jobs.length then smN (dsL s.Jobs) j else 0) + dsL s.Jobs j ≤ (if k < s.Jobs.length then smN (dsL s.Jobs) k else 0) ∨ (if k < s.Jobs.length then smN (dsL s.Jobs) k else 0) + dsL s.Jobs k ≤ (if j < s.Jobs.length then smN (dsL s.Jobs) j else 0)
  rw [if_pos hj,if_pos hk]
  by_cases h : j < k
  ·exact .inl (hstep j k h (by omega))
  ·exact .inr (hstep k j (by omega) (by omega))
 ·show 0 ≤ List.headD (fV s.Workers (skL s.Jobs j)) 0
  cases h : fV s.Workers (skL s.Jobs j) with
  | nil => exact Int.le_refl _
  | cons x l =>
   have : x ∈ fV s.Workers (skL s.Jobs j):=by rw [h]; simp
   obtain ⟨k,_,rfl,_⟩:=oC.1 this
   exact Int.natCast_nonneg k
theorem aFb (N : Nat) (hN : 100 < N) {s : aV} (h : GW s) : (¬ jH s ∧ dY N s = some ([],0,7)) ∨ (jH s ∧ ∃ l d,dY N s = some (l,d,0) ∧ aCn s h.jobs l d):=by
 have hn:=h.jobs.len
 unfold dY
 rcases aBn N hN h with ⟨h1,h2⟩ | ⟨h1,h2⟩
 ·rw [h2]; exact .inl ⟨h1,rfl⟩
 ·rw [h2,Option.bind_some,show ((0 : Int) != 0) = false from rfl,cond_false]
  refine .inr ⟨h1,?_⟩
  obtain ⟨p,ep,hp⟩:=aBq N hN s h.jobs h.w4
  obtain ⟨y, ey, f, hgs, hcov⟩ := aEh N hN h.jobs hp (fun j hj => by
   have:=aAe s.Workers (skL s.Jobs j) s.Workers.length
   have:=h.w4
   show (sL _ _ _).length ≤ 50
   omega)
  rw [ep,Option.bind_some,ey,Option.bind_some]
  have hcut : cutL y.shifts_.l 7 ((s.Jobs.length : Nat) : Int) = some (y.shifts_.l.take s.Jobs.length):=by
   unfold cutL
   rw [if_pos ⟨by omega,by omega,by show (s.Jobs.length : Int) ≤ 7; omega⟩,Int.toNat_natCast]
  rw [hcut,Option.bind_some]
  have hcl : dA N (y.shifts_.l.take s.Jobs.length) = some (y.shifts_.l.take s.Jobs.length):=by
   unfold dA
   rw [iU (by rw [List.length_take]; simp; omega),List.nil_append]
  rw [hcl,Option.bind_some]
  -- any plan is covered,and there is one
  have hall : ∀ w dd,Okp (bP s h.jobs) w dd → (∀ j,0 ≤ w j) → (∀ j,s.Jobs.length ≤ j → dd j = 0) → f = true ∧ lxE (keyT y) (keyP (bP s h.jobs) w dd):=by
   intro w dd hok hw ho
   obtain ⟨d', a1, a2, a3, a4⟩ := Okp.tight (smN dd s.Jobs.length).toNat.succ dd (by
    have : 0 ≤ smN dd s.Jobs.length:=smN.pos _ _ hok.pos
    show smN dd s.Jobs.length < _
    omega) hok
   obtain ⟨c1,c2⟩:=hcov w d' a1 a2 hw (fun j hj => by rw [a4 j hj]; exact ho j hj)
   exact ⟨c1,c2.trans (keyP.mono a3)⟩
  obtain ⟨w0,dd0,p1,p2,p3⟩:=aDG h.jobs h1
  obtain ⟨rfl,_⟩:=hall w0 dd0 p1 p2 p3
  obtain ⟨gy,full⟩:=hgs rfl
  have hdy : dyL (y.shifts_.l.take s.Jobs.length) = dyL y.shifts_.l ∧ wkL (y.shifts_.l.take s.Jobs.length) = wkL y.shifts_.l:=by
   constructor
   ·funext j
    by_cases hj : j < s.Jobs.length
    ·unfold dyL; rw [List.getElem?_take_of_lt hj]
    ·have := (gy.di.out j (by show s.Jobs.length ≤ j; omega)).2
     have e : dyL y.shifts_.l j = 0:=this
     rw [e]
     unfold dyL
     rw [List.getElem?_eq_none (by rw [List.length_take]; omega)]
     rfl
   ·funext j
    by_cases hj : j < s.Jobs.length
    ·unfold wkL; rw [List.getElem?_take_of_lt hj]
    ·have := (gy.di.out j (by show s.Jobs.length ≤ j; omega)).1
     have e : wkL y.shifts_.l j = 0:=this
     rw [e]
     unfold wkL
     rw [List.getElem?_eq_none (by rw [List.length_take]; omega)]
     rfl
  refine ⟨_,_,rfl,?_,?_,?_,?_,?_⟩
  ·rw [List.length_take]; show min s.Jobs.length 7 = _; omega
  ·rw [hdy.1,hdy.2]; exact gy.di.full full
  ·rw [hdy.1]; exact gy.days
  ·intro j hj
   rw [hdy.1]
   have h5:=gy.di.sum j hj (full j hj)
   have h6 : smN (fun j => if (toD y).pl j = true then dsL s.Jobs j else 0) s.Jobs.length = smN (dsL s.Jobs) s.Jobs.length:=smN.eq _ _ _ fun i hi => by rw [full i hi]; rfl
   exact Int.le_trans h5 (Int.le_of_eq h6)
  ·intro w dd q1 q2 q3
   rw [hdy.1,hdy.2]
   have:=(hall w dd q1 q2 q3).2
   rw [gy.key] at this
   exact this
end Go.Proofs.YtjjmhjmkdihmnaaGreatDoor
end
section
namespace Go.Proofs.YtjjmhjmkdihmnaaGreatDoor
open Go.RowKit
theorem aFY (N : Nat) (d : aQ) : ∃ y d',hH N d = some (y,d') ∧ 0 ≤ y ∧ y < 2 ^ 64:=by
 refine ⟨_,_,rfl,?_⟩
 exact wu64 _
theorem wX (N : Nat) (d : aQ) (n : Int) (hn : n < 9223372036854775808) : ∃ r d',cQ N d n = some (r,d') ∧ 0 ≤ r ∧ (n < 2 → r = 0) ∧ (2 ≤ n → r < n):=by
 unfold cQ
 by_cases h2 : n < 2
 ·simp only [h2,decide_true,cond_true]
  exact ⟨0,d,rfl,by omega,fun _ => rfl,fun h => by omega⟩
 ·simp only [h2,decide_false,cond_false]
  obtain ⟨y,d',hy,h0,h1⟩:=aFY N d
  have hu : IntKind.u64.wrap n = n:=aFd (by omega) (by omega)
  have hnz : n ≠ 0:=by omega
  rw [hy,hu]
  simp only [Option.bind_some,nzI,hnz,if_false]
  have hsh : Int.fdiv y ((2 : Int) ^ (min (Int.toNat 1) (IntKind.bits .u64))) = y / 2:=by
   have : (2 : Int) ^ (min (Int.toNat 1) (IntKind.bits .u64)) = 2:=rfl
   rw [this,Int.fdiv_eq_ediv_of_nonneg _ (by omega)]
  rw [hsh]
  have hd0 : 0 ≤ y / 2:=by omega
  have hm : Int.tmod (y / 2) n = (y / 2) % n:=Int.tmod_eq_emod_of_nonneg hd0
  have hm0 : 0 ≤ (y / 2) % n:=Int.emod_nonneg _ hnz
  have hm1 : (y / 2) % n < n:=Int.emod_lt_of_pos _ (by omega)
  rw [hm,w64 (x:=y / 2 % n) (by omega) (by omega)]
  exact ⟨_,d',rfl,hm0,fun h => False.elim h,fun _ => hm1⟩
theorem aHf (N : Nat) (d : aQ) (l : List Int) (hl : l ≠ []) (hlen : l.length < 1000) : ∃ r d',iW N d l = some (r,d') ∧ r ∈ l:=by
 unfold iW
 have hpos : 0 < l.length:=List.length_pos_iff.2 hl
 have hb : (((l.length : Nat) : Int) == 0) = false:=by simp; omega
 rw [hb,cond_false]
 obtain ⟨r,d',h1,h2,h3,h4⟩:=wX N d ((l.length : Nat) : Int) (by omega)
 rw [h1]
 simp only [Option.bind_some]
 have hr : r < (l.length : Int):=by
  by_cases h : (l.length : Int) < 2
  ·rw [h3 h]; omega
  ·exact h4 (by omega)
 obtain ⟨x,e1,_,e3⟩:=aDl h2 hr
 rw [e1]
 exact ⟨x,d',rfl,e3⟩
theorem aEm (N : Nat) (d : aQ) (lo hi : Int) (h0 : -4611686018427387904 ≤ lo) (h1 : lo ≤ 4611686018427387903) (h2 : -4611686018427387904 ≤ hi) (h3 : hi ≤ 4611686018427387902) : ∃ r d',eK N d lo hi = some (r,d') ∧ lo ≤ r ∧ (lo ≤ hi → r ≤ hi) ∧ (hi < lo → r = lo):=by
 unfold eK
 rw [w64 (x:=hi - lo) (by omega) (by omega)]
 by_cases hc : hi - lo + 1 < 9223372036854775808
 ·rw [w64 (x := hi - lo + 1) (by omega) hc]
  obtain ⟨r,d',e1,e2,e3,e4⟩:=wX N d (hi - lo + 1) hc
  rw [e1]
  simp only [Option.bind_some]
  have hr : r ≤ hi - lo ∨ r = 0:=by
   by_cases h : hi - lo + 1 < 2
   ·exact .inr (e3 h)
   ·have:=e4 (by omega); exact .inl (by omega)
  rw [w64 (by omega) (by omega)]
  exact ⟨_, d', rfl, by omega, fun h => by omega, fun h => by
   have:=e3 (by omega)
   omega⟩
 ·omega
theorem aBE (N : Nat) (l : List Int) (rec : Int → Int → Option aQ) (i q : Int) (h : i < 9223372036854775807) (h0 : 0 ≤ i) (ih : ∀ b',∃ d,rec (i + 1) b' = some d) : ∃ d,((hH N (⟨q⟩ : aQ)).bind fun r_14 => (rec (IntKind.i64.wrap (i + 1)) r_14.2.beat_)) = some d:=by
 obtain ⟨y,d',g1,_,_⟩:=aFY N ⟨q⟩
 rw [g1,w64 (x:=i + 1) (by omega) (by omega)]
 exact ih _
theorem aEE (N : Nat) (l : List Int) (hN : l.length < N) (hl : l.length < 9223372036854775808) : ∃ d,lI N l = some d:=by
 unfold lI
 rw [eC]
 refine aDe (fun x => ∃ d,x = some d) (fun i b => 0 ≤ i ∧ i ≤ (l.length : Int)) (fun i b => l.length - i.toNat) ?_ N 0 _ ⟨by omega,by omega⟩ (by simpa using hN)
 rintro rec i b ⟨h0,h1⟩ ih
 by_cases hc : i < (l.length : Int)
 ·rw [show decide (i < ((l.length : Nat) : Int)) = true from decide_eq_true hc,cond_true]
  obtain ⟨x,e1,_,_⟩:=aDl h0 hc
  rw [e1,Option.bind_some,Option.bind_some]
  exact aBE N l rec i _ (by omega) h0 fun b' => ih _ _ ⟨by omega,by omega⟩ (by omega)
 ·rw [show decide (i < ((l.length : Nat) : Int)) = false from decide_eq_false hc,cond_false]
  exact ⟨_,rfl⟩
theorem aAi (N : Nat) (d : aQ) (n : Int) (h1 : 1 ≤ n) (hn : n < 9223372036854775808) : ∃ r d',cQ N d n = some (r,d') ∧ 0 ≤ r ∧ r < n:=by
 obtain ⟨r,d',e,h0,h2,h3⟩:=wX N d n hn
 refine ⟨r,d',e,h0,?_⟩
 by_cases h : n < 2
 ·rw [h2 h]; omega
 ·exact h3 (by omega)
end Go.Proofs.YtjjmhjmkdihmnaaGreatDoor
end
section
namespace Go.Proofs.YtjjmhjmkdihmnaaGreatDoor
open Go.RowKit
theorem aAj (N : Nat) (d : aQ) (n : Int) (hn : n < 9223372036854775808) : ∃ r d',dU N d n = some (r,d'):=by
 unfold dU
 obtain ⟨r,d',e,_⟩:=wX N d n hn
 rw [e,Option.bind_some]
 exact ⟨_,_,rfl⟩
structure Made (s : aV) (w j k : Int) : Prop where
 gw : GW s
 w : (s.Workers.length : Int) ≤ w
 j : (s.Jobs.length : Int) ≤ j
 k : ∀ x,x ∈ s.Jobs → x.Days ≤ k
 f : ∀ x,x ∈ s.Jobs → x.Float ≤ 2
theorem aEg (N : Nat) (hN : 100 < N) (d : aQ) (w j k : Int) (hw : 1 ≤ w ∧ w ≤ 4) (hj : 0 ≤ j ∧ j ≤ 7) (hk : 1 ≤ k ∧ k ≤ 30) : ∃ s d',lH N d w j k = some (s,d') ∧ Made s w j k:=by
 unfold lH
 simp only [eC]
 obtain ⟨n,d1,e1,n1,n2,_⟩:=aEm N d 1 w (by omega) (by omega) (by omega) (by omega)
 have n2:=n2 hw.1
 rw [e1,Option.bind_some,w64 (x:=j + 1) (by omega) (by omega)]
 refine aAm (fun r => ∃ s d',r = some (s,d') ∧ Made s w j k) (fun (i b : Int) (l : List aP) => 0 ≤ i ∧ (l.length : Int) + i = n) (fun i b l => i.toNat) ?_ N _ _ _ ⟨by show 0 ≤ n; omega,by simp⟩ (by show n.toNat < N; omega)
 rintro rec i b l ⟨hi,hl⟩ ih
 by_cases h0 : i > 0
 ·rw [decide_eq_true h0,cond_true]
  obtain ⟨r1,q1,a1⟩:=aAj N ⟨b⟩ 3 (by omega)
  obtain ⟨r2,q2,a2⟩:=aAj N q1 3 (by omega)
  obtain ⟨r3,q3,a3⟩:=aAj N q2 3 (by omega)
  rw [a1,Option.bind_some,a2,Option.bind_some,a3,Option.bind_some,iU (by simp; omega),Option.bind_some,w64 (by omega) (by omega)]
  exact ih _ _ _ ⟨by omega,by simp; omega⟩ (by omega)
 ·rw [decide_eq_false h0,cond_false]
  obtain ⟨m,d2,e2,m1,m2⟩:=aAi N ⟨b⟩ (j + 1) (by omega) (by omega)
  rw [e2,Option.bind_some]
  have hlw : (l.length : Int) = n:=by omega
  refine aAm (fun r => ∃ s d',r = some (s,d') ∧ Made s w j k) (fun (i b : Int) (J : List bN) => 0 ≤ i ∧ (J.length : Int) + i = m ∧ ∀ x,x ∈ J → (0 ≤ x.Float ∧ x.Float ≤ 6 ∧ 1 ≤ x.Skill ∧ x.Skill ≤ 3 ∧ 1 ≤ x.Days ∧ x.Days ≤ 30) ∧ x.Days ≤ k ∧ x.Float ≤ 2) (fun i b J => i.toNat) ?_ N _ _ _ ⟨m1,by simp,fun x hx => by simp at hx⟩ (by show m.toNat < N; omega)
  rintro rec2 i2 b2 J ⟨hi2,hJl,hJ⟩ ih2
  by_cases h2 : i2 > 0
  ·rw [decide_eq_true h2,cond_true]
   obtain ⟨x1,q1,a1,b1,c1⟩:=aAi N ⟨b2⟩ 3 (by omega) (by omega)
   obtain ⟨x2,q2,a2,b2',c2,_⟩:=aEm N q1 1 3 (by omega) (by omega) (by omega) (by omega)
   have c2:=c2 (by omega)
   obtain ⟨x3,q3,a3,b3,c3,_⟩:=aEm N q2 1 k (by omega) (by omega) (by omega) (by omega)
   have c3:=c3 hk.1
   rw [a1,Option.bind_some,a2,Option.bind_some,a3,Option.bind_some,iU (by simp; omega),Option.bind_some,w64 (by omega) (by omega)]
   refine ih2 _ _ _ ⟨by omega,by simp; omega,fun x hx => ?_⟩ (by omega)
   rcases List.mem_append.1 hx with hx | hx
   ·exact hJ x hx
   ·rw [List.mem_singleton] at hx
    subst hx
    exact ⟨⟨by show 0 ≤ x1; omega,by show x1 ≤ 6; omega,b2',c2,b3,by show x3 ≤ 30; omega⟩,c3,by show x1 ≤ 2; omega⟩
  ·rw [decide_eq_false h2,cond_false]
   exact ⟨_,_,rfl,⟨⟨by show J.length ≤ 7; omega,fun x hx => (hJ x hx).1⟩,by show 0 < l.length; omega,by show l.length ≤ 4; omega⟩,by show (l.length : Int) ≤ w; omega,by show (J.length : Int) ≤ j; omega,fun x hx => (hJ x hx).2.1,fun x hx => (hJ x hx).2.2⟩
structure wO (s : aV) (l : List aG) (j : Nat) : Prop where
 can : wkL l j ∈ fV s.Workers (skL s.Jobs j)
 day : 0 ≤ dyL l j ∧ dyL l j ≤ 400
 ord : aftJ s.Jobs j = -1 ∨ dyL l (aftJ s.Jobs j).toNat + dsL s.Jobs (aftJ s.Jobs j).toNat ≤ dyL l j
theorem aAL (N : Nat) (hN : 100 < N) {s : aV} (h : GW s) {l : List aG} (hl : l.length = s.Jobs.length) (hb : ∀ j,-1000000 ≤ dyL l j ∧ dyL l j ≤ 1000000) {j : Nat} (hj : j < s.Jobs.length) : (¬ wO s l j ∧ ∃ e,e ≠ 0 ∧ eO N s l (j : Int) = some e) ∨ (wO s l j ∧ eO N s l (j : Int) = some 0):=by
 have hn:=h.jobs.len
 have hw4:=h.w4
 have hw0:=h.w0
 have hx : l[j]? = some l[j]:=List.getElem?_eq_getElem (by omega)
 have hJx : s.Jobs[j]? = some s.Jobs[j]:=List.getElem?_eq_getElem hj
 have ha:=h.jobs.all _ (List.getElem_mem hj)
 have hsk : skL s.Jobs j = s.Jobs[j].Skill:=by simp [skL,hJx]
 have hwk:=wQ hx
 have hdy:=qK hx
 generalize l[j] = x at hx hwk hdy
 generalize s.Jobs[j] = y at hJx ha hsk
 unfold eO
 simp only [eC]
 rw [cM,hx,Option.bind_some,nX,Option.bind_some,w64 (by omega) (by omega)]
 by_cases hwi : 0 ≤ x.Worker ∧ x.Worker ≤ (s.Workers.length : Int) - 1
 ·rw [decide_eq_true hwi,Bool.not_true,cond_false]
  obtain ⟨k,hk⟩ : ∃ k : Nat,x.Worker = (k : Int):=⟨x.Worker.toNat,by omega⟩
  have hkl : k < s.Workers.length:=by omega
  have hv : s.Workers[k]? = some s.Workers[k]:=List.getElem?_eq_getElem hkl
  generalize s.Workers[k] = v at hv
  obtain ⟨b1,b2⟩:=aAM (sk:=y.Skill) (by omega) (by omega)
  rw [hk,cM,hv,Option.bind_some,cM,hJx,Option.bind_some,b1,Option.bind_some,b2,Option.bind_some,aBA N hN v (by omega) (by omega),Option.bind_some]
  have hmem : wkL l j ∈ fV s.Workers (skL s.Jobs j) ↔ canW v y.Skill = true:=by
   rw [hwk,hsk,hk,oC]
   constructor
   ·rintro ⟨k',v',e1,e2,e3⟩
    obtain rfl : k = k':=by omega
    rw [hv] at e2; cases e2; exact e3
   ·intro e; exact ⟨k,v,rfl,hv,e⟩
  cases hc : canW v y.Skill with
  | false =>
   refine .inl ⟨fun q => ?_,3,by decide,rfl⟩
   have:=hmem.1 q.can
   rw [hc] at this; cases this
  | true =>
   rw [Bool.not_true,cond_false,nX,Option.bind_some]
   by_cases hdi : 0 ≤ x.Day ∧ x.Day ≤ 400
   ·rw [decide_eq_true hdi,Bool.not_true,cond_false,vW N hN hn hj,Option.bind_some]
    by_cases haft : aftJ s.Jobs j = -1
    ·rw [haft]
     exact .inr ⟨⟨hmem.2 hc,by rw [hdy]; exact hdi,.inl haft⟩,rfl⟩
    ·rw [bne_iff_ne.2 haft,cond_true]
     rcases lF (flL s.Jobs j) s.Jobs j with e | ⟨b,e,hbl⟩
     ·exact absurd e haft
     ·have e : aftJ s.Jobs j = (b : Int):=e
      rw [e,zW N h.jobs (by omega) (by omega) (hb b),Option.bind_some]
      by_cases hlt : x.Day < dyL l b + dsL s.Jobs b
      ·rw [decide_eq_true hlt]
       refine .inl ⟨fun q => ?_,9,by decide,rfl⟩
       have:=q.ord
       rw [e,Int.toNat_natCast,hdy] at this
       omega
      ·rw [decide_eq_false hlt]
       refine .inr ⟨⟨hmem.2 hc,by rw [hdy]; exact hdi,.inr ?_⟩,rfl⟩
       rw [e,Int.toNat_natCast,hdy]
       omega
   ·rw [decide_eq_false hdi]
    refine .inl ⟨fun q => hdi ?_,2,by decide,rfl⟩
    have:=q.day
    rw [hdy] at this
    exact this
 ·rw [decide_eq_false hwi]
  refine .inl ⟨fun q => hwi ?_,7,by decide,rfl⟩
  obtain ⟨k,v,e1,e2,_⟩:=oC.1 q.can
  have:=(List.getElem?_eq_some_iff.1 e2).1
  rw [hwk] at e1
  omega
def yH (s : aV) (l : List aG) (a b : Nat) : Prop:=wkL l a = wkL l b ∧ dyL l a < dyL l b + dsL s.Jobs b ∧ dyL l b < dyL l a + dsL s.Jobs a
theorem aFF (N : Nat) {s : aV} (h : GW s) {l : List aG} (hl : l.length = s.Jobs.length) (hb : ∀ j,-1000000 ≤ dyL l j ∧ dyL l j ≤ 1000000) {a b : Nat} (ha : a < s.Jobs.length) (hb2 : b < s.Jobs.length) : (¬ yH s l a b ∧ fT N s.Jobs l (a : Int) (b : Int) = some false) ∨ (yH s l a b ∧ fT N s.Jobs l (a : Int) (b : Int) = some true):=by
 have h1 : l[a]? = some l[a]:=List.getElem?_eq_getElem (by omega)
 have h2 : l[b]? = some l[b]:=List.getElem?_eq_getElem (by omega)
 unfold fT yH
 rw [wQ h1,wQ h2,zW N h.jobs hb2 (by omega) (hb b),zW N h.jobs ha (by omega) (hb a),qK h1,qK h2]
 rw [cM,h1,Option.bind_some,cM,h2,Option.bind_some]
 generalize l[a] = x
 generalize l[b] = y
 by_cases c1 : x.Worker = y.Worker
 ·rw [beq_iff_eq.2 c1,cond_true,Option.bind_some,Option.bind_some]
  by_cases c2 : x.Day < y.Day + dsL s.Jobs b
  ·rw [decide_eq_true c2,cond_true,Option.bind_some,Option.bind_some]
   by_cases c3 : y.Day < x.Day + dsL s.Jobs a
   ·rw [decide_eq_true c3]; exact .inr ⟨⟨c1,c2,c3⟩,rfl⟩
   ·rw [decide_eq_false c3]; exact .inl ⟨fun q => c3 q.2.2,rfl⟩
  ·rw [decide_eq_false c2]; exact .inl ⟨fun q => c2 q.2.1,rfl⟩
 ·rw [beq_eq_false_iff_ne.2 c1]; exact .inl ⟨fun q => c1 q.1,rfl⟩
structure nU (s : aV) (l : List aG) : Prop where
 len : l.length = s.Jobs.length
 sh : ∀ j,j < s.Jobs.length → wO s l j
 cl : ∀ j,j < s.Jobs.length → ∀ k,k < j → ¬ yH s l j k
theorem chkT {n : Nat} (Q : Nat → Prop) (E : Int → Prop) {K R : Option Int} {body : (Int → Option Int) → Int → Option Int} {N : Nat} {A : Prop} (hN : n < N) (hend : ∀ rec,body rec (n : Int) = K) (hstep : ∀ rec (i : Nat),i < n → (¬ Q i ∧ ∃ e,E e ∧ body rec (i : Int) = some e) ∨ (Q i ∧ body rec (i : Int) = rec ((i + 1 : Nat) : Int))) (hA : ¬ (∀ j,j < n → Q j) → ¬ A) (hK : (∀ j,j < n → Q j) → (¬ A ∧ ∃ e,E e ∧ K = some e) ∨ (A ∧ K = R)) : (¬ A ∧ ∃ e,E e ∧ loop1 body N 0 = some e) ∨ (A ∧ loop1 body N 0 = R):=by
 rcases chkZ Q E hN hend hstep with ⟨q1,q2⟩ | ⟨q1,q2⟩
 ·exact .inl ⟨hA q1,q2⟩
 ·rw [q2]; exact hK q1
theorem aBT (N : Nat) (hN : 100 < N) {s : aV} (h : GW s) {l : List aG} (hb : ∀ j,-1000000 ≤ dyL l j ∧ dyL l j ≤ 1000000) : (¬ nU s l ∧ ∃ e,e ≠ 0 ∧ fE N s l = some e) ∨ (nU s l ∧ fE N s l = some 0):=by
 have hn:=h.jobs.len
 unfold fE
 simp only [eC]
 by_cases hl : l.length = s.Jobs.length
 ·rw [show (((l.length : Nat) : Int) != ((s.Jobs.length : Nat) : Int)) = false from by rw [hl]; simp, cond_false]
  rw [hl]
  -- the second loop
  have second := chkZ (n := s.Jobs.length) (fun j => ∀ k, k < j → ¬ yH s l j k) (fun e => e ≠ 0) (K := some (0 : Int)) (N := N) (body := fun rec_18 (y_17 : Int) => (bif (decide (y_17 < ((s.Jobs.length : Nat) : Int))) then (loop1 (fun rec_26 (y_25 : Int) => (bif (decide (y_25 < y_17)) then ((fT N s.Jobs l y_17 y_25).bind fun r_30 => (bif r_30 then some 10 else (rec_26 (IntKind.i64.wrap (y_25 + 1))))) else (rec_18 (IntKind.i64.wrap (y_17 + 1))))) N 0) else some 0)) (by omega) (fun rec => by rw [ltE, cond_false]) (fun rec i hi => by
   rw [ltD hi,cond_true]
   rcases chkZ (n := i) (fun k => ¬ yH s l i k) (fun e => e ≠ 0) (K := rec ((i + 1 : Nat) : Int)) (N := N) (body := fun rec_26 (y_25 : Int) => (bif (decide (y_25 < (i : Int))) then ((fT N s.Jobs l (i : Int) y_25).bind fun r_30 => (bif r_30 then some 10 else (rec_26 (IntKind.i64.wrap (y_25 + 1))))) else (rec (IntKind.i64.wrap ((i : Int) + 1))))) (by omega) (fun rec2 => by rw [ltE, cond_false, nadd1 i (by omega)]) (fun rec2 k hk => by
    rw [ltD hk,cond_true]
    rcases aFF N h hl hb (a:=i) (b:=k) hi (by omega) with ⟨q1,q2⟩ | ⟨q1,q2⟩
    ·rw [q2, Option.bind_some, cond_false, nadd1 k (by omega)]
     exact .inr ⟨q1,rfl⟩
    ·rw [q2,Option.bind_some,cond_true]
     exact .inl ⟨fun q => q q1, 10, by decide, rfl⟩) with q | q
   ·exact .inl q
   ·exact .inr q)
  refine chkT (n:=s.Jobs.length) (fun j => wO s l j) (fun e => e ≠ 0) (by omega) (fun rec => ?_) (fun rec i hi => ?_) (fun hq q => hq q.sh) (fun q1 => second.imp (fun r => ⟨fun q => r.1 q.cl,r.2⟩) fun r => ⟨⟨hl,q1,r.1⟩,r.2⟩)
  ·rw [ltE,cond_false]
  ·rw [ltD hi,cond_true]
   rcases aAL N hN h hl hb hi with ⟨q1,e,q2,q3⟩ | ⟨q1,q3⟩
   ·rw [q3,Option.bind_some,bne_iff_ne.2 q2,cond_true]
    exact .inl ⟨q1,e,q2,rfl⟩
   ·rw [q3, Option.bind_some, show ((0 : Int) != 0) = false from rfl, cond_false, nadd1 i (by omega)]
    exact .inr ⟨q1,rfl⟩
 ·rw [bne_iff_ne.2 (by omega), cond_true]
  exact .inl ⟨fun q => hl q.len,1,by decide,rfl⟩
theorem aDs (N : Nat) (hN : 100 < N) {s : aV} (h : GW s) {l : List aG} (hb : ∀ j,-1000000 ≤ dyL l j ∧ dyL l j ≤ 1000000) : (¬ nU s l ∧ ∃ e,e ≠ 0 ∧ gS N s l = some (0,e)) ∨ (nU s l ∧ gS N s l = some (mxN (fun j => dyL l j + dsL s.Jobs j) s.Jobs.length,0)):=by
 unfold gS
 rw [aDx N hN h,Option.bind_some,show ((0 : Int) != 0) = false from rfl,cond_false]
 rcases aBT N hN h hb with ⟨q1,e,q2,q3⟩ | ⟨q1,q3⟩
 ·rw [q3,Option.bind_some,bne_iff_ne.2 q2,cond_true]
  exact .inl ⟨q1,e,q2,rfl⟩
 ·rw [q3, Option.bind_some, show ((0 : Int) != 0) = false from rfl, cond_false, aDj N hN h.jobs (by rw [q1.len]; exact Nat.le_refl _) (fun j _ => hb j), Option.bind_some]
  exact .inr ⟨q1,rfl⟩
theorem nU.okp {s : aV} (h : GW s) {l : List aG} (hp : nU s l) : Okp (bP s h.jobs) (wkL l) (dyL l):=by
 refine ⟨fun j hj => (hp.sh j hj).can,fun j hj => (hp.sh j hj).day.1,fun j b hj hb => ?_,fun j k hj hk hne hw => ?_⟩
 ·have hb : aftJ s.Jobs j = (b : Int):=hb
  rcases (hp.sh j hj).ord with e | e
  ·omega
  ·rw [hb,Int.toNat_natCast] at e; exact e
 ·have key : ∀ j k,j < s.Jobs.length → k < j → wkL l j = wkL l k → dyL l j + dsL s.Jobs j ≤ dyL l k ∨ dyL l k + dsL s.Jobs k ≤ dyL l j:=by
   intro j k hj hk hw
   have:=hp.cl j hj k hk
   unfold yH at this
   by_cases c : dyL l j < dyL l k + dsL s.Jobs k
   ·by_cases c2 : dyL l k < dyL l j + dsL s.Jobs j
    ·exact absurd ⟨hw,c,c2⟩ this
    ·exact .inl (by omega)
   ·exact .inr (by omega)
  by_cases c : k < j
  ·exact key j k hj c hw
  ·exact (key k j hk (by omega) hw.symm).symm
theorem nU.of {s : aV} (h : GW s) {l : List aG} (hl : l.length = s.Jobs.length) (hok : Okp (bP s h.jobs) (wkL l) (dyL l)) (h4 : ∀ j,j < s.Jobs.length → dyL l j ≤ 400) : nU s l:=by
 refine ⟨hl,fun j hj => ⟨hok.can j hj,⟨hok.pos j hj,h4 j hj⟩,?_⟩,fun j hj k hk => ?_⟩
 ·by_cases e : aftJ s.Jobs j = -1
  ·exact .inl e
  ·rcases lF (flL s.Jobs j) s.Jobs j with e2 | ⟨b,e2,hb⟩
   ·exact absurd e2 e
   ·have e2 : aftJ s.Jobs j = (b : Int):=e2
    rw [e2,Int.toNat_natCast]
    exact .inr (hok.ord j b hj e2)
 ·rintro ⟨c1,c2,c3⟩
  have c:=hok.cl j k hj (by show k < s.Jobs.length; omega) (by omega) c1
  rcases c with c | c
  ·have c : dyL l j + dsL s.Jobs j ≤ dyL l k:=c
   omega
  ·have c : dyL l k + dsL s.Jobs k ≤ dyL l j:=c
   omega
end Go.Proofs.YtjjmhjmkdihmnaaGreatDoor
end
section
namespace Go.Proofs.YtjjmhjmkdihmnaaGreatDoor
open Go.RowKit
theorem smN.add (f g : Nat → Int) : ∀ n,smN (fun j => f j + g j) n = smN f n + smN g n
 | 0 => rfl
 | n + 1 => by rw [smN,smN,smN,smN.add f g n]; omega
theorem smN.zero (f : Nat → Int) : ∀ n,(∀ j,j < n → f j = 0) → smN f n = 0
 | 0,_ => rfl
 | n + 1,h => by rw [smN,smN.zero f n (fun j hj => h j (by omega)),h n (by omega)]; rfl
def sumF (J : List bN) (f : Int) : Nat → Int:=smN fun j => if flL J j = f then dsL J j else 0
theorem aCS {s : aV} (hJ : GJ s.Jobs) {w d : Nat → Int} (h : Okp (bP s hJ) w d) (f : Int) : ∀ i,i ≤ s.Jobs.length → (aftF f s.Jobs i = -1 ∧ sumF s.Jobs f i = 0) ∨ ∃ b : Nat,aftF f s.Jobs i = (b : Int) ∧ b < i ∧ sumF s.Jobs f i ≤ d b + dsL s.Jobs b
 | 0,_ => .inl ⟨rfl,rfl⟩
 | i + 1,hi => by
  have ih:=aCS hJ h f i (by omega)
  have e : sumF s.Jobs f (i + 1) = sumF s.Jobs f i + (if flL s.Jobs i = f then dsL s.Jobs i else 0):=rfl
  rw [e]
  unfold aftF
  by_cases hf : flL s.Jobs i = f
  ·rw [if_pos hf,if_pos hf]
   refine .inr ⟨i,rfl,by omega,?_⟩
   have h0:=h.pos i (by show i < s.Jobs.length; omega)
   rcases ih with ⟨_,e2⟩ | ⟨b,e1,hb,e2⟩
   ·omega
   ·have ho : d b + dsL s.Jobs b ≤ d i := h.ord i b (by show i < s.Jobs.length; omega) (by show aftF (flL s.Jobs i) s.Jobs i = _; rw [hf]; exact e1)
    omega
  ·rw [if_neg hf,if_neg hf]
   rcases ih with ⟨e1,e2⟩ | ⟨b,e1,hb,e2⟩
   ·exact .inl ⟨e1,by omega⟩
   ·exact .inr ⟨b,e1,by omega,by omega⟩
theorem aGp (n : Nat) (A : Nat → Bool) (d : Nat → Int) : (∀ j,j < n → A j = false) ∨ ∃ m,m < n ∧ A m = true ∧ ∀ j,j < n → A j = true → d j ≤ d m:=by
 induction n with
 | zero => exact .inl fun j hj => absurd hj (Nat.not_lt_zero _)
 | succ n ih =>
  cases hA : A n with
  | false =>
   rcases ih with h | ⟨m,m1,m2,m3⟩
   ·refine .inl fun j hj => ?_
    by_cases e : j = n
    ·subst e; exact hA
    ·exact h j (by omega)
   ·refine .inr ⟨m, by omega, m2, fun j hj hj2 => ?_⟩
    by_cases e : j = n
    ·subst e; rw [hA] at hj2; cases hj2
    ·exact m3 j (by omega) hj2
  | true =>
   rcases ih with h | ⟨m,m1,m2,m3⟩
   ·refine .inr ⟨n, by omega, hA, fun j hj hj2 => ?_⟩
    by_cases e : j = n
    ·subst e; exact Int.le_refl _
    ·rw [h j (by omega)] at hj2; cases hj2
   ·by_cases hlt : d m ≤ d n
    ·refine .inr ⟨n, by omega, hA, fun j hj hj2 => ?_⟩
     by_cases e : j = n
     ·subst e; exact Int.le_refl _
     ·have:=m3 j (by omega) hj2; omega
    ·refine .inr ⟨m, by omega, m2, fun j hj hj2 => ?_⟩
     by_cases e : j = n
     ·subst e; omega
     ·exact m3 j (by omega) hj2
theorem fitT {n : Nat} (D d : Nat → Int) : ∀ (K : Nat) (T : Int) (A : Nat → Bool),0 ≤ T → T < (K : Int) → (∀ j,j < n → A j = true → 1 ≤ D j ∧ 0 ≤ d j ∧ d j + D j ≤ T) → (∀ j k,j < n → k < n → j ≠ k → A j = true → A k = true → d j + D j ≤ d k ∨ d k + D k ≤ d j) → smN (fun j => if A j = true then D j else 0) n ≤ T
 | 0,T,A,h0,hK,_,_ => by omega
 | K + 1,T,A,h0,hK,hb,hd => by
  rcases aGp n A d with h | ⟨m,m1,m2,m3⟩
  ·rw [smN.zero _ n (fun j hj => by rw [h j hj]; rfl)]; exact h0
  ·obtain ⟨b1,b2,b3⟩:=hb m m1 m2
   have ih := fitT D d K (d m) (fun j => A j && !(Nat.beq j m)) b2 (by omega) (fun j hj hA => by
    simp only [Bool.and_eq_true,Bool.not_eq_true'] at hA
    obtain ⟨q1,q2,q3⟩:=hb j hj hA.1
    have hne : j ≠ m:=fun e => by subst e; rw [Nat.beq_refl] at hA; cases hA.2
    refine ⟨q1,q2,?_⟩
    have:=m3 j hj hA.1
    rcases hd j m hj m1 hne hA.1 m2 with c | c <;> omega) (fun j k hj hk hne hA hA2 => by
    simp only [Bool.and_eq_true] at hA hA2
    exact hd j k hj hk hne hA.1 hA2.1)
   have e := smN.one (fun j => if A j = true then D j else 0) (fun j => if (A j && !(Nat.beq j m)) = true then D j else 0) n m m1 (fun i hi hne => by
    have : Nat.beq i m = false:=by
     cases hc : Nat.beq i m with
     | false => rfl
     | true => exact absurd (Nat.eq_of_beq_eq_true hc) hne
    simp [this])
   have hm : (Nat.beq m m) = true:=Nat.beq_refl m
   simp only [m2,hm,Bool.not_true,Bool.and_false,Bool.false_eq_true,if_true,if_false] at e
   omega
theorem fitG {n : Nat} (D d w : Nat → Int) (T : Int) (h0 : 0 ≤ T) : ∀ (G : List Int) (A : Nat → Bool),(∀ j,j < n → A j = true → w j ∈ G) → (∀ j,j < n → A j = true → 1 ≤ D j ∧ 0 ≤ d j ∧ d j + D j ≤ T) → (∀ j k,j < n → k < n → j ≠ k → w j = w k → d j + D j ≤ d k ∨ d k + D k ≤ d j) → smN (fun j => if A j = true then D j else 0) n ≤ (G.length : Int) * T
 | [],A,hG,_,_ => by
  rw [smN.zero _ n (fun j hj => by
   cases hA : A j with
   | false => rfl
   | true => have := hG j hj hA; simp at this)]
  simp
 | g :: G,A,hG,hb,hd => by
  have h1 := fitT (n := n) D d (T.toNat + 1) T (fun j => A j && decide (w j = g)) h0 (by omega) (fun j hj hA => by
   simp only [Bool.and_eq_true] at hA
   exact hb j hj hA.1) (fun j k hj hk hne hA hA2 => by
   simp only [Bool.and_eq_true,decide_eq_true_eq] at hA hA2
   exact hd j k hj hk hne (by rw [hA.2, hA2.2]))
  have h2 := fitG D d w T h0 G (fun j => A j && !decide (w j = g)) (fun j hj hA => by
   simp only [Bool.and_eq_true,Bool.not_eq_true',decide_eq_false_iff_not] at hA
   have:=hG j hj hA.1
   rcases List.mem_cons.1 this with e | e
   ·exact absurd e hA.2
   ·exact e) (fun j hj hA => by
   simp only [Bool.and_eq_true] at hA
   exact hb j hj hA.1) hd
  have e : smN (fun j => if A j = true then D j else 0) n = smN (fun j => if (A j && decide (w j = g)) = true then D j else 0) n + smN (fun j => if (A j && !decide (w j = g)) = true then D j else 0) n:=by
   rw [← smN.add]
   refine smN.eq _ _ _ fun j hj => ?_
   cases A j <;> by_cases hw : w j = g <;> simp [hw]
  rw [e]
  have : ((g :: G).length : Int) * T = T + (G.length : Int) * T:=by
   rw [List.length_cons]
   have : ((G.length + 1 : Nat) : Int) = 1 + (G.length : Int):=by omega
   rw [this,Int.add_mul,Int.one_mul]
  omega
theorem aCv (N : Nat) (hN : 100 < N) {J : List bN} (hJ : GJ J) (f : Int) : cB N J f = some (sumF J f J.length):=by
 unfold cB
 simp only [eC]
 have hn:=hJ.len
 have hbd : ∀ i,i ≤ J.length → 0 ≤ sumF J f i ∧ sumF J f i ≤ 30 * (i : Int):=by
  intro i
  induction i with
  | zero => intro _; exact ⟨Int.le_refl _,Int.le_refl _⟩
  | succ i ih =>
   intro hi
   have:=ih (by omega)
   have:=hJ.ds (j:=i) (by omega)
   have e : sumF J f (i + 1) = sumF J f i + (if flL J i = f then dsL J i else 0):=rfl
   rw [e]
   split <;> omega
 refine st2z' J.length (fun i => sumF J f i) rfl (by omega) (fun rec => ?_) (fun rec i hi => ?_)
 ·rw [ltE,cond_false]
 ·have hx : J[i]? = some J[i]:=List.getElem?_eq_getElem hi
  have hd:=xM hx
  have hf : flL J i = J[i].Float:=by simp [flL,hx]
  have hb:=hbd i (by omega)
  have hb2:=hJ.ds hi
  rw [hd] at hb2
  rw [ltD hi,cond_true,cM,hx,Option.bind_some]
  unfold fL
  rw [Option.bind_some,nadd1 i (by omega)]
  show _ = rec (sumF J f i + (if flL J i = f then dsL J i else 0)) _
  rw [hd,hf]
  by_cases hc : J[i].Float = f
  ·rw [beq_iff_eq.2 hc,cond_true,if_pos hc,w64 (by omega) (by omega)]
  ·rw [beq_eq_false_iff_ne.2 hc,cond_false,if_neg hc,Int.add_zero]
theorem xC (N : Nat) (hN : 100 < N) {s : aV} (hJ : GJ s.Jobs) : eW N s = some (mxN (fun f => sumF s.Jobs (f : Int) s.Jobs.length) 7):=by
 unfold eW
 simp only [eC]
 refine st2z' 7 (fun i => mxN (fun f => sumF s.Jobs (f : Int) s.Jobs.length) i) rfl (by omega) (fun rec => ?_) (fun rec i hi => ?_)
 ·rfl
 ·rw [decide_eq_true (show ((i : Nat) : Int) < 7 by omega), cond_true, aCv N hN hJ, Option.bind_some, nadd1 i (by omega), ifmax]
  rfl
def anyW (x : aP) (m : Nat) : Bool:=(x.Weld && m.testBit 0) || ((x.Carve && m.testBit 1) || (x.Paint && m.testBit 2))
def inM (sk : Int) (m : Nat) : Bool:=m.testBit (sk.toNat - 1)
theorem aEu (N : Nat) (hN : 100 < N) (x : aP) {m : Nat} (h1 : 1 ≤ m) (h7 : m ≤ 7) : hC N x (m : Int) = some (anyW x m):=by
 obtain ⟨M,rfl⟩ : ∃ M,N = M + 10:=⟨N - 10,by omega⟩
 have hs : m = 1 ∨ m = 2 ∨ m = 3 ∨ m = 4 ∨ m = 5 ∨ m = 6 ∨ m = 7:=by omega
 obtain ⟨w,c,p⟩:=x
 rcases hs with rfl | rfl | rfl | rfl | rfl | rfl | rfl <;> cases w <;> cases c <;> cases p <;> rfl
theorem in_c (N : Nat) (y : bN) (hy : 1 ≤ y.Skill ∧ y.Skill ≤ 3) {m : Nat} (h1 : 1 ≤ m) (h7 : m ≤ 7) : dS N y (m : Int) = some (inM y.Skill m):=by
 obtain ⟨b1,b2⟩:=aAM hy.1 hy.2
 unfold dS
 rw [b1,Option.bind_some,b2,Option.bind_some]
 have hs : m = 1 ∨ m = 2 ∨ m = 3 ∨ m = 4 ∨ m = 5 ∨ m = 6 ∨ m = 7:=by omega
 have hk : y.Skill = 1 ∨ y.Skill = 2 ∨ y.Skill = 3:=by omega
 generalize y.Skill = k at hk
 rcases hs with rfl | rfl | rfl | rfl | rfl | rfl | rfl <;> rcases hk with rfl | rfl | rfl <;> rfl
def gB (W : List aP) (m : Nat) (i : Nat) : List Int:=((List.range i).filter fun k => (W[k]?.map fun x => anyW x m).getD false).map fun (k : Nat) => (k : Int)
theorem aBB (W : List aP) (m : Nat) (i : Nat) (x : aP) (h : W[i]? = some x) : gB W m (i + 1) = if anyW x m then gB W m i ++ [(i : Int)] else gB W m i:=by
 unfold gB
 rw [List.range_succ,List.filter_append,List.map_append]
 cases hc : anyW x m <;> simp [h,hc]
theorem xH (W : List aP) (m : Nat) (i : Nat) : (gB W m i).length ≤ i:=by
 unfold gB
 rw [List.length_map]
 exact Nat.le_trans (List.length_filter_le _ _) (by simp)
theorem aFy (N : Nat) (hN : 100 < N) (s : aV) (hW : s.Workers.length ≤ 4) {m : Nat} (h1 : 1 ≤ m) (h7 : m ≤ 7) : cG N s (m : Int) = some (gB s.Workers m s.Workers.length):=by
 unfold cG
 simp only [eC]
 refine st2z' s.Workers.length (fun i => gB s.Workers m i) rfl (by omega) (fun rec => ?_) (fun rec i hi => ?_)
 ·rw [ltE,cond_false]
 ·have hx : s.Workers[i]? = some s.Workers[i]:=List.getElem?_eq_getElem hi
  rw [ltD hi,cond_true,cM,hx,Option.bind_some,aEu N hN _ h1 h7,Option.bind_some,nadd1 i (by omega),aBB _ _ _ _ hx]
  have:=xH s.Workers m i
  cases hc : anyW s.Workers[i] m with
  | true => rw [cond_true,iU (by simp; omega),Option.bind_some]; rfl
  | false => rw [cond_false]; rfl
theorem aDL {W : List aP} {m : Nat} {k : Nat} {x : aP} (h : W[k]? = some x) (hc : anyW x m = true) : (k : Int) ∈ gB W m W.length:=by
 unfold gB
 simp only [List.mem_map,List.mem_filter,List.mem_range]
 exact ⟨k,⟨(List.getElem?_eq_some_iff.1 h).1,by rw [h]; exact hc⟩,rfl⟩
def sumM (J : List bN) (m : Nat) : Nat → Int:=smN fun j => if inM (skL J j) m = true then dsL J j else 0
theorem aAh {J : List bN} (hJ : GJ J) (m : Nat) : ∀ i,i ≤ J.length → 0 ≤ sumM J m i ∧ sumM J m i ≤ 30 * (i : Int):=by
 intro i
 induction i with
 | zero => intro _; exact ⟨Int.le_refl _,Int.le_refl _⟩
 | succ i ih =>
  intro hi
  have:=ih (by omega)
  have:=hJ.ds (j:=i) (by omega)
  have e : sumM J m (i + 1) = sumM J m i + (if inM (skL J i) m = true then dsL J i else 0):=rfl
  rw [e]
  split <;> omega
theorem aGe (N : Nat) (hN : 100 < N) {J : List bN} (hJ : GJ J) {m : Nat} (h1 : 1 ≤ m) (h7 : m ≤ 7) : bT N J (m : Int) = some (sumM J m J.length):=by
 unfold bT
 simp only [eC]
 have hn:=hJ.len
 refine st2z' J.length (fun i => sumM J m i) rfl (by omega) (fun rec => ?_) (fun rec i hi => ?_)
 ·rw [ltE,cond_false]
 ·have hx : J[i]? = some J[i]:=List.getElem?_eq_getElem hi
  have hd:=xM hx
  have hs : skL J i = J[i].Skill:=by simp [skL,hx]
  have ha:=hJ.all _ (List.getElem_mem hi)
  have hb:=aAh hJ m i (by omega)
  rw [ltD hi,cond_true,cM,hx,Option.bind_some,in_c N _ ⟨by omega,by omega⟩ h1 h7,Option.bind_some,nadd1 i (by omega)]
  show _ = rec (sumM J m i + (if inM (skL J i) m = true then dsL J i else 0)) _
  rw [hd,hs]
  cases hc : inM J[i].Skill m with
  | true => rw [cond_true,if_pos rfl,w64 (by omega) (by omega)]
  | false => rw [cond_false,if_neg (by simp),Int.add_zero]
def iC (s : aV) (m : Nat) : Int:=if sumM s.Jobs m s.Jobs.length > 0 then (sumM s.Jobs m s.Jobs.length + ((gB s.Workers m s.Workers.length).length : Int) - 1) / ((gB s.Workers m s.Workers.length).length : Int) else 0
theorem aAc {s : aV} (hJ : GJ s.Jobs) {m : Nat} (h1 : 1 ≤ m) (h7 : m ≤ 7) {j : Nat} (hj : j < s.Jobs.length) (hin : inM (skL s.Jobs j) m = true) {w : Int} (hw : w ∈ fV s.Workers (skL s.Jobs j)) : w ∈ gB s.Workers m s.Workers.length:=by
 obtain ⟨k,x,rfl,hx,hc⟩:=oC.1 hw
 refine aDL hx ?_
 have hxj : s.Jobs[j]? = some s.Jobs[j]:=List.getElem?_eq_getElem hj
 have ha:=hJ.all _ (List.getElem_mem hj)
 have hs : skL s.Jobs j = s.Jobs[j].Skill:=by simp [skL,hxj]
 rw [hs] at hin hc
 have hk : s.Jobs[j].Skill = 1 ∨ s.Jobs[j].Skill = 2 ∨ s.Jobs[j].Skill = 3:=by omega
 generalize s.Jobs[j].Skill = k at hk hin hc
 have hm : m = 1 ∨ m = 2 ∨ m = 3 ∨ m = 4 ∨ m = 5 ∨ m = 6 ∨ m = 7:=by omega
 obtain ⟨a,b,c⟩:=x
 rcases hk with rfl | rfl | rfl <;> rcases hm with rfl | rfl | rfl | rfl | rfl | rfl | rfl <;> revert hin hc <;> cases a <;> cases b <;> cases c <;> decide
theorem zT {s : aV} (hJ : GJ s.Jobs) (ha : jH s) {m : Nat} (h1 : 1 ≤ m) (h7 : m ≤ 7) (h : sumM s.Jobs m s.Jobs.length > 0) : 0 < (gB s.Workers m s.Workers.length).length:=by
 have : ∃ j,j < s.Jobs.length ∧ inM (skL s.Jobs j) m = true:=by
  refine Classical.byContradiction fun hno => ?_
  have : sumM s.Jobs m s.Jobs.length = 0:=smN.zero _ _ fun j hj => by
   show (if inM (skL s.Jobs j) m = true then dsL s.Jobs j else 0) = 0
   rw [if_neg (fun e => hno ⟨j,hj,e⟩)]
  omega
 obtain ⟨j,hj,hin⟩:=this
 obtain ⟨w,hw⟩:=List.exists_mem_of_ne_nil _ (ha j hj)
 exact List.length_pos_of_mem (aAc hJ h1 h7 hj hin hw)
theorem aDW (N : Nat) (hN : 100 < N) {s : aV} (h : GW s) (ha : jH s) : eM N s = some (mxN (fun i => iC s (i + 1)) 7):=by
 unfold eM
 simp only [eC]
 have hn:=h.jobs.len
 have hw4:=h.w4
 have key : ∀ (k M : Nat),k ≤ 7 → 8 - k ≤ M → loop2 (fun rec_8 (most_6 : Int) (b_7 : Int) => (bif (decide (b_7 ≤ 7)) then ((bT N s.Jobs b_7).bind fun r_16 => ((cG N s b_7).bind fun r_17 => (bif (decide (r_16 > 0)) then ((nzI ((r_17.length : Nat) : Int)).bind fun u_19 => (rec_8 (if (IntKind.i64.wrap (Int.tdiv (IntKind.i64.wrap ((IntKind.i64.wrap (r_16 + ((r_17.length : Nat) : Int))) - 1)) ((r_17.length : Nat) : Int))) > most_6 then (IntKind.i64.wrap (Int.tdiv (IntKind.i64.wrap ((IntKind.i64.wrap (r_16 + ((r_17.length : Nat) : Int))) - 1)) ((r_17.length : Nat) : Int))) else most_6) (IntKind.u8.wrap (b_7 + 1)))) else (rec_8 most_6 (IntKind.u8.wrap (b_7 + 1)))))) else some most_6)) M (mxN (fun i => iC s (i + 1)) k) ((k + 1 : Nat) : Int) = some (mxN (fun i => iC s (i + 1)) 7):=by
  intro k M
  induction M generalizing k with
  | zero => intro h1 h2; omega
  | succ M ih =>
   intro h1 h2
   show cond (decide (((k + 1 : Nat) : Int) ≤ 7)) _ _ = _
   by_cases hk : k = 7
   ·subst hk; rfl
   ·have hwr : IntKind.u8.wrap (((k + 1 : Nat) : Int) + 1) = ((k + 1 + 1 : Nat) : Int):=by
     have : k = 0 ∨ k = 1 ∨ k = 2 ∨ k = 3 ∨ k = 4 ∨ k = 5 ∨ k = 6:=by omega
     rcases this with rfl | rfl | rfl | rfl | rfl | rfl | rfl <;> rfl
    have hb:=aAh h.jobs (k + 1) s.Jobs.length (Nat.le_refl _)
    have hgl:=xH s.Workers (k + 1) s.Workers.length
    have hnext : mxN (fun i => iC s (i + 1)) (k + 1) = max (mxN (fun i => iC s (i + 1)) k) (iC s (k + 1)):=rfl
    have hp:=mxN.pos (fun i => iC s (i + 1)) k
    rw [decide_eq_true (by omega),cond_true,aGe N hN h.jobs (by omega) (by omega),Option.bind_some,aFy N hN s hw4 (by omega) (by omega),Option.bind_some,hwr]
    by_cases hpos : sumM s.Jobs (k + 1) s.Jobs.length > 0
    ·have hg := zT h.jobs ha (m := k + 1) (by omega) (by omega) hpos
     have hneed : iC s (k + 1) = (sumM s.Jobs (k + 1) s.Jobs.length + ((gB s.Workers (k + 1) s.Workers.length).length : Int) - 1) / ((gB s.Workers (k + 1) s.Workers.length).length : Int):=if_pos hpos
     generalize (gB s.Workers (k + 1) s.Workers.length).length = g at hg hgl hneed
     generalize sumM s.Jobs (k + 1) s.Jobs.length = W at hb hpos hneed
     have hq0 : 0 ≤ (W + (g : Int) - 1) / (g : Int):=Int.ediv_nonneg (by omega) (by omega)
     have hq1 : (W + (g : Int) - 1) / (g : Int) ≤ W + (g : Int) - 1:=Int.ediv_le_self _ (by omega)
     rw [decide_eq_true hpos,cond_true,show nzI (g : Int) = some () from if_neg (by omega),Option.bind_some,w64 (x:=W + (g : Int)) (by omega) (by omega),w64 (x:=W + (g : Int) - 1) (by omega) (by omega),Int.tdiv_eq_ediv_of_nonneg (by omega),w64 (by omega) (by omega),ifmax,← hneed,← hnext]
     exact ih (k + 1) (by omega) (by omega)
    ·have hneed : iC s (k + 1) = 0:=if_neg hpos
     rw [decide_eq_false hpos,cond_false]
     have:=ih (k + 1) (by omega) (by omega)
     rw [hnext,hneed,show max (mxN (fun i => iC s (i + 1)) k) 0 = mxN (fun i => iC s (i + 1)) k by omega] at this
     exact this
 exact key 0 N (by omega) (by omega)
def nS (s : aV) : Int:=max (mxN (fun f => sumF s.Jobs (f : Int) s.Jobs.length) 7) (mxN (fun i => iC s (i + 1)) 7)
theorem aBh (N : Nat) (hN : 100 < N) {s : aV} (h : GW s) : (¬ jH s ∧ cW N s = some (0,7)) ∨ (jH s ∧ cW N s = some (nS s,0)):=by
 unfold cW
 rcases aBn N hN h with ⟨h1,h2⟩ | ⟨h1,h2⟩
 ·rw [h2]; exact .inl ⟨h1,rfl⟩
 ·rw [h2,Option.bind_some,show ((0 : Int) != 0) = false from rfl,cond_false,xC N hN h.jobs,Option.bind_some,aDW N hN h h1,Option.bind_some,ifmax]
  exact .inr ⟨h1,rfl⟩
theorem aEK {s : aV} (h : GW s) (ha : jH s) {w d : Nat → Int} (hok : Okp (bP s h.jobs) w d) {T : Int} (h0 : 0 ≤ T) (hT : ∀ j,j < s.Jobs.length → d j + dsL s.Jobs j ≤ T) : nS s ≤ T:=by
 have h1 : mxN (fun f => sumF s.Jobs (f : Int) s.Jobs.length) 7 ≤ T:=mxN.le _ h0 _ fun f _ => by
  rcases aCS h.jobs hok (f : Int) s.Jobs.length (Nat.le_refl _) with ⟨_,e⟩ | ⟨b,_,hb,e⟩
  ·show sumF s.Jobs (f : Int) s.Jobs.length ≤ T
   omega
  ·have:=hT b hb
   show sumF s.Jobs (f : Int) s.Jobs.length ≤ T
   omega
 have h2 : mxN (fun i => iC s (i + 1)) 7 ≤ T:=mxN.le _ h0 _ fun i hi => by
  show iC s (i + 1) ≤ T
  unfold iC
  split
  ·rename_i hpos
   have hg:=zT h.jobs ha (m:=i + 1) (by omega) (by omega) hpos
   have key:=fitG (n:=s.Jobs.length) (dsL s.Jobs) d w T h0 (gB s.Workers (i + 1) s.Workers.length) (fun j => inM (skL s.Jobs j) (i + 1)) (fun j hj hin => aAc h.jobs (by omega) (by omega) hj hin (hok.can j hj)) (fun j hj _ => ⟨(h.jobs.ds hj).1,hok.pos j hj,hT j hj⟩) (fun j k hj hk hne hw => hok.cl j k hj hk hne hw)
   have key : sumM s.Jobs (i + 1) s.Jobs.length ≤ ((gB s.Workers (i + 1) s.Workers.length).length : Int) * T:=key
   generalize (gB s.Workers (i + 1) s.Workers.length).length = g at hg key
   generalize sumM s.Jobs (i + 1) s.Jobs.length = W at key
   have : (W + (g : Int) - 1) / (g : Int) < T + 1 := Int.ediv_lt_of_lt_mul (by omega) (by
    rw [Int.add_mul,Int.one_mul,Int.mul_comm T]
    omega)
   omega
  ·exact h0
 unfold nS
 omega
end Go.Proofs.YtjjmhjmkdihmnaaGreatDoor
end
section
namespace Go.Proofs.YtjjmhjmkdihmnaaGreatDoor
@[simp] theorem aHe {α : Type} {f : α → AV} (h : ∀ l : List α,bA (l.map f) = true) (l : List (List α)) : bA (l.map (SV f)) = true:=eB (fun x => by simp [SV,AV.clean,h]) l
end Go.Proofs.YtjjmhjmkdihmnaaGreatDoor
end
section
namespace Go.Proofs.YtjjmhjmkdihmnaaGreatDoor
open Go.RowKit
attribute [local simp] ren ren1 AV.plain AV.plain1 AV.clean bA fI dP fM eZ cV cY eS fX cN cF eA eR dG dF cO aE aK bB aH bJ aX aI aA aM bQ bR dW dI eQ dX aJ aB aN aC back back1 re re1 List.idxOf? List.findIdx? List.findIdx?.go mZ oK yE uK rC kO nL pM lG jG
def mM (N : Nat) (n_1 : Int) (least_2 : Int) (most_3 : Int) : Option (Bool):=(bif (decide (n_1 ≥ least_2)) then some (decide (n_1 ≤ most_3)) else some false)
def tI (r : Bool) : AV:=.bool r
attribute [local simp] tI
theorem qW (n_1 : Int) (least_2 : Int) (most_3 : Int) : [i6 n_1,i6 least_2,i6 most_3].mapM (ren []) = some [i6 n_1,i6 least_2,i6 most_3]:=by simp
theorem qR (r : Bool) (n n2 m : Nat) : back n n2 m (tI r) = some (tI r):=by simp
theorem qL (N : Nat) (n_1 : Int) (least_2 : Int) (most_3 : Int) (r : Bool) (h : mM N n_1 least_2 most_3 = some r) : Does Tryz.prog 77 [i6 n_1,i6 least_2,i6 most_3] [] fun v c => v = tI r ∧ c = []:=by
 unfold mM at h
 refine Does.ofL comp77 _ _ rfl rfl ?_
 refine Ex.seq (rg 1 [0,1,2] (mkS 15 [(0,i6 n_1),(1,i6 least_2),(2,i6 most_3)]) ⟨[],[]⟩ ?_)
 refine Ex.seq ?_
 rcases aW h with ⟨hc_4,h⟩ | ⟨hc_4,h⟩
 ·refine regH 9 [(3, .eq (.bool true))] [6] [AV.bool (decide (n_1 ≥ least_2)) = AV.bool true] (mkS 15 [(6, .bool (decide (n_1 ≤ most_3)))]) (⟨[], []⟩) (by kernel_rfl) ⟨congrArg AV.bool hc_4, trivial⟩ rfl ?_
  refine Ex.ret ?_
  obtain rfl:=sJ h
  exact rt (.bool (decide (n_1 ≤ most_3)))
 ·refine regH 9 [(3, .eq (.bool false))] [6] [AV.bool (decide (n_1 ≥ least_2)) = AV.bool false] (mkS 15 [(6, .bool false)]) (⟨[], []⟩) (by kernel_rfl) ⟨congrArg AV.bool hc_4, trivial⟩ rfl ?_
  refine Ex.ret ?_
  obtain rfl:=sJ h
  exact rt (.bool false)
structure bO where
 Kind : Int
 A : Int
 B : Int
 deriving Inhabited
def bH (x : bO) : List AV:=[i6 x.Kind,i6 x.A,i6 x.B]
attribute [local simp] bH
def aO (x : bO) : AV:=.agg (bH x)
attribute [local simp] aO
theorem aEa (x : bO) : bA (bH x) = true:=by simp
theorem aEc (x : bO) : (aO x).clean = true:=aEa x
theorem jR (l : List bO) : bA (l.map aO) = true:=eB aEc l
attribute [local simp] jR
theorem vQ (x : bO) (n : Nat) (σ : List Nat) : (bH x).mapM (re n σ) = some (bH x):=by simp
attribute [local simp] vQ
def qE (N : Nat) (h_1 : bO) : Option (Int):=(letJ (fun (y_2 : Bool) => (bif y_2 then some 2 else (bif (decide (h_1.A ≥ h_1.B)) then some 9 else some 0))) (fun k_3 => ((mM N h_1.A 0 20000).bind fun r_6 => (bif (!r_6) then (k_3 true) else ((mM N h_1.B 0 20000).bind fun r_8 => (k_3 (!r_8)))))))
def nE (r : Int) : AV:=i6 r
attribute [local simp] nE
theorem aCf (h_1 : bO) : [(aO h_1)].mapM (ren []) = some [(aO h_1)]:=by simp
theorem aBY (r : Int) (n n2 m : Nat) : back n n2 m (nE r) = some (nE r):=by simp
theorem aBI (N : Nat) (h_1 : bO) (r : Int) (h : qE N h_1 = some r) : Does Tryz.prog 100 [(aO h_1)] [] fun v c => v = nE r ∧ c = []:=by
 unfold qE at h
 refine Does.ofL comp100 _ _ rfl rfl ?_
 refine Ex.seq (rg 2 [1] (mkS 20 [(1,.ptr 0 0)]) ⟨[(bH h_1)],[]⟩ ?_)
 refine Ex.seq ?_
 refine Ex.blockK ?_
 obtain ⟨K_4,hK_5,h⟩:=letE h
 refine Ex.seqJ (fun a S => ∃ (y_2 : Bool),K_4 y_2 = some r ∧ a = mkS 20 [(1,.ptr 0 0),(3,.bool y_2)] ∧ S = ⟨[(bH h_1)],[]⟩) ?_ ?_
 ·obtain ⟨r_6,hr_6,h⟩:=bE h
  refine Ex.reg (rn 2 [1,5] (mkS 20 [(1,.ptr 0 0),(5,i6 h_1.A)]) ⟨[(bH h_1)],[]⟩ ?_)
  refine ExO.callL [] [i6 h_1.A,i6 0,i6 20000] rfl rfl (qW h_1.A 0 20000) rfl rfl (qL N h_1.A 0 20000 r_6 hr_6) (qR _ _ _ _) rfl ?_
  rcases aW h with ⟨hc_7,h⟩ | ⟨hc_7,h⟩
  ·refine runH 8 [(1, .eq (.bool true))] [1, 3] [AV.bool (!r_6) = AV.bool true] (mkS 20 [(1, .ptr 0 0), (3, .bool true)]) (⟨[(bH h_1)], []⟩) (by kernel_rfl) ⟨congrArg AV.bool hc_7, trivial⟩ ?_
   refine ExO.nil ?_
   (try simp only [reduceCtorEq,AEx.ex.injEq,Nat.reduceEqDiff,if_true,if_false])
   exact ⟨_,_,aL.refl _ _ _,true,h,rfl,rfl⟩
  ·obtain ⟨r_8,hr_8,h⟩:=bE h
   refine runH 4 [(1,.eq (.bool false))] [1,8,10] [AV.bool (!r_6) = AV.bool false] (mkS 20 [(1,.ptr 0 0),(8,.bool false),(10,i6 h_1.B)]) (⟨[(bH h_1)],[]⟩) (by kernel_rfl) ⟨congrArg AV.bool hc_7,trivial⟩ ?_
   refine ExO.callL [] [i6 h_1.B,i6 0,i6 20000] rfl rfl (qW h_1.B 0 20000) rfl rfl (qL N h_1.B 0 20000 r_8 hr_8) (qR _ _ _ _) rfl ?_
   refine rn 3 [1,3] (mkS 20 [(1,.ptr 0 0),(3,.bool (!r_8))]) ⟨[(bH h_1)],[]⟩ ?_
   refine ExO.nil ?_
   (try simp only [reduceCtorEq,AEx.ex.injEq,Nat.reduceEqDiff,if_true,if_false])
   exact ⟨_,_,aL.refl _ _ _,(!r_8),h,rfl,rfl⟩
 ·rintro a S ⟨y_2,h,rfl,rfl⟩
  subst hK_5
  rcases aW h with ⟨hc_9,h⟩ | ⟨hc_9,h⟩
  ·refine Ex.condT _ rfl hc_9 ?_
   refine Ex.seq (rg 1 [2] (mkS 20 [(2,i6 2)]) ⟨[(bH h_1)],[]⟩ ?_)
   refine Ex.ret ?_
   obtain rfl:=sJ h
   exact rt (i6 2)
  ·refine Ex.condF _ rfl hc_9 ?_
   refine Ex.seq (rg 6 [14] (mkS 20 [(14,.bool (decide (h_1.A ≥ h_1.B)))]) ⟨[(bH h_1)],[]⟩ ?_)
   rcases aW h with ⟨hc_10,h⟩ | ⟨hc_10,h⟩
   ·refine Ex.condT _ rfl hc_10 ?_
    refine Ex.seq (rg 1 [2] (mkS 20 [(2,i6 9)]) ⟨[(bH h_1)],[]⟩ ?_)
    refine Ex.ret ?_
    obtain rfl:=sJ h
    exact rt (i6 9)
   ·refine Ex.condF _ rfl hc_10 ?_
    refine Ex.skip ?_
    refine Ex.seq (rg 1 [2] (mkS 20 [(2,i6 0)]) ⟨[(bH h_1)],[]⟩ ?_)
    refine Ex.ret ?_
    obtain rfl:=sJ h
    exact rt (i6 0)
def qD (N : Nat) (h_1 : bO) : Option (Int):=((mM N h_1.A 0 2000).bind fun r_2 => (bif (!r_2) then some 2 else (bif (h_1.B != 0) then some 1 else some 0)))
def nD (r : Int) : AV:=i6 r
attribute [local simp] nD
theorem aCe (h_1 : bO) : [(aO h_1)].mapM (ren []) = some [(aO h_1)]:=by simp
theorem aBX (r : Int) (n n2 m : Nat) : back n n2 m (nD r) = some (nD r):=by simp
theorem aBH (N : Nat) (h_1 : bO) (r : Int) (h : qD N h_1 = some r) : Does Tryz.prog 101 [(aO h_1)] [] fun v c => v = nD r ∧ c = []:=by
 unfold qD at h
 refine Does.ofL comp101 _ _ rfl rfl ?_
 refine Ex.seq (rg 2 [1] (mkS 12 [(1,.ptr 0 0)]) ⟨[(bH h_1)],[]⟩ ?_)
 refine Ex.seq ?_
 refine Ex.blockK ?_
 refine Ex.seq ?_
 obtain ⟨r_2,hr_2,h⟩:=bE h
 refine Ex.reg (rn 2 [1,5] (mkS 12 [(1,.ptr 0 0),(5,i6 h_1.A)]) ⟨[(bH h_1)],[]⟩ ?_)
 refine ExO.callL [] [i6 h_1.A,i6 0,i6 2000] rfl rfl (qW h_1.A 0 2000) rfl rfl (qL N h_1.A 0 2000 r_2 hr_2) (qR _ _ _ _) rfl ?_
 refine rn 2 [1,3] (mkS 12 [(1,.ptr 0 0),(3,.bool (!r_2))]) ⟨[(bH h_1)],[]⟩ ?_
 refine ExO.nil ?_
 rcases aW h with ⟨hc_3,h⟩ | ⟨hc_3,h⟩
 ·refine Ex.condT _ rfl hc_3 ?_
  refine Ex.seq (rg 1 [2] (mkS 12 [(2,i6 2)]) ⟨[(bH h_1)],[]⟩ ?_)
  refine Ex.ret ?_
  obtain rfl:=sJ h
  exact rt (i6 2)
 ·refine Ex.condF _ rfl hc_3 ?_
  refine Ex.seq (rg 4 [8] (mkS 12 [(8,.bool (h_1.B != 0))]) ⟨[(bH h_1)],[]⟩ ?_)
  rcases aW h with ⟨hc_4,h⟩ | ⟨hc_4,h⟩
  ·refine Ex.condT _ rfl hc_4 ?_
   refine Ex.seq (rg 1 [2] (mkS 12 [(2,i6 1)]) ⟨[(bH h_1)],[]⟩ ?_)
   refine Ex.ret ?_
   obtain rfl:=sJ h
   exact rt (i6 1)
  ·refine Ex.condF _ rfl hc_4 ?_
   refine Ex.skip ?_
   refine Ex.seq (rg 1 [2] (mkS 12 [(2,i6 0)]) ⟨[(bH h_1)],[]⟩ ?_)
   refine Ex.ret ?_
   obtain rfl:=sJ h
   exact rt (i6 0)
def nO (N : Nat) (h_1 : bO) : Option (Int):=(letJ (fun (y_2 : Bool) => (bif y_2 then some 2 else some 0)) (fun k_3 => ((mM N h_1.A 0 10000000).bind fun r_6 => (bif (!r_6) then (k_3 true) else ((mM N h_1.B 0 10000000).bind fun r_8 => (k_3 (!r_8)))))))
def lB (r : Int) : AV:=i6 r
attribute [local simp] lB
theorem zD (h_1 : bO) : [(aO h_1)].mapM (ren []) = some [(aO h_1)]:=by simp
theorem yX (r : Int) (n n2 m : Nat) : back n n2 m (lB r) = some (lB r):=by simp
theorem yO (N : Nat) (h_1 : bO) (r : Int) (h : nO N h_1 = some r) : Does Tryz.prog 102 [(aO h_1)] [] fun v c => v = lB r ∧ c = []:=by
 unfold nO at h
 refine Does.ofL comp102 _ _ rfl rfl ?_
 refine Ex.seq (rg 2 [1] (mkS 13 [(1,.ptr 0 0)]) ⟨[(bH h_1)],[]⟩ ?_)
 refine Ex.seq ?_
 obtain ⟨K_4,hK_5,h⟩:=letE h
 refine Ex.seqJ (fun a S => ∃ (y_2 : Bool),K_4 y_2 = some r ∧ a = mkS 13 [(12,.bool y_2)] ∧ S = ⟨[],[]⟩) ?_ ?_
 ·obtain ⟨r_6,hr_6,h⟩:=bE h
  refine Ex.reg (rn 2 [1,4] (mkS 13 [(1,.ptr 0 0),(4,i6 h_1.A)]) ⟨[(bH h_1)],[]⟩ ?_)
  refine ExO.callL [] [i6 h_1.A,i6 0,i6 10000000] rfl rfl (qW h_1.A 0 10000000) rfl rfl (qL N h_1.A 0 10000000 r_6 hr_6) (qR _ _ _ _) rfl ?_
  rcases aW h with ⟨hc_7,h⟩ | ⟨hc_7,h⟩
  ·refine runH 7 [(1, .eq (.bool true))] [12] [AV.bool (!r_6) = AV.bool true] (mkS 13 [(12, .bool true)]) (⟨[(bH h_1)], []⟩) (by kernel_rfl) ⟨congrArg AV.bool hc_7, trivial⟩ ?_
   refine ExO.nil ?_
   (try simp only [reduceCtorEq,AEx.ex.injEq,Nat.reduceEqDiff,if_true,if_false])
   exact ⟨_,_,cA (m:=13) 0 [] [(12,.bool true)] [] [] (by simp [bI]) (by simp) ⟨rfl,trivial⟩ (by simp) rfl (by decide),true,h,rfl,rfl⟩
  ·obtain ⟨r_8,hr_8,h⟩:=bE h
   refine runH 4 [(1,.eq (.bool false))] [7,9] [AV.bool (!r_6) = AV.bool false] (mkS 13 [(7,.bool false),(9,i6 h_1.B)]) (⟨[(bH h_1)],[]⟩) (by kernel_rfl) ⟨congrArg AV.bool hc_7,trivial⟩ ?_
   refine ExO.callL [] [i6 h_1.B,i6 0,i6 10000000] rfl rfl (qW h_1.B 0 10000000) rfl rfl (qL N h_1.B 0 10000000 r_8 hr_8) (qR _ _ _ _) rfl ?_
   refine rn 2 [12] (mkS 13 [(12,.bool (!r_8))]) ⟨[(bH h_1)],[]⟩ ?_
   refine ExO.nil ?_
   (try simp only [reduceCtorEq,AEx.ex.injEq,Nat.reduceEqDiff,if_true,if_false])
   exact ⟨_,_,cA (m:=13) 0 [] [(12,.bool (!r_8))] [] [] (by simp [bI]) (by simp) ⟨rfl,trivial⟩ (by simp) rfl (by decide),(!r_8),h,rfl,rfl⟩
 ·rintro a S ⟨y_2,h,rfl,rfl⟩
  subst hK_5
  rcases aW h with ⟨hc_9,h⟩ | ⟨hc_9,h⟩
  ·refine Ex.condT _ rfl hc_9 ?_
   refine Ex.seq (rg 1 [2] (mkS 13 [(2,i6 2)]) ⟨[],[]⟩ ?_)
   refine Ex.ret ?_
   obtain rfl:=sJ h
   exact rt (i6 2)
  ·refine Ex.condF _ rfl hc_9 ?_
   refine Ex.skip ?_
   refine Ex.seq (rg 1 [2] (mkS 13 [(2,i6 0)]) ⟨[],[]⟩ ?_)
   refine Ex.ret ?_
   obtain rfl:=sJ h
   exact rt (i6 0)
def nN (N : Nat) (h_1 : bO) : Option (Int):=(bif (h_1.Kind == 1) then ((qE N h_1).bind fun r_3 => some r_3) else (bif (h_1.Kind == 2) then ((qD N h_1).bind fun r_5 => some r_5) else (bif (h_1.Kind == 3) then ((nO N h_1).bind fun r_7 => some r_7) else some 3)))
def lA (r : Int) : AV:=i6 r
attribute [local simp] lA
theorem zC (h_1 : bO) : [(aO h_1)].mapM (ren []) = some [(aO h_1)]:=by simp
theorem yW (r : Int) (n n2 m : Nat) : back n n2 m (lA r) = some (lA r):=by simp
theorem yN (N : Nat) (h_1 : bO) (r : Int) (h : nN N h_1 = some r) : Does Tryz.prog 74 [(aO h_1)] [] fun v c => v = lA r ∧ c = []:=by
 unfold nN at h
 refine Does.ofL comp74 _ _ rfl rfl ?_
 refine Ex.seq (rg 2 [1] (mkS 17 [(1,.ptr 0 0)]) ⟨[(bH h_1)],[]⟩ ?_)
 refine Ex.seq (Ex.seq ?_)
 refine rg 2 [1,4] (mkS 17 [(1,.ptr 0 0),(4,i6 h_1.Kind)]) ⟨[(bH h_1)],[]⟩ ?_
 refine Ex.blockK ?_
 refine Ex.seq (rg 2 [1,4,5] (mkS 17 [(1,.ptr 0 0),(4,i6 h_1.Kind),(5,.bool (h_1.Kind == 1))]) ⟨[(bH h_1)],[]⟩ ?_)
 rcases aW h with ⟨hc_2,h⟩ | ⟨hc_2,h⟩
 ·refine Ex.condT _ rfl hc_2 ?_
  refine Ex.seq ?_
  obtain ⟨r_3,hr_3,h⟩:=bE h
  refine Ex.reg (rn 1 [7] (mkS 17 [(7,(aO h_1))]) ⟨[(bH h_1)],[]⟩ ?_)
  refine ExO.callL [] [(aO h_1)] rfl rfl (aCf h_1) rfl rfl (aBI N h_1 r_3 hr_3) (aBY _ _ _ _) rfl ?_
  refine rn 1 [2] (mkS 17 [(2,i6 r_3)]) ⟨[(bH h_1)],[]⟩ ?_
  refine ExO.nil ?_
  refine Ex.ret ?_
  obtain rfl:=sJ h
  exact rt (i6 r_3)
 ·refine Ex.condF _ rfl hc_2 ?_
  refine Ex.seq (rg 2 [1,4,9] (mkS 17 [(1,.ptr 0 0),(4,i6 h_1.Kind),(9,.bool (h_1.Kind == 2))]) ⟨[(bH h_1)],[]⟩ ?_)
  rcases aW h with ⟨hc_4,h⟩ | ⟨hc_4,h⟩
  ·refine Ex.condT _ rfl hc_4 ?_
   refine Ex.seq ?_
   obtain ⟨r_5,hr_5,h⟩:=bE h
   refine Ex.reg (rn 1 [11] (mkS 17 [(11,(aO h_1))]) ⟨[(bH h_1)],[]⟩ ?_)
   refine ExO.callL [] [(aO h_1)] rfl rfl (aCe h_1) rfl rfl (aBH N h_1 r_5 hr_5) (aBX _ _ _ _) rfl ?_
   refine rn 1 [2] (mkS 17 [(2,i6 r_5)]) ⟨[(bH h_1)],[]⟩ ?_
   refine ExO.nil ?_
   refine Ex.ret ?_
   obtain rfl:=sJ h
   exact rt (i6 r_5)
  ·refine Ex.condF _ rfl hc_4 ?_
   refine Ex.seq (rg 2 [1,13] (mkS 17 [(1,.ptr 0 0),(13,.bool (h_1.Kind == 3))]) ⟨[(bH h_1)],[]⟩ ?_)
   rcases aW h with ⟨hc_6,h⟩ | ⟨hc_6,h⟩
   ·refine Ex.condT _ rfl hc_6 ?_
    refine Ex.seq ?_
    obtain ⟨r_7,hr_7,h⟩:=bE h
    refine Ex.reg (rn 1 [15] (mkS 17 [(15,(aO h_1))]) ⟨[(bH h_1)],[]⟩ ?_)
    refine ExO.callL [] [(aO h_1)] rfl rfl (zD h_1) rfl rfl (yO N h_1 r_7 hr_7) (yX _ _ _ _) rfl ?_
    refine rn 1 [2] (mkS 17 [(2,i6 r_7)]) ⟨[(bH h_1)],[]⟩ ?_
    refine ExO.nil ?_
    refine Ex.ret ?_
    obtain rfl:=sJ h
    exact rt (i6 r_7)
   ·refine Ex.condF _ rfl hc_6 ?_
    refine Ex.skip ?_
    refine Ex.seq (rg 1 [2] (mkS 17 [(2,i6 3)]) ⟨[(bH h_1)],[]⟩ ?_)
    refine Ex.ret ?_
    obtain rfl:=sJ h
    exact rt (i6 3)
def oW (N : Nat) (route_1 : (List bO)) : Option (Int):=(bif (decide (((route_1.length : Nat) : Int) > 40)) then some 5 else (letJ (fun (_ : Unit) => some 0) (fun k_3 => (loop1 (fun rec_7 (y_6 : Int) => (bif (decide (y_6 < ((route_1.length : Nat) : Int))) then ((getI route_1 y_6).bind fun x_11 => ((nN N x_11).bind fun r_12 => (bif (r_12 != 0) then some r_12 else (rec_7 (IntKind.i64.wrap (y_6 + 1)))))) else (k_3 ()))) N 0))))
def mG (r : Int) : AV:=i6 r
attribute [local simp] mG
theorem aBd (route_1 : (List bO)) : [.sl (route_1.map aO) none].mapM (ren []) = some [.sl (route_1.map aO) none]:=by simp
theorem aAV (r : Int) (n n2 m : Nat) : back n n2 m (mG r) = some (mG r):=by simp
theorem aAI (N : Nat) (route_1 : (List bO)) (r : Int) (h : oW N route_1 = some r) : Does Tryz.prog 41 [.sl (route_1.map aO) none] [] fun v c => v = mG r ∧ c = []:=by
 unfold oW at h
 refine Does.ofL comp41 _ _ rfl rfl ?_
 refine Ex.seq (rg 1 [0] (mkS 21 [(0,.sl (route_1.map aO) none)]) ⟨[],[]⟩ ?_)
 refine Ex.seq (Ex.seq ?_)
 refine regH 3 [(1,.eq (i6 ((route_1.length : Nat) : Int)))] [0,8] [AV.int .i64 (((route_1.map aO).length : Nat) : Int) = AV.int .i64 ((route_1.length : Nat) : Int)] (mkS 21 [(0,.sl (route_1.map aO) none),(8,.bool (decide (((route_1.length : Nat) : Int) > 40)))]) (⟨[],[]⟩) (by kernel_rfl) ⟨lenM _ _,trivial⟩ rfl ?_
 rcases aW h with ⟨hc_2,h⟩ | ⟨hc_2,h⟩
 ·refine Ex.condT _ rfl hc_2 ?_
  refine Ex.seq (rg 1 [2] (mkS 21 [(2,i6 5)]) ⟨[],[]⟩ ?_)
  refine Ex.ret ?_
  obtain rfl:=sJ h
  exact rt (i6 5)
 ·refine Ex.condF _ rfl hc_2 ?_
  refine Ex.skip ?_
  refine Ex.seq (Ex.seq ?_)
  refine regH 3 [(1,.eq (i6 ((route_1.length : Nat) : Int)))] [9,10,11] [AV.int .i64 (((route_1.map aO).length : Nat) : Int) = AV.int .i64 ((route_1.length : Nat) : Int)] (mkS 21 [(9,.sl (route_1.map aO) none),(10,i6 ((route_1.length : Nat) : Int)),(11,i6 0)]) (⟨[],[]⟩) (by kernel_rfl) ⟨lenM _ _,trivial⟩ rfl ?_
  obtain ⟨K_4,hK_5,h⟩:=letE h
  refine Ex.blockJ (fun a S => K_4 () = some r ∧ a = mkS 21 [] ∧ S = ⟨[],[]⟩) ?_ ?_
  ·obtain ⟨B_8,hB_9,h⟩:=lQ h
   refine Ex.loopF (fun k a S => ∃ (y_6 : Int),loop1 B_8 k y_6 = some r ∧ a = mkS 21 [(9,.sl (route_1.map aO) none),(10,i6 ((route_1.length : Nat) : Int)),(11,i6 y_6)] ∧ S = ⟨[],[]⟩) N ⟨_,_,aL.refl _ _ _,0,h,rfl,rfl⟩ ?_
   rintro k a S ⟨y_6,h,rfl,rfl⟩
   cases k with
   | zero => exact (lO h).elim
   | succ k =>
    replace h:=lP h hB_9
    refine Ex.seq (rg 1 [9,10,11,12] (mkS 21 [(9,.sl (route_1.map aO) none),(10,i6 ((route_1.length : Nat) : Int)),(11,i6 y_6),(12,.bool (decide (y_6 < ((route_1.length : Nat) : Int))))]) ⟨[],[]⟩ ?_)
    refine Ex.seq ?_
    rcases aW h with ⟨hc_10,h⟩ | ⟨hc_10,h⟩
    ·refine Ex.condT _ rfl hc_10 ?_
     refine Ex.skip ?_
     refine Ex.seq ?_
     refine Ex.blockK ?_
     refine Ex.seq ?_
     obtain ⟨x_11,hx_11,h⟩:=bE h
     refine regH 4 [(0,.rop (bH x_11))] [4,9,10,11] [LGet (route_1.map aO) y_6 3 (bH x_11)] (mkS 21 [(4,.ptr 0 0),(9,.sl (route_1.map aO) none),(10,i6 ((route_1.length : Nat) : Int)),(11,i6 y_6)]) (⟨[(bH x_11)],[]⟩) (by kernel_rfl) ⟨LGet.of hx_11 rfl,trivial⟩ rfl ?_
     refine Ex.seq ?_
     obtain ⟨r_12,hr_12,h⟩:=bE h
     refine Ex.reg (rn 1 [9,10,11,15] (mkS 21 [(9,.sl (route_1.map aO) none),(10,i6 ((route_1.length : Nat) : Int)),(11,i6 y_6),(15,(aO x_11))]) ⟨[(bH x_11)],[]⟩ ?_)
     refine ExO.callL [] [(aO x_11)] rfl rfl (zC x_11) rfl rfl (yN N x_11 r_12 hr_12) (yW _ _ _ _) rfl ?_
     refine rn 1 [5,9,10,11] (mkS 21 [(5,i6 r_12),(9,.sl (route_1.map aO) none),(10,i6 ((route_1.length : Nat) : Int)),(11,i6 y_6)]) ⟨[(bH x_11)],[]⟩ ?_
     refine ExO.nil ?_
     refine Ex.seq (rg 2 [5,9,10,11,18] (mkS 21 [(5,i6 r_12),(9,.sl (route_1.map aO) none),(10,i6 ((route_1.length : Nat) : Int)),(11,i6 y_6),(18,.bool (r_12 != 0))]) ⟨[(bH x_11)],[]⟩ ?_)
     rcases aW h with ⟨hc_13,h⟩ | ⟨hc_13,h⟩
     ·refine Ex.condT _ rfl hc_13 ?_
      refine Ex.seq (rg 2 [2] (mkS 21 [(2,i6 r_12)]) ⟨[(bH x_11)],[]⟩ ?_)
      refine Ex.ret ?_
      obtain rfl:=sJ h
      exact rt (i6 r_12)
     ·refine Ex.condF _ rfl hc_13 ?_
      refine Ex.skip ?_
      refine rg 2 [9,10,11] (mkS 21 [(9,.sl (route_1.map aO) none),(10,i6 ((route_1.length : Nat) : Int)),(11,i6 (IntKind.i64.wrap (y_6 + 1)))]) ⟨[(bH x_11)],[]⟩ ?_
      dsimp only
      exact ⟨_,_,cA (m:=21) 0 [] [(9,.sl (route_1.map aO) none),(10,i6 ((route_1.length : Nat) : Int)),(11,i6 (IntKind.i64.wrap (y_6 + 1)))] [] [] (by simp [bI]) (by simp) ⟨(reN (jR _)),rfl,rfl,trivial⟩ (by simp) rfl (by decide),k,Nat.lt_succ_self k,(IntKind.i64.wrap (y_6 + 1)),h,rfl,rfl⟩
    ·refine Ex.condF _ rfl hc_10 ?_
     refine Ex.exit ?_
     (try simp only [reduceCtorEq,AEx.ex.injEq,Nat.reduceEqDiff,if_true,if_false])
     exact ⟨_,_,bV [],h,rfl,rfl⟩
  ·rintro a S ⟨h,rfl,rfl⟩
   subst hK_5
   refine Ex.seq (rg 1 [2] (mkS 21 [(2,i6 0)]) ⟨[],[]⟩ ?_)
   refine Ex.ret ?_
   obtain rfl:=sJ h
   exact rt (i6 0)
structure kW where
 Lo : Int
 Hi : Int
 deriving Inhabited
def nV (x : kW) : List AV:=[i6 x.Lo,i6 x.Hi]
attribute [local simp] nV
def pN (x : kW) : AV:=.agg (nV x)
attribute [local simp] pN
theorem aFL (x : kW) : bA (nV x) = true:=by simp
theorem aFO (x : kW) : (pN x).clean = true:=aFL x
theorem rO (l : List kW) : bA (l.map pN) = true:=eB aFO l
attribute [local simp] rO
theorem aDu (x : kW) (n : Nat) (σ : List Nat) : (nV x).mapM (re n σ) = some (nV x):=by simp
structure cI where
 At : Int
 Kilos : kW
 Top : kW
 Kind : Int
 Watts : Int
 deriving Inhabited
def nW (x : cI) : List AV:=[i6 x.At,i6 x.Kilos.Lo,i6 x.Kilos.Hi,i6 x.Top.Lo,i6 x.Top.Hi,i6 x.Kind,i6 x.Watts]
attribute [local simp] nW
def bG (x : cI) : AV:=.agg (nW x)
attribute [local simp] bG
theorem aFN (x : cI) : bA (nW x) = true:=by simp
theorem aFQ (x : cI) : (bG x).clean = true:=aFN x
theorem kM (l : List cI) : bA (l.map bG) = true:=eB aFQ l
attribute [local simp] kM
theorem aDv (x : cI) (n : Nat) (σ : List Nat) : (nW x).mapM (re n σ) = some (nW x):=by simp
structure cE where
 Length : Int
 Width : Int
 Front : Int
 Rear : Int
 Turn : Int
 Kilos : Int
 Middle : Int
 High : Int
 Loads : (List cI)
 deriving Inhabited
def dJ (x : cE) : List AV:=[i6 x.Length,i6 x.Width,i6 x.Front,i6 x.Rear,i6 x.Turn,i6 x.Kilos,i6 x.Middle,i6 x.High,.sl (x.Loads.map bG) none]
attribute [local simp] dJ
def bC (x : cE) : AV:=.agg (dJ x)
attribute [local simp] bC
theorem aET (x : cE) : bA (dJ x) = true:=by simp
theorem aEV (x : cE) : (bC x).clean = true:=aET x
theorem kN (l : List cE) : bA (l.map bC) = true:=eB aEV l
attribute [local simp] kN
theorem aCk (x : cE) (n : Nat) (σ : List Nat) : (dJ x).mapM (re n σ) = some (dJ x):=by simp
def oU (N : Nat)  : Option ((List cE)):=some ([(⟨100,30,20,80,50,100,50,40,[]⟩ : cE),(⟨100,30,20,80,50,400,50,40,[]⟩ : cE)])
def mD (r : (List cE)) : AV:=.sl (r.map bC) none
attribute [local simp] mD
theorem aBa  : [].mapM (ren []) = some []:=by simp
theorem aAS (r : (List cE)) (n n2 m : Nat) : back n n2 m (mD r) = some (mD r):=by simp
theorem aAF (N : Nat)  (r : (List cE)) (h : oU N  = some r) : Does Tryz.prog 53 [] [] fun v c => v = mD r ∧ c = []:=by
 unfold oU at h
 refine Does.ofL comp53 _ _ rfl rfl ?_
 refine Ex.seq (rg 1 [] (mkS 9 []) ⟨[],[]⟩ ?_)
 refine Ex.seq (rg 3 [1] (mkS 9 [(1,.ptr 0 0)]) ⟨[[i6 100,i6 30,i6 20,i6 80,i6 50,i6 100,i6 50,i6 40,.nils]],[]⟩ ?_)
 refine Ex.seq (rg 3 [1,2] (mkS 9 [(1,.ptr 0 0),(2,.ptr 1 0)]) ⟨[[i6 100,i6 30,i6 20,i6 80,i6 50,i6 100,i6 50,i6 40,.nils],[i6 100,i6 30,i6 20,i6 80,i6 50,i6 100,i6 50,i6 40,.nils]],[]⟩ ?_)
 refine Ex.seq (rg 2 [1,2] (mkS 9 [(1,.ptr 0 0),(2,.ptr 1 0)]) ⟨[[i6 100,i6 30,i6 20,i6 80,i6 50,i6 100,i6 50,i6 40,.nils],[i6 100,i6 30,i6 20,i6 80,i6 50,i6 400,i6 50,i6 40,.nils]],[]⟩ ?_)
 refine Ex.seq ?_
 refine Ex.postF ?_
 refine rg 4 [0] (mkS 9 [(0,.sl [.agg [i6 100,i6 30,i6 20,i6 80,i6 50,i6 100,i6 50,i6 40,.nils],.agg [i6 100,i6 30,i6 20,i6 80,i6 50,i6 400,i6 50,i6 40,.nils]] (some 0))]) ⟨[[i6 100,i6 30,i6 20,i6 80,i6 50,i6 100,i6 50,i6 40,.nils],[i6 100,i6 30,i6 20,i6 80,i6 50,i6 400,i6 50,i6 40,.nils]],[(2,9)]⟩ ?_
 refine ⟨mkS 9 [(0,.sl (([(⟨100,30,20,80,50,100,50,40,[]⟩ : cE),(⟨100,30,20,80,50,400,50,40,[]⟩ : cE)] : List cE).map bC) (some 0))],⟨[[i6 100,i6 30,i6 20,i6 80,i6 50,i6 100,i6 50,i6 40,.nils],[i6 100,i6 30,i6 20,i6 80,i6 50,i6 400,i6 50,i6 40,.nils]],[(2,9)]⟩,aL.castR (by kernel_rfl) rfl (aFZ 0 [.agg [i6 100,i6 30,i6 20,i6 80,i6 50,i6 100,i6 50,i6 40,.nils],.agg [i6 100,i6 30,i6 20,i6 80,i6 50,i6 400,i6 50,i6 40,.nils]] (some 0) rfl),?_⟩
 refine Ex.ret ?_
 obtain rfl:=sJ h
 exact rt (.sl (([(⟨100,30,20,80,50,100,50,40,[]⟩ : cE),(⟨100,30,20,80,50,400,50,40,[]⟩ : cE)] : List cE).map bC) (some 0))
def kT (N : Nat) (low_1 : Int) (high_2 : Int) : Option (kW):=some (⟨low_1,high_2⟩ : kW)
def oM (r : kW) : AV:=(pN r)
attribute [local simp] oM
theorem pL (low_1 : Int) (high_2 : Int) : [i6 low_1,i6 high_2].mapM (ren []) = some [i6 low_1,i6 high_2]:=by simp
theorem pI (r : kW) (n n2 m : Nat) : back n n2 m (oM r) = some (oM r):=by simp
theorem pE (N : Nat) (low_1 : Int) (high_2 : Int) (r : kW) (h : kT N low_1 high_2 = some r) : Does Tryz.prog 80 [i6 low_1,i6 high_2] [] fun v c => v = oM r ∧ c = []:=by
 unfold kT at h
 refine Does.ofL comp80 _ _ rfl rfl ?_
 refine Ex.seq (rg 1 [0,1,4] (mkS 8 [(0,i6 low_1),(1,i6 high_2),(4,.ptr 0 0)]) ⟨[[i6 0,i6 0]],[]⟩ ?_)
 refine Ex.seq (rg 4 [4] (mkS 8 [(4,.ptr 0 0)]) ⟨[[i6 low_1,i6 high_2]],[]⟩ ?_)
 refine Ex.ret ?_
 obtain rfl:=sJ h
 exact rt (.agg [i6 low_1,i6 high_2])
def nP (N : Nat)  : Option ((List (List cI))):=((kT N 10 20).bind fun r_1 => ((kT N 50 60).bind fun r_2 => ((kT N 200 300).bind fun r_3 => ((kT N 30 30).bind fun r_4 => some ([[(⟨30,r_1,r_2,1,0⟩ : cI)],[(⟨70,r_3,r_4,1,0⟩ : cI)]])))))
def lC (r : (List (List cI))) : AV:=.sl (r.map (SV bG)) none
attribute [local simp] lC
theorem zE  : [].mapM (ren []) = some []:=by simp
theorem yY (r : (List (List cI))) (n n2 m : Nat) : back n n2 m (lC r) = some (lC r):=by simp
theorem yP (N : Nat)  (r : (List (List cI))) (h : nP N  = some r) : Does Tryz.prog 54 [] [] fun v c => v = lC r ∧ c = []:=by
 unfold nP at h
 refine Does.ofL comp54 _ _ rfl rfl ?_
 refine Ex.seq (rg 1 [] (mkS 10 []) ⟨[],[]⟩ ?_)
 refine Ex.seq ?_
 refine Ex.postF ?_
 obtain ⟨r_1,hr_1,h⟩:=bE h
 refine Ex.reg ?_
 refine ExO.callL [] [i6 10,i6 20] rfl rfl (pL 10 20) rfl rfl (pE N 10 20 r_1 hr_1) (pI _ _ _ _) rfl ?_
 obtain ⟨r_2,hr_2,h⟩:=bE h
 refine ExO.callL [] [i6 50,i6 60] rfl rfl (pL 50 60) rfl rfl (pE N 50 60 r_2 hr_2) (pI _ _ _ _) rfl ?_
 obtain ⟨r_3,hr_3,h⟩:=bE h
 refine rn 2 [4] (mkS 10 [(4,.sl (([(⟨30,r_1,r_2,1,0⟩ : cI)] : List cI).map bG) (some 0))]) ⟨[],[(1,7)]⟩ ?_
 refine ExO.callL [] [i6 200,i6 300] rfl rfl (pL 200 300) rfl rfl (pE N 200 300 r_3 hr_3) (pI _ _ _ _) rfl ?_
 obtain ⟨r_4,hr_4,h⟩:=bE h
 refine ExO.callL [] [i6 30,i6 30] rfl rfl (pL 30 30) rfl rfl (pE N 30 30 r_4 hr_4) (pI _ _ _ _) rfl ?_
 refine rn 4 [0] (mkS 10 [(0,.sl [.sl (([(⟨30,r_1,r_2,1,0⟩ : cI)] : List cI).map bG) (some 0),.sl (([(⟨70,r_3,r_4,1,0⟩ : cI)] : List cI).map bG) (some 1)] (some 2))]) ⟨[],[(1,7),(1,7),(2,1)]⟩ ?_
 refine ExO.nil ?_
 refine ⟨mkS 10 [(0,.sl (([[(⟨30,r_1,r_2,1,0⟩ : cI)],[(⟨70,r_3,r_4,1,0⟩ : cI)]] : List (List cI)).map (SV bG)) (some 2))],⟨[],[(1,7),(1,7),(2,1)]⟩,aL.castR (by kernel_rfl) rfl (aFZ 0 [.sl (([(⟨30,r_1,r_2,1,0⟩ : cI)] : List cI).map bG) (some 0),.sl (([(⟨70,r_3,r_4,1,0⟩ : cI)] : List cI).map bG) (some 1)] (some 2) rfl),?_⟩
 refine Ex.ret ?_
 obtain rfl:=sJ h
 exact rt (.sl (([[(⟨30,r_1,r_2,1,0⟩ : cI)],[(⟨70,r_3,r_4,1,0⟩ : cI)]] : List (List cI)).map (SV bG)) (some 2))
def oV (N : Nat)  : Option ((List bO)):=some ([(⟨3,450,400⟩ : bO)])
def mE (r : (List bO)) : AV:=.sl (r.map aO) none
attribute [local simp] mE
theorem aBb  : [].mapM (ren []) = some []:=by simp
theorem aAT (r : (List bO)) (n n2 m : Nat) : back n n2 m (mE r) = some (mE r):=by simp
theorem aAG (N : Nat)  (r : (List bO)) (h : oV N  = some r) : Does Tryz.prog 55 [] [] fun v c => v = mE r ∧ c = []:=by
 unfold oV at h
 refine Does.ofL comp55 _ _ rfl rfl ?_
 refine Ex.seq (rg 1 [] (mkS 3 []) ⟨[],[]⟩ ?_)
 refine Ex.seq (rg 3 [0] (mkS 3 [(0,.sl (([(⟨3,450,400⟩ : bO)] : List bO).map aO) (some 0))]) ⟨[],[(1,3)]⟩ ?_)
 refine Ex.ret ?_
 obtain rfl:=sJ h
 exact rt (.sl (([(⟨3,450,400⟩ : bO)] : List bO).map aO) (some 0))
end Go.Proofs.YtjjmhjmkdihmnaaGreatDoor
end
section
namespace Go.Proofs.YtjjmhjmkdihmnaaGreatDoor
open Go.RowKit
set_option maxRecDepth 100000
def entS : List (aDw Tryz.prog):=[⟨13,F13,comp13⟩,⟨41,F41,comp41⟩,⟨44,F44,comp44⟩,⟨45,F45,comp45⟩,⟨46,F46,comp46⟩,⟨74,F74,comp74⟩,⟨75,F75,comp75⟩,⟨76,F76,comp76⟩,⟨77,F77,comp77⟩,⟨78,F78,comp78⟩,⟨100,F100,comp100⟩,⟨101,F101,comp101⟩,⟨102,F102,comp102⟩,⟨103,F103,comp103⟩,⟨104,F104,comp104⟩,⟨105,F105,comp105⟩,⟨106,F106,comp106⟩,⟨107,F107,comp107⟩,⟨124,F124,comp124⟩,⟨125,F125,comp125⟩,⟨126,F126,comp126⟩,⟨127,F127,comp127⟩,⟨128,F128,comp128⟩,⟨131,F131,comp131⟩,⟨132,F132,comp132⟩,⟨133,F133,comp133⟩,⟨135,F135,comp135⟩,⟨136,F136,comp136⟩,⟨137,F137,comp137⟩,⟨141,F141,comp141⟩,⟨142,F142,comp142⟩,⟨143,F143,comp143⟩]
noncomputable def XS : Clr:=clrN (aBl entS) (fun _ => false) aBr 300 14
theorem aHg : fY Tryz.prog XS:=aDq (dV _) (aBk entS) 300 14
def brS : List bO:=[⟨3,450,400⟩]
def flS (k : Int) (l : List cI) : cE:=⟨100,30,20,80,50,k,50,40,l⟩
def ldA : List cI:=[⟨30,⟨10,20⟩,⟨50,60⟩,1,0⟩]
def ldB : List cI:=[⟨70,⟨200,300⟩,⟨30,30⟩,1,0⟩]
theorem aGV : evFn XS 300 F44 [bC (flS 100 ldA),.sl (brS.map aO) none] [] = some (.bool true,[]):=by kernel_rfl
theorem aGU : evFn XS 300 F44 [bC (flS 100 ldB),.sl (brS.map aO) none] [] = some (.bool true,[]):=by kernel_rfl
theorem aGT : evFn XS 300 F44 [bC (flS 400 ldA),.sl (brS.map aO) none] [] = some (.bool true,[]):=by kernel_rfl
theorem aGS : evFn XS 300 F44 [bC (flS 400 ldB),.sl (brS.map aO) none] [] = some (.bool false,[]):=by kernel_rfl
def knS : List (List AV × Bool):=[([bC (flS 100 ldA),.sl (brS.map aO) none],true),([bC (flS 100 ldB),.sl (brS.map aO) none],true),([bC (flS 400 ldA),.sl (brS.map aO) none],true),([bC (flS 400 ldB),.sl (brS.map aO) none],false)]
def aDf : List (List AV × Bool) → List AV → Option Bool
 | [],_ => none
 | e :: l,x => bif beqL e.1 x then some e.2 else aDf l x
theorem zO : ∀ (l : List (List AV × Bool)) (x : List AV) (r : Bool),aDf l x = some r → (x,r) ∈ l
 | [],_,_,h => by cases h
 | e :: l,x,r,h => by
  simp only [aDf] at h
  cases hc : beqL e.1 x with
  | true =>
   rw [hc,cond_true] at h
   cases h
   rw [← kK _ _ hc]
   exact List.mem_cons_self ..
  | false =>
   rw [hc,cond_false] at h
   exact List.mem_cons_of_mem _ (zO l x r h)
theorem aGv : ∀ e ∈ knS,Does Tryz.prog 44 e.1 [] fun v c => v = .bool e.2 ∧ c = []:=by
 intro e he
 have key : ∀ {xs : List AV} {b : Bool},evFn XS 300 F44 xs [] = some (.bool b,[]) → Does Tryz.prog 44 xs [] fun v c => v = .bool b ∧ c = []:=fun h => sN.does ⟨_,_,aAw aHg comp44 h,rfl,rfl⟩
 simp only [knS,List.mem_cons,List.not_mem_nil,or_false] at he
 rcases he with rfl | rfl | rfl | rfl
 ·exact key aGV
 ·exact key aGU
 ·exact key aGT
 ·exact key aGS
def lU (N : Nat) (f_1 : cE) (route_2 : (List bO)) : Option (Bool):=aDf knS [bC f_1,.sl (route_2.map aO) none]
def gD (r : Bool) : AV:=.bool r
attribute [local simp] gD
theorem rZ (f_1 : cE) (route_2 : (List bO)) : [(bC f_1),.sl (route_2.map aO) none].mapM (ren []) = some [(bC f_1),.sl (route_2.map aO) none]:=by simp [ren,ren1,AV.plain,AV.plain1,AV.clean,bA,bC,dJ,kM,jR]
theorem rU (r : Bool) (n n2 m : Nat) : back n n2 m (gD r) = some (gD r):=by simp [back,back1,AV.clean,AV.plain,AV.plain1]
theorem rP (N : Nat) (f_1 : cE) (route_2 : (List bO)) (r : Bool) (h : lU N f_1 route_2 = some r) : Does Tryz.prog 44 [(bC f_1),.sl (route_2.map aO) none] [] fun v c => v = gD r ∧ c = [] :=
 aGv _ (zO _ _ _ h)
end Go.Proofs.YtjjmhjmkdihmnaaGreatDoor
end
section
namespace Go.Proofs.YtjjmhjmkdihmnaaGreatDoor
open Go.RowKit
attribute [local simp] ren ren1 AV.plain AV.plain1 AV.clean bA fI dP fM eZ cV cY eS fX cN cF eA eR dG dF jR rO kM kN cO aE aK bB aH bJ aX aI aA aM bQ bR dW dI eQ dX aJ aB aN aC aO bH pN nV bG nW bC dJ back back1 fadeS fadeV List.idxOf? List.findIdx? List.findIdx?.go re re1 mZ oK yE uK rC kO nL pM lG jG vQ aDu aDv aCk
def gQ (N : Nat) (s_1 : (List Int)) : Option ((List Int)):=kP ([] : List Int) s_1
def oL (r : (List Int)) : AV:=.sl (r.map (AV.int .i64)) none
attribute [local simp] oL
def gP (N : Nat) (s_1 : (List Int)) (v_2 : Int) : Option (Int):=(letJ (fun (_ : Unit) => some (-1)) (fun k_3 => (loop1 (fun rec_7 (y_6 : Int) => (bif (decide (y_6 < ((s_1.length : Nat) : Int))) then ((getI s_1 y_6).bind fun x_11 => (bif (v_2 == x_11) then some y_6 else (rec_7 (IntKind.i64.wrap (y_6 + 1))))) else (k_3 ()))) N 0)))
def eX (r : Int) : AV:=i6 r
attribute [local simp] eX
theorem pJ (s_1 : (List Int)) (v_2 : Int) : [.sl (s_1.map (AV.int .i64)) none,i6 v_2].mapM (ren []) = some [.sl (s_1.map (AV.int .i64)) none,i6 v_2]:=by simp
theorem pF (r : Int) (n n2 m : Nat) : back n n2 m (eX r) = some (eX r):=by simp
theorem pB (N : Nat) (s_1 : (List Int)) (v_2 : Int) (r : Int) (h : gP N s_1 v_2 = some r) : Does Tryz.prog 108 [.sl (s_1.map (AV.int .i64)) none,i6 v_2] [] fun v c => v = eX r ∧ c = []:=by
 unfold gP at h
 refine Does.ofL comp108 _ _ rfl rfl ?_
 refine Ex.seq (rg 1 [0,1] (mkS 19 [(0,.sl (s_1.map (AV.int .i64)) none),(1,i6 v_2)]) ⟨[],[]⟩ ?_)
 refine Ex.seq (Ex.seq ?_)
 refine regH 3 [(1,.eq (i6 ((s_1.length : Nat) : Int)))] [0,1,7,8] [AV.int .i64 (((s_1.map (AV.int .i64)).length : Nat) : Int) = AV.int .i64 ((s_1.length : Nat) : Int)] (mkS 19 [(0,.sl (s_1.map (AV.int .i64)) none),(1,i6 v_2),(7,i6 ((s_1.length : Nat) : Int)),(8,i6 0)]) (⟨[],[]⟩) (by kernel_rfl) ⟨lenM _ _,trivial⟩ rfl ?_
 obtain ⟨K_4,hK_5,h⟩:=letE h
 refine Ex.blockJ (fun a S => K_4 () = some r ∧ a = mkS 19 [] ∧ S = ⟨[],[]⟩) ?_ ?_
 ·obtain ⟨B_8,hB_9,h⟩:=lQ h
  refine Ex.loopF (fun k a S => ∃ (y_6 : Int),loop1 B_8 k y_6 = some r ∧ a = mkS 19 [(0,.sl (s_1.map (AV.int .i64)) none),(1,i6 v_2),(7,i6 ((s_1.length : Nat) : Int)),(8,i6 y_6)] ∧ S = ⟨[],[]⟩) N ⟨_,_,aL.refl _ _ _,0,h,rfl,rfl⟩ ?_
  rintro k a S ⟨y_6,h,rfl,rfl⟩
  cases k with
  | zero => exact (lO h).elim
  | succ k =>
   replace h:=lP h hB_9
   refine Ex.seq (rg 1 [0,1,7,8,9] (mkS 19 [(0,.sl (s_1.map (AV.int .i64)) none),(1,i6 v_2),(7,i6 ((s_1.length : Nat) : Int)),(8,i6 y_6),(9,.bool (decide (y_6 < ((s_1.length : Nat) : Int))))]) ⟨[],[]⟩ ?_)
   refine Ex.seq ?_
   rcases aW h with ⟨hc_10,h⟩ | ⟨hc_10,h⟩
   ·refine Ex.condT _ rfl hc_10 ?_
    refine Ex.skip ?_
    refine Ex.seq ?_
    refine Ex.blockK ?_
    refine Ex.seq (rg 2 [0,1,5,7,8] (mkS 19 [(0,.sl (s_1.map (AV.int .i64)) none),(1,i6 v_2),(5,i6 y_6),(7,i6 ((s_1.length : Nat) : Int)),(8,i6 y_6)]) ⟨[],[]⟩ ?_)
    refine Ex.seq ?_
    obtain ⟨x_11,hx_11,h⟩:=bE h
    refine regH 6 [(3,.rop [i6 x_11])] [0,1,5,7,8,16] [LGet (s_1.map (AV.int .i64)) y_6 1 [i6 x_11]] (mkS 19 [(0,.sl (s_1.map (AV.int .i64)) none),(1,i6 v_2),(5,i6 y_6),(7,i6 ((s_1.length : Nat) : Int)),(8,i6 y_6),(16,.bool (v_2 == x_11))]) (⟨[],[]⟩) (by kernel_rfl) ⟨LGet.of hx_11 rfl,trivial⟩ rfl ?_
    rcases aW h with ⟨hc_12,h⟩ | ⟨hc_12,h⟩
    ·refine Ex.condT _ rfl hc_12 ?_
     refine Ex.seq (rg 2 [4] (mkS 19 [(4,i6 y_6)]) ⟨[],[]⟩ ?_)
     refine Ex.ret ?_
     obtain rfl:=sJ h
     exact rt (i6 y_6)
    ·refine Ex.condF _ rfl hc_12 ?_
     refine Ex.skip ?_
     refine rg 2 [0,1,7,8] (mkS 19 [(0,.sl (s_1.map (AV.int .i64)) none),(1,i6 v_2),(7,i6 ((s_1.length : Nat) : Int)),(8,i6 (IntKind.i64.wrap (y_6 + 1)))]) ⟨[],[]⟩ ?_
     dsimp only
     exact ⟨_,_,aL.refl _ _ _,k,Nat.lt_succ_self k,(IntKind.i64.wrap (y_6 + 1)),h,rfl,rfl⟩
   ·refine Ex.condF _ rfl hc_10 ?_
    refine Ex.exit ?_
    (try simp only [reduceCtorEq,AEx.ex.injEq,Nat.reduceEqDiff,if_true,if_false])
    exact ⟨_,_,bV [],h,rfl,rfl⟩
 ·rintro a S ⟨h,rfl,rfl⟩
  subst hK_5
  refine Ex.seq (rg 1 [4] (mkS 19 [(4,i6 (-1))]) ⟨[],[]⟩ ?_)
  refine Ex.ret ?_
  obtain rfl:=sJ h
  exact rt (i6 (-1))
def fN (N : Nat) (s_1 : (List Int)) (v_2 : Int) : Option (Bool):=((gP N s_1 v_2).bind fun r_3 => some (decide (r_3 ≥ 0)))
def iR (r : Bool) : AV:=.bool r
attribute [local simp] iR
theorem nA (N : Nat) (s_1 : (List Int)) (v_2 : Int) (r : Bool) (h : fN N s_1 v_2 = some r) : Does Tryz.prog 83 [.sl (s_1.map (AV.int .i64)) none,i6 v_2] [] fun v c => v = iR r ∧ c = []:=by
 unfold fN at h
 refine Does.ofL comp83 _ _ rfl rfl ?_
 refine Ex.seq (rg 1 [0,1] (mkS 9 [(0,.sl (s_1.map (AV.int .i64)) none),(1,i6 v_2)]) ⟨[],[]⟩ ?_)
 refine Ex.seq ?_
 obtain ⟨r_3,hr_3,h⟩:=bE h
 refine Ex.reg (rn 2 [5,6] (mkS 9 [(5,.sl (s_1.map (AV.int .i64)) none),(6,i6 v_2)]) ⟨[],[]⟩ ?_)
 refine ExO.callL [] [.sl (s_1.map (AV.int .i64)) none,i6 v_2] rfl rfl (pJ s_1 v_2) rfl rfl (pB N s_1 v_2 r_3 hr_3) (pF _ _ _ _) rfl ?_
 refine rn 2 [4] (mkS 9 [(4,.bool (decide (r_3 ≥ 0)))]) ⟨[],[]⟩ ?_
 refine ExO.nil ?_
 refine Ex.ret ?_
 obtain rfl:=sJ h
 exact rt (.bool (decide (r_3 ≥ 0)))
theorem oP (N : Nat) (s_1 : (List Int)) (r : (List Int)) (h : gQ N s_1 = some r) : aAf Tryz.prog ⟨82,[.sl (s_1.map (AV.int .i64)) none],r.map (AV.int .i64),r.length,1⟩:=by
 refine ⟨?_,(fI _ _),by simp⟩
 unfold gQ at h
 refine aCm.of comp82 ?_
 refine Ex.seq (rg 1 [0] (mkS 8 [(0,.sl (s_1.map (AV.int .i64)) none)]) ⟨[],[]⟩ ?_)
 refine Ex.seq (Ex.seq ?_)
 refine Ex.reg (rn 1 [0,3] (mkS 8 [(0,.sl (s_1.map (AV.int .i64)) none),(3,.sl (s_1.map (AV.int .i64)) none)]) ⟨[],[]⟩ ?_)
 refine ExO.isNil false (.tmp 3) (s_1.map (AV.int .i64)) rfl rfl rfl (fun b hb => ?_)
 refine rn 0 [0,4] (mkS 8 [(0,.sl (s_1.map (AV.int .i64)) none),(4,.bool (b != false))]) ⟨[],[]⟩ ?_
 refine ExO.nil ?_
 cases b
 ·refine Ex.condF (false != false) rfl rfl ?_
  refine Ex.skip ?_
  refine Ex.seq ?_
  refine regH 4 [(2,.apps (s_1.map (AV.int .i64)) (r.map (AV.int .i64)) r.length)] [2] [rB 0 (([] : List Int).map (AV.int .i64)) (s_1.map (AV.int .i64)) (s_1.map (AV.int .i64)) 1 (r.map (AV.int .i64)) r.length] (mkS 8 [(2,.sl (r.map (AV.int .i64)) (some 0))]) (⟨[],[(r.length,1)]⟩) (by kernel_rfl) ⟨rB.of h (fun _ => rfl) (fun _ => rfl) (fun _ => rfl),trivial⟩ rfl ?_
  refine Ex.ret ?_
  exact ⟨.inr rfl,.sl (r.map (AV.int .i64)) (some 0),by kernel_rfl,0,rfl,rfl⟩
 ·have hl : s_1 = []:=List.map_eq_nil_iff.1 (hb rfl)
  subst hl
  have hr : r = []:=by simpa [kP] using h.symm
  subst hr
  refine Ex.condT (true != false) rfl rfl ?_
  refine Ex.seq (rg 1 [2] (mkS 8 [(2,.nils)]) ⟨[],[]⟩ ?_)
  refine Ex.forget (nilK 2 1 rfl) ?_
  refine Ex.ret ?_
  exact ⟨.inr rfl,.sl [] (some 0),by kernel_rfl,0,rfl,rfl⟩
def kS (N : Nat) (table_1 : (List (List Bool))) (designs_2 : Int) : Option ((List Int)):=((mkI designs_2).bind fun k_3 => (letJ (fun (b_17 : List Int) (b_18 : Int) (w_19 : List Int) => some b_17) (fun k_83 => ((loop5 (ρ:=((List Int) × Int × (List Int))) (fun rec_20 (design_12 : Int) (given_13 : Int) (b_14 : List Int) (b_15 : Int) (w_16 : List Int) => (bif (design_12 == designs_2) then (bif (decide (given_13 > b_15)) then (((lenI w_16 k_3).bind fun (_ : Unit) => (gQ N w_16)).bind fun r_30 => some (r_30,given_13,w_16)) else some (b_14,b_15,w_16)) else (letJ (fun (b_31 : List Int) (b_32 : Int) (w_33 : List Int) => ((idxI design_12 k_3).bind fun u_72 => ((setI w_33 design_12 (fun (y_73 : Int) => (-1))).bind fun z_74 => (letJ (fun (b_77 : List Int) (b_78 : Int) (w_79 : List Int) => some (b_77,b_78,w_79)) (fun k_80 => ((rec_20 (IntKind.i64.wrap (design_12 + 1)) given_13 b_31 b_32 z_74).bind fun s_75 => ((fun t => k_80 t.1 t.2.1 t.2.2) s_75))))))) (fun k_34 => (loop4 (fun rec_41 (y_37 : Int) (b_38 : List Int) (b_39 : Int) (w_40 : List Int) => (bif (decide (y_37 < ((table_1.length : Nat) : Int))) then (letJ (fun (b_45 : List Int) (b_46 : Int) (w_47 : List Int) => (rec_41 (IntKind.i64.wrap (y_37 + 1)) b_45 b_46 w_47)) (fun k_48 => ((getI table_1 y_37).bind fun x_51 => (letJ (fun (y_52 : Bool) => (bif y_52 then ((idxI design_12 k_3).bind fun u_61 => ((setI w_40 design_12 (fun (y_62 : Int) => y_37)).bind fun z_63 => (letJ (fun (b_66 : List Int) (b_67 : Int) (w_68 : List Int) => (k_48 b_66 b_67 w_68)) (fun k_69 => ((rec_20 (IntKind.i64.wrap (design_12 + 1)) (IntKind.i64.wrap (given_13 + 1)) b_38 b_39 z_63).bind fun s_64 => ((fun t => k_69 t.1 t.2.1 t.2.2) s_64)))))) else (k_48 b_38 b_39 w_40))) (fun k_53 => ((getI x_51 design_12).bind fun x_56 => (bif x_56 then ((cutL w_40 k_3 design_12).bind fun l_58 => ((fN N l_58 y_37).bind fun r_59 => (k_53 (!r_59)))) else (k_53 false)))))))) else (k_34 b_38 b_39 w_40))) N 0 b_14 b_15 w_16))))) N 0 0 [] (-1) (List.replicate k_3 0)).bind fun s_26 => ((fun t => k_83 t.1 t.2.1 t.2.2) s_26)))))
def iK (r : (List Int)) : AV:=.sl (r.map (AV.int .i64)) none
attribute [local simp] iK
theorem vP (table_1 : (List (List Bool))) (designs_2 : Int) : [.sl (table_1.map (SV AV.bool)) none,i6 designs_2].mapM (ren []) = some [.sl (table_1.map (SV AV.bool)) none,i6 designs_2]:=by simp
theorem vH (r : (List Int)) (n n2 m : Nat) : back n n2 m (iK r) = some (iK r):=by simp
theorem vA (N : Nat) (table_1 : (List (List Bool))) (designs_2 : Int) (r : (List Int)) (h : kS N table_1 designs_2 = some r) : Does Tryz.prog 59 [.sl (table_1.map (SV AV.bool)) none,i6 designs_2] [] fun v c => v = iK r ∧ c = []:=by
 unfold kS at h
 refine Does.ofL comp59 _ _ rfl rfl ?_
 refine Ex.seq (rg 3 [2,3] (mkS 15 [(2,.ptr 0 0),(3,.ptr 1 0)]) ⟨[[.sl (table_1.map (SV AV.bool)) none],[i6 designs_2]],[]⟩ ?_)
 refine Ex.seq (rg 1 [2,3,5] (mkS 15 [(2,.ptr 0 0),(3,.ptr 1 0),(5,.ptr 2 0)]) ⟨[[.sl (table_1.map (SV AV.bool)) none],[i6 designs_2],[.nils]],[]⟩ ?_)
 refine Ex.seq (rg 2 [2,3,5,6] (mkS 15 [(2,.ptr 0 0),(3,.ptr 1 0),(5,.ptr 2 0),(6,.ptr 3 0)]) ⟨[[.sl (table_1.map (SV AV.bool)) none],[i6 designs_2],[.nils],[i6 (-1)]],[]⟩ ?_)
 refine Ex.seq ?_
 obtain ⟨k_3,hk_3,h⟩:=bE h
 refine regH 4 [(1,.mk (flat ((List.replicate k_3 0).map (AV.int .i64))) k_3)] [2,3,5,6,7] [designs_2 = ((k_3 : Nat) : Int) ∧ k_3 ≤ 65536 ∧ rep [i6 0] k_3 = (flat ((List.replicate k_3 0).map (AV.int .i64)))] (mkS 15 [(2,.ptr 0 0),(3,.ptr 1 0),(5,.ptr 2 0),(6,.ptr 3 0),(7,.ptr 5 0)]) (⟨[[.sl (table_1.map (SV AV.bool)) none],[i6 designs_2],[.nils],[i6 (-1)],(flat ((List.replicate k_3 0).map (AV.int .i64))),[.ms 4 k_3 1]],[]⟩) (by kernel_rfl) ⟨aGY (f:=(AV.int .i64)) 0 rfl hk_3,trivial⟩ rfl ?_
 refine Ex.seq (rg 1 [2,3,5,6,7,8] (mkS 15 [(2,.ptr 0 0),(3,.ptr 1 0),(5,.ptr 2 0),(6,.ptr 3 0),(7,.ptr 5 0),(8,.ptr 6 0)]) ⟨[[.sl (table_1.map (SV AV.bool)) none],[i6 designs_2],[.nils],[i6 (-1)],(flat ((List.replicate k_3 0).map (AV.int .i64))),[.ms 4 k_3 1],[.nilf]],[]⟩ ?_)
 refine Ex.seq (rg 2 [5,8] (mkS 15 [(5,.ptr 2 0),(8,.ptr 6 0)]) ⟨[[.sl (table_1.map (SV AV.bool)) none],[i6 designs_2],[.nils],[i6 (-1)],(flat ((List.replicate k_3 0).map (AV.int .i64))),[.ms 4 k_3 1],[.fn 81 [] [.ptr 1 0,.ptr 3 0,.ptr 5 0,.ptr 2 0,.ptr 0 0,.ptr 6 0]]],[]⟩ ?_)
 refine Ex.seq ?_
 refine Ex.reg (rn 1 [5,12] (mkS 15 [(5,.ptr 2 0),(12,.fn 81 [] [.ptr 1 0,.ptr 3 0,.ptr 5 0,.ptr 2 0,.ptr 0 0,.ptr 6 0])]) ⟨[[.sl (table_1.map (SV AV.bool)) none],[i6 designs_2],[.nils],[i6 (-1)],(flat ((List.replicate k_3 0).map (AV.int .i64))),[.ms 4 k_3 1],[.fn 81 [] [.ptr 1 0,.ptr 3 0,.ptr 5 0,.ptr 2 0,.ptr 0 0,.ptr 6 0]]],[]⟩ ?_)
 refine ExO.forget (nilF 2 0 [.nils] rfl rfl) ?_
 refine ExO.castA (a2:=mkS 15 [(5,.ptr 2 0),(12,.fn 81 [] [.ptr 1 0,.ptr 3 0,.ptr 5 0,.ptr 2 0,.ptr 0 0,.ptr 6 0])]) (S2:=⟨[[.sl (table_1.map (SV AV.bool)) none],[i6 designs_2],[.sl (([] : List Int).map (AV.int .i64)) none],[i6 (-1)],(flat ((List.replicate k_3 0).map (AV.int .i64))),[.ms 4 k_3 1],[.fn 81 [] [.ptr 1 0,.ptr 3 0,.ptr 5 0,.ptr 2 0,.ptr 0 0,.ptr 6 0]]],[]⟩) (by kernel_rfl) (by kernel_rfl) ?_
 obtain ⟨K_84,hK_85,h⟩:=letE h
 obtain ⟨s_26,hs_27,h⟩:=bE h
 obtain ⟨B_21,hB_22,hs_27⟩:=aGs hs_27
 have hY_25 : ∀ (k : Nat) (design_12 : Int) (given_13 : Int) (b_14 : List Int) (b_15 : Int) (w_16 : List Int) (r : ((List Int) × Int × (List Int))),loop5 B_21 k design_12 given_13 b_14 b_15 w_16 = some r → ∀ (cx_8 : Cx),cx_8.n = 7 → cx_8.m = 0 → (∀ L' a' ps' x' y',LpOk Tryz.prog (Cx.nat 0) L' a' ps' x' y' → LpOk Tryz.prog cx_8 L' a' ps' x' y') → Ex cx_8 .plain Tryz.prog F81.code (mkS 59 [(0,i6 design_12),(1,i6 given_13),(2,.ptr 1 0),(3,.ptr 3 0),(4,.ptr 5 0),(5,.ptr 2 0),(6,.ptr 0 0),(7,.ptr 6 0),(8,.tup []),(9,.tup []),(10,.tup []),(11,.tup []),(12,.tup []),(13,.tup []),(14,.tup []),(15,.tup []),(16,.tup []),(17,.tup []),(18,.tup []),(19,.tup []),(20,.tup []),(21,.tup []),(22,.tup []),(23,.tup []),(24,.tup []),(25,.tup []),(26,.tup []),(27,.tup []),(28,.tup []),(29,.tup []),(30,.tup []),(31,.tup []),(32,.tup []),(33,.tup []),(34,.tup []),(35,.tup []),(36,.tup []),(37,.tup []),(38,.tup []),(39,.tup []),(40,.tup []),(41,.tup []),(42,.tup []),(43,.tup []),(44,.tup []),(45,.tup []),(46,.tup []),(47,.tup []),(48,.tup []),(49,.tup []),(50,.tup []),(51,.tup []),(52,.tup []),(53,.tup []),(54,.tup []),(55,.tup []),(56,.tup []),(57,.tup []),(58,.tup [])]) (⟨[[.sl (table_1.map (SV AV.bool)) none],[i6 designs_2],[.sl (b_14.map (AV.int .i64)) none],[i6 b_15],(flat (w_16.map (AV.int .i64))),[.ms 4 k_3 1],[.fn 81 [] [.ptr 1 0,.ptr 3 0,.ptr 5 0,.ptr 2 0,.ptr 0 0,.ptr 6 0]]],[]⟩) fun z a' S' => ∃ a2 S2,aL cx_8 a' S' a2 S2 ∧ (z = .norm ∨ z = .ret) ∧ ∃ v,iD a2 S2 F81.res = some v ∧ (fun v S => (∃ (b_17 : List Int),∃ (b_18 : Int),∃ (w_19 : List Int),(b_17,b_18,w_19) = r ∧ v = .tup [] ∧ S = ⟨[[.sl (table_1.map (SV AV.bool)) none],[i6 designs_2],[.sl (b_17.map (AV.int .i64)) none],[i6 b_18],(flat (w_19.map (AV.int .i64))),[.ms 4 k_3 1],[.fn 81 [] [.ptr 1 0,.ptr 3 0,.ptr 5 0,.ptr 2 0,.ptr 0 0,.ptr 6 0]]],[]⟩)) v S2:=by
  intro k_23
  induction k_23 with
  | zero => intro design_12 given_13 b_14 b_15 w_16 r h; exact (aGq h).elim
  | succ k ih_24 =>
   intro design_12 given_13 b_14 b_15 w_16 r h cx_8 hcn_9 hcm_10 hup_11
   replace h:=aGr h hB_22
   refine Ex.seq (Ex.seq ?_)
   refine rg 3 [0,1,3,4,5,6,7,14] (mkS 59 [(0,i6 design_12),(1,i6 given_13),(3,.ptr 3 0),(4,.ptr 5 0),(5,.ptr 2 0),(6,.ptr 0 0),(7,.ptr 6 0),(14,.bool (design_12 == designs_2))]) ⟨[[.sl (table_1.map (SV AV.bool)) none],[i6 designs_2],[.sl (b_14.map (AV.int .i64)) none],[i6 b_15],(flat (w_16.map (AV.int .i64))),[.ms 4 k_3 1],[.fn 81 [] [.ptr 1 0,.ptr 3 0,.ptr 5 0,.ptr 2 0,.ptr 0 0,.ptr 6 0]]],[]⟩ ?_
   rcases aW h with ⟨hc_28,h⟩ | ⟨hc_28,h⟩
   ·refine Ex.condT _ rfl hc_28 ?_
    refine Ex.seq (Ex.seq ?_)
    refine rg 3 [1,3,4,5,17] (mkS 59 [(1,i6 given_13),(3,.ptr 3 0),(4,.ptr 5 0),(5,.ptr 2 0),(17,.bool (decide (given_13 > b_15)))]) ⟨[[.sl (table_1.map (SV AV.bool)) none],[i6 designs_2],[.sl (b_14.map (AV.int .i64)) none],[i6 b_15],(flat (w_16.map (AV.int .i64))),[.ms 4 k_3 1],[.fn 81 [] [.ptr 1 0,.ptr 3 0,.ptr 5 0,.ptr 2 0,.ptr 0 0,.ptr 6 0]]],[]⟩ ?_
    rcases aW h with ⟨hc_29,h⟩ | ⟨hc_29,h⟩
    ·refine Ex.condT _ rfl hc_29 ?_
     obtain ⟨r_30,hr_30,h⟩:=bE h
     refine Ex.reg (rn 1 [1,3,5,18] (mkS 59 [(1,i6 given_13),(3,.ptr 3 0),(5,.ptr 2 0),(18,.ms 4 k_3 1)]) ⟨[[.sl (table_1.map (SV AV.bool)) none],[i6 designs_2],[.sl (b_14.map (AV.int .i64)) none],[i6 b_15],(flat (w_16.map (AV.int .i64))),[.ms 4 k_3 1],[.fn 81 [] [.ptr 1 0,.ptr 3 0,.ptr 5 0,.ptr 2 0,.ptr 0 0,.ptr 6 0]]],[]⟩ ?_)
     refine ExO.callLendP (oP N w_16 r_30 (aFU hr_30).2) (zV (f:=(AV.int .i64)) (fun _ => rfl) _) [(4,1,w_16.map (AV.int .i64),[])] [.ms 4 k_3 1] rfl rfl (by exact ⟨.s 0 rfl ((aFU hr_30).1.symm.trans (List.length_map ..).symm),trivial⟩) ⟨⟨(by show some _ = some _; rw [List.append_nil]),show 0 < 1 by decide,fun i e he => eP (f:=(AV.int .i64)) (s:=1) (fun _ => rfl) _ e (List.mem_of_getElem? he),(gC (f:=(AV.int .i64)) (fun _ => rfl) _),show 4 ∉ ([] : List Nat) by decide⟩,trivial⟩ ?_
     refine rn 3 [] (mkS 59 []) ⟨[[.sl (table_1.map (SV AV.bool)) none],[i6 designs_2],[.sl (r_30.map (AV.int .i64)) none],[i6 given_13],(flat (w_16.map (AV.int .i64))),[.ms 4 k_3 1],[.fn 81 [] [.ptr 1 0,.ptr 3 0,.ptr 5 0,.ptr 2 0,.ptr 0 0,.ptr 6 0]]],[]⟩ ?_
     refine ExO.nil ?_
     refine Ex.ret ?_
     obtain rfl:=sJ h
     exact ⟨_,_,aL.refl _ _ _,.inr rfl,_,by kernel_rfl,⟨r_30,given_13,w_16,rfl,rfl,rfl⟩⟩
    ·refine Ex.condF _ rfl hc_29 ?_
     refine Ex.skip ?_
     refine Ex.ret ?_
     obtain rfl:=sJ h
     exact ⟨_,_,bV [],.inr rfl,_,by kernel_rfl,⟨b_14,b_15,w_16,rfl,rfl,rfl⟩⟩
   ·refine Ex.condF _ rfl hc_28 ?_
    refine Ex.skip ?_
    refine Ex.seq (Ex.seq ?_)
    refine regH 3 [(1,.eq (i6 ((table_1.length : Nat) : Int)))] [0,1,4,7,21,22,23] [AV.int .i64 (((table_1.map (SV AV.bool)).length : Nat) : Int) = AV.int .i64 ((table_1.length : Nat) : Int)] (mkS 59 [(0,i6 design_12),(1,i6 given_13),(4,.ptr 5 0),(7,.ptr 6 0),(21,.sl (table_1.map (SV AV.bool)) none),(22,i6 ((table_1.length : Nat) : Int)),(23,i6 0)]) (⟨[[.sl (table_1.map (SV AV.bool)) none],[i6 designs_2],[.sl (b_14.map (AV.int .i64)) none],[i6 b_15],(flat (w_16.map (AV.int .i64))),[.ms 4 k_3 1],[.fn 81 [] [.ptr 1 0,.ptr 3 0,.ptr 5 0,.ptr 2 0,.ptr 0 0,.ptr 6 0]]],[]⟩) (by kernel_rfl) ⟨lenM _ _,trivial⟩ rfl ?_
    obtain ⟨K_35,hK_36,h⟩:=letE h
    refine Ex.blockJ (fun a S => ∃ (b_31 : List Int),∃ (b_32 : Int),∃ (w_33 : List Int),K_35 b_31 b_32 w_33 = some r ∧ a = mkS 59 [(0,i6 design_12),(1,i6 given_13),(4,.ptr 5 0),(7,.ptr 6 0)] ∧ S = ⟨[[.sl (table_1.map (SV AV.bool)) none],[i6 designs_2],[.sl (b_31.map (AV.int .i64)) none],[i6 b_32],(flat (w_33.map (AV.int .i64))),[.ms 4 k_3 1],[.fn 81 [] [.ptr 1 0,.ptr 3 0,.ptr 5 0,.ptr 2 0,.ptr 0 0,.ptr 6 0]]],[]⟩) ?_ ?_
    ·obtain ⟨B_42,hB_43,h⟩:=aEr h
     refine Ex.loopF (fun k a S => ∃ (y_37 : Int),∃ (b_38 : List Int),∃ (b_39 : Int),∃ (w_40 : List Int),loop4 B_42 k y_37 b_38 b_39 w_40 = some r ∧ a = mkS 59 [(0,i6 design_12),(1,i6 given_13),(4,.ptr 5 0),(7,.ptr 6 0),(21,.sl (table_1.map (SV AV.bool)) none),(22,i6 ((table_1.length : Nat) : Int)),(23,i6 y_37)] ∧ S = ⟨[[.sl (table_1.map (SV AV.bool)) none],[i6 designs_2],[.sl (b_38.map (AV.int .i64)) none],[i6 b_39],(flat (w_40.map (AV.int .i64))),[.ms 4 k_3 1],[.fn 81 [] [.ptr 1 0,.ptr 3 0,.ptr 5 0,.ptr 2 0,.ptr 0 0,.ptr 6 0]]],[]⟩) N ⟨_,_,aL.refl _ _ _,0,b_14,b_15,w_16,h,rfl,rfl⟩ ?_
     rintro k a S ⟨y_37,b_38,b_39,w_40,h,rfl,rfl⟩
     cases k with
     | zero => exact (aEp h).elim
     | succ k =>
      replace h:=aEq h hB_43
      refine Ex.seq (rg 1 [0,1,4,7,21,22,23,24] (mkS 59 [(0,i6 design_12),(1,i6 given_13),(4,.ptr 5 0),(7,.ptr 6 0),(21,.sl (table_1.map (SV AV.bool)) none),(22,i6 ((table_1.length : Nat) : Int)),(23,i6 y_37),(24,.bool (decide (y_37 < ((table_1.length : Nat) : Int))))]) ⟨[[.sl (table_1.map (SV AV.bool)) none],[i6 designs_2],[.sl (b_38.map (AV.int .i64)) none],[i6 b_39],(flat (w_40.map (AV.int .i64))),[.ms 4 k_3 1],[.fn 81 [] [.ptr 1 0,.ptr 3 0,.ptr 5 0,.ptr 2 0,.ptr 0 0,.ptr 6 0]]],[]⟩ ?_)
      refine Ex.seq ?_
      rcases aW h with ⟨hc_44,h⟩ | ⟨hc_44,h⟩
      ·refine Ex.condT _ rfl hc_44 ?_
       refine Ex.skip ?_
       refine Ex.seq ?_
       obtain ⟨K_49,hK_50,h⟩:=letE h
       refine Ex.blockJ (fun a S => ∃ (b_45 : List Int),∃ (b_46 : Int),∃ (w_47 : List Int),K_49 b_45 b_46 w_47 = some r ∧ a = mkS 59 [(0,i6 design_12),(1,i6 given_13),(4,.ptr 5 0),(7,.ptr 6 0),(21,.sl (table_1.map (SV AV.bool)) none),(22,i6 ((table_1.length : Nat) : Int)),(23,i6 y_37)] ∧ S = ⟨[[.sl (table_1.map (SV AV.bool)) none],[i6 designs_2],[.sl (b_45.map (AV.int .i64)) none],[i6 b_46],(flat (w_47.map (AV.int .i64))),[.ms 4 k_3 1],[.fn 81 [] [.ptr 1 0,.ptr 3 0,.ptr 5 0,.ptr 2 0,.ptr 0 0,.ptr 6 0]]],[]⟩) ?_ ?_
       ·refine Ex.seq ?_
        obtain ⟨x_51,hx_51,h⟩:=bE h
        refine regH 5 [(1,.rop [.sl (x_51.map AV.bool) none])] [0,1,4,7,10,11,21,22,23] [LGet (table_1.map (SV AV.bool)) y_37 1 [.sl (x_51.map AV.bool) none]] (mkS 59 [(0,i6 design_12),(1,i6 given_13),(4,.ptr 5 0),(7,.ptr 6 0),(10,i6 y_37),(11,.sl (x_51.map AV.bool) none),(21,.sl (table_1.map (SV AV.bool)) none),(22,i6 ((table_1.length : Nat) : Int)),(23,i6 y_37)]) (⟨[[.sl (table_1.map (SV AV.bool)) none],[i6 designs_2],[.sl (b_38.map (AV.int .i64)) none],[i6 b_39],(flat (w_40.map (AV.int .i64))),[.ms 4 k_3 1],[.fn 81 [] [.ptr 1 0,.ptr 3 0,.ptr 5 0,.ptr 2 0,.ptr 0 0,.ptr 6 0]]],[]⟩) (by kernel_rfl) ⟨LGet.of hx_51 rfl,trivial⟩ rfl ?_
        obtain ⟨K_54,hK_55,h⟩:=letE h
        refine Ex.seqJ (fun a S => ∃ (y_52 : Bool),K_54 y_52 = some r ∧ a = mkS 59 [(0,i6 design_12),(1,i6 given_13),(4,.ptr 5 0),(7,.ptr 6 0),(10,i6 y_37),(21,.sl (table_1.map (SV AV.bool)) none),(22,i6 ((table_1.length : Nat) : Int)),(23,i6 y_37),(39,.bool y_52)] ∧ S = ⟨[[.sl (table_1.map (SV AV.bool)) none],[i6 designs_2],[.sl (b_38.map (AV.int .i64)) none],[i6 b_39],(flat (w_40.map (AV.int .i64))),[.ms 4 k_3 1],[.fn 81 [] [.ptr 1 0,.ptr 3 0,.ptr 5 0,.ptr 2 0,.ptr 0 0,.ptr 6 0]]],[]⟩) ?_ ?_
        ·obtain ⟨x_56,hx_56,h⟩:=bE h
         rcases aW h with ⟨hc_57,h⟩ | ⟨hc_57,h⟩
         ·obtain ⟨l_58,hl_58,h⟩:=bE h
          refine Ex.reg ?_
          refine runH 7 [(2,.rop [.bool x_56]),(4,.eq (.bool true))] [0,1,4,7,10,21,22,23,32,33,34] [LGet (x_51.map AV.bool) design_12 1 [.bool x_56],AV.bool x_56 = AV.bool true] (mkS 59 [(0,i6 design_12),(1,i6 given_13),(4,.ptr 5 0),(7,.ptr 6 0),(10,i6 y_37),(21,.sl (table_1.map (SV AV.bool)) none),(22,i6 ((table_1.length : Nat) : Int)),(23,i6 y_37),(32,.bool true),(33,.ms 4 k_3 1),(34,i6 design_12)]) (⟨[[.sl (table_1.map (SV AV.bool)) none],[i6 designs_2],[.sl (b_38.map (AV.int .i64)) none],[i6 b_39],(flat (w_40.map (AV.int .i64))),[.ms 4 k_3 1],[.fn 81 [] [.ptr 1 0,.ptr 3 0,.ptr 5 0,.ptr 2 0,.ptr 0 0,.ptr 6 0]]],[]⟩) (by kernel_rfl) ⟨LGet.of hx_56 rfl,congrArg AV.bool hc_57,trivial⟩ ?_
          refine ExO.slcM l_58.length rfl rfl rfl rfl (cutL.of hl_58).1 (cutL.of hl_58).2 ?_
          obtain ⟨r_59,hr_59,h⟩:=bE h
          refine rn 1 [0,1,4,7,10,21,22,23,32,35,36] (mkS 59 [(0,i6 design_12),(1,i6 given_13),(4,.ptr 5 0),(7,.ptr 6 0),(10,i6 y_37),(21,.sl (table_1.map (SV AV.bool)) none),(22,i6 ((table_1.length : Nat) : Int)),(23,i6 y_37),(32,.bool true),(35,.ms 4 l_58.length 1),(36,i6 y_37)]) ⟨[[.sl (table_1.map (SV AV.bool)) none],[i6 designs_2],[.sl (b_38.map (AV.int .i64)) none],[i6 b_39],(flat (w_40.map (AV.int .i64))),[.ms 4 k_3 1],[.fn 81 [] [.ptr 1 0,.ptr 3 0,.ptr 5 0,.ptr 2 0,.ptr 0 0,.ptr 6 0]]],[]⟩ ?_
          refine ExO.callLend [(4,1,l_58.map (AV.int .i64),flat ((w_40.drop l_58.length).map (AV.int .i64)))] [] [.ms 4 l_58.length 1,i6 y_37] rfl rfl (by exact ⟨.s 0 rfl (List.length_map ..).symm,⟨.n (by simp; try rfl),trivial⟩⟩) ⟨⟨(by show some _ = some _; rw [cutL.flat hl_58 (AV.int .i64)]),show 0 < 1 by decide,fun i e he => eP (f:=(AV.int .i64)) (s:=1) (fun _ => rfl) _ e (List.mem_of_getElem? he),(gC (f:=(AV.int .i64)) (fun _ => rfl) _),show 4 ∉ ([] : List Nat) by decide⟩,trivial⟩ rfl rfl (nA N l_58 y_37 r_59 hr_59) rfl rfl rfl ?_
          refine rn 2 [0,1,4,7,10,21,22,23,39] (mkS 59 [(0,i6 design_12),(1,i6 given_13),(4,.ptr 5 0),(7,.ptr 6 0),(10,i6 y_37),(21,.sl (table_1.map (SV AV.bool)) none),(22,i6 ((table_1.length : Nat) : Int)),(23,i6 y_37),(39,.bool (!r_59))]) ⟨[[.sl (table_1.map (SV AV.bool)) none],[i6 designs_2],[.sl (b_38.map (AV.int .i64)) none],[i6 b_39],(flat (w_40.map (AV.int .i64))),[.ms 4 k_3 1],[.fn 81 [] [.ptr 1 0,.ptr 3 0,.ptr 5 0,.ptr 2 0,.ptr 0 0,.ptr 6 0]]],[]⟩ ?_
          refine ExO.nil ?_
          (try simp only [reduceCtorEq,AEx.ex.injEq,Nat.reduceEqDiff,if_true,if_false])
          exact ⟨_,_,aL.refl _ _ _,(!r_59),h,rfl,rfl⟩
         ·refine regH 12 [(2, .rop [.bool x_56]), (4, .eq (.bool false))] [0, 1, 4, 7, 10, 21, 22, 23, 39] [LGet (x_51.map AV.bool) design_12 1 [.bool x_56], AV.bool x_56 = AV.bool false] (mkS 59 [(0, i6 design_12), (1, i6 given_13), (4, .ptr 5 0), (7, .ptr 6 0), (10, i6 y_37), (21, .sl (table_1.map (SV AV.bool)) none), (22, i6 ((table_1.length : Nat) : Int)), (23, i6 y_37), (39, .bool false)]) (⟨[[.sl (table_1.map (SV AV.bool)) none], [i6 designs_2], [.sl (b_38.map (AV.int .i64)) none], [i6 b_39], (flat (w_40.map (AV.int .i64))), [.ms 4 k_3 1], [.fn 81 [] [.ptr 1 0, .ptr 3 0, .ptr 5 0, .ptr 2 0, .ptr 0 0, .ptr 6 0]]], []⟩) (by kernel_rfl) ⟨LGet.of hx_56 rfl, congrArg AV.bool hc_57, trivial⟩ rfl ?_
          (try simp only [reduceCtorEq,AEx.ex.injEq,Nat.reduceEqDiff,if_true,if_false])
          exact ⟨_,_,aL.refl _ _ _,false,h,rfl,rfl⟩
        ·rintro a S ⟨y_52,h,rfl,rfl⟩
         subst hK_55
         rcases aW h with ⟨hc_60,h⟩ | ⟨hc_60,h⟩
         ·refine Ex.condT _ rfl hc_60 ?_
          refine Ex.seq ?_
          obtain ⟨u_61,hu_61,h⟩:=bE h
          obtain ⟨z_63,hz_63,h⟩:=bE h
          refine regH 5 [(3,.adm),(4,.st (flat (z_63.map (AV.int .i64))))] [0,1,4,7,21,22,23] [0 ≤ design_12 ∧ design_12 < ((k_3 : Nat) : Int),0 + Int.toNat design_12 * 1 + 1 ≤ ((flat (w_40.map (AV.int .i64)))).length ∧ fG (flat (w_40.map (AV.int .i64))) (0 + Int.toNat design_12 * 1) [i6 y_37] = (flat (z_63.map (AV.int .i64)))] (mkS 59 [(0,i6 design_12),(1,i6 given_13),(4,.ptr 5 0),(7,.ptr 6 0),(21,.sl (table_1.map (SV AV.bool)) none),(22,i6 ((table_1.length : Nat) : Int)),(23,i6 y_37)]) (⟨[[.sl (table_1.map (SV AV.bool)) none],[i6 designs_2],[.sl (b_38.map (AV.int .i64)) none],[i6 b_39],(flat (z_63.map (AV.int .i64))),[.ms 4 k_3 1],[.fn 81 [] [.ptr 1 0,.ptr 3 0,.ptr 5 0,.ptr 2 0,.ptr 0 0,.ptr 6 0]]],[]⟩) (by kernel_rfl) ⟨idxI.of hu_61,stFl (f:=(AV.int .i64)) (s:=1) _ 0 1 design_12 (fun (y_62 : Int) => y_37) _ (fun _ => rfl) hz_63 rfl (by decide) (by omega) (fun _ => rfl),trivial⟩ rfl ?_
          refine Ex.reg (rn 5 [0,1,4,7,21,22,23,44,46,48] (mkS 59 [(0,i6 design_12),(1,i6 given_13),(4,.ptr 5 0),(7,.ptr 6 0),(21,.sl (table_1.map (SV AV.bool)) none),(22,i6 ((table_1.length : Nat) : Int)),(23,i6 y_37),(44,.fn 81 [] [.ptr 1 0,.ptr 3 0,.ptr 5 0,.ptr 2 0,.ptr 0 0,.ptr 6 0]),(46,i6 (IntKind.i64.wrap (design_12 + 1))),(48,i6 (IntKind.i64.wrap (given_13 + 1)))]) ⟨[[.sl (table_1.map (SV AV.bool)) none],[i6 designs_2],[.sl (b_38.map (AV.int .i64)) none],[i6 b_39],(flat (z_63.map (AV.int .i64))),[.ms 4 k_3 1],[.fn 81 [] [.ptr 1 0,.ptr 3 0,.ptr 5 0,.ptr 2 0,.ptr 0 0,.ptr 6 0]]],[]⟩ ?_)
          obtain ⟨K_70,hK_71,h⟩:=letE h
          obtain ⟨s_64,hs_65,h⟩:=bE h
          refine ExO.inlY (fun v S => (∃ (b_66 : List Int),∃ (b_67 : Int),∃ (w_68 : List Int),(b_66,b_67,w_68) = s_64 ∧ v = .tup [] ∧ S = ⟨[[.sl (table_1.map (SV AV.bool)) none],[i6 designs_2],[.sl (b_66.map (AV.int .i64)) none],[i6 b_67],(flat (w_68.map (AV.int .i64))),[.ms 4 k_3 1],[.fn 81 [] [.ptr 1 0,.ptr 3 0,.ptr 5 0,.ptr 2 0,.ptr 0 0,.ptr 6 0]]],[]⟩)) 81 [i6 (IntKind.i64.wrap (design_12 + 1)),i6 (IntKind.i64.wrap (given_13 + 1)),.ptr 1 0,.ptr 3 0,.ptr 5 0,.ptr 2 0,.ptr 0 0,.ptr 6 0] _ comp81 (leC hcn_9 (by simp [bI])) rfl (by kernel_rfl) (mkS 59 [(0,i6 (IntKind.i64.wrap (design_12 + 1))),(1,i6 (IntKind.i64.wrap (given_13 + 1))),(2,.ptr 1 0),(3,.ptr 3 0),(4,.ptr 5 0),(5,.ptr 2 0),(6,.ptr 0 0),(7,.ptr 6 0),(8,.tup []),(9,.tup []),(10,.tup []),(11,.tup []),(12,.tup []),(13,.tup []),(14,.tup []),(15,.tup []),(16,.tup []),(17,.tup []),(18,.tup []),(19,.tup []),(20,.tup []),(21,.tup []),(22,.tup []),(23,.tup []),(24,.tup []),(25,.tup []),(26,.tup []),(27,.tup []),(28,.tup []),(29,.tup []),(30,.tup []),(31,.tup []),(32,.tup []),(33,.tup []),(34,.tup []),(35,.tup []),(36,.tup []),(37,.tup []),(38,.tup []),(39,.tup []),(40,.tup []),(41,.tup []),(42,.tup []),(43,.tup []),(44,.tup []),(45,.tup []),(46,.tup []),(47,.tup []),(48,.tup []),(49,.tup []),(50,.tup []),(51,.tup []),(52,.tup []),(53,.tup []),(54,.tup []),(55,.tup []),(56,.tup []),(57,.tup []),(58,.tup [])]) (by kernel_rfl) (fun c1 g1 g2 g3 => ih_24 (IntKind.i64.wrap (design_12 + 1)) (IntKind.i64.wrap (given_13 + 1)) b_38 b_39 z_63 _ hs_65 c1 g1 g2 (fun _ _ _ _ _ hq => g3 _ _ _ _ _ (hup_11 _ _ _ _ _ hq))) ?_
          rintro v S (⟨b_66,b_67,w_68,rfl,rfl,rfl⟩)
          replace h : K_70 b_66 b_67 w_68 = some r:=h
          subst hK_71
          refine rn 0 [0,1,4,7,21,22,23] (mkS 59 [(0,i6 design_12),(1,i6 given_13),(4,.ptr 5 0),(7,.ptr 6 0),(21,.sl (table_1.map (SV AV.bool)) none),(22,i6 ((table_1.length : Nat) : Int)),(23,i6 y_37)]) ⟨[[.sl (table_1.map (SV AV.bool)) none],[i6 designs_2],[.sl (b_66.map (AV.int .i64)) none],[i6 b_67],(flat (w_68.map (AV.int .i64))),[.ms 4 k_3 1],[.fn 81 [] [.ptr 1 0,.ptr 3 0,.ptr 5 0,.ptr 2 0,.ptr 0 0,.ptr 6 0]]],[]⟩ ?_
          refine ExO.nil ?_
          (try simp only [reduceCtorEq,AEx.ex.injEq,Nat.reduceEqDiff,if_true,if_false])
          exact ⟨_,_,aL.refl _ _ _,b_66,b_67,w_68,h,rfl,rfl⟩
         ·refine Ex.condF _ rfl hc_60 ?_
          refine Ex.skip ?_
          (try simp only [reduceCtorEq,AEx.ex.injEq,Nat.reduceEqDiff,if_true,if_false])
          exact ⟨_,_,bV [0,1,4,7,21,22,23],b_38,b_39,w_40,h,rfl,rfl⟩
       ·rintro a S ⟨b_45,b_46,w_47,h,rfl,rfl⟩
        subst hK_50
        refine rg 2 [0,1,4,7,21,22,23] (mkS 59 [(0,i6 design_12),(1,i6 given_13),(4,.ptr 5 0),(7,.ptr 6 0),(21,.sl (table_1.map (SV AV.bool)) none),(22,i6 ((table_1.length : Nat) : Int)),(23,i6 (IntKind.i64.wrap (y_37 + 1)))]) ⟨[[.sl (table_1.map (SV AV.bool)) none],[i6 designs_2],[.sl (b_45.map (AV.int .i64)) none],[i6 b_46],(flat (w_47.map (AV.int .i64))),[.ms 4 k_3 1],[.fn 81 [] [.ptr 1 0,.ptr 3 0,.ptr 5 0,.ptr 2 0,.ptr 0 0,.ptr 6 0]]],[]⟩ ?_
        dsimp only
        exact ⟨_,_,aL.refl _ _ _,k,Nat.lt_succ_self k,(IntKind.i64.wrap (y_37 + 1)),b_45,b_46,w_47,h,rfl,rfl⟩
      ·refine Ex.condF _ rfl hc_44 ?_
       refine Ex.exit ?_
       (try simp only [reduceCtorEq,AEx.ex.injEq,Nat.reduceEqDiff,if_true,if_false])
       exact ⟨_,_,bV [0,1,4,7],b_38,b_39,w_40,h,rfl,rfl⟩
    ·rintro a S ⟨b_31,b_32,w_33,h,rfl,rfl⟩
     subst hK_36
     refine Ex.seq ?_
     obtain ⟨u_72,hu_72,h⟩:=bE h
     obtain ⟨z_74,hz_74,h⟩:=bE h
     refine regH 4 [(2,.adm),(3,.st (flat (z_74.map (AV.int .i64))))] [0,1,7] [0 ≤ design_12 ∧ design_12 < ((k_3 : Nat) : Int),0 + Int.toNat design_12 * 1 + 1 ≤ ((flat (w_33.map (AV.int .i64)))).length ∧ fG (flat (w_33.map (AV.int .i64))) (0 + Int.toNat design_12 * 1) [i6 (-1)] = (flat (z_74.map (AV.int .i64)))] (mkS 59 [(0,i6 design_12),(1,i6 given_13),(7,.ptr 6 0)]) (⟨[[.sl (table_1.map (SV AV.bool)) none],[i6 designs_2],[.sl (b_31.map (AV.int .i64)) none],[i6 b_32],(flat (z_74.map (AV.int .i64))),[.ms 4 k_3 1],[.fn 81 [] [.ptr 1 0,.ptr 3 0,.ptr 5 0,.ptr 2 0,.ptr 0 0,.ptr 6 0]]],[]⟩) (by kernel_rfl) ⟨idxI.of hu_72,stFl (f:=(AV.int .i64)) (s:=1) _ 0 1 design_12 (fun (y_73 : Int) => (-1)) _ (fun _ => rfl) hz_74 rfl (by decide) (by omega) (fun _ => rfl),trivial⟩ rfl ?_
     refine Ex.reg (rn 4 [54,56,57] (mkS 59 [(54,.fn 81 [] [.ptr 1 0,.ptr 3 0,.ptr 5 0,.ptr 2 0,.ptr 0 0,.ptr 6 0]),(56,i6 (IntKind.i64.wrap (design_12 + 1))),(57,i6 given_13)]) ⟨[[.sl (table_1.map (SV AV.bool)) none],[i6 designs_2],[.sl (b_31.map (AV.int .i64)) none],[i6 b_32],(flat (z_74.map (AV.int .i64))),[.ms 4 k_3 1],[.fn 81 [] [.ptr 1 0,.ptr 3 0,.ptr 5 0,.ptr 2 0,.ptr 0 0,.ptr 6 0]]],[]⟩ ?_)
     obtain ⟨K_81,hK_82,h⟩:=letE h
     obtain ⟨s_75,hs_76,h⟩:=bE h
     refine ExO.inlY (fun v S => (∃ (b_77 : List Int),∃ (b_78 : Int),∃ (w_79 : List Int),(b_77,b_78,w_79) = s_75 ∧ v = .tup [] ∧ S = ⟨[[.sl (table_1.map (SV AV.bool)) none],[i6 designs_2],[.sl (b_77.map (AV.int .i64)) none],[i6 b_78],(flat (w_79.map (AV.int .i64))),[.ms 4 k_3 1],[.fn 81 [] [.ptr 1 0,.ptr 3 0,.ptr 5 0,.ptr 2 0,.ptr 0 0,.ptr 6 0]]],[]⟩)) 81 [i6 (IntKind.i64.wrap (design_12 + 1)),i6 given_13,.ptr 1 0,.ptr 3 0,.ptr 5 0,.ptr 2 0,.ptr 0 0,.ptr 6 0] _ comp81 (leC hcn_9 (by simp [bI])) rfl (by kernel_rfl) (mkS 59 [(0,i6 (IntKind.i64.wrap (design_12 + 1))),(1,i6 given_13),(2,.ptr 1 0),(3,.ptr 3 0),(4,.ptr 5 0),(5,.ptr 2 0),(6,.ptr 0 0),(7,.ptr 6 0),(8,.tup []),(9,.tup []),(10,.tup []),(11,.tup []),(12,.tup []),(13,.tup []),(14,.tup []),(15,.tup []),(16,.tup []),(17,.tup []),(18,.tup []),(19,.tup []),(20,.tup []),(21,.tup []),(22,.tup []),(23,.tup []),(24,.tup []),(25,.tup []),(26,.tup []),(27,.tup []),(28,.tup []),(29,.tup []),(30,.tup []),(31,.tup []),(32,.tup []),(33,.tup []),(34,.tup []),(35,.tup []),(36,.tup []),(37,.tup []),(38,.tup []),(39,.tup []),(40,.tup []),(41,.tup []),(42,.tup []),(43,.tup []),(44,.tup []),(45,.tup []),(46,.tup []),(47,.tup []),(48,.tup []),(49,.tup []),(50,.tup []),(51,.tup []),(52,.tup []),(53,.tup []),(54,.tup []),(55,.tup []),(56,.tup []),(57,.tup []),(58,.tup [])]) (by kernel_rfl) (fun c1 g1 g2 g3 => ih_24 (IntKind.i64.wrap (design_12 + 1)) given_13 b_31 b_32 z_74 _ hs_76 c1 g1 g2 (fun _ _ _ _ _ hq => g3 _ _ _ _ _ (hup_11 _ _ _ _ _ hq))) ?_
     rintro v S (⟨b_77,b_78,w_79,rfl,rfl,rfl⟩)
     replace h : K_81 b_77 b_78 w_79 = some r:=h
     subst hK_82
     refine rn 0 [] (mkS 59 []) ⟨[[.sl (table_1.map (SV AV.bool)) none],[i6 designs_2],[.sl (b_77.map (AV.int .i64)) none],[i6 b_78],(flat (w_79.map (AV.int .i64))),[.ms 4 k_3 1],[.fn 81 [] [.ptr 1 0,.ptr 3 0,.ptr 5 0,.ptr 2 0,.ptr 0 0,.ptr 6 0]]],[]⟩ ?_
     refine ExO.nil ?_
     obtain rfl:=sJ h
     exact ⟨_,_,aL.refl _ _ _,.inl rfl,_,by kernel_rfl,⟨b_77,b_78,w_79,rfl,rfl,rfl⟩⟩
 refine ExO.inlY (fun v S => (∃ (b_17 : List Int),∃ (b_18 : Int),∃ (w_19 : List Int),(b_17,b_18,w_19) = s_26 ∧ v = .tup [] ∧ S = ⟨[[.sl (table_1.map (SV AV.bool)) none],[i6 designs_2],[.sl (b_17.map (AV.int .i64)) none],[i6 b_18],(flat (w_19.map (AV.int .i64))),[.ms 4 k_3 1],[.fn 81 [] [.ptr 1 0,.ptr 3 0,.ptr 5 0,.ptr 2 0,.ptr 0 0,.ptr 6 0]]],[]⟩)) 81 [i6 0,i6 0,.ptr 1 0,.ptr 3 0,.ptr 5 0,.ptr 2 0,.ptr 0 0,.ptr 6 0] _ comp81 (by simp [bI]) rfl (by kernel_rfl) (mkS 59 [(0,i6 0),(1,i6 0),(2,.ptr 1 0),(3,.ptr 3 0),(4,.ptr 5 0),(5,.ptr 2 0),(6,.ptr 0 0),(7,.ptr 6 0),(8,.tup []),(9,.tup []),(10,.tup []),(11,.tup []),(12,.tup []),(13,.tup []),(14,.tup []),(15,.tup []),(16,.tup []),(17,.tup []),(18,.tup []),(19,.tup []),(20,.tup []),(21,.tup []),(22,.tup []),(23,.tup []),(24,.tup []),(25,.tup []),(26,.tup []),(27,.tup []),(28,.tup []),(29,.tup []),(30,.tup []),(31,.tup []),(32,.tup []),(33,.tup []),(34,.tup []),(35,.tup []),(36,.tup []),(37,.tup []),(38,.tup []),(39,.tup []),(40,.tup []),(41,.tup []),(42,.tup []),(43,.tup []),(44,.tup []),(45,.tup []),(46,.tup []),(47,.tup []),(48,.tup []),(49,.tup []),(50,.tup []),(51,.tup []),(52,.tup []),(53,.tup []),(54,.tup []),(55,.tup []),(56,.tup []),(57,.tup []),(58,.tup [])]) (by kernel_rfl) (fun c1 g1 g2 g3 => hY_25 N 0 0 [] (-1) (List.replicate k_3 0) _ hs_27 c1 g1 g2 g3) ?_
 rintro v S (⟨b_17,b_18,w_19,rfl,rfl,rfl⟩)
 replace h : K_84 b_17 b_18 w_19 = some r:=h
 subst hK_85
 refine rn 0 [5] (mkS 15 [(5,.ptr 2 0)]) ⟨[[.sl (table_1.map (SV AV.bool)) none],[i6 designs_2],[.sl (b_17.map (AV.int .i64)) none],[i6 b_18],(flat (w_19.map (AV.int .i64))),[.ms 4 k_3 1],[.fn 81 [] [.ptr 1 0,.ptr 3 0,.ptr 5 0,.ptr 2 0,.ptr 0 0,.ptr 6 0]]],[]⟩ ?_
 refine ExO.nil ?_
 refine Ex.seq (rg 2 [4] (mkS 15 [(4,.sl (b_17.map (AV.int .i64)) none)]) ⟨[[.sl (table_1.map (SV AV.bool)) none],[i6 designs_2],[.sl (b_17.map (AV.int .i64)) none],[i6 b_18],(flat (w_19.map (AV.int .i64))),[.ms 4 k_3 1],[.fn 81 [] [.ptr 1 0,.ptr 3 0,.ptr 5 0,.ptr 2 0,.ptr 0 0,.ptr 6 0]]],[]⟩ ?_)
 refine Ex.ret ?_
 obtain rfl:=sJ h
 exact rt (.sl (b_17.map (AV.int .i64)) none)
def nM (N : Nat) (frame_1 : cE) (design_2 : (List cI)) (a_3 : (List bO)) : Option (Bool):=((lU N (⟨frame_1.Length,frame_1.Width,frame_1.Front,frame_1.Rear,frame_1.Turn,frame_1.Kilos,frame_1.Middle,frame_1.High,design_2⟩ : cE) a_3).bind fun r_4 => some r_4)
def kZ (r : Bool) : AV:=.bool r
attribute [local simp] kZ
theorem yV (r : Bool) (n n2 m : Nat) : back n n2 m (kZ r) = some (kZ r):=by simp
theorem yM (N : Nat) (frame_1 : cE) (design_2 : (List cI)) (a_3 : (List bO)) (r : Bool) (h : nM N frame_1 design_2 a_3 = some r) : Does Tryz.prog 43 [(bC frame_1),.sl (design_2.map bG) none,.ptr 0 0] [[.sl (a_3.map aO) none]] fun v c => v = kZ r ∧ c = [[.sl (a_3.map aO) none]]:=by
 unfold nM at h
 refine Does.ofL comp43 _ _ rfl rfl ?_
 refine Ex.seq (rg 2 [1,2,3] (mkS 11 [(1,.sl (design_2.map bG) none),(2,.ptr 0 0),(3,.ptr 1 0)]) ⟨[[.sl (a_3.map aO) none],(dJ frame_1)],[]⟩ ?_)
 refine Ex.seq (rg 3 [2,3] (mkS 11 [(2,.ptr 0 0),(3,.ptr 1 0)]) ⟨[[.sl (a_3.map aO) none],[i6 frame_1.Length,i6 frame_1.Width,i6 frame_1.Front,i6 frame_1.Rear,i6 frame_1.Turn,i6 frame_1.Kilos,i6 frame_1.Middle,i6 frame_1.High,.sl (design_2.map bG) none]],[]⟩ ?_)
 refine Ex.seq ?_
 obtain ⟨r_4,hr_4,h⟩:=bE h
 refine Ex.reg (rn 2 [8,9] (mkS 11 [(8,.agg [i6 frame_1.Length,i6 frame_1.Width,i6 frame_1.Front,i6 frame_1.Rear,i6 frame_1.Turn,i6 frame_1.Kilos,i6 frame_1.Middle,i6 frame_1.High,.sl (design_2.map bG) none]),(9,.sl (a_3.map aO) none)]) ⟨[[.sl (a_3.map aO) none],[i6 frame_1.Length,i6 frame_1.Width,i6 frame_1.Front,i6 frame_1.Rear,i6 frame_1.Turn,i6 frame_1.Kilos,i6 frame_1.Middle,i6 frame_1.High,.sl (design_2.map bG) none]],[]⟩ ?_)
 refine ExO.callL [] [.agg [i6 frame_1.Length,i6 frame_1.Width,i6 frame_1.Front,i6 frame_1.Rear,i6 frame_1.Turn,i6 frame_1.Kilos,i6 frame_1.Middle,i6 frame_1.High,.sl (design_2.map bG) none],.sl (a_3.map aO) none] rfl rfl (rZ (⟨frame_1.Length,frame_1.Width,frame_1.Front,frame_1.Rear,frame_1.Turn,frame_1.Kilos,frame_1.Middle,frame_1.High,design_2⟩ : cE) a_3) rfl rfl (rP N (⟨frame_1.Length,frame_1.Width,frame_1.Front,frame_1.Rear,frame_1.Turn,frame_1.Kilos,frame_1.Middle,frame_1.High,design_2⟩ : cE) a_3 r_4 hr_4) (rU _ _ _ _) rfl ?_
 refine rn 1 [5] (mkS 11 [(5,.bool r_4)]) ⟨[[.sl (a_3.map aO) none],[i6 frame_1.Length,i6 frame_1.Width,i6 frame_1.Front,i6 frame_1.Rear,i6 frame_1.Turn,i6 frame_1.Kilos,i6 frame_1.Middle,i6 frame_1.High,.sl (design_2.map bG) none]],[]⟩ ?_
 refine ExO.nil ?_
 refine Ex.ret ?_
 obtain rfl:=sJ h
 exact rt (.bool r_4)
def dC (N : Nat) (list_1 : (List cE)) (others_2 : (List (List cI))) (a_3 : (List bO)) : Option ((List (List Bool))):=(letJ (fun (table_4 : List (List Bool)) => some table_4) (fun k_5 => (loop2 (fun rec_10 (table_8 : List (List Bool)) (y_9 : Int) => (bif (decide (y_9 < ((list_1.length : Nat) : Int))) then ((getI list_1 y_9).bind fun x_14 => (letJ (fun (row_15 : List Bool) => ((kP table_8 ([row_15] : List (List Bool))).bind fun l_28 => (rec_10 l_28 (IntKind.i64.wrap (y_9 + 1))))) (fun k_16 => (loop2 (fun rec_21 (row_19 : List Bool) (y_20 : Int) => (bif (decide (y_20 < ((others_2.length : Nat) : Int))) then ((getI others_2 y_20).bind fun x_25 => ((nM N x_14 x_25 a_3).bind fun r_26 => ((kP row_19 ([r_26] : List Bool)).bind fun l_27 => (rec_21 l_27 (IntKind.i64.wrap (y_20 + 1)))))) else (k_16 row_19))) N [] 0)))) else (k_5 table_8))) N [] 0)))
def cD (r : (List (List Bool))) : AV:=.sl (r.map (SV AV.bool)) none
attribute [local simp] cD
theorem iF (r : (List (List Bool))) (n n2 m : Nat) : back n n2 m (cD r) = some (cD r):=by simp
theorem iE (N : Nat) (list_1 : (List cE)) (others_2 : (List (List cI))) (a_3 : (List bO)) (r : (List (List Bool))) (h : dC N list_1 others_2 a_3 = some r) : Does Tryz.prog 42 [.sl (list_1.map bC) none,.sl (others_2.map (SV bG)) none,.fn 43 [] [.ptr 0 0]] [[.sl (a_3.map aO) none]] fun v c => v = cD r ∧ c = [[.sl (a_3.map aO) none]]:=by
 unfold dC at h
 refine Does.ofL comp42 _ _ rfl rfl ?_
 refine Ex.seq (rg 1 [0,1,2] (mkS 39 [(0,.sl (list_1.map bC) none),(1,.sl (others_2.map (SV bG)) none),(2,.fn 43 [] [.ptr 0 0])]) ⟨[[.sl (a_3.map aO) none]],[]⟩ ?_)
 refine Ex.seq (rg 1 [0,1,2,7] (mkS 39 [(0,.sl (list_1.map bC) none),(1,.sl (others_2.map (SV bG)) none),(2,.fn 43 [] [.ptr 0 0]),(7,.nils)]) ⟨[[.sl (a_3.map aO) none]],[]⟩ ?_)
 refine Ex.seq (Ex.seq ?_)
 refine regH 3 [(1,.eq (i6 ((list_1.length : Nat) : Int)))] [1,2,7,13,14,15] [AV.int .i64 (((list_1.map bC).length : Nat) : Int) = AV.int .i64 ((list_1.length : Nat) : Int)] (mkS 39 [(1,.sl (others_2.map (SV bG)) none),(2,.fn 43 [] [.ptr 0 0]),(7,.nils),(13,.sl (list_1.map bC) none),(14,i6 ((list_1.length : Nat) : Int)),(15,i6 0)]) (⟨[[.sl (a_3.map aO) none]],[]⟩) (by kernel_rfl) ⟨lenM _ _,trivial⟩ rfl ?_
 obtain ⟨K_6,hK_7,h⟩:=letE h
 refine Ex.blockJ (fun a S => ∃ (table_4 : List (List Bool)),K_6 table_4 = some r ∧ a = mkS 39 [(7,.sl (table_4.map (SV AV.bool)) (some 0))] ∧ S = ⟨[[.sl (a_3.map aO) none]],[(table_4.length,1)]⟩) ?_ ?_
 ·refine Ex.forget (nilK 7 1 rfl) ?_
  refine Ex.castA (a2:=mkS 39 [(1,.sl (others_2.map (SV bG)) none),(2,.fn 43 [] [.ptr 0 0]),(7,.sl (([] : List (List Bool)).map (SV AV.bool)) (some 0)),(13,.sl (list_1.map bC) none),(14,i6 ((list_1.length : Nat) : Int)),(15,i6 0)]) (S2:=⟨[[.sl (a_3.map aO) none]],[(0,1)]⟩) (by kernel_rfl) (by kernel_rfl) ?_
  obtain ⟨B_11,hB_12,h⟩:=kD h
  refine Ex.loopF (fun k a S => ∃ (table_8 : List (List Bool)),∃ (y_9 : Int),loop2 B_11 k table_8 y_9 = some r ∧ a = mkS 39 [(1,.sl (others_2.map (SV bG)) none),(2,.fn 43 [] [.ptr 0 0]),(7,.sl (table_8.map (SV AV.bool)) (some 0)),(13,.sl (list_1.map bC) none),(14,i6 ((list_1.length : Nat) : Int)),(15,i6 y_9)] ∧ S = ⟨[[.sl (a_3.map aO) none]],[(table_8.length,1)]⟩) N ⟨_,_,aL.refl _ _ _,[],0,h,rfl,rfl⟩ ?_
  rintro k a S ⟨table_8,y_9,h,rfl,rfl⟩
  cases k with
  | zero => exact (kB h).elim
  | succ k =>
   replace h:=kC h hB_12
   refine Ex.seq (rg 1 [1,2,7,13,14,15,16] (mkS 39 [(1,.sl (others_2.map (SV bG)) none),(2,.fn 43 [] [.ptr 0 0]),(7,.sl (table_8.map (SV AV.bool)) (some 0)),(13,.sl (list_1.map bC) none),(14,i6 ((list_1.length : Nat) : Int)),(15,i6 y_9),(16,.bool (decide (y_9 < ((list_1.length : Nat) : Int))))]) ⟨[[.sl (a_3.map aO) none]],[(table_8.length,1)]⟩ ?_)
   refine Ex.seq ?_
   rcases aW h with ⟨hc_13,h⟩ | ⟨hc_13,h⟩
   ·refine Ex.condT _ rfl hc_13 ?_
    refine Ex.skip ?_
    refine Ex.seq ?_
    refine Ex.blockK ?_
    refine Ex.seq ?_
    obtain ⟨x_14,hx_14,h⟩:=bE h
    refine regH 4 [(0,.rop (dJ x_14))] [1,2,7,9,13,14,15] [LGet (list_1.map bC) y_9 9 (dJ x_14)] (mkS 39 [(1,.sl (others_2.map (SV bG)) none),(2,.fn 43 [] [.ptr 0 0]),(7,.sl (table_8.map (SV AV.bool)) (some 0)),(9,.ptr 1 0),(13,.sl (list_1.map bC) none),(14,i6 ((list_1.length : Nat) : Int)),(15,i6 y_9)]) (⟨[[.sl (a_3.map aO) none],(dJ x_14)],[(table_8.length,1)]⟩) (by kernel_rfl) ⟨LGet.of hx_14 rfl,trivial⟩ rfl ?_
    refine Ex.seq (rg 1 [1,2,7,9,10,13,14,15] (mkS 39 [(1,.sl (others_2.map (SV bG)) none),(2,.fn 43 [] [.ptr 0 0]),(7,.sl (table_8.map (SV AV.bool)) (some 0)),(9,.ptr 1 0),(10,.nils),(13,.sl (list_1.map bC) none),(14,i6 ((list_1.length : Nat) : Int)),(15,i6 y_9)]) ⟨[[.sl (a_3.map aO) none],(dJ x_14)],[(table_8.length,1)]⟩ ?_)
    refine Ex.seq (Ex.seq ?_)
    refine regH 3 [(1,.eq (i6 ((others_2.length : Nat) : Int)))] [1,2,7,9,10,13,14,15,19,20,21] [AV.int .i64 (((others_2.map (SV bG)).length : Nat) : Int) = AV.int .i64 ((others_2.length : Nat) : Int)] (mkS 39 [(1,.sl (others_2.map (SV bG)) none),(2,.fn 43 [] [.ptr 0 0]),(7,.sl (table_8.map (SV AV.bool)) (some 0)),(9,.ptr 1 0),(10,.nils),(13,.sl (list_1.map bC) none),(14,i6 ((list_1.length : Nat) : Int)),(15,i6 y_9),(19,.sl (others_2.map (SV bG)) none),(20,i6 ((others_2.length : Nat) : Int)),(21,i6 0)]) (⟨[[.sl (a_3.map aO) none],(dJ x_14)],[(table_8.length,1)]⟩) (by kernel_rfl) ⟨lenM _ _,trivial⟩ rfl ?_
    obtain ⟨K_17,hK_18,h⟩:=letE h
    refine Ex.blockJ (fun a S => ∃ (row_15 : List Bool),K_17 row_15 = some r ∧ a = mkS 39 [(1,.sl (others_2.map (SV bG)) none),(2,.fn 43 [] [.ptr 0 0]),(7,.sl (table_8.map (SV AV.bool)) (some 0)),(10,.sl (row_15.map AV.bool) (some 1)),(13,.sl (list_1.map bC) none),(14,i6 ((list_1.length : Nat) : Int)),(15,i6 y_9)] ∧ S = ⟨[[.sl (a_3.map aO) none]],[(table_8.length,1),(row_15.length,1)]⟩) ?_ ?_
    ·refine Ex.forget (nilK 10 1 rfl) ?_
     refine Ex.castA (a2:=mkS 39 [(1,.sl (others_2.map (SV bG)) none),(2,.fn 43 [] [.ptr 0 0]),(7,.sl (table_8.map (SV AV.bool)) (some 0)),(9,.ptr 1 0),(10,.sl (([] : List Bool).map AV.bool) (some 1)),(13,.sl (list_1.map bC) none),(14,i6 ((list_1.length : Nat) : Int)),(15,i6 y_9),(19,.sl (others_2.map (SV bG)) none),(20,i6 ((others_2.length : Nat) : Int)),(21,i6 0)]) (S2:=⟨[[.sl (a_3.map aO) none],(dJ x_14)],[(table_8.length,1),(0,1)]⟩) (by kernel_rfl) (by kernel_rfl) ?_
     obtain ⟨B_22,hB_23,h⟩:=kD h
     refine Ex.loopF (fun k a S => ∃ (row_19 : List Bool),∃ (y_20 : Int),loop2 B_22 k row_19 y_20 = some r ∧ a = mkS 39 [(1,.sl (others_2.map (SV bG)) none),(2,.fn 43 [] [.ptr 0 0]),(7,.sl (table_8.map (SV AV.bool)) (some 0)),(9,.ptr 1 0),(10,.sl (row_19.map AV.bool) (some 1)),(13,.sl (list_1.map bC) none),(14,i6 ((list_1.length : Nat) : Int)),(15,i6 y_9),(19,.sl (others_2.map (SV bG)) none),(20,i6 ((others_2.length : Nat) : Int)),(21,i6 y_20)] ∧ S = ⟨[[.sl (a_3.map aO) none],(dJ x_14)],[(table_8.length,1),(row_19.length,1)]⟩) N ⟨_,_,aL.refl _ _ _,[],0,h,rfl,rfl⟩ ?_
     rintro k a S ⟨row_19,y_20,h,rfl,rfl⟩
     cases k with
     | zero => exact (kB h).elim
     | succ k =>
      replace h:=kC h hB_23
      refine Ex.seq (rg 1 [1,2,7,9,10,13,14,15,19,20,21,22] (mkS 39 [(1,.sl (others_2.map (SV bG)) none),(2,.fn 43 [] [.ptr 0 0]),(7,.sl (table_8.map (SV AV.bool)) (some 0)),(9,.ptr 1 0),(10,.sl (row_19.map AV.bool) (some 1)),(13,.sl (list_1.map bC) none),(14,i6 ((list_1.length : Nat) : Int)),(15,i6 y_9),(19,.sl (others_2.map (SV bG)) none),(20,i6 ((others_2.length : Nat) : Int)),(21,i6 y_20),(22,.bool (decide (y_20 < ((others_2.length : Nat) : Int))))]) ⟨[[.sl (a_3.map aO) none],(dJ x_14)],[(table_8.length,1),(row_19.length,1)]⟩ ?_)
      refine Ex.seq ?_
      rcases aW h with ⟨hc_24,h⟩ | ⟨hc_24,h⟩
      ·refine Ex.condT _ rfl hc_24 ?_
       refine Ex.skip ?_
       refine Ex.seq ?_
       refine Ex.blockK ?_
       refine Ex.seq ?_
       obtain ⟨x_25,hx_25,h⟩:=bE h
       refine regH 3 [(0,.rop [.sl (x_25.map bG) none])] [1,2,7,9,10,12,13,14,15,19,20,21] [LGet (others_2.map (SV bG)) y_20 1 [.sl (x_25.map bG) none]] (mkS 39 [(1,.sl (others_2.map (SV bG)) none),(2,.fn 43 [] [.ptr 0 0]),(7,.sl (table_8.map (SV AV.bool)) (some 0)),(9,.ptr 1 0),(10,.sl (row_19.map AV.bool) (some 1)),(12,.sl (x_25.map bG) none),(13,.sl (list_1.map bC) none),(14,i6 ((list_1.length : Nat) : Int)),(15,i6 y_9),(19,.sl (others_2.map (SV bG)) none),(20,i6 ((others_2.length : Nat) : Int)),(21,i6 y_20)]) (⟨[[.sl (a_3.map aO) none],(dJ x_14)],[(table_8.length,1),(row_19.length,1)]⟩) (by kernel_rfl) ⟨LGet.of hx_25 rfl,trivial⟩ rfl ?_
       obtain ⟨r_26,hr_26,h⟩:=bE h
       refine Ex.reg (rn 4 [1,2,7,9,13,14,15,19,20,21,25,26,27,28] (mkS 39 [(1,.sl (others_2.map (SV bG)) none),(2,.fn 43 [] [.ptr 0 0]),(7,.sl (table_8.map (SV AV.bool)) (some 0)),(9,.ptr 1 0),(13,.sl (list_1.map bC) none),(14,i6 ((list_1.length : Nat) : Int)),(15,i6 y_9),(19,.sl (others_2.map (SV bG)) none),(20,i6 ((others_2.length : Nat) : Int)),(21,i6 y_20),(25,.sl (row_19.map AV.bool) (some 1)),(26,.fn 43 [] [.ptr 0 0]),(27,(bC x_14)),(28,.sl (x_25.map bG) none)]) ⟨[[.sl (a_3.map aO) none],(dJ x_14)],[(table_8.length,1),(row_19.length,1)]⟩ ?_)
       refine ExO.callL [0] [(bC x_14),.sl (x_25.map bG) none,.ptr 0 0] rfl rfl (by simp; try rfl) rfl (by simp) (yM N x_14 x_25 a_3 r_26 hr_26) (yV _ _ _ _) (by simp) ?_
       obtain ⟨l_27,hl_27,h⟩:=bE h
       refine runH 3 [(1,.app (l_27.map AV.bool) l_27.length)] [1,2,7,9,10,13,14,15,19,20,21] [LApp row_19.length (row_19.map AV.bool) (([r_26] : List Bool).map AV.bool) 1 (l_27.map AV.bool) l_27.length] (mkS 39 [(1,.sl (others_2.map (SV bG)) none),(2,.fn 43 [] [.ptr 0 0]),(7,.sl (table_8.map (SV AV.bool)) (some 0)),(9,.ptr 1 0),(10,.sl (l_27.map AV.bool) (some 1)),(13,.sl (list_1.map bC) none),(14,i6 ((list_1.length : Nat) : Int)),(15,i6 y_9),(19,.sl (others_2.map (SV bG)) none),(20,i6 ((others_2.length : Nat) : Int)),(21,i6 y_20)]) (⟨[[.sl (a_3.map aO) none],(dJ x_14)],[(table_8.length,1),(l_27.length,1),(1,1)]⟩) (by kernel_rfl) ⟨LApp.of hl_27 (fun _ => rfl),trivial⟩ ?_
       refine ExO.nil ?_
       refine rg 2 [1,2,7,9,10,13,14,15,19,20,21] (mkS 39 [(1,.sl (others_2.map (SV bG)) none),(2,.fn 43 [] [.ptr 0 0]),(7,.sl (table_8.map (SV AV.bool)) (some 0)),(9,.ptr 1 0),(10,.sl (l_27.map AV.bool) (some 1)),(13,.sl (list_1.map bC) none),(14,i6 ((list_1.length : Nat) : Int)),(15,i6 y_9),(19,.sl (others_2.map (SV bG)) none),(20,i6 ((others_2.length : Nat) : Int)),(21,i6 (IntKind.i64.wrap (y_20 + 1)))]) ⟨[[.sl (a_3.map aO) none],(dJ x_14)],[(table_8.length,1),(l_27.length,1),(1,1)]⟩ ?_
       dsimp only
       exact ⟨_,_,cA (m:=39) 2 [0,1] [(1,.sl (others_2.map (SV bG)) none),(2,.fn 43 [] [.ptr 0 0]),(7,.sl (table_8.map (SV AV.bool)) (some 0)),(9,.ptr 1 0),(10,.sl (l_27.map AV.bool) (some 1)),(13,.sl (list_1.map bC) none),(14,i6 ((list_1.length : Nat) : Int)),(15,i6 y_9),(19,.sl (others_2.map (SV bG)) none),(20,i6 ((others_2.length : Nat) : Int)),(21,i6 (IntKind.i64.wrap (y_20 + 1)))] [[.sl (a_3.map aO) none],(dJ x_14)] [(table_8.length,1),(l_27.length,1)] (by simp [bI]) (by simp) ⟨(reN (eB (fun _ => (by simp only [SV,AV.clean]; exact (kM _))) _)),(by show re 2 [0,1] (.fn 43 [] [.ptr 0 0]) = some (.fn 43 [] [.ptr 0 0]); simp [re,re1,AV.clean,List.idxOf?,List.findIdx?,List.findIdx?.go,bA,fI,dP,fM,eZ,cV,cY,eS,fX,cN,cF,eA,eR,dG,dF,jR,rO,kM,kN,cO,aE,aK,bB,aH,bJ,aX,aI,aA,aM,bQ,bR,dW,dI,eQ,dX,aJ,aB,aN,aC,aO,bH,pN,nV,bG,nW,bC,dJ]),(reT (eB (fun _ => (by simp only [SV,AV.clean]; exact (dP _))) _) rfl),rfl,(reT (dP _) rfl),(reN (kN _)),rfl,rfl,(reN (eB (fun _ => (by simp only [SV,AV.clean]; exact (kM _))) _)),rfl,rfl,trivial⟩ (by simp) rfl (by decide),k,Nat.lt_succ_self k,l_27,(IntKind.i64.wrap (y_20 + 1)),h,rfl,rfl⟩
      ·refine Ex.condF _ rfl hc_24 ?_
       refine Ex.exit ?_
       (try simp only [reduceCtorEq,AEx.ex.injEq,Nat.reduceEqDiff,if_true,if_false])
       exact ⟨_,_,cA (m:=39) 1 [0,1] [(1,.sl (others_2.map (SV bG)) none),(2,.fn 43 [] [.ptr 0 0]),(7,.sl (table_8.map (SV AV.bool)) (some 0)),(10,.sl (row_19.map AV.bool) (some 1)),(13,.sl (list_1.map bC) none),(14,i6 ((list_1.length : Nat) : Int)),(15,i6 y_9)] [[.sl (a_3.map aO) none]] [(table_8.length,1),(row_19.length,1)] (by simp [bI]) (by simp) ⟨(reN (eB (fun _ => (by simp only [SV,AV.clean]; exact (kM _))) _)),(by show re 1 [0,1] (.fn 43 [] [.ptr 0 0]) = some (.fn 43 [] [.ptr 0 0]); simp [re,re1,AV.clean,List.idxOf?,List.findIdx?,List.findIdx?.go,bA,fI,dP,fM,eZ,cV,cY,eS,fX,cN,cF,eA,eR,dG,dF,jR,rO,kM,kN,cO,aE,aK,bB,aH,bJ,aX,aI,aA,aM,bQ,bR,dW,dI,eQ,dX,aJ,aB,aN,aC,aO,bH,pN,nV,bG,nW,bC,dJ]),(reT (eB (fun _ => (by simp only [SV,AV.clean]; exact (dP _))) _) rfl),(reT (dP _) rfl),(reN (kN _)),rfl,rfl,trivial⟩ (by simp) rfl (by decide),row_19,h,rfl,rfl⟩
    ·rintro a S ⟨row_15,h,rfl,rfl⟩
     subst hK_18
     refine Ex.postF ?_
     obtain ⟨l_28,hl_28,h⟩:=bE h
     refine regH 5 [(3,.app (l_28.map (SV AV.bool)) l_28.length)] [1,2,7,13,14,15] [LApp table_8.length (table_8.map (SV AV.bool)) (([row_15] : List (List Bool)).map (SV AV.bool)) 1 (l_28.map (SV AV.bool)) l_28.length] (mkS 39 [(1,.sl (others_2.map (SV bG)) none),(2,.fn 43 [] [.ptr 0 0]),(7,.sl (l_28.map (SV AV.bool)) (some 0)),(13,.sl (list_1.map bC) none),(14,i6 ((list_1.length : Nat) : Int)),(15,i6 y_9)]) (⟨[[.sl (a_3.map aO) none]],[(l_28.length,1),(row_15.length,1),(1,1)]⟩) (by kernel_rfl) ⟨LApp.of hl_28 (fun _ => rfl),trivial⟩ rfl ?_
     refine ⟨mkS 39 [(1,.sl (others_2.map (SV bG)) none),(2,.fn 43 [] [.ptr 0 0]),(7,.sl (l_28.map (SV AV.bool)) (some 0)),(13,.sl (list_1.map bC) none),(14,i6 ((list_1.length : Nat) : Int)),(15,i6 y_9)],⟨[[.sl (a_3.map aO) none]],[(l_28.length,1),(row_15.length,1),(1,1)]⟩,aL.refl _ _ _,?_⟩
     refine rg 2 [1,2,7,13,14,15] (mkS 39 [(1,.sl (others_2.map (SV bG)) none),(2,.fn 43 [] [.ptr 0 0]),(7,.sl (l_28.map (SV AV.bool)) (some 0)),(13,.sl (list_1.map bC) none),(14,i6 ((list_1.length : Nat) : Int)),(15,i6 (IntKind.i64.wrap (y_9 + 1)))]) ⟨[[.sl (a_3.map aO) none]],[(l_28.length,1),(row_15.length,1),(1,1)]⟩ ?_
     dsimp only
     exact ⟨_,_,cA (m:=39) 1 [0] [(1,.sl (others_2.map (SV bG)) none),(2,.fn 43 [] [.ptr 0 0]),(7,.sl (l_28.map (SV AV.bool)) (some 0)),(13,.sl (list_1.map bC) none),(14,i6 ((list_1.length : Nat) : Int)),(15,i6 (IntKind.i64.wrap (y_9 + 1)))] [[.sl (a_3.map aO) none]] [(l_28.length,1)] (by simp [bI]) (by simp) ⟨(reN (eB (fun _ => (by simp only [SV,AV.clean]; exact (kM _))) _)),(by show re 1 [0] (.fn 43 [] [.ptr 0 0]) = some (.fn 43 [] [.ptr 0 0]); simp [re,re1,AV.clean,List.idxOf?,List.findIdx?,List.findIdx?.go,bA,fI,dP,fM,eZ,cV,cY,eS,fX,cN,cF,eA,eR,dG,dF,jR,rO,kM,kN,cO,aE,aK,bB,aH,bJ,aX,aI,aA,aM,bQ,bR,dW,dI,eQ,dX,aJ,aB,aN,aC,aO,bH,pN,nV,bG,nW,bC,dJ]),(reT (eB (fun _ => (by simp only [SV,AV.clean]; exact (dP _))) _) rfl),(reN (kN _)),rfl,rfl,trivial⟩ (by simp) rfl (by decide),k,Nat.lt_succ_self k,l_28,(IntKind.i64.wrap (y_9 + 1)),h,rfl,rfl⟩
   ·refine Ex.condF _ rfl hc_13 ?_
    refine Ex.exit ?_
    (try simp only [reduceCtorEq,AEx.ex.injEq,Nat.reduceEqDiff,if_true,if_false])
    exact ⟨_,_,bV [7],table_8,h,rfl,rfl⟩
 ·rintro a S ⟨table_4,h,rfl,rfl⟩
  subst hK_7
  refine Ex.seq (rg 2 [6] (mkS 39 [(6,.sl (table_4.map (SV AV.bool)) (some 0))]) ⟨[[.sl (a_3.map aO) none]],[(table_4.length,1)]⟩ ?_)
  refine Ex.ret ?_
  obtain rfl:=sJ h
  exact rt (.sl (table_4.map (SV AV.bool)) (some 0))
def qC (N : Nat) (frames_1 : (List cE)) (designs_2 : (List (List cI))) (route_3 : (List bO)) : Option ((List (List Bool)) × Int):=(letJ (fun (y_4 : Bool) => (bif y_4 then some ([],5) else ((oW N route_3).bind fun r_10 => (bif (r_10 != 0) then some ([],r_10) else ((dC N frames_1 designs_2 route_3).bind fun r_12 => some (r_12,0)))))) (fun k_5 => (bif (decide (((frames_1.length : Nat) : Int) > 6)) then (k_5 true) else (k_5 (decide (((designs_2.length : Nat) : Int) > 6))))))
def nB (r : (List (List Bool)) × Int) : AV:=.tup [.sl (r.1.map (SV AV.bool)) none,i6 r.2]
attribute [local simp] nB
theorem aCd (frames_1 : (List cE)) (designs_2 : (List (List cI))) (route_3 : (List bO)) : [.sl (frames_1.map bC) none,.sl (designs_2.map (SV bG)) none,.sl (route_3.map aO) none].mapM (ren []) = some [.sl (frames_1.map bC) none,.sl (designs_2.map (SV bG)) none,.sl (route_3.map aO) none]:=by simp
theorem aBW (r : (List (List Bool)) × Int) (n n2 m : Nat) : back n n2 m (nB r) = some (nB r):=by simp
theorem aBG (N : Nat) (frames_1 : (List cE)) (designs_2 : (List (List cI))) (route_3 : (List bO)) (r : (List (List Bool)) × Int) (h : qC N frames_1 designs_2 route_3 = some r) : Does Tryz.prog 12 [.sl (frames_1.map bC) none,.sl (designs_2.map (SV bG)) none,.sl (route_3.map aO) none] [] fun v c => v = nB r ∧ c = []:=by
 unfold qC at h
 refine Does.ofL comp12 _ _ rfl rfl ?_
 refine Ex.seq (rg 3 [0,1,5] (mkS 26 [(0,.sl (frames_1.map bC) none),(1,.sl (designs_2.map (SV bG)) none),(5,.ptr 0 0)]) ⟨[[.sl (route_3.map aO) none]],[]⟩ ?_)
 refine Ex.seq ?_
 obtain ⟨K_6,hK_7,h⟩:=letE h
 refine Ex.seqJ (fun a S => ∃ (y_4 : Bool),K_6 y_4 = some r ∧ a = mkS 26 [(0,.sl (frames_1.map bC) none),(1,.sl (designs_2.map (SV bG)) none),(5,.ptr 0 0),(16,.bool y_4)] ∧ S = ⟨[[.sl (route_3.map aO) none]],[]⟩) ?_ ?_
 ·rcases aW h with ⟨hc_8,h⟩ | ⟨hc_8,h⟩
  ·refine regH 8 [(1, .eq (i6 ((frames_1.length : Nat) : Int))), (3, .eq (.bool true))] [0, 1, 5, 16] [AV.int .i64 (((frames_1.map bC).length : Nat) : Int) = AV.int .i64 ((frames_1.length : Nat) : Int), AV.bool (decide (((frames_1.length : Nat) : Int) > 6)) = AV.bool true] (mkS 26 [(0, .sl (frames_1.map bC) none), (1, .sl (designs_2.map (SV bG)) none), (5, .ptr 0 0), (16, .bool true)]) (⟨[[.sl (route_3.map aO) none]], []⟩) (by kernel_rfl) ⟨lenM _ _, congrArg AV.bool hc_8, trivial⟩ rfl ?_
   (try simp only [reduceCtorEq,AEx.ex.injEq,Nat.reduceEqDiff,if_true,if_false])
   exact ⟨_,_,aL.refl _ _ _,true,h,rfl,rfl⟩
  ·refine regH 8 [(1, .eq (i6 ((frames_1.length : Nat) : Int))), (3, .eq (.bool false)), (5, .eq (i6 ((designs_2.length : Nat) : Int)))] [0, 1, 5, 16] [AV.int .i64 (((frames_1.map bC).length : Nat) : Int) = AV.int .i64 ((frames_1.length : Nat) : Int), AV.bool (decide (((frames_1.length : Nat) : Int) > 6)) = AV.bool false, AV.int .i64 (((designs_2.map (SV bG)).length : Nat) : Int) = AV.int .i64 ((designs_2.length : Nat) : Int)] (mkS 26 [(0, .sl (frames_1.map bC) none), (1, .sl (designs_2.map (SV bG)) none), (5, .ptr 0 0), (16, .bool (decide (((designs_2.length : Nat) : Int) > 6)))]) (⟨[[.sl (route_3.map aO) none]], []⟩) (by kernel_rfl) ⟨lenM _ _, congrArg AV.bool hc_8, lenM _ _, trivial⟩ rfl ?_
   (try simp only [reduceCtorEq,AEx.ex.injEq,Nat.reduceEqDiff,if_true,if_false])
   exact ⟨_,_,aL.refl _ _ _,(decide (((designs_2.length : Nat) : Int) > 6)),h,rfl,rfl⟩
 ·rintro a S ⟨y_4,h,rfl,rfl⟩
  subst hK_7
  rcases aW h with ⟨hc_9,h⟩ | ⟨hc_9,h⟩
  ·refine Ex.condT _ rfl hc_9 ?_
   refine Ex.seq (rg 2 [6,7] (mkS 26 [(6,.nils),(7,i6 5)]) ⟨[[.sl (route_3.map aO) none]],[]⟩ ?_)
   refine Ex.ret ?_
   obtain rfl:=sJ h
   exact rt (.tup [.nils,i6 5])
  ·refine Ex.condF _ rfl hc_9 ?_
   refine Ex.skip ?_
   refine Ex.seq (Ex.seq ?_)
   obtain ⟨r_10,hr_10,h⟩:=bE h
   refine Ex.reg (rn 1 [0,1,5,17] (mkS 26 [(0,.sl (frames_1.map bC) none),(1,.sl (designs_2.map (SV bG)) none),(5,.ptr 0 0),(17,.sl (route_3.map aO) none)]) ⟨[[.sl (route_3.map aO) none]],[]⟩ ?_)
   refine ExO.callL [] [.sl (route_3.map aO) none] rfl rfl (aBd route_3) rfl rfl (aAI N route_3 r_10 hr_10) (aAV _ _ _ _) rfl ?_
   refine rn 1 [0,1,5,8] (mkS 26 [(0,.sl (frames_1.map bC) none),(1,.sl (designs_2.map (SV bG)) none),(5,.ptr 0 0),(8,i6 r_10)]) ⟨[[.sl (route_3.map aO) none]],[]⟩ ?_
   refine ExO.nil ?_
   refine Ex.seq (rg 2 [0,1,5,8,20] (mkS 26 [(0,.sl (frames_1.map bC) none),(1,.sl (designs_2.map (SV bG)) none),(5,.ptr 0 0),(8,i6 r_10),(20,.bool (r_10 != 0))]) ⟨[[.sl (route_3.map aO) none]],[]⟩ ?_)
   rcases aW h with ⟨hc_11,h⟩ | ⟨hc_11,h⟩
   ·refine Ex.condT _ rfl hc_11 ?_
    refine Ex.seq (rg 3 [6,7] (mkS 26 [(6,.nils),(7,i6 r_10)]) ⟨[[.sl (route_3.map aO) none]],[]⟩ ?_)
    refine Ex.ret ?_
    obtain rfl:=sJ h
    exact rt (.tup [.nils,i6 r_10])
   ·refine Ex.condF _ rfl hc_11 ?_
    refine Ex.skip ?_
    refine Ex.seq ?_
    obtain ⟨r_12,hr_12,h⟩:=bE h
    refine Ex.reg (rn 3 [22,23,24] (mkS 26 [(22,.sl (frames_1.map bC) none),(23,.sl (designs_2.map (SV bG)) none),(24,.fn 43 [] [.ptr 0 0])]) ⟨[[.sl (route_3.map aO) none]],[]⟩ ?_)
    refine ExO.callL [0] [.sl (frames_1.map bC) none,.sl (designs_2.map (SV bG)) none,.fn 43 [] [.ptr 0 0]] rfl rfl (by simp; try rfl) rfl (by simp) (iE N frames_1 designs_2 route_3 r_12 hr_12) (iF _ _ _ _) (by simp) ?_
    refine rn 2 [6,7] (mkS 26 [(6,.sl (r_12.map (SV AV.bool)) none),(7,i6 0)]) ⟨[[.sl (route_3.map aO) none]],[]⟩ ?_
    refine ExO.nil ?_
    refine Ex.ret ?_
    obtain rfl:=sJ h
    exact rt (.tup [.sl (r_12.map (SV AV.bool)) none,i6 0])
def oS (N : Nat) (frames_1 : (List cE)) (designs_2 : (List (List cI))) (route_3 : (List bO)) : Option ((List Int) × Int):=((qC N frames_1 designs_2 route_3).bind fun r_4 => (bif (r_4.2 != 0) then some ([],r_4.2) else ((kS N r_4.1 ((designs_2.length : Nat) : Int)).bind fun r_6 => some (r_6,0))))
def lZ (r : (List Int) × Int) : AV:=.tup [.sl (r.1.map (AV.int .i64)) none,i6 r.2]
attribute [local simp] lZ
theorem aAY (frames_1 : (List cE)) (designs_2 : (List (List cI))) (route_3 : (List bO)) : [.sl (frames_1.map bC) none,.sl (designs_2.map (SV bG)) none,.sl (route_3.map aO) none].mapM (ren []) = some [.sl (frames_1.map bC) none,.sl (designs_2.map (SV bG)) none,.sl (route_3.map aO) none]:=by simp
theorem aAQ (r : (List Int) × Int) (n n2 m : Nat) : back n n2 m (lZ r) = some (lZ r):=by simp
theorem aAD (N : Nat) (frames_1 : (List cE)) (designs_2 : (List (List cI))) (route_3 : (List bO)) (r : (List Int) × Int) (h : oS N frames_1 designs_2 route_3 = some r) : Does Tryz.prog 20 [.sl (frames_1.map bC) none,.sl (designs_2.map (SV bG)) none,.sl (route_3.map aO) none] [] fun v c => v = lZ r ∧ c = []:=by
 unfold oS at h
 refine Does.ofL comp20 _ _ rfl rfl ?_
 refine Ex.seq (rg 2 [0,1,2] (mkS 24 [(0,.sl (frames_1.map bC) none),(1,.sl (designs_2.map (SV bG)) none),(2,.sl (route_3.map aO) none)]) ⟨[],[]⟩ ?_)
 refine Ex.seq ?_
 obtain ⟨r_4,hr_4,h⟩:=bE h
 refine Ex.reg (rn 3 [1,11,12,13] (mkS 24 [(1,.sl (designs_2.map (SV bG)) none),(11,.sl (frames_1.map bC) none),(12,.sl (designs_2.map (SV bG)) none),(13,.sl (route_3.map aO) none)]) ⟨[],[]⟩ ?_)
 refine ExO.callL [] [.sl (frames_1.map bC) none,.sl (designs_2.map (SV bG)) none,.sl (route_3.map aO) none] rfl rfl (aCd frames_1 designs_2 route_3) rfl rfl (aBG N frames_1 designs_2 route_3 r_4 hr_4) (aBW _ _ _ _) rfl ?_
 refine rn 5 [1,8,9] (mkS 24 [(1,.sl (designs_2.map (SV bG)) none),(8,.sl (r_4.1.map (SV AV.bool)) none),(9,i6 r_4.2)]) ⟨[],[]⟩ ?_
 refine ExO.nil ?_
 refine Ex.seq (Ex.seq ?_)
 refine rg 2 [1,8,9,18] (mkS 24 [(1,.sl (designs_2.map (SV bG)) none),(8,.sl (r_4.1.map (SV AV.bool)) none),(9,i6 r_4.2),(18,.bool (r_4.2 != 0))]) ⟨[],[]⟩ ?_
 rcases aW h with ⟨hc_5,h⟩ | ⟨hc_5,h⟩
 ·refine Ex.condT _ rfl hc_5 ?_
  refine Ex.seq (rg 3 [6,7] (mkS 24 [(6,.nils),(7,i6 r_4.2)]) ⟨[],[]⟩ ?_)
  refine Ex.ret ?_
  obtain rfl:=sJ h
  exact rt (.tup [.nils,i6 r_4.2])
 ·refine Ex.condF _ rfl hc_5 ?_
  refine Ex.skip ?_
  refine Ex.seq ?_
  obtain ⟨r_6,hr_6,h⟩:=bE h
  refine Ex.reg ?_
  refine runH 3 [(2,.eq (i6 ((designs_2.length : Nat) : Int)))] [20,22] [AV.int .i64 (((designs_2.map (SV bG)).length : Nat) : Int) = AV.int .i64 ((designs_2.length : Nat) : Int)] (mkS 24 [(20,.sl (r_4.1.map (SV AV.bool)) none),(22,i6 ((designs_2.length : Nat) : Int))]) (⟨[],[]⟩) (by kernel_rfl) ⟨lenM _ _,trivial⟩ ?_
  refine ExO.callL [] [.sl (r_4.1.map (SV AV.bool)) none,i6 ((designs_2.length : Nat) : Int)] rfl rfl (vP r_4.1 ((designs_2.length : Nat) : Int)) rfl rfl (vA N r_4.1 ((designs_2.length : Nat) : Int) r_6 hr_6) (vH _ _ _ _) rfl ?_
  refine rn 2 [6,7] (mkS 24 [(6,.sl (r_6.map (AV.int .i64)) none),(7,i6 0)]) ⟨[],[]⟩ ?_
  refine ExO.nil ?_
  refine Ex.ret ?_
  obtain rfl:=sJ h
  exact rt (.tup [.sl (r_6.map (AV.int .i64)) none,i6 0])
def oT (N : Nat)  : Option (aV):=some (⟨[(⟨true,false,false⟩ : aP),(⟨false,true,true⟩ : aP),(⟨false,false,true⟩ : aP)],[(⟨0,1,3⟩ : bN),(⟨0,3,2⟩ : bN),(⟨1,2,4⟩ : bN),(⟨1,3,2⟩ : bN)]⟩ : aV)
def oN (r : aV) : AV:=(aX r)
attribute [local simp] oN
theorem yD  : [].mapM (ren []) = some []:=by simp
theorem yB (r : aV) (n n2 m : Nat) : back n n2 m (oN r) = some (oN r):=by simp
theorem xO (N : Nat)  (r : aV) (h : oT N  = some r) : Does Tryz.prog 56 [] [] fun v c => v = oN r ∧ c = []:=by
 unfold oT at h
 refine Does.ofL comp56 _ _ rfl rfl ?_
 refine Ex.seq (rg 1 [0] (mkS 11 [(0,.ptr 0 0)]) ⟨[[.nils,.nils]],[]⟩ ?_)
 refine Ex.seq (rg 11 [0] (mkS 11 [(0,.ptr 0 0)]) ⟨[[.sl (([(⟨true,false,false⟩ : aP),(⟨false,true,true⟩ : aP),(⟨false,false,true⟩ : aP)] : List aP).map aK) (some 0),.sl (([(⟨0,1,3⟩ : bN),(⟨0,3,2⟩ : bN),(⟨1,2,4⟩ : bN),(⟨1,3,2⟩ : bN)] : List bN).map aH) (some 1)]],[(3,3),(4,3)]⟩ ?_)
 refine Ex.ret ?_
 obtain rfl:=sJ h
 exact rt (.agg [.sl (([(⟨true,false,false⟩ : aP),(⟨false,true,true⟩ : aP),(⟨false,false,true⟩ : aP)] : List aP).map aK) (some 0),.sl (([(⟨0,1,3⟩ : bN),(⟨0,3,2⟩ : bN),(⟨1,2,4⟩ : bN),(⟨1,3,2⟩ : bN)] : List bN).map aH) (some 1)])
def sQ (N : Nat) (worker_1 : Int) (day_2 : Int) : Option ((List aG)):=some ([(⟨0,0⟩ : aG),(⟨worker_1,day_2⟩ : aG),(⟨1,0⟩ : aG),(⟨1,4⟩ : aG)])
def oO (r : (List aG)) : AV:=.sl (r.map aA) none
attribute [local simp] oO
theorem aCM (worker_1 : Int) (day_2 : Int) : [i6 worker_1,i6 day_2].mapM (ren []) = some [i6 worker_1,i6 day_2]:=by simp
theorem aCJ (r : (List aG)) (n n2 m : Nat) : back n n2 m (oO r) = some (oO r):=by simp
theorem aCE (N : Nat) (worker_1 : Int) (day_2 : Int) (r : (List aG)) (h : sQ N worker_1 day_2 = some r) : Does Tryz.prog 58 [i6 worker_1,i6 day_2] [] fun v c => v = oO r ∧ c = []:=by
 unfold sQ at h
 refine Does.ofL comp58 _ _ rfl rfl ?_
 refine Ex.seq (rg 1 [0,1] (mkS 12 [(0,i6 worker_1),(1,i6 day_2)]) ⟨[],[]⟩ ?_)
 refine Ex.seq (rg 8 [4] (mkS 12 [(4,.sl (([(⟨0,0⟩ : aG),(⟨worker_1,day_2⟩ : aG),(⟨1,0⟩ : aG),(⟨1,4⟩ : aG)] : List aG).map aA) (some 0))]) ⟨[],[(4,2)]⟩ ?_)
 refine Ex.ret ?_
 obtain rfl:=sJ h
 exact rt (.sl (([(⟨0,0⟩ : aG),(⟨worker_1,day_2⟩ : aG),(⟨1,0⟩ : aG),(⟨1,4⟩ : aG)] : List aG).map aA) (some 0))
def gK (N : Nat)  : Option (Bool):=((oU N).bind fun r_1 => ((nP N).bind fun r_2 => ((oV N).bind fun r_3 => ((oS N r_1 r_2 r_3).bind fun r_4 => ((oT N).bind fun r_5 => ((dY N r_5).bind fun r_6 => ((oT N).bind fun r_7 => ((cW N r_7).bind fun r_8 => (bif (r_4.2 == 0) then (bif (r_6.2.2 == 0) then (bif (r_8.2 == 0) then (bif (r_6.2.1 == 6) then (bif (r_8.1 == 6) then ((qF N r_4.1 [1,0]).bind fun r_14 => (bif r_14 then ((sQ N 2 3).bind fun r_16 => ((nQ N r_6.1 r_16).bind fun r_17 => some r_17)) else some false)) else some false) else some false) else some false) else some false) else some false)))))))))
def nF (r : Bool) : AV:=.bool r
attribute [local simp] nF
theorem aCg  : [].mapM (ren []) = some []:=by simp
theorem aBZ (r : Bool) (n n2 m : Nat) : back n n2 m (nF r) = some (nF r):=by simp
theorem aBJ (N : Nat)  (r : Bool) (h : gK N  = some r) : Does Tryz.prog 19 [] [] fun v c => v = nF r ∧ c = []:=by
 unfold gK at h
 refine Does.ofL comp19 _ _ rfl rfl ?_
 refine Ex.seq (rg 1 [] (mkS 54 []) ⟨[],[]⟩ ?_)
 refine Ex.seq ?_
 obtain ⟨r_1,hr_1,h⟩:=bE h
 refine Ex.reg ?_
 refine ExO.callL [] [] rfl rfl (aBa) rfl rfl (aAF N r_1 hr_1) (aAS _ _ _ _) rfl ?_
 obtain ⟨r_2,hr_2,h⟩:=bE h
 refine ExO.callL [] [] rfl rfl (zE) rfl rfl (yP N r_2 hr_2) (yY _ _ _ _) rfl ?_
 obtain ⟨r_3,hr_3,h⟩:=bE h
 refine ExO.callL [] [] rfl rfl (aBb) rfl rfl (aAG N r_3 hr_3) (aAT _ _ _ _) rfl ?_
 obtain ⟨r_4,hr_4,h⟩:=bE h
 refine ExO.callL [] [.sl (r_1.map bC) none,.sl (r_2.map (SV bG)) none,.sl (r_3.map aO) none] rfl rfl (aAY r_1 r_2 r_3) rfl rfl (aAD N r_1 r_2 r_3 r_4 hr_4) (aAQ _ _ _ _) rfl ?_
 refine rn 5 [1,2] (mkS 54 [(1,.sl (r_4.1.map (AV.int .i64)) none),(2,i6 r_4.2)]) ⟨[],[]⟩ ?_
 refine ExO.nil ?_
 refine Ex.seq ?_
 obtain ⟨r_5,hr_5,h⟩:=bE h
 refine Ex.reg ?_
 refine ExO.callL [] [] rfl rfl (yD) rfl rfl (xO N r_5 hr_5) (yB _ _ _ _) rfl ?_
 obtain ⟨r_6,hr_6,h⟩:=bE h
 refine ExO.callL [] [(aX r_5)] rfl rfl (rA r_5) rfl rfl (qP N r_5 r_6 hr_6) (qV _ _ _ _) rfl ?_
 refine rn 7 [1,2,3,4,5] (mkS 54 [(1,.sl (r_4.1.map (AV.int .i64)) none),(2,i6 r_4.2),(3,.sl (r_6.1.map aA) none),(4,i6 r_6.2.1),(5,i6 r_6.2.2)]) ⟨[],[]⟩ ?_
 refine ExO.nil ?_
 refine Ex.seq ?_
 obtain ⟨r_7,hr_7,h⟩:=bE h
 refine Ex.reg ?_
 refine ExO.callL [] [] rfl rfl (yD) rfl rfl (xO N r_7 hr_7) (yB _ _ _ _) rfl ?_
 obtain ⟨r_8,hr_8,h⟩:=bE h
 refine ExO.callL [] [(aX r_7)] rfl rfl (pK r_7) rfl rfl (pD N r_7 r_8 hr_8) (pH _ _ _ _) rfl ?_
 refine rn 5 [1,2,3,4,5,6,7] (mkS 54 [(1,.sl (r_4.1.map (AV.int .i64)) none),(2,i6 r_4.2),(3,.sl (r_6.1.map aA) none),(4,i6 r_6.2.1),(5,i6 r_6.2.2),(6,i6 r_8.1),(7,i6 r_8.2)]) ⟨[],[]⟩ ?_
 refine ExO.nil ?_
 refine Ex.seq ?_
 rcases aW h with ⟨hc_9,h⟩ | ⟨hc_9,h⟩
 ·rcases aW h with ⟨hc_10,h⟩ | ⟨hc_10,h⟩
  ·rcases aW h with ⟨hc_11,h⟩ | ⟨hc_11,h⟩
   ·rcases aW h with ⟨hc_12,h⟩ | ⟨hc_12,h⟩
    ·rcases aW h with ⟨hc_13,h⟩ | ⟨hc_13,h⟩
     ·obtain ⟨r_14,hr_14,h⟩:=bE h
      refine Ex.reg ?_
      refine runH 21 [(2,.eq (.bool true)),(6,.eq (.bool true)),(10,.eq (.bool true)),(14,.eq (.bool true)),(18,.eq (.bool true))] [3,44,45,46] [AV.bool (r_4.2 == 0) = AV.bool true,AV.bool (r_6.2.2 == 0) = AV.bool true,AV.bool (r_8.2 == 0) = AV.bool true,AV.bool (r_6.2.1 == 6) = AV.bool true,AV.bool (r_8.1 == 6) = AV.bool true] (mkS 54 [(3,.sl (r_6.1.map aA) none),(44,.bool true),(45,.sl (r_4.1.map (AV.int .i64)) none),(46,.sl (([1,0] : List Int).map (AV.int .i64)) (some 0))]) (⟨[],[(2,1)]⟩) (by kernel_rfl) ⟨congrArg AV.bool hc_9,congrArg AV.bool hc_10,congrArg AV.bool hc_11,congrArg AV.bool hc_12,congrArg AV.bool hc_13,trivial⟩ ?_
      refine ExO.callL [] [.sl (r_4.1.map (AV.int .i64)) none,.sl (([1,0] : List Int).map (AV.int .i64)) (some 0)] rfl rfl (aCh r_4.1 [1,0]) rfl rfl (aBL N r_4.1 [1,0] r_14 hr_14) (aCb _ _ _ _) rfl ?_
      rcases aW h with ⟨hc_15,h⟩ | ⟨hc_15,h⟩
      ·obtain ⟨r_16,hr_16,h⟩:=bE h
       refine runH 3 [(1,.eq (.bool true))] [49,50] [AV.bool r_14 = AV.bool true] (mkS 54 [(49,.bool true),(50,.sl (r_6.1.map aA) none)]) (⟨[],[(2,1)]⟩) (by kernel_rfl) ⟨congrArg AV.bool hc_15,trivial⟩ ?_
       refine ExO.callL [] [i6 2,i6 3] rfl rfl (aCM 2 3) rfl rfl (aCE N 2 3 r_16 hr_16) (aCJ _ _ _ _) rfl ?_
       obtain ⟨r_17,hr_17,h⟩:=bE h
       refine ExO.callL [] [.sl (r_6.1.map aA) none,.sl (r_16.map aA) none] rfl rfl (zF r_6.1 r_16) rfl rfl (yR N r_6.1 r_16 r_17 hr_17) (zA _ _ _ _) rfl ?_
       refine rn 2 [0] (mkS 54 [(0,.bool r_17)]) ⟨[],[(2,1)]⟩ ?_
       refine ExO.nil ?_
       refine Ex.ret ?_
       obtain rfl:=sJ h
       exact rt (.bool r_17)
      ·refine runH 7 [(1, .eq (.bool false))] [0] [AV.bool r_14 = AV.bool false] (mkS 54 [(0, .bool false)]) (⟨[], [(2, 1)]⟩) (by kernel_rfl) ⟨congrArg AV.bool hc_15, trivial⟩ ?_
       refine ExO.nil ?_
       refine Ex.ret ?_
       obtain rfl:=sJ h
       exact rt (.bool false)
     ·refine regH 29 [(2, .eq (.bool true)), (6, .eq (.bool true)), (10, .eq (.bool true)), (14, .eq (.bool true)), (18, .eq (.bool false))] [0] [AV.bool (r_4.2 == 0) = AV.bool true, AV.bool (r_6.2.2 == 0) = AV.bool true, AV.bool (r_8.2 == 0) = AV.bool true, AV.bool (r_6.2.1 == 6) = AV.bool true, AV.bool (r_8.1 == 6) = AV.bool false] (mkS 54 [(0, .bool false)]) (⟨[], []⟩) (by kernel_rfl) ⟨congrArg AV.bool hc_9, congrArg AV.bool hc_10, congrArg AV.bool hc_11, congrArg AV.bool hc_12, congrArg AV.bool hc_13, trivial⟩ rfl ?_
      refine Ex.ret ?_
      obtain rfl:=sJ h
      exact rt (.bool false)
    ·refine regH 29 [(2, .eq (.bool true)), (6, .eq (.bool true)), (10, .eq (.bool true)), (14, .eq (.bool false))] [0] [AV.bool (r_4.2 == 0) = AV.bool true, AV.bool (r_6.2.2 == 0) = AV.bool true, AV.bool (r_8.2 == 0) = AV.bool true, AV.bool (r_6.2.1 == 6) = AV.bool false] (mkS 54 [(0, .bool false)]) (⟨[], []⟩) (by kernel_rfl) ⟨congrArg AV.bool hc_9, congrArg AV.bool hc_10, congrArg AV.bool hc_11, congrArg AV.bool hc_12, trivial⟩ rfl ?_
     refine Ex.ret ?_
     obtain rfl:=sJ h
     exact rt (.bool false)
   ·refine regH 29 [(2, .eq (.bool true)), (6, .eq (.bool true)), (10, .eq (.bool false))] [0] [AV.bool (r_4.2 == 0) = AV.bool true, AV.bool (r_6.2.2 == 0) = AV.bool true, AV.bool (r_8.2 == 0) = AV.bool false] (mkS 54 [(0, .bool false)]) (⟨[], []⟩) (by kernel_rfl) ⟨congrArg AV.bool hc_9, congrArg AV.bool hc_10, congrArg AV.bool hc_11, trivial⟩ rfl ?_
    refine Ex.ret ?_
    obtain rfl:=sJ h
    exact rt (.bool false)
  ·refine regH 29 [(2, .eq (.bool true)), (6, .eq (.bool false))] [0] [AV.bool (r_4.2 == 0) = AV.bool true, AV.bool (r_6.2.2 == 0) = AV.bool false] (mkS 54 [(0, .bool false)]) (⟨[], []⟩) (by kernel_rfl) ⟨congrArg AV.bool hc_9, congrArg AV.bool hc_10, trivial⟩ rfl ?_
   refine Ex.ret ?_
   obtain rfl:=sJ h
   exact rt (.bool false)
 ·refine regH 29 [(2, .eq (.bool false))] [0] [AV.bool (r_4.2 == 0) = AV.bool false] (mkS 54 [(0, .bool false)]) (⟨[], []⟩) (by kernel_rfl) ⟨congrArg AV.bool hc_9, trivial⟩ rfl ?_
  refine Ex.ret ?_
  obtain rfl:=sJ h
  exact rt (.bool false)
end Go.Proofs.YtjjmhjmkdihmnaaGreatDoor
end
section
namespace Go.Proofs.YtjjmhjmkdihmnaaGreatDoor
open Go.RowKit
attribute [local simp] back back1 AV.plain AV.plain1 AV.clean bA fI dP fM eZ cV cY eS fX cN cF eA eR dG dF jR rO kM kN cO aE aK bB aH bJ aX aI aA aM bQ bR dW dI eQ dX aJ aB aN aC aO bH pN nV bG nW bC dJ ren ren1 fadeS fadeV List.idxOf? List.findIdx? List.findIdx?.go re re1 mZ oK yE uK rC kO nL pM lG jG vQ aDu aDv aCk
def iV (N : Nat) (d_1 : aQ) (s_2 : aV) : Option ((List aG) × aQ):=(letJ (fun (l_3 : List aG) (b_4 : Int) => some (l_3,(⟨b_4⟩ : aQ))) (fun k_5 => (loop4 (fun rec_12 (l_8 : List aG) (day_9 : Int) (i_10 : Int) (b_11 : Int) => (bif (decide (i_10 < ((s_2.Jobs.length : Nat) : Int))) then ((cQ N (⟨b_11⟩ : aQ) ((s_2.Workers.length : Nat) : Int)).bind fun r_16 => ((cQ N r_16.2 2).bind fun r_17 => ((kP l_8 ([(⟨r_16.1,(IntKind.i64.wrap (day_9 + r_17.1))⟩ : aG)] : List aG)).bind fun l_18 => ((getI s_2.Jobs i_10).bind fun x_19 => ((getI s_2.Jobs i_10).bind fun x_20 => ((iW N r_17.2 [0,x_19.Days,x_20.Days]).bind fun r_21 => (rec_12 l_18 (IntKind.i64.wrap (day_9 + r_21.1)) (IntKind.i64.wrap (i_10 + 1)) r_21.2.beat_))))))) else (k_5 l_8 b_11))) N [] 0 0 d_1.beat_)))
def fZ (r : (List aG) × aQ) : AV:=.sl (r.1.map aA) none
attribute [local simp] fZ
theorem yZ (r : (List aG) × aQ) (n n2 m : Nat) : back n n2 m (fZ r) = some (fZ r):=by simp
theorem yQ (N : Nat) (d_1 : aQ) (s_2 : aV) (r : (List aG) × aQ) (h : iV N d_1 s_2 = some r) : Does Tryz.prog 32 [.ptr 0 0,(aX s_2)] [(aE d_1)] fun v c => v = fZ r ∧ c = [(aE r.2)]:=by
 unfold iV at h
 refine Does.ofL comp32 _ _ rfl rfl ?_
 refine Ex.seq (rg 2 [0,3] (mkS 46 [(0,.ptr 0 0),(3,.ptr 1 0)]) ⟨[(aE d_1),(aI s_2)],[]⟩ ?_)
 refine Ex.seq (rg 1 [0,3,5] (mkS 46 [(0,.ptr 0 0),(3,.ptr 1 0),(5,.nils)]) ⟨[(aE d_1),(aI s_2)],[]⟩ ?_)
 refine Ex.seq (rg 1 [0,3,5,6] (mkS 46 [(0,.ptr 0 0),(3,.ptr 1 0),(5,.nils),(6,i6 0)]) ⟨[(aE d_1),(aI s_2)],[]⟩ ?_)
 refine Ex.seq (Ex.seq ?_)
 refine rg 1 [0,3,5,6,7] (mkS 46 [(0,.ptr 0 0),(3,.ptr 1 0),(5,.nils),(6,i6 0),(7,i6 0)]) ⟨[(aE d_1),(aI s_2)],[]⟩ ?_
 obtain ⟨K_6,hK_7,h⟩:=letE h
 refine Ex.blockJ (fun a S => ∃ (l_3 : List aG),∃ (b_4 : Int),K_6 l_3 b_4 = some r ∧ a = mkS 46 [(5,.sl (l_3.map aA) (some 0))] ∧ S = ⟨[[.int .u64 b_4]],[(l_3.length,2)]⟩) ?_ ?_
 ·refine Ex.forget (nilK 5 2 rfl) ?_
  refine Ex.castA (a2:=mkS 46 [(0,.ptr 0 0),(3,.ptr 1 0),(5,.sl (([] : List aG).map aA) (some 0)),(6,i6 0),(7,i6 0)]) (S2:=⟨[(aE d_1),(aI s_2)],[(0,2)]⟩) (by kernel_rfl) (by kernel_rfl) ?_
  obtain ⟨B_13,hB_14,h⟩:=aEr h
  refine Ex.loopF (fun k a S => ∃ (l_8 : List aG),∃ (day_9 : Int),∃ (i_10 : Int),∃ (b_11 : Int),loop4 B_13 k l_8 day_9 i_10 b_11 = some r ∧ a = mkS 46 [(0,.ptr 0 0),(3,.ptr 1 0),(5,.sl (l_8.map aA) (some 0)),(6,i6 day_9),(7,i6 i_10)] ∧ S = ⟨[[.int .u64 b_11],(aI s_2)],[(l_8.length,2)]⟩) N ⟨_,_,aL.refl _ _ _,[],0,0,d_1.beat_,h,rfl,rfl⟩ ?_
  rintro k a S ⟨l_8,day_9,i_10,b_11,h,rfl,rfl⟩
  cases k with
  | zero => exact (aEp h).elim
  | succ k =>
   replace h:=aEq h hB_14
   refine Ex.seq (Ex.seq ?_)
   refine regH 5 [(3,.eq (i6 ((s_2.Jobs.length : Nat) : Int)))] [0,3,5,6,7,12] [AV.int .i64 (((s_2.Jobs.map aH).length : Nat) : Int) = AV.int .i64 ((s_2.Jobs.length : Nat) : Int)] (mkS 46 [(0,.ptr 0 0),(3,.ptr 1 0),(5,.sl (l_8.map aA) (some 0)),(6,i6 day_9),(7,i6 i_10),(12,.bool (decide (i_10 < ((s_2.Jobs.length : Nat) : Int))))]) (⟨[[.int .u64 b_11],(aI s_2)],[(l_8.length,2)]⟩) (by kernel_rfl) ⟨lenM _ _,trivial⟩ rfl ?_
   rcases aW h with ⟨hc_15,h⟩ | ⟨hc_15,h⟩
   ·refine Ex.condT _ rfl hc_15 ?_
    refine Ex.skip ?_
    refine Ex.seq ?_
    refine Ex.blockK ?_
    refine Ex.seq ?_
    obtain ⟨r_16,hr_16,h⟩:=bE h
    refine Ex.reg ?_
    refine runH 5 [(4,.eq (i6 ((s_2.Workers.length : Nat) : Int)))] [0,3,6,7,15,16,19] [AV.int .i64 (((s_2.Workers.map aK).length : Nat) : Int) = AV.int .i64 ((s_2.Workers.length : Nat) : Int)] (mkS 46 [(0,.ptr 0 0),(3,.ptr 1 0),(6,i6 day_9),(7,i6 i_10),(15,.sl (l_8.map aA) (some 0)),(16,.ptr 0 0),(19,i6 ((s_2.Workers.length : Nat) : Int))]) (⟨[[.int .u64 b_11],(aI s_2)],[(l_8.length,2)]⟩) (by kernel_rfl) ⟨lenM _ _,trivial⟩ ?_
    refine ExO.callL [0] [.ptr 0 0,i6 ((s_2.Workers.length : Nat) : Int)] rfl rfl (by simp; try rfl) rfl (by simp) (fH N (⟨b_11⟩ : aQ) ((s_2.Workers.length : Nat) : Int) r_16 hr_16) (fJ _ _ _ _) (by simp) ?_
    obtain ⟨r_17,hr_17,h⟩:=bE h
    refine rn 2 [0,3,6,7,15,20,21,22] (mkS 46 [(0,.ptr 0 0),(3,.ptr 1 0),(6,i6 day_9),(7,i6 i_10),(15,.sl (l_8.map aA) (some 0)),(20,i6 r_16.1),(21,i6 day_9),(22,.ptr 0 0)]) ⟨[(aE r_16.2),(aI s_2)],[(l_8.length,2)]⟩ ?_
    refine ExO.callL [0] [.ptr 0 0,i6 2] rfl rfl (by simp; try rfl) rfl (by simp) (fH N r_16.2 2 r_17 hr_17) (fJ _ _ _ _) (by simp) ?_
    obtain ⟨l_18,hl_18,h⟩:=bE h
    refine runH 5 [(3,.app (l_18.map aA) l_18.length)] [0,3,5,6,7] [LApp l_8.length (l_8.map aA) (([(⟨r_16.1,(IntKind.i64.wrap (day_9 + r_17.1))⟩ : aG)] : List aG).map aA) 2 (l_18.map aA) l_18.length] (mkS 46 [(0,.ptr 0 0),(3,.ptr 1 0),(5,.sl (l_18.map aA) (some 0)),(6,i6 day_9),(7,i6 i_10)]) (⟨[(aE r_17.2),(aI s_2)],[(l_18.length,2),(1,2)]⟩) (by kernel_rfl) ⟨LApp.of hl_18 (fun _ => rfl),trivial⟩ ?_
    refine ExO.nil ?_
    obtain ⟨x_19,hx_19,h⟩:=bE h
    obtain ⟨x_20,hx_20,h⟩:=bE h
    obtain ⟨r_21,hr_21,h⟩:=bE h
    have hT_22 : jS Tryz.prog [⟨40,[.ptr 0 0,.sl (([0,x_19.Days,x_20.Days] : List Int).map (AV.int .i64)) none],[(aE r_17.2)],(gA r_21),[(aE r_21.2)]⟩] ∧ gZ [⟨40,[.ptr 0 0,.sl (([0,x_19.Days,x_20.Days] : List Int).map (AV.int .i64)) none],[(aE r_17.2)],(gA r_21),[(aE r_21.2)]⟩]:=⟨⟨(yS N r_17.2 [0,x_19.Days,x_20.Days] r_21 hr_21),rfl,trivial⟩,⟨trivial,trivial⟩⟩
    refine Ex.drawE (a1:=mkS 46 [(0,.ptr 0 0),(3,.ptr 1 0),(5,.sl (l_18.map aA) (some 0)),(6,i6 day_9),(7,i6 i_10),(28,i6 day_9),(29,.ptr 0 0),(30,.ptr 1 1),(31,.sl (s_2.Jobs.map aH) none),(32,i6 i_10),(33,.rop (bJ x_19)),(34,.rop [i6 x_19.Days]),(35,i6 x_19.Days),(36,.ptr 1 1),(37,.sl (s_2.Jobs.map aH) none),(38,i6 i_10),(39,.rop (bJ x_20)),(40,.rop [i6 x_20.Days]),(41,i6 x_20.Days),(42,.sl (([0,x_19.Days,x_20.Days] : List Int).map (AV.int .i64)) (some 2)),(43,i6 r_21.1)]) (iA hT_22.1) [] [(3,1)] [⟨[(aE r_21.2),(aI s_2)],[(l_18.length,2),(1,2),(3,1)]⟩] ?_ ?_
    ·refine drS [1] 14 [(5, .rop (bJ x_19)), (11, .rop (bJ x_20))] [LGet (s_2.Jobs.map aH) i_10 3 (bJ x_19), LGet (s_2.Jobs.map aH) i_10 3 (bJ x_20)] (mkS 46 [(0, .ptr 0 0), (3, .ptr 1 0), (5, .sl (l_18.map aA) (some 0)), (6, i6 day_9), (7, i6 i_10), (28, i6 day_9), (29, .ptr 0 0), (30, .ptr 1 1), (31, .sl (s_2.Jobs.map aH) none), (32, i6 i_10), (33, .rop (bJ x_19)), (34, .rop [i6 x_19.Days]), (35, i6 x_19.Days), (36, .ptr 1 1), (37, .sl (s_2.Jobs.map aH) none), (38, i6 i_10), (39, .rop (bJ x_20)), (40, .rop [i6 x_20.Days]), (41, i6 x_20.Days)]) (by simp) (by kernel_rfl) ⟨LGet.of hx_19 rfl, LGet.of hx_20 rfl, trivial⟩ (by kernel_rfl) ?_
     refine drR 2 1 (([0,x_19.Days,x_20.Days] : List Int).map (AV.int .i64)) rfl rfl (fun _ => by kernel_rfl) (by simp) rfl rfl ?_
     refine drB hT_22.2 0 _ [0] [.ptr 0 0,.sl (([0,x_19.Days,x_20.Days] : List Int).map (AV.int .i64)) (some 2)] (gA r_21) _ _ rfl rfl rfl rfl rfl rfl rfl rfl (by simp; try rfl) rfl (by simp) (zB _ _ _ _) (by simp) rfl ?_
     exact DrO.nil rfl
    ·dsimp only [List.getLastD_cons,List.getLastD_nil]
     refine rn 2 [0,3,5,6,7] (mkS 46 [(0,.ptr 0 0),(3,.ptr 1 0),(5,.sl (l_18.map aA) (some 0)),(6,i6 (IntKind.i64.wrap (day_9 + r_21.1))),(7,i6 i_10)]) ⟨[(aE r_21.2),(aI s_2)],[(l_18.length,2),(1,2),(3,1)]⟩ ?_
     refine ExO.nil ?_
     refine rg 3 [0,3,5,6,7] (mkS 46 [(0,.ptr 0 0),(3,.ptr 1 0),(5,.sl (l_18.map aA) (some 0)),(6,i6 (IntKind.i64.wrap (day_9 + r_21.1))),(7,i6 (IntKind.i64.wrap (i_10 + 1)))]) ⟨[(aE r_21.2),(aI s_2)],[(l_18.length,2),(1,2),(3,1)]⟩ ?_
     dsimp only
     exact ⟨_,_,cA (m:=46) 2 [0] [(0,.ptr 0 0),(3,.ptr 1 0),(5,.sl (l_18.map aA) (some 0)),(6,i6 (IntKind.i64.wrap (day_9 + r_21.1))),(7,i6 (IntKind.i64.wrap (i_10 + 1)))] [(aE r_21.2),(aI s_2)] [(l_18.length,2)] (by simp [bI]) (by simp) ⟨rfl,rfl,(reT (cN _) rfl),rfl,rfl,trivial⟩ (by simp) rfl (by decide),k,Nat.lt_succ_self k,l_18,(IntKind.i64.wrap (day_9 + r_21.1)),(IntKind.i64.wrap (i_10 + 1)),r_21.2.beat_,h,rfl,rfl⟩
   ·refine Ex.condF _ rfl hc_15 ?_
    refine Ex.exit ?_
    (try simp only [reduceCtorEq,AEx.ex.injEq,Nat.reduceEqDiff,if_true,if_false])
    exact ⟨_,_,cA (m:=46) 1 [0] [(5,.sl (l_8.map aA) (some 0))] [[.int .u64 b_11]] [(l_8.length,2)] (by simp [bI]) (by simp) ⟨(reT (cN _) rfl),trivial⟩ (by simp) rfl (by decide),l_8,b_11,h,rfl,rfl⟩
 ·rintro a S ⟨l_3,b_4,h,rfl,rfl⟩
  subst hK_7
  refine Ex.seq (rg 2 [4] (mkS 46 [(4,.sl (l_3.map aA) (some 0))]) ⟨[[.int .u64 b_4]],[(l_3.length,2)]⟩ ?_)
  refine Ex.ret ?_
  obtain rfl:=sJ h
  exact rt (.sl (l_3.map aA) (some 0))
def iP (N : Nat) (s_1 : aV) : Option (aV):=((kP ([] : List aP) s_1.Workers).bind fun l_2 => ((kP ([] : List bN) s_1.Jobs).bind fun l_3 => some (⟨l_2,l_3⟩ : aV)))
def mF (r : aV) : AV:=(aX r)
attribute [local simp] mF
theorem aBc (s_1 : aV) : [(aX s_1)].mapM (ren []) = some [(aX s_1)]:=by simp
theorem aAU (r : aV) (n n2 m : Nat) : back n n2 m (mF r) = some (mF r):=by simp
theorem aAH (N : Nat) (s_1 : aV) (r : aV) (h : iP N s_1 = some r) : Does Tryz.prog 33 [(aX s_1)] [] fun v c => v = mF r ∧ c = []:=by
 unfold iP at h
 refine Does.ofL comp33 _ _ rfl rfl ?_
 refine Ex.seq (rg 2 [1,2] (mkS 12 [(1,.ptr 0 0),(2,.ptr 1 0)]) ⟨[(aI s_1),[.nils,.nils]],[]⟩ ?_)
 refine Ex.seq ?_
 obtain ⟨l_2,hl_2,h⟩:=bE h
 refine Ex.drawE (a1:=mkS 12 [(1,.ptr 0 0),(2,.ptr 1 0),(3,.sl (([] : List aP).map aK) (some 0)),(4,.ptr 0 0),(5,.sl (s_1.Workers.map aK) none),(6,.sl (l_2.map aK) (some 0)),(7,.sl (([] : List bN).map aH) (some 1)),(8,.ptr 0 1),(9,.sl (s_1.Jobs.map aH) none)]) (dV _) [] [(0,3),(0,3)] [⟨[(aI s_1),[.nils,.nils]],[(l_2.length,3),(0,3)]⟩] ?_ ?_
 ·refine drRF 0 3 (([] : List aP).map aK) 3 rfl rfl rfl (by kernel_rfl) (fun _ => by kernel_rfl) (by simp) (by simp) rfl rfl ?_
  refine drS [0,1] 2 [] [] (mkS 12 [(1,.ptr 0 0),(2,.ptr 1 0),(3,.sl (([] : List aP).map aK) (some 0)),(4,.ptr 0 0),(5,.sl (s_1.Workers.map aK) none)]) (by simp) (by kernel_rfl) trivial (by kernel_rfl) ?_
  refine drE (some (.apps (s_1.Workers.map aK) (l_2.map aK) l_2.length)) (some (rB 0 (([] : List aP).map aK) (s_1.Workers.map aK) (s_1.Workers.map aK) 3 (l_2.map aK) l_2.length)) (.sl (l_2.map aK) (some 0)) _ _ rfl rfl rfl rfl rfl (by kernel_rfl) (rB.of hl_2 (fun _ => rfl) (fun _ => rfl) (fun _ => rfl)) ?_
  refine drR 1 3 (([] : List bN).map aH) rfl rfl (fun _ => by kernel_rfl) (by simp) rfl rfl ?_
  refine drS [0,1] 2 [] [] (mkS 12 [(1,.ptr 0 0),(2,.ptr 1 0),(3,.sl (([] : List aP).map aK) (some 0)),(4,.ptr 0 0),(5,.sl (s_1.Workers.map aK) none),(6,.sl (l_2.map aK) (some 0)),(7,.sl (([] : List bN).map aH) (some 1)),(8,.ptr 0 1),(9,.sl (s_1.Jobs.map aH) none)]) (by simp) (by kernel_rfl) trivial (by kernel_rfl) ?_
  exact DrO.nil rfl
 ·dsimp only [List.getLastD_cons,List.getLastD_nil]
  obtain ⟨l_3,hl_3,h⟩:=bE h
  refine runH 3 [(0,.apps (s_1.Jobs.map aH) (l_3.map aH) l_3.length)] [2] [rB 0 (([] : List bN).map aH) (s_1.Jobs.map aH) (s_1.Jobs.map aH) 3 (l_3.map aH) l_3.length] (mkS 12 [(2,.ptr 1 0)]) (⟨[(aI s_1),[.sl (l_2.map aK) (some 0),.sl (l_3.map aH) (some 1)]],[(l_2.length,3),(l_3.length,3)]⟩) (by kernel_rfl) ⟨rB.of hl_3 (fun _ => rfl) (fun _ => rfl) (fun _ => rfl),trivial⟩ ?_
  refine ExO.nil ?_
  refine Ex.ret ?_
  obtain rfl:=sJ h
  exact rt (.agg [.sl (l_2.map aK) (some 0),.sl (l_3.map aH) (some 1)])
def jF (N : Nat) (nums_1 : (List Int)) : Option (Bool):=((lI N nums_1).bind fun r_2 => ((lH N r_2 3 5 5).bind fun r_3 => ((cW N r_3.1).bind fun r_4 => ((iV N r_3.2 r_3.1).bind fun r_5 => ((gS N r_3.1 r_5.1).bind fun r_6 => ((dY N r_3.1).bind fun r_8 => (letJ (fun (y_9 : Bool) => (bif y_9 then some false else ((iP N r_3.1).bind fun r_33 => (letJ (fun (all_34 : Int) => ((dY N (⟨[(⟨true,true,true⟩ : aP)],r_33.Jobs⟩ : aV)).bind fun r_45 => ((cW N (⟨[(⟨true,true,true⟩ : aP)],r_33.Jobs⟩ : aV)).bind fun r_46 => (bif (r_45.2.2 == 0) then (bif (r_46.2 == 0) then (bif (r_45.2.1 == all_34) then (bif (r_46.1 == all_34) then ((gK N).bind fun r_51 => some r_51) else some false) else some false) else some false) else some false)))) (fun k_35 => (loop2 (fun rec_40 (all_38 : Int) (i_39 : Int) => (bif (decide (i_39 < ((r_3.1.Jobs.length : Nat) : Int))) then ((getI r_3.1.Jobs i_39).bind fun x_44 => (rec_40 (IntKind.i64.wrap (all_38 + x_44.Days)) (IntKind.i64.wrap (i_39 + 1)))) else (k_35 all_38))) N 0 0)))))) (fun k_10 => (bif (r_4.2 != r_8.2.2) then (k_10 true) else (bif (r_4.2 != 0) then (bif (r_4.2 != 7) then (k_10 true) else (bif (r_4.2 == 0) then (bif (decide (r_8.2.1 < r_4.1)) then (k_10 true) else (bif (r_6.2 == 0) then (bif (r_4.2 != 0) then (k_10 true) else (bif (decide (r_6.1 < r_8.2.1)) then (k_10 true) else (k_10 (decide (r_6.1 < r_4.1))))) else (k_10 false))) else (bif (r_6.2 == 0) then (bif (r_4.2 != 0) then (k_10 true) else (bif (decide (r_6.1 < r_8.2.1)) then (k_10 true) else (k_10 (decide (r_6.1 < r_4.1))))) else (k_10 false)))) else (bif (r_4.2 == 0) then (bif (decide (r_8.2.1 < r_4.1)) then (k_10 true) else (bif (r_6.2 == 0) then (bif (r_4.2 != 0) then (k_10 true) else (bif (decide (r_6.1 < r_8.2.1)) then (k_10 true) else (k_10 (decide (r_6.1 < r_4.1))))) else (k_10 false))) else (bif (r_6.2 == 0) then (bif (r_4.2 != 0) then (k_10 true) else (bif (decide (r_6.1 < r_8.2.1)) then (k_10 true) else (k_10 (decide (r_6.1 < r_4.1))))) else (k_10 false)))))))))))))
def pO (r : Bool) : AV:=.bool r
attribute [local simp] pO
theorem wA (N : Nat) (nums_1 : (List Int)) (r : Bool) (h : jF N nums_1 = some r) : Does Tryz.prog 6 [.sl (nums_1.map (AV.int .i64)) none] [] fun v c => v = pO r ∧ c = []:=by
 unfold jF at h
 refine Does.ofL comp6 _ _ rfl rfl ?_
 refine Ex.seq (rg 1 [0] (mkS 131 [(0,.sl (nums_1.map (AV.int .i64)) none)]) ⟨[],[]⟩ ?_)
 refine Ex.seq ?_
 obtain ⟨r_2,hr_2,h⟩:=bE h
 refine Ex.reg (rn 1 [20] (mkS 131 [(20,.sl (nums_1.map (AV.int .i64)) none)]) ⟨[],[]⟩ ?_)
 refine ExO.callL (v':=.ptr 0 0) [] [.sl (nums_1.map (AV.int .i64)) none] rfl rfl (aCi nums_1) rfl rfl (aBM N nums_1 r_2 hr_2) rfl (by simp) ?_
 refine rn 1 [3] (mkS 131 [(3,.ptr 0 0)]) ⟨[(aE r_2)],[]⟩ ?_
 refine ExO.nil ?_
 refine Ex.seq ?_
 obtain ⟨r_3,hr_3,h⟩:=bE h
 refine Ex.reg (rn 1 [3,22] (mkS 131 [(3,.ptr 0 0),(22,.ptr 0 0)]) ⟨[(aE r_2)],[]⟩ ?_)
 refine ExO.callL [0] [.ptr 0 0,i6 3,i6 5,i6 5] rfl rfl (by simp; try rfl) rfl (by simp) (aBK N r_2 3 5 5 r_3 hr_3) (aCa _ _ _ _) (by simp) ?_
 refine rn 2 [3,4] (mkS 131 [(3,.ptr 0 0),(4,.ptr 1 0)]) ⟨[(aE r_3.2),(aI r_3.1)],[]⟩ ?_
 refine ExO.nil ?_
 refine Ex.seq ?_
 obtain ⟨r_4,hr_4,h⟩:=bE h
 refine Ex.reg (rn 1 [3,4,25] (mkS 131 [(3,.ptr 0 0),(4,.ptr 1 0),(25,(aX r_3.1))]) ⟨[(aE r_3.2),(aI r_3.1)],[]⟩ ?_)
 refine ExO.callL [] [(aX r_3.1)] rfl rfl (pK r_3.1) rfl rfl (pD N r_3.1 r_4 hr_4) (pH _ _ _ _) rfl ?_
 refine rn 5 [3,4,5,6] (mkS 131 [(3,.ptr 0 0),(4,.ptr 1 0),(5,i6 r_4.1),(6,i6 r_4.2)]) ⟨[(aE r_3.2),(aI r_3.1)],[]⟩ ?_
 refine ExO.nil ?_
 refine Ex.seq ?_
 obtain ⟨r_5,hr_5,h⟩:=bE h
 obtain ⟨r_6,hr_6,h⟩:=bE h
 have hT_7 : jS Tryz.prog [⟨32,[.ptr 0 0,(aX r_3.1)],[(aE r_3.2)],(fZ r_5),[(aE r_5.2)]⟩,⟨30,[(aX r_3.1),.sl (r_5.1.map aA) none],[],(gO r_6),[]⟩] ∧ gZ [⟨32,[.ptr 0 0,(aX r_3.1)],[(aE r_3.2)],(fZ r_5),[(aE r_5.2)]⟩,⟨30,[(aX r_3.1),.sl (r_5.1.map aA) none],[],(gO r_6),[]⟩]:=⟨⟨(yQ N r_3.2 r_3.1 r_5 hr_5),rfl,(aAC N r_3.1 r_5.1 r_6 hr_6),rfl,trivial⟩,⟨⟨pW.ne rfl,trivial⟩,trivial,trivial⟩⟩
 refine Ex.drawE (a1:=mkS 131 [(3,.ptr 0 0),(4,.ptr 1 0),(5,i6 r_4.1),(6,i6 r_4.2),(7,i6 r_6.1),(29,.tup [i6 r_6.1,i6 r_6.2]),(30,(aX r_3.1)),(31,.ptr 0 0),(32,(aX r_3.1)),(33,.sl (r_5.1.map aA) none),(34,.tup [i6 r_6.1,i6 r_6.2]),(35,i6 r_6.1),(36,i6 r_6.2)]) (iA hT_7.1) [] [] [⟨[(aE r_5.2),(aI r_3.1)],[]⟩] ?_ ?_
 ·refine drS [1] 3 [] [] (mkS 131 [(3, .ptr 0 0), (4, .ptr 1 0), (5, i6 r_4.1), (6, i6 r_4.2), (30, (aX r_3.1)), (31, .ptr 0 0), (32, (aX r_3.1))]) (by simp) (by kernel_rfl) trivial (by kernel_rfl) ?_
  refine drB hT_7.2 0 _ [0] [.ptr 0 0,(aX r_3.1)] (fZ r_5) _ _ rfl rfl rfl rfl rfl rfl rfl rfl (by simp; try rfl) rfl (by simp) (yZ _ _ _ _) (by simp) rfl ?_
  refine drC hT_7.2 1 _ [(aX r_3.1),.sl (r_5.1.map aA) none] (gO r_6) rfl rfl rfl rfl rfl (fun _ => rfl) rfl (by simp; try rfl) (fun _ => aAP _ _ _ _) ?_
  refine drS [1] 4 [] [] (mkS 131 [(3,.ptr 0 0),(4,.ptr 1 0),(5,i6 r_4.1),(6,i6 r_4.2),(7,i6 r_6.1),(29,.tup [i6 r_6.1,i6 r_6.2]),(30,(aX r_3.1)),(31,.ptr 0 0),(32,(aX r_3.1)),(33,.sl (r_5.1.map aA) none),(34,.tup [i6 r_6.1,i6 r_6.2]),(35,i6 r_6.1),(36,i6 r_6.2)]) (by simp) (by kernel_rfl) trivial (by kernel_rfl) ?_
  exact DrO.nil rfl
 ·dsimp only [List.getLastD_cons,List.getLastD_nil]
  refine rn 1 [4,5,6,7,8] (mkS 131 [(4,.ptr 1 0),(5,i6 r_4.1),(6,i6 r_4.2),(7,i6 r_6.1),(8,i6 r_6.2)]) ⟨[(aE r_5.2),(aI r_3.1)],[]⟩ ?_
  refine ExO.nil ?_
  refine Ex.seq ?_
  obtain ⟨r_8,hr_8,h⟩:=bE h
  refine Ex.reg (rn 1 [4,5,6,7,8,38] (mkS 131 [(4,.ptr 1 0),(5,i6 r_4.1),(6,i6 r_4.2),(7,i6 r_6.1),(8,i6 r_6.2),(38,(aX r_3.1))]) ⟨[(aE r_5.2),(aI r_3.1)],[]⟩ ?_)
  refine ExO.callL [] [(aX r_3.1)] rfl rfl (rA r_3.1) rfl rfl (qP N r_3.1 r_8 hr_8) (qV _ _ _ _) rfl ?_
  refine rn 7 [4,5,6,7,8,10,11] (mkS 131 [(4,.ptr 1 0),(5,i6 r_4.1),(6,i6 r_4.2),(7,i6 r_6.1),(8,i6 r_6.2),(10,i6 r_8.2.1),(11,i6 r_8.2.2)]) ⟨[(aE r_5.2),(aI r_3.1)],[]⟩ ?_
  refine ExO.nil ?_
  refine Ex.seq ?_
  obtain ⟨K_11,hK_12,h⟩:=letE h
  refine Ex.seqJ (fun a S => ∃ (y_9 : Bool),K_11 y_9 = some r ∧ a = mkS 131 [(4,.ptr 1 0),(80,.bool y_9)] ∧ S = ⟨[(aE r_5.2),(aI r_3.1)],[]⟩) ?_ ?_
  ·rcases aW h with ⟨hc_13,h⟩ | ⟨hc_13,h⟩
   ·refine regH 38 [(3, .eq (.bool true))] [4, 80] [AV.bool (r_4.2 != r_8.2.2) = AV.bool true] (mkS 131 [(4, .ptr 1 0), (80, .bool true)]) (⟨[(aE r_5.2), (aI r_3.1)], []⟩) (by kernel_rfl) ⟨congrArg AV.bool hc_13, trivial⟩ rfl ?_
    (try simp only [reduceCtorEq,AEx.ex.injEq,Nat.reduceEqDiff,if_true,if_false])
    exact ⟨_,_,aL.refl _ _ _,true,h,rfl,rfl⟩
   ·rcases aW h with ⟨hc_14,h⟩ | ⟨hc_14,h⟩
    ·rcases aW h with ⟨hc_15,h⟩ | ⟨hc_15,h⟩
     ·refine regH 38 [(3, .eq (.bool false)), (6, .eq (.bool true)), (11, .eq (.bool true))] [4, 80] [AV.bool (r_4.2 != r_8.2.2) = AV.bool false, AV.bool (r_4.2 != 0) = AV.bool true, AV.bool (r_4.2 != 7) = AV.bool true] (mkS 131 [(4, .ptr 1 0), (80, .bool true)]) (⟨[(aE r_5.2), (aI r_3.1)], []⟩) (by kernel_rfl) ⟨congrArg AV.bool hc_13, congrArg AV.bool hc_14, congrArg AV.bool hc_15, trivial⟩ rfl ?_
      (try simp only [reduceCtorEq,AEx.ex.injEq,Nat.reduceEqDiff,if_true,if_false])
      exact ⟨_,_,aL.refl _ _ _,true,h,rfl,rfl⟩
     ·rcases aW h with ⟨hc_16,h⟩ | ⟨hc_16,h⟩
      ·rcases aW h with ⟨hc_17,h⟩ | ⟨hc_17,h⟩
       ·refine regH 38 [(3, .eq (.bool false)), (6, .eq (.bool true)), (11, .eq (.bool false)), (14, .eq (.bool true)), (20, .eq (.bool true))] [4, 80] [AV.bool (r_4.2 != r_8.2.2) = AV.bool false, AV.bool (r_4.2 != 0) = AV.bool true, AV.bool (r_4.2 != 7) = AV.bool false, AV.bool (r_4.2 == 0) = AV.bool true, AV.bool (decide (r_8.2.1 < r_4.1)) = AV.bool true] (mkS 131 [(4, .ptr 1 0), (80, .bool true)]) (⟨[(aE r_5.2), (aI r_3.1)], []⟩) (by kernel_rfl) ⟨congrArg AV.bool hc_13, congrArg AV.bool hc_14, congrArg AV.bool hc_15, congrArg AV.bool hc_16, congrArg AV.bool hc_17, trivial⟩ rfl ?_
        (try simp only [reduceCtorEq,AEx.ex.injEq,Nat.reduceEqDiff,if_true,if_false])
        exact ⟨_,_,aL.refl _ _ _,true,h,rfl,rfl⟩
       ·rcases aW h with ⟨hc_18,h⟩ | ⟨hc_18,h⟩
        ·rcases aW h with ⟨hc_19,h⟩ | ⟨hc_19,h⟩
         ·refine regH 38 [(3, .eq (.bool false)), (6, .eq (.bool true)), (11, .eq (.bool false)), (14, .eq (.bool true)), (20, .eq (.bool false)), (23, .eq (.bool true)), (26, .eq (.bool true))] [4, 80] [AV.bool (r_4.2 != r_8.2.2) = AV.bool false, AV.bool (r_4.2 != 0) = AV.bool true, AV.bool (r_4.2 != 7) = AV.bool false, AV.bool (r_4.2 == 0) = AV.bool true, AV.bool (decide (r_8.2.1 < r_4.1)) = AV.bool false, AV.bool (r_6.2 == 0) = AV.bool true, AV.bool (r_4.2 != 0) = AV.bool true] (mkS 131 [(4, .ptr 1 0), (80, .bool true)]) (⟨[(aE r_5.2), (aI r_3.1)], []⟩) (by kernel_rfl) ⟨congrArg AV.bool hc_13, congrArg AV.bool hc_14, congrArg AV.bool hc_15, congrArg AV.bool hc_16, congrArg AV.bool hc_17, congrArg AV.bool hc_18, congrArg AV.bool hc_19, trivial⟩ rfl ?_
          (try simp only [reduceCtorEq,AEx.ex.injEq,Nat.reduceEqDiff,if_true,if_false])
          exact ⟨_,_,aL.refl _ _ _,true,h,rfl,rfl⟩
         ·rcases aW h with ⟨hc_20,h⟩ | ⟨hc_20,h⟩
          ·refine regH 38 [(3, .eq (.bool false)), (6, .eq (.bool true)), (11, .eq (.bool false)), (14, .eq (.bool true)), (20, .eq (.bool false)), (23, .eq (.bool true)), (26, .eq (.bool false)), (31, .eq (.bool true))] [4, 80] [AV.bool (r_4.2 != r_8.2.2) = AV.bool false, AV.bool (r_4.2 != 0) = AV.bool true, AV.bool (r_4.2 != 7) = AV.bool false, AV.bool (r_4.2 == 0) = AV.bool true, AV.bool (decide (r_8.2.1 < r_4.1)) = AV.bool false, AV.bool (r_6.2 == 0) = AV.bool true, AV.bool (r_4.2 != 0) = AV.bool false, AV.bool (decide (r_6.1 < r_8.2.1)) = AV.bool true] (mkS 131 [(4, .ptr 1 0), (80, .bool true)]) (⟨[(aE r_5.2), (aI r_3.1)], []⟩) (by kernel_rfl) ⟨congrArg AV.bool hc_13, congrArg AV.bool hc_14, congrArg AV.bool hc_15, congrArg AV.bool hc_16, congrArg AV.bool hc_17, congrArg AV.bool hc_18, congrArg AV.bool hc_19, congrArg AV.bool hc_20, trivial⟩ rfl ?_
           (try simp only [reduceCtorEq,AEx.ex.injEq,Nat.reduceEqDiff,if_true,if_false])
           exact ⟨_,_,aL.refl _ _ _,true,h,rfl,rfl⟩
          ·refine regH 38 [(3, .eq (.bool false)), (6, .eq (.bool true)), (11, .eq (.bool false)), (14, .eq (.bool true)), (20, .eq (.bool false)), (23, .eq (.bool true)), (26, .eq (.bool false)), (31, .eq (.bool false))] [4, 80] [AV.bool (r_4.2 != r_8.2.2) = AV.bool false, AV.bool (r_4.2 != 0) = AV.bool true, AV.bool (r_4.2 != 7) = AV.bool false, AV.bool (r_4.2 == 0) = AV.bool true, AV.bool (decide (r_8.2.1 < r_4.1)) = AV.bool false, AV.bool (r_6.2 == 0) = AV.bool true, AV.bool (r_4.2 != 0) = AV.bool false, AV.bool (decide (r_6.1 < r_8.2.1)) = AV.bool false] (mkS 131 [(4, .ptr 1 0), (80, .bool (decide (r_6.1 < r_4.1)))]) (⟨[(aE r_5.2), (aI r_3.1)], []⟩) (by kernel_rfl) ⟨congrArg AV.bool hc_13, congrArg AV.bool hc_14, congrArg AV.bool hc_15, congrArg AV.bool hc_16, congrArg AV.bool hc_17, congrArg AV.bool hc_18, congrArg AV.bool hc_19, congrArg AV.bool hc_20, trivial⟩ rfl ?_
           (try simp only [reduceCtorEq,AEx.ex.injEq,Nat.reduceEqDiff,if_true,if_false])
           exact ⟨_,_,aL.refl _ _ _,(decide (r_6.1 < r_4.1)),h,rfl,rfl⟩
        ·refine regH 38 [(3, .eq (.bool false)), (6, .eq (.bool true)), (11, .eq (.bool false)), (14, .eq (.bool true)), (20, .eq (.bool false)), (23, .eq (.bool false))] [4, 80] [AV.bool (r_4.2 != r_8.2.2) = AV.bool false, AV.bool (r_4.2 != 0) = AV.bool true, AV.bool (r_4.2 != 7) = AV.bool false, AV.bool (r_4.2 == 0) = AV.bool true, AV.bool (decide (r_8.2.1 < r_4.1)) = AV.bool false, AV.bool (r_6.2 == 0) = AV.bool false] (mkS 131 [(4, .ptr 1 0), (80, .bool false)]) (⟨[(aE r_5.2), (aI r_3.1)], []⟩) (by kernel_rfl) ⟨congrArg AV.bool hc_13, congrArg AV.bool hc_14, congrArg AV.bool hc_15, congrArg AV.bool hc_16, congrArg AV.bool hc_17, congrArg AV.bool hc_18, trivial⟩ rfl ?_
         (try simp only [reduceCtorEq,AEx.ex.injEq,Nat.reduceEqDiff,if_true,if_false])
         exact ⟨_,_,aL.refl _ _ _,false,h,rfl,rfl⟩
      ·rcases aW h with ⟨hc_21,h⟩ | ⟨hc_21,h⟩
       ·rcases aW h with ⟨hc_22,h⟩ | ⟨hc_22,h⟩
        ·refine regH 38 [(3, .eq (.bool false)), (6, .eq (.bool true)), (11, .eq (.bool false)), (14, .eq (.bool false)), (23, .eq (.bool true)), (26, .eq (.bool true))] [4, 80] [AV.bool (r_4.2 != r_8.2.2) = AV.bool false, AV.bool (r_4.2 != 0) = AV.bool true, AV.bool (r_4.2 != 7) = AV.bool false, AV.bool (r_4.2 == 0) = AV.bool false, AV.bool (r_6.2 == 0) = AV.bool true, AV.bool (r_4.2 != 0) = AV.bool true] (mkS 131 [(4, .ptr 1 0), (80, .bool true)]) (⟨[(aE r_5.2), (aI r_3.1)], []⟩) (by kernel_rfl) ⟨congrArg AV.bool hc_13, congrArg AV.bool hc_14, congrArg AV.bool hc_15, congrArg AV.bool hc_16, congrArg AV.bool hc_21, congrArg AV.bool hc_22, trivial⟩ rfl ?_
         (try simp only [reduceCtorEq,AEx.ex.injEq,Nat.reduceEqDiff,if_true,if_false])
         exact ⟨_,_,aL.refl _ _ _,true,h,rfl,rfl⟩
        ·rcases aW h with ⟨hc_23,h⟩ | ⟨hc_23,h⟩
         ·refine regH 38 [(3, .eq (.bool false)), (6, .eq (.bool true)), (11, .eq (.bool false)), (14, .eq (.bool false)), (23, .eq (.bool true)), (26, .eq (.bool false)), (31, .eq (.bool true))] [4, 80] [AV.bool (r_4.2 != r_8.2.2) = AV.bool false, AV.bool (r_4.2 != 0) = AV.bool true, AV.bool (r_4.2 != 7) = AV.bool false, AV.bool (r_4.2 == 0) = AV.bool false, AV.bool (r_6.2 == 0) = AV.bool true, AV.bool (r_4.2 != 0) = AV.bool false, AV.bool (decide (r_6.1 < r_8.2.1)) = AV.bool true] (mkS 131 [(4, .ptr 1 0), (80, .bool true)]) (⟨[(aE r_5.2), (aI r_3.1)], []⟩) (by kernel_rfl) ⟨congrArg AV.bool hc_13, congrArg AV.bool hc_14, congrArg AV.bool hc_15, congrArg AV.bool hc_16, congrArg AV.bool hc_21, congrArg AV.bool hc_22, congrArg AV.bool hc_23, trivial⟩ rfl ?_
          (try simp only [reduceCtorEq,AEx.ex.injEq,Nat.reduceEqDiff,if_true,if_false])
          exact ⟨_,_,aL.refl _ _ _,true,h,rfl,rfl⟩
         ·refine regH 38 [(3, .eq (.bool false)), (6, .eq (.bool true)), (11, .eq (.bool false)), (14, .eq (.bool false)), (23, .eq (.bool true)), (26, .eq (.bool false)), (31, .eq (.bool false))] [4, 80] [AV.bool (r_4.2 != r_8.2.2) = AV.bool false, AV.bool (r_4.2 != 0) = AV.bool true, AV.bool (r_4.2 != 7) = AV.bool false, AV.bool (r_4.2 == 0) = AV.bool false, AV.bool (r_6.2 == 0) = AV.bool true, AV.bool (r_4.2 != 0) = AV.bool false, AV.bool (decide (r_6.1 < r_8.2.1)) = AV.bool false] (mkS 131 [(4, .ptr 1 0), (80, .bool (decide (r_6.1 < r_4.1)))]) (⟨[(aE r_5.2), (aI r_3.1)], []⟩) (by kernel_rfl) ⟨congrArg AV.bool hc_13, congrArg AV.bool hc_14, congrArg AV.bool hc_15, congrArg AV.bool hc_16, congrArg AV.bool hc_21, congrArg AV.bool hc_22, congrArg AV.bool hc_23, trivial⟩ rfl ?_
          (try simp only [reduceCtorEq,AEx.ex.injEq,Nat.reduceEqDiff,if_true,if_false])
          exact ⟨_,_,aL.refl _ _ _,(decide (r_6.1 < r_4.1)),h,rfl,rfl⟩
       ·refine regH 38 [(3, .eq (.bool false)), (6, .eq (.bool true)), (11, .eq (.bool false)), (14, .eq (.bool false)), (23, .eq (.bool false))] [4, 80] [AV.bool (r_4.2 != r_8.2.2) = AV.bool false, AV.bool (r_4.2 != 0) = AV.bool true, AV.bool (r_4.2 != 7) = AV.bool false, AV.bool (r_4.2 == 0) = AV.bool false, AV.bool (r_6.2 == 0) = AV.bool false] (mkS 131 [(4, .ptr 1 0), (80, .bool false)]) (⟨[(aE r_5.2), (aI r_3.1)], []⟩) (by kernel_rfl) ⟨congrArg AV.bool hc_13, congrArg AV.bool hc_14, congrArg AV.bool hc_15, congrArg AV.bool hc_16, congrArg AV.bool hc_21, trivial⟩ rfl ?_
        (try simp only [reduceCtorEq,AEx.ex.injEq,Nat.reduceEqDiff,if_true,if_false])
        exact ⟨_,_,aL.refl _ _ _,false,h,rfl,rfl⟩
    ·rcases aW h with ⟨hc_24,h⟩ | ⟨hc_24,h⟩
     ·rcases aW h with ⟨hc_25,h⟩ | ⟨hc_25,h⟩
      ·refine regH 38 [(3, .eq (.bool false)), (6, .eq (.bool false)), (14, .eq (.bool true)), (20, .eq (.bool true))] [4, 80] [AV.bool (r_4.2 != r_8.2.2) = AV.bool false, AV.bool (r_4.2 != 0) = AV.bool false, AV.bool (r_4.2 == 0) = AV.bool true, AV.bool (decide (r_8.2.1 < r_4.1)) = AV.bool true] (mkS 131 [(4, .ptr 1 0), (80, .bool true)]) (⟨[(aE r_5.2), (aI r_3.1)], []⟩) (by kernel_rfl) ⟨congrArg AV.bool hc_13, congrArg AV.bool hc_14, congrArg AV.bool hc_24, congrArg AV.bool hc_25, trivial⟩ rfl ?_
       (try simp only [reduceCtorEq,AEx.ex.injEq,Nat.reduceEqDiff,if_true,if_false])
       exact ⟨_,_,aL.refl _ _ _,true,h,rfl,rfl⟩
      ·rcases aW h with ⟨hc_26,h⟩ | ⟨hc_26,h⟩
       ·rcases aW h with ⟨hc_27,h⟩ | ⟨hc_27,h⟩
        ·refine regH 38 [(3, .eq (.bool false)), (6, .eq (.bool false)), (14, .eq (.bool true)), (20, .eq (.bool false)), (23, .eq (.bool true)), (26, .eq (.bool true))] [4, 80] [AV.bool (r_4.2 != r_8.2.2) = AV.bool false, AV.bool (r_4.2 != 0) = AV.bool false, AV.bool (r_4.2 == 0) = AV.bool true, AV.bool (decide (r_8.2.1 < r_4.1)) = AV.bool false, AV.bool (r_6.2 == 0) = AV.bool true, AV.bool (r_4.2 != 0) = AV.bool true] (mkS 131 [(4, .ptr 1 0), (80, .bool true)]) (⟨[(aE r_5.2), (aI r_3.1)], []⟩) (by kernel_rfl) ⟨congrArg AV.bool hc_13, congrArg AV.bool hc_14, congrArg AV.bool hc_24, congrArg AV.bool hc_25, congrArg AV.bool hc_26, congrArg AV.bool hc_27, trivial⟩ rfl ?_
         (try simp only [reduceCtorEq,AEx.ex.injEq,Nat.reduceEqDiff,if_true,if_false])
         exact ⟨_,_,aL.refl _ _ _,true,h,rfl,rfl⟩
        ·rcases aW h with ⟨hc_28,h⟩ | ⟨hc_28,h⟩
         ·refine regH 38 [(3, .eq (.bool false)), (6, .eq (.bool false)), (14, .eq (.bool true)), (20, .eq (.bool false)), (23, .eq (.bool true)), (26, .eq (.bool false)), (31, .eq (.bool true))] [4, 80] [AV.bool (r_4.2 != r_8.2.2) = AV.bool false, AV.bool (r_4.2 != 0) = AV.bool false, AV.bool (r_4.2 == 0) = AV.bool true, AV.bool (decide (r_8.2.1 < r_4.1)) = AV.bool false, AV.bool (r_6.2 == 0) = AV.bool true, AV.bool (r_4.2 != 0) = AV.bool false, AV.bool (decide (r_6.1 < r_8.2.1)) = AV.bool true] (mkS 131 [(4, .ptr 1 0), (80, .bool true)]) (⟨[(aE r_5.2), (aI r_3.1)], []⟩) (by kernel_rfl) ⟨congrArg AV.bool hc_13, congrArg AV.bool hc_14, congrArg AV.bool hc_24, congrArg AV.bool hc_25, congrArg AV.bool hc_26, congrArg AV.bool hc_27, congrArg AV.bool hc_28, trivial⟩ rfl ?_
          (try simp only [reduceCtorEq,AEx.ex.injEq,Nat.reduceEqDiff,if_true,if_false])
          exact ⟨_,_,aL.refl _ _ _,true,h,rfl,rfl⟩
         ·refine regH 38 [(3, .eq (.bool false)), (6, .eq (.bool false)), (14, .eq (.bool true)), (20, .eq (.bool false)), (23, .eq (.bool true)), (26, .eq (.bool false)), (31, .eq (.bool false))] [4, 80] [AV.bool (r_4.2 != r_8.2.2) = AV.bool false, AV.bool (r_4.2 != 0) = AV.bool false, AV.bool (r_4.2 == 0) = AV.bool true, AV.bool (decide (r_8.2.1 < r_4.1)) = AV.bool false, AV.bool (r_6.2 == 0) = AV.bool true, AV.bool (r_4.2 != 0) = AV.bool false, AV.bool (decide (r_6.1 < r_8.2.1)) = AV.bool false] (mkS 131 [(4, .ptr 1 0), (80, .bool (decide (r_6.1 < r_4.1)))]) (⟨[(aE r_5.2), (aI r_3.1)], []⟩) (by kernel_rfl) ⟨congrArg AV.bool hc_13, congrArg AV.bool hc_14, congrArg AV.bool hc_24, congrArg AV.bool hc_25, congrArg AV.bool hc_26, congrArg AV.bool hc_27, congrArg AV.bool hc_28, trivial⟩ rfl ?_
          (try simp only [reduceCtorEq,AEx.ex.injEq,Nat.reduceEqDiff,if_true,if_false])
          exact ⟨_,_,aL.refl _ _ _,(decide (r_6.1 < r_4.1)),h,rfl,rfl⟩
       ·refine regH 38 [(3, .eq (.bool false)), (6, .eq (.bool false)), (14, .eq (.bool true)), (20, .eq (.bool false)), (23, .eq (.bool false))] [4, 80] [AV.bool (r_4.2 != r_8.2.2) = AV.bool false, AV.bool (r_4.2 != 0) = AV.bool false, AV.bool (r_4.2 == 0) = AV.bool true, AV.bool (decide (r_8.2.1 < r_4.1)) = AV.bool false, AV.bool (r_6.2 == 0) = AV.bool false] (mkS 131 [(4, .ptr 1 0), (80, .bool false)]) (⟨[(aE r_5.2), (aI r_3.1)], []⟩) (by kernel_rfl) ⟨congrArg AV.bool hc_13, congrArg AV.bool hc_14, congrArg AV.bool hc_24, congrArg AV.bool hc_25, congrArg AV.bool hc_26, trivial⟩ rfl ?_
        (try simp only [reduceCtorEq,AEx.ex.injEq,Nat.reduceEqDiff,if_true,if_false])
        exact ⟨_,_,aL.refl _ _ _,false,h,rfl,rfl⟩
     ·rcases aW h with ⟨hc_29,h⟩ | ⟨hc_29,h⟩
      ·rcases aW h with ⟨hc_30,h⟩ | ⟨hc_30,h⟩
       ·refine regH 38 [(3, .eq (.bool false)), (6, .eq (.bool false)), (14, .eq (.bool false)), (23, .eq (.bool true)), (26, .eq (.bool true))] [4, 80] [AV.bool (r_4.2 != r_8.2.2) = AV.bool false, AV.bool (r_4.2 != 0) = AV.bool false, AV.bool (r_4.2 == 0) = AV.bool false, AV.bool (r_6.2 == 0) = AV.bool true, AV.bool (r_4.2 != 0) = AV.bool true] (mkS 131 [(4, .ptr 1 0), (80, .bool true)]) (⟨[(aE r_5.2), (aI r_3.1)], []⟩) (by kernel_rfl) ⟨congrArg AV.bool hc_13, congrArg AV.bool hc_14, congrArg AV.bool hc_24, congrArg AV.bool hc_29, congrArg AV.bool hc_30, trivial⟩ rfl ?_
        (try simp only [reduceCtorEq,AEx.ex.injEq,Nat.reduceEqDiff,if_true,if_false])
        exact ⟨_,_,aL.refl _ _ _,true,h,rfl,rfl⟩
       ·rcases aW h with ⟨hc_31,h⟩ | ⟨hc_31,h⟩
        ·refine regH 38 [(3, .eq (.bool false)), (6, .eq (.bool false)), (14, .eq (.bool false)), (23, .eq (.bool true)), (26, .eq (.bool false)), (31, .eq (.bool true))] [4, 80] [AV.bool (r_4.2 != r_8.2.2) = AV.bool false, AV.bool (r_4.2 != 0) = AV.bool false, AV.bool (r_4.2 == 0) = AV.bool false, AV.bool (r_6.2 == 0) = AV.bool true, AV.bool (r_4.2 != 0) = AV.bool false, AV.bool (decide (r_6.1 < r_8.2.1)) = AV.bool true] (mkS 131 [(4, .ptr 1 0), (80, .bool true)]) (⟨[(aE r_5.2), (aI r_3.1)], []⟩) (by kernel_rfl) ⟨congrArg AV.bool hc_13, congrArg AV.bool hc_14, congrArg AV.bool hc_24, congrArg AV.bool hc_29, congrArg AV.bool hc_30, congrArg AV.bool hc_31, trivial⟩ rfl ?_
         (try simp only [reduceCtorEq,AEx.ex.injEq,Nat.reduceEqDiff,if_true,if_false])
         exact ⟨_,_,aL.refl _ _ _,true,h,rfl,rfl⟩
        ·refine regH 38 [(3, .eq (.bool false)), (6, .eq (.bool false)), (14, .eq (.bool false)), (23, .eq (.bool true)), (26, .eq (.bool false)), (31, .eq (.bool false))] [4, 80] [AV.bool (r_4.2 != r_8.2.2) = AV.bool false, AV.bool (r_4.2 != 0) = AV.bool false, AV.bool (r_4.2 == 0) = AV.bool false, AV.bool (r_6.2 == 0) = AV.bool true, AV.bool (r_4.2 != 0) = AV.bool false, AV.bool (decide (r_6.1 < r_8.2.1)) = AV.bool false] (mkS 131 [(4, .ptr 1 0), (80, .bool (decide (r_6.1 < r_4.1)))]) (⟨[(aE r_5.2), (aI r_3.1)], []⟩) (by kernel_rfl) ⟨congrArg AV.bool hc_13, congrArg AV.bool hc_14, congrArg AV.bool hc_24, congrArg AV.bool hc_29, congrArg AV.bool hc_30, congrArg AV.bool hc_31, trivial⟩ rfl ?_
         (try simp only [reduceCtorEq,AEx.ex.injEq,Nat.reduceEqDiff,if_true,if_false])
         exact ⟨_,_,aL.refl _ _ _,(decide (r_6.1 < r_4.1)),h,rfl,rfl⟩
      ·refine regH 38 [(3, .eq (.bool false)), (6, .eq (.bool false)), (14, .eq (.bool false)), (23, .eq (.bool false))] [4, 80] [AV.bool (r_4.2 != r_8.2.2) = AV.bool false, AV.bool (r_4.2 != 0) = AV.bool false, AV.bool (r_4.2 == 0) = AV.bool false, AV.bool (r_6.2 == 0) = AV.bool false] (mkS 131 [(4, .ptr 1 0), (80, .bool false)]) (⟨[(aE r_5.2), (aI r_3.1)], []⟩) (by kernel_rfl) ⟨congrArg AV.bool hc_13, congrArg AV.bool hc_14, congrArg AV.bool hc_24, congrArg AV.bool hc_29, trivial⟩ rfl ?_
       (try simp only [reduceCtorEq,AEx.ex.injEq,Nat.reduceEqDiff,if_true,if_false])
       exact ⟨_,_,aL.refl _ _ _,false,h,rfl,rfl⟩
  ·rintro a S ⟨y_9,h,rfl,rfl⟩
   subst hK_12
   rcases aW h with ⟨hc_32,h⟩ | ⟨hc_32,h⟩
   ·refine Ex.condT _ rfl hc_32 ?_
    refine Ex.seq (rg 1 [2] (mkS 131 [(2,.bool false)]) ⟨[(aE r_5.2),(aI r_3.1)],[]⟩ ?_)
    refine Ex.ret ?_
    obtain rfl:=sJ h
    exact rt (.bool false)
   ·refine Ex.condF _ rfl hc_32 ?_
    refine Ex.skip ?_
    refine Ex.seq ?_
    obtain ⟨r_33,hr_33,h⟩:=bE h
    refine Ex.reg (rn 1 [4,81] (mkS 131 [(4,.ptr 1 0),(81,(aX r_3.1))]) ⟨[(aE r_5.2),(aI r_3.1)],[]⟩ ?_)
    refine ExO.callL [] [(aX r_3.1)] rfl rfl (aBc r_3.1) rfl rfl (aAH N r_3.1 r_33 hr_33) (aAU _ _ _ _) rfl ?_
    refine rn 2 [4,12] (mkS 131 [(4,.ptr 1 0),(12,.ptr 2 0)]) ⟨[(aE r_5.2),(aI r_3.1),(aI r_33)],[]⟩ ?_
    refine ExO.nil ?_
    refine Ex.seq (rg 4 [4,12] (mkS 131 [(4,.ptr 1 0),(12,.ptr 2 0)]) ⟨[(aE r_5.2),(aI r_3.1),[.sl (([(⟨true,true,true⟩ : aP)] : List aP).map aK) (some 0),.sl (r_33.Jobs.map aH) none]],[(1,3)]⟩ ?_)
    refine Ex.seq (rg 1 [4,12,13] (mkS 131 [(4,.ptr 1 0),(12,.ptr 2 0),(13,i6 0)]) ⟨[(aE r_5.2),(aI r_3.1),[.sl (([(⟨true,true,true⟩ : aP)] : List aP).map aK) (some 0),.sl (r_33.Jobs.map aH) none]],[(1,3)]⟩ ?_)
    refine Ex.seq (Ex.seq ?_)
    refine rg 1 [4,12,13,14] (mkS 131 [(4,.ptr 1 0),(12,.ptr 2 0),(13,i6 0),(14,i6 0)]) ⟨[(aE r_5.2),(aI r_3.1),[.sl (([(⟨true,true,true⟩ : aP)] : List aP).map aK) (some 0),.sl (r_33.Jobs.map aH) none]],[(1,3)]⟩ ?_
    obtain ⟨K_36,hK_37,h⟩:=letE h
    refine Ex.blockJ (fun a S => ∃ (all_34 : Int),K_36 all_34 = some r ∧ a = mkS 131 [(12,.ptr 2 0),(13,i6 all_34)] ∧ S = ⟨[(aE r_5.2),(aI r_3.1),[.sl (([(⟨true,true,true⟩ : aP)] : List aP).map aK) (some 0),.sl (r_33.Jobs.map aH) none]],[(1,3)]⟩) ?_ ?_
    ·obtain ⟨B_41,hB_42,h⟩:=kD h
     refine Ex.loopF (fun k a S => ∃ (all_38 : Int),∃ (i_39 : Int),loop2 B_41 k all_38 i_39 = some r ∧ a = mkS 131 [(4,.ptr 1 0),(12,.ptr 2 0),(13,i6 all_38),(14,i6 i_39)] ∧ S = ⟨[(aE r_5.2),(aI r_3.1),[.sl (([(⟨true,true,true⟩ : aP)] : List aP).map aK) (some 0),.sl (r_33.Jobs.map aH) none]],[(1,3)]⟩) N ⟨_,_,aL.refl _ _ _,0,0,h,rfl,rfl⟩ ?_
     rintro k a S ⟨all_38,i_39,h,rfl,rfl⟩
     cases k with
     | zero => exact (kB h).elim
     | succ k =>
      replace h:=kC h hB_42
      refine Ex.seq (Ex.seq ?_)
      refine regH 5 [(3,.eq (i6 ((r_3.1.Jobs.length : Nat) : Int)))] [4,12,13,14,90] [AV.int .i64 (((r_3.1.Jobs.map aH).length : Nat) : Int) = AV.int .i64 ((r_3.1.Jobs.length : Nat) : Int)] (mkS 131 [(4,.ptr 1 0),(12,.ptr 2 0),(13,i6 all_38),(14,i6 i_39),(90,.bool (decide (i_39 < ((r_3.1.Jobs.length : Nat) : Int))))]) (⟨[(aE r_5.2),(aI r_3.1),[.sl (([(⟨true,true,true⟩ : aP)] : List aP).map aK) (some 0),.sl (r_33.Jobs.map aH) none]],[(1,3)]⟩) (by kernel_rfl) ⟨lenM _ _,trivial⟩ rfl ?_
      rcases aW h with ⟨hc_43,h⟩ | ⟨hc_43,h⟩
      ·refine Ex.condT _ rfl hc_43 ?_
       refine Ex.skip ?_
       refine Ex.seq ?_
       refine Ex.blockK ?_
       obtain ⟨x_44,hx_44,h⟩:=bE h
       refine regH 9 [(4,.rop (bJ x_44))] [4,12,13,14] [LGet (r_3.1.Jobs.map aH) i_39 3 (bJ x_44)] (mkS 131 [(4,.ptr 1 0),(12,.ptr 2 0),(13,i6 (IntKind.i64.wrap (all_38 + x_44.Days))),(14,i6 i_39)]) (⟨[(aE r_5.2),(aI r_3.1),[.sl (([(⟨true,true,true⟩ : aP)] : List aP).map aK) (some 0),.sl (r_33.Jobs.map aH) none]],[(1,3)]⟩) (by kernel_rfl) ⟨LGet.of hx_44 rfl,trivial⟩ rfl ?_
       refine rg 3 [4,12,13,14] (mkS 131 [(4,.ptr 1 0),(12,.ptr 2 0),(13,i6 (IntKind.i64.wrap (all_38 + x_44.Days))),(14,i6 (IntKind.i64.wrap (i_39 + 1)))]) ⟨[(aE r_5.2),(aI r_3.1),[.sl (([(⟨true,true,true⟩ : aP)] : List aP).map aK) (some 0),.sl (r_33.Jobs.map aH) none]],[(1,3)]⟩ ?_
       dsimp only
       exact ⟨_,_,aL.refl _ _ _,k,Nat.lt_succ_self k,(IntKind.i64.wrap (all_38 + x_44.Days)),(IntKind.i64.wrap (i_39 + 1)),h,rfl,rfl⟩
      ·refine Ex.condF _ rfl hc_43 ?_
       refine Ex.exit ?_
       (try simp only [reduceCtorEq,AEx.ex.injEq,Nat.reduceEqDiff,if_true,if_false])
       exact ⟨_,_,bV [12,13],all_38,h,rfl,rfl⟩
    ·rintro a S ⟨all_34,h,rfl,rfl⟩
     subst hK_37
     refine Ex.seq ?_
     obtain ⟨r_45,hr_45,h⟩:=bE h
     refine Ex.reg (rn 1 [12,13,102] (mkS 131 [(12,.ptr 2 0),(13,i6 all_34),(102,.agg [.sl (([(⟨true,true,true⟩ : aP)] : List aP).map aK) (some 0),.sl (r_33.Jobs.map aH) none])]) ⟨[(aE r_5.2),(aI r_3.1),[.sl (([(⟨true,true,true⟩ : aP)] : List aP).map aK) (some 0),.sl (r_33.Jobs.map aH) none]],[(1,3)]⟩ ?_)
     refine ExO.callL [] [.agg [.sl (([(⟨true,true,true⟩ : aP)] : List aP).map aK) (some 0),.sl (r_33.Jobs.map aH) none]] rfl rfl (rA (⟨[(⟨true,true,true⟩ : aP)],r_33.Jobs⟩ : aV)) rfl rfl (qP N (⟨[(⟨true,true,true⟩ : aP)],r_33.Jobs⟩ : aV) r_45 hr_45) (qV _ _ _ _) rfl ?_
     refine rn 7 [12,13,16,17] (mkS 131 [(12,.ptr 2 0),(13,i6 all_34),(16,i6 r_45.2.1),(17,i6 r_45.2.2)]) ⟨[(aE r_5.2),(aI r_3.1),[.sl (([(⟨true,true,true⟩ : aP)] : List aP).map aK) (some 0),.sl (r_33.Jobs.map aH) none]],[(1,3)]⟩ ?_
     refine ExO.nil ?_
     refine Ex.seq ?_
     obtain ⟨r_46,hr_46,h⟩:=bE h
     refine Ex.reg (rn 1 [13,16,17,108] (mkS 131 [(13,i6 all_34),(16,i6 r_45.2.1),(17,i6 r_45.2.2),(108,.agg [.sl (([(⟨true,true,true⟩ : aP)] : List aP).map aK) (some 0),.sl (r_33.Jobs.map aH) none])]) ⟨[(aE r_5.2),(aI r_3.1),[.sl (([(⟨true,true,true⟩ : aP)] : List aP).map aK) (some 0),.sl (r_33.Jobs.map aH) none]],[(1,3)]⟩ ?_)
     refine ExO.callL [] [.agg [.sl (([(⟨true,true,true⟩ : aP)] : List aP).map aK) (some 0),.sl (r_33.Jobs.map aH) none]] rfl rfl (pK (⟨[(⟨true,true,true⟩ : aP)],r_33.Jobs⟩ : aV)) rfl rfl (pD N (⟨[(⟨true,true,true⟩ : aP)],r_33.Jobs⟩ : aV) r_46 hr_46) (pH _ _ _ _) rfl ?_
     refine rn 5 [13,16,17,18,19] (mkS 131 [(13,i6 all_34),(16,i6 r_45.2.1),(17,i6 r_45.2.2),(18,i6 r_46.1),(19,i6 r_46.2)]) ⟨[(aE r_5.2),(aI r_3.1),[.sl (([(⟨true,true,true⟩ : aP)] : List aP).map aK) (some 0),.sl (r_33.Jobs.map aH) none]],[(1,3)]⟩ ?_
     refine ExO.nil ?_
     refine Ex.seq ?_
     rcases aW h with ⟨hc_47,h⟩ | ⟨hc_47,h⟩
     ·rcases aW h with ⟨hc_48,h⟩ | ⟨hc_48,h⟩
      ·rcases aW h with ⟨hc_49,h⟩ | ⟨hc_49,h⟩
       ·rcases aW h with ⟨hc_50,h⟩ | ⟨hc_50,h⟩
        ·obtain ⟨r_51,hr_51,h⟩:=bE h
         refine Ex.reg ?_
         refine runH 17 [(2,.eq (.bool true)),(6,.eq (.bool true)),(11,.eq (.bool true)),(16,.eq (.bool true))] [128] [AV.bool (r_45.2.2 == 0) = AV.bool true,AV.bool (r_46.2 == 0) = AV.bool true,AV.bool (r_45.2.1 == all_34) = AV.bool true,AV.bool (r_46.1 == all_34) = AV.bool true] (mkS 131 [(128,.bool true)]) (⟨[(aE r_5.2),(aI r_3.1),[.sl (([(⟨true,true,true⟩ : aP)] : List aP).map aK) (some 0),.sl (r_33.Jobs.map aH) none]],[(1,3)]⟩) (by kernel_rfl) ⟨congrArg AV.bool hc_47,congrArg AV.bool hc_48,congrArg AV.bool hc_49,congrArg AV.bool hc_50,trivial⟩ ?_
         refine ExO.callL [] [] rfl rfl (aCg) rfl rfl (aBJ N r_51 hr_51) (aBZ _ _ _ _) rfl ?_
         refine rn 2 [2] (mkS 131 [(2,.bool r_51)]) ⟨[(aE r_5.2),(aI r_3.1),[.sl (([(⟨true,true,true⟩ : aP)] : List aP).map aK) (some 0),.sl (r_33.Jobs.map aH) none]],[(1,3)]⟩ ?_
         refine ExO.nil ?_
         refine Ex.ret ?_
         obtain rfl:=sJ h
         exact rt (.bool r_51)
        ·refine regH 20 [(2, .eq (.bool true)), (6, .eq (.bool true)), (11, .eq (.bool true)), (16, .eq (.bool false))] [2] [AV.bool (r_45.2.2 == 0) = AV.bool true, AV.bool (r_46.2 == 0) = AV.bool true, AV.bool (r_45.2.1 == all_34) = AV.bool true, AV.bool (r_46.1 == all_34) = AV.bool false] (mkS 131 [(2, .bool false)]) (⟨[(aE r_5.2), (aI r_3.1), [.sl (([(⟨true, true, true⟩ : aP)] : List aP).map aK) (some 0), .sl (r_33.Jobs.map aH) none]], [(1, 3)]⟩) (by kernel_rfl) ⟨congrArg AV.bool hc_47, congrArg AV.bool hc_48, congrArg AV.bool hc_49, congrArg AV.bool hc_50, trivial⟩ rfl ?_
         refine Ex.ret ?_
         obtain rfl:=sJ h
         exact rt (.bool false)
       ·refine regH 20 [(2, .eq (.bool true)), (6, .eq (.bool true)), (11, .eq (.bool false))] [2] [AV.bool (r_45.2.2 == 0) = AV.bool true, AV.bool (r_46.2 == 0) = AV.bool true, AV.bool (r_45.2.1 == all_34) = AV.bool false] (mkS 131 [(2, .bool false)]) (⟨[(aE r_5.2), (aI r_3.1), [.sl (([(⟨true, true, true⟩ : aP)] : List aP).map aK) (some 0), .sl (r_33.Jobs.map aH) none]], [(1, 3)]⟩) (by kernel_rfl) ⟨congrArg AV.bool hc_47, congrArg AV.bool hc_48, congrArg AV.bool hc_49, trivial⟩ rfl ?_
        refine Ex.ret ?_
        obtain rfl:=sJ h
        exact rt (.bool false)
      ·refine regH 20 [(2, .eq (.bool true)), (6, .eq (.bool false))] [2] [AV.bool (r_45.2.2 == 0) = AV.bool true, AV.bool (r_46.2 == 0) = AV.bool false] (mkS 131 [(2, .bool false)]) (⟨[(aE r_5.2), (aI r_3.1), [.sl (([(⟨true, true, true⟩ : aP)] : List aP).map aK) (some 0), .sl (r_33.Jobs.map aH) none]], [(1, 3)]⟩) (by kernel_rfl) ⟨congrArg AV.bool hc_47, congrArg AV.bool hc_48, trivial⟩ rfl ?_
       refine Ex.ret ?_
       obtain rfl:=sJ h
       exact rt (.bool false)
     ·refine regH 20 [(2, .eq (.bool false))] [2] [AV.bool (r_45.2.2 == 0) = AV.bool false] (mkS 131 [(2, .bool false)]) (⟨[(aE r_5.2), (aI r_3.1), [.sl (([(⟨true, true, true⟩ : aP)] : List aP).map aK) (some 0), .sl (r_33.Jobs.map aH) none]], [(1, 3)]⟩) (by kernel_rfl) ⟨congrArg AV.bool hc_47, trivial⟩ rfl ?_
      refine Ex.ret ?_
      obtain rfl:=sJ h
      exact rt (.bool false)
end Go.Proofs.YtjjmhjmkdihmnaaGreatDoor
end
section
namespace Go.Proofs.YtjjmhjmkdihmnaaGreatDoor
open Go.RowKit
theorem aFr {A B C D ρ : Type} {body : (A → B → C → D → Option ρ) → A → B → C → D → Option ρ} (T : Option ρ → Prop) (P : A → B → C → D → Prop) (μ : A → B → C → D → Nat) (h : ∀ rec a b c d,P a b c d → (∀ a' b' c' d',P a' b' c' d' → μ a' b' c' d' < μ a b c d → T (rec a' b' c' d')) → T (body rec a b c d)) {N : Nat} {a : A} {b : B} {c : C} {d : D} (hp : P a b c d) (hm : μ a b c d < N) : T (loop4 body N a b c d):=aDd T P μ h N a b c d hp hm
theorem aCs (N : Nat) (hN : 100 < N) (d : aQ) {s : aV} (h : GW s) : ∃ l d',iV N d s = some (l,d') ∧ ∀ j,-1000000 ≤ dyL l j ∧ dyL l j ≤ 1000000:=by
 unfold iV
 simp only [eC]
 have hn:=h.jobs.len
 have hw0:=h.w0
 have hw4:=h.w4
 refine aFr (fun r => ∃ l d',r = some (l,d') ∧ ∀ j,-1000000 ≤ dyL l j ∧ dyL l j ≤ 1000000) (fun (l : List aG) (day i b : Int) => ∃ k : Nat,i = (k : Int) ∧ k ≤ s.Jobs.length ∧ l.length = k ∧ 0 ≤ day ∧ day ≤ 100 * (k : Int) ∧ ∀ x,x ∈ l → 0 ≤ x.Day ∧ x.Day ≤ 10000) (fun l day i b => s.Jobs.length - i.toNat) ?_ ⟨0,rfl,Nat.zero_le _,rfl,Int.le_refl _,Int.le_refl _,fun x hx => by simp at hx⟩ (by omega)
 rintro rec l day i b ⟨k,rfl,hk,hl,hd0,hd1,hx⟩ ih
 by_cases hlt : k < s.Jobs.length
 ·have hJ : s.Jobs[k]? = some s.Jobs[k]:=List.getElem?_eq_getElem hlt
  have ha:=h.jobs.all _ (List.getElem_mem hlt)
  generalize s.Jobs[k] = y at hJ ha
  obtain ⟨r1,q1,e1,_⟩:=wX N ⟨b⟩ ((s.Workers.length : Nat) : Int) (by omega)
  obtain ⟨r2,q2,e2,b2,c2⟩:=aAi N q1 2 (by omega) (by omega)
  obtain ⟨r3,q3,e3,m3⟩:=aHf N q2 [0,y.Days,y.Days] (by simp) (by simp)
  have hr3 : 0 ≤ r3 ∧ r3 ≤ 30:=by
   simp only [List.mem_cons,List.not_mem_nil,or_false] at m3
   omega
  rw [ltD hlt,cond_true,e1,Option.bind_some,e2,Option.bind_some,iU (by simp; omega),Option.bind_some,cM,hJ,Option.bind_some,Option.bind_some,e3,Option.bind_some,w64 (x:=day + r2) (by omega) (by omega),w64 (x:=day + r3) (by omega) (by omega),nadd1 k (by omega)]
  refine ih _ _ _ _ ⟨k + 1,rfl,by omega,by simp [hl],by omega,by omega,fun x hx2 => ?_⟩ (by omega)
  rcases List.mem_append.1 hx2 with hx2 | hx2
  ·exact hx x hx2
  ·rw [List.mem_singleton] at hx2
   subst hx2
   exact ⟨by show 0 ≤ day + r2; omega,by show day + r2 ≤ 10000; omega⟩
 ·have : k = s.Jobs.length := by omega
  subst this
  rw [ltE,cond_false]
  refine ⟨_,_,rfl,fun j => ?_⟩
  by_cases hj : j < l.length
  ·have hj2 : l[j]? = some l[j]:=List.getElem?_eq_getElem hj
   rw [qK hj2]
   have:=hx _ (List.getElem_mem hj)
   omega
  ·unfold dyL
   rw [List.getElem?_eq_none (by omega)]
   exact ⟨by decide,by decide⟩
theorem xZ {s : aV} (h : GW s) (ha : jH s) {l : List aG} {d : Int} (hb : aCn s h.jobs l d) : nS s ≤ d :=
 aEK h ha hb.ok (by rw [hb.days]; exact mxN.pos _ _) fun j hj => by rw [hb.days]; exact mxN.ge (fun j => dyL l j + dsL s.Jobs j) _ j hj
theorem aDY {s : aV} (h : GW s) {l : List aG} {d : Int} (hb : aCn s h.jobs l d) {w dd : Nat → Int} (hok : Okp (bP s h.jobs) w dd) (hw : ∀ j,0 ≤ w j) (ho : ∀ j,s.Jobs.length ≤ j → dd j = 0) : d ≤ mxN (fun j => dd j + dsL s.Jobs j) s.Jobs.length:=by
 have:=hb.min w dd hok hw ho
 rw [hb.days]
 rcases this with e | e
 ·exact Int.le_of_eq (List.cons.inj e).1
 ·rcases e with e | ⟨e,_⟩
  ·exact Int.le_of_lt e
  ·exact Int.le_of_eq e
theorem nU.best {s : aV} (h : GW s) {l l2 : List aG} {d : Int} (hb : aCn s h.jobs l d) (hp : nU s l2) : d ≤ mxN (fun j => dyL l2 j + dsL s.Jobs j) s.Jobs.length:=by
 have hok:=hp.okp h
 have hout : ∀ j,s.Jobs.length ≤ j → dyL l2 j = 0 ∧ wkL l2 j = 0:=fun j hj => by
  unfold dyL wkL
  rw [List.getElem?_eq_none (by rw [hp.len]; exact hj)]
  exact ⟨rfl,rfl⟩
 refine aDY h hb hok (fun j => ?_) fun j hj => (hout j hj).1
 by_cases hj : j < s.Jobs.length
 ·obtain ⟨k,_,e,_⟩:=oC.1 (hok.can j hj)
  rw [e]; exact Int.natCast_nonneg k
 ·rw [(hout j (by omega)).2]; exact Int.le_refl _
def hO (J : List bN) : aV:=⟨[⟨true,true,true⟩],J⟩
theorem tE {J : List bN} (hJ : GJ J) : jH (hO J):=by
 intro j hj e
 have hx : J[j]? = some J[j]:=List.getElem?_eq_getElem hj
 have : (0 : Int) ∈ fV (hO J).Workers (skL (hO J).Jobs j):=oC.2 ⟨0,⟨true,true,true⟩,rfl,rfl,by simp [canW]⟩
 rw [e] at this
 simp at this
theorem zJ {J : List bN} (hJ : GJ J) (p : Nat → Bool) : smN (fun j => if p j = true then dsL J j else 0) J.length ≤ smN (dsL J) J.length:=smN.mono _ _ _ fun j hj => by
 have:=(hJ.ds hj).1
 show (if p j = true then dsL J j else 0) ≤ dsL J j
 split <;> omega
theorem vX {J : List bN} (hJ : GJ J) : nS (hO J) = smN (dsL J) J.length:=by
 have hS0 : 0 ≤ smN (dsL J) J.length:=smN.pos _ _ fun j hj => by have:=(hJ.ds hj).1; omega
 have hg : ∀ i,i < 7 → (gB (hO J).Workers (i + 1) (hO J).Workers.length).length = 1:=by
  intro i hi
  have : i = 0 ∨ i = 1 ∨ i = 2 ∨ i = 3 ∨ i = 4 ∨ i = 5 ∨ i = 6:=by omega
  rcases this with rfl | rfl | rfl | rfl | rfl | rfl | rfl <;> rfl
 have hneed : ∀ i,i < 7 → iC (hO J) (i + 1) = sumM J (i + 1) J.length:=by
  intro i hi
  unfold iC
  rw [hg i hi]
  have h0:=(aAh hJ (i + 1) J.length (Nat.le_refl _)).1
  show (if sumM J (i + 1) J.length > 0 then (sumM J (i + 1) J.length + ((1 : Nat) : Int) - 1) / ((1 : Nat) : Int) else 0) = _
  split
  ·rw [show sumM J (i + 1) J.length + ((1 : Nat) : Int) - 1 = sumM J (i + 1) J.length by omega]
   exact Int.ediv_one _
  ·omega
 have h7 : iC (hO J) (6 + 1) = smN (dsL J) J.length:=by
  rw [hneed 6 (by omega)]
  refine smN.eq _ _ _ fun j hj => ?_
  have hx : J[j]? = some J[j]:=List.getElem?_eq_getElem hj
  have ha:=hJ.all _ (List.getElem_mem hj)
  have hs : skL J j = J[j].Skill:=by simp [skL,hx]
  have : inM (skL J j) 7 = true:=by
   rw [hs]
   have hk : J[j].Skill = 1 ∨ J[j].Skill = 2 ∨ J[j].Skill = 3:=by omega
   generalize J[j].Skill = k at hk
   rcases hk with rfl | rfl | rfl <;> rfl
  show (if inM (skL J j) 7 = true then dsL J j else 0) = dsL J j
  rw [if_pos this]
 have hle1 : mxN (fun f => sumF J (f : Int) J.length) 7 ≤ smN (dsL J) J.length:=mxN.le _ hS0 _ fun f _ => by
  have:=zJ hJ (fun j => decide (flL J j = (f : Int)))
  simp only [decide_eq_true_eq] at this
  exact this
 have hle2 : mxN (fun i => iC (hO J) (i + 1)) 7 ≤ smN (dsL J) J.length:=mxN.le _ hS0 _ fun i hi => by
  show iC (hO J) (i + 1) ≤ _
  rw [hneed i hi]
  exact zJ hJ _
 have hge : smN (dsL J) J.length ≤ mxN (fun i => iC (hO J) (i + 1)) 7:=by
  rw [← h7]
  exact mxN.ge (fun i => iC (hO J) (i + 1)) 7 6 (by omega)
 have e : nS (hO J) = max (mxN (fun f => sumF J (f : Int) J.length) 7) (mxN (fun i => iC (hO J) (i + 1)) 7):=rfl
 omega
theorem aDE (N : Nat) (hN : 100 < N) {J : List bN} (hJ : GJ J) (K : Int → Option Bool) : loop2 (fun rec_40 (all_38 : Int) (i_39 : Int) => (bif (decide (i_39 < ((J.length : Nat) : Int))) then ((getI J i_39).bind fun x_44 => (rec_40 (IntKind.i64.wrap (all_38 + x_44.Days)) (IntKind.i64.wrap (i_39 + 1)))) else (K all_38))) N 0 0 = K (smN (dsL J) J.length):=by
 have hn:=hJ.len
 have hbd : ∀ i,i ≤ J.length → 0 ≤ smN (dsL J) i ∧ smN (dsL J) i ≤ 30 * (i : Int):=by
  intro i
  induction i with
  | zero => intro _; exact ⟨Int.le_refl _,Int.le_refl _⟩
  | succ i ih =>
   intro hi
   have:=ih (by omega)
   have:=hJ.ds (j:=i) (by omega)
   rw [smN]; omega
 refine st2z' J.length (fun i => smN (dsL J) i) rfl (by omega) (fun rec => ?_) (fun rec i hi => ?_)
 ·rw [ltE,cond_false]
 ·have hx : J[i]? = some J[i]:=List.getElem?_eq_getElem hi
  have hd:=xM hx
  have:=hbd i (by omega)
  have:=hJ.ds hi
  rw [ltD hi,cond_true,cM,hx,Option.bind_some,← hd,w64 (by omega) (by omega),nadd1 i (by omega)]
  rfl
theorem aBo (N : Nat) (nums : List Int) (hN : nums.length + 1000 < N) (hl : nums.length < 9223372036854775808) (haw : gK N = some true) : jF N nums = some true:=by
 unfold jF
 simp only [eC]
 obtain ⟨d,ed⟩:=aEE N nums (by omega) hl
 obtain ⟨s,d',es,hs⟩:=aEg N (by omega) d 3 5 5 (by omega) (by omega) (by omega)
 have hg:=hs.gw
 obtain ⟨l,d2,el,hlb⟩:=aCs N (by omega) d' hg
 rw [ed,Option.bind_some,es,Option.bind_some]
 -- the second half
 have hga : GW (hO s.Jobs):=⟨hg.jobs,by show 0 < 1; omega,by show 1 ≤ 4; omega⟩
 have hown : iP N s = some s:=by
  unfold iP
  have:=hg.w4
  have:=hg.jobs.len
  rw [iU (by simp; omega),Option.bind_some,iU (by simp; omega),Option.bind_some,List.nil_append,List.nil_append]
 obtain ⟨l3,d3,e3,hb3⟩ : ∃ l d,dY N (hO s.Jobs) = some (l,d,0) ∧ aCn (hO s.Jobs) hga.jobs l d:=by
  rcases aFb N (by omega) hga with ⟨q,_⟩ | ⟨_,q⟩
  ·exact absurd (tE hg.jobs) q
  ·exact q
 have e4 : cW N (hO s.Jobs) = some (smN (dsL s.Jobs) s.Jobs.length,0):=by
  rcases aBh N (by omega) hga with ⟨q,_⟩ | ⟨_,q⟩
  ·exact absurd (tE hg.jobs) q
  ·rw [q,vX hg.jobs]
 have hd3 : d3 = smN (dsL s.Jobs) s.Jobs.length:=by
  have h1:=xZ hga (tE hg.jobs) hb3
  rw [vX hg.jobs] at h1
  have h2 : d3 ≤ smN (dsL s.Jobs) s.Jobs.length:=by
   rw [hb3.days]
   exact mxN.le _ (smN.pos _ _ fun j hj => by have:=(hg.jobs.ds hj).1; omega) _ fun j hj => hb3.small j hj
  omega
 subst hd3
 have e3 : dY N (⟨[(⟨true,true,true⟩ : aP)],s.Jobs⟩ : aV) = some (l3,smN (dsL s.Jobs) s.Jobs.length,0):=e3
 have e4 : cW N (⟨[(⟨true,true,true⟩ : aP)],s.Jobs⟩ : aV) = some (smN (dsL s.Jobs) s.Jobs.length,0):=e4
 have tail : ((iP N s).bind fun r_33 => (loop2 (fun rec_40 (all_38 : Int) (i_39 : Int) => (bif (decide (i_39 < ((s.Jobs.length : Nat) : Int))) then ((getI s.Jobs i_39).bind fun x_44 => (rec_40 (IntKind.i64.wrap (all_38 + x_44.Days)) (IntKind.i64.wrap (i_39 + 1)))) else ((dY N (⟨[(⟨true,true,true⟩ : aP)],r_33.Jobs⟩ : aV)).bind fun r_45 => ((cW N (⟨[(⟨true,true,true⟩ : aP)],r_33.Jobs⟩ : aV)).bind fun r_46 => (bif (r_45.2.2 == 0) then (bif (r_46.2 == 0) then (bif (r_45.2.1 == all_38) then (bif (r_46.1 == all_38) then ((gK N).bind fun r_51 => some r_51) else some false) else some false) else some false) else some false))))) N 0 0)) = some true:=by
  rw [hown,Option.bind_some,aDE N (by omega) hg.jobs (fun all_38 => ((dY N (⟨[(⟨true,true,true⟩ : aP)],s.Jobs⟩ : aV)).bind fun r_45 => ((cW N (⟨[(⟨true,true,true⟩ : aP)],s.Jobs⟩ : aV)).bind fun r_46 => (bif (r_45.2.2 == 0) then (bif (r_46.2 == 0) then (bif (r_45.2.1 == all_38) then (bif (r_46.1 == all_38) then ((gK N).bind fun r_51 => some r_51) else some false) else some false) else some false) else some false))))]
  rw [e3,Option.bind_some,e4,Option.bind_some,haw]
  simp
 rcases aFb N (by omega) hg with ⟨hna,eb⟩ | ⟨haa,l0,d0,eb,hb0⟩
 ·-- a skill that nobody has
  have ebd : cW N s = some (0,7):=by
   rcases aBh N (by omega) hg with ⟨_,q⟩ | ⟨q,_⟩
   ·exact q
   ·exact absurd q hna
  have htk : ∃ n e,e ≠ 0 ∧ gS N s l = some (n,e):=by
   rcases aDs N (by omega) hg hlb with ⟨_,e,he,q⟩ | ⟨q,_⟩
   ·exact ⟨0,e,he,q⟩
   ·exact absurd (fun j hj e => by have:=(q.sh j hj).can; rw [e] at this; cases this) hna
  obtain ⟨n,e,he,et⟩:=htk
  rw [ebd,Option.bind_some,el,Option.bind_some,et,Option.bind_some,eb,Option.bind_some]
  dsimp only
  rw [beq_eq_false_iff_ne.2 he]
  exact tail
 ·have ebd : cW N s = some (nS s,0):=by
   rcases aBh N (by omega) hg with ⟨q,_⟩ | ⟨_,q⟩
   ·exact absurd haa q
   ·exact q
  have hkb:=xZ hg haa hb0
  rcases aDs N (by omega) hg hlb with ⟨_,e,he,q⟩ | ⟨q,q2⟩
  ·rw [ebd,Option.bind_some,el,Option.bind_some,q,Option.bind_some,eb,Option.bind_some]
   dsimp only
   rw [beq_eq_false_iff_ne.2 he,decide_eq_false (show ¬ d0 < nS s by omega)]
   exact tail
  ·have hle:=q.best hg hb0
   rw [ebd,Option.bind_some,el,Option.bind_some,q2,Option.bind_some,eb,Option.bind_some]
   dsimp only
   rw [decide_eq_false (show ¬ d0 < nS s by omega),decide_eq_false (show ¬ mxN (fun j => dyL l j + dsL s.Jobs j) s.Jobs.length < d0 by omega),decide_eq_false (show ¬ mxN (fun j => dyL l j + dsL s.Jobs j) s.Jobs.length < nS s by omega)]
   exact tail
theorem aBp (nums : List Int) (haw : gK 18446744073709551616 = some true) (hl : nums.length + 1000 < 18446744073709551616) (hl2 : nums.length < 9223372036854775808) : Does Tryz.prog 6 [.sl (nums.map fun z => .int .i64 z) none] [] fun v _ => v = .bool true :=
 (wA _ nums true (aBo _ nums hl hl2 haw)).mono fun v c h => h.1
end Go.Proofs.YtjjmhjmkdihmnaaGreatDoor
end
section
namespace Go.Proofs.YtjjmhjmkdihmnaaGreatDoor
open Go.RowKit
set_option maxRecDepth 100000
theorem aFJ : gK 18446744073709551616 = some true:=by kernel_rfl
end Go.Proofs.YtjjmhjmkdihmnaaGreatDoor
end
section
namespace Go.Proofs.YtjjmhjmkdihmnaaGreatDoor
open Go.RowKit Go.ChangeShapes Go.WideShapes Go.ChangeAt

def nums (zs : List Int) : AV:=.sl (zs.map fun z => .int .i64 z) none
theorem aEi : ownKnob Tryz.prog.godebug = none:=by kernel_rfl
theorem aDI : laidOutB Tryz.prog = true:=by kernel_rfl

namespace shedBound
theorem glw {W : World} (hL : laidMetH Tryz.prog Rows.shedBoundRow.laid W) : GLW W:=by
 rw [MakeChecks.laidMetH_plain _ _ _ (by kernel_rfl)] at hL
 have h0 : Lib.TabIs Tryz.prog W "bateria/shed.bitOf" .u8 gnum0 := Lib.tabIs_of_head (g := 0) (t := 136) (e := 135) (n := 4) (by kernel_rfl) (by kernel_rfl) (by kernel_rfl) (by kernel_rfl) (by kernel_rfl) (by kernel_rfl) (hL)
 intro B o u h
 by_cases e0 : B = 0
 ·subst e0
  have:=World.var?_cell (P:=Tryz.prog) (g:=0) (by kernel_rfl) h0 o
  rw [this]
  simpa [gcell,gtab,gtab0] using h
 simp [gcell,gtab,e0] at h
theorem aEG (os : Os) (args : Array Value) : laidMetH Tryz.prog Rows.shedBoundRow.laid ((World.doorLaid Tryz.prog 14 os).forCall (fun _ _ => 0) ⟨#[],args,[]⟩).memory :=
 laidMetH_of_parts3 (fuel:=8) (laidMet_of_run' 8 (by kernel_rfl) (by kernel_rfl)) (by kernel_rfl) (by kernel_rfl)
set_option maxRecDepth 100000 in
theorem lifted (hM : ∀ zs : List Int,(∀ z ∈ zs,(Lit.int .i64 z).wf = true) → zs.length ≤ maxLen → Does Tryz.prog 6 [nums zs] [] fun v _ => v = .bool true) (os : Os) (started : os.Started) (H : Type) (enc : TypeId × Value → H) :
  ReturnsInHanded {} Tryz.checked os 6 .any (fun w args => (Rows.shedBoundSpec.pre enc Tryz.prog Tryz.f6 Rows.shedBoundRow.domain false w args ∧ laidMetH Tryz.prog Rows.shedBoundRow.laid w) ∧ sizedMet enc Tryz.prog Tryz.f6 (OpenSpec.ofChange Rows.shedBoundSpec) false w args) (Rows.shedBoundSpec.post enc Tryz.prog Tryz.f6 false true false false):=by
 refine returnsInHanded_of_change_and (C := Tryz.checked) (X := fun w _ => laidMetH Tryz.prog Rows.shedBoundRow.laid w) (fun _ _ _ hh h => h.of_heap hh) aEi started (by kernel_rfl) Tryz.func6
  (ChangeSpec.witness_shaped (enc:=enc) (C:=Tryz.checked) (os:=os) (X:=fun w _ => laidMetH Tryz.prog Rows.shedBoundRow.laid w) false (World.doorLaid Tryz.prog 14 os) #[.slice none 0 0] 8 rfl (World.shaped_of_RefB (by kernel_rfl) (by kernel_rfl)) (by kernel_rfl) (by kernel_rfl) (by kernel_rfl) (aEG os _)) ?_
 intro W base args ds gs before hval0 hW hcnd _ hL _
 have hval : ∀ (j : Nat) t v,Tryz.f6.params[j]? = some t → args[j]? = some v → Value.okWide Tryz.prog W .any base t v:=hval0
 have hW':=hW
 obtain ⟨p,q,hA0,hV,rfl,hfz,hnd⟩:=hW
 have hA : DataW.TrodAll enc Tryz.prog W 0 (fun _ => true) true Tryz.f6.params.toList args.toList ds p:=hA0
 rw [Tryz.params6] at hA hval
 obtain ⟨v0,vs0,d0,ds0,p0,q0,hargs,rfl,rfl,h0,r0⟩:=trodAll_cons hA
 obtain ⟨rfl,rfl,rfl⟩:=trodAll_nil r0
 obtain rfl : args = #[v0]:=by cases args; simp_all
 obtain ⟨rfl,rfl⟩:=trodVars_none hV
 obtain ⟨a0,len0,cap0,rfl⟩:=okWide_slice Tryz.underlying22 (hval 0 22 v0 rfl rfl)
 have k0:=h0
 have lt0 : ∀ x ∈ p0,x.block < W.heap.size:=by obtain ⟨m,hm⟩:=k0; exact DataW.trod_lt m _ _ _ hm
 obtain ⟨zs,hwf,hlen,hvr⟩:=aFw Tryz.underlying22 Tryz.underlying3 (by kernel_rfl) h0
 clear hA0 hval0
 refine ((hM zs hwf hlen).law (us:=#[.slice a0 len0 cap0]) ⟨rfl,fun i x u hx hu => ?_⟩ (glw hL)).mono fun e W' ⟨he,bel⟩ => ?_
 ·cases i with
  | zero => simp at hx hu; subst hx; subst hu; exact hvr
  | succ i => simp at hx
 subst he
 exact ⟨_,rfl,_,_,_,[],_,[],hW',trodAll_mk1 (shut_bool Tryz.underlying4 _),(trodAll_cons_mk (Below.trod aDI (by kernel_rfl) (of_decide_eq_true (by kernel_rfl)) k0 bel lt0) trodAll_mk0),rfl,bel.frame _,fun h => by cases h⟩

theorem frame (hM : ∀ zs : List Int,(∀ z ∈ zs,(Lit.int .i64 z).wf = true) → zs.length ≤ maxLen → Does Tryz.prog 6 [nums zs] [] fun v _ => v = .bool true) : Rows.ShedBoundSaid :=
 OpenClaim.holds_of_wide 6 Tryz.f6 rfl rfl rfl rfl rfl rfl rfl ⟨rfl, rfl, rfl, rfl, rfl⟩ rfl rfl rfl rfl rfl (by kernel_rfl) Tryz.func6 (by kernel_rfl)
  (of_decide_eq_true (by kernel_rfl)) (by unfold Func.isWrapper; first | (rw [if_pos (by decide +kernel)]; kernel_rfl) | (rw [if_neg (by decide +kernel)]; exact ⟨rfl,rfl⟩))
  (fun os started H enc _ => lifted hM os started H enc)
end shedBound
end Go.Proofs.YtjjmhjmkdihmnaaGreatDoor
end
section
namespace Go.Proofs.YtjjmhjmkdihmnaaGreatDoor
open Go
set_option maxRecDepth 100000
theorem wU (h : Rows.ShedBoundSaid) : Rows.ShedBoundCardSaid :=
 Claim7.holds_tied_plain_at .later [] [.data] true (true, "b3fded3a67afa865d36bc59f57d365191d1fc101e0dca674230707b3974d87a0") false
  h (fun _ h => by cases h) (by kernel_rfl) (fun _ h => by cases h) shedBound_row_tie rfl ⟨rfl,rfl⟩ (by kernel_rfl) rfl
  (fun f fn hf hfn => by
    obtain rfl : f = 6 := Option.some.inj ((show Tryz.prog.funcNamed "bateria/baterialaw08.ShedBound" = some 6 by kernel_rfl).symm.trans hf) |>.symm
    obtain rfl : fn = Tryz.f6:=(Option.some.inj ((Tryz.func6).symm.trans hfn)).symm
    refine ⟨by kernel_rfl,fun j t ht => ?_⟩
    have hall : (Tryz.f6.params.toList.all fun t => !Tryz.prog.wantsStandIn t) = true:=by kernel_rfl
    have hm : t ∈ Tryz.f6.params.toList:=by
     rw [← Array.getElem?_toList] at ht
     exact List.mem_of_getElem? ht
    have hq:=List.all_eq_true.1 hall t hm
    show Tryz.prog.wantsStandIn t = false
    simpa using hq)
  (by kernel_rfl)
end Go.Proofs.YtjjmhjmkdihmnaaGreatDoor
end
