/- Part 7 of what the law needs: own work, put together. -/
import Derived.Test.YtjjmhjmkdihmnaaGreatDoorJfZq5
set_option linter.unusedVariables false
set_option linter.unusedSimpArgs false
set_option maxRecDepth 10000
set_option maxHeartbeats 4000000
namespace Go.Proofs.YtjjmhjmkdihmnaaGreatDoor
section
open Go.RowKit
theorem aHm {α β : Type} {x : Option α} {k : α → Option β} (T : α → Prop) (Q : Option β → Prop) (h1 : ∃ v,x = some v ∧ T v) (h2 : ∀ v,T v → Q (k v)) : Q (x.bind k):=by
 obtain ⟨v,rfl,hv⟩:=h1
 exact h2 v hv
theorem xL {A B C ρ : Type} {body : (A → B → C → Option ρ) → A → B → C → Option ρ} (T : A → B → C → Option ρ → Prop) (P : A → B → C → Prop) (μ : A → B → C → Nat) (h : ∀ rec a b c,P a b c → (∀ a' b' c',P a' b' c' → μ a' b' c' < μ a b c → T a' b' c' (rec a' b' c')) → T a b c (body rec a b c)) : ∀ (N : Nat) (a : A) (b : B) (c : C),P a b c → μ a b c < N → T a b c (loop3 body N a b c)
 | 0,a,b,c,_,hm => absurd hm (Nat.not_lt_zero _)
 | n + 1,a,b,c,hp,hm => h (loop3 body n) a b c hp fun a' b' c' hp' hm' => xL T P μ h n a' b' c' hp' (by omega)
theorem exI {ρ : Type} {X : Option ρ} {A B : ρ → Prop} (h : ∃ v,X = some v ∧ A v) (k : ∀ v,A v → B v) : ∃ v,X = some v ∧ B v:=by
 obtain ⟨v,h1,h2⟩:=h
 exact ⟨v,h1,k v h2⟩
section
variable {s : aV} (hJ : GJ s.Jobs)
def GS (z : aF) (b : Bool) : Prop:=b = true → GD s hJ z ∧ ∀ j,j < s.Jobs.length → (toD z).pl j = true
def Cov (z : aF) (b : Bool) (w dd : Nat → Int) : Prop:=b = true ∧ lxE (keyT z) (keyP (bP s hJ) w dd)
structure ResS (z : aF) (b : Bool) (v : aF × Bool) : Prop where
 gs : GS hJ v.1 v.2
 mono : ∀ w dd,Cov hJ z b w dd → Cov hJ v.1 v.2 w dd
def Stp (d : aF) (k : Nat) (w0 : Int) : Prop:=(toD d).pl k = false ∧ (aftJ s.Jobs k = -1 ∨ (toD d).pl (aftJ s.Jobs k).toNat = true) ∧ dyL d.shifts_.l k ≤ max (rdyD (bP s hJ) (toD d) k) (freD (bP s hJ) (toD d) w0)
def CovS (d : aF) (k : Nat) (w0 : Int) (v : aF × Bool) : Prop:=Stp hJ d k w0 → ∀ w dd,(∀ y : Dr,Adds (bP s hJ) (toD d) k w0 (max (rdyD (bP s hJ) (toD d) k) (freD (bP s hJ) (toD d) w0)) y → Ext (bP s hJ) y w dd) → Cov hJ v.1 v.2 w dd
end
theorem GD.many_le {s : aV} {hJ : GJ s.Jobs} {d : aF} (h : GD s hJ d) : 0 ≤ d.many_ ∧ d.many_ ≤ (s.Jobs.length : Int):=by
 rw [h.many]
 have h1 : cntD s (toD d) ≤ smN (fun _ => 1) s.Jobs.length:=smN.mono _ _ _ fun i hi => by
  show (if (toD d).pl i = true then (1 : Int) else 0) ≤ 1
  split <;> omega
 have h2 : ∀ n,smN (fun _ => 1) n = (n : Int):=fun n => by
  induction n with
  | zero => rfl
  | succ n ih => rw [smN,ih]; omega
 have h3 : 0 ≤ cntD s (toD d):=smN.pos _ _ fun i hi => by
  show 0 ≤ (if (toD d).pl i = true then (1 : Int) else 0)
  split <;> omega
 rw [h2] at h1
 omega
theorem Ext.keyT {s : aV} {hJ : GJ s.Jobs} {d : aF} (h : GD s hJ d) {w dd : Nat → Int} (he : Ext (bP s hJ) (toD d) w dd) : lxE (keyT d) (keyP (bP s hJ) w dd):=by
 rw [h.key]; exact Ext.key h.di he
theorem DI.begin {s : aV} (hJ : GJ s.Jobs) {x : Dr} (hl : x.last = -1) (hp : ∀ j,x.pl j = false) (hw : ∀ j,x.w j = 0) (hd : ∀ j,j < s.Jobs.length → x.d j = max (rdyD (bP s hJ) x j) (gS x j)) (ho : ∀ j,s.Jobs.length ≤ j → x.d j = 0) : DI (bP s hJ) x :=
 ⟨fun j _ h => (by rw [hp] at h; cases h),fun j _ h => (by rw [hp] at h; cases h),fun j k _ _ _ h => (by rw [hp] at h; cases h),.inl ⟨hl,fun j _ => hp j⟩,fun j hj _ => ⟨hw j,hd j hj⟩,fun j hj => ⟨hw j,ho j hj⟩,fun j _ h => (by rw [hp] at h; cases h)⟩
def sZ : bF:=⟨⟨0,0⟩,⟨0,0⟩,⟨0,0⟩,⟨0,0⟩,⟨0,0⟩,⟨0,0⟩,⟨0,0⟩⟩
theorem xI (j : Nat) : dyL sZ.l j = 0 ∧ wkL sZ.l j = 0:=by
 match j with
 | 0 | 1 | 2 | 3 | 4 | 5 | 6 => exact ⟨rfl,rfl⟩
 | n + 7 =>
  have : sZ.l[n + 7]? = none:=List.getElem?_eq_none (by show 7 ≤ n + 7; omega)
  unfold dyL wkL
  rw [this]
  exact ⟨rfl,rfl⟩
theorem yH (j : Nat) : (((⟨false,false,false,false,false,false,false⟩ : bY).l)[j]?).getD false = false:=by
 match j with
 | 0 | 1 | 2 | 3 | 4 | 5 | 6 => rfl
 | n + 7 =>
  have : ((⟨false,false,false,false,false,false,false⟩ : bY).l)[n + 7]? = none:=List.getElem?_eq_none (by show 7 ≤ n + 7; omega)
  rw [this]; rfl
theorem aGe (N : Nat) (hN : 100 < N) {s : aV} (hJ : GJ s.Jobs) {p : aT} (hp : Plr s p) : ∃ y,cY N p ⟨sZ,⟨false,false,false,false,false,false,false⟩,0,-1,0⟩ = some y ∧ GD s hJ y ∧ (toD y).last = -1 ∧ ∀ j,(toD y).pl j = false:=by
 obtain ⟨y, e, y1, y2, y3, y4, y5, y6, y7, y8⟩ := aGs N hN hJ hp ⟨sZ, ⟨false, false, false, false, false, false, false⟩, 0, -1, 0⟩ (fun j _ => (xI j).1) (fun j => by
  have:=(xI j).1
  show 0 ≤ dyL sZ.l j ∧ dyL sZ.l j ≤ 10000
  omega) (fun j _ h => by
  have:=yH j
  have h : (((⟨false,false,false,false,false,false,false⟩ : bY).l)[j]?).getD false = true:=h
  rw [this] at h; cases h) (.inl rfl)
 have hpl : ∀ j,(toD y).pl j = false:=fun j => by
  show (y.planned_.l[j]?).getD false = false
  rw [y1]; exact yH j
 refine ⟨y,e,⟨DI.begin hJ y3 hpl (fun j => (y4 j).trans (xI j).2) (fun j hj => y6 j hj (yH j)) (fun j hj => (y5 j (.inl hj)).trans (xI j).1),?_,y8,y7⟩,y3,hpl⟩
 rw [y2]
 unfold cntD
 have key : ∀ n,smN (fun j => if (toD y).pl j = true then (1 : Int) else 0) n = 0:=fun n => by
  induction n with
  | zero => rfl
  | succ n ih => rw [smN,ih,hpl]; rfl
 rw [key]
theorem aEI (N : Nat) (hN : 100 < N) {s : aV} (hJ : GJ s.Jobs) {p : aT} (hp : Plr s p) (hal : ∀ j,j < s.Jobs.length → (fY s.Workers (skL s.Jobs j)).length ≤ 50) : ∃ y,eS N p = some y ∧ ∃ f,GS hJ y f ∧ ∀ w dd,Okp (bP s hJ) w dd → Tgt (bP s hJ) w dd → (∀ j,0 ≤ w j) → (∀ j,s.Jobs.length ≤ j → dd j = 0) → Cov hJ y f w dd:=by
 have hn:=hJ.len
 obtain ⟨d0,e0,g0,l0,p0⟩:=aGe N hN hJ hp
 unfold eS
 simp only [eM]
 rw [show cY N p (⟨(⟨(⟨0,0⟩ : aG),(⟨0,0⟩ : aG),(⟨0,0⟩ : aG),(⟨0,0⟩ : aG),(⟨0,0⟩ : aG),(⟨0,0⟩ : aG),(⟨0,0⟩ : aG)⟩ : bF),(⟨false,false,false,false,false,false,false⟩ : bY),0,(-1),0⟩ : aF) = some d0 from e0,Option.bind_some]
 refine aHm (T:=fun v => GS hJ v.1 v.2 ∧ ∀ w dd,Ext (bP s hJ) (toD d0) w dd → Cov hJ v.1 v.2 w dd) (fun o => ∃ y,o = some y ∧ ∃ f,GS hJ y f ∧ ∀ w dd,Okp (bP s hJ) w dd → Tgt (bP s hJ) w dd → (∀ j,0 ≤ w j) → (∀ j,s.Jobs.length ≤ j → dd j = 0) → Cov hJ y f w dd) ?_ (fun v hv => ⟨v.1,rfl,v.2,hv.1,fun w dd h1 h2 h3 h4 => hv.2 w dd ⟨h1,h2,h3,fun j _ h => (by rw [p0] at h; cases h),fun j _ _ => .inl l0,h4⟩⟩)
 refine (xL (fun d z b r => ∃ v,r = some v ∧ ResS hJ z b v ∧ ∀ w dd,Ext (bP s hJ) (toD d) w dd → Cov hJ v.1 v.2 w dd) (fun d z b => GD s hJ d ∧ GS hJ z b) (fun d z b => s.Jobs.length - d.many_.toNat) ?_ N d0 _ false ⟨g0,fun h => by cases h⟩ (by omega)).imp fun v hv => ⟨hv.1,hv.2.1.gs,hv.2.2⟩
 rintro rec d z b ⟨hd,hz⟩ ih
 have hmle:=hd.many_le
 by_cases hcut : b = true ∧ lxE (keyT z) (keyT d)
 ·obtain ⟨rfl,h⟩:=hcut
  obtain ⟨c,ec,hc⟩:=aAv N hN d z
  rw [cond_true,ec,Option.bind_some,decide_eq_true (hc.2 h),cond_true]
  exact ⟨(z,true),rfl,⟨hz,fun _ _ h => h⟩,fun w dd he => ⟨rfl,h.trans (Ext.keyT hd he)⟩⟩
 have hbetter : b = true → lxL (keyT d) (keyT z):=fun hb => by
  rcases lxL.tot (l:=keyT z) (m:=keyT d) rfl with h2 | h2
  ·exact absurd ⟨hb,h2⟩ hcut
  ·exact h2
 have esel : ∀ A B : Option (aF × Bool),(bif b then (gE N d z).bind fun r_31 => bif decide (r_31 ≥ 0) then A else B else bif false then A else B) = B:=by
  intro A B
  cases b with
  | false => rfl
  | true =>
   obtain ⟨c,ec,hc⟩:=aAv N hN d z
   have : ¬ c ≥ 0:=fun h => hcut ⟨rfl,hc.1 h⟩
   rw [cond_true,ec,Option.bind_some,decide_eq_false this,cond_false]
 rw [esel]
 by_cases hfull : d.many_ = (s.Jobs.length : Int)
 ·rw [hp.jobs,beq_iff_eq.2 hfull,cond_true]
  exact ⟨(d,true),rfl,⟨fun _ => ⟨hd,hd.full.1 hfull⟩,fun w dd h => ⟨rfl,.trans (.inr (hbetter h.1)) h.2⟩⟩,fun w dd he => ⟨rfl,Ext.keyT hd he⟩⟩
 rw [hp.jobs,beq_eq_false_iff_ne.2 hfull,cond_false]
 rw [show fO N p d = some (p,d) from rfl,Option.bind_some]
 dsimp only
 rw [hp.jobs]
 have hbdd:=hd.bdd
 have hpl7 : ∀ i,i < s.Jobs.length → getA d.planned_.l (i : Int) 7 = some ((toD d).pl i):=fun i hi => by
  have h7 : d.planned_.l[i]? = some (d.planned_.l[i]'(by show i < 7; omega)):=List.getElem?_eq_getElem _
  unfold getA
  rw [if_pos (by omega),Int.toNat_natCast,h7]
  show _ = some ((d.planned_.l[i]?).getD false)
  rw [h7]; rfl
 have hsh7 : ∀ i,i < s.Jobs.length → ∃ x,getA d.shifts_.l (i : Int) 7 = some x ∧ x.Day = dyL d.shifts_.l i:=fun i hi => by
  have h7 : d.shifts_.l[i]? = some (d.shifts_.l[i]'(by show i < 7; omega)):=List.getElem?_eq_getElem _
  exact ⟨_,by unfold getA; rw [if_pos (by omega),Int.toNat_natCast,h7],(lB h7).symm⟩
 -- the loop over jobs
 refine exI (A:=fun v => ResS hJ z b v ∧ ∀ k w0,0 ≤ k → k < s.Jobs.length → w0 ∈ fY s.Workers (skL s.Jobs k) → CovS hJ d k w0 v) (xL (fun y z b r => ∃ v,r = some v ∧ ResS hJ z b v ∧ ∀ k w0,y.toNat ≤ k → k < s.Jobs.length → w0 ∈ fY s.Workers (skL s.Jobs k) → CovS hJ d k w0 v) (fun y z b => GS hJ z b ∧ ∃ i : Nat,y = (i : Int) ∧ i ≤ s.Jobs.length) (fun y z b => s.Jobs.length - y.toNat) ?_ N 0 z b ⟨hz,0,rfl,Nat.zero_le _⟩ (by omega)) ?_
 ·rintro rec2 y z b ⟨hz,i,rfl,hi⟩ ih2
  by_cases hlt : i < s.Jobs.length
  ·rw [ltD hlt,cond_true,hpl7 i hlt,Option.bind_some]
   obtain ⟨v0,ev0,hv0,hk0⟩:=ih2 ((i + 1 : Nat) : Int) z b ⟨hz,i + 1,rfl,by omega⟩ (by omega)
   have skip : (∀ w0,¬ Stp hJ d i w0) → ∃ v,rec2 (IntKind.i64.wrap ((i : Int) + 1)) z b = some v ∧ ResS hJ z b v ∧ ∀ k w0,((i : Nat) : Int).toNat ≤ k → k < s.Jobs.length → w0 ∈ fY s.Workers (skL s.Jobs k) → CovS hJ d k w0 v:=by
    intro hno
    rw [nadd1 i (by omega)]
    refine ⟨v0,ev0,hv0,fun k w0 h1 h2 h3 => ?_⟩
    by_cases e : k = i
    ·subst e
     exact fun hs => absurd hs (hno w0)
    ·exact hk0 k w0 (by omega) h2 h3
   cases hpl : (toD d).pl i with
   | true =>
    rw [cond_true,cond_true]
    exact skip fun w0 hs => by rw [hs.1] at hpl; cases hpl
   | false =>
    rw [cond_false,aFz N hJ hp hlt,Option.bind_some]
    by_cases hw : aftJ s.Jobs i = -1 ∨ (toD d).pl (aftJ s.Jobs i).toNat = true
    ·rw [decide_eq_false (not_not_intro hw),cond_false,bV,hp.able i hlt,Option.bind_some]
     have hal':=hal i hlt
     generalize hA : fY s.Workers (skL s.Jobs i) = al at hal'
     refine exI (A:=fun v => ResS hJ z b v ∧ (∀ (m : Nat) w0,0 ≤ m → al[m]? = some w0 → CovS hJ d i w0 v) ∧ ∀ k w0,i + 1 ≤ k → k < s.Jobs.length → w0 ∈ fY s.Workers (skL s.Jobs k) → CovS hJ d k w0 v) (xL (fun y z b r => ∃ v,r = some v ∧ ResS hJ z b v ∧ (∀ (m : Nat) w0,y.toNat ≤ m → al[m]? = some w0 → CovS hJ d i w0 v) ∧ ∀ k w0,i + 1 ≤ k → k < s.Jobs.length → w0 ∈ fY s.Workers (skL s.Jobs k) → CovS hJ d k w0 v) (fun y z b => GS hJ z b ∧ ∃ j : Nat,y = (j : Int) ∧ j ≤ al.length) (fun y z b => al.length - y.toNat) ?_ N 0 z b ⟨hz,0,rfl,Nat.zero_le _⟩ (by omega)) ?_
     ·rintro rec3 y z b ⟨hz,j,rfl,hj⟩ ih3
      by_cases hjl : j < al.length
      ·have hwj : al[j]? = some al[j]:=List.getElem?_eq_getElem hjl
       have hmem : al[j] ∈ fY s.Workers (skL s.Jobs i):=by rw [hA]; exact List.getElem_mem hjl
       generalize al[j] = w0 at hwj hmem
       obtain ⟨x,ex,hx⟩:=hsh7 i hlt
       obtain ⟨m1,m2⟩:=aHh hd hlt hw w0
       rw [ltD hjl,cond_true,bV,hwj,Option.bind_some,aDz N hJ hp hbdd hlt,Option.bind_some,aHa N hN hJ hp hbdd,Option.bind_some,ex,Option.bind_some,ifmax,hx,nadd1 j (by omega)]
       by_cases hday : max (rdyD (bP s hJ) (toD d) i) (freD (bP s hJ) (toD d) w0) < dyL d.shifts_.l i
       ·rw [decide_eq_true hday,cond_true]
        obtain ⟨v,ev,hv,hm,hk⟩:=ih3 ((j + 1 : Nat) : Int) z b ⟨hz,j + 1,rfl,by omega⟩ (by omega)
        refine ⟨v,ev,hv,fun m w1 h1 h2 => ?_,hk⟩
        by_cases e : m = j
        ·subst e
         rw [hwj] at h2
         cases h2
         intro hs
         exact absurd hs.2.2 (by omega)
        ·exact hm m w1 (by omega) h2
       ·rw [decide_eq_false hday,cond_false]
        obtain ⟨y,ey,hadd,hmy,hdy,hby⟩:=aGG N hN hp hd hlt hpl (w:=w0) (day:=max (rdyD (bP s hJ) (toD d) i) (freD (bP s hJ) (toD d) w0)) ⟨m1,by omega⟩
        rw [ey,Option.bind_some]
        have hgy:=hd.add hlt hpl hw hmem rfl (by omega) hadd hmy hdy hby
        have hmle2:=hgy.many_le
        obtain ⟨v1,e1,hv1,hc1⟩:=ih y z b ⟨hgy,hz⟩ (by omega)
        rw [e1,Option.bind_some]
        obtain ⟨v,ev,hv,hm,hk⟩:=ih3 ((j + 1 : Nat) : Int) v1.1 v1.2 ⟨hv1.gs,j + 1,rfl,by omega⟩ (by omega)
        refine ⟨v,ev,⟨hv.gs,fun w dd h => hv.mono w dd (hv1.mono w dd h)⟩,fun m w1 h1 h2 => ?_,hk⟩
        by_cases e : m = j
        ·subst e
         rw [hwj] at h2
         cases h2
         intro hs w dd hP
         exact hv.mono w dd (hc1 w dd (hP (toD y) hadd))
        ·exact hm m w1 (by omega) h2
      ·have : j = al.length := by omega
       subst this
       rw [ltE,cond_false,nadd1 i (by omega)]
       obtain ⟨v,ev,hv,hk⟩:=ih2 ((i + 1 : Nat) : Int) z b ⟨hz,i + 1,rfl,by omega⟩ (by omega)
       refine ⟨v,ev,hv,fun m w0 h1 h2 => ?_,fun k w0 h1 => hk k w0 (by omega)⟩
       have:=(List.getElem?_eq_some_iff.1 h2).1
       omega
     ·rintro v ⟨h1,h2,h3⟩
      refine ⟨h1,fun k w0 q1 q2 q3 => ?_⟩
      by_cases e : k = i
      ·subst e
       rw [hA] at q3
       obtain ⟨m,hm⟩:=List.mem_iff_getElem?.1 q3
       exact h2 m w0 (Nat.zero_le _) hm
      ·exact h3 k w0 (by omega) q2 q3
    ·rw [decide_eq_true hw,cond_true]
     exact skip fun w0 hs => hw hs.2.1
  ·have : i = s.Jobs.length := by omega
   subst this
   rw [ltE,cond_false]
   exact ⟨(z,b),rfl,⟨hz,fun _ _ h => h⟩,fun k w0 h1 h2 => by omega⟩
 ·rintro v ⟨h1,h2⟩
  refine ⟨h1,fun w dd he => ?_⟩
  have hun : ∃ j,j < (bP s hJ).n ∧ (toD d).pl j = false:=by
   refine Classical.byContradiction fun hno => hfull (hd.full.2 fun j hj => ?_)
   cases hpj : (toD d).pl j with
   | true => rfl
   | false => exact absurd ⟨j,hj,hpj⟩ hno
  obtain ⟨k,k1,k2,k3,k4,k5,k6,k7⟩:=Ext.next hd.di he hun
  refine h2 k (w k) (Nat.zero_le _) k1 k4 ⟨k2,k3,?_⟩ w dd fun y hy => ?_
  ·rw [k5]; exact k6
  ·rw [k5] at hy; exact k7 y hy
end
section
open Go.RowKit
structure GW (s : aV) : Prop where
 jobs : GJ s.Jobs
 w0 : 0 < s.Workers.length
 w4 : s.Workers.length ≤ 4
theorem oJ (N : Nat) (n a b : Int) : eG N n a b = some (decide (a ≤ n ∧ n ≤ b)):=by
 unfold eG
 by_cases h : n ≥ a
 ·rw [decide_eq_true h,cond_true]
  congr 1
  exact decide_eq_decide.2 ⟨fun h2 => ⟨h,h2⟩,fun h2 => h2.2⟩
 ·rw [decide_eq_false h,cond_false,decide_eq_false (fun h2 => h h2.1)]
theorem chkL {n : Nat} (Q : Nat → Prop) (E : Int → Prop) {K : Option Int} {body : (Int → Option Int) → Int → Option Int} (hend : ∀ rec,body rec (n : Int) = K) (hstep : ∀ rec (i : Nat),i < n → (¬ Q i ∧ ∃ e,E e ∧ body rec (i : Int) = some e) ∨ (Q i ∧ body rec (i : Int) = rec ((i + 1 : Nat) : Int))) : ∀ (N i : Nat),i ≤ n → n - i < N → (¬ (∀ j,i ≤ j → j < n → Q j) ∧ ∃ e,E e ∧ loop1 body N (i : Int) = some e) ∨ ((∀ j,i ≤ j → j < n → Q j) ∧ loop1 body N (i : Int) = K)
 | 0,_,_,h => absurd h (Nat.not_lt_zero _)
 | N + 1,i,hi,h => by
  show (_ ∧ ∃ e,E e ∧ body (loop1 body N) (i : Int) = some e) ∨ (_ ∧ body (loop1 body N) (i : Int) = K)
  by_cases hlt : i < n
  ·rcases hstep (loop1 body N) i hlt with ⟨h1,h2⟩ | ⟨h1,h2⟩
   ·exact .inl ⟨fun hq => h1 (hq i (Nat.le_refl _) hlt),h2⟩
   ·rw [h2]
    rcases chkL Q E hend hstep N (i + 1) (by omega) (by omega) with ⟨k1,k2⟩ | ⟨k1,k2⟩
    ·exact .inl ⟨fun hq => k1 fun j hj hj2 => hq j (by omega) hj2,k2⟩
    ·refine .inr ⟨fun j hj hj2 => ?_,k2⟩
     by_cases e : j = i
     ·subst e; exact h1
     ·exact k1 j (by omega) hj2
  ·have : i = n := by omega
   subst this
   exact .inr ⟨fun j h1 h2 => absurd h2 (by omega),hend _⟩
theorem chkZ {n : Nat} (Q : Nat → Prop) (E : Int → Prop) {K : Option Int} {body : (Int → Option Int) → Int → Option Int} {N : Nat} (hN : n < N) (hend : ∀ rec,body rec (n : Int) = K) (hstep : ∀ rec (i : Nat),i < n → (¬ Q i ∧ ∃ e,E e ∧ body rec (i : Int) = some e) ∨ (Q i ∧ body rec (i : Int) = rec ((i + 1 : Nat) : Int))) : (¬ (∀ j,j < n → Q j) ∧ ∃ e,E e ∧ loop1 body N 0 = some e) ∨ ((∀ j,j < n → Q j) ∧ loop1 body N 0 = K):=by
 rcases chkL Q E hend hstep N 0 (Nat.zero_le _) (by omega) with ⟨h1,h2⟩ | ⟨h1,h2⟩
 ·exact .inl ⟨fun h => h1 fun j _ => h j,h2⟩
 ·exact .inr ⟨fun j => h1 j (Nat.zero_le _),h2⟩
theorem aDY (N : Nat) (hN : 100 < N) {s : aV} (h : GW s) : iL N s = some 0:=by
 unfold iL
 have:=h.w0
 have:=h.w4
 have hn:=h.jobs.len
 simp only [eM]
 rw [beq_eq_false_iff_ne.2 (show ((s.Workers.length : Nat) : Int) ≠ 0 by omega),cond_false,decide_eq_false (show ¬ ((s.Workers.length : Nat) : Int) > 4 by omega),cond_false,decide_eq_false (show ¬ ((s.Jobs.length : Nat) : Int) > 7 by omega),cond_false]
 refine st1 s.Jobs.length _ (some 0) (fun rec => ?_) (fun rec i hi => ?_) N 0 (Nat.zero_le _) (by omega)
 ·rw [ltE,cond_false]
 ·have hx : s.Jobs[i]? = some s.Jobs[i]:=List.getElem?_eq_getElem hi
  have ha:=h.jobs.all _ (List.getElem_mem hi)
  generalize s.Jobs[i] = x at hx ha
  have e : gU N x = some 0:=by
   unfold gU
   rw [oJ,Option.bind_some,decide_eq_true (by omega),Bool.not_true,cond_false,oJ,Option.bind_some,decide_eq_true (by omega),Bool.not_true,cond_false,oJ,Option.bind_some,decide_eq_true (by omega)]
   rfl
  rw [ltD hi,cond_true,bV,hx,Option.bind_some,e,Option.bind_some,nadd1 i (by omega)]
  rfl
def vA (s : aV) : Prop:=∀ j,j < s.Jobs.length → fY s.Workers (skL s.Jobs j) ≠ []
theorem aBI (N : Nat) (hN : 100 < N) {s : aV} (h : GW s) : (¬ vA s ∧ dL N s = some 7) ∨ (vA s ∧ dL N s = some 0):=by
 unfold dL
 have hn:=h.jobs.len
 rw [aDY N hN h,Option.bind_some]
 simp only [eM]
 rw [show ((0 : Int) != 0) = false from rfl,cond_false]
 refine (chkZ (n:=s.Jobs.length) (fun j => fY s.Workers (skL s.Jobs j) ≠ []) (fun e => e = 7) (by omega) (fun rec => ?_) (fun rec i hlt => ?_)).imp (fun ⟨h1,e,h2,h3⟩ => ⟨h1,h2 ▸ h3⟩) id
 ·rw [ltE,cond_false]
 ·have hx : s.Jobs[i]? = some s.Jobs[i]:=List.getElem?_eq_getElem hlt
  have hs : skL s.Jobs i = s.Jobs[i].Skill:=by simp [skL,hx]
  have ha:=h.jobs.all _ (List.getElem_mem hlt)
  obtain ⟨b1,b2⟩:=aDh (sk:=s.Jobs[i].Skill) (by omega) (by omega)
  rw [ltD hlt,cond_true,bV,hx,Option.bind_some,b1,Option.bind_some,b2,Option.bind_some,sO N hN s h.w4 (by omega) (by omega),Option.bind_some,nadd1 i (by omega),hs]
  by_cases hn : fY s.Workers s.Jobs[i].Skill = []
  ·rw [hn]; exact .inl ⟨fun h => h rfl,7,rfl,rfl⟩
  ·rw [beq_eq_false_iff_ne.2,cond_false]
   ·exact .inr ⟨hn,rfl⟩
   ·have:=List.length_pos_iff.2 hn
    omega
structure aCJ (s : aV) (hJ : GJ s.Jobs) (l : List aG) (d : Int) : Prop where
 len : l.length = s.Jobs.length
 ok : Okp (bP s hJ) (wkL l) (dyL l)
 days : d = mxN (fun j => dyL l j + dsL s.Jobs j) s.Jobs.length
 small : ∀ j,j < s.Jobs.length → dyL l j + dsL s.Jobs j ≤ smN (dsL s.Jobs) s.Jobs.length
 min : ∀ w dd,Okp (bP s hJ) w dd → (∀ j,0 ≤ w j) → (∀ j,s.Jobs.length ≤ j → dd j = 0) → lxE (keyP (bP s hJ) (wkL l) (dyL l)) (keyP (bP s hJ) w dd)
theorem aEf {s : aV} (hJ : GJ s.Jobs) (ha : vA s) : ∃ w dd,Okp (bP s hJ) w dd ∧ (∀ j,0 ≤ w j) ∧ ∀ j,s.Jobs.length ≤ j → dd j = 0:=by
 have hm : ∀ a b,a ≤ b → b ≤ s.Jobs.length → smN (dsL s.Jobs) a ≤ smN (dsL s.Jobs) b:=by
  intro a b hab
  induction b with
  | zero => intro _; obtain rfl : a = 0:=(by omega); exact Int.le_refl _
  | succ b ih =>
   intro hb
   by_cases e : a = b + 1
   ·subst e; exact Int.le_refl _
   ·have := ih (by omega) (by omega)
    have:=(hJ.ds (j:=b) (by omega)).1
    rw [smN]; omega
 have hstep : ∀ a b,a < b → b ≤ s.Jobs.length → smN (dsL s.Jobs) a + dsL s.Jobs a ≤ smN (dsL s.Jobs) b:=fun a b hab hb => by
  have:=hm (a + 1) b (by omega) hb
  rw [smN] at this
  exact this
 refine ⟨fun j => (fY s.Workers (skL s.Jobs j)).headD 0,fun j => if j < s.Jobs.length then smN (dsL s.Jobs) j else 0,⟨fun j hj => ?_,fun j hj => ?_,fun j b hj hb => ?_,fun j k hj hk hne _ => ?_⟩,fun j => ?_,fun j hj => if_neg (by omega)⟩
 ·show List.headD _ 0 ∈ fY s.Workers (skL s.Jobs j)
  have:=ha j hj
  cases h : fY s.Workers (skL s.Jobs j) with
  | nil => exact absurd h this
  | cons x l => simp
 ·have hj : j < s.Jobs.length:=hj
  show 0 ≤ (if j < s.Jobs.length then smN (dsL s.Jobs) j else 0)
  rw [if_pos hj]
  have:=hm 0 j (by omega) (by omega)
  exact this
 ·have hj : j < s.Jobs.length:=hj
  have hbj : b < j:=by
   rcases kQ (flL s.Jobs j) s.Jobs j with e | ⟨b',e,hb'⟩
   ·have hb : aftF (flL s.Jobs j) s.Jobs j = (b : Int):=hb
    omega
   ·have hb : aftF (flL s.Jobs j) s.Jobs j = (b : Int):=hb
    omega
  show (if b < s.Jobs.length then smN (dsL s.Jobs) b else 0) + dsL s.Jobs b ≤ (if j < s.Jobs.length then smN (dsL s.Jobs) j else 0)
  rw [if_pos (by omega),if_pos hj]
  exact hstep b j hbj (by omega)
 ·have hj : j < s.Jobs.length:=hj
  have hk : k < s.Jobs.length:=hk
  show (if j < s.Jobs.length then smN (dsL s.Jobs) j else 0) + dsL s.Jobs j ≤ (if k < s.Jobs.length then smN (dsL s.Jobs) k else 0) ∨ (if k < s.Jobs.length then smN (dsL s.Jobs) k else 0) + dsL s.Jobs k ≤ (if j < s.Jobs.length then smN (dsL s.Jobs) j else 0)
  rw [if_pos hj,if_pos hk]
  by_cases h : j < k
  ·exact .inl (hstep j k h (by omega))
  ·exact .inr (hstep k j (by omega) (by omega))
 ·show 0 ≤ List.headD (fY s.Workers (skL s.Jobs j)) 0
  cases h : fY s.Workers (skL s.Jobs j) with
  | nil => exact Int.le_refl _
  | cons x l =>
   have : x ∈ fY s.Workers (skL s.Jobs j):=by rw [h]; simp
   obtain ⟨k,_,rfl,_⟩:=oP.1 this
   exact Int.natCast_nonneg k
theorem aHs (N : Nat) (hN : 100 < N) {s : aV} (h : GW s) : (¬ vA s ∧ hU N s = some ([],0,7)) ∨ (vA s ∧ ∃ l d,hU N s = some (l,d,0) ∧ aCJ s h.jobs l d):=by
 have hn:=h.jobs.len
 unfold hU
 rcases aBI N hN h with ⟨h1,h2⟩ | ⟨h1,h2⟩
 ·rw [h2]; exact .inl ⟨h1,rfl⟩
 ·rw [h2,Option.bind_some,show ((0 : Int) != 0) = false from rfl,cond_false]
  refine .inr ⟨h1,?_⟩
  obtain ⟨p,ep,hp⟩:=aBJ N hN s h.jobs h.w4
  obtain ⟨y, ey, f, hgs, hcov⟩ := aEI N hN h.jobs hp (fun j hj => by
   have:=aAy s.Workers (skL s.Jobs j) s.Workers.length
   have:=h.w4
   show (sU _ _ _).length ≤ 50
   omega)
  rw [ep,Option.bind_some,ey,Option.bind_some]
  have hcut : cutL y.shifts_.l 7 ((s.Jobs.length : Nat) : Int) = some (y.shifts_.l.take s.Jobs.length):=by
   unfold cutL
   rw [if_pos ⟨by omega,by omega,by show (s.Jobs.length : Int) ≤ 7; omega⟩,Int.toNat_natCast]
  rw [hcut,Option.bind_some]
  have hcl : cX N (y.shifts_.l.take s.Jobs.length) = some (y.shifts_.l.take s.Jobs.length):=by
   unfold cX
   rw [lM (by rw [List.length_take]; simp; omega),List.nil_append]
  rw [hcl,Option.bind_some]
  -- any plan is covered,and there is one
  have hall : ∀ w dd,Okp (bP s h.jobs) w dd → (∀ j,0 ≤ w j) → (∀ j,s.Jobs.length ≤ j → dd j = 0) → f = true ∧ lxE (keyT y) (keyP (bP s h.jobs) w dd):=by
   intro w dd hok hw ho
   obtain ⟨d', a1, a2, a3, a4⟩ := Okp.tight (smN dd s.Jobs.length).toNat.succ dd (by
    have : 0 ≤ smN dd s.Jobs.length:=smN.pos _ _ hok.pos
    show smN dd s.Jobs.length < _
    omega) hok
   obtain ⟨c1,c2⟩:=hcov w d' a1 a2 hw (fun j hj => by rw [a4 j hj]; exact ho j hj)
   exact ⟨c1,c2.trans (keyP.mono a3)⟩
  obtain ⟨w0,dd0,p1,p2,p3⟩:=aEf h.jobs h1
  obtain ⟨rfl,_⟩:=hall w0 dd0 p1 p2 p3
  obtain ⟨gy,full⟩:=hgs rfl
  have hdy : dyL (y.shifts_.l.take s.Jobs.length) = dyL y.shifts_.l ∧ wkL (y.shifts_.l.take s.Jobs.length) = wkL y.shifts_.l:=by
   constructor
   ·funext j
    by_cases hj : j < s.Jobs.length
    ·unfold dyL; rw [List.getElem?_take_of_lt hj]
    ·have := (gy.di.out j (by show s.Jobs.length ≤ j; omega)).2
     have e : dyL y.shifts_.l j = 0:=this
     rw [e]
     unfold dyL
     rw [List.getElem?_eq_none (by rw [List.length_take]; omega)]
     rfl
   ·funext j
    by_cases hj : j < s.Jobs.length
    ·unfold wkL; rw [List.getElem?_take_of_lt hj]
    ·have := (gy.di.out j (by show s.Jobs.length ≤ j; omega)).1
     have e : wkL y.shifts_.l j = 0:=this
     rw [e]
     unfold wkL
     rw [List.getElem?_eq_none (by rw [List.length_take]; omega)]
     rfl
  refine ⟨_,_,rfl,?_,?_,?_,?_,?_⟩
  ·rw [List.length_take]; show min s.Jobs.length 7 = _; omega
  ·rw [hdy.1,hdy.2]; exact gy.di.full full
  ·rw [hdy.1]; exact gy.days
  ·intro j hj
   rw [hdy.1]
   have h5:=gy.di.sum j hj (full j hj)
   have h6 : smN (fun j => if (toD y).pl j = true then dsL s.Jobs j else 0) s.Jobs.length = smN (dsL s.Jobs) s.Jobs.length:=smN.eq _ _ _ fun i hi => by rw [full i hi]; rfl
   exact Int.le_trans h5 (Int.le_of_eq h6)
  ·intro w dd q1 q2 q3
   rw [hdy.1,hdy.2]
   have:=(hall w dd q1 q2 q3).2
   rw [gy.key] at this
   exact this
end
section
open Go.RowKit
theorem aGx (N : Nat) (d : aW) : ∃ y d',gW N d = some (y,d') ∧ 0 ≤ y ∧ y < 2 ^ 64:=by
 refine ⟨_,_,rfl,?_⟩
 exact wu64 _
theorem aCP (N : Nat) (d : aW) (n : Int) (hn : n < 9223372036854775808) : ∃ r d',dU N d n = some (r,d') ∧ 0 ≤ r ∧ (n < 2 → r = 0) ∧ (2 ≤ n → r < n):=by
 unfold dU
 by_cases h2 : n < 2
 ·simp only [h2,decide_true,cond_true]
  exact ⟨0,d,rfl,by omega,fun _ => rfl,fun h => by omega⟩
 ·simp only [h2,decide_false,cond_false]
  obtain ⟨y,d',hy,h0,h1⟩:=aGx N d
  have hu : IntKind.u64.wrap n = n:=aFy (by omega) (by omega)
  have hnz : n ≠ 0:=by omega
  rw [hy,hu]
  simp only [Option.bind_some,nzI,hnz,if_false]
  have hsh : Int.fdiv y ((2 : Int) ^ (min (Int.toNat 1) (IntKind.bits .u64))) = y / 2:=by
   have : (2 : Int) ^ (min (Int.toNat 1) (IntKind.bits .u64)) = 2:=rfl
   rw [this,Int.fdiv_eq_ediv_of_nonneg _ (by omega)]
  rw [hsh]
  have hd0 : 0 ≤ y / 2:=by omega
  have hm : Int.tmod (y / 2) n = (y / 2) % n:=Int.tmod_eq_emod_of_nonneg hd0
  have hm0 : 0 ≤ (y / 2) % n:=Int.emod_nonneg _ hnz
  have hm1 : (y / 2) % n < n:=Int.emod_lt_of_pos _ (by omega)
  rw [hm,w64 (x:=y / 2 % n) (by omega) (by omega)]
  exact ⟨_,d',rfl,hm0,fun h => False.elim h,fun _ => hm1⟩
theorem aEN (N : Nat) (d : aW) (lo hi : Int) (h0 : -4611686018427387904 ≤ lo) (h1 : lo ≤ 4611686018427387903) (h2 : -4611686018427387904 ≤ hi) (h3 : hi ≤ 4611686018427387902) : ∃ r d',eH N d lo hi = some (r,d') ∧ lo ≤ r ∧ (lo ≤ hi → r ≤ hi) ∧ (hi < lo → r = lo):=by
 unfold eH
 rw [w64 (x:=hi - lo) (by omega) (by omega)]
 by_cases hc : hi - lo + 1 < 9223372036854775808
 ·rw [w64 (x := hi - lo + 1) (by omega) hc]
  obtain ⟨r,d',e1,e2,e3,e4⟩:=aCP N d (hi - lo + 1) hc
  rw [e1]
  simp only [Option.bind_some]
  have hr : r ≤ hi - lo ∨ r = 0:=by
   by_cases h : hi - lo + 1 < 2
   ·exact .inr (e3 h)
   ·have:=e4 (by omega); exact .inl (by omega)
  rw [w64 (by omega) (by omega)]
  exact ⟨_, d', rfl, by omega, fun h => by omega, fun h => by
   have:=e3 (by omega)
   omega⟩
 ·omega
theorem aBW (N : Nat) (l : List Int) (rec : Int → Int → Option aW) (i q : Int) (h : i < 9223372036854775807) (h0 : 0 ≤ i) (ih : ∀ b',∃ d,rec (i + 1) b' = some d) : ∃ d,((gW N (⟨q⟩ : aW)).bind fun r_14 => (rec (IntKind.i64.wrap (i + 1)) r_14.2.beat_)) = some d:=by
 obtain ⟨y,d',g1,_,_⟩:=aGx N ⟨q⟩
 rw [g1,w64 (x:=i + 1) (by omega) (by omega)]
 exact ih _
theorem aFa (N : Nat) (l : List Int) (hN : l.length < N) (hl : l.length < 9223372036854775808) : ∃ d,lQ N l = some d:=by
 unfold lQ
 rw [eM]
 refine aDE (fun x => ∃ d,x = some d) (fun i b => 0 ≤ i ∧ i ≤ (l.length : Int)) (fun i b => l.length - i.toNat) ?_ N 0 _ ⟨by omega,by omega⟩ (by simpa using hN)
 rintro rec i b ⟨h0,h1⟩ ih
 by_cases hc : i < (l.length : Int)
 ·rw [show decide (i < ((l.length : Nat) : Int)) = true from decide_eq_true hc,cond_true]
  obtain ⟨x,e1,_,_⟩:=aFU h0 hc
  rw [e1,Option.bind_some,Option.bind_some]
  exact aBW N l rec i _ (by omega) h0 fun b' => ih _ _ ⟨by omega,by omega⟩ (by omega)
 ·rw [show decide (i < ((l.length : Nat) : Int)) = false from decide_eq_false hc,cond_false]
  exact ⟨_,rfl⟩
theorem aDx (N : Nat) (d : aW) (n : Int) (h1 : 1 ≤ n) (hn : n < 9223372036854775808) : ∃ r d',dU N d n = some (r,d') ∧ 0 ≤ r ∧ r < n:=by
 obtain ⟨r,d',e,h0,h2,h3⟩:=aCP N d n hn
 refine ⟨r,d',e,h0,?_⟩
 by_cases h : n < 2
 ·rw [h2 h]; omega
 ·exact h3 (by omega)
end
section
open Go.RowKit
theorem aAE (N : Nat) (d : aW) (n : Int) (hn : n < 9223372036854775808) : ∃ r d',dV N d n = some (r,d'):=by
 unfold dV
 obtain ⟨r,d',e,_⟩:=aCP N d n hn
 rw [e,Option.bind_some]
 exact ⟨_,_,rfl⟩
structure Made (s : aV) (w j k : Int) : Prop where
 gw : GW s
 w : (s.Workers.length : Int) ≤ w
 j : (s.Jobs.length : Int) ≤ j
 k : ∀ x,x ∈ s.Jobs → x.Days ≤ k
 f : ∀ x,x ∈ s.Jobs → x.Float ≤ 2
theorem aEH (N : Nat) (hN : 100 < N) (d : aW) (w j k : Int) (hw : 1 ≤ w ∧ w ≤ 4) (hj : 0 ≤ j ∧ j ≤ 7) (hk : 1 ≤ k ∧ k ≤ 30) : ∃ s d',lP N d w j k = some (s,d') ∧ Made s w j k:=by
 unfold lP
 simp only [eM]
 obtain ⟨n,d1,e1,n1,n2,_⟩:=aEN N d 1 w (by omega) (by omega) (by omega) (by omega)
 have n2:=n2 hw.1
 rw [e1,Option.bind_some,w64 (x:=j + 1) (by omega) (by omega)]
 refine aAI (fun r => ∃ s d',r = some (s,d') ∧ Made s w j k) (fun (i b : Int) (l : List bI) => 0 ≤ i ∧ (l.length : Int) + i = n) (fun i b l => i.toNat) ?_ N _ _ _ ⟨by show 0 ≤ n; omega,by simp⟩ (by show n.toNat < N; omega)
 rintro rec i b l ⟨hi,hl⟩ ih
 by_cases h0 : i > 0
 ·rw [decide_eq_true h0,cond_true]
  obtain ⟨r1,q1,a1⟩:=aAE N ⟨b⟩ 3 (by omega)
  obtain ⟨r2,q2,a2⟩:=aAE N q1 3 (by omega)
  obtain ⟨r3,q3,a3⟩:=aAE N q2 3 (by omega)
  rw [a1,Option.bind_some,a2,Option.bind_some,a3,Option.bind_some,lM (by simp; omega),Option.bind_some,w64 (by omega) (by omega)]
  exact ih _ _ _ ⟨by omega,by simp; omega⟩ (by omega)
 ·rw [decide_eq_false h0,cond_false]
  obtain ⟨m,d2,e2,m1,m2⟩:=aDx N ⟨b⟩ (j + 1) (by omega) (by omega)
  rw [e2,Option.bind_some]
  have hlw : (l.length : Int) = n:=by omega
  refine aAI (fun r => ∃ s d',r = some (s,d') ∧ Made s w j k) (fun (i b : Int) (J : List bR) => 0 ≤ i ∧ (J.length : Int) + i = m ∧ ∀ x,x ∈ J → (0 ≤ x.Float ∧ x.Float ≤ 6 ∧ 1 ≤ x.Skill ∧ x.Skill ≤ 3 ∧ 1 ≤ x.Days ∧ x.Days ≤ 30) ∧ x.Days ≤ k ∧ x.Float ≤ 2) (fun i b J => i.toNat) ?_ N _ _ _ ⟨m1,by simp,fun x hx => by simp at hx⟩ (by show m.toNat < N; omega)
  rintro rec2 i2 b2 J ⟨hi2,hJl,hJ⟩ ih2
  by_cases h2 : i2 > 0
  ·rw [decide_eq_true h2,cond_true]
   obtain ⟨x1,q1,a1,b1,c1⟩:=aDx N ⟨b2⟩ 3 (by omega) (by omega)
   obtain ⟨x2,q2,a2,b2',c2,_⟩:=aEN N q1 1 3 (by omega) (by omega) (by omega) (by omega)
   have c2:=c2 (by omega)
   obtain ⟨x3,q3,a3,b3,c3,_⟩:=aEN N q2 1 k (by omega) (by omega) (by omega) (by omega)
   have c3:=c3 hk.1
   rw [a1,Option.bind_some,a2,Option.bind_some,a3,Option.bind_some,lM (by simp; omega),Option.bind_some,w64 (by omega) (by omega)]
   refine ih2 _ _ _ ⟨by omega,by simp; omega,fun x hx => ?_⟩ (by omega)
   rcases List.mem_append.1 hx with hx | hx
   ·exact hJ x hx
   ·rw [List.mem_singleton] at hx
    subst hx
    exact ⟨⟨by show 0 ≤ x1; omega,by show x1 ≤ 6; omega,b2',c2,b3,by show x3 ≤ 30; omega⟩,c3,by show x1 ≤ 2; omega⟩
  ·rw [decide_eq_false h2,cond_false]
   exact ⟨_,_,rfl,⟨⟨by show J.length ≤ 7; omega,fun x hx => (hJ x hx).1⟩,by show 0 < l.length; omega,by show l.length ≤ 4; omega⟩,by show (l.length : Int) ≤ w; omega,by show (J.length : Int) ≤ j; omega,fun x hx => (hJ x hx).2.1,fun x hx => (hJ x hx).2.2⟩
structure uX (s : aV) (l : List aG) (j : Nat) : Prop where
 can : wkL l j ∈ fY s.Workers (skL s.Jobs j)
 day : 0 ≤ dyL l j ∧ dyL l j ≤ 400
 ord : aftJ s.Jobs j = -1 ∨ dyL l (aftJ s.Jobs j).toNat + dsL s.Jobs (aftJ s.Jobs j).toNat ≤ dyL l j
theorem aBh (N : Nat) (hN : 100 < N) {s : aV} (h : GW s) {l : List aG} (hl : l.length = s.Jobs.length) (hb : ∀ j,-1000000 ≤ dyL l j ∧ dyL l j ≤ 1000000) {j : Nat} (hj : j < s.Jobs.length) : (¬ uX s l j ∧ ∃ e,e ≠ 0 ∧ eK N s l (j : Int) = some e) ∨ (uX s l j ∧ eK N s l (j : Int) = some 0):=by
 have hn:=h.jobs.len
 have hw4:=h.w4
 have hw0:=h.w0
 have hx : l[j]? = some l[j]:=List.getElem?_eq_getElem (by omega)
 have hJx : s.Jobs[j]? = some s.Jobs[j]:=List.getElem?_eq_getElem hj
 have ha:=h.jobs.all _ (List.getElem_mem hj)
 have hsk : skL s.Jobs j = s.Jobs[j].Skill:=by simp [skL,hJx]
 have hwk:=qK hx
 have hdy:=lB hx
 generalize l[j] = x at hx hwk hdy
 generalize s.Jobs[j] = y at hJx ha hsk
 unfold eK
 simp only [eM]
 rw [bV,hx,Option.bind_some,oJ,Option.bind_some,w64 (by omega) (by omega)]
 by_cases hwi : 0 ≤ x.Worker ∧ x.Worker ≤ (s.Workers.length : Int) - 1
 ·rw [decide_eq_true hwi,Bool.not_true,cond_false]
  obtain ⟨k,hk⟩ : ∃ k : Nat,x.Worker = (k : Int):=⟨x.Worker.toNat,by omega⟩
  have hkl : k < s.Workers.length:=by omega
  have hv : s.Workers[k]? = some s.Workers[k]:=List.getElem?_eq_getElem hkl
  generalize s.Workers[k] = v at hv
  obtain ⟨b1,b2⟩:=aDh (sk:=y.Skill) (by omega) (by omega)
  rw [hk,bV,hv,Option.bind_some,bV,hJx,Option.bind_some,b1,Option.bind_some,b2,Option.bind_some,aBT N hN v (by omega) (by omega),Option.bind_some]
  have hmem : wkL l j ∈ fY s.Workers (skL s.Jobs j) ↔ canW v y.Skill = true:=by
   rw [hwk,hsk,hk,oP]
   constructor
   ·rintro ⟨k',v',e1,e2,e3⟩
    obtain rfl : k = k':=by omega
    rw [hv] at e2; cases e2; exact e3
   ·intro e; exact ⟨k,v,rfl,hv,e⟩
  cases hc : canW v y.Skill with
  | false =>
   refine .inl ⟨fun q => ?_,3,by decide,rfl⟩
   have:=hmem.1 q.can
   rw [hc] at this; cases this
  | true =>
   rw [Bool.not_true,cond_false,oJ,Option.bind_some]
   by_cases hdi : 0 ≤ x.Day ∧ x.Day ≤ 400
   ·rw [decide_eq_true hdi,Bool.not_true,cond_false,wN N hN hn hj,Option.bind_some]
    by_cases haft : aftJ s.Jobs j = -1
    ·rw [haft]
     exact .inr ⟨⟨hmem.2 hc,by rw [hdy]; exact hdi,.inl haft⟩,rfl⟩
    ·rw [bne_iff_ne.2 haft,cond_true]
     rcases kQ (flL s.Jobs j) s.Jobs j with e | ⟨b,e,hbl⟩
     ·exact absurd e haft
     ·have e : aftJ s.Jobs j = (b : Int):=e
      rw [e,yJ N h.jobs (by omega) (by omega) (hb b),Option.bind_some]
      by_cases hlt : x.Day < dyL l b + dsL s.Jobs b
      ·rw [decide_eq_true hlt]
       refine .inl ⟨fun q => ?_,9,by decide,rfl⟩
       have:=q.ord
       rw [e,Int.toNat_natCast,hdy] at this
       omega
      ·rw [decide_eq_false hlt]
       refine .inr ⟨⟨hmem.2 hc,by rw [hdy]; exact hdi,.inr ?_⟩,rfl⟩
       rw [e,Int.toNat_natCast,hdy]
       omega
   ·rw [decide_eq_false hdi]
    refine .inl ⟨fun q => hdi ?_,2,by decide,rfl⟩
    have:=q.day
    rw [hdy] at this
    exact this
 ·rw [decide_eq_false hwi]
  refine .inl ⟨fun q => hwi ?_,7,by decide,rfl⟩
  obtain ⟨k,v,e1,e2,_⟩:=oP.1 q.can
  have:=(List.getElem?_eq_some_iff.1 e2).1
  rw [hwk] at e1
  omega
def sY (s : aV) (l : List aG) (a b : Nat) : Prop:=wkL l a = wkL l b ∧ dyL l a < dyL l b + dsL s.Jobs b ∧ dyL l b < dyL l a + dsL s.Jobs a
theorem aGb (N : Nat) {s : aV} (h : GW s) {l : List aG} (hl : l.length = s.Jobs.length) (hb : ∀ j,-1000000 ≤ dyL l j ∧ dyL l j ≤ 1000000) {a b : Nat} (ha : a < s.Jobs.length) (hb2 : b < s.Jobs.length) : (¬ sY s l a b ∧ fQ N s.Jobs l (a : Int) (b : Int) = some false) ∨ (sY s l a b ∧ fQ N s.Jobs l (a : Int) (b : Int) = some true):=by
 have h1 : l[a]? = some l[a]:=List.getElem?_eq_getElem (by omega)
 have h2 : l[b]? = some l[b]:=List.getElem?_eq_getElem (by omega)
 unfold fQ sY
 rw [qK h1,qK h2,yJ N h.jobs hb2 (by omega) (hb b),yJ N h.jobs ha (by omega) (hb a),lB h1,lB h2]
 rw [bV,h1,Option.bind_some,bV,h2,Option.bind_some]
 generalize l[a] = x
 generalize l[b] = y
 by_cases c1 : x.Worker = y.Worker
 ·rw [beq_iff_eq.2 c1,cond_true,Option.bind_some,Option.bind_some]
  by_cases c2 : x.Day < y.Day + dsL s.Jobs b
  ·rw [decide_eq_true c2,cond_true,Option.bind_some,Option.bind_some]
   by_cases c3 : y.Day < x.Day + dsL s.Jobs a
   ·rw [decide_eq_true c3]; exact .inr ⟨⟨c1,c2,c3⟩,rfl⟩
   ·rw [decide_eq_false c3]; exact .inl ⟨fun q => c3 q.2.2,rfl⟩
  ·rw [decide_eq_false c2]; exact .inl ⟨fun q => c2 q.2.1,rfl⟩
 ·rw [beq_eq_false_iff_ne.2 c1]; exact .inl ⟨fun q => c1 q.1,rfl⟩
structure jO (s : aV) (l : List aG) : Prop where
 len : l.length = s.Jobs.length
 sh : ∀ j,j < s.Jobs.length → uX s l j
 cl : ∀ j,j < s.Jobs.length → ∀ k,k < j → ¬ sY s l j k
theorem chkT {n : Nat} (Q : Nat → Prop) (E : Int → Prop) {K R : Option Int} {body : (Int → Option Int) → Int → Option Int} {N : Nat} {A : Prop} (hN : n < N) (hend : ∀ rec,body rec (n : Int) = K) (hstep : ∀ rec (i : Nat),i < n → (¬ Q i ∧ ∃ e,E e ∧ body rec (i : Int) = some e) ∨ (Q i ∧ body rec (i : Int) = rec ((i + 1 : Nat) : Int))) (hA : ¬ (∀ j,j < n → Q j) → ¬ A) (hK : (∀ j,j < n → Q j) → (¬ A ∧ ∃ e,E e ∧ K = some e) ∨ (A ∧ K = R)) : (¬ A ∧ ∃ e,E e ∧ loop1 body N 0 = some e) ∨ (A ∧ loop1 body N 0 = R):=by
 rcases chkZ Q E hN hend hstep with ⟨q1,q2⟩ | ⟨q1,q2⟩
 ·exact .inl ⟨hA q1,q2⟩
 ·rw [q2]; exact hK q1
theorem aCm (N : Nat) (hN : 100 < N) {s : aV} (h : GW s) {l : List aG} (hb : ∀ j,-1000000 ≤ dyL l j ∧ dyL l j ≤ 1000000) : (¬ jO s l ∧ ∃ e,e ≠ 0 ∧ fD N s l = some e) ∨ (jO s l ∧ fD N s l = some 0):=by
 have hn:=h.jobs.len
 unfold fD
 simp only [eM]
 by_cases hl : l.length = s.Jobs.length
 ·rw [show (((l.length : Nat) : Int) != ((s.Jobs.length : Nat) : Int)) = false from by rw [hl]; simp, cond_false]
  rw [hl]
  -- the second loop
  have second := chkZ (n := s.Jobs.length) (fun j => ∀ k, k < j → ¬ sY s l j k) (fun e => e ≠ 0) (K := some (0 : Int)) (N := N) (body := fun rec_18 (y_17 : Int) => (bif (decide (y_17 < ((s.Jobs.length : Nat) : Int))) then (loop1 (fun rec_26 (y_25 : Int) => (bif (decide (y_25 < y_17)) then ((fQ N s.Jobs l y_17 y_25).bind fun r_30 => (bif r_30 then some 10 else (rec_26 (IntKind.i64.wrap (y_25 + 1))))) else (rec_18 (IntKind.i64.wrap (y_17 + 1))))) N 0) else some 0)) (by omega) (fun rec => by rw [ltE, cond_false]) (fun rec i hi => by
   rw [ltD hi,cond_true]
   rcases chkZ (n := i) (fun k => ¬ sY s l i k) (fun e => e ≠ 0) (K := rec ((i + 1 : Nat) : Int)) (N := N) (body := fun rec_26 (y_25 : Int) => (bif (decide (y_25 < (i : Int))) then ((fQ N s.Jobs l (i : Int) y_25).bind fun r_30 => (bif r_30 then some 10 else (rec_26 (IntKind.i64.wrap (y_25 + 1))))) else (rec (IntKind.i64.wrap ((i : Int) + 1))))) (by omega) (fun rec2 => by rw [ltE, cond_false, nadd1 i (by omega)]) (fun rec2 k hk => by
    rw [ltD hk,cond_true]
    rcases aGb N h hl hb (a:=i) (b:=k) hi (by omega) with ⟨q1,q2⟩ | ⟨q1,q2⟩
    ·rw [q2, Option.bind_some, cond_false, nadd1 k (by omega)]
     exact .inr ⟨q1,rfl⟩
    ·rw [q2,Option.bind_some,cond_true]
     exact .inl ⟨fun q => q q1, 10, by decide, rfl⟩) with q | q
   ·exact .inl q
   ·exact .inr q)
  refine chkT (n:=s.Jobs.length) (fun j => uX s l j) (fun e => e ≠ 0) (by omega) (fun rec => ?_) (fun rec i hi => ?_) (fun hq q => hq q.sh) (fun q1 => second.imp (fun r => ⟨fun q => r.1 q.cl,r.2⟩) fun r => ⟨⟨hl,q1,r.1⟩,r.2⟩)
  ·rw [ltE,cond_false]
  ·rw [ltD hi,cond_true]
   rcases aBh N hN h hl hb hi with ⟨q1,e,q2,q3⟩ | ⟨q1,q3⟩
   ·rw [q3,Option.bind_some,bne_iff_ne.2 q2,cond_true]
    exact .inl ⟨q1,e,q2,rfl⟩
   ·rw [q3, Option.bind_some, show ((0 : Int) != 0) = false from rfl, cond_false, nadd1 i (by omega)]
    exact .inr ⟨q1,rfl⟩
 ·rw [bne_iff_ne.2 (by omega), cond_true]
  exact .inl ⟨fun q => hl q.len,1,by decide,rfl⟩
theorem aGi (N : Nat) (hN : 100 < N) {s : aV} (h : GW s) {l : List aG} (hb : ∀ j,-1000000 ≤ dyL l j ∧ dyL l j ≤ 1000000) : (¬ jO s l ∧ ∃ e,e ≠ 0 ∧ gP N s l = some (0,e)) ∨ (jO s l ∧ gP N s l = some (mxN (fun j => dyL l j + dsL s.Jobs j) s.Jobs.length,0)):=by
 unfold gP
 rw [aDY N hN h,Option.bind_some,show ((0 : Int) != 0) = false from rfl,cond_false]
 rcases aCm N hN h hb with ⟨q1,e,q2,q3⟩ | ⟨q1,q3⟩
 ·rw [q3,Option.bind_some,bne_iff_ne.2 q2,cond_true]
  exact .inl ⟨q1,e,q2,rfl⟩
 ·rw [q3, Option.bind_some, show ((0 : Int) != 0) = false from rfl, cond_false, aDJ N hN h.jobs (by rw [q1.len]; exact Nat.le_refl _) (fun j _ => hb j), Option.bind_some]
  exact .inr ⟨q1,rfl⟩
theorem jO.okp {s : aV} (h : GW s) {l : List aG} (hp : jO s l) : Okp (bP s h.jobs) (wkL l) (dyL l):=by
 refine ⟨fun j hj => (hp.sh j hj).can,fun j hj => (hp.sh j hj).day.1,fun j b hj hb => ?_,fun j k hj hk hne hw => ?_⟩
 ·have hb : aftJ s.Jobs j = (b : Int):=hb
  rcases (hp.sh j hj).ord with e | e
  ·omega
  ·rw [hb,Int.toNat_natCast] at e; exact e
 ·have key : ∀ j k,j < s.Jobs.length → k < j → wkL l j = wkL l k → dyL l j + dsL s.Jobs j ≤ dyL l k ∨ dyL l k + dsL s.Jobs k ≤ dyL l j:=by
   intro j k hj hk hw
   have:=hp.cl j hj k hk
   unfold sY at this
   by_cases c : dyL l j < dyL l k + dsL s.Jobs k
   ·by_cases c2 : dyL l k < dyL l j + dsL s.Jobs j
    ·exact absurd ⟨hw,c,c2⟩ this
    ·exact .inl (by omega)
   ·exact .inr (by omega)
  by_cases c : k < j
  ·exact key j k hj c hw
  ·exact (key k j hk (by omega) hw.symm).symm
theorem jO.of {s : aV} (h : GW s) {l : List aG} (hl : l.length = s.Jobs.length) (hok : Okp (bP s h.jobs) (wkL l) (dyL l)) (h4 : ∀ j,j < s.Jobs.length → dyL l j ≤ 400) : jO s l:=by
 refine ⟨hl,fun j hj => ⟨hok.can j hj,⟨hok.pos j hj,h4 j hj⟩,?_⟩,fun j hj k hk => ?_⟩
 ·by_cases e : aftJ s.Jobs j = -1
  ·exact .inl e
  ·rcases kQ (flL s.Jobs j) s.Jobs j with e2 | ⟨b,e2,hb⟩
   ·exact absurd e2 e
   ·have e2 : aftJ s.Jobs j = (b : Int):=e2
    rw [e2,Int.toNat_natCast]
    exact .inr (hok.ord j b hj e2)
 ·rintro ⟨c1,c2,c3⟩
  have c:=hok.cl j k hj (by show k < s.Jobs.length; omega) (by omega) c1
  rcases c with c | c
  ·have c : dyL l j + dsL s.Jobs j ≤ dyL l k:=c
   omega
  ·have c : dyL l k + dsL s.Jobs k ≤ dyL l j:=c
   omega
end
section
open Go.RowKit
theorem smN.add (f g : Nat → Int) : ∀ n,smN (fun j => f j + g j) n = smN f n + smN g n
 | 0 => rfl
 | n + 1 => by rw [smN,smN,smN,smN.add f g n]; omega
theorem smN.zero (f : Nat → Int) : ∀ n,(∀ j,j < n → f j = 0) → smN f n = 0
 | 0,_ => rfl
 | n + 1,h => by rw [smN,smN.zero f n (fun j hj => h j (by omega)),h n (by omega)]; rfl
theorem aEw {s : aV} (h : GW s) {l : List aG} {d : Int} (hb : aCJ s h.jobs l d) {w dd : Nat → Int} (hok : Okp (bP s h.jobs) w dd) (hw : ∀ j,0 ≤ w j) (ho : ∀ j,s.Jobs.length ≤ j → dd j = 0) : d ≤ mxN (fun j => dd j + dsL s.Jobs j) s.Jobs.length:=by
 have:=hb.min w dd hok hw ho
 rw [hb.days]
 rcases this with e | e
 ·exact Int.le_of_eq (List.cons.inj e).1
 ·rcases e with e | ⟨e,_⟩
  ·exact Int.le_of_lt e
  ·exact Int.le_of_eq e
theorem jO.best {s : aV} (h : GW s) {l l2 : List aG} {d : Int} (hb : aCJ s h.jobs l d) (hp : jO s l2) : d ≤ mxN (fun j => dyL l2 j + dsL s.Jobs j) s.Jobs.length:=by
 have hok:=hp.okp h
 have hout : ∀ j,s.Jobs.length ≤ j → dyL l2 j = 0 ∧ wkL l2 j = 0:=fun j hj => by
  unfold dyL wkL
  rw [List.getElem?_eq_none (by rw [hp.len]; exact hj)]
  exact ⟨rfl,rfl⟩
 refine aEw h hb hok (fun j => ?_) fun j hj => (hout j hj).1
 by_cases hj : j < s.Jobs.length
 ·obtain ⟨k,_,e,_⟩:=oP.1 (hok.can j hj)
  rw [e]; exact Int.natCast_nonneg k
 ·rw [(hout j (by omega)).2]; exact Int.le_refl _
end
section
@[simp] theorem aHI {α : Type} {f : α → AV} (h : ∀ l : List α,bB (l.map f) = true) (l : List (List α)) : bB (l.map (SV f)) = true:=eA (fun x => by simp [SV,AV.clean,h]) l
end
section
open Go.RowKit
attribute [local simp] ren ren1 AV.plain AV.plain1 AV.clean bB fG dP fI eX cS cV eP fT cG cF dZ eO dC dB cN aK aN aX aJ aY aP aH aA aE bO bQ dW dF eN dX aI aB aM aC back back1 re re1 List.idxOf? List.findIdx? List.findIdx?.go nK oY zB uZ rK kU nY pY lL jF
def mW (N : Nat) (n_1 : Int) (least_2 : Int) (most_3 : Int) : Option (Bool):=(bif (decide (n_1 ≥ least_2)) then some (decide (n_1 ≤ most_3)) else some false)
def tS (r : Bool) : AV:=.bool r
attribute [local simp] tS
theorem rG (n_1 : Int) (least_2 : Int) (most_3 : Int) : [i6 n_1,i6 least_2,i6 most_3].mapM (ren []) = some [i6 n_1,i6 least_2,i6 most_3]:=by simp
theorem rC (r : Bool) (n n2 m : Nat) : back n n2 m (tS r) = some (tS r):=by simp
theorem qX (N : Nat) (n_1 : Int) (least_2 : Int) (most_3 : Int) (r : Bool) (h : mW N n_1 least_2 most_3 = some r) : Does Tryz.prog 77 [i6 n_1,i6 least_2,i6 most_3] [] fun v c => v = tS r ∧ c = []:=by
 unfold mW at h
 refine Does.ofL comp77 _ _ rfl rfl ?_
 refine Ex.seq (rg 1 [0,1,2] (mkS 15 [(0,i6 n_1),(1,i6 least_2),(2,i6 most_3)]) ⟨[],[]⟩ ?_)
 refine Ex.seq ?_
 rcases aU h with ⟨hc_4,h⟩ | ⟨hc_4,h⟩
 ·refine regH 9 [(3, .eq (.bool true))] [6] [AV.bool (decide (n_1 ≥ least_2)) = AV.bool true] (mkS 15 [(6, .bool (decide (n_1 ≤ most_3)))]) (⟨[], []⟩) (by kernel_rfl) ⟨congrArg AV.bool hc_4, trivial⟩ rfl ?_
  refine Ex.ret ?_
  obtain rfl:=sJ h
  exact rt (.bool (decide (n_1 ≤ most_3)))
 ·refine regH 9 [(3, .eq (.bool false))] [6] [AV.bool (decide (n_1 ≥ least_2)) = AV.bool false] (mkS 15 [(6, .bool false)]) (⟨[], []⟩) (by kernel_rfl) ⟨congrArg AV.bool hc_4, trivial⟩ rfl ?_
  refine Ex.ret ?_
  obtain rfl:=sJ h
  exact rt (.bool false)
structure bN where
 Kind : Int
 A : Int
 B : Int
 deriving Inhabited
def bJ (x : bN) : List AV:=[i6 x.Kind,i6 x.A,i6 x.B]
attribute [local simp] bJ
def aO (x : bN) : AV:=.agg (bJ x)
attribute [local simp] aO
theorem aEz (x : bN) : bB (bJ x) = true:=by simp
theorem aEB (x : bN) : (aO x).clean = true:=aEz x
theorem jR (l : List bN) : bB (l.map aO) = true:=eA aEB l
attribute [local simp] jR
theorem wH (x : bN) (n : Nat) (σ : List Nat) : (bJ x).mapM (re n σ) = some (bJ x):=by simp
attribute [local simp] wH
def qQ (N : Nat) (h_1 : bN) : Option (Int):=(letJ (fun (y_2 : Bool) => (bif y_2 then some 2 else (bif (decide (h_1.A ≥ h_1.B)) then some 9 else some 0))) (fun k_3 => ((mW N h_1.A 0 20000).bind fun r_6 => (bif (!r_6) then (k_3 true) else ((mW N h_1.B 0 20000).bind fun r_8 => (k_3 (!r_8)))))))
def nP (r : Int) : AV:=i6 r
attribute [local simp] nP
theorem aCz (h_1 : bN) : [(aO h_1)].mapM (ren []) = some [(aO h_1)]:=by simp
theorem aCr (r : Int) (n n2 m : Nat) : back n n2 m (nP r) = some (nP r):=by simp
theorem aCa (N : Nat) (h_1 : bN) (r : Int) (h : qQ N h_1 = some r) : Does Tryz.prog 100 [(aO h_1)] [] fun v c => v = nP r ∧ c = []:=by
 unfold qQ at h
 refine Does.ofL comp100 _ _ rfl rfl ?_
 refine Ex.seq (rg 2 [1] (mkS 20 [(1,.ptr 0 0)]) ⟨[(bJ h_1)],[]⟩ ?_)
 refine Ex.seq ?_
 refine Ex.blockK ?_
 obtain ⟨K_4,hK_5,h⟩:=letE h
 refine Ex.seqJ (fun a S => ∃ (y_2 : Bool),K_4 y_2 = some r ∧ a = mkS 20 [(1,.ptr 0 0),(3,.bool y_2)] ∧ S = ⟨[(bJ h_1)],[]⟩) ?_ ?_
 ·obtain ⟨r_6,hr_6,h⟩:=bE h
  refine Ex.reg (rn 2 [1,5] (mkS 20 [(1,.ptr 0 0),(5,i6 h_1.A)]) ⟨[(bJ h_1)],[]⟩ ?_)
  refine ExO.callL [] [i6 h_1.A,i6 0,i6 20000] rfl rfl (rG h_1.A 0 20000) rfl rfl (qX N h_1.A 0 20000 r_6 hr_6) (rC _ _ _ _) rfl ?_
  rcases aU h with ⟨hc_7,h⟩ | ⟨hc_7,h⟩
  ·refine runH 8 [(1, .eq (.bool true))] [1, 3] [AV.bool (!r_6) = AV.bool true] (mkS 20 [(1, .ptr 0 0), (3, .bool true)]) (⟨[(bJ h_1)], []⟩) (by kernel_rfl) ⟨congrArg AV.bool hc_7, trivial⟩ ?_
   refine ExO.nil ?_
   (try simp only [reduceCtorEq,AEx.ex.injEq,Nat.reduceEqDiff,if_true,if_false])
   exact ⟨_,_,aL.refl _ _ _,true,h,rfl,rfl⟩
  ·obtain ⟨r_8,hr_8,h⟩:=bE h
   refine runH 4 [(1,.eq (.bool false))] [1,8,10] [AV.bool (!r_6) = AV.bool false] (mkS 20 [(1,.ptr 0 0),(8,.bool false),(10,i6 h_1.B)]) (⟨[(bJ h_1)],[]⟩) (by kernel_rfl) ⟨congrArg AV.bool hc_7,trivial⟩ ?_
   refine ExO.callL [] [i6 h_1.B,i6 0,i6 20000] rfl rfl (rG h_1.B 0 20000) rfl rfl (qX N h_1.B 0 20000 r_8 hr_8) (rC _ _ _ _) rfl ?_
   refine rn 3 [1,3] (mkS 20 [(1,.ptr 0 0),(3,.bool (!r_8))]) ⟨[(bJ h_1)],[]⟩ ?_
   refine ExO.nil ?_
   (try simp only [reduceCtorEq,AEx.ex.injEq,Nat.reduceEqDiff,if_true,if_false])
   exact ⟨_,_,aL.refl _ _ _,(!r_8),h,rfl,rfl⟩
 ·rintro a S ⟨y_2,h,rfl,rfl⟩
  subst hK_5
  rcases aU h with ⟨hc_9,h⟩ | ⟨hc_9,h⟩
  ·refine Ex.condT _ rfl hc_9 ?_
   refine Ex.seq (rg 1 [2] (mkS 20 [(2,i6 2)]) ⟨[(bJ h_1)],[]⟩ ?_)
   refine Ex.ret ?_
   obtain rfl:=sJ h
   exact rt (i6 2)
  ·refine Ex.condF _ rfl hc_9 ?_
   refine Ex.seq (rg 6 [14] (mkS 20 [(14,.bool (decide (h_1.A ≥ h_1.B)))]) ⟨[(bJ h_1)],[]⟩ ?_)
   rcases aU h with ⟨hc_10,h⟩ | ⟨hc_10,h⟩
   ·refine Ex.condT _ rfl hc_10 ?_
    refine Ex.seq (rg 1 [2] (mkS 20 [(2,i6 9)]) ⟨[(bJ h_1)],[]⟩ ?_)
    refine Ex.ret ?_
    obtain rfl:=sJ h
    exact rt (i6 9)
   ·refine Ex.condF _ rfl hc_10 ?_
    refine Ex.skip ?_
    refine Ex.seq (rg 1 [2] (mkS 20 [(2,i6 0)]) ⟨[(bJ h_1)],[]⟩ ?_)
    refine Ex.ret ?_
    obtain rfl:=sJ h
    exact rt (i6 0)
def qP (N : Nat) (h_1 : bN) : Option (Int):=((mW N h_1.A 0 2000).bind fun r_2 => (bif (!r_2) then some 2 else (bif (h_1.B != 0) then some 1 else some 0)))
def nO (r : Int) : AV:=i6 r
attribute [local simp] nO
theorem aCy (h_1 : bN) : [(aO h_1)].mapM (ren []) = some [(aO h_1)]:=by simp
theorem aCq (r : Int) (n n2 m : Nat) : back n n2 m (nO r) = some (nO r):=by simp
theorem aBZ (N : Nat) (h_1 : bN) (r : Int) (h : qP N h_1 = some r) : Does Tryz.prog 101 [(aO h_1)] [] fun v c => v = nO r ∧ c = []:=by
 unfold qP at h
 refine Does.ofL comp101 _ _ rfl rfl ?_
 refine Ex.seq (rg 2 [1] (mkS 12 [(1,.ptr 0 0)]) ⟨[(bJ h_1)],[]⟩ ?_)
 refine Ex.seq ?_
 refine Ex.blockK ?_
 refine Ex.seq ?_
 obtain ⟨r_2,hr_2,h⟩:=bE h
 refine Ex.reg (rn 2 [1,5] (mkS 12 [(1,.ptr 0 0),(5,i6 h_1.A)]) ⟨[(bJ h_1)],[]⟩ ?_)
 refine ExO.callL [] [i6 h_1.A,i6 0,i6 2000] rfl rfl (rG h_1.A 0 2000) rfl rfl (qX N h_1.A 0 2000 r_2 hr_2) (rC _ _ _ _) rfl ?_
 refine rn 2 [1,3] (mkS 12 [(1,.ptr 0 0),(3,.bool (!r_2))]) ⟨[(bJ h_1)],[]⟩ ?_
 refine ExO.nil ?_
 rcases aU h with ⟨hc_3,h⟩ | ⟨hc_3,h⟩
 ·refine Ex.condT _ rfl hc_3 ?_
  refine Ex.seq (rg 1 [2] (mkS 12 [(2,i6 2)]) ⟨[(bJ h_1)],[]⟩ ?_)
  refine Ex.ret ?_
  obtain rfl:=sJ h
  exact rt (i6 2)
 ·refine Ex.condF _ rfl hc_3 ?_
  refine Ex.seq (rg 4 [8] (mkS 12 [(8,.bool (h_1.B != 0))]) ⟨[(bJ h_1)],[]⟩ ?_)
  rcases aU h with ⟨hc_4,h⟩ | ⟨hc_4,h⟩
  ·refine Ex.condT _ rfl hc_4 ?_
   refine Ex.seq (rg 1 [2] (mkS 12 [(2,i6 1)]) ⟨[(bJ h_1)],[]⟩ ?_)
   refine Ex.ret ?_
   obtain rfl:=sJ h
   exact rt (i6 1)
  ·refine Ex.condF _ rfl hc_4 ?_
   refine Ex.skip ?_
   refine Ex.seq (rg 1 [2] (mkS 12 [(2,i6 0)]) ⟨[(bJ h_1)],[]⟩ ?_)
   refine Ex.ret ?_
   obtain rfl:=sJ h
   exact rt (i6 0)
def oB (N : Nat) (h_1 : bN) : Option (Int):=(letJ (fun (y_2 : Bool) => (bif y_2 then some 2 else some 0)) (fun k_3 => ((mW N h_1.A 0 10000000).bind fun r_6 => (bif (!r_6) then (k_3 true) else ((mW N h_1.B 0 10000000).bind fun r_8 => (k_3 (!r_8)))))))
def lH (r : Int) : AV:=i6 r
attribute [local simp] lH
theorem zW (h_1 : bN) : [(aO h_1)].mapM (ren []) = some [(aO h_1)]:=by simp
theorem zS (r : Int) (n n2 m : Nat) : back n n2 m (lH r) = some (lH r):=by simp
theorem zL (N : Nat) (h_1 : bN) (r : Int) (h : oB N h_1 = some r) : Does Tryz.prog 102 [(aO h_1)] [] fun v c => v = lH r ∧ c = []:=by
 unfold oB at h
 refine Does.ofL comp102 _ _ rfl rfl ?_
 refine Ex.seq (rg 2 [1] (mkS 13 [(1,.ptr 0 0)]) ⟨[(bJ h_1)],[]⟩ ?_)
 refine Ex.seq ?_
 obtain ⟨K_4,hK_5,h⟩:=letE h
 refine Ex.seqJ (fun a S => ∃ (y_2 : Bool),K_4 y_2 = some r ∧ a = mkS 13 [(12,.bool y_2)] ∧ S = ⟨[],[]⟩) ?_ ?_
 ·obtain ⟨r_6,hr_6,h⟩:=bE h
  refine Ex.reg (rn 2 [1,4] (mkS 13 [(1,.ptr 0 0),(4,i6 h_1.A)]) ⟨[(bJ h_1)],[]⟩ ?_)
  refine ExO.callL [] [i6 h_1.A,i6 0,i6 10000000] rfl rfl (rG h_1.A 0 10000000) rfl rfl (qX N h_1.A 0 10000000 r_6 hr_6) (rC _ _ _ _) rfl ?_
  rcases aU h with ⟨hc_7,h⟩ | ⟨hc_7,h⟩
  ·refine runH 7 [(1, .eq (.bool true))] [12] [AV.bool (!r_6) = AV.bool true] (mkS 13 [(12, .bool true)]) (⟨[(bJ h_1)], []⟩) (by kernel_rfl) ⟨congrArg AV.bool hc_7, trivial⟩ ?_
   refine ExO.nil ?_
   (try simp only [reduceCtorEq,AEx.ex.injEq,Nat.reduceEqDiff,if_true,if_false])
   exact ⟨_,_,bU (m:=13) 0 [] [(12,.bool true)] [] [] (by simp [bH]) (by simp) ⟨rfl,trivial⟩ (by simp) rfl (by decide),true,h,rfl,rfl⟩
  ·obtain ⟨r_8,hr_8,h⟩:=bE h
   refine runH 4 [(1,.eq (.bool false))] [7,9] [AV.bool (!r_6) = AV.bool false] (mkS 13 [(7,.bool false),(9,i6 h_1.B)]) (⟨[(bJ h_1)],[]⟩) (by kernel_rfl) ⟨congrArg AV.bool hc_7,trivial⟩ ?_
   refine ExO.callL [] [i6 h_1.B,i6 0,i6 10000000] rfl rfl (rG h_1.B 0 10000000) rfl rfl (qX N h_1.B 0 10000000 r_8 hr_8) (rC _ _ _ _) rfl ?_
   refine rn 2 [12] (mkS 13 [(12,.bool (!r_8))]) ⟨[(bJ h_1)],[]⟩ ?_
   refine ExO.nil ?_
   (try simp only [reduceCtorEq,AEx.ex.injEq,Nat.reduceEqDiff,if_true,if_false])
   exact ⟨_,_,bU (m:=13) 0 [] [(12,.bool (!r_8))] [] [] (by simp [bH]) (by simp) ⟨rfl,trivial⟩ (by simp) rfl (by decide),(!r_8),h,rfl,rfl⟩
 ·rintro a S ⟨y_2,h,rfl,rfl⟩
  subst hK_5
  rcases aU h with ⟨hc_9,h⟩ | ⟨hc_9,h⟩
  ·refine Ex.condT _ rfl hc_9 ?_
   refine Ex.seq (rg 1 [2] (mkS 13 [(2,i6 2)]) ⟨[],[]⟩ ?_)
   refine Ex.ret ?_
   obtain rfl:=sJ h
   exact rt (i6 2)
  ·refine Ex.condF _ rfl hc_9 ?_
   refine Ex.skip ?_
   refine Ex.seq (rg 1 [2] (mkS 13 [(2,i6 0)]) ⟨[],[]⟩ ?_)
   refine Ex.ret ?_
   obtain rfl:=sJ h
   exact rt (i6 0)
def oA (N : Nat) (h_1 : bN) : Option (Int):=(bif (h_1.Kind == 1) then ((qQ N h_1).bind fun r_3 => some r_3) else (bif (h_1.Kind == 2) then ((qP N h_1).bind fun r_5 => some r_5) else (bif (h_1.Kind == 3) then ((oB N h_1).bind fun r_7 => some r_7) else some 3)))
def lG (r : Int) : AV:=i6 r
attribute [local simp] lG
theorem zV (h_1 : bN) : [(aO h_1)].mapM (ren []) = some [(aO h_1)]:=by simp
theorem zR (r : Int) (n n2 m : Nat) : back n n2 m (lG r) = some (lG r):=by simp
theorem zK (N : Nat) (h_1 : bN) (r : Int) (h : oA N h_1 = some r) : Does Tryz.prog 74 [(aO h_1)] [] fun v c => v = lG r ∧ c = []:=by
 unfold oA at h
 refine Does.ofL comp74 _ _ rfl rfl ?_
 refine Ex.seq (rg 2 [1] (mkS 17 [(1,.ptr 0 0)]) ⟨[(bJ h_1)],[]⟩ ?_)
 refine Ex.seq (Ex.seq ?_)
 refine rg 2 [1,4] (mkS 17 [(1,.ptr 0 0),(4,i6 h_1.Kind)]) ⟨[(bJ h_1)],[]⟩ ?_
 refine Ex.blockK ?_
 refine Ex.seq (rg 2 [1,4,5] (mkS 17 [(1,.ptr 0 0),(4,i6 h_1.Kind),(5,.bool (h_1.Kind == 1))]) ⟨[(bJ h_1)],[]⟩ ?_)
 rcases aU h with ⟨hc_2,h⟩ | ⟨hc_2,h⟩
 ·refine Ex.condT _ rfl hc_2 ?_
  refine Ex.seq ?_
  obtain ⟨r_3,hr_3,h⟩:=bE h
  refine Ex.reg (rn 1 [7] (mkS 17 [(7,(aO h_1))]) ⟨[(bJ h_1)],[]⟩ ?_)
  refine ExO.callL [] [(aO h_1)] rfl rfl (aCz h_1) rfl rfl (aCa N h_1 r_3 hr_3) (aCr _ _ _ _) rfl ?_
  refine rn 1 [2] (mkS 17 [(2,i6 r_3)]) ⟨[(bJ h_1)],[]⟩ ?_
  refine ExO.nil ?_
  refine Ex.ret ?_
  obtain rfl:=sJ h
  exact rt (i6 r_3)
 ·refine Ex.condF _ rfl hc_2 ?_
  refine Ex.seq (rg 2 [1,4,9] (mkS 17 [(1,.ptr 0 0),(4,i6 h_1.Kind),(9,.bool (h_1.Kind == 2))]) ⟨[(bJ h_1)],[]⟩ ?_)
  rcases aU h with ⟨hc_4,h⟩ | ⟨hc_4,h⟩
  ·refine Ex.condT _ rfl hc_4 ?_
   refine Ex.seq ?_
   obtain ⟨r_5,hr_5,h⟩:=bE h
   refine Ex.reg (rn 1 [11] (mkS 17 [(11,(aO h_1))]) ⟨[(bJ h_1)],[]⟩ ?_)
   refine ExO.callL [] [(aO h_1)] rfl rfl (aCy h_1) rfl rfl (aBZ N h_1 r_5 hr_5) (aCq _ _ _ _) rfl ?_
   refine rn 1 [2] (mkS 17 [(2,i6 r_5)]) ⟨[(bJ h_1)],[]⟩ ?_
   refine ExO.nil ?_
   refine Ex.ret ?_
   obtain rfl:=sJ h
   exact rt (i6 r_5)
  ·refine Ex.condF _ rfl hc_4 ?_
   refine Ex.seq (rg 2 [1,13] (mkS 17 [(1,.ptr 0 0),(13,.bool (h_1.Kind == 3))]) ⟨[(bJ h_1)],[]⟩ ?_)
   rcases aU h with ⟨hc_6,h⟩ | ⟨hc_6,h⟩
   ·refine Ex.condT _ rfl hc_6 ?_
    refine Ex.seq ?_
    obtain ⟨r_7,hr_7,h⟩:=bE h
    refine Ex.reg (rn 1 [15] (mkS 17 [(15,(aO h_1))]) ⟨[(bJ h_1)],[]⟩ ?_)
    refine ExO.callL [] [(aO h_1)] rfl rfl (zW h_1) rfl rfl (zL N h_1 r_7 hr_7) (zS _ _ _ _) rfl ?_
    refine rn 1 [2] (mkS 17 [(2,i6 r_7)]) ⟨[(bJ h_1)],[]⟩ ?_
    refine ExO.nil ?_
    refine Ex.ret ?_
    obtain rfl:=sJ h
    exact rt (i6 r_7)
   ·refine Ex.condF _ rfl hc_6 ?_
    refine Ex.skip ?_
    refine Ex.seq (rg 1 [2] (mkS 17 [(2,i6 3)]) ⟨[(bJ h_1)],[]⟩ ?_)
    refine Ex.ret ?_
    obtain rfl:=sJ h
    exact rt (i6 3)
def pL (N : Nat) (route_1 : (List bN)) : Option (Int):=(bif (decide (((route_1.length : Nat) : Int) > 40)) then some 5 else (letJ (fun (_ : Unit) => some 0) (fun k_3 => (loop1 (fun rec_7 (y_6 : Int) => (bif (decide (y_6 < ((route_1.length : Nat) : Int))) then ((getI route_1 y_6).bind fun x_11 => ((oA N x_11).bind fun r_12 => (bif (r_12 != 0) then some r_12 else (rec_7 (IntKind.i64.wrap (y_6 + 1)))))) else (k_3 ()))) N 0))))
def mO (r : Int) : AV:=i6 r
attribute [local simp] mO
theorem aBz (route_1 : (List bN)) : [.sl (route_1.map aO) none].mapM (ren []) = some [.sl (route_1.map aO) none]:=by simp
theorem aBq (r : Int) (n n2 m : Nat) : back n n2 m (mO r) = some (mO r):=by simp
theorem aBe (N : Nat) (route_1 : (List bN)) (r : Int) (h : pL N route_1 = some r) : Does Tryz.prog 41 [.sl (route_1.map aO) none] [] fun v c => v = mO r ∧ c = []:=by
 unfold pL at h
 refine Does.ofL comp41 _ _ rfl rfl ?_
 refine Ex.seq (rg 1 [0] (mkS 21 [(0,.sl (route_1.map aO) none)]) ⟨[],[]⟩ ?_)
 refine Ex.seq (Ex.seq ?_)
 refine regH 3 [(1,.eq (i6 ((route_1.length : Nat) : Int)))] [0,8] [AV.int .i64 (((route_1.map aO).length : Nat) : Int) = AV.int .i64 ((route_1.length : Nat) : Int)] (mkS 21 [(0,.sl (route_1.map aO) none),(8,.bool (decide (((route_1.length : Nat) : Int) > 40)))]) (⟨[],[]⟩) (by kernel_rfl) ⟨lenM _ _,trivial⟩ rfl ?_
 rcases aU h with ⟨hc_2,h⟩ | ⟨hc_2,h⟩
 ·refine Ex.condT _ rfl hc_2 ?_
  refine Ex.seq (rg 1 [2] (mkS 21 [(2,i6 5)]) ⟨[],[]⟩ ?_)
  refine Ex.ret ?_
  obtain rfl:=sJ h
  exact rt (i6 5)
 ·refine Ex.condF _ rfl hc_2 ?_
  refine Ex.skip ?_
  refine Ex.seq (Ex.seq ?_)
  refine regH 3 [(1,.eq (i6 ((route_1.length : Nat) : Int)))] [9,10,11] [AV.int .i64 (((route_1.map aO).length : Nat) : Int) = AV.int .i64 ((route_1.length : Nat) : Int)] (mkS 21 [(9,.sl (route_1.map aO) none),(10,i6 ((route_1.length : Nat) : Int)),(11,i6 0)]) (⟨[],[]⟩) (by kernel_rfl) ⟨lenM _ _,trivial⟩ rfl ?_
  obtain ⟨K_4,hK_5,h⟩:=letE h
  refine Ex.blockJ (fun a S => K_4 () = some r ∧ a = mkS 21 [] ∧ S = ⟨[],[]⟩) ?_ ?_
  ·obtain ⟨B_8,hB_9,h⟩:=fW h
   refine Ex.loopF (fun k a S => ∃ (y_6 : Int),loop1 B_8 k y_6 = some r ∧ a = mkS 21 [(9,.sl (route_1.map aO) none),(10,i6 ((route_1.length : Nat) : Int)),(11,i6 y_6)] ∧ S = ⟨[],[]⟩) N ⟨_,_,aL.refl _ _ _,0,h,rfl,rfl⟩ ?_
   rintro k a S ⟨y_6,h,rfl,rfl⟩
   cases k with
   | zero => exact (fU h).elim
   | succ k =>
    replace h:=fV h hB_9
    refine Ex.seq (rg 1 [9,10,11,12] (mkS 21 [(9,.sl (route_1.map aO) none),(10,i6 ((route_1.length : Nat) : Int)),(11,i6 y_6),(12,.bool (decide (y_6 < ((route_1.length : Nat) : Int))))]) ⟨[],[]⟩ ?_)
    refine Ex.seq ?_
    rcases aU h with ⟨hc_10,h⟩ | ⟨hc_10,h⟩
    ·refine Ex.condT _ rfl hc_10 ?_
     refine Ex.skip ?_
     refine Ex.seq ?_
     refine Ex.blockK ?_
     refine Ex.seq ?_
     obtain ⟨x_11,hx_11,h⟩:=bE h
     refine regH 4 [(0,.rop (bJ x_11))] [4,9,10,11] [LGet (route_1.map aO) y_6 3 (bJ x_11)] (mkS 21 [(4,.ptr 0 0),(9,.sl (route_1.map aO) none),(10,i6 ((route_1.length : Nat) : Int)),(11,i6 y_6)]) (⟨[(bJ x_11)],[]⟩) (by kernel_rfl) ⟨LGet.of hx_11 rfl,trivial⟩ rfl ?_
     refine Ex.seq ?_
     obtain ⟨r_12,hr_12,h⟩:=bE h
     refine Ex.reg (rn 1 [9,10,11,15] (mkS 21 [(9,.sl (route_1.map aO) none),(10,i6 ((route_1.length : Nat) : Int)),(11,i6 y_6),(15,(aO x_11))]) ⟨[(bJ x_11)],[]⟩ ?_)
     refine ExO.callL [] [(aO x_11)] rfl rfl (zV x_11) rfl rfl (zK N x_11 r_12 hr_12) (zR _ _ _ _) rfl ?_
     refine rn 1 [5,9,10,11] (mkS 21 [(5,i6 r_12),(9,.sl (route_1.map aO) none),(10,i6 ((route_1.length : Nat) : Int)),(11,i6 y_6)]) ⟨[(bJ x_11)],[]⟩ ?_
     refine ExO.nil ?_
     refine Ex.seq (rg 2 [5,9,10,11,18] (mkS 21 [(5,i6 r_12),(9,.sl (route_1.map aO) none),(10,i6 ((route_1.length : Nat) : Int)),(11,i6 y_6),(18,.bool (r_12 != 0))]) ⟨[(bJ x_11)],[]⟩ ?_)
     rcases aU h with ⟨hc_13,h⟩ | ⟨hc_13,h⟩
     ·refine Ex.condT _ rfl hc_13 ?_
      refine Ex.seq (rg 2 [2] (mkS 21 [(2,i6 r_12)]) ⟨[(bJ x_11)],[]⟩ ?_)
      refine Ex.ret ?_
      obtain rfl:=sJ h
      exact rt (i6 r_12)
     ·refine Ex.condF _ rfl hc_13 ?_
      refine Ex.skip ?_
      refine rg 2 [9,10,11] (mkS 21 [(9,.sl (route_1.map aO) none),(10,i6 ((route_1.length : Nat) : Int)),(11,i6 (IntKind.i64.wrap (y_6 + 1)))]) ⟨[(bJ x_11)],[]⟩ ?_
      dsimp only
      exact ⟨_,_,bU (m:=21) 0 [] [(9,.sl (route_1.map aO) none),(10,i6 ((route_1.length : Nat) : Int)),(11,i6 (IntKind.i64.wrap (y_6 + 1)))] [] [] (by simp [bH]) (by simp) ⟨(reN (jR _)),rfl,rfl,trivial⟩ (by simp) rfl (by decide),k,Nat.lt_succ_self k,(IntKind.i64.wrap (y_6 + 1)),h,rfl,rfl⟩
    ·refine Ex.condF _ rfl hc_10 ?_
     refine Ex.exit ?_
     (try simp only [reduceCtorEq,AEx.ex.injEq,Nat.reduceEqDiff,if_true,if_false])
     exact ⟨_,_,bS [],h,rfl,rfl⟩
  ·rintro a S ⟨h,rfl,rfl⟩
   subst hK_5
   refine Ex.seq (rg 1 [2] (mkS 21 [(2,i6 0)]) ⟨[],[]⟩ ?_)
   refine Ex.ret ?_
   obtain rfl:=sJ h
   exact rt (i6 0)
structure lC where
 Lo : Int
 Hi : Int
 deriving Inhabited
def oG (x : lC) : List AV:=[i6 x.Lo,i6 x.Hi]
attribute [local simp] oG
def pZ (x : lC) : AV:=.agg (oG x)
attribute [local simp] pZ
theorem aGj (x : lC) : bB (oG x) = true:=by simp
theorem aGm (x : lC) : (pZ x).clean = true:=aGj x
theorem rY (l : List lC) : bB (l.map pZ) = true:=eA aGm l
attribute [local simp] rY
theorem aDU (x : lC) (n : Nat) (σ : List Nat) : (oG x).mapM (re n σ) = some (oG x):=by simp
structure cI where
 At : Int
 Kilos : lC
 Top : lC
 Kind : Int
 Watts : Int
 deriving Inhabited
def oH (x : cI) : List AV:=[i6 x.At,i6 x.Kilos.Lo,i6 x.Kilos.Hi,i6 x.Top.Lo,i6 x.Top.Hi,i6 x.Kind,i6 x.Watts]
attribute [local simp] oH
def bG (x : cI) : AV:=.agg (oH x)
attribute [local simp] bG
theorem aGl (x : cI) : bB (oH x) = true:=by simp
theorem aGo (x : cI) : (bG x).clean = true:=aGl x
theorem kS (l : List cI) : bB (l.map bG) = true:=eA aGo l
attribute [local simp] kS
theorem aDV (x : cI) (n : Nat) (σ : List Nat) : (oH x).mapM (re n σ) = some (oH x):=by simp
structure cE where
 Length : Int
 Width : Int
 Front : Int
 Rear : Int
 Turn : Int
 Kilos : Int
 Middle : Int
 High : Int
 Loads : (List cI)
 deriving Inhabited
def dG (x : cE) : List AV:=[i6 x.Length,i6 x.Width,i6 x.Front,i6 x.Rear,i6 x.Turn,i6 x.Kilos,i6 x.Middle,i6 x.High,.sl (x.Loads.map bG) none]
attribute [local simp] dG
def bC (x : cE) : AV:=.agg (dG x)
attribute [local simp] bC
theorem aFo (x : cE) : bB (dG x) = true:=by simp
theorem aFq (x : cE) : (bC x).clean = true:=aFo x
theorem kT (l : List cE) : bB (l.map bC) = true:=eA aFq l
attribute [local simp] kT
theorem aCF (x : cE) (n : Nat) (σ : List Nat) : (dG x).mapM (re n σ) = some (dG x):=by simp
def pJ (N : Nat)  : Option ((List cE)):=some ([(⟨100,30,20,80,50,100,50,40,[]⟩ : cE),(⟨100,30,20,80,50,400,50,40,[]⟩ : cE)])
def mL (r : (List cE)) : AV:=.sl (r.map bC) none
attribute [local simp] mL
theorem aBx  : [].mapM (ren []) = some []:=by simp
theorem aBo (r : (List cE)) (n n2 m : Nat) : back n n2 m (mL r) = some (mL r):=by simp
theorem aBb (N : Nat)  (r : (List cE)) (h : pJ N  = some r) : Does Tryz.prog 53 [] [] fun v c => v = mL r ∧ c = []:=by
 unfold pJ at h
 refine Does.ofL comp53 _ _ rfl rfl ?_
 refine Ex.seq (rg 1 [] (mkS 9 []) ⟨[],[]⟩ ?_)
 refine Ex.seq (rg 3 [1] (mkS 9 [(1,.ptr 0 0)]) ⟨[[i6 100,i6 30,i6 20,i6 80,i6 50,i6 100,i6 50,i6 40,.nils]],[]⟩ ?_)
 refine Ex.seq (rg 3 [1,2] (mkS 9 [(1,.ptr 0 0),(2,.ptr 1 0)]) ⟨[[i6 100,i6 30,i6 20,i6 80,i6 50,i6 100,i6 50,i6 40,.nils],[i6 100,i6 30,i6 20,i6 80,i6 50,i6 100,i6 50,i6 40,.nils]],[]⟩ ?_)
 refine Ex.seq (rg 2 [1,2] (mkS 9 [(1,.ptr 0 0),(2,.ptr 1 0)]) ⟨[[i6 100,i6 30,i6 20,i6 80,i6 50,i6 100,i6 50,i6 40,.nils],[i6 100,i6 30,i6 20,i6 80,i6 50,i6 400,i6 50,i6 40,.nils]],[]⟩ ?_)
 refine Ex.seq ?_
 refine Ex.postF ?_
 refine rg 4 [0] (mkS 9 [(0,.sl [.agg [i6 100,i6 30,i6 20,i6 80,i6 50,i6 100,i6 50,i6 40,.nils],.agg [i6 100,i6 30,i6 20,i6 80,i6 50,i6 400,i6 50,i6 40,.nils]] (some 0))]) ⟨[[i6 100,i6 30,i6 20,i6 80,i6 50,i6 100,i6 50,i6 40,.nils],[i6 100,i6 30,i6 20,i6 80,i6 50,i6 400,i6 50,i6 40,.nils]],[(2,9)]⟩ ?_
 refine ⟨mkS 9 [(0,.sl (([(⟨100,30,20,80,50,100,50,40,[]⟩ : cE),(⟨100,30,20,80,50,400,50,40,[]⟩ : cE)] : List cE).map bC) (some 0))],⟨[[i6 100,i6 30,i6 20,i6 80,i6 50,i6 100,i6 50,i6 40,.nils],[i6 100,i6 30,i6 20,i6 80,i6 50,i6 400,i6 50,i6 40,.nils]],[(2,9)]⟩,aL.castR (by kernel_rfl) rfl (aGy 0 [.agg [i6 100,i6 30,i6 20,i6 80,i6 50,i6 100,i6 50,i6 40,.nils],.agg [i6 100,i6 30,i6 20,i6 80,i6 50,i6 400,i6 50,i6 40,.nils]] (some 0) rfl),?_⟩
 refine Ex.ret ?_
 obtain rfl:=sJ h
 exact rt (.sl (([(⟨100,30,20,80,50,100,50,40,[]⟩ : cE),(⟨100,30,20,80,50,400,50,40,[]⟩ : cE)] : List cE).map bC) (some 0))
def kY (N : Nat) (low_1 : Int) (high_2 : Int) : Option (lC):=some (⟨low_1,high_2⟩ : lC)
def pB (r : lC) : AV:=(pZ r)
attribute [local simp] pB
theorem pX (low_1 : Int) (high_2 : Int) : [i6 low_1,i6 high_2].mapM (ren []) = some [i6 low_1,i6 high_2]:=by simp
theorem pV (r : lC) (n n2 m : Nat) : back n n2 m (pB r) = some (pB r):=by simp
theorem pS (N : Nat) (low_1 : Int) (high_2 : Int) (r : lC) (h : kY N low_1 high_2 = some r) : Does Tryz.prog 80 [i6 low_1,i6 high_2] [] fun v c => v = pB r ∧ c = []:=by
 unfold kY at h
 refine Does.ofL comp80 _ _ rfl rfl ?_
 refine Ex.seq (rg 1 [0,1,4] (mkS 8 [(0,i6 low_1),(1,i6 high_2),(4,.ptr 0 0)]) ⟨[[i6 0,i6 0]],[]⟩ ?_)
 refine Ex.seq (rg 4 [4] (mkS 8 [(4,.ptr 0 0)]) ⟨[[i6 low_1,i6 high_2]],[]⟩ ?_)
 refine Ex.ret ?_
 obtain rfl:=sJ h
 exact rt (.agg [i6 low_1,i6 high_2])
def oC (N : Nat)  : Option ((List (List cI))):=((kY N 10 20).bind fun r_1 => ((kY N 50 60).bind fun r_2 => ((kY N 200 300).bind fun r_3 => ((kY N 30 30).bind fun r_4 => some ([[(⟨30,r_1,r_2,1,0⟩ : cI)],[(⟨70,r_3,r_4,1,0⟩ : cI)]])))))
def lI (r : (List (List cI))) : AV:=.sl (r.map (SV bG)) none
attribute [local simp] lI
theorem zX  : [].mapM (ren []) = some []:=by simp
theorem zT (r : (List (List cI))) (n n2 m : Nat) : back n n2 m (lI r) = some (lI r):=by simp
theorem zM (N : Nat)  (r : (List (List cI))) (h : oC N  = some r) : Does Tryz.prog 54 [] [] fun v c => v = lI r ∧ c = []:=by
 unfold oC at h
 refine Does.ofL comp54 _ _ rfl rfl ?_
 refine Ex.seq (rg 1 [] (mkS 10 []) ⟨[],[]⟩ ?_)
 refine Ex.seq ?_
 refine Ex.postF ?_
 obtain ⟨r_1,hr_1,h⟩:=bE h
 refine Ex.reg ?_
 refine ExO.callL [] [i6 10,i6 20] rfl rfl (pX 10 20) rfl rfl (pS N 10 20 r_1 hr_1) (pV _ _ _ _) rfl ?_
 obtain ⟨r_2,hr_2,h⟩:=bE h
 refine ExO.callL [] [i6 50,i6 60] rfl rfl (pX 50 60) rfl rfl (pS N 50 60 r_2 hr_2) (pV _ _ _ _) rfl ?_
 obtain ⟨r_3,hr_3,h⟩:=bE h
 refine rn 2 [4] (mkS 10 [(4,.sl (([(⟨30,r_1,r_2,1,0⟩ : cI)] : List cI).map bG) (some 0))]) ⟨[],[(1,7)]⟩ ?_
 refine ExO.callL [] [i6 200,i6 300] rfl rfl (pX 200 300) rfl rfl (pS N 200 300 r_3 hr_3) (pV _ _ _ _) rfl ?_
 obtain ⟨r_4,hr_4,h⟩:=bE h
 refine ExO.callL [] [i6 30,i6 30] rfl rfl (pX 30 30) rfl rfl (pS N 30 30 r_4 hr_4) (pV _ _ _ _) rfl ?_
 refine rn 4 [0] (mkS 10 [(0,.sl [.sl (([(⟨30,r_1,r_2,1,0⟩ : cI)] : List cI).map bG) (some 0),.sl (([(⟨70,r_3,r_4,1,0⟩ : cI)] : List cI).map bG) (some 1)] (some 2))]) ⟨[],[(1,7),(1,7),(2,1)]⟩ ?_
 refine ExO.nil ?_
 refine ⟨mkS 10 [(0,.sl (([[(⟨30,r_1,r_2,1,0⟩ : cI)],[(⟨70,r_3,r_4,1,0⟩ : cI)]] : List (List cI)).map (SV bG)) (some 2))],⟨[],[(1,7),(1,7),(2,1)]⟩,aL.castR (by kernel_rfl) rfl (aGy 0 [.sl (([(⟨30,r_1,r_2,1,0⟩ : cI)] : List cI).map bG) (some 0),.sl (([(⟨70,r_3,r_4,1,0⟩ : cI)] : List cI).map bG) (some 1)] (some 2) rfl),?_⟩
 refine Ex.ret ?_
 obtain rfl:=sJ h
 exact rt (.sl (([[(⟨30,r_1,r_2,1,0⟩ : cI)],[(⟨70,r_3,r_4,1,0⟩ : cI)]] : List (List cI)).map (SV bG)) (some 2))
def pK (N : Nat)  : Option ((List bN)):=some ([(⟨3,450,400⟩ : bN)])
def mM (r : (List bN)) : AV:=.sl (r.map aO) none
attribute [local simp] mM
theorem aBy  : [].mapM (ren []) = some []:=by simp
theorem aBp (r : (List bN)) (n n2 m : Nat) : back n n2 m (mM r) = some (mM r):=by simp
theorem aBc (N : Nat)  (r : (List bN)) (h : pK N  = some r) : Does Tryz.prog 55 [] [] fun v c => v = mM r ∧ c = []:=by
 unfold pK at h
 refine Does.ofL comp55 _ _ rfl rfl ?_
 refine Ex.seq (rg 1 [] (mkS 3 []) ⟨[],[]⟩ ?_)
 refine Ex.seq (rg 3 [0] (mkS 3 [(0,.sl (([(⟨3,450,400⟩ : bN)] : List bN).map aO) (some 0))]) ⟨[],[(1,3)]⟩ ?_)
 refine Ex.ret ?_
 obtain rfl:=sJ h
 exact rt (.sl (([(⟨3,450,400⟩ : bN)] : List bN).map aO) (some 0))
end
section
open Go.RowKit
set_option maxRecDepth 100000
def entS : List (aDW Tryz.prog):=[⟨13,F13,comp13⟩,⟨41,F41,comp41⟩,⟨44,F44,comp44⟩,⟨45,F45,comp45⟩,⟨46,F46,comp46⟩,⟨74,F74,comp74⟩,⟨75,F75,comp75⟩,⟨76,F76,comp76⟩,⟨77,F77,comp77⟩,⟨78,F78,comp78⟩,⟨100,F100,comp100⟩,⟨101,F101,comp101⟩,⟨102,F102,comp102⟩,⟨103,F103,comp103⟩,⟨104,F104,comp104⟩,⟨105,F105,comp105⟩,⟨106,F106,comp106⟩,⟨107,F107,comp107⟩,⟨124,F124,comp124⟩,⟨125,F125,comp125⟩,⟨126,F126,comp126⟩,⟨127,F127,comp127⟩,⟨128,F128,comp128⟩,⟨131,F131,comp131⟩,⟨132,F132,comp132⟩,⟨133,F133,comp133⟩,⟨135,F135,comp135⟩,⟨136,F136,comp136⟩,⟨137,F137,comp137⟩,⟨141,F141,comp141⟩,⟨142,F142,comp142⟩,⟨143,F143,comp143⟩]
noncomputable def XS : Clr:=clrN (aBG entS) (fun _ => false) aBK 300 14
theorem aHJ : fA Tryz.prog XS:=aDP (cD _) (aBF entS) 300 14
def brS : List bN:=[⟨3,450,400⟩]
def flS (k : Int) (l : List cI) : cE:=⟨100,30,20,80,50,k,50,40,l⟩
def ldA : List cI:=[⟨30,⟨10,20⟩,⟨50,60⟩,1,0⟩]
def ldB : List cI:=[⟨70,⟨200,300⟩,⟨30,30⟩,1,0⟩]
theorem aHz : evFn XS 300 F44 [bC (flS 100 ldA),.sl (brS.map aO) none] [] = some (.bool true,[]):=by kernel_rfl
theorem aHy : evFn XS 300 F44 [bC (flS 100 ldB),.sl (brS.map aO) none] [] = some (.bool true,[]):=by kernel_rfl
theorem aHx : evFn XS 300 F44 [bC (flS 400 ldA),.sl (brS.map aO) none] [] = some (.bool true,[]):=by kernel_rfl
theorem aHw : evFn XS 300 F44 [bC (flS 400 ldB),.sl (brS.map aO) none] [] = some (.bool false,[]):=by kernel_rfl
def knS : List (List AV × Bool):=[([bC (flS 100 ldA),.sl (brS.map aO) none],true),([bC (flS 100 ldB),.sl (brS.map aO) none],true),([bC (flS 400 ldA),.sl (brS.map aO) none],true),([bC (flS 400 ldB),.sl (brS.map aO) none],false)]
def aDF : List (List AV × Bool) → List AV → Option Bool
 | [],_ => none
 | e :: l,x => bif beqL e.1 x then some e.2 else aDF l x
theorem aAj : ∀ (l : List (List AV × Bool)) (x : List AV) (r : Bool),aDF l x = some r → (x,r) ∈ l
 | [],_,_,h => by cases h
 | e :: l,x,r,h => by
  simp only [aDF] at h
  cases hc : beqL e.1 x with
  | true =>
   rw [hc,cond_true] at h
   cases h
   rw [← kM _ _ hc]
   exact List.mem_cons_self ..
  | false =>
   rw [hc,cond_false] at h
   exact List.mem_cons_of_mem _ (aAj l x r h)
theorem aGY : ∀ e ∈ knS,Does Tryz.prog 44 e.1 [] fun v c => v = .bool e.2 ∧ c = []:=by
 intro e he
 have key : ∀ {xs : List AV} {b : Bool},evFn XS 300 F44 xs [] = some (.bool b,[]) → Does Tryz.prog 44 xs [] fun v c => v = .bool b ∧ c = []:=fun h => sX.does ⟨_,_,aAR aHJ comp44 h,rfl,rfl⟩
 simp only [knS,List.mem_cons,List.not_mem_nil,or_false] at he
 rcases he with rfl | rfl | rfl | rfl
 ·exact key aHz
 ·exact key aHy
 ·exact key aHx
 ·exact key aHw
def lZ (N : Nat) (f_1 : cE) (route_2 : (List bN)) : Option (Bool):=aDF knS [bC f_1,.sl (route_2.map aO) none]
def fZ (r : Bool) : AV:=.bool r
attribute [local simp] fZ
theorem sK (f_1 : cE) (route_2 : (List bN)) : [(bC f_1),.sl (route_2.map aO) none].mapM (ren []) = some [(bC f_1),.sl (route_2.map aO) none]:=by simp [ren,ren1,AV.plain,AV.plain1,AV.clean,bB,bC,dG,kS,jR]
theorem sE (r : Bool) (n n2 m : Nat) : back n n2 m (fZ r) = some (fZ r):=by simp [back,back1,AV.clean,AV.plain,AV.plain1]
theorem rZ (N : Nat) (f_1 : cE) (route_2 : (List bN)) (r : Bool) (h : lZ N f_1 route_2 = some r) : Does Tryz.prog 44 [(bC f_1),.sl (route_2.map aO) none] [] fun v c => v = fZ r ∧ c = [] :=
 aGY _ (aAj _ _ _ h)
end
section
open Go.RowKit
attribute [local simp] ren ren1 AV.plain AV.plain1 AV.clean bB fG dP fI eX cS cV eP fT cG cF dZ eO dC dB jR rY kS kT cN aK aN aX aJ aY aP aH aA aE bO bQ dW dF eN dX aI aB aM aC aO bJ pZ oG bG oH bC dG back back1 fadeS fadeV List.idxOf? List.findIdx? List.findIdx?.go re re1 nK oY zB uZ rK kU nY pY lL jF wH aDU aDV aCF
def gM (N : Nat) (s_1 : (List Int)) : Option ((List Int)):=lN ([] : List Int) s_1
def oZ (r : (List Int)) : AV:=.sl (r.map (AV.int .i64)) none
attribute [local simp] oZ
def gL (N : Nat) (s_1 : (List Int)) (v_2 : Int) : Option (Int):=(letJ (fun (_ : Unit) => some (-1)) (fun k_3 => (loop1 (fun rec_7 (y_6 : Int) => (bif (decide (y_6 < ((s_1.length : Nat) : Int))) then ((getI s_1 y_6).bind fun x_11 => (bif (v_2 == x_11) then some y_6 else (rec_7 (IntKind.i64.wrap (y_6 + 1))))) else (k_3 ()))) N 0)))
def eT (r : Int) : AV:=i6 r
attribute [local simp] eT
theorem pW (s_1 : (List Int)) (v_2 : Int) : [.sl (s_1.map (AV.int .i64)) none,i6 v_2].mapM (ren []) = some [.sl (s_1.map (AV.int .i64)) none,i6 v_2]:=by simp
theorem pT (r : Int) (n n2 m : Nat) : back n n2 m (eT r) = some (eT r):=by simp
theorem pQ (N : Nat) (s_1 : (List Int)) (v_2 : Int) (r : Int) (h : gL N s_1 v_2 = some r) : Does Tryz.prog 108 [.sl (s_1.map (AV.int .i64)) none,i6 v_2] [] fun v c => v = eT r ∧ c = []:=by
 unfold gL at h
 refine Does.ofL comp108 _ _ rfl rfl ?_
 refine Ex.seq (rg 1 [0,1] (mkS 19 [(0,.sl (s_1.map (AV.int .i64)) none),(1,i6 v_2)]) ⟨[],[]⟩ ?_)
 refine Ex.seq (Ex.seq ?_)
 refine regH 3 [(1,.eq (i6 ((s_1.length : Nat) : Int)))] [0,1,7,8] [AV.int .i64 (((s_1.map (AV.int .i64)).length : Nat) : Int) = AV.int .i64 ((s_1.length : Nat) : Int)] (mkS 19 [(0,.sl (s_1.map (AV.int .i64)) none),(1,i6 v_2),(7,i6 ((s_1.length : Nat) : Int)),(8,i6 0)]) (⟨[],[]⟩) (by kernel_rfl) ⟨lenM _ _,trivial⟩ rfl ?_
 obtain ⟨K_4,hK_5,h⟩:=letE h
 refine Ex.blockJ (fun a S => K_4 () = some r ∧ a = mkS 19 [] ∧ S = ⟨[],[]⟩) ?_ ?_
 ·obtain ⟨B_8,hB_9,h⟩:=fW h
  refine Ex.loopF (fun k a S => ∃ (y_6 : Int),loop1 B_8 k y_6 = some r ∧ a = mkS 19 [(0,.sl (s_1.map (AV.int .i64)) none),(1,i6 v_2),(7,i6 ((s_1.length : Nat) : Int)),(8,i6 y_6)] ∧ S = ⟨[],[]⟩) N ⟨_,_,aL.refl _ _ _,0,h,rfl,rfl⟩ ?_
  rintro k a S ⟨y_6,h,rfl,rfl⟩
  cases k with
  | zero => exact (fU h).elim
  | succ k =>
   replace h:=fV h hB_9
   refine Ex.seq (rg 1 [0,1,7,8,9] (mkS 19 [(0,.sl (s_1.map (AV.int .i64)) none),(1,i6 v_2),(7,i6 ((s_1.length : Nat) : Int)),(8,i6 y_6),(9,.bool (decide (y_6 < ((s_1.length : Nat) : Int))))]) ⟨[],[]⟩ ?_)
   refine Ex.seq ?_
   rcases aU h with ⟨hc_10,h⟩ | ⟨hc_10,h⟩
   ·refine Ex.condT _ rfl hc_10 ?_
    refine Ex.skip ?_
    refine Ex.seq ?_
    refine Ex.blockK ?_
    refine Ex.seq (rg 2 [0,1,5,7,8] (mkS 19 [(0,.sl (s_1.map (AV.int .i64)) none),(1,i6 v_2),(5,i6 y_6),(7,i6 ((s_1.length : Nat) : Int)),(8,i6 y_6)]) ⟨[],[]⟩ ?_)
    refine Ex.seq ?_
    obtain ⟨x_11,hx_11,h⟩:=bE h
    refine regH 6 [(3,.rop [i6 x_11])] [0,1,5,7,8,16] [LGet (s_1.map (AV.int .i64)) y_6 1 [i6 x_11]] (mkS 19 [(0,.sl (s_1.map (AV.int .i64)) none),(1,i6 v_2),(5,i6 y_6),(7,i6 ((s_1.length : Nat) : Int)),(8,i6 y_6),(16,.bool (v_2 == x_11))]) (⟨[],[]⟩) (by kernel_rfl) ⟨LGet.of hx_11 rfl,trivial⟩ rfl ?_
    rcases aU h with ⟨hc_12,h⟩ | ⟨hc_12,h⟩
    ·refine Ex.condT _ rfl hc_12 ?_
     refine Ex.seq (rg 2 [4] (mkS 19 [(4,i6 y_6)]) ⟨[],[]⟩ ?_)
     refine Ex.ret ?_
     obtain rfl:=sJ h
     exact rt (i6 y_6)
    ·refine Ex.condF _ rfl hc_12 ?_
     refine Ex.skip ?_
     refine rg 2 [0,1,7,8] (mkS 19 [(0,.sl (s_1.map (AV.int .i64)) none),(1,i6 v_2),(7,i6 ((s_1.length : Nat) : Int)),(8,i6 (IntKind.i64.wrap (y_6 + 1)))]) ⟨[],[]⟩ ?_
     dsimp only
     exact ⟨_,_,aL.refl _ _ _,k,Nat.lt_succ_self k,(IntKind.i64.wrap (y_6 + 1)),h,rfl,rfl⟩
   ·refine Ex.condF _ rfl hc_10 ?_
    refine Ex.exit ?_
    (try simp only [reduceCtorEq,AEx.ex.injEq,Nat.reduceEqDiff,if_true,if_false])
    exact ⟨_,_,bS [],h,rfl,rfl⟩
 ·rintro a S ⟨h,rfl,rfl⟩
  subst hK_5
  refine Ex.seq (rg 1 [4] (mkS 19 [(4,i6 (-1))]) ⟨[],[]⟩ ?_)
  refine Ex.ret ?_
  obtain rfl:=sJ h
  exact rt (i6 (-1))
def fJ (N : Nat) (s_1 : (List Int)) (v_2 : Int) : Option (Bool):=((gL N s_1 v_2).bind fun r_3 => some (decide (r_3 ≥ 0)))
def iQ (r : Bool) : AV:=.bool r
attribute [local simp] iQ
theorem nL (N : Nat) (s_1 : (List Int)) (v_2 : Int) (r : Bool) (h : fJ N s_1 v_2 = some r) : Does Tryz.prog 83 [.sl (s_1.map (AV.int .i64)) none,i6 v_2] [] fun v c => v = iQ r ∧ c = []:=by
 unfold fJ at h
 refine Does.ofL comp83 _ _ rfl rfl ?_
 refine Ex.seq (rg 1 [0,1] (mkS 9 [(0,.sl (s_1.map (AV.int .i64)) none),(1,i6 v_2)]) ⟨[],[]⟩ ?_)
 refine Ex.seq ?_
 obtain ⟨r_3,hr_3,h⟩:=bE h
 refine Ex.reg (rn 2 [5,6] (mkS 9 [(5,.sl (s_1.map (AV.int .i64)) none),(6,i6 v_2)]) ⟨[],[]⟩ ?_)
 refine ExO.callL [] [.sl (s_1.map (AV.int .i64)) none,i6 v_2] rfl rfl (pW s_1 v_2) rfl rfl (pQ N s_1 v_2 r_3 hr_3) (pT _ _ _ _) rfl ?_
 refine rn 2 [4] (mkS 9 [(4,.bool (decide (r_3 ≥ 0)))]) ⟨[],[]⟩ ?_
 refine ExO.nil ?_
 refine Ex.ret ?_
 obtain rfl:=sJ h
 exact rt (.bool (decide (r_3 ≥ 0)))
theorem pE (N : Nat) (s_1 : (List Int)) (r : (List Int)) (h : gM N s_1 = some r) : wU Tryz.prog ⟨82,[.sl (s_1.map (AV.int .i64)) none],r.map (AV.int .i64),r.length,1⟩:=by
 refine ⟨?_,(fG _ _),by simp⟩
 unfold gM at h
 refine aAB.of comp82 ?_
 refine Ex.seq (rg 1 [0] (mkS 8 [(0,.sl (s_1.map (AV.int .i64)) none)]) ⟨[],[]⟩ ?_)
 refine Ex.seq (Ex.seq ?_)
 refine Ex.reg (rn 1 [0,3] (mkS 8 [(0,.sl (s_1.map (AV.int .i64)) none),(3,.sl (s_1.map (AV.int .i64)) none)]) ⟨[],[]⟩ ?_)
 refine ExO.isNil false (.tmp 3) (s_1.map (AV.int .i64)) rfl rfl rfl (fun b hb => ?_)
 refine rn 0 [0,4] (mkS 8 [(0,.sl (s_1.map (AV.int .i64)) none),(4,.bool (b != false))]) ⟨[],[]⟩ ?_
 refine ExO.nil ?_
 cases b
 ·refine Ex.condF (false != false) rfl rfl ?_
  refine Ex.skip ?_
  refine Ex.seq ?_
  refine regH 4 [(2,.apps (s_1.map (AV.int .i64)) (r.map (AV.int .i64)) r.length)] [2] [uY 0 (([] : List Int).map (AV.int .i64)) (s_1.map (AV.int .i64)) (s_1.map (AV.int .i64)) 1 (r.map (AV.int .i64)) r.length] (mkS 8 [(2,.sl (r.map (AV.int .i64)) (some 0))]) (⟨[],[(r.length,1)]⟩) (by kernel_rfl) ⟨uY.of h (fun _ => rfl) (fun _ => rfl) (fun _ => rfl),trivial⟩ rfl ?_
  refine Ex.ret ?_
  exact ⟨.inr rfl,.sl (r.map (AV.int .i64)) (some 0),by kernel_rfl,0,rfl,rfl⟩
 ·have hl : s_1 = []:=List.map_eq_nil_iff.1 (hb rfl)
  subst hl
  have hr : r = []:=by simpa [lN] using h.symm
  subst hr
  refine Ex.condT (true != false) rfl rfl ?_
  refine Ex.seq (rg 1 [2] (mkS 8 [(2,.nils)]) ⟨[],[]⟩ ?_)
  refine Ex.forget (nilK 2 1 rfl) ?_
  refine Ex.ret ?_
  exact ⟨.inr rfl,.sl [] (some 0),by kernel_rfl,0,rfl,rfl⟩
def kX (N : Nat) (table_1 : (List (List Bool))) (designs_2 : Int) : Option ((List Int)):=((mkI designs_2).bind fun k_3 => (letJ (fun (b_17 : List Int) (b_18 : Int) (w_19 : List Int) => some b_17) (fun k_83 => ((loop5 (ρ:=((List Int) × Int × (List Int))) (fun rec_20 (design_12 : Int) (given_13 : Int) (b_14 : List Int) (b_15 : Int) (w_16 : List Int) => (bif (design_12 == designs_2) then (bif (decide (given_13 > b_15)) then (((lenI w_16 k_3).bind fun (_ : Unit) => (gM N w_16)).bind fun r_30 => some (r_30,given_13,w_16)) else some (b_14,b_15,w_16)) else (letJ (fun (b_31 : List Int) (b_32 : Int) (w_33 : List Int) => ((idxI design_12 k_3).bind fun u_72 => ((setI w_33 design_12 (fun (y_73 : Int) => (-1))).bind fun z_74 => (letJ (fun (b_77 : List Int) (b_78 : Int) (w_79 : List Int) => some (b_77,b_78,w_79)) (fun k_80 => ((rec_20 (IntKind.i64.wrap (design_12 + 1)) given_13 b_31 b_32 z_74).bind fun s_75 => ((fun t => k_80 t.1 t.2.1 t.2.2) s_75))))))) (fun k_34 => (loop4 (fun rec_41 (y_37 : Int) (b_38 : List Int) (b_39 : Int) (w_40 : List Int) => (bif (decide (y_37 < ((table_1.length : Nat) : Int))) then (letJ (fun (b_45 : List Int) (b_46 : Int) (w_47 : List Int) => (rec_41 (IntKind.i64.wrap (y_37 + 1)) b_45 b_46 w_47)) (fun k_48 => ((getI table_1 y_37).bind fun x_51 => (letJ (fun (y_52 : Bool) => (bif y_52 then ((idxI design_12 k_3).bind fun u_61 => ((setI w_40 design_12 (fun (y_62 : Int) => y_37)).bind fun z_63 => (letJ (fun (b_66 : List Int) (b_67 : Int) (w_68 : List Int) => (k_48 b_66 b_67 w_68)) (fun k_69 => ((rec_20 (IntKind.i64.wrap (design_12 + 1)) (IntKind.i64.wrap (given_13 + 1)) b_38 b_39 z_63).bind fun s_64 => ((fun t => k_69 t.1 t.2.1 t.2.2) s_64)))))) else (k_48 b_38 b_39 w_40))) (fun k_53 => ((getI x_51 design_12).bind fun x_56 => (bif x_56 then ((cutL w_40 k_3 design_12).bind fun l_58 => ((fJ N l_58 y_37).bind fun r_59 => (k_53 (!r_59)))) else (k_53 false)))))))) else (k_34 b_38 b_39 w_40))) N 0 b_14 b_15 w_16))))) N 0 0 [] (-1) (List.replicate k_3 0)).bind fun s_26 => ((fun t => k_83 t.1 t.2.1 t.2.2) s_26)))))
def iH (r : (List Int)) : AV:=.sl (r.map (AV.int .i64)) none
attribute [local simp] iH
theorem wG (table_1 : (List (List Bool))) (designs_2 : Int) : [.sl (table_1.map (SV AV.bool)) none,i6 designs_2].mapM (ren []) = some [.sl (table_1.map (SV AV.bool)) none,i6 designs_2]:=by simp
theorem vY (r : (List Int)) (n n2 m : Nat) : back n n2 m (iH r) = some (iH r):=by simp
theorem vQ (N : Nat) (table_1 : (List (List Bool))) (designs_2 : Int) (r : (List Int)) (h : kX N table_1 designs_2 = some r) : Does Tryz.prog 59 [.sl (table_1.map (SV AV.bool)) none,i6 designs_2] [] fun v c => v = iH r ∧ c = []:=by
 unfold kX at h
 refine Does.ofL comp59 _ _ rfl rfl ?_
 refine Ex.seq (rg 3 [2,3] (mkS 15 [(2,.ptr 0 0),(3,.ptr 1 0)]) ⟨[[.sl (table_1.map (SV AV.bool)) none],[i6 designs_2]],[]⟩ ?_)
 refine Ex.seq (rg 1 [2,3,5] (mkS 15 [(2,.ptr 0 0),(3,.ptr 1 0),(5,.ptr 2 0)]) ⟨[[.sl (table_1.map (SV AV.bool)) none],[i6 designs_2],[.nils]],[]⟩ ?_)
 refine Ex.seq (rg 2 [2,3,5,6] (mkS 15 [(2,.ptr 0 0),(3,.ptr 1 0),(5,.ptr 2 0),(6,.ptr 3 0)]) ⟨[[.sl (table_1.map (SV AV.bool)) none],[i6 designs_2],[.nils],[i6 (-1)]],[]⟩ ?_)
 refine Ex.seq ?_
 obtain ⟨k_3,hk_3,h⟩:=bE h
 refine regH 4 [(1,.mk (flat ((List.replicate k_3 0).map (AV.int .i64))) k_3)] [2,3,5,6,7] [designs_2 = ((k_3 : Nat) : Int) ∧ k_3 ≤ 65536 ∧ rep [i6 0] k_3 = (flat ((List.replicate k_3 0).map (AV.int .i64)))] (mkS 15 [(2,.ptr 0 0),(3,.ptr 1 0),(5,.ptr 2 0),(6,.ptr 3 0),(7,.ptr 5 0)]) (⟨[[.sl (table_1.map (SV AV.bool)) none],[i6 designs_2],[.nils],[i6 (-1)],(flat ((List.replicate k_3 0).map (AV.int .i64))),[.ms 4 k_3 1]],[]⟩) (by kernel_rfl) ⟨aHC (f:=(AV.int .i64)) 0 rfl hk_3,trivial⟩ rfl ?_
 refine Ex.seq (rg 1 [2,3,5,6,7,8] (mkS 15 [(2,.ptr 0 0),(3,.ptr 1 0),(5,.ptr 2 0),(6,.ptr 3 0),(7,.ptr 5 0),(8,.ptr 6 0)]) ⟨[[.sl (table_1.map (SV AV.bool)) none],[i6 designs_2],[.nils],[i6 (-1)],(flat ((List.replicate k_3 0).map (AV.int .i64))),[.ms 4 k_3 1],[.nilf]],[]⟩ ?_)
 refine Ex.seq (rg 2 [5,8] (mkS 15 [(5,.ptr 2 0),(8,.ptr 6 0)]) ⟨[[.sl (table_1.map (SV AV.bool)) none],[i6 designs_2],[.nils],[i6 (-1)],(flat ((List.replicate k_3 0).map (AV.int .i64))),[.ms 4 k_3 1],[.fn 81 [] [.ptr 1 0,.ptr 3 0,.ptr 5 0,.ptr 2 0,.ptr 0 0,.ptr 6 0]]],[]⟩ ?_)
 refine Ex.seq ?_
 refine Ex.reg (rn 1 [5,12] (mkS 15 [(5,.ptr 2 0),(12,.fn 81 [] [.ptr 1 0,.ptr 3 0,.ptr 5 0,.ptr 2 0,.ptr 0 0,.ptr 6 0])]) ⟨[[.sl (table_1.map (SV AV.bool)) none],[i6 designs_2],[.nils],[i6 (-1)],(flat ((List.replicate k_3 0).map (AV.int .i64))),[.ms 4 k_3 1],[.fn 81 [] [.ptr 1 0,.ptr 3 0,.ptr 5 0,.ptr 2 0,.ptr 0 0,.ptr 6 0]]],[]⟩ ?_)
 refine ExO.forget (nilF 2 0 [.nils] rfl rfl) ?_
 refine ExO.castA (a2:=mkS 15 [(5,.ptr 2 0),(12,.fn 81 [] [.ptr 1 0,.ptr 3 0,.ptr 5 0,.ptr 2 0,.ptr 0 0,.ptr 6 0])]) (S2:=⟨[[.sl (table_1.map (SV AV.bool)) none],[i6 designs_2],[.sl (([] : List Int).map (AV.int .i64)) none],[i6 (-1)],(flat ((List.replicate k_3 0).map (AV.int .i64))),[.ms 4 k_3 1],[.fn 81 [] [.ptr 1 0,.ptr 3 0,.ptr 5 0,.ptr 2 0,.ptr 0 0,.ptr 6 0]]],[]⟩) (by kernel_rfl) (by kernel_rfl) ?_
 obtain ⟨K_84,hK_85,h⟩:=letE h
 obtain ⟨s_26,hs_27,h⟩:=bE h
 obtain ⟨B_21,hB_22,hs_27⟩:=aGS hs_27
 have hY_25 : ∀ (k : Nat) (design_12 : Int) (given_13 : Int) (b_14 : List Int) (b_15 : Int) (w_16 : List Int) (r : ((List Int) × Int × (List Int))),loop5 B_21 k design_12 given_13 b_14 b_15 w_16 = some r → ∀ (cx_8 : Cx),cx_8.n = 7 → cx_8.m = 0 → (∀ L' a' ps' x' y',LpOk Tryz.prog (Cx.nat 0) L' a' ps' x' y' → LpOk Tryz.prog cx_8 L' a' ps' x' y') → Ex cx_8 .plain Tryz.prog F81.code (mkS 59 [(0,i6 design_12),(1,i6 given_13),(2,.ptr 1 0),(3,.ptr 3 0),(4,.ptr 5 0),(5,.ptr 2 0),(6,.ptr 0 0),(7,.ptr 6 0),(8,.tup []),(9,.tup []),(10,.tup []),(11,.tup []),(12,.tup []),(13,.tup []),(14,.tup []),(15,.tup []),(16,.tup []),(17,.tup []),(18,.tup []),(19,.tup []),(20,.tup []),(21,.tup []),(22,.tup []),(23,.tup []),(24,.tup []),(25,.tup []),(26,.tup []),(27,.tup []),(28,.tup []),(29,.tup []),(30,.tup []),(31,.tup []),(32,.tup []),(33,.tup []),(34,.tup []),(35,.tup []),(36,.tup []),(37,.tup []),(38,.tup []),(39,.tup []),(40,.tup []),(41,.tup []),(42,.tup []),(43,.tup []),(44,.tup []),(45,.tup []),(46,.tup []),(47,.tup []),(48,.tup []),(49,.tup []),(50,.tup []),(51,.tup []),(52,.tup []),(53,.tup []),(54,.tup []),(55,.tup []),(56,.tup []),(57,.tup []),(58,.tup [])]) (⟨[[.sl (table_1.map (SV AV.bool)) none],[i6 designs_2],[.sl (b_14.map (AV.int .i64)) none],[i6 b_15],(flat (w_16.map (AV.int .i64))),[.ms 4 k_3 1],[.fn 81 [] [.ptr 1 0,.ptr 3 0,.ptr 5 0,.ptr 2 0,.ptr 0 0,.ptr 6 0]]],[]⟩) fun z a' S' => ∃ a2 S2,aL cx_8 a' S' a2 S2 ∧ (z = .norm ∨ z = .ret) ∧ ∃ v,iA a2 S2 F81.res = some v ∧ (fun v S => (∃ (b_17 : List Int),∃ (b_18 : Int),∃ (w_19 : List Int),(b_17,b_18,w_19) = r ∧ v = .tup [] ∧ S = ⟨[[.sl (table_1.map (SV AV.bool)) none],[i6 designs_2],[.sl (b_17.map (AV.int .i64)) none],[i6 b_18],(flat (w_19.map (AV.int .i64))),[.ms 4 k_3 1],[.fn 81 [] [.ptr 1 0,.ptr 3 0,.ptr 5 0,.ptr 2 0,.ptr 0 0,.ptr 6 0]]],[]⟩)) v S2:=by
  intro k_23
  induction k_23 with
  | zero => intro design_12 given_13 b_14 b_15 w_16 r h; exact (aGQ h).elim
  | succ k ih_24 =>
   intro design_12 given_13 b_14 b_15 w_16 r h cx_8 hcn_9 hcm_10 hup_11
   replace h:=aGR h hB_22
   refine Ex.seq (Ex.seq ?_)
   refine rg 3 [0,1,3,4,5,6,7,14] (mkS 59 [(0,i6 design_12),(1,i6 given_13),(3,.ptr 3 0),(4,.ptr 5 0),(5,.ptr 2 0),(6,.ptr 0 0),(7,.ptr 6 0),(14,.bool (design_12 == designs_2))]) ⟨[[.sl (table_1.map (SV AV.bool)) none],[i6 designs_2],[.sl (b_14.map (AV.int .i64)) none],[i6 b_15],(flat (w_16.map (AV.int .i64))),[.ms 4 k_3 1],[.fn 81 [] [.ptr 1 0,.ptr 3 0,.ptr 5 0,.ptr 2 0,.ptr 0 0,.ptr 6 0]]],[]⟩ ?_
   rcases aU h with ⟨hc_28,h⟩ | ⟨hc_28,h⟩
   ·refine Ex.condT _ rfl hc_28 ?_
    refine Ex.seq (Ex.seq ?_)
    refine rg 3 [1,3,4,5,17] (mkS 59 [(1,i6 given_13),(3,.ptr 3 0),(4,.ptr 5 0),(5,.ptr 2 0),(17,.bool (decide (given_13 > b_15)))]) ⟨[[.sl (table_1.map (SV AV.bool)) none],[i6 designs_2],[.sl (b_14.map (AV.int .i64)) none],[i6 b_15],(flat (w_16.map (AV.int .i64))),[.ms 4 k_3 1],[.fn 81 [] [.ptr 1 0,.ptr 3 0,.ptr 5 0,.ptr 2 0,.ptr 0 0,.ptr 6 0]]],[]⟩ ?_
    rcases aU h with ⟨hc_29,h⟩ | ⟨hc_29,h⟩
    ·refine Ex.condT _ rfl hc_29 ?_
     obtain ⟨r_30,hr_30,h⟩:=bE h
     refine Ex.reg (rn 1 [1,3,5,18] (mkS 59 [(1,i6 given_13),(3,.ptr 3 0),(5,.ptr 2 0),(18,.ms 4 k_3 1)]) ⟨[[.sl (table_1.map (SV AV.bool)) none],[i6 designs_2],[.sl (b_14.map (AV.int .i64)) none],[i6 b_15],(flat (w_16.map (AV.int .i64))),[.ms 4 k_3 1],[.fn 81 [] [.ptr 1 0,.ptr 3 0,.ptr 5 0,.ptr 2 0,.ptr 0 0,.ptr 6 0]]],[]⟩ ?_)
     refine ExO.callLendP (pE N w_16 r_30 (aGt hr_30).2) (aAp (f:=(AV.int .i64)) (fun _ => rfl) _) [(4,1,w_16.map (AV.int .i64),[])] [.ms 4 k_3 1] rfl rfl (by exact ⟨.s 0 rfl ((aGt hr_30).1.symm.trans (List.length_map ..).symm),trivial⟩) ⟨⟨(by show some _ = some _; rw [List.append_nil]),show 0 < 1 by decide,fun i e he => eL (f:=(AV.int .i64)) (s:=1) (fun _ => rfl) _ e (List.mem_of_getElem? he),(fX (f:=(AV.int .i64)) (fun _ => rfl) _),show 4 ∉ ([] : List Nat) by decide⟩,trivial⟩ ?_
     refine rn 3 [] (mkS 59 []) ⟨[[.sl (table_1.map (SV AV.bool)) none],[i6 designs_2],[.sl (r_30.map (AV.int .i64)) none],[i6 given_13],(flat (w_16.map (AV.int .i64))),[.ms 4 k_3 1],[.fn 81 [] [.ptr 1 0,.ptr 3 0,.ptr 5 0,.ptr 2 0,.ptr 0 0,.ptr 6 0]]],[]⟩ ?_
     refine ExO.nil ?_
     refine Ex.ret ?_
     obtain rfl:=sJ h
     exact ⟨_,_,aL.refl _ _ _,.inr rfl,_,by kernel_rfl,⟨r_30,given_13,w_16,rfl,rfl,rfl⟩⟩
    ·refine Ex.condF _ rfl hc_29 ?_
     refine Ex.skip ?_
     refine Ex.ret ?_
     obtain rfl:=sJ h
     exact ⟨_,_,bS [],.inr rfl,_,by kernel_rfl,⟨b_14,b_15,w_16,rfl,rfl,rfl⟩⟩
   ·refine Ex.condF _ rfl hc_28 ?_
    refine Ex.skip ?_
    refine Ex.seq (Ex.seq ?_)
    refine regH 3 [(1,.eq (i6 ((table_1.length : Nat) : Int)))] [0,1,4,7,21,22,23] [AV.int .i64 (((table_1.map (SV AV.bool)).length : Nat) : Int) = AV.int .i64 ((table_1.length : Nat) : Int)] (mkS 59 [(0,i6 design_12),(1,i6 given_13),(4,.ptr 5 0),(7,.ptr 6 0),(21,.sl (table_1.map (SV AV.bool)) none),(22,i6 ((table_1.length : Nat) : Int)),(23,i6 0)]) (⟨[[.sl (table_1.map (SV AV.bool)) none],[i6 designs_2],[.sl (b_14.map (AV.int .i64)) none],[i6 b_15],(flat (w_16.map (AV.int .i64))),[.ms 4 k_3 1],[.fn 81 [] [.ptr 1 0,.ptr 3 0,.ptr 5 0,.ptr 2 0,.ptr 0 0,.ptr 6 0]]],[]⟩) (by kernel_rfl) ⟨lenM _ _,trivial⟩ rfl ?_
    obtain ⟨K_35,hK_36,h⟩:=letE h
    refine Ex.blockJ (fun a S => ∃ (b_31 : List Int),∃ (b_32 : Int),∃ (w_33 : List Int),K_35 b_31 b_32 w_33 = some r ∧ a = mkS 59 [(0,i6 design_12),(1,i6 given_13),(4,.ptr 5 0),(7,.ptr 6 0)] ∧ S = ⟨[[.sl (table_1.map (SV AV.bool)) none],[i6 designs_2],[.sl (b_31.map (AV.int .i64)) none],[i6 b_32],(flat (w_33.map (AV.int .i64))),[.ms 4 k_3 1],[.fn 81 [] [.ptr 1 0,.ptr 3 0,.ptr 5 0,.ptr 2 0,.ptr 0 0,.ptr 6 0]]],[]⟩) ?_ ?_
    ·obtain ⟨B_42,hB_43,h⟩:=aGV h
     refine Ex.loopF (fun k a S => ∃ (y_37 : Int),∃ (b_38 : List Int),∃ (b_39 : Int),∃ (w_40 : List Int),loop4 B_42 k y_37 b_38 b_39 w_40 = some r ∧ a = mkS 59 [(0,i6 design_12),(1,i6 given_13),(4,.ptr 5 0),(7,.ptr 6 0),(21,.sl (table_1.map (SV AV.bool)) none),(22,i6 ((table_1.length : Nat) : Int)),(23,i6 y_37)] ∧ S = ⟨[[.sl (table_1.map (SV AV.bool)) none],[i6 designs_2],[.sl (b_38.map (AV.int .i64)) none],[i6 b_39],(flat (w_40.map (AV.int .i64))),[.ms 4 k_3 1],[.fn 81 [] [.ptr 1 0,.ptr 3 0,.ptr 5 0,.ptr 2 0,.ptr 0 0,.ptr 6 0]]],[]⟩) N ⟨_,_,aL.refl _ _ _,0,b_14,b_15,w_16,h,rfl,rfl⟩ ?_
     rintro k a S ⟨y_37,b_38,b_39,w_40,h,rfl,rfl⟩
     cases k with
     | zero => exact (aGT h).elim
     | succ k =>
      replace h:=aGU h hB_43
      refine Ex.seq (rg 1 [0,1,4,7,21,22,23,24] (mkS 59 [(0,i6 design_12),(1,i6 given_13),(4,.ptr 5 0),(7,.ptr 6 0),(21,.sl (table_1.map (SV AV.bool)) none),(22,i6 ((table_1.length : Nat) : Int)),(23,i6 y_37),(24,.bool (decide (y_37 < ((table_1.length : Nat) : Int))))]) ⟨[[.sl (table_1.map (SV AV.bool)) none],[i6 designs_2],[.sl (b_38.map (AV.int .i64)) none],[i6 b_39],(flat (w_40.map (AV.int .i64))),[.ms 4 k_3 1],[.fn 81 [] [.ptr 1 0,.ptr 3 0,.ptr 5 0,.ptr 2 0,.ptr 0 0,.ptr 6 0]]],[]⟩ ?_)
      refine Ex.seq ?_
      rcases aU h with ⟨hc_44,h⟩ | ⟨hc_44,h⟩
      ·refine Ex.condT _ rfl hc_44 ?_
       refine Ex.skip ?_
       refine Ex.seq ?_
       obtain ⟨K_49,hK_50,h⟩:=letE h
       refine Ex.blockJ (fun a S => ∃ (b_45 : List Int),∃ (b_46 : Int),∃ (w_47 : List Int),K_49 b_45 b_46 w_47 = some r ∧ a = mkS 59 [(0,i6 design_12),(1,i6 given_13),(4,.ptr 5 0),(7,.ptr 6 0),(21,.sl (table_1.map (SV AV.bool)) none),(22,i6 ((table_1.length : Nat) : Int)),(23,i6 y_37)] ∧ S = ⟨[[.sl (table_1.map (SV AV.bool)) none],[i6 designs_2],[.sl (b_45.map (AV.int .i64)) none],[i6 b_46],(flat (w_47.map (AV.int .i64))),[.ms 4 k_3 1],[.fn 81 [] [.ptr 1 0,.ptr 3 0,.ptr 5 0,.ptr 2 0,.ptr 0 0,.ptr 6 0]]],[]⟩) ?_ ?_
       ·refine Ex.seq ?_
        obtain ⟨x_51,hx_51,h⟩:=bE h
        refine regH 5 [(1,.rop [.sl (x_51.map AV.bool) none])] [0,1,4,7,10,11,21,22,23] [LGet (table_1.map (SV AV.bool)) y_37 1 [.sl (x_51.map AV.bool) none]] (mkS 59 [(0,i6 design_12),(1,i6 given_13),(4,.ptr 5 0),(7,.ptr 6 0),(10,i6 y_37),(11,.sl (x_51.map AV.bool) none),(21,.sl (table_1.map (SV AV.bool)) none),(22,i6 ((table_1.length : Nat) : Int)),(23,i6 y_37)]) (⟨[[.sl (table_1.map (SV AV.bool)) none],[i6 designs_2],[.sl (b_38.map (AV.int .i64)) none],[i6 b_39],(flat (w_40.map (AV.int .i64))),[.ms 4 k_3 1],[.fn 81 [] [.ptr 1 0,.ptr 3 0,.ptr 5 0,.ptr 2 0,.ptr 0 0,.ptr 6 0]]],[]⟩) (by kernel_rfl) ⟨LGet.of hx_51 rfl,trivial⟩ rfl ?_
        obtain ⟨K_54,hK_55,h⟩:=letE h
        refine Ex.seqJ (fun a S => ∃ (y_52 : Bool),K_54 y_52 = some r ∧ a = mkS 59 [(0,i6 design_12),(1,i6 given_13),(4,.ptr 5 0),(7,.ptr 6 0),(10,i6 y_37),(21,.sl (table_1.map (SV AV.bool)) none),(22,i6 ((table_1.length : Nat) : Int)),(23,i6 y_37),(39,.bool y_52)] ∧ S = ⟨[[.sl (table_1.map (SV AV.bool)) none],[i6 designs_2],[.sl (b_38.map (AV.int .i64)) none],[i6 b_39],(flat (w_40.map (AV.int .i64))),[.ms 4 k_3 1],[.fn 81 [] [.ptr 1 0,.ptr 3 0,.ptr 5 0,.ptr 2 0,.ptr 0 0,.ptr 6 0]]],[]⟩) ?_ ?_
        ·obtain ⟨x_56,hx_56,h⟩:=bE h
         rcases aU h with ⟨hc_57,h⟩ | ⟨hc_57,h⟩
         ·obtain ⟨l_58,hl_58,h⟩:=bE h
          refine Ex.reg ?_
          refine runH 7 [(2,.rop [.bool x_56]),(4,.eq (.bool true))] [0,1,4,7,10,21,22,23,32,33,34] [LGet (x_51.map AV.bool) design_12 1 [.bool x_56],AV.bool x_56 = AV.bool true] (mkS 59 [(0,i6 design_12),(1,i6 given_13),(4,.ptr 5 0),(7,.ptr 6 0),(10,i6 y_37),(21,.sl (table_1.map (SV AV.bool)) none),(22,i6 ((table_1.length : Nat) : Int)),(23,i6 y_37),(32,.bool true),(33,.ms 4 k_3 1),(34,i6 design_12)]) (⟨[[.sl (table_1.map (SV AV.bool)) none],[i6 designs_2],[.sl (b_38.map (AV.int .i64)) none],[i6 b_39],(flat (w_40.map (AV.int .i64))),[.ms 4 k_3 1],[.fn 81 [] [.ptr 1 0,.ptr 3 0,.ptr 5 0,.ptr 2 0,.ptr 0 0,.ptr 6 0]]],[]⟩) (by kernel_rfl) ⟨LGet.of hx_56 rfl,congrArg AV.bool hc_57,trivial⟩ ?_
          refine ExO.slcM l_58.length rfl rfl rfl rfl (cutL.of hl_58).1 (cutL.of hl_58).2 ?_
          obtain ⟨r_59,hr_59,h⟩:=bE h
          refine rn 1 [0,1,4,7,10,21,22,23,32,35,36] (mkS 59 [(0,i6 design_12),(1,i6 given_13),(4,.ptr 5 0),(7,.ptr 6 0),(10,i6 y_37),(21,.sl (table_1.map (SV AV.bool)) none),(22,i6 ((table_1.length : Nat) : Int)),(23,i6 y_37),(32,.bool true),(35,.ms 4 l_58.length 1),(36,i6 y_37)]) ⟨[[.sl (table_1.map (SV AV.bool)) none],[i6 designs_2],[.sl (b_38.map (AV.int .i64)) none],[i6 b_39],(flat (w_40.map (AV.int .i64))),[.ms 4 k_3 1],[.fn 81 [] [.ptr 1 0,.ptr 3 0,.ptr 5 0,.ptr 2 0,.ptr 0 0,.ptr 6 0]]],[]⟩ ?_
          refine ExO.callLend [(4,1,l_58.map (AV.int .i64),flat ((w_40.drop l_58.length).map (AV.int .i64)))] [] [.ms 4 l_58.length 1,i6 y_37] rfl rfl (by exact ⟨.s 0 rfl (List.length_map ..).symm,⟨.n (by simp; try rfl),trivial⟩⟩) ⟨⟨(by show some _ = some _; rw [cutL.flat hl_58 (AV.int .i64)]),show 0 < 1 by decide,fun i e he => eL (f:=(AV.int .i64)) (s:=1) (fun _ => rfl) _ e (List.mem_of_getElem? he),(fX (f:=(AV.int .i64)) (fun _ => rfl) _),show 4 ∉ ([] : List Nat) by decide⟩,trivial⟩ rfl rfl (nL N l_58 y_37 r_59 hr_59) rfl rfl rfl ?_
          refine rn 2 [0,1,4,7,10,21,22,23,39] (mkS 59 [(0,i6 design_12),(1,i6 given_13),(4,.ptr 5 0),(7,.ptr 6 0),(10,i6 y_37),(21,.sl (table_1.map (SV AV.bool)) none),(22,i6 ((table_1.length : Nat) : Int)),(23,i6 y_37),(39,.bool (!r_59))]) ⟨[[.sl (table_1.map (SV AV.bool)) none],[i6 designs_2],[.sl (b_38.map (AV.int .i64)) none],[i6 b_39],(flat (w_40.map (AV.int .i64))),[.ms 4 k_3 1],[.fn 81 [] [.ptr 1 0,.ptr 3 0,.ptr 5 0,.ptr 2 0,.ptr 0 0,.ptr 6 0]]],[]⟩ ?_
          refine ExO.nil ?_
          (try simp only [reduceCtorEq,AEx.ex.injEq,Nat.reduceEqDiff,if_true,if_false])
          exact ⟨_,_,aL.refl _ _ _,(!r_59),h,rfl,rfl⟩
         ·refine regH 12 [(2, .rop [.bool x_56]), (4, .eq (.bool false))] [0, 1, 4, 7, 10, 21, 22, 23, 39] [LGet (x_51.map AV.bool) design_12 1 [.bool x_56], AV.bool x_56 = AV.bool false] (mkS 59 [(0, i6 design_12), (1, i6 given_13), (4, .ptr 5 0), (7, .ptr 6 0), (10, i6 y_37), (21, .sl (table_1.map (SV AV.bool)) none), (22, i6 ((table_1.length : Nat) : Int)), (23, i6 y_37), (39, .bool false)]) (⟨[[.sl (table_1.map (SV AV.bool)) none], [i6 designs_2], [.sl (b_38.map (AV.int .i64)) none], [i6 b_39], (flat (w_40.map (AV.int .i64))), [.ms 4 k_3 1], [.fn 81 [] [.ptr 1 0, .ptr 3 0, .ptr 5 0, .ptr 2 0, .ptr 0 0, .ptr 6 0]]], []⟩) (by kernel_rfl) ⟨LGet.of hx_56 rfl, congrArg AV.bool hc_57, trivial⟩ rfl ?_
          (try simp only [reduceCtorEq,AEx.ex.injEq,Nat.reduceEqDiff,if_true,if_false])
          exact ⟨_,_,aL.refl _ _ _,false,h,rfl,rfl⟩
        ·rintro a S ⟨y_52,h,rfl,rfl⟩
         subst hK_55
         rcases aU h with ⟨hc_60,h⟩ | ⟨hc_60,h⟩
         ·refine Ex.condT _ rfl hc_60 ?_
          refine Ex.seq ?_
          obtain ⟨u_61,hu_61,h⟩:=bE h
          obtain ⟨z_63,hz_63,h⟩:=bE h
          refine regH 5 [(3,.adm),(4,.st (flat (z_63.map (AV.int .i64))))] [0,1,4,7,21,22,23] [0 ≤ design_12 ∧ design_12 < ((k_3 : Nat) : Int),0 + Int.toNat design_12 * 1 + 1 ≤ ((flat (w_40.map (AV.int .i64)))).length ∧ fF (flat (w_40.map (AV.int .i64))) (0 + Int.toNat design_12 * 1) [i6 y_37] = (flat (z_63.map (AV.int .i64)))] (mkS 59 [(0,i6 design_12),(1,i6 given_13),(4,.ptr 5 0),(7,.ptr 6 0),(21,.sl (table_1.map (SV AV.bool)) none),(22,i6 ((table_1.length : Nat) : Int)),(23,i6 y_37)]) (⟨[[.sl (table_1.map (SV AV.bool)) none],[i6 designs_2],[.sl (b_38.map (AV.int .i64)) none],[i6 b_39],(flat (z_63.map (AV.int .i64))),[.ms 4 k_3 1],[.fn 81 [] [.ptr 1 0,.ptr 3 0,.ptr 5 0,.ptr 2 0,.ptr 0 0,.ptr 6 0]]],[]⟩) (by kernel_rfl) ⟨idxI.of hu_61,stFl (f:=(AV.int .i64)) (s:=1) _ 0 1 design_12 (fun (y_62 : Int) => y_37) _ (fun _ => rfl) hz_63 rfl (by decide) (by omega) (fun _ => rfl),trivial⟩ rfl ?_
          refine Ex.reg (rn 5 [0,1,4,7,21,22,23,44,46,48] (mkS 59 [(0,i6 design_12),(1,i6 given_13),(4,.ptr 5 0),(7,.ptr 6 0),(21,.sl (table_1.map (SV AV.bool)) none),(22,i6 ((table_1.length : Nat) : Int)),(23,i6 y_37),(44,.fn 81 [] [.ptr 1 0,.ptr 3 0,.ptr 5 0,.ptr 2 0,.ptr 0 0,.ptr 6 0]),(46,i6 (IntKind.i64.wrap (design_12 + 1))),(48,i6 (IntKind.i64.wrap (given_13 + 1)))]) ⟨[[.sl (table_1.map (SV AV.bool)) none],[i6 designs_2],[.sl (b_38.map (AV.int .i64)) none],[i6 b_39],(flat (z_63.map (AV.int .i64))),[.ms 4 k_3 1],[.fn 81 [] [.ptr 1 0,.ptr 3 0,.ptr 5 0,.ptr 2 0,.ptr 0 0,.ptr 6 0]]],[]⟩ ?_)
          obtain ⟨K_70,hK_71,h⟩:=letE h
          obtain ⟨s_64,hs_65,h⟩:=bE h
          refine ExO.inlY (fun v S => (∃ (b_66 : List Int),∃ (b_67 : Int),∃ (w_68 : List Int),(b_66,b_67,w_68) = s_64 ∧ v = .tup [] ∧ S = ⟨[[.sl (table_1.map (SV AV.bool)) none],[i6 designs_2],[.sl (b_66.map (AV.int .i64)) none],[i6 b_67],(flat (w_68.map (AV.int .i64))),[.ms 4 k_3 1],[.fn 81 [] [.ptr 1 0,.ptr 3 0,.ptr 5 0,.ptr 2 0,.ptr 0 0,.ptr 6 0]]],[]⟩)) 81 [i6 (IntKind.i64.wrap (design_12 + 1)),i6 (IntKind.i64.wrap (given_13 + 1)),.ptr 1 0,.ptr 3 0,.ptr 5 0,.ptr 2 0,.ptr 0 0,.ptr 6 0] _ comp81 (leC hcn_9 (by simp [bH])) rfl (by kernel_rfl) (mkS 59 [(0,i6 (IntKind.i64.wrap (design_12 + 1))),(1,i6 (IntKind.i64.wrap (given_13 + 1))),(2,.ptr 1 0),(3,.ptr 3 0),(4,.ptr 5 0),(5,.ptr 2 0),(6,.ptr 0 0),(7,.ptr 6 0),(8,.tup []),(9,.tup []),(10,.tup []),(11,.tup []),(12,.tup []),(13,.tup []),(14,.tup []),(15,.tup []),(16,.tup []),(17,.tup []),(18,.tup []),(19,.tup []),(20,.tup []),(21,.tup []),(22,.tup []),(23,.tup []),(24,.tup []),(25,.tup []),(26,.tup []),(27,.tup []),(28,.tup []),(29,.tup []),(30,.tup []),(31,.tup []),(32,.tup []),(33,.tup []),(34,.tup []),(35,.tup []),(36,.tup []),(37,.tup []),(38,.tup []),(39,.tup []),(40,.tup []),(41,.tup []),(42,.tup []),(43,.tup []),(44,.tup []),(45,.tup []),(46,.tup []),(47,.tup []),(48,.tup []),(49,.tup []),(50,.tup []),(51,.tup []),(52,.tup []),(53,.tup []),(54,.tup []),(55,.tup []),(56,.tup []),(57,.tup []),(58,.tup [])]) (by kernel_rfl) (fun c1 g1 g2 g3 => ih_24 (IntKind.i64.wrap (design_12 + 1)) (IntKind.i64.wrap (given_13 + 1)) b_38 b_39 z_63 _ hs_65 c1 g1 g2 (fun _ _ _ _ _ hq => g3 _ _ _ _ _ (hup_11 _ _ _ _ _ hq))) ?_
          rintro v S (⟨b_66,b_67,w_68,rfl,rfl,rfl⟩)
          replace h : K_70 b_66 b_67 w_68 = some r:=h
          subst hK_71
          refine rn 0 [0,1,4,7,21,22,23] (mkS 59 [(0,i6 design_12),(1,i6 given_13),(4,.ptr 5 0),(7,.ptr 6 0),(21,.sl (table_1.map (SV AV.bool)) none),(22,i6 ((table_1.length : Nat) : Int)),(23,i6 y_37)]) ⟨[[.sl (table_1.map (SV AV.bool)) none],[i6 designs_2],[.sl (b_66.map (AV.int .i64)) none],[i6 b_67],(flat (w_68.map (AV.int .i64))),[.ms 4 k_3 1],[.fn 81 [] [.ptr 1 0,.ptr 3 0,.ptr 5 0,.ptr 2 0,.ptr 0 0,.ptr 6 0]]],[]⟩ ?_
          refine ExO.nil ?_
          (try simp only [reduceCtorEq,AEx.ex.injEq,Nat.reduceEqDiff,if_true,if_false])
          exact ⟨_,_,aL.refl _ _ _,b_66,b_67,w_68,h,rfl,rfl⟩
         ·refine Ex.condF _ rfl hc_60 ?_
          refine Ex.skip ?_
          (try simp only [reduceCtorEq,AEx.ex.injEq,Nat.reduceEqDiff,if_true,if_false])
          exact ⟨_,_,bS [0,1,4,7,21,22,23],b_38,b_39,w_40,h,rfl,rfl⟩
       ·rintro a S ⟨b_45,b_46,w_47,h,rfl,rfl⟩
        subst hK_50
        refine rg 2 [0,1,4,7,21,22,23] (mkS 59 [(0,i6 design_12),(1,i6 given_13),(4,.ptr 5 0),(7,.ptr 6 0),(21,.sl (table_1.map (SV AV.bool)) none),(22,i6 ((table_1.length : Nat) : Int)),(23,i6 (IntKind.i64.wrap (y_37 + 1)))]) ⟨[[.sl (table_1.map (SV AV.bool)) none],[i6 designs_2],[.sl (b_45.map (AV.int .i64)) none],[i6 b_46],(flat (w_47.map (AV.int .i64))),[.ms 4 k_3 1],[.fn 81 [] [.ptr 1 0,.ptr 3 0,.ptr 5 0,.ptr 2 0,.ptr 0 0,.ptr 6 0]]],[]⟩ ?_
        dsimp only
        exact ⟨_,_,aL.refl _ _ _,k,Nat.lt_succ_self k,(IntKind.i64.wrap (y_37 + 1)),b_45,b_46,w_47,h,rfl,rfl⟩
      ·refine Ex.condF _ rfl hc_44 ?_
       refine Ex.exit ?_
       (try simp only [reduceCtorEq,AEx.ex.injEq,Nat.reduceEqDiff,if_true,if_false])
       exact ⟨_,_,bS [0,1,4,7],b_38,b_39,w_40,h,rfl,rfl⟩
    ·rintro a S ⟨b_31,b_32,w_33,h,rfl,rfl⟩
     subst hK_36
     refine Ex.seq ?_
     obtain ⟨u_72,hu_72,h⟩:=bE h
     obtain ⟨z_74,hz_74,h⟩:=bE h
     refine regH 4 [(2,.adm),(3,.st (flat (z_74.map (AV.int .i64))))] [0,1,7] [0 ≤ design_12 ∧ design_12 < ((k_3 : Nat) : Int),0 + Int.toNat design_12 * 1 + 1 ≤ ((flat (w_33.map (AV.int .i64)))).length ∧ fF (flat (w_33.map (AV.int .i64))) (0 + Int.toNat design_12 * 1) [i6 (-1)] = (flat (z_74.map (AV.int .i64)))] (mkS 59 [(0,i6 design_12),(1,i6 given_13),(7,.ptr 6 0)]) (⟨[[.sl (table_1.map (SV AV.bool)) none],[i6 designs_2],[.sl (b_31.map (AV.int .i64)) none],[i6 b_32],(flat (z_74.map (AV.int .i64))),[.ms 4 k_3 1],[.fn 81 [] [.ptr 1 0,.ptr 3 0,.ptr 5 0,.ptr 2 0,.ptr 0 0,.ptr 6 0]]],[]⟩) (by kernel_rfl) ⟨idxI.of hu_72,stFl (f:=(AV.int .i64)) (s:=1) _ 0 1 design_12 (fun (y_73 : Int) => (-1)) _ (fun _ => rfl) hz_74 rfl (by decide) (by omega) (fun _ => rfl),trivial⟩ rfl ?_
     refine Ex.reg (rn 4 [54,56,57] (mkS 59 [(54,.fn 81 [] [.ptr 1 0,.ptr 3 0,.ptr 5 0,.ptr 2 0,.ptr 0 0,.ptr 6 0]),(56,i6 (IntKind.i64.wrap (design_12 + 1))),(57,i6 given_13)]) ⟨[[.sl (table_1.map (SV AV.bool)) none],[i6 designs_2],[.sl (b_31.map (AV.int .i64)) none],[i6 b_32],(flat (z_74.map (AV.int .i64))),[.ms 4 k_3 1],[.fn 81 [] [.ptr 1 0,.ptr 3 0,.ptr 5 0,.ptr 2 0,.ptr 0 0,.ptr 6 0]]],[]⟩ ?_)
     obtain ⟨K_81,hK_82,h⟩:=letE h
     obtain ⟨s_75,hs_76,h⟩:=bE h
     refine ExO.inlY (fun v S => (∃ (b_77 : List Int),∃ (b_78 : Int),∃ (w_79 : List Int),(b_77,b_78,w_79) = s_75 ∧ v = .tup [] ∧ S = ⟨[[.sl (table_1.map (SV AV.bool)) none],[i6 designs_2],[.sl (b_77.map (AV.int .i64)) none],[i6 b_78],(flat (w_79.map (AV.int .i64))),[.ms 4 k_3 1],[.fn 81 [] [.ptr 1 0,.ptr 3 0,.ptr 5 0,.ptr 2 0,.ptr 0 0,.ptr 6 0]]],[]⟩)) 81 [i6 (IntKind.i64.wrap (design_12 + 1)),i6 given_13,.ptr 1 0,.ptr 3 0,.ptr 5 0,.ptr 2 0,.ptr 0 0,.ptr 6 0] _ comp81 (leC hcn_9 (by simp [bH])) rfl (by kernel_rfl) (mkS 59 [(0,i6 (IntKind.i64.wrap (design_12 + 1))),(1,i6 given_13),(2,.ptr 1 0),(3,.ptr 3 0),(4,.ptr 5 0),(5,.ptr 2 0),(6,.ptr 0 0),(7,.ptr 6 0),(8,.tup []),(9,.tup []),(10,.tup []),(11,.tup []),(12,.tup []),(13,.tup []),(14,.tup []),(15,.tup []),(16,.tup []),(17,.tup []),(18,.tup []),(19,.tup []),(20,.tup []),(21,.tup []),(22,.tup []),(23,.tup []),(24,.tup []),(25,.tup []),(26,.tup []),(27,.tup []),(28,.tup []),(29,.tup []),(30,.tup []),(31,.tup []),(32,.tup []),(33,.tup []),(34,.tup []),(35,.tup []),(36,.tup []),(37,.tup []),(38,.tup []),(39,.tup []),(40,.tup []),(41,.tup []),(42,.tup []),(43,.tup []),(44,.tup []),(45,.tup []),(46,.tup []),(47,.tup []),(48,.tup []),(49,.tup []),(50,.tup []),(51,.tup []),(52,.tup []),(53,.tup []),(54,.tup []),(55,.tup []),(56,.tup []),(57,.tup []),(58,.tup [])]) (by kernel_rfl) (fun c1 g1 g2 g3 => ih_24 (IntKind.i64.wrap (design_12 + 1)) given_13 b_31 b_32 z_74 _ hs_76 c1 g1 g2 (fun _ _ _ _ _ hq => g3 _ _ _ _ _ (hup_11 _ _ _ _ _ hq))) ?_
     rintro v S (⟨b_77,b_78,w_79,rfl,rfl,rfl⟩)
     replace h : K_81 b_77 b_78 w_79 = some r:=h
     subst hK_82
     refine rn 0 [] (mkS 59 []) ⟨[[.sl (table_1.map (SV AV.bool)) none],[i6 designs_2],[.sl (b_77.map (AV.int .i64)) none],[i6 b_78],(flat (w_79.map (AV.int .i64))),[.ms 4 k_3 1],[.fn 81 [] [.ptr 1 0,.ptr 3 0,.ptr 5 0,.ptr 2 0,.ptr 0 0,.ptr 6 0]]],[]⟩ ?_
     refine ExO.nil ?_
     obtain rfl:=sJ h
     exact ⟨_,_,aL.refl _ _ _,.inl rfl,_,by kernel_rfl,⟨b_77,b_78,w_79,rfl,rfl,rfl⟩⟩
 refine ExO.inlY (fun v S => (∃ (b_17 : List Int),∃ (b_18 : Int),∃ (w_19 : List Int),(b_17,b_18,w_19) = s_26 ∧ v = .tup [] ∧ S = ⟨[[.sl (table_1.map (SV AV.bool)) none],[i6 designs_2],[.sl (b_17.map (AV.int .i64)) none],[i6 b_18],(flat (w_19.map (AV.int .i64))),[.ms 4 k_3 1],[.fn 81 [] [.ptr 1 0,.ptr 3 0,.ptr 5 0,.ptr 2 0,.ptr 0 0,.ptr 6 0]]],[]⟩)) 81 [i6 0,i6 0,.ptr 1 0,.ptr 3 0,.ptr 5 0,.ptr 2 0,.ptr 0 0,.ptr 6 0] _ comp81 (by simp [bH]) rfl (by kernel_rfl) (mkS 59 [(0,i6 0),(1,i6 0),(2,.ptr 1 0),(3,.ptr 3 0),(4,.ptr 5 0),(5,.ptr 2 0),(6,.ptr 0 0),(7,.ptr 6 0),(8,.tup []),(9,.tup []),(10,.tup []),(11,.tup []),(12,.tup []),(13,.tup []),(14,.tup []),(15,.tup []),(16,.tup []),(17,.tup []),(18,.tup []),(19,.tup []),(20,.tup []),(21,.tup []),(22,.tup []),(23,.tup []),(24,.tup []),(25,.tup []),(26,.tup []),(27,.tup []),(28,.tup []),(29,.tup []),(30,.tup []),(31,.tup []),(32,.tup []),(33,.tup []),(34,.tup []),(35,.tup []),(36,.tup []),(37,.tup []),(38,.tup []),(39,.tup []),(40,.tup []),(41,.tup []),(42,.tup []),(43,.tup []),(44,.tup []),(45,.tup []),(46,.tup []),(47,.tup []),(48,.tup []),(49,.tup []),(50,.tup []),(51,.tup []),(52,.tup []),(53,.tup []),(54,.tup []),(55,.tup []),(56,.tup []),(57,.tup []),(58,.tup [])]) (by kernel_rfl) (fun c1 g1 g2 g3 => hY_25 N 0 0 [] (-1) (List.replicate k_3 0) _ hs_27 c1 g1 g2 g3) ?_
 rintro v S (⟨b_17,b_18,w_19,rfl,rfl,rfl⟩)
 replace h : K_84 b_17 b_18 w_19 = some r:=h
 subst hK_85
 refine rn 0 [5] (mkS 15 [(5,.ptr 2 0)]) ⟨[[.sl (table_1.map (SV AV.bool)) none],[i6 designs_2],[.sl (b_17.map (AV.int .i64)) none],[i6 b_18],(flat (w_19.map (AV.int .i64))),[.ms 4 k_3 1],[.fn 81 [] [.ptr 1 0,.ptr 3 0,.ptr 5 0,.ptr 2 0,.ptr 0 0,.ptr 6 0]]],[]⟩ ?_
 refine ExO.nil ?_
 refine Ex.seq (rg 2 [4] (mkS 15 [(4,.sl (b_17.map (AV.int .i64)) none)]) ⟨[[.sl (table_1.map (SV AV.bool)) none],[i6 designs_2],[.sl (b_17.map (AV.int .i64)) none],[i6 b_18],(flat (w_19.map (AV.int .i64))),[.ms 4 k_3 1],[.fn 81 [] [.ptr 1 0,.ptr 3 0,.ptr 5 0,.ptr 2 0,.ptr 0 0,.ptr 6 0]]],[]⟩ ?_)
 refine Ex.ret ?_
 obtain rfl:=sJ h
 exact rt (.sl (b_17.map (AV.int .i64)) none)
def nZ (N : Nat) (frame_1 : cE) (design_2 : (List cI)) (a_3 : (List bN)) : Option (Bool):=((lZ N (⟨frame_1.Length,frame_1.Width,frame_1.Front,frame_1.Rear,frame_1.Turn,frame_1.Kilos,frame_1.Middle,frame_1.High,design_2⟩ : cE) a_3).bind fun r_4 => some r_4)
def lF (r : Bool) : AV:=.bool r
attribute [local simp] lF
theorem zQ (r : Bool) (n n2 m : Nat) : back n n2 m (lF r) = some (lF r):=by simp
theorem zJ (N : Nat) (frame_1 : cE) (design_2 : (List cI)) (a_3 : (List bN)) (r : Bool) (h : nZ N frame_1 design_2 a_3 = some r) : Does Tryz.prog 43 [(bC frame_1),.sl (design_2.map bG) none,.ptr 0 0] [[.sl (a_3.map aO) none]] fun v c => v = lF r ∧ c = [[.sl (a_3.map aO) none]]:=by
 unfold nZ at h
 refine Does.ofL comp43 _ _ rfl rfl ?_
 refine Ex.seq (rg 2 [1,2,3] (mkS 11 [(1,.sl (design_2.map bG) none),(2,.ptr 0 0),(3,.ptr 1 0)]) ⟨[[.sl (a_3.map aO) none],(dG frame_1)],[]⟩ ?_)
 refine Ex.seq (rg 3 [2,3] (mkS 11 [(2,.ptr 0 0),(3,.ptr 1 0)]) ⟨[[.sl (a_3.map aO) none],[i6 frame_1.Length,i6 frame_1.Width,i6 frame_1.Front,i6 frame_1.Rear,i6 frame_1.Turn,i6 frame_1.Kilos,i6 frame_1.Middle,i6 frame_1.High,.sl (design_2.map bG) none]],[]⟩ ?_)
 refine Ex.seq ?_
 obtain ⟨r_4,hr_4,h⟩:=bE h
 refine Ex.reg (rn 2 [8,9] (mkS 11 [(8,.agg [i6 frame_1.Length,i6 frame_1.Width,i6 frame_1.Front,i6 frame_1.Rear,i6 frame_1.Turn,i6 frame_1.Kilos,i6 frame_1.Middle,i6 frame_1.High,.sl (design_2.map bG) none]),(9,.sl (a_3.map aO) none)]) ⟨[[.sl (a_3.map aO) none],[i6 frame_1.Length,i6 frame_1.Width,i6 frame_1.Front,i6 frame_1.Rear,i6 frame_1.Turn,i6 frame_1.Kilos,i6 frame_1.Middle,i6 frame_1.High,.sl (design_2.map bG) none]],[]⟩ ?_)
 refine ExO.callL [] [.agg [i6 frame_1.Length,i6 frame_1.Width,i6 frame_1.Front,i6 frame_1.Rear,i6 frame_1.Turn,i6 frame_1.Kilos,i6 frame_1.Middle,i6 frame_1.High,.sl (design_2.map bG) none],.sl (a_3.map aO) none] rfl rfl (sK (⟨frame_1.Length,frame_1.Width,frame_1.Front,frame_1.Rear,frame_1.Turn,frame_1.Kilos,frame_1.Middle,frame_1.High,design_2⟩ : cE) a_3) rfl rfl (rZ N (⟨frame_1.Length,frame_1.Width,frame_1.Front,frame_1.Rear,frame_1.Turn,frame_1.Kilos,frame_1.Middle,frame_1.High,design_2⟩ : cE) a_3 r_4 hr_4) (sE _ _ _ _) rfl ?_
 refine rn 1 [5] (mkS 11 [(5,.bool r_4)]) ⟨[[.sl (a_3.map aO) none],[i6 frame_1.Length,i6 frame_1.Width,i6 frame_1.Front,i6 frame_1.Rear,i6 frame_1.Turn,i6 frame_1.Kilos,i6 frame_1.Middle,i6 frame_1.High,.sl (design_2.map bG) none]],[]⟩ ?_
 refine ExO.nil ?_
 refine Ex.ret ?_
 obtain rfl:=sJ h
 exact rt (.bool r_4)
def cZ (N : Nat) (list_1 : (List cE)) (others_2 : (List (List cI))) (a_3 : (List bN)) : Option ((List (List Bool))):=(letJ (fun (table_4 : List (List Bool)) => some table_4) (fun k_5 => (loop2 (fun rec_10 (table_8 : List (List Bool)) (y_9 : Int) => (bif (decide (y_9 < ((list_1.length : Nat) : Int))) then ((getI list_1 y_9).bind fun x_14 => (letJ (fun (row_15 : List Bool) => ((lN table_8 ([row_15] : List (List Bool))).bind fun l_28 => (rec_10 l_28 (IntKind.i64.wrap (y_9 + 1))))) (fun k_16 => (loop2 (fun rec_21 (row_19 : List Bool) (y_20 : Int) => (bif (decide (y_20 < ((others_2.length : Nat) : Int))) then ((getI others_2 y_20).bind fun x_25 => ((nZ N x_14 x_25 a_3).bind fun r_26 => ((lN row_19 ([r_26] : List Bool)).bind fun l_27 => (rec_21 l_27 (IntKind.i64.wrap (y_20 + 1)))))) else (k_16 row_19))) N [] 0)))) else (k_5 table_8))) N [] 0)))
def cC (r : (List (List Bool))) : AV:=.sl (r.map (SV AV.bool)) none
attribute [local simp] cC
theorem iC (r : (List (List Bool))) (n n2 m : Nat) : back n n2 m (cC r) = some (cC r):=by simp
theorem iB (N : Nat) (list_1 : (List cE)) (others_2 : (List (List cI))) (a_3 : (List bN)) (r : (List (List Bool))) (h : cZ N list_1 others_2 a_3 = some r) : Does Tryz.prog 42 [.sl (list_1.map bC) none,.sl (others_2.map (SV bG)) none,.fn 43 [] [.ptr 0 0]] [[.sl (a_3.map aO) none]] fun v c => v = cC r ∧ c = [[.sl (a_3.map aO) none]]:=by
 unfold cZ at h
 refine Does.ofL comp42 _ _ rfl rfl ?_
 refine Ex.seq (rg 1 [0,1,2] (mkS 39 [(0,.sl (list_1.map bC) none),(1,.sl (others_2.map (SV bG)) none),(2,.fn 43 [] [.ptr 0 0])]) ⟨[[.sl (a_3.map aO) none]],[]⟩ ?_)
 refine Ex.seq (rg 1 [0,1,2,7] (mkS 39 [(0,.sl (list_1.map bC) none),(1,.sl (others_2.map (SV bG)) none),(2,.fn 43 [] [.ptr 0 0]),(7,.nils)]) ⟨[[.sl (a_3.map aO) none]],[]⟩ ?_)
 refine Ex.seq (Ex.seq ?_)
 refine regH 3 [(1,.eq (i6 ((list_1.length : Nat) : Int)))] [1,2,7,13,14,15] [AV.int .i64 (((list_1.map bC).length : Nat) : Int) = AV.int .i64 ((list_1.length : Nat) : Int)] (mkS 39 [(1,.sl (others_2.map (SV bG)) none),(2,.fn 43 [] [.ptr 0 0]),(7,.nils),(13,.sl (list_1.map bC) none),(14,i6 ((list_1.length : Nat) : Int)),(15,i6 0)]) (⟨[[.sl (a_3.map aO) none]],[]⟩) (by kernel_rfl) ⟨lenM _ _,trivial⟩ rfl ?_
 obtain ⟨K_6,hK_7,h⟩:=letE h
 refine Ex.blockJ (fun a S => ∃ (table_4 : List (List Bool)),K_6 table_4 = some r ∧ a = mkS 39 [(7,.sl (table_4.map (SV AV.bool)) (some 0))] ∧ S = ⟨[[.sl (a_3.map aO) none]],[(table_4.length,1)]⟩) ?_ ?_
 ·refine Ex.forget (nilK 7 1 rfl) ?_
  refine Ex.castA (a2:=mkS 39 [(1,.sl (others_2.map (SV bG)) none),(2,.fn 43 [] [.ptr 0 0]),(7,.sl (([] : List (List Bool)).map (SV AV.bool)) (some 0)),(13,.sl (list_1.map bC) none),(14,i6 ((list_1.length : Nat) : Int)),(15,i6 0)]) (S2:=⟨[[.sl (a_3.map aO) none]],[(0,1)]⟩) (by kernel_rfl) (by kernel_rfl) ?_
  obtain ⟨B_11,hB_12,h⟩:=kD h
  refine Ex.loopF (fun k a S => ∃ (table_8 : List (List Bool)),∃ (y_9 : Int),loop2 B_11 k table_8 y_9 = some r ∧ a = mkS 39 [(1,.sl (others_2.map (SV bG)) none),(2,.fn 43 [] [.ptr 0 0]),(7,.sl (table_8.map (SV AV.bool)) (some 0)),(13,.sl (list_1.map bC) none),(14,i6 ((list_1.length : Nat) : Int)),(15,i6 y_9)] ∧ S = ⟨[[.sl (a_3.map aO) none]],[(table_8.length,1)]⟩) N ⟨_,_,aL.refl _ _ _,[],0,h,rfl,rfl⟩ ?_
  rintro k a S ⟨table_8,y_9,h,rfl,rfl⟩
  cases k with
  | zero => exact (kB h).elim
  | succ k =>
   replace h:=kC h hB_12
   refine Ex.seq (rg 1 [1,2,7,13,14,15,16] (mkS 39 [(1,.sl (others_2.map (SV bG)) none),(2,.fn 43 [] [.ptr 0 0]),(7,.sl (table_8.map (SV AV.bool)) (some 0)),(13,.sl (list_1.map bC) none),(14,i6 ((list_1.length : Nat) : Int)),(15,i6 y_9),(16,.bool (decide (y_9 < ((list_1.length : Nat) : Int))))]) ⟨[[.sl (a_3.map aO) none]],[(table_8.length,1)]⟩ ?_)
   refine Ex.seq ?_
   rcases aU h with ⟨hc_13,h⟩ | ⟨hc_13,h⟩
   ·refine Ex.condT _ rfl hc_13 ?_
    refine Ex.skip ?_
    refine Ex.seq ?_
    refine Ex.blockK ?_
    refine Ex.seq ?_
    obtain ⟨x_14,hx_14,h⟩:=bE h
    refine regH 4 [(0,.rop (dG x_14))] [1,2,7,9,13,14,15] [LGet (list_1.map bC) y_9 9 (dG x_14)] (mkS 39 [(1,.sl (others_2.map (SV bG)) none),(2,.fn 43 [] [.ptr 0 0]),(7,.sl (table_8.map (SV AV.bool)) (some 0)),(9,.ptr 1 0),(13,.sl (list_1.map bC) none),(14,i6 ((list_1.length : Nat) : Int)),(15,i6 y_9)]) (⟨[[.sl (a_3.map aO) none],(dG x_14)],[(table_8.length,1)]⟩) (by kernel_rfl) ⟨LGet.of hx_14 rfl,trivial⟩ rfl ?_
    refine Ex.seq (rg 1 [1,2,7,9,10,13,14,15] (mkS 39 [(1,.sl (others_2.map (SV bG)) none),(2,.fn 43 [] [.ptr 0 0]),(7,.sl (table_8.map (SV AV.bool)) (some 0)),(9,.ptr 1 0),(10,.nils),(13,.sl (list_1.map bC) none),(14,i6 ((list_1.length : Nat) : Int)),(15,i6 y_9)]) ⟨[[.sl (a_3.map aO) none],(dG x_14)],[(table_8.length,1)]⟩ ?_)
    refine Ex.seq (Ex.seq ?_)
    refine regH 3 [(1,.eq (i6 ((others_2.length : Nat) : Int)))] [1,2,7,9,10,13,14,15,19,20,21] [AV.int .i64 (((others_2.map (SV bG)).length : Nat) : Int) = AV.int .i64 ((others_2.length : Nat) : Int)] (mkS 39 [(1,.sl (others_2.map (SV bG)) none),(2,.fn 43 [] [.ptr 0 0]),(7,.sl (table_8.map (SV AV.bool)) (some 0)),(9,.ptr 1 0),(10,.nils),(13,.sl (list_1.map bC) none),(14,i6 ((list_1.length : Nat) : Int)),(15,i6 y_9),(19,.sl (others_2.map (SV bG)) none),(20,i6 ((others_2.length : Nat) : Int)),(21,i6 0)]) (⟨[[.sl (a_3.map aO) none],(dG x_14)],[(table_8.length,1)]⟩) (by kernel_rfl) ⟨lenM _ _,trivial⟩ rfl ?_
    obtain ⟨K_17,hK_18,h⟩:=letE h
    refine Ex.blockJ (fun a S => ∃ (row_15 : List Bool),K_17 row_15 = some r ∧ a = mkS 39 [(1,.sl (others_2.map (SV bG)) none),(2,.fn 43 [] [.ptr 0 0]),(7,.sl (table_8.map (SV AV.bool)) (some 0)),(10,.sl (row_15.map AV.bool) (some 1)),(13,.sl (list_1.map bC) none),(14,i6 ((list_1.length : Nat) : Int)),(15,i6 y_9)] ∧ S = ⟨[[.sl (a_3.map aO) none]],[(table_8.length,1),(row_15.length,1)]⟩) ?_ ?_
    ·refine Ex.forget (nilK 10 1 rfl) ?_
     refine Ex.castA (a2:=mkS 39 [(1,.sl (others_2.map (SV bG)) none),(2,.fn 43 [] [.ptr 0 0]),(7,.sl (table_8.map (SV AV.bool)) (some 0)),(9,.ptr 1 0),(10,.sl (([] : List Bool).map AV.bool) (some 1)),(13,.sl (list_1.map bC) none),(14,i6 ((list_1.length : Nat) : Int)),(15,i6 y_9),(19,.sl (others_2.map (SV bG)) none),(20,i6 ((others_2.length : Nat) : Int)),(21,i6 0)]) (S2:=⟨[[.sl (a_3.map aO) none],(dG x_14)],[(table_8.length,1),(0,1)]⟩) (by kernel_rfl) (by kernel_rfl) ?_
     obtain ⟨B_22,hB_23,h⟩:=kD h
     refine Ex.loopF (fun k a S => ∃ (row_19 : List Bool),∃ (y_20 : Int),loop2 B_22 k row_19 y_20 = some r ∧ a = mkS 39 [(1,.sl (others_2.map (SV bG)) none),(2,.fn 43 [] [.ptr 0 0]),(7,.sl (table_8.map (SV AV.bool)) (some 0)),(9,.ptr 1 0),(10,.sl (row_19.map AV.bool) (some 1)),(13,.sl (list_1.map bC) none),(14,i6 ((list_1.length : Nat) : Int)),(15,i6 y_9),(19,.sl (others_2.map (SV bG)) none),(20,i6 ((others_2.length : Nat) : Int)),(21,i6 y_20)] ∧ S = ⟨[[.sl (a_3.map aO) none],(dG x_14)],[(table_8.length,1),(row_19.length,1)]⟩) N ⟨_,_,aL.refl _ _ _,[],0,h,rfl,rfl⟩ ?_
     rintro k a S ⟨row_19,y_20,h,rfl,rfl⟩
     cases k with
     | zero => exact (kB h).elim
     | succ k =>
      replace h:=kC h hB_23
      refine Ex.seq (rg 1 [1,2,7,9,10,13,14,15,19,20,21,22] (mkS 39 [(1,.sl (others_2.map (SV bG)) none),(2,.fn 43 [] [.ptr 0 0]),(7,.sl (table_8.map (SV AV.bool)) (some 0)),(9,.ptr 1 0),(10,.sl (row_19.map AV.bool) (some 1)),(13,.sl (list_1.map bC) none),(14,i6 ((list_1.length : Nat) : Int)),(15,i6 y_9),(19,.sl (others_2.map (SV bG)) none),(20,i6 ((others_2.length : Nat) : Int)),(21,i6 y_20),(22,.bool (decide (y_20 < ((others_2.length : Nat) : Int))))]) ⟨[[.sl (a_3.map aO) none],(dG x_14)],[(table_8.length,1),(row_19.length,1)]⟩ ?_)
      refine Ex.seq ?_
      rcases aU h with ⟨hc_24,h⟩ | ⟨hc_24,h⟩
      ·refine Ex.condT _ rfl hc_24 ?_
       refine Ex.skip ?_
       refine Ex.seq ?_
       refine Ex.blockK ?_
       refine Ex.seq ?_
       obtain ⟨x_25,hx_25,h⟩:=bE h
       refine regH 3 [(0,.rop [.sl (x_25.map bG) none])] [1,2,7,9,10,12,13,14,15,19,20,21] [LGet (others_2.map (SV bG)) y_20 1 [.sl (x_25.map bG) none]] (mkS 39 [(1,.sl (others_2.map (SV bG)) none),(2,.fn 43 [] [.ptr 0 0]),(7,.sl (table_8.map (SV AV.bool)) (some 0)),(9,.ptr 1 0),(10,.sl (row_19.map AV.bool) (some 1)),(12,.sl (x_25.map bG) none),(13,.sl (list_1.map bC) none),(14,i6 ((list_1.length : Nat) : Int)),(15,i6 y_9),(19,.sl (others_2.map (SV bG)) none),(20,i6 ((others_2.length : Nat) : Int)),(21,i6 y_20)]) (⟨[[.sl (a_3.map aO) none],(dG x_14)],[(table_8.length,1),(row_19.length,1)]⟩) (by kernel_rfl) ⟨LGet.of hx_25 rfl,trivial⟩ rfl ?_
       obtain ⟨r_26,hr_26,h⟩:=bE h
       refine Ex.reg (rn 4 [1,2,7,9,13,14,15,19,20,21,25,26,27,28] (mkS 39 [(1,.sl (others_2.map (SV bG)) none),(2,.fn 43 [] [.ptr 0 0]),(7,.sl (table_8.map (SV AV.bool)) (some 0)),(9,.ptr 1 0),(13,.sl (list_1.map bC) none),(14,i6 ((list_1.length : Nat) : Int)),(15,i6 y_9),(19,.sl (others_2.map (SV bG)) none),(20,i6 ((others_2.length : Nat) : Int)),(21,i6 y_20),(25,.sl (row_19.map AV.bool) (some 1)),(26,.fn 43 [] [.ptr 0 0]),(27,(bC x_14)),(28,.sl (x_25.map bG) none)]) ⟨[[.sl (a_3.map aO) none],(dG x_14)],[(table_8.length,1),(row_19.length,1)]⟩ ?_)
       refine ExO.callL [0] [(bC x_14),.sl (x_25.map bG) none,.ptr 0 0] rfl rfl (by simp; try rfl) rfl (by simp) (zJ N x_14 x_25 a_3 r_26 hr_26) (zQ _ _ _ _) (by simp) ?_
       obtain ⟨l_27,hl_27,h⟩:=bE h
       refine runH 3 [(1,.app (l_27.map AV.bool) l_27.length)] [1,2,7,9,10,13,14,15,19,20,21] [LApp row_19.length (row_19.map AV.bool) (([r_26] : List Bool).map AV.bool) 1 (l_27.map AV.bool) l_27.length] (mkS 39 [(1,.sl (others_2.map (SV bG)) none),(2,.fn 43 [] [.ptr 0 0]),(7,.sl (table_8.map (SV AV.bool)) (some 0)),(9,.ptr 1 0),(10,.sl (l_27.map AV.bool) (some 1)),(13,.sl (list_1.map bC) none),(14,i6 ((list_1.length : Nat) : Int)),(15,i6 y_9),(19,.sl (others_2.map (SV bG)) none),(20,i6 ((others_2.length : Nat) : Int)),(21,i6 y_20)]) (⟨[[.sl (a_3.map aO) none],(dG x_14)],[(table_8.length,1),(l_27.length,1),(1,1)]⟩) (by kernel_rfl) ⟨LApp.of hl_27 (fun _ => rfl),trivial⟩ ?_
       refine ExO.nil ?_
       refine rg 2 [1,2,7,9,10,13,14,15,19,20,21] (mkS 39 [(1,.sl (others_2.map (SV bG)) none),(2,.fn 43 [] [.ptr 0 0]),(7,.sl (table_8.map (SV AV.bool)) (some 0)),(9,.ptr 1 0),(10,.sl (l_27.map AV.bool) (some 1)),(13,.sl (list_1.map bC) none),(14,i6 ((list_1.length : Nat) : Int)),(15,i6 y_9),(19,.sl (others_2.map (SV bG)) none),(20,i6 ((others_2.length : Nat) : Int)),(21,i6 (IntKind.i64.wrap (y_20 + 1)))]) ⟨[[.sl (a_3.map aO) none],(dG x_14)],[(table_8.length,1),(l_27.length,1),(1,1)]⟩ ?_
       dsimp only
       exact ⟨_,_,bU (m:=39) 2 [0,1] [(1,.sl (others_2.map (SV bG)) none),(2,.fn 43 [] [.ptr 0 0]),(7,.sl (table_8.map (SV AV.bool)) (some 0)),(9,.ptr 1 0),(10,.sl (l_27.map AV.bool) (some 1)),(13,.sl (list_1.map bC) none),(14,i6 ((list_1.length : Nat) : Int)),(15,i6 y_9),(19,.sl (others_2.map (SV bG)) none),(20,i6 ((others_2.length : Nat) : Int)),(21,i6 (IntKind.i64.wrap (y_20 + 1)))] [[.sl (a_3.map aO) none],(dG x_14)] [(table_8.length,1),(l_27.length,1)] (by simp [bH]) (by simp) ⟨(reN (eA (fun _ => (by simp only [SV,AV.clean]; exact (kS _))) _)),(by show re 2 [0,1] (.fn 43 [] [.ptr 0 0]) = some (.fn 43 [] [.ptr 0 0]); simp [re,re1,AV.clean,List.idxOf?,List.findIdx?,List.findIdx?.go,bB,fG,dP,fI,eX,cS,cV,eP,fT,cG,cF,dZ,eO,dC,dB,jR,rY,kS,kT,cN,aK,aN,aX,aJ,aY,aP,aH,aA,aE,bO,bQ,dW,dF,eN,dX,aI,aB,aM,aC,aO,bJ,pZ,oG,bG,oH,bC,dG]),(reT (eA (fun _ => (by simp only [SV,AV.clean]; exact (dP _))) _) rfl),rfl,(reT (dP _) rfl),(reN (kT _)),rfl,rfl,(reN (eA (fun _ => (by simp only [SV,AV.clean]; exact (kS _))) _)),rfl,rfl,trivial⟩ (by simp) rfl (by decide),k,Nat.lt_succ_self k,l_27,(IntKind.i64.wrap (y_20 + 1)),h,rfl,rfl⟩
      ·refine Ex.condF _ rfl hc_24 ?_
       refine Ex.exit ?_
       (try simp only [reduceCtorEq,AEx.ex.injEq,Nat.reduceEqDiff,if_true,if_false])
       exact ⟨_,_,bU (m:=39) 1 [0,1] [(1,.sl (others_2.map (SV bG)) none),(2,.fn 43 [] [.ptr 0 0]),(7,.sl (table_8.map (SV AV.bool)) (some 0)),(10,.sl (row_19.map AV.bool) (some 1)),(13,.sl (list_1.map bC) none),(14,i6 ((list_1.length : Nat) : Int)),(15,i6 y_9)] [[.sl (a_3.map aO) none]] [(table_8.length,1),(row_19.length,1)] (by simp [bH]) (by simp) ⟨(reN (eA (fun _ => (by simp only [SV,AV.clean]; exact (kS _))) _)),(by show re 1 [0,1] (.fn 43 [] [.ptr 0 0]) = some (.fn 43 [] [.ptr 0 0]); simp [re,re1,AV.clean,List.idxOf?,List.findIdx?,List.findIdx?.go,bB,fG,dP,fI,eX,cS,cV,eP,fT,cG,cF,dZ,eO,dC,dB,jR,rY,kS,kT,cN,aK,aN,aX,aJ,aY,aP,aH,aA,aE,bO,bQ,dW,dF,eN,dX,aI,aB,aM,aC,aO,bJ,pZ,oG,bG,oH,bC,dG]),(reT (eA (fun _ => (by simp only [SV,AV.clean]; exact (dP _))) _) rfl),(reT (dP _) rfl),(reN (kT _)),rfl,rfl,trivial⟩ (by simp) rfl (by decide),row_19,h,rfl,rfl⟩
    ·rintro a S ⟨row_15,h,rfl,rfl⟩
     subst hK_18
     refine Ex.postF ?_
     obtain ⟨l_28,hl_28,h⟩:=bE h
     refine regH 5 [(3,.app (l_28.map (SV AV.bool)) l_28.length)] [1,2,7,13,14,15] [LApp table_8.length (table_8.map (SV AV.bool)) (([row_15] : List (List Bool)).map (SV AV.bool)) 1 (l_28.map (SV AV.bool)) l_28.length] (mkS 39 [(1,.sl (others_2.map (SV bG)) none),(2,.fn 43 [] [.ptr 0 0]),(7,.sl (l_28.map (SV AV.bool)) (some 0)),(13,.sl (list_1.map bC) none),(14,i6 ((list_1.length : Nat) : Int)),(15,i6 y_9)]) (⟨[[.sl (a_3.map aO) none]],[(l_28.length,1),(row_15.length,1),(1,1)]⟩) (by kernel_rfl) ⟨LApp.of hl_28 (fun _ => rfl),trivial⟩ rfl ?_
     refine ⟨mkS 39 [(1,.sl (others_2.map (SV bG)) none),(2,.fn 43 [] [.ptr 0 0]),(7,.sl (l_28.map (SV AV.bool)) (some 0)),(13,.sl (list_1.map bC) none),(14,i6 ((list_1.length : Nat) : Int)),(15,i6 y_9)],⟨[[.sl (a_3.map aO) none]],[(l_28.length,1),(row_15.length,1),(1,1)]⟩,aL.refl _ _ _,?_⟩
     refine rg 2 [1,2,7,13,14,15] (mkS 39 [(1,.sl (others_2.map (SV bG)) none),(2,.fn 43 [] [.ptr 0 0]),(7,.sl (l_28.map (SV AV.bool)) (some 0)),(13,.sl (list_1.map bC) none),(14,i6 ((list_1.length : Nat) : Int)),(15,i6 (IntKind.i64.wrap (y_9 + 1)))]) ⟨[[.sl (a_3.map aO) none]],[(l_28.length,1),(row_15.length,1),(1,1)]⟩ ?_
     dsimp only
     exact ⟨_,_,bU (m:=39) 1 [0] [(1,.sl (others_2.map (SV bG)) none),(2,.fn 43 [] [.ptr 0 0]),(7,.sl (l_28.map (SV AV.bool)) (some 0)),(13,.sl (list_1.map bC) none),(14,i6 ((list_1.length : Nat) : Int)),(15,i6 (IntKind.i64.wrap (y_9 + 1)))] [[.sl (a_3.map aO) none]] [(l_28.length,1)] (by simp [bH]) (by simp) ⟨(reN (eA (fun _ => (by simp only [SV,AV.clean]; exact (kS _))) _)),(by show re 1 [0] (.fn 43 [] [.ptr 0 0]) = some (.fn 43 [] [.ptr 0 0]); simp [re,re1,AV.clean,List.idxOf?,List.findIdx?,List.findIdx?.go,bB,fG,dP,fI,eX,cS,cV,eP,fT,cG,cF,dZ,eO,dC,dB,jR,rY,kS,kT,cN,aK,aN,aX,aJ,aY,aP,aH,aA,aE,bO,bQ,dW,dF,eN,dX,aI,aB,aM,aC,aO,bJ,pZ,oG,bG,oH,bC,dG]),(reT (eA (fun _ => (by simp only [SV,AV.clean]; exact (dP _))) _) rfl),(reN (kT _)),rfl,rfl,trivial⟩ (by simp) rfl (by decide),k,Nat.lt_succ_self k,l_28,(IntKind.i64.wrap (y_9 + 1)),h,rfl,rfl⟩
   ·refine Ex.condF _ rfl hc_13 ?_
    refine Ex.exit ?_
    (try simp only [reduceCtorEq,AEx.ex.injEq,Nat.reduceEqDiff,if_true,if_false])
    exact ⟨_,_,bS [7],table_8,h,rfl,rfl⟩
 ·rintro a S ⟨table_4,h,rfl,rfl⟩
  subst hK_7
  refine Ex.seq (rg 2 [6] (mkS 39 [(6,.sl (table_4.map (SV AV.bool)) (some 0))]) ⟨[[.sl (a_3.map aO) none]],[(table_4.length,1)]⟩ ?_)
  refine Ex.ret ?_
  obtain rfl:=sJ h
  exact rt (.sl (table_4.map (SV AV.bool)) (some 0))
def qO (N : Nat) (frames_1 : (List cE)) (designs_2 : (List (List cI))) (route_3 : (List bN)) : Option ((List (List Bool)) × Int):=(letJ (fun (y_4 : Bool) => (bif y_4 then some ([],5) else ((pL N route_3).bind fun r_10 => (bif (r_10 != 0) then some ([],r_10) else ((cZ N frames_1 designs_2 route_3).bind fun r_12 => some (r_12,0)))))) (fun k_5 => (bif (decide (((frames_1.length : Nat) : Int) > 6)) then (k_5 true) else (k_5 (decide (((designs_2.length : Nat) : Int) > 6))))))
def nM (r : (List (List Bool)) × Int) : AV:=.tup [.sl (r.1.map (SV AV.bool)) none,i6 r.2]
attribute [local simp] nM
theorem aCx (frames_1 : (List cE)) (designs_2 : (List (List cI))) (route_3 : (List bN)) : [.sl (frames_1.map bC) none,.sl (designs_2.map (SV bG)) none,.sl (route_3.map aO) none].mapM (ren []) = some [.sl (frames_1.map bC) none,.sl (designs_2.map (SV bG)) none,.sl (route_3.map aO) none]:=by simp
theorem aCp (r : (List (List Bool)) × Int) (n n2 m : Nat) : back n n2 m (nM r) = some (nM r):=by simp
theorem aBY (N : Nat) (frames_1 : (List cE)) (designs_2 : (List (List cI))) (route_3 : (List bN)) (r : (List (List Bool)) × Int) (h : qO N frames_1 designs_2 route_3 = some r) : Does Tryz.prog 12 [.sl (frames_1.map bC) none,.sl (designs_2.map (SV bG)) none,.sl (route_3.map aO) none] [] fun v c => v = nM r ∧ c = []:=by
 unfold qO at h
 refine Does.ofL comp12 _ _ rfl rfl ?_
 refine Ex.seq (rg 3 [0,1,5] (mkS 26 [(0,.sl (frames_1.map bC) none),(1,.sl (designs_2.map (SV bG)) none),(5,.ptr 0 0)]) ⟨[[.sl (route_3.map aO) none]],[]⟩ ?_)
 refine Ex.seq ?_
 obtain ⟨K_6,hK_7,h⟩:=letE h
 refine Ex.seqJ (fun a S => ∃ (y_4 : Bool),K_6 y_4 = some r ∧ a = mkS 26 [(0,.sl (frames_1.map bC) none),(1,.sl (designs_2.map (SV bG)) none),(5,.ptr 0 0),(16,.bool y_4)] ∧ S = ⟨[[.sl (route_3.map aO) none]],[]⟩) ?_ ?_
 ·rcases aU h with ⟨hc_8,h⟩ | ⟨hc_8,h⟩
  ·refine regH 8 [(1, .eq (i6 ((frames_1.length : Nat) : Int))), (3, .eq (.bool true))] [0, 1, 5, 16] [AV.int .i64 (((frames_1.map bC).length : Nat) : Int) = AV.int .i64 ((frames_1.length : Nat) : Int), AV.bool (decide (((frames_1.length : Nat) : Int) > 6)) = AV.bool true] (mkS 26 [(0, .sl (frames_1.map bC) none), (1, .sl (designs_2.map (SV bG)) none), (5, .ptr 0 0), (16, .bool true)]) (⟨[[.sl (route_3.map aO) none]], []⟩) (by kernel_rfl) ⟨lenM _ _, congrArg AV.bool hc_8, trivial⟩ rfl ?_
   (try simp only [reduceCtorEq,AEx.ex.injEq,Nat.reduceEqDiff,if_true,if_false])
   exact ⟨_,_,aL.refl _ _ _,true,h,rfl,rfl⟩
  ·refine regH 8 [(1, .eq (i6 ((frames_1.length : Nat) : Int))), (3, .eq (.bool false)), (5, .eq (i6 ((designs_2.length : Nat) : Int)))] [0, 1, 5, 16] [AV.int .i64 (((frames_1.map bC).length : Nat) : Int) = AV.int .i64 ((frames_1.length : Nat) : Int), AV.bool (decide (((frames_1.length : Nat) : Int) > 6)) = AV.bool false, AV.int .i64 (((designs_2.map (SV bG)).length : Nat) : Int) = AV.int .i64 ((designs_2.length : Nat) : Int)] (mkS 26 [(0, .sl (frames_1.map bC) none), (1, .sl (designs_2.map (SV bG)) none), (5, .ptr 0 0), (16, .bool (decide (((designs_2.length : Nat) : Int) > 6)))]) (⟨[[.sl (route_3.map aO) none]], []⟩) (by kernel_rfl) ⟨lenM _ _, congrArg AV.bool hc_8, lenM _ _, trivial⟩ rfl ?_
   (try simp only [reduceCtorEq,AEx.ex.injEq,Nat.reduceEqDiff,if_true,if_false])
   exact ⟨_,_,aL.refl _ _ _,(decide (((designs_2.length : Nat) : Int) > 6)),h,rfl,rfl⟩
 ·rintro a S ⟨y_4,h,rfl,rfl⟩
  subst hK_7
  rcases aU h with ⟨hc_9,h⟩ | ⟨hc_9,h⟩
  ·refine Ex.condT _ rfl hc_9 ?_
   refine Ex.seq (rg 2 [6,7] (mkS 26 [(6,.nils),(7,i6 5)]) ⟨[[.sl (route_3.map aO) none]],[]⟩ ?_)
   refine Ex.ret ?_
   obtain rfl:=sJ h
   exact rt (.tup [.nils,i6 5])
  ·refine Ex.condF _ rfl hc_9 ?_
   refine Ex.skip ?_
   refine Ex.seq (Ex.seq ?_)
   obtain ⟨r_10,hr_10,h⟩:=bE h
   refine Ex.reg (rn 1 [0,1,5,17] (mkS 26 [(0,.sl (frames_1.map bC) none),(1,.sl (designs_2.map (SV bG)) none),(5,.ptr 0 0),(17,.sl (route_3.map aO) none)]) ⟨[[.sl (route_3.map aO) none]],[]⟩ ?_)
   refine ExO.callL [] [.sl (route_3.map aO) none] rfl rfl (aBz route_3) rfl rfl (aBe N route_3 r_10 hr_10) (aBq _ _ _ _) rfl ?_
   refine rn 1 [0,1,5,8] (mkS 26 [(0,.sl (frames_1.map bC) none),(1,.sl (designs_2.map (SV bG)) none),(5,.ptr 0 0),(8,i6 r_10)]) ⟨[[.sl (route_3.map aO) none]],[]⟩ ?_
   refine ExO.nil ?_
   refine Ex.seq (rg 2 [0,1,5,8,20] (mkS 26 [(0,.sl (frames_1.map bC) none),(1,.sl (designs_2.map (SV bG)) none),(5,.ptr 0 0),(8,i6 r_10),(20,.bool (r_10 != 0))]) ⟨[[.sl (route_3.map aO) none]],[]⟩ ?_)
   rcases aU h with ⟨hc_11,h⟩ | ⟨hc_11,h⟩
   ·refine Ex.condT _ rfl hc_11 ?_
    refine Ex.seq (rg 3 [6,7] (mkS 26 [(6,.nils),(7,i6 r_10)]) ⟨[[.sl (route_3.map aO) none]],[]⟩ ?_)
    refine Ex.ret ?_
    obtain rfl:=sJ h
    exact rt (.tup [.nils,i6 r_10])
   ·refine Ex.condF _ rfl hc_11 ?_
    refine Ex.skip ?_
    refine Ex.seq ?_
    obtain ⟨r_12,hr_12,h⟩:=bE h
    refine Ex.reg (rn 3 [22,23,24] (mkS 26 [(22,.sl (frames_1.map bC) none),(23,.sl (designs_2.map (SV bG)) none),(24,.fn 43 [] [.ptr 0 0])]) ⟨[[.sl (route_3.map aO) none]],[]⟩ ?_)
    refine ExO.callL [0] [.sl (frames_1.map bC) none,.sl (designs_2.map (SV bG)) none,.fn 43 [] [.ptr 0 0]] rfl rfl (by simp; try rfl) rfl (by simp) (iB N frames_1 designs_2 route_3 r_12 hr_12) (iC _ _ _ _) (by simp) ?_
    refine rn 2 [6,7] (mkS 26 [(6,.sl (r_12.map (SV AV.bool)) none),(7,i6 0)]) ⟨[[.sl (route_3.map aO) none]],[]⟩ ?_
    refine ExO.nil ?_
    refine Ex.ret ?_
    obtain rfl:=sJ h
    exact rt (.tup [.sl (r_12.map (SV AV.bool)) none,i6 0])
def pH (N : Nat) (frames_1 : (List cE)) (designs_2 : (List (List cI))) (route_3 : (List bN)) : Option ((List Int) × Int):=((qO N frames_1 designs_2 route_3).bind fun r_4 => (bif (r_4.2 != 0) then some ([],r_4.2) else ((kX N r_4.1 ((designs_2.length : Nat) : Int)).bind fun r_6 => some (r_6,0))))
def mF (r : (List Int) × Int) : AV:=.tup [.sl (r.1.map (AV.int .i64)) none,i6 r.2]
attribute [local simp] mF
theorem aBu (frames_1 : (List cE)) (designs_2 : (List (List cI))) (route_3 : (List bN)) : [.sl (frames_1.map bC) none,.sl (designs_2.map (SV bG)) none,.sl (route_3.map aO) none].mapM (ren []) = some [.sl (frames_1.map bC) none,.sl (designs_2.map (SV bG)) none,.sl (route_3.map aO) none]:=by simp
theorem aBl (r : (List Int) × Int) (n n2 m : Nat) : back n n2 m (mF r) = some (mF r):=by simp
theorem aAY (N : Nat) (frames_1 : (List cE)) (designs_2 : (List (List cI))) (route_3 : (List bN)) (r : (List Int) × Int) (h : pH N frames_1 designs_2 route_3 = some r) : Does Tryz.prog 20 [.sl (frames_1.map bC) none,.sl (designs_2.map (SV bG)) none,.sl (route_3.map aO) none] [] fun v c => v = mF r ∧ c = []:=by
 unfold pH at h
 refine Does.ofL comp20 _ _ rfl rfl ?_
 refine Ex.seq (rg 2 [0,1,2] (mkS 24 [(0,.sl (frames_1.map bC) none),(1,.sl (designs_2.map (SV bG)) none),(2,.sl (route_3.map aO) none)]) ⟨[],[]⟩ ?_)
 refine Ex.seq ?_
 obtain ⟨r_4,hr_4,h⟩:=bE h
 refine Ex.reg (rn 3 [1,11,12,13] (mkS 24 [(1,.sl (designs_2.map (SV bG)) none),(11,.sl (frames_1.map bC) none),(12,.sl (designs_2.map (SV bG)) none),(13,.sl (route_3.map aO) none)]) ⟨[],[]⟩ ?_)
 refine ExO.callL [] [.sl (frames_1.map bC) none,.sl (designs_2.map (SV bG)) none,.sl (route_3.map aO) none] rfl rfl (aCx frames_1 designs_2 route_3) rfl rfl (aBY N frames_1 designs_2 route_3 r_4 hr_4) (aCp _ _ _ _) rfl ?_
 refine rn 5 [1,8,9] (mkS 24 [(1,.sl (designs_2.map (SV bG)) none),(8,.sl (r_4.1.map (SV AV.bool)) none),(9,i6 r_4.2)]) ⟨[],[]⟩ ?_
 refine ExO.nil ?_
 refine Ex.seq (Ex.seq ?_)
 refine rg 2 [1,8,9,18] (mkS 24 [(1,.sl (designs_2.map (SV bG)) none),(8,.sl (r_4.1.map (SV AV.bool)) none),(9,i6 r_4.2),(18,.bool (r_4.2 != 0))]) ⟨[],[]⟩ ?_
 rcases aU h with ⟨hc_5,h⟩ | ⟨hc_5,h⟩
 ·refine Ex.condT _ rfl hc_5 ?_
  refine Ex.seq (rg 3 [6,7] (mkS 24 [(6,.nils),(7,i6 r_4.2)]) ⟨[],[]⟩ ?_)
  refine Ex.ret ?_
  obtain rfl:=sJ h
  exact rt (.tup [.nils,i6 r_4.2])
 ·refine Ex.condF _ rfl hc_5 ?_
  refine Ex.skip ?_
  refine Ex.seq ?_
  obtain ⟨r_6,hr_6,h⟩:=bE h
  refine Ex.reg ?_
  refine runH 3 [(2,.eq (i6 ((designs_2.length : Nat) : Int)))] [20,22] [AV.int .i64 (((designs_2.map (SV bG)).length : Nat) : Int) = AV.int .i64 ((designs_2.length : Nat) : Int)] (mkS 24 [(20,.sl (r_4.1.map (SV AV.bool)) none),(22,i6 ((designs_2.length : Nat) : Int))]) (⟨[],[]⟩) (by kernel_rfl) ⟨lenM _ _,trivial⟩ ?_
  refine ExO.callL [] [.sl (r_4.1.map (SV AV.bool)) none,i6 ((designs_2.length : Nat) : Int)] rfl rfl (wG r_4.1 ((designs_2.length : Nat) : Int)) rfl rfl (vQ N r_4.1 ((designs_2.length : Nat) : Int) r_6 hr_6) (vY _ _ _ _) rfl ?_
  refine rn 2 [6,7] (mkS 24 [(6,.sl (r_6.map (AV.int .i64)) none),(7,i6 0)]) ⟨[],[]⟩ ?_
  refine ExO.nil ?_
  refine Ex.ret ?_
  obtain rfl:=sJ h
  exact rt (.tup [.sl (r_6.map (AV.int .i64)) none,i6 0])
def pI (N : Nat)  : Option (aV):=some (⟨[(⟨true,false,false⟩ : bI),(⟨false,true,true⟩ : bI),(⟨false,false,true⟩ : bI)],[(⟨0,1,3⟩ : bR),(⟨0,3,2⟩ : bR),(⟨1,2,4⟩ : bR),(⟨1,3,2⟩ : bR)]⟩ : aV)
def pC (r : aV) : AV:=(aP r)
attribute [local simp] pC
theorem zA  : [].mapM (ren []) = some []:=by simp
theorem yY (r : aV) (n n2 m : Nat) : back n n2 m (pC r) = some (pC r):=by simp
theorem yM (N : Nat)  (r : aV) (h : pI N  = some r) : Does Tryz.prog 56 [] [] fun v c => v = pC r ∧ c = []:=by
 unfold pI at h
 refine Does.ofL comp56 _ _ rfl rfl ?_
 refine Ex.seq (rg 1 [0] (mkS 11 [(0,.ptr 0 0)]) ⟨[[.nils,.nils]],[]⟩ ?_)
 refine Ex.seq (rg 11 [0] (mkS 11 [(0,.ptr 0 0)]) ⟨[[.sl (([(⟨true,false,false⟩ : bI),(⟨false,true,true⟩ : bI),(⟨false,false,true⟩ : bI)] : List bI).map aN) (some 0),.sl (([(⟨0,1,3⟩ : bR),(⟨0,3,2⟩ : bR),(⟨1,2,4⟩ : bR),(⟨1,3,2⟩ : bR)] : List bR).map aJ) (some 1)]],[(3,3),(4,3)]⟩ ?_)
 refine Ex.ret ?_
 obtain rfl:=sJ h
 exact rt (.agg [.sl (([(⟨true,false,false⟩ : bI),(⟨false,true,true⟩ : bI),(⟨false,false,true⟩ : bI)] : List bI).map aN) (some 0),.sl (([(⟨0,1,3⟩ : bR),(⟨0,3,2⟩ : bR),(⟨1,2,4⟩ : bR),(⟨1,3,2⟩ : bR)] : List bR).map aJ) (some 1)])
def tB (N : Nat) (worker_1 : Int) (day_2 : Int) : Option ((List aG)):=some ([(⟨0,0⟩ : aG),(⟨worker_1,day_2⟩ : aG),(⟨1,0⟩ : aG),(⟨1,4⟩ : aG)])
def pD (r : (List aG)) : AV:=.sl (r.map aA) none
attribute [local simp] pD
theorem aDn (worker_1 : Int) (day_2 : Int) : [i6 worker_1,i6 day_2].mapM (ren []) = some [i6 worker_1,i6 day_2]:=by simp
theorem aDj (r : (List aG)) (n n2 m : Nat) : back n n2 m (pD r) = some (pD r):=by simp
theorem aDc (N : Nat) (worker_1 : Int) (day_2 : Int) (r : (List aG)) (h : tB N worker_1 day_2 = some r) : Does Tryz.prog 58 [i6 worker_1,i6 day_2] [] fun v c => v = pD r ∧ c = []:=by
 unfold tB at h
 refine Does.ofL comp58 _ _ rfl rfl ?_
 refine Ex.seq (rg 1 [0,1] (mkS 12 [(0,i6 worker_1),(1,i6 day_2)]) ⟨[],[]⟩ ?_)
 refine Ex.seq (rg 8 [4] (mkS 12 [(4,.sl (([(⟨0,0⟩ : aG),(⟨worker_1,day_2⟩ : aG),(⟨1,0⟩ : aG),(⟨1,4⟩ : aG)] : List aG).map aA) (some 0))]) ⟨[],[(4,2)]⟩ ?_)
 refine Ex.ret ?_
 obtain rfl:=sJ h
 exact rt (.sl (([(⟨0,0⟩ : aG),(⟨worker_1,day_2⟩ : aG),(⟨1,0⟩ : aG),(⟨1,4⟩ : aG)] : List aG).map aA) (some 0))
def hY (N : Nat)  : Option (Bool):=((pJ N).bind fun r_1 => ((oC N).bind fun r_2 => ((pK N).bind fun r_3 => ((pH N r_1 r_2 r_3).bind fun r_4 => ((pI N).bind fun r_5 => ((hU N r_5).bind fun r_6 => ((pI N).bind fun r_7 => ((iM N r_7).bind fun r_8 => (bif (r_4.2 == 0) then (bif (r_6.2.2 == 0) then (bif (r_8.2 == 0) then (bif (r_6.2.1 == 6) then (bif (r_8.1 == 6) then ((qR N r_4.1 [1,0]).bind fun r_14 => (bif r_14 then ((tB N 2 3).bind fun r_16 => ((oD N r_6.1 r_16).bind fun r_17 => some r_17)) else some false)) else some false) else some false) else some false) else some false) else some false)))))))))
def nS (r : Bool) : AV:=.bool r
attribute [local simp] nS
theorem wT  : [].mapM (ren []) = some []:=by simp
theorem wR (r : Bool) (n n2 m : Nat) : back n n2 m (nS r) = some (nS r):=by simp
theorem wP (N : Nat)  (r : Bool) (h : hY N  = some r) : Does Tryz.prog 19 [] [] fun v c => v = nS r ∧ c = []:=by
 unfold hY at h
 refine Does.ofL comp19 _ _ rfl rfl ?_
 refine Ex.seq (rg 1 [] (mkS 54 []) ⟨[],[]⟩ ?_)
 refine Ex.seq ?_
 obtain ⟨r_1,hr_1,h⟩:=bE h
 refine Ex.reg ?_
 refine ExO.callL [] [] rfl rfl (aBx) rfl rfl (aBb N r_1 hr_1) (aBo _ _ _ _) rfl ?_
 obtain ⟨r_2,hr_2,h⟩:=bE h
 refine ExO.callL [] [] rfl rfl (zX) rfl rfl (zM N r_2 hr_2) (zT _ _ _ _) rfl ?_
 obtain ⟨r_3,hr_3,h⟩:=bE h
 refine ExO.callL [] [] rfl rfl (aBy) rfl rfl (aBc N r_3 hr_3) (aBp _ _ _ _) rfl ?_
 obtain ⟨r_4,hr_4,h⟩:=bE h
 refine ExO.callL [] [.sl (r_1.map bC) none,.sl (r_2.map (SV bG)) none,.sl (r_3.map aO) none] rfl rfl (aBu r_1 r_2 r_3) rfl rfl (aAY N r_1 r_2 r_3 r_4 hr_4) (aBl _ _ _ _) rfl ?_
 refine rn 5 [1,2] (mkS 54 [(1,.sl (r_4.1.map (AV.int .i64)) none),(2,i6 r_4.2)]) ⟨[],[]⟩ ?_
 refine ExO.nil ?_
 refine Ex.seq ?_
 obtain ⟨r_5,hr_5,h⟩:=bE h
 refine Ex.reg ?_
 refine ExO.callL [] [] rfl rfl (zA) rfl rfl (yM N r_5 hr_5) (yY _ _ _ _) rfl ?_
 obtain ⟨r_6,hr_6,h⟩:=bE h
 refine ExO.callL [] [(aP r_5)] rfl rfl (wS r_5) rfl rfl (wO N r_5 r_6 hr_6) (wQ _ _ _ _) rfl ?_
 refine rn 7 [1,2,3,4,5] (mkS 54 [(1,.sl (r_4.1.map (AV.int .i64)) none),(2,i6 r_4.2),(3,.sl (r_6.1.map aA) none),(4,i6 r_6.2.1),(5,i6 r_6.2.2)]) ⟨[],[]⟩ ?_
 refine ExO.nil ?_
 refine Ex.seq ?_
 obtain ⟨r_7,hr_7,h⟩:=bE h
 refine Ex.reg ?_
 refine ExO.callL [] [] rfl rfl (zA) rfl rfl (yM N r_7 hr_7) (yY _ _ _ _) rfl ?_
 obtain ⟨r_8,hr_8,h⟩:=bE h
 refine ExO.callL [] [(aP r_7)] rfl rfl (uV r_7) rfl rfl (uJ N r_7 r_8 hr_8) (uP _ _ _ _) rfl ?_
 refine rn 5 [1,2,3,4,5,6,7] (mkS 54 [(1,.sl (r_4.1.map (AV.int .i64)) none),(2,i6 r_4.2),(3,.sl (r_6.1.map aA) none),(4,i6 r_6.2.1),(5,i6 r_6.2.2),(6,i6 r_8.1),(7,i6 r_8.2)]) ⟨[],[]⟩ ?_
 refine ExO.nil ?_
 refine Ex.seq ?_
 rcases aU h with ⟨hc_9,h⟩ | ⟨hc_9,h⟩
 ·rcases aU h with ⟨hc_10,h⟩ | ⟨hc_10,h⟩
  ·rcases aU h with ⟨hc_11,h⟩ | ⟨hc_11,h⟩
   ·rcases aU h with ⟨hc_12,h⟩ | ⟨hc_12,h⟩
    ·rcases aU h with ⟨hc_13,h⟩ | ⟨hc_13,h⟩
     ·obtain ⟨r_14,hr_14,h⟩:=bE h
      refine Ex.reg ?_
      refine runH 21 [(2,.eq (.bool true)),(6,.eq (.bool true)),(10,.eq (.bool true)),(14,.eq (.bool true)),(18,.eq (.bool true))] [3,44,45,46] [AV.bool (r_4.2 == 0) = AV.bool true,AV.bool (r_6.2.2 == 0) = AV.bool true,AV.bool (r_8.2 == 0) = AV.bool true,AV.bool (r_6.2.1 == 6) = AV.bool true,AV.bool (r_8.1 == 6) = AV.bool true] (mkS 54 [(3,.sl (r_6.1.map aA) none),(44,.bool true),(45,.sl (r_4.1.map (AV.int .i64)) none),(46,.sl (([1,0] : List Int).map (AV.int .i64)) (some 0))]) (⟨[],[(2,1)]⟩) (by kernel_rfl) ⟨congrArg AV.bool hc_9,congrArg AV.bool hc_10,congrArg AV.bool hc_11,congrArg AV.bool hc_12,congrArg AV.bool hc_13,trivial⟩ ?_
      refine ExO.callL [] [.sl (r_4.1.map (AV.int .i64)) none,.sl (([1,0] : List Int).map (AV.int .i64)) (some 0)] rfl rfl (aCC r_4.1 [1,0]) rfl rfl (aCe N r_4.1 [1,0] r_14 hr_14) (aCv _ _ _ _) rfl ?_
      rcases aU h with ⟨hc_15,h⟩ | ⟨hc_15,h⟩
      ·obtain ⟨r_16,hr_16,h⟩:=bE h
       refine runH 3 [(1,.eq (.bool true))] [49,50] [AV.bool r_14 = AV.bool true] (mkS 54 [(49,.bool true),(50,.sl (r_6.1.map aA) none)]) (⟨[],[(2,1)]⟩) (by kernel_rfl) ⟨congrArg AV.bool hc_15,trivial⟩ ?_
       refine ExO.callL [] [i6 2,i6 3] rfl rfl (aDn 2 3) rfl rfl (aDc N 2 3 r_16 hr_16) (aDj _ _ _ _) rfl ?_
       obtain ⟨r_17,hr_17,h⟩:=bE h
       refine ExO.callL [] [.sl (r_6.1.map aA) none,.sl (r_16.map aA) none] rfl rfl (zY r_6.1 r_16) rfl rfl (zN N r_6.1 r_16 r_17 hr_17) (zU _ _ _ _) rfl ?_
       refine rn 2 [0] (mkS 54 [(0,.bool r_17)]) ⟨[],[(2,1)]⟩ ?_
       refine ExO.nil ?_
       refine Ex.ret ?_
       obtain rfl:=sJ h
       exact rt (.bool r_17)
      ·refine runH 7 [(1, .eq (.bool false))] [0] [AV.bool r_14 = AV.bool false] (mkS 54 [(0, .bool false)]) (⟨[], [(2, 1)]⟩) (by kernel_rfl) ⟨congrArg AV.bool hc_15, trivial⟩ ?_
       refine ExO.nil ?_
       refine Ex.ret ?_
       obtain rfl:=sJ h
       exact rt (.bool false)
     ·refine regH 29 [(2, .eq (.bool true)), (6, .eq (.bool true)), (10, .eq (.bool true)), (14, .eq (.bool true)), (18, .eq (.bool false))] [0] [AV.bool (r_4.2 == 0) = AV.bool true, AV.bool (r_6.2.2 == 0) = AV.bool true, AV.bool (r_8.2 == 0) = AV.bool true, AV.bool (r_6.2.1 == 6) = AV.bool true, AV.bool (r_8.1 == 6) = AV.bool false] (mkS 54 [(0, .bool false)]) (⟨[], []⟩) (by kernel_rfl) ⟨congrArg AV.bool hc_9, congrArg AV.bool hc_10, congrArg AV.bool hc_11, congrArg AV.bool hc_12, congrArg AV.bool hc_13, trivial⟩ rfl ?_
      refine Ex.ret ?_
      obtain rfl:=sJ h
      exact rt (.bool false)
    ·refine regH 29 [(2, .eq (.bool true)), (6, .eq (.bool true)), (10, .eq (.bool true)), (14, .eq (.bool false))] [0] [AV.bool (r_4.2 == 0) = AV.bool true, AV.bool (r_6.2.2 == 0) = AV.bool true, AV.bool (r_8.2 == 0) = AV.bool true, AV.bool (r_6.2.1 == 6) = AV.bool false] (mkS 54 [(0, .bool false)]) (⟨[], []⟩) (by kernel_rfl) ⟨congrArg AV.bool hc_9, congrArg AV.bool hc_10, congrArg AV.bool hc_11, congrArg AV.bool hc_12, trivial⟩ rfl ?_
     refine Ex.ret ?_
     obtain rfl:=sJ h
     exact rt (.bool false)
   ·refine regH 29 [(2, .eq (.bool true)), (6, .eq (.bool true)), (10, .eq (.bool false))] [0] [AV.bool (r_4.2 == 0) = AV.bool true, AV.bool (r_6.2.2 == 0) = AV.bool true, AV.bool (r_8.2 == 0) = AV.bool false] (mkS 54 [(0, .bool false)]) (⟨[], []⟩) (by kernel_rfl) ⟨congrArg AV.bool hc_9, congrArg AV.bool hc_10, congrArg AV.bool hc_11, trivial⟩ rfl ?_
    refine Ex.ret ?_
    obtain rfl:=sJ h
    exact rt (.bool false)
  ·refine regH 29 [(2, .eq (.bool true)), (6, .eq (.bool false))] [0] [AV.bool (r_4.2 == 0) = AV.bool true, AV.bool (r_6.2.2 == 0) = AV.bool false] (mkS 54 [(0, .bool false)]) (⟨[], []⟩) (by kernel_rfl) ⟨congrArg AV.bool hc_9, congrArg AV.bool hc_10, trivial⟩ rfl ?_
   refine Ex.ret ?_
   obtain rfl:=sJ h
   exact rt (.bool false)
 ·refine regH 29 [(2, .eq (.bool false))] [0] [AV.bool (r_4.2 == 0) = AV.bool false] (mkS 54 [(0, .bool false)]) (⟨[], []⟩) (by kernel_rfl) ⟨congrArg AV.bool hc_9, trivial⟩ rfl ?_
  refine Ex.ret ?_
  obtain rfl:=sJ h
  exact rt (.bool false)
end
end Go.Proofs.YtjjmhjmkdihmnaaGreatDoor
