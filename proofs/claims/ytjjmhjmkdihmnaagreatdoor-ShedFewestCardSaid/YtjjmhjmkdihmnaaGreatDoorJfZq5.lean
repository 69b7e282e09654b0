/- Part 6 of what the law needs: own work, put together. -/
import Derived.Test.YtjjmhjmkdihmnaaGreatDoorJfZq4
set_option linter.unusedVariables false
set_option linter.unusedSimpArgs false
set_option maxRecDepth 10000
set_option maxHeartbeats 4000000
namespace Go.Proofs.YtjjmhjmkdihmnaaGreatDoor
section
open Go.RowKit
attribute [local simp] ren ren1 AV.plain AV.plain1 AV.clean bB fG dP fI eX cS cV eP fT cG cF cN aK aN aX aJ aY aP aH aA aE bO bQ back back1 re re1 List.idxOf? List.findIdx? List.findIdx?.go nK oY zB uZ rK kU fadeS fadeV
def gV (N : Nat) (x_1 : Int) : Option (Bool):=some (x_1 != x_1)
def jC (r : Bool) : AV:=.bool r
attribute [local simp] jC
theorem qF (x_1 : Int) : [i6 x_1].mapM (ren []) = some [i6 x_1]:=by simp
theorem qE (r : Bool) (n n2 m : Nat) : back n n2 m (jC r) = some (jC r):=by simp
theorem qD (N : Nat) (x_1 : Int) (r : Bool) (h : gV N x_1 = some r) : Does Tryz.prog 130 [i6 x_1] [] fun v c => v = jC r ∧ c = []:=by
 unfold gV at h
 refine Does.ofL comp130 _ _ rfl rfl ?_
 refine Ex.seq (rg 1 [0] (mkS 6 [(0,i6 x_1)]) ⟨[],[]⟩ ?_)
 refine Ex.seq (rg 4 [2] (mkS 6 [(2,.bool (x_1 != x_1))]) ⟨[],[]⟩ ?_)
 refine Ex.ret ?_
 obtain rfl:=sJ h
 exact rt (.bool (x_1 != x_1))
def dT (N : Nat) (x_1 : Int) (y_2 : Int) : Option (Int):=((gV N x_1).bind fun r_3 => ((gV N y_2).bind fun r_4 => (bif r_3 then (bif r_4 then some 0 else some (-1)) else (bif r_4 then some 1 else (bif (decide (x_1 < y_2)) then some (-1) else (bif (decide (x_1 > y_2)) then some 1 else some 0))))))
def dS (r : Int) : AV:=i6 r
attribute [local simp] dS
theorem nX (x_1 : Int) (y_2 : Int) : [i6 x_1,i6 y_2].mapM (ren []) = some [i6 x_1,i6 y_2]:=by simp
theorem kN (r : Int) (n n2 m : Nat) : back n n2 m (dS r) = some (dS r):=by simp
theorem kG (N : Nat) (x_1 : Int) (y_2 : Int) (r : Int) (h : dT N x_1 y_2 = some r) : Does Tryz.prog 111 [i6 x_1,i6 y_2] [] fun v c => v = dS r ∧ c = []:=by
 unfold dT at h
 refine Does.ofL comp111 _ _ rfl rfl ?_
 refine Ex.seq (rg 1 [0,1] (mkS 20 [(0,i6 x_1),(1,i6 y_2)]) ⟨[],[]⟩ ?_)
 refine Ex.seq ?_
 obtain ⟨r_3,hr_3,h⟩:=bE h
 refine Ex.reg (rn 1 [0,1,7] (mkS 20 [(0,i6 x_1),(1,i6 y_2),(7,i6 x_1)]) ⟨[],[]⟩ ?_)
 refine ExO.callL [] [i6 x_1] rfl rfl (qF x_1) rfl rfl (qD N x_1 r_3 hr_3) (qE _ _ _ _) rfl ?_
 refine rn 1 [0,1,5] (mkS 20 [(0,i6 x_1),(1,i6 y_2),(5,.bool r_3)]) ⟨[],[]⟩ ?_
 refine ExO.nil ?_
 refine Ex.seq ?_
 obtain ⟨r_4,hr_4,h⟩:=bE h
 refine Ex.reg (rn 1 [0,1,5,9] (mkS 20 [(0,i6 x_1),(1,i6 y_2),(5,.bool r_3),(9,i6 y_2)]) ⟨[],[]⟩ ?_)
 refine ExO.callL [] [i6 y_2] rfl rfl (qF y_2) rfl rfl (qD N y_2 r_4 hr_4) (qE _ _ _ _) rfl ?_
 refine rn 1 [0,1,5,6] (mkS 20 [(0,i6 x_1),(1,i6 y_2),(5,.bool r_3),(6,.bool r_4)]) ⟨[],[]⟩ ?_
 refine ExO.nil ?_
 refine Ex.seq (Ex.seq ?_)
 refine rg 1 [0,1,6,11] (mkS 20 [(0,i6 x_1),(1,i6 y_2),(6,.bool r_4),(11,.bool r_3)]) ⟨[],[]⟩ ?_
 rcases aU h with ⟨hc_5,h⟩ | ⟨hc_5,h⟩
 ·refine Ex.condT _ rfl hc_5 ?_
  refine Ex.seq (Ex.seq ?_)
  refine rg 1 [12] (mkS 20 [(12,.bool r_4)]) ⟨[],[]⟩ ?_
  rcases aU h with ⟨hc_6,h⟩ | ⟨hc_6,h⟩
  ·refine Ex.condT _ rfl hc_6 ?_
   refine Ex.seq (rg 1 [4] (mkS 20 [(4,i6 0)]) ⟨[],[]⟩ ?_)
   refine Ex.ret ?_
   obtain rfl:=sJ h
   exact rt (i6 0)
  ·refine Ex.condF _ rfl hc_6 ?_
   refine Ex.skip ?_
   refine Ex.seq (rg 1 [4] (mkS 20 [(4,i6 (-1))]) ⟨[],[]⟩ ?_)
   refine Ex.ret ?_
   obtain rfl:=sJ h
   exact rt (i6 (-1))
 ·refine Ex.condF _ rfl hc_5 ?_
  refine Ex.skip ?_
  refine Ex.seq (Ex.seq ?_)
  refine rg 1 [0,1,13] (mkS 20 [(0,i6 x_1),(1,i6 y_2),(13,.bool r_4)]) ⟨[],[]⟩ ?_
  rcases aU h with ⟨hc_7,h⟩ | ⟨hc_7,h⟩
  ·refine Ex.condT _ rfl hc_7 ?_
   refine Ex.seq (rg 1 [4] (mkS 20 [(4,i6 1)]) ⟨[],[]⟩ ?_)
   refine Ex.ret ?_
   obtain rfl:=sJ h
   exact rt (i6 1)
  ·refine Ex.condF _ rfl hc_7 ?_
   refine Ex.skip ?_
   refine Ex.seq (Ex.seq ?_)
   refine rg 3 [0,1,16] (mkS 20 [(0,i6 x_1),(1,i6 y_2),(16,.bool (decide (x_1 < y_2)))]) ⟨[],[]⟩ ?_
   rcases aU h with ⟨hc_8,h⟩ | ⟨hc_8,h⟩
   ·refine Ex.condT _ rfl hc_8 ?_
    refine Ex.seq (rg 1 [4] (mkS 20 [(4,i6 (-1))]) ⟨[],[]⟩ ?_)
    refine Ex.ret ?_
    obtain rfl:=sJ h
    exact rt (i6 (-1))
   ·refine Ex.condF _ rfl hc_8 ?_
    refine Ex.skip ?_
    refine Ex.seq (Ex.seq ?_)
    refine rg 3 [19] (mkS 20 [(19,.bool (decide (x_1 > y_2)))]) ⟨[],[]⟩ ?_
    rcases aU h with ⟨hc_9,h⟩ | ⟨hc_9,h⟩
    ·refine Ex.condT _ rfl hc_9 ?_
     refine Ex.seq (rg 1 [4] (mkS 20 [(4,i6 1)]) ⟨[],[]⟩ ?_)
     refine Ex.ret ?_
     obtain rfl:=sJ h
     exact rt (i6 1)
    ·refine Ex.condF _ rfl hc_9 ?_
     refine Ex.skip ?_
     refine Ex.seq (rg 1 [4] (mkS 20 [(4,i6 0)]) ⟨[],[]⟩ ?_)
     refine Ex.ret ?_
     obtain rfl:=sJ h
     exact rt (i6 0)
def iK (N : Nat) (x_1 : aG) (y_2 : aG) : Option (Int):=((dT N x_1.Day y_2.Day).bind fun r_3 => some r_3)
def iF (r : Int) : AV:=i6 r
attribute [local simp] iF
theorem wE (x_1 : aG) (y_2 : aG) : [(aA x_1),(aA y_2)].mapM (ren []) = some [(aA x_1),(aA y_2)]:=by simp
theorem vW (r : Int) (n n2 m : Nat) : back n n2 m (iF r) = some (iF r):=by simp
theorem vO (N : Nat) (x_1 : aG) (y_2 : aG) (r : Int) (h : iK N x_1 y_2 = some r) : Does Tryz.prog 110 [(aA x_1),(aA y_2)] [] fun v c => v = iF r ∧ c = []:=by
 unfold iK at h
 refine Does.ofL comp110 _ _ rfl rfl ?_
 refine Ex.seq (rg 3 [2,3] (mkS 10 [(2,.ptr 0 0),(3,.ptr 1 0)]) ⟨[(aE x_1),(aE y_2)],[]⟩ ?_)
 refine Ex.seq ?_
 obtain ⟨r_3,hr_3,h⟩:=bE h
 refine Ex.reg (rn 4 [6,8] (mkS 10 [(6,i6 x_1.Day),(8,i6 y_2.Day)]) ⟨[(aE x_1),(aE y_2)],[]⟩ ?_)
 refine ExO.callL [] [i6 x_1.Day,i6 y_2.Day] rfl rfl (nX x_1.Day y_2.Day) rfl rfl (kG N x_1.Day y_2.Day r_3 hr_3) (kN _ _ _ _) rfl ?_
 refine rn 1 [4] (mkS 10 [(4,i6 r_3)]) ⟨[(aE x_1),(aE y_2)],[]⟩ ?_
 refine ExO.nil ?_
 refine Ex.ret ?_
 obtain rfl:=sJ h
 exact rt (i6 r_3)
def iJ (N : Nat) (x_1 : aG) (y_2 : aG) : Option (Int):=((dT N x_1.Worker y_2.Worker).bind fun r_3 => some r_3)
def iE (r : Int) : AV:=i6 r
attribute [local simp] iE
theorem wD (x_1 : aG) (y_2 : aG) : [(aA x_1),(aA y_2)].mapM (ren []) = some [(aA x_1),(aA y_2)]:=by simp
theorem vV (r : Int) (n n2 m : Nat) : back n n2 m (iE r) = some (iE r):=by simp
theorem vN (N : Nat) (x_1 : aG) (y_2 : aG) (r : Int) (h : iJ N x_1 y_2 = some r) : Does Tryz.prog 112 [(aA x_1),(aA y_2)] [] fun v c => v = iE r ∧ c = []:=by
 unfold iJ at h
 refine Does.ofL comp112 _ _ rfl rfl ?_
 refine Ex.seq (rg 3 [2,3] (mkS 10 [(2,.ptr 0 0),(3,.ptr 1 0)]) ⟨[(aE x_1),(aE y_2)],[]⟩ ?_)
 refine Ex.seq ?_
 obtain ⟨r_3,hr_3,h⟩:=bE h
 refine Ex.reg (rn 4 [6,8] (mkS 10 [(6,i6 x_1.Worker),(8,i6 y_2.Worker)]) ⟨[(aE x_1),(aE y_2)],[]⟩ ?_)
 refine ExO.callL [] [i6 x_1.Worker,i6 y_2.Worker] rfl rfl (nX x_1.Worker y_2.Worker) rfl rfl (kG N x_1.Worker y_2.Worker r_3 hr_3) (kN _ _ _ _) rfl ?_
 refine rn 1 [4] (mkS 10 [(4,i6 r_3)]) ⟨[(aE x_1),(aE y_2)],[]⟩ ?_
 refine ExO.nil ?_
 refine Ex.ret ?_
 obtain rfl:=sJ h
 exact rt (i6 r_3)
def jY (N : Nat) (vals_1 : (List Int)) : Option (Int):=(letJ (fun (_ : Unit) => some 0) (fun k_2 => (loop1 (fun rec_6 (y_5 : Int) => (bif (decide (y_5 < ((vals_1.length : Nat) : Int))) then ((getI vals_1 y_5).bind fun x_10 => (bif (x_10 != 0) then some x_10 else (rec_6 (IntKind.i64.wrap (y_5 + 1))))) else (k_2 ()))) N 0)))
def mI (r : Int) : AV:=i6 r
attribute [local simp] mI
theorem aBv (vals_1 : (List Int)) : [.sl (vals_1.map (AV.int .i64)) none].mapM (ren []) = some [.sl (vals_1.map (AV.int .i64)) none]:=by simp
theorem aBm (r : Int) (n n2 m : Nat) : back n n2 m (mI r) = some (mI r):=by simp
theorem aAZ (N : Nat) (vals_1 : (List Int)) (r : Int) (h : jY N vals_1 = some r) : Does Tryz.prog 113 [.sl (vals_1.map (AV.int .i64)) none] [] fun v c => v = mI r ∧ c = []:=by
 unfold jY at h
 refine Does.ofL comp113 _ _ rfl rfl ?_
 refine Ex.seq (rg 1 [0] (mkS 18 [(0,.sl (vals_1.map (AV.int .i64)) none)]) ⟨[],[]⟩ ?_)
 refine Ex.seq (rg 1 [0,3] (mkS 18 [(0,.sl (vals_1.map (AV.int .i64)) none),(3,i6 0)]) ⟨[],[]⟩ ?_)
 refine Ex.seq (Ex.seq ?_)
 refine regH 3 [(1,.eq (i6 ((vals_1.length : Nat) : Int)))] [3,6,7,8] [AV.int .i64 (((vals_1.map (AV.int .i64)).length : Nat) : Int) = AV.int .i64 ((vals_1.length : Nat) : Int)] (mkS 18 [(3,i6 0),(6,.sl (vals_1.map (AV.int .i64)) none),(7,i6 ((vals_1.length : Nat) : Int)),(8,i6 0)]) (⟨[],[]⟩) (by kernel_rfl) ⟨lenM _ _,trivial⟩ rfl ?_
 obtain ⟨K_3,hK_4,h⟩:=letE h
 refine Ex.blockJ (fun a S => K_3 () = some r ∧ a = mkS 18 [(3,i6 0)] ∧ S = ⟨[],[]⟩) ?_ ?_
 ·obtain ⟨B_7,hB_8,h⟩:=fW h
  refine Ex.loopF (fun k a S => ∃ (y_5 : Int),loop1 B_7 k y_5 = some r ∧ a = mkS 18 [(3,i6 0),(6,.sl (vals_1.map (AV.int .i64)) none),(7,i6 ((vals_1.length : Nat) : Int)),(8,i6 y_5)] ∧ S = ⟨[],[]⟩) N ⟨_,_,aL.refl _ _ _,0,h,rfl,rfl⟩ ?_
  rintro k a S ⟨y_5,h,rfl,rfl⟩
  cases k with
  | zero => exact (fU h).elim
  | succ k =>
   replace h:=fV h hB_8
   refine Ex.seq (rg 1 [3,6,7,8,9] (mkS 18 [(3,i6 0),(6,.sl (vals_1.map (AV.int .i64)) none),(7,i6 ((vals_1.length : Nat) : Int)),(8,i6 y_5),(9,.bool (decide (y_5 < ((vals_1.length : Nat) : Int))))]) ⟨[],[]⟩ ?_)
   refine Ex.seq ?_
   rcases aU h with ⟨hc_9,h⟩ | ⟨hc_9,h⟩
   ·refine Ex.condT _ rfl hc_9 ?_
    refine Ex.skip ?_
    refine Ex.seq ?_
    refine Ex.blockK ?_
    refine Ex.seq ?_
    obtain ⟨x_10,hx_10,h⟩:=bE h
    refine regH 3 [(0,.rop [i6 x_10])] [3,5,6,7,8] [LGet (vals_1.map (AV.int .i64)) y_5 1 [i6 x_10]] (mkS 18 [(3,i6 0),(5,i6 x_10),(6,.sl (vals_1.map (AV.int .i64)) none),(7,i6 ((vals_1.length : Nat) : Int)),(8,i6 y_5)]) (⟨[],[]⟩) (by kernel_rfl) ⟨LGet.of hx_10 rfl,trivial⟩ rfl ?_
    refine Ex.seq (rg 3 [3,5,6,7,8,14] (mkS 18 [(3,i6 0),(5,i6 x_10),(6,.sl (vals_1.map (AV.int .i64)) none),(7,i6 ((vals_1.length : Nat) : Int)),(8,i6 y_5),(14,.bool (x_10 != 0))]) ⟨[],[]⟩ ?_)
    rcases aU h with ⟨hc_11,h⟩ | ⟨hc_11,h⟩
    ·refine Ex.condT _ rfl hc_11 ?_
     refine Ex.seq (rg 2 [2] (mkS 18 [(2,i6 x_10)]) ⟨[],[]⟩ ?_)
     refine Ex.ret ?_
     obtain rfl:=sJ h
     exact rt (i6 x_10)
    ·refine Ex.condF _ rfl hc_11 ?_
     refine Ex.skip ?_
     refine rg 2 [3,6,7,8] (mkS 18 [(3,i6 0),(6,.sl (vals_1.map (AV.int .i64)) none),(7,i6 ((vals_1.length : Nat) : Int)),(8,i6 (IntKind.i64.wrap (y_5 + 1)))]) ⟨[],[]⟩ ?_
     dsimp only
     exact ⟨_,_,aL.refl _ _ _,k,Nat.lt_succ_self k,(IntKind.i64.wrap (y_5 + 1)),h,rfl,rfl⟩
   ·refine Ex.condF _ rfl hc_9 ?_
    refine Ex.exit ?_
    (try simp only [reduceCtorEq,AEx.ex.injEq,Nat.reduceEqDiff,if_true,if_false])
    exact ⟨_,_,bS [3],h,rfl,rfl⟩
 ·rintro a S ⟨h,rfl,rfl⟩
  subst hK_4
  refine Ex.seq (rg 2 [2] (mkS 18 [(2,i6 0)]) ⟨[],[]⟩ ?_)
  refine Ex.ret ?_
  obtain rfl:=sJ h
  exact rt (i6 0)
structure bF where
 a0 : aG
 a1 : aG
 a2 : aG
 a3 : aG
 a4 : aG
 a5 : aG
 a6 : aG
 deriving Inhabited
def dF (x : bF) : List AV:=[i6 x.a0.Worker,i6 x.a0.Day,i6 x.a1.Worker,i6 x.a1.Day,i6 x.a2.Worker,i6 x.a2.Day,i6 x.a3.Worker,i6 x.a3.Day,i6 x.a4.Worker,i6 x.a4.Day,i6 x.a5.Worker,i6 x.a5.Day,i6 x.a6.Worker,i6 x.a6.Day]
attribute [local simp] dF
def dW (x : bF) : AV:=.agg (dF x)
attribute [local simp] dW
theorem aCE (x : bF) : bB (dF x) = true:=by simp
theorem aCG (x : bF) : (dW x).clean = true:=aCE x
theorem dZ (l : List bF) : bB (l.map dW) = true:=eA aCG l
attribute [local simp] dZ
theorem nY (x : bF) (n : Nat) (σ : List Nat) : (dF x).mapM (re n σ) = some (dF x):=by simp
attribute [local simp] nY
def bF.l (x : bF) : List aG:=[x.a0,x.a1,x.a2,x.a3,x.a4,x.a5,x.a6]
def bF.ofl (l : List aG) : bF:=⟨l[0]?.getD default,l[1]?.getD default,l[2]?.getD default,l[3]?.getD default,l[4]?.getD default,l[5]?.getD default,l[6]?.getD default⟩
theorem bF.l_ofl (l : List aG) (h : l.length = 7) : (bF.ofl l).l = l:=by
 obtain ⟨a0,l0,rfl,h0⟩:=lenS h
 obtain ⟨a1,l1,rfl,h1⟩:=lenS h0
 obtain ⟨a2,l2,rfl,h2⟩:=lenS h1
 obtain ⟨a3,l3,rfl,h3⟩:=lenS h2
 obtain ⟨a4,l4,rfl,h4⟩:=lenS h3
 obtain ⟨a5,l5,rfl,h5⟩:=lenS h4
 obtain ⟨a6,l6,rfl,h6⟩:=lenS h5
 obtain rfl:=List.eq_nil_of_length_eq_zero h6; rfl
structure bY where
 a0 : Bool
 a1 : Bool
 a2 : Bool
 a3 : Bool
 a4 : Bool
 a5 : Bool
 a6 : Bool
 deriving Inhabited
def dX (x : bY) : List AV:=[.bool x.a0,.bool x.a1,.bool x.a2,.bool x.a3,.bool x.a4,.bool x.a5,.bool x.a6]
attribute [local simp] dX
def eN (x : bY) : AV:=.agg (dX x)
attribute [local simp] eN
theorem aDp (x : bY) : bB (dX x) = true:=by simp
theorem aDr (x : bY) : (eN x).clean = true:=aDp x
theorem eO (l : List bY) : bB (l.map eN) = true:=eA aDr l
attribute [local simp] eO
theorem pY (x : bY) (n : Nat) (σ : List Nat) : (dX x).mapM (re n σ) = some (dX x):=by simp
attribute [local simp] pY
def bY.l (x : bY) : List Bool:=[x.a0,x.a1,x.a2,x.a3,x.a4,x.a5,x.a6]
def bY.ofl (l : List Bool) : bY:=⟨l[0]?.getD default,l[1]?.getD default,l[2]?.getD default,l[3]?.getD default,l[4]?.getD default,l[5]?.getD default,l[6]?.getD default⟩
theorem bY.l_ofl (l : List Bool) (h : l.length = 7) : (bY.ofl l).l = l:=by
 obtain ⟨a0,l0,rfl,h0⟩:=lenS h
 obtain ⟨a1,l1,rfl,h1⟩:=lenS h0
 obtain ⟨a2,l2,rfl,h2⟩:=lenS h1
 obtain ⟨a3,l3,rfl,h3⟩:=lenS h2
 obtain ⟨a4,l4,rfl,h4⟩:=lenS h3
 obtain ⟨a5,l5,rfl,h5⟩:=lenS h4
 obtain ⟨a6,l6,rfl,h6⟩:=lenS h5
 obtain rfl:=List.eq_nil_of_length_eq_zero h6; rfl
structure aF where
 shifts_ : bF
 planned_ : bY
 many_ : Int
 last_ : Int
 days_ : Int
 deriving Inhabited
def aB (x : aF) : List AV:=[i6 x.shifts_.a0.Worker,i6 x.shifts_.a0.Day,i6 x.shifts_.a1.Worker,i6 x.shifts_.a1.Day,i6 x.shifts_.a2.Worker,i6 x.shifts_.a2.Day,i6 x.shifts_.a3.Worker,i6 x.shifts_.a3.Day,i6 x.shifts_.a4.Worker,i6 x.shifts_.a4.Day,i6 x.shifts_.a5.Worker,i6 x.shifts_.a5.Day,i6 x.shifts_.a6.Worker,i6 x.shifts_.a6.Day,.bool x.planned_.a0,.bool x.planned_.a1,.bool x.planned_.a2,.bool x.planned_.a3,.bool x.planned_.a4,.bool x.planned_.a5,.bool x.planned_.a6,i6 x.many_,i6 x.last_,i6 x.days_]
attribute [local simp] aB
def aI (x : aF) : AV:=.agg (aB x)
attribute [local simp] aI
theorem zZ (x : aF) : bB (aB x) = true:=by simp
theorem aAa (x : aF) : (aI x).clean = true:=zZ x
theorem dC (l : List aF) : bB (l.map aI) = true:=eA aAa l
attribute [local simp] dC
theorem lL (x : aF) (n : Nat) (σ : List Nat) : (aB x).mapM (re n σ) = some (aB x):=by simp
attribute [local simp] lL
def bA (N : Nat) (s_1 : (List aG)) (s_2 : (List aG)) : Option (Int):=(letJ (fun (_ : Unit) => (bif (decide (((s_1.length : Nat) : Int) < ((s_2.length : Nat) : Int))) then some (-1) else some 0)) (fun k_3 => (loop1 (fun rec_7 (y_6 : Int) => (bif (decide (y_6 < ((s_1.length : Nat) : Int))) then ((getI s_1 y_6).bind fun x_11 => (bif (decide (y_6 ≥ ((s_2.length : Nat) : Int))) then some 1 else ((getI s_2 y_6).bind fun x_13 => ((iK N x_11 x_13).bind fun r_14 => (bif (r_14 != 0) then some r_14 else (rec_7 (IntKind.i64.wrap (y_6 + 1)))))))) else (k_3 ()))) N 0)))
def bM (r : Int) : AV:=i6 r
attribute [local simp] bM
theorem eD (N : Nat) (s_1 : (List aG)) (s_2 : (List aG)) (r : Int) (h : bA N s_1 s_2 = some r) : Does Tryz.prog 114 [.sl (s_1.map aA) none,.sl (s_2.map aA) none,.fn 110 [] []] [] fun v c => v = bM r ∧ c = []:=by
 unfold bA at h
 refine Does.ofL comp114 _ _ rfl rfl ?_
 refine Ex.seq (rg 1 [0,1,2] (mkS 39 [(0,.sl (s_1.map aA) none),(1,.sl (s_2.map aA) none),(2,.fn 110 [] [])]) ⟨[],[]⟩ ?_)
 refine Ex.seq (Ex.seq ?_)
 refine regH 3 [(1,.eq (i6 ((s_1.length : Nat) : Int)))] [0,1,2,11,12,13] [AV.int .i64 (((s_1.map aA).length : Nat) : Int) = AV.int .i64 ((s_1.length : Nat) : Int)] (mkS 39 [(0,.sl (s_1.map aA) none),(1,.sl (s_2.map aA) none),(2,.fn 110 [] []),(11,.sl (s_1.map aA) none),(12,i6 ((s_1.length : Nat) : Int)),(13,i6 0)]) (⟨[],[]⟩) (by kernel_rfl) ⟨lenM _ _,trivial⟩ rfl ?_
 obtain ⟨K_4,hK_5,h⟩:=letE h
 refine Ex.blockJ (fun a S => K_4 () = some r ∧ a = mkS 39 [(0,.sl (s_1.map aA) none),(1,.sl (s_2.map aA) none)] ∧ S = ⟨[],[]⟩) ?_ ?_
 ·obtain ⟨B_8,hB_9,h⟩:=fW h
  refine Ex.loopF (fun k a S => ∃ (y_6 : Int),loop1 B_8 k y_6 = some r ∧ a = mkS 39 [(0,.sl (s_1.map aA) none),(1,.sl (s_2.map aA) none),(2,.fn 110 [] []),(11,.sl (s_1.map aA) none),(12,i6 ((s_1.length : Nat) : Int)),(13,i6 y_6)] ∧ S = ⟨[],[]⟩) N ⟨_,_,aL.refl _ _ _,0,h,rfl,rfl⟩ ?_
  rintro k a S ⟨y_6,h,rfl,rfl⟩
  cases k with
  | zero => exact (fU h).elim
  | succ k =>
   replace h:=fV h hB_9
   refine Ex.seq (rg 1 [0,1,2,11,12,13,14] (mkS 39 [(0,.sl (s_1.map aA) none),(1,.sl (s_2.map aA) none),(2,.fn 110 [] []),(11,.sl (s_1.map aA) none),(12,i6 ((s_1.length : Nat) : Int)),(13,i6 y_6),(14,.bool (decide (y_6 < ((s_1.length : Nat) : Int))))]) ⟨[],[]⟩ ?_)
   refine Ex.seq ?_
   rcases aU h with ⟨hc_10,h⟩ | ⟨hc_10,h⟩
   ·refine Ex.condT _ rfl hc_10 ?_
    refine Ex.skip ?_
    refine Ex.seq ?_
    refine Ex.blockK ?_
    refine Ex.seq ?_
    obtain ⟨x_11,hx_11,h⟩:=bE h
    refine regH 6 [(1,.rop (aE x_11))] [0,1,2,7,8,11,12,13] [LGet (s_1.map aA) y_6 2 (aE x_11)] (mkS 39 [(0,.sl (s_1.map aA) none),(1,.sl (s_2.map aA) none),(2,.fn 110 [] []),(7,i6 y_6),(8,.ptr 0 0),(11,.sl (s_1.map aA) none),(12,i6 ((s_1.length : Nat) : Int)),(13,i6 y_6)]) (⟨[(aE x_11)],[]⟩) (by kernel_rfl) ⟨LGet.of hx_11 rfl,trivial⟩ rfl ?_
    refine Ex.seq (Ex.seq ?_)
    refine regH 4 [(2,.eq (i6 ((s_2.length : Nat) : Int)))] [0,1,2,7,8,11,12,13,21] [AV.int .i64 (((s_2.map aA).length : Nat) : Int) = AV.int .i64 ((s_2.length : Nat) : Int)] (mkS 39 [(0,.sl (s_1.map aA) none),(1,.sl (s_2.map aA) none),(2,.fn 110 [] []),(7,i6 y_6),(8,.ptr 0 0),(11,.sl (s_1.map aA) none),(12,i6 ((s_1.length : Nat) : Int)),(13,i6 y_6),(21,.bool (decide (y_6 ≥ ((s_2.length : Nat) : Int))))]) (⟨[(aE x_11)],[]⟩) (by kernel_rfl) ⟨lenM _ _,trivial⟩ rfl ?_
    rcases aU h with ⟨hc_12,h⟩ | ⟨hc_12,h⟩
    ·refine Ex.condT _ rfl hc_12 ?_
     refine Ex.seq (rg 1 [6] (mkS 39 [(6,i6 1)]) ⟨[(aE x_11)],[]⟩ ?_)
     refine Ex.ret ?_
     obtain rfl:=sJ h
     exact rt (i6 1)
    ·refine Ex.condF _ rfl hc_12 ?_
     refine Ex.skip ?_
     refine Ex.seq ?_
     obtain ⟨x_13,hx_13,h⟩:=bE h
     refine regH 6 [(2,.rop (aE x_13))] [0,1,2,8,9,11,12,13] [LGet (s_2.map aA) y_6 2 (aE x_13)] (mkS 39 [(0,.sl (s_1.map aA) none),(1,.sl (s_2.map aA) none),(2,.fn 110 [] []),(8,.ptr 0 0),(9,.ptr 1 0),(11,.sl (s_1.map aA) none),(12,i6 ((s_1.length : Nat) : Int)),(13,i6 y_6)]) (⟨[(aE x_11),(aE x_13)],[]⟩) (by kernel_rfl) ⟨LGet.of hx_13 rfl,trivial⟩ rfl ?_
     refine Ex.seq ?_
     obtain ⟨r_14,hr_14,h⟩:=bE h
     refine Ex.reg (rn 3 [0,1,2,11,12,13,26,27,28] (mkS 39 [(0,.sl (s_1.map aA) none),(1,.sl (s_2.map aA) none),(2,.fn 110 [] []),(11,.sl (s_1.map aA) none),(12,i6 ((s_1.length : Nat) : Int)),(13,i6 y_6),(26,.fn 110 [] []),(27,(aA x_11)),(28,(aA x_13))]) ⟨[(aE x_11),(aE x_13)],[]⟩ ?_)
     refine ExO.callL [] [(aA x_11),(aA x_13)] rfl rfl (wE x_11 x_13) rfl rfl (vO N x_11 x_13 r_14 hr_14) (vW _ _ _ _) rfl ?_
     refine rn 1 [0,1,2,10,11,12,13] (mkS 39 [(0,.sl (s_1.map aA) none),(1,.sl (s_2.map aA) none),(2,.fn 110 [] []),(10,i6 r_14),(11,.sl (s_1.map aA) none),(12,i6 ((s_1.length : Nat) : Int)),(13,i6 y_6)]) ⟨[(aE x_11),(aE x_13)],[]⟩ ?_
     refine ExO.nil ?_
     refine Ex.seq (rg 2 [0,1,2,10,11,12,13,31] (mkS 39 [(0,.sl (s_1.map aA) none),(1,.sl (s_2.map aA) none),(2,.fn 110 [] []),(10,i6 r_14),(11,.sl (s_1.map aA) none),(12,i6 ((s_1.length : Nat) : Int)),(13,i6 y_6),(31,.bool (r_14 != 0))]) ⟨[(aE x_11),(aE x_13)],[]⟩ ?_)
     rcases aU h with ⟨hc_15,h⟩ | ⟨hc_15,h⟩
     ·refine Ex.condT _ rfl hc_15 ?_
      refine Ex.seq (rg 2 [6] (mkS 39 [(6,i6 r_14)]) ⟨[(aE x_11),(aE x_13)],[]⟩ ?_)
      refine Ex.ret ?_
      obtain rfl:=sJ h
      exact rt (i6 r_14)
     ·refine Ex.condF _ rfl hc_15 ?_
      refine Ex.skip ?_
      refine rg 2 [0,1,2,11,12,13] (mkS 39 [(0,.sl (s_1.map aA) none),(1,.sl (s_2.map aA) none),(2,.fn 110 [] []),(11,.sl (s_1.map aA) none),(12,i6 ((s_1.length : Nat) : Int)),(13,i6 (IntKind.i64.wrap (y_6 + 1)))]) ⟨[(aE x_11),(aE x_13)],[]⟩ ?_
      dsimp only
      exact ⟨_,_,bU (m:=39) 0 [] [(0,.sl (s_1.map aA) none),(1,.sl (s_2.map aA) none),(2,.fn 110 [] []),(11,.sl (s_1.map aA) none),(12,i6 ((s_1.length : Nat) : Int)),(13,i6 (IntKind.i64.wrap (y_6 + 1)))] [] [] (by simp [bH]) (by simp) ⟨(reN (cG _)),(reN (cG _)),(by show re 0 [] (.fn 110 [] []) = some (.fn 110 [] []); simp [re,re1,AV.clean,List.idxOf?,List.findIdx?,List.findIdx?.go,bB,fG,dP,fI,eX,cS,cV,eP,fT,cG,cF,dZ,eO,dC,cN,aK,aN,aX,aJ,aY,aP,aH,aA,aE,bO,bQ,dW,dF,eN,dX,aI,aB]),(reN (cG _)),rfl,rfl,trivial⟩ (by simp) rfl (by decide),k,Nat.lt_succ_self k,(IntKind.i64.wrap (y_6 + 1)),h,rfl,rfl⟩
   ·refine Ex.condF _ rfl hc_10 ?_
    refine Ex.exit ?_
    (try simp only [reduceCtorEq,AEx.ex.injEq,Nat.reduceEqDiff,if_true,if_false])
    exact ⟨_,_,bS [0,1],h,rfl,rfl⟩
 ·rintro a S ⟨h,rfl,rfl⟩
  subst hK_5
  refine Ex.seq (Ex.seq ?_)
  refine regH 5 [(1,.eq (i6 ((s_1.length : Nat) : Int))),(3,.eq (i6 ((s_2.length : Nat) : Int)))] [38] [AV.int .i64 (((s_1.map aA).length : Nat) : Int) = AV.int .i64 ((s_1.length : Nat) : Int),AV.int .i64 (((s_2.map aA).length : Nat) : Int) = AV.int .i64 ((s_2.length : Nat) : Int)] (mkS 39 [(38,.bool (decide (((s_1.length : Nat) : Int) < ((s_2.length : Nat) : Int))))]) (⟨[],[]⟩) (by kernel_rfl) ⟨lenM _ _,lenM _ _,trivial⟩ rfl ?_
  rcases aU h with ⟨hc_16,h⟩ | ⟨hc_16,h⟩
  ·refine Ex.condT _ rfl hc_16 ?_
   refine Ex.seq (rg 1 [6] (mkS 39 [(6,i6 (-1))]) ⟨[],[]⟩ ?_)
   refine Ex.ret ?_
   obtain rfl:=sJ h
   exact rt (i6 (-1))
  ·refine Ex.condF _ rfl hc_16 ?_
   refine Ex.skip ?_
   refine Ex.seq (rg 1 [6] (mkS 39 [(6,i6 0)]) ⟨[],[]⟩ ?_)
   refine Ex.ret ?_
   obtain rfl:=sJ h
   exact rt (i6 0)
def aZ (N : Nat) (s_1 : (List aG)) (s_2 : (List aG)) : Option (Int):=(letJ (fun (_ : Unit) => (bif (decide (((s_1.length : Nat) : Int) < ((s_2.length : Nat) : Int))) then some (-1) else some 0)) (fun k_3 => (loop1 (fun rec_7 (y_6 : Int) => (bif (decide (y_6 < ((s_1.length : Nat) : Int))) then ((getI s_1 y_6).bind fun x_11 => (bif (decide (y_6 ≥ ((s_2.length : Nat) : Int))) then some 1 else ((getI s_2 y_6).bind fun x_13 => ((iJ N x_11 x_13).bind fun r_14 => (bif (r_14 != 0) then some r_14 else (rec_7 (IntKind.i64.wrap (y_6 + 1)))))))) else (k_3 ()))) N 0)))
def cJ (r : Int) : AV:=i6 r
attribute [local simp] cJ
theorem eC (N : Nat) (s_1 : (List aG)) (s_2 : (List aG)) (r : Int) (h : aZ N s_1 s_2 = some r) : Does Tryz.prog 114 [.sl (s_1.map aA) none,.sl (s_2.map aA) none,.fn 112 [] []] [] fun v c => v = cJ r ∧ c = []:=by
 unfold aZ at h
 refine Does.ofL comp114 _ _ rfl rfl ?_
 refine Ex.seq (rg 1 [0,1,2] (mkS 39 [(0,.sl (s_1.map aA) none),(1,.sl (s_2.map aA) none),(2,.fn 112 [] [])]) ⟨[],[]⟩ ?_)
 refine Ex.seq (Ex.seq ?_)
 refine regH 3 [(1,.eq (i6 ((s_1.length : Nat) : Int)))] [0,1,2,11,12,13] [AV.int .i64 (((s_1.map aA).length : Nat) : Int) = AV.int .i64 ((s_1.length : Nat) : Int)] (mkS 39 [(0,.sl (s_1.map aA) none),(1,.sl (s_2.map aA) none),(2,.fn 112 [] []),(11,.sl (s_1.map aA) none),(12,i6 ((s_1.length : Nat) : Int)),(13,i6 0)]) (⟨[],[]⟩) (by kernel_rfl) ⟨lenM _ _,trivial⟩ rfl ?_
 obtain ⟨K_4,hK_5,h⟩:=letE h
 refine Ex.blockJ (fun a S => K_4 () = some r ∧ a = mkS 39 [(0,.sl (s_1.map aA) none),(1,.sl (s_2.map aA) none)] ∧ S = ⟨[],[]⟩) ?_ ?_
 ·obtain ⟨B_8,hB_9,h⟩:=fW h
  refine Ex.loopF (fun k a S => ∃ (y_6 : Int),loop1 B_8 k y_6 = some r ∧ a = mkS 39 [(0,.sl (s_1.map aA) none),(1,.sl (s_2.map aA) none),(2,.fn 112 [] []),(11,.sl (s_1.map aA) none),(12,i6 ((s_1.length : Nat) : Int)),(13,i6 y_6)] ∧ S = ⟨[],[]⟩) N ⟨_,_,aL.refl _ _ _,0,h,rfl,rfl⟩ ?_
  rintro k a S ⟨y_6,h,rfl,rfl⟩
  cases k with
  | zero => exact (fU h).elim
  | succ k =>
   replace h:=fV h hB_9
   refine Ex.seq (rg 1 [0,1,2,11,12,13,14] (mkS 39 [(0,.sl (s_1.map aA) none),(1,.sl (s_2.map aA) none),(2,.fn 112 [] []),(11,.sl (s_1.map aA) none),(12,i6 ((s_1.length : Nat) : Int)),(13,i6 y_6),(14,.bool (decide (y_6 < ((s_1.length : Nat) : Int))))]) ⟨[],[]⟩ ?_)
   refine Ex.seq ?_
   rcases aU h with ⟨hc_10,h⟩ | ⟨hc_10,h⟩
   ·refine Ex.condT _ rfl hc_10 ?_
    refine Ex.skip ?_
    refine Ex.seq ?_
    refine Ex.blockK ?_
    refine Ex.seq ?_
    obtain ⟨x_11,hx_11,h⟩:=bE h
    refine regH 6 [(1,.rop (aE x_11))] [0,1,2,7,8,11,12,13] [LGet (s_1.map aA) y_6 2 (aE x_11)] (mkS 39 [(0,.sl (s_1.map aA) none),(1,.sl (s_2.map aA) none),(2,.fn 112 [] []),(7,i6 y_6),(8,.ptr 0 0),(11,.sl (s_1.map aA) none),(12,i6 ((s_1.length : Nat) : Int)),(13,i6 y_6)]) (⟨[(aE x_11)],[]⟩) (by kernel_rfl) ⟨LGet.of hx_11 rfl,trivial⟩ rfl ?_
    refine Ex.seq (Ex.seq ?_)
    refine regH 4 [(2,.eq (i6 ((s_2.length : Nat) : Int)))] [0,1,2,7,8,11,12,13,21] [AV.int .i64 (((s_2.map aA).length : Nat) : Int) = AV.int .i64 ((s_2.length : Nat) : Int)] (mkS 39 [(0,.sl (s_1.map aA) none),(1,.sl (s_2.map aA) none),(2,.fn 112 [] []),(7,i6 y_6),(8,.ptr 0 0),(11,.sl (s_1.map aA) none),(12,i6 ((s_1.length : Nat) : Int)),(13,i6 y_6),(21,.bool (decide (y_6 ≥ ((s_2.length : Nat) : Int))))]) (⟨[(aE x_11)],[]⟩) (by kernel_rfl) ⟨lenM _ _,trivial⟩ rfl ?_
    rcases aU h with ⟨hc_12,h⟩ | ⟨hc_12,h⟩
    ·refine Ex.condT _ rfl hc_12 ?_
     refine Ex.seq (rg 1 [6] (mkS 39 [(6,i6 1)]) ⟨[(aE x_11)],[]⟩ ?_)
     refine Ex.ret ?_
     obtain rfl:=sJ h
     exact rt (i6 1)
    ·refine Ex.condF _ rfl hc_12 ?_
     refine Ex.skip ?_
     refine Ex.seq ?_
     obtain ⟨x_13,hx_13,h⟩:=bE h
     refine regH 6 [(2,.rop (aE x_13))] [0,1,2,8,9,11,12,13] [LGet (s_2.map aA) y_6 2 (aE x_13)] (mkS 39 [(0,.sl (s_1.map aA) none),(1,.sl (s_2.map aA) none),(2,.fn 112 [] []),(8,.ptr 0 0),(9,.ptr 1 0),(11,.sl (s_1.map aA) none),(12,i6 ((s_1.length : Nat) : Int)),(13,i6 y_6)]) (⟨[(aE x_11),(aE x_13)],[]⟩) (by kernel_rfl) ⟨LGet.of hx_13 rfl,trivial⟩ rfl ?_
     refine Ex.seq ?_
     obtain ⟨r_14,hr_14,h⟩:=bE h
     refine Ex.reg (rn 3 [0,1,2,11,12,13,26,27,28] (mkS 39 [(0,.sl (s_1.map aA) none),(1,.sl (s_2.map aA) none),(2,.fn 112 [] []),(11,.sl (s_1.map aA) none),(12,i6 ((s_1.length : Nat) : Int)),(13,i6 y_6),(26,.fn 112 [] []),(27,(aA x_11)),(28,(aA x_13))]) ⟨[(aE x_11),(aE x_13)],[]⟩ ?_)
     refine ExO.callL [] [(aA x_11),(aA x_13)] rfl rfl (wD x_11 x_13) rfl rfl (vN N x_11 x_13 r_14 hr_14) (vV _ _ _ _) rfl ?_
     refine rn 1 [0,1,2,10,11,12,13] (mkS 39 [(0,.sl (s_1.map aA) none),(1,.sl (s_2.map aA) none),(2,.fn 112 [] []),(10,i6 r_14),(11,.sl (s_1.map aA) none),(12,i6 ((s_1.length : Nat) : Int)),(13,i6 y_6)]) ⟨[(aE x_11),(aE x_13)],[]⟩ ?_
     refine ExO.nil ?_
     refine Ex.seq (rg 2 [0,1,2,10,11,12,13,31] (mkS 39 [(0,.sl (s_1.map aA) none),(1,.sl (s_2.map aA) none),(2,.fn 112 [] []),(10,i6 r_14),(11,.sl (s_1.map aA) none),(12,i6 ((s_1.length : Nat) : Int)),(13,i6 y_6),(31,.bool (r_14 != 0))]) ⟨[(aE x_11),(aE x_13)],[]⟩ ?_)
     rcases aU h with ⟨hc_15,h⟩ | ⟨hc_15,h⟩
     ·refine Ex.condT _ rfl hc_15 ?_
      refine Ex.seq (rg 2 [6] (mkS 39 [(6,i6 r_14)]) ⟨[(aE x_11),(aE x_13)],[]⟩ ?_)
      refine Ex.ret ?_
      obtain rfl:=sJ h
      exact rt (i6 r_14)
     ·refine Ex.condF _ rfl hc_15 ?_
      refine Ex.skip ?_
      refine rg 2 [0,1,2,11,12,13] (mkS 39 [(0,.sl (s_1.map aA) none),(1,.sl (s_2.map aA) none),(2,.fn 112 [] []),(11,.sl (s_1.map aA) none),(12,i6 ((s_1.length : Nat) : Int)),(13,i6 (IntKind.i64.wrap (y_6 + 1)))]) ⟨[(aE x_11),(aE x_13)],[]⟩ ?_
      dsimp only
      exact ⟨_,_,bU (m:=39) 0 [] [(0,.sl (s_1.map aA) none),(1,.sl (s_2.map aA) none),(2,.fn 112 [] []),(11,.sl (s_1.map aA) none),(12,i6 ((s_1.length : Nat) : Int)),(13,i6 (IntKind.i64.wrap (y_6 + 1)))] [] [] (by simp [bH]) (by simp) ⟨(reN (cG _)),(reN (cG _)),(by show re 0 [] (.fn 112 [] []) = some (.fn 112 [] []); simp [re,re1,AV.clean,List.idxOf?,List.findIdx?,List.findIdx?.go,bB,fG,dP,fI,eX,cS,cV,eP,fT,cG,cF,dZ,eO,dC,cN,aK,aN,aX,aJ,aY,aP,aH,aA,aE,bO,bQ,dW,dF,eN,dX,aI,aB]),(reN (cG _)),rfl,rfl,trivial⟩ (by simp) rfl (by decide),k,Nat.lt_succ_self k,(IntKind.i64.wrap (y_6 + 1)),h,rfl,rfl⟩
   ·refine Ex.condF _ rfl hc_10 ?_
    refine Ex.exit ?_
    (try simp only [reduceCtorEq,AEx.ex.injEq,Nat.reduceEqDiff,if_true,if_false])
    exact ⟨_,_,bS [0,1],h,rfl,rfl⟩
 ·rintro a S ⟨h,rfl,rfl⟩
  subst hK_5
  refine Ex.seq (Ex.seq ?_)
  refine regH 5 [(1,.eq (i6 ((s_1.length : Nat) : Int))),(3,.eq (i6 ((s_2.length : Nat) : Int)))] [38] [AV.int .i64 (((s_1.map aA).length : Nat) : Int) = AV.int .i64 ((s_1.length : Nat) : Int),AV.int .i64 (((s_2.map aA).length : Nat) : Int) = AV.int .i64 ((s_2.length : Nat) : Int)] (mkS 39 [(38,.bool (decide (((s_1.length : Nat) : Int) < ((s_2.length : Nat) : Int))))]) (⟨[],[]⟩) (by kernel_rfl) ⟨lenM _ _,lenM _ _,trivial⟩ rfl ?_
  rcases aU h with ⟨hc_16,h⟩ | ⟨hc_16,h⟩
  ·refine Ex.condT _ rfl hc_16 ?_
   refine Ex.seq (rg 1 [6] (mkS 39 [(6,i6 (-1))]) ⟨[],[]⟩ ?_)
   refine Ex.ret ?_
   obtain rfl:=sJ h
   exact rt (i6 (-1))
  ·refine Ex.condF _ rfl hc_16 ?_
   refine Ex.skip ?_
   refine Ex.seq (rg 1 [6] (mkS 39 [(6,i6 0)]) ⟨[],[]⟩ ?_)
   refine Ex.ret ?_
   obtain rfl:=sJ h
   exact rt (i6 0)
def gE (N : Nat) (a_1 : aF) (b_2 : aF) : Option (Int):=((dT N a_1.days_ b_2.days_).bind fun r_3 => ((bA N [a_1.shifts_.a0,a_1.shifts_.a1,a_1.shifts_.a2,a_1.shifts_.a3,a_1.shifts_.a4,a_1.shifts_.a5,a_1.shifts_.a6] [b_2.shifts_.a0,b_2.shifts_.a1,b_2.shifts_.a2,b_2.shifts_.a3,b_2.shifts_.a4,b_2.shifts_.a5,b_2.shifts_.a6]).bind fun r_4 => ((aZ N [a_1.shifts_.a0,a_1.shifts_.a1,a_1.shifts_.a2,a_1.shifts_.a3,a_1.shifts_.a4,a_1.shifts_.a5,a_1.shifts_.a6] [b_2.shifts_.a0,b_2.shifts_.a1,b_2.shifts_.a2,b_2.shifts_.a3,b_2.shifts_.a4,b_2.shifts_.a5,b_2.shifts_.a6]).bind fun r_7 => ((jY N [r_3,r_4,r_7]).bind fun r_8 => some r_8))))
def jU (r : Int) : AV:=i6 r
attribute [local simp] jU
theorem yZ (a_1 : aF) (b_2 : aF) : [(aI a_1),(aI b_2)].mapM (ren []) = some [(aI a_1),(aI b_2)]:=by simp
theorem yX (r : Int) (n n2 m : Nat) : back n n2 m (jU r) = some (jU r):=by simp
theorem yL (N : Nat) (a_1 : aF) (b_2 : aF) (r : Int) (h : gE N a_1 b_2 = some r) : Does Tryz.prog 87 [(aI a_1),(aI b_2)] [] fun v c => v = jU r ∧ c = []:=by
 unfold gE at h
 refine Does.ofL comp87 _ _ rfl rfl ?_
 refine Ex.seq (rg 3 [2,3] (mkS 26 [(2,.ptr 0 0),(3,.ptr 1 0)]) ⟨[(aB a_1),(aB b_2)],[]⟩ ?_)
 refine Ex.seq (rg 1 [2,3,5] (mkS 26 [(2,.ptr 0 0),(3,.ptr 1 0),(5,.fn 110 [] [])]) ⟨[(aB a_1),(aB b_2)],[]⟩ ?_)
 refine Ex.seq (rg 1 [2,3,5,6] (mkS 26 [(2,.ptr 0 0),(3,.ptr 1 0),(5,.fn 110 [] []),(6,.fn 112 [] [])]) ⟨[(aB a_1),(aB b_2)],[]⟩ ?_)
 refine Ex.seq ?_
 obtain ⟨r_3,hr_3,h⟩:=bE h
 obtain ⟨r_4,hr_4,h⟩:=bE h
 have hT_5 : iZ Tryz.prog [⟨111,[i6 a_1.days_,i6 b_2.days_],[],(dS r_3),[]⟩] ∧ gG [⟨111,[i6 a_1.days_,i6 b_2.days_],[],(dS r_3),[]⟩]:=⟨⟨(kG N a_1.days_ b_2.days_ r_3 hr_3),rfl,trivial⟩,⟨trivial,trivial⟩⟩
 have hL_6 : aFm Tryz.prog (⟨114,[(0,2,([a_1.shifts_.a0,a_1.shifts_.a1,a_1.shifts_.a2,a_1.shifts_.a3,a_1.shifts_.a4,a_1.shifts_.a5,a_1.shifts_.a6] : List aG).map aA,[.bool a_1.planned_.a0,.bool a_1.planned_.a1,.bool a_1.planned_.a2,.bool a_1.planned_.a3,.bool a_1.planned_.a4,.bool a_1.planned_.a5,.bool a_1.planned_.a6,i6 a_1.many_,i6 a_1.last_,i6 a_1.days_]),(1,2,([b_2.shifts_.a0,b_2.shifts_.a1,b_2.shifts_.a2,b_2.shifts_.a3,b_2.shifts_.a4,b_2.shifts_.a5,b_2.shifts_.a6] : List aG).map aA,[.bool b_2.planned_.a0,.bool b_2.planned_.a1,.bool b_2.planned_.a2,.bool b_2.planned_.a3,.bool b_2.planned_.a4,.bool b_2.planned_.a5,.bool b_2.planned_.a6,i6 b_2.many_,i6 b_2.last_,i6 b_2.days_])],[.ms 0 7 2,.ms 1 7 2,.fn 110 [] []],[.sl (([a_1.shifts_.a0,a_1.shifts_.a1,a_1.shifts_.a2,a_1.shifts_.a3,a_1.shifts_.a4,a_1.shifts_.a5,a_1.shifts_.a6] : List aG).map aA) none,.sl (([b_2.shifts_.a0,b_2.shifts_.a1,b_2.shifts_.a2,b_2.shifts_.a3,b_2.shifts_.a4,b_2.shifts_.a5,b_2.shifts_.a6] : List aG).map aA) none,.fn 110 [] []],(bM r_4)⟩ : LdR):=⟨⟨.s 0 rfl rfl,⟨.s 1 rfl rfl,⟨.n (by simp; try rfl),trivial⟩⟩⟩,eD N [a_1.shifts_.a0,a_1.shifts_.a1,a_1.shifts_.a2,a_1.shifts_.a3,a_1.shifts_.a4,a_1.shifts_.a5,a_1.shifts_.a6] [b_2.shifts_.a0,b_2.shifts_.a1,b_2.shifts_.a2,b_2.shifts_.a3,b_2.shifts_.a4,b_2.shifts_.a5,b_2.shifts_.a6] r_4 hr_4,rfl⟩
 refine Ex.drawE (a1:=mkS 26 [(2,.ptr 0 0),(3,.ptr 1 0),(5,.fn 110 [] []),(6,.fn 112 [] []),(7,.ptr 0 23),(8,i6 a_1.days_),(9,.ptr 1 23),(10,i6 b_2.days_),(11,i6 r_3),(12,.ptr 0 0),(13,.ms 0 7 2),(14,.ptr 1 0),(15,.ms 1 7 2),(16,.fn 110 [] []),(17,i6 r_4),(18,.ptr 0 0),(19,.ms 0 7 2),(20,.ptr 1 0),(21,.ms 1 7 2),(22,.fn 112 [] [])]) (aBP hL_6 (gK hT_5.1)) [] [] [] ?_ ?_
 ·refine drS [0, 1] 4 [] [] (mkS 26 [(2, .ptr 0 0), (3, .ptr 1 0), (5, .fn 110 [] []), (6, .fn 112 [] []), (7, .ptr 0 23), (8, i6 a_1.days_), (9, .ptr 1 23), (10, i6 b_2.days_)]) (by simp) (by kernel_rfl) trivial (by kernel_rfl) ?_
  refine drCX hT_5.2 0 _ [i6 a_1.days_,i6 b_2.days_] (dS r_3) rfl rfl rfl rfl rfl (fun _ => rfl) rfl (by simp; try rfl) (fun _ => kN _ _ _ _) (fun _ => (aBO (.inl (show (111 : FuncId) ≠ 114 by decide))).trans (rfl)) ?_
  refine drS [0,1] 5 [] [] (mkS 26 [(2,.ptr 0 0),(3,.ptr 1 0),(5,.fn 110 [] []),(6,.fn 112 [] []),(7,.ptr 0 23),(8,i6 a_1.days_),(9,.ptr 1 23),(10,i6 b_2.days_),(11,i6 r_3),(12,.ptr 0 0),(13,.ms 0 7 2),(14,.ptr 1 0),(15,.ms 1 7 2),(16,.fn 110 [] [])]) (by simp) (by kernel_rfl) trivial (by kernel_rfl) ?_
  refine drLd (r:=(⟨114,[(0,2,([a_1.shifts_.a0,a_1.shifts_.a1,a_1.shifts_.a2,a_1.shifts_.a3,a_1.shifts_.a4,a_1.shifts_.a5,a_1.shifts_.a6] : List aG).map aA,[.bool a_1.planned_.a0,.bool a_1.planned_.a1,.bool a_1.planned_.a2,.bool a_1.planned_.a3,.bool a_1.planned_.a4,.bool a_1.planned_.a5,.bool a_1.planned_.a6,i6 a_1.many_,i6 a_1.last_,i6 a_1.days_]),(1,2,([b_2.shifts_.a0,b_2.shifts_.a1,b_2.shifts_.a2,b_2.shifts_.a3,b_2.shifts_.a4,b_2.shifts_.a5,b_2.shifts_.a6] : List aG).map aA,[.bool b_2.planned_.a0,.bool b_2.planned_.a1,.bool b_2.planned_.a2,.bool b_2.planned_.a3,.bool b_2.planned_.a4,.bool b_2.planned_.a5,.bool b_2.planned_.a6,i6 b_2.many_,i6 b_2.last_,i6 b_2.days_])],[.ms 0 7 2,.ms 1 7 2,.fn 110 [] []],[.sl (([a_1.shifts_.a0,a_1.shifts_.a1,a_1.shifts_.a2,a_1.shifts_.a3,a_1.shifts_.a4,a_1.shifts_.a5,a_1.shifts_.a6] : List aG).map aA) none,.sl (([b_2.shifts_.a0,b_2.shifts_.a1,b_2.shifts_.a2,b_2.shifts_.a3,b_2.shifts_.a4,b_2.shifts_.a5,b_2.shifts_.a6] : List aG).map aA) none,.fn 110 [] []],(bM r_4)⟩ : LdR)) rfl rfl (fun _ _ => rfl) (by exact (List.forall_mem_cons.2 ⟨⟨⟨(by kernel_rfl),show 0 < 2 by decide,fun i e he => eL (f:=aA) (s:=2) (fun _ => rfl) _ e (List.mem_of_getElem? he),(fX (f:=aA) (fun _ => rfl) _),show 0 ∉ ([] : List Nat) by decide⟩,⟨⟨(by kernel_rfl),show 0 < 2 by decide,fun i e he => eL (f:=aA) (s:=2) (fun _ => rfl) _ e (List.mem_of_getElem? he),(fX (f:=aA) (fun _ => rfl) _),show 1 ∉ ([] : List Nat) by decide⟩,trivial⟩⟩,(fun _ h => (List.not_mem_nil h).elim)⟩)) (fun st hl => yA rfl hl) ?_
  refine drS [0,1] 5 [] [] (mkS 26 [(2,.ptr 0 0),(3,.ptr 1 0),(5,.fn 110 [] []),(6,.fn 112 [] []),(7,.ptr 0 23),(8,i6 a_1.days_),(9,.ptr 1 23),(10,i6 b_2.days_),(11,i6 r_3),(12,.ptr 0 0),(13,.ms 0 7 2),(14,.ptr 1 0),(15,.ms 1 7 2),(16,.fn 110 [] []),(17,i6 r_4),(18,.ptr 0 0),(19,.ms 0 7 2),(20,.ptr 1 0),(21,.ms 1 7 2),(22,.fn 112 [] [])]) (by simp) (by kernel_rfl) trivial (by kernel_rfl) ?_
  exact DrO.nil rfl
 ·dsimp only [List.getLastD_cons,List.getLastD_nil]
  obtain ⟨r_7,hr_7,h⟩:=bE h
  refine ExO.callLend [(0,2,([a_1.shifts_.a0,a_1.shifts_.a1,a_1.shifts_.a2,a_1.shifts_.a3,a_1.shifts_.a4,a_1.shifts_.a5,a_1.shifts_.a6] : List aG).map aA,[.bool a_1.planned_.a0,.bool a_1.planned_.a1,.bool a_1.planned_.a2,.bool a_1.planned_.a3,.bool a_1.planned_.a4,.bool a_1.planned_.a5,.bool a_1.planned_.a6,i6 a_1.many_,i6 a_1.last_,i6 a_1.days_]),(1,2,([b_2.shifts_.a0,b_2.shifts_.a1,b_2.shifts_.a2,b_2.shifts_.a3,b_2.shifts_.a4,b_2.shifts_.a5,b_2.shifts_.a6] : List aG).map aA,[.bool b_2.planned_.a0,.bool b_2.planned_.a1,.bool b_2.planned_.a2,.bool b_2.planned_.a3,.bool b_2.planned_.a4,.bool b_2.planned_.a5,.bool b_2.planned_.a6,i6 b_2.many_,i6 b_2.last_,i6 b_2.days_])] [] [.ms 0 7 2,.ms 1 7 2,.fn 112 [] []] rfl rfl (by exact ⟨.s 0 rfl rfl,⟨.s 1 rfl rfl,⟨.n (by simp; try rfl),trivial⟩⟩⟩) ⟨⟨(by kernel_rfl),show 0 < 2 by decide,fun i e he => eL (f:=aA) (s:=2) (fun _ => rfl) _ e (List.mem_of_getElem? he),(fX (f:=aA) (fun _ => rfl) _),show 0 ∉ ([] : List Nat) by decide⟩,⟨⟨(by kernel_rfl),show 0 < 2 by decide,fun i e he => eL (f:=aA) (s:=2) (fun _ => rfl) _ e (List.mem_of_getElem? he),(fX (f:=aA) (fun _ => rfl) _),show 1 ∉ ([] : List Nat) by decide⟩,trivial⟩⟩ rfl rfl (eC N [a_1.shifts_.a0,a_1.shifts_.a1,a_1.shifts_.a2,a_1.shifts_.a3,a_1.shifts_.a4,a_1.shifts_.a5,a_1.shifts_.a6] [b_2.shifts_.a0,b_2.shifts_.a1,b_2.shifts_.a2,b_2.shifts_.a3,b_2.shifts_.a4,b_2.shifts_.a5,b_2.shifts_.a6] r_7 hr_7) rfl rfl rfl ?_
  obtain ⟨r_8,hr_8,h⟩:=bE h
  refine rn 1 [24] (mkS 26 [(24,.sl (([r_3,r_4,r_7] : List Int).map (AV.int .i64)) (some 0))]) ⟨[(aB a_1),(aB b_2)],[(3,1)]⟩ ?_
  refine ExO.callL [] [.sl (([r_3,r_4,r_7] : List Int).map (AV.int .i64)) (some 0)] rfl rfl (aBv [r_3,r_4,r_7]) rfl rfl (aAZ N [r_3,r_4,r_7] r_8 hr_8) (aBm _ _ _ _) rfl ?_
  refine rn 1 [4] (mkS 26 [(4,i6 r_8)]) ⟨[(aB a_1),(aB b_2)],[(3,1)]⟩ ?_
  refine ExO.nil ?_
  refine Ex.ret ?_
  obtain rfl:=sJ h
  exact rt (i6 r_8)
structure aT where
 jobs_ : (List bR)
 able_ : (List (List Int))
 after_ : (List Int)
 deriving Inhabited
def aC (x : aT) : List AV:=[.sl (x.jobs_.map aJ) none,.sl (x.able_.map (SV (AV.int .i64))) none,.sl (x.after_.map (AV.int .i64)) none]
attribute [local simp] aC
def aM (x : aT) : AV:=.agg (aC x)
attribute [local simp] aM
theorem xG (x : aT) : bB (aC x) = true:=by simp
theorem xH (x : aT) : (aM x).clean = true:=xG x
theorem dB (l : List aT) : bB (l.map aM) = true:=eA xH l
attribute [local simp] dB
theorem jF (x : aT) (n : Nat) (σ : List Nat) : (aC x).mapM (re n σ) = some (aC x):=by simp
attribute [local simp] jF
def gD (N : Nat) (s_1 : aV) : Option (aT):=(letJ (fun (b_2 : List (List Int)) (b_3 : List Int) => some (⟨s_1.Jobs,b_2,b_3⟩ : aT)) (fun k_4 => (loop3 (fun rec_10 (y_7 : Int) (b_8 : List (List Int)) (b_9 : List Int) => (bif (decide (y_7 < ((s_1.Jobs.length : Nat) : Int))) then ((getI s_1.Jobs y_7).bind fun x_14 => ((idxI x_14.Skill 4).bind fun u_15 => ((([0,1,2,4] : List Int)[Int.toNat x_14.Skill]?).bind fun x_16 => ((dJ N s_1 x_16).bind fun r_17 => ((lN b_8 ([r_17] : List (List Int))).bind fun l_19 => ((fC N s_1.Jobs y_7).bind fun r_20 => ((lN b_9 ([r_20] : List Int)).bind fun l_22 => (rec_10 (IntKind.i64.wrap (y_7 + 1)) l_19 l_22)))))))) else (k_4 b_8 b_9))) N 0 [] [])))
def iD (r : aT) : AV:=(aM r)
attribute [local simp] iD
theorem wB (s_1 : aV) : [(aP s_1)].mapM (ren []) = some [(aP s_1)]:=by simp
theorem vU (r : aT) (n n2 m : Nat) : back n n2 m (iD r) = some (iD r):=by simp
theorem vM (N : Nat) (s_1 : aV) (r : aT) (h : gD N s_1 = some r) : Does Tryz.prog 63 [(aP s_1)] [] fun v c => v = iD r ∧ c = []:=by
 unfold gD at h
 refine Does.ofL comp63 _ _ rfl rfl ?_
 refine Ex.seq (rg 2 [1,2] (mkS 39 [(1,.ptr 0 0),(2,.ptr 1 0)]) ⟨[(aH s_1),[.nils,.nils,.nils]],[]⟩ ?_)
 refine Ex.seq (rg 5 [1,2,3] (mkS 39 [(1,.ptr 0 0),(2,.ptr 1 0),(3,.ptr 2 0)]) ⟨[(aH s_1),[.nils,.nils,.nils],[.sl (s_1.Jobs.map aJ) none,.nils,.nils]],[]⟩ ?_)
 refine Ex.seq (Ex.seq ?_)
 refine regH 4 [(2,.eq (i6 ((s_1.Jobs.length : Nat) : Int)))] [1,2,3,10,11,12] [AV.int .i64 (((s_1.Jobs.map aJ).length : Nat) : Int) = AV.int .i64 ((s_1.Jobs.length : Nat) : Int)] (mkS 39 [(1,.ptr 0 0),(2,.ptr 1 0),(3,.ptr 2 0),(10,.sl (s_1.Jobs.map aJ) none),(11,i6 ((s_1.Jobs.length : Nat) : Int)),(12,i6 0)]) (⟨[(aH s_1),[.nils,.nils,.nils],[.sl (s_1.Jobs.map aJ) none,.nils,.nils]],[]⟩) (by kernel_rfl) ⟨lenM _ _,trivial⟩ rfl ?_
 obtain ⟨K_5,hK_6,h⟩:=letE h
 refine Ex.blockJ (fun a S => ∃ (b_2 : List (List Int)),∃ (b_3 : List Int),K_5 b_2 b_3 = some r ∧ a = mkS 39 [(2,.ptr 1 0),(3,.ptr 2 0)] ∧ S = ⟨[(aH s_1),[.nils,.nils,.nils],[.sl (s_1.Jobs.map aJ) none,.sl (b_2.map (SV (AV.int .i64))) (some 0),.sl (b_3.map (AV.int .i64)) (some 1)]],[(b_2.length,1),(b_3.length,1)]⟩) ?_ ?_
 ·refine Ex.forget (nilB 2 1 1 [.sl (s_1.Jobs.map aJ) none,.nils,.nils] rfl rfl) ?_
  refine Ex.forget (nilB 2 2 1 [.sl (s_1.Jobs.map aJ) none,.sl (([] : List (List Int)).map (SV (AV.int .i64))) (some 0),.nils] rfl rfl) ?_
  refine Ex.castA (a2:=mkS 39 [(1,.ptr 0 0),(2,.ptr 1 0),(3,.ptr 2 0),(10,.sl (s_1.Jobs.map aJ) none),(11,i6 ((s_1.Jobs.length : Nat) : Int)),(12,i6 0)]) (S2:=⟨[(aH s_1),[.nils,.nils,.nils],[.sl (s_1.Jobs.map aJ) none,.sl (([] : List (List Int)).map (SV (AV.int .i64))) (some 0),.sl (([] : List Int).map (AV.int .i64)) (some 1)]],[(0,1),(0,1)]⟩) (by kernel_rfl) (by kernel_rfl) ?_
  obtain ⟨B_11,hB_12,h⟩:=vG h
  refine Ex.loopF (fun k a S => ∃ (y_7 : Int),∃ (b_8 : List (List Int)),∃ (b_9 : List Int),loop3 B_11 k y_7 b_8 b_9 = some r ∧ a = mkS 39 [(1,.ptr 0 0),(2,.ptr 1 0),(3,.ptr 2 0),(10,.sl (s_1.Jobs.map aJ) none),(11,i6 ((s_1.Jobs.length : Nat) : Int)),(12,i6 y_7)] ∧ S = ⟨[(aH s_1),[.nils,.nils,.nils],[.sl (s_1.Jobs.map aJ) none,.sl (b_8.map (SV (AV.int .i64))) (some 0),.sl (b_9.map (AV.int .i64)) (some 1)]],[(b_8.length,1),(b_9.length,1)]⟩) N ⟨_,_,aL.refl _ _ _,0,[],[],h,rfl,rfl⟩ ?_
  rintro k a S ⟨y_7,b_8,b_9,h,rfl,rfl⟩
  cases k with
  | zero => exact (vE h).elim
  | succ k =>
   replace h:=vF h hB_12
   refine Ex.seq (rg 1 [1,2,3,10,11,12,13] (mkS 39 [(1,.ptr 0 0),(2,.ptr 1 0),(3,.ptr 2 0),(10,.sl (s_1.Jobs.map aJ) none),(11,i6 ((s_1.Jobs.length : Nat) : Int)),(12,i6 y_7),(13,.bool (decide (y_7 < ((s_1.Jobs.length : Nat) : Int))))]) ⟨[(aH s_1),[.nils,.nils,.nils],[.sl (s_1.Jobs.map aJ) none,.sl (b_8.map (SV (AV.int .i64))) (some 0),.sl (b_9.map (AV.int .i64)) (some 1)]],[(b_8.length,1),(b_9.length,1)]⟩ ?_)
   refine Ex.seq ?_
   rcases aU h with ⟨hc_13,h⟩ | ⟨hc_13,h⟩
   ·refine Ex.condT _ rfl hc_13 ?_
    refine Ex.skip ?_
    refine Ex.seq ?_
    refine Ex.blockK ?_
    refine Ex.seq ?_
    obtain ⟨x_14,hx_14,h⟩:=bE h
    refine regH 6 [(1,.rop (aY x_14))] [1,2,3,4,5,10,11,12] [LGet (s_1.Jobs.map aJ) y_7 3 (aY x_14)] (mkS 39 [(1,.ptr 0 0),(2,.ptr 1 0),(3,.ptr 2 0),(4,i6 y_7),(5,.ptr 3 0),(10,.sl (s_1.Jobs.map aJ) none),(11,i6 ((s_1.Jobs.length : Nat) : Int)),(12,i6 y_7)]) (⟨[(aH s_1),[.nils,.nils,.nils],[.sl (s_1.Jobs.map aJ) none,.sl (b_8.map (SV (AV.int .i64))) (some 0),.sl (b_9.map (AV.int .i64)) (some 1)],(aY x_14)],[(b_8.length,1),(b_9.length,1)]⟩) (by kernel_rfl) ⟨LGet.of hx_14 rfl,trivial⟩ rfl ?_
    refine Ex.seq ?_
    refine Ex.postF ?_
    obtain ⟨u_15,hu_15,h⟩:=bE h
    obtain ⟨x_16,hx_16,h⟩:=bE h
    obtain ⟨r_17,hr_17,h⟩:=bE h
    have hT_18 : iZ Tryz.prog [⟨84,[(aP s_1),.int .u8 x_16],[],(dH r_17),[]⟩] ∧ gG [⟨84,[(aP s_1),.int .u8 x_16],[],(dH r_17),[]⟩]:=⟨⟨(jI N s_1 x_16 r_17 hr_17),rfl,trivial⟩,⟨trivial,trivial⟩⟩
    refine Ex.drawE (a1:=mkS 39 [(1,.ptr 0 0),(2,.ptr 1 0),(3,.ptr 2 0),(4,i6 y_7),(5,.ptr 3 0),(10,.sl (s_1.Jobs.map aJ) none),(11,i6 ((s_1.Jobs.length : Nat) : Int)),(12,i6 y_7),(17,.ptr 2 1),(18,.sl (b_8.map (SV (AV.int .i64))) (some 0)),(19,(aP s_1)),(20,.ptr 3 1),(21,i6 x_14.Skill),(22,.rop (((([0,1,2,4] : List Int).map (AV.int .u8)).drop (Int.toNat x_14.Skill * 1)).take 1)),(23,.int .u8 x_16),(24,.sl (r_17.map (AV.int .i64)) none),(25,.sl (([r_17] : List (List Int)).map (SV (AV.int .i64))) (some 2))]) (gK hT_18.1) [] [(1,1)] [] ?_ ?_
    ·refine drS [0, 1, 2, 3] 7 [(5, .adr), (6, .ld (.int .u8 x_16))] [0 ≤ x_14.Skill ∧ x_14.Skill < ((4 : Nat) : Int) ∧ Int.toNat x_14.Skill * 1 ≤ (([0, 1, 2, 4] : List Int).map (AV.int .u8)).length, bK (((([0, 1, 2, 4] : List Int).map (AV.int .u8)).drop (Int.toNat x_14.Skill * 1)).take 1) 0 none = some (.int .u8 x_16)] (mkS 39 [(1, .ptr 0 0), (2, .ptr 1 0), (3, .ptr 2 0), (4, i6 y_7), (5, .ptr 3 0), (10, .sl (s_1.Jobs.map aJ) none), (11, i6 ((s_1.Jobs.length : Nat) : Int)), (12, i6 y_7), (17, .ptr 2 1), (18, .sl (b_8.map (SV (AV.int .i64))) (some 0)), (19, (aP s_1)), (20, .ptr 3 1), (21, i6 x_14.Skill), (22, .rop (((([0, 1, 2, 4] : List Int).map (AV.int .u8)).drop (Int.toNat x_14.Skill * 1)).take 1)), (23, .int .u8 x_16)]) (by simp) (by kernel_rfl) ⟨adrT ([0, 1, 2, 4] : List Int) .u8 hu_15 (by decide), yC ([0, 1, 2, 4] : List Int) .u8 hx_16, trivial⟩ (by kernel_rfl) ?_
     refine drC hT_18.2 0 _ [(aP s_1),.int .u8 x_16] (dH r_17) rfl rfl rfl rfl rfl (fun _ => rfl) rfl (by simp; try rfl) (fun _ => jM _ _ _ _) ?_
     refine drR 2 1 (([r_17] : List (List Int)).map (SV (AV.int .i64))) rfl rfl (fun _ => by kernel_rfl) (by simp) rfl rfl ?_
     exact DrO.nil rfl
    ·dsimp only [List.getLastD_cons,List.getLastD_nil]
     obtain ⟨l_19,hl_19,h⟩:=bE h
     refine runH 3 [(0,.app (l_19.map (SV (AV.int .i64))) l_19.length)] [1,2,3,4,10,11,12] [LApp b_8.length (b_8.map (SV (AV.int .i64))) (([r_17] : List (List Int)).map (SV (AV.int .i64))) 1 (l_19.map (SV (AV.int .i64))) l_19.length] (mkS 39 [(1,.ptr 0 0),(2,.ptr 1 0),(3,.ptr 2 0),(4,i6 y_7),(10,.sl (s_1.Jobs.map aJ) none),(11,i6 ((s_1.Jobs.length : Nat) : Int)),(12,i6 y_7)]) (⟨[(aH s_1),[.nils,.nils,.nils],[.sl (s_1.Jobs.map aJ) none,.sl (l_19.map (SV (AV.int .i64))) (some 0),.sl (b_9.map (AV.int .i64)) (some 1)],(aY x_14)],[(l_19.length,1),(b_9.length,1),(1,1)]⟩) (by kernel_rfl) ⟨LApp.of hl_19 (fun _ => rfl),trivial⟩ ?_
     refine ExO.nil ?_
     refine ⟨mkS 39 [(1,.ptr 0 0),(2,.ptr 1 0),(3,.ptr 2 0),(4,i6 y_7),(10,.sl (s_1.Jobs.map aJ) none),(11,i6 ((s_1.Jobs.length : Nat) : Int)),(12,i6 y_7)],⟨[(aH s_1),[.nils,.nils,.nils],[.sl (s_1.Jobs.map aJ) none,.sl (l_19.map (SV (AV.int .i64))) (some 0),.sl (b_9.map (AV.int .i64)) (some 1)],(aY x_14)],[(l_19.length,1),(b_9.length,1),(1,1)]⟩,aL.refl _ _ _,?_⟩
     obtain ⟨r_20,hr_20,h⟩:=bE h
     have hT_21 : iZ Tryz.prog [⟨85,[.sl (s_1.Jobs.map aJ) none,i6 y_7],[],(eE r_20),[]⟩] ∧ gG [⟨85,[.sl (s_1.Jobs.map aJ) none,i6 y_7],[],(eE r_20),[]⟩]:=⟨⟨(oT N s_1.Jobs y_7 r_20 hr_20),rfl,trivial⟩,⟨trivial,trivial⟩⟩
     refine Ex.drawE (a1:=mkS 39 [(1,.ptr 0 0),(2,.ptr 1 0),(3,.ptr 2 0),(4,i6 y_7),(10,.sl (s_1.Jobs.map aJ) none),(11,i6 ((s_1.Jobs.length : Nat) : Int)),(12,i6 y_7),(28,.ptr 2 2),(29,.sl (b_9.map (AV.int .i64)) (some 1)),(30,.ptr 0 1),(31,.sl (s_1.Jobs.map aJ) none),(32,i6 y_7),(33,i6 r_20),(34,.sl (([r_20] : List Int).map (AV.int .i64)) (some 3))]) (gK hT_21.1) [] [(1,1)] [] ?_ ?_
     ·refine drS [0, 1, 2, 3] 5 [] [] (mkS 39 [(1, .ptr 0 0), (2, .ptr 1 0), (3, .ptr 2 0), (4, i6 y_7), (10, .sl (s_1.Jobs.map aJ) none), (11, i6 ((s_1.Jobs.length : Nat) : Int)), (12, i6 y_7), (28, .ptr 2 2), (29, .sl (b_9.map (AV.int .i64)) (some 1)), (30, .ptr 0 1), (31, .sl (s_1.Jobs.map aJ) none), (32, i6 y_7)]) (by simp) (by kernel_rfl) trivial (by kernel_rfl) ?_
      refine drC hT_21.2 0 _ [.sl (s_1.Jobs.map aJ) none,i6 y_7] (eE r_20) rfl rfl rfl rfl rfl (fun _ => rfl) rfl (by simp; try rfl) (fun _ => oW _ _ _ _) ?_
      refine drR 3 1 (([r_20] : List Int).map (AV.int .i64)) rfl rfl (fun _ => by kernel_rfl) (by simp) rfl rfl ?_
      exact DrO.nil rfl
     ·dsimp only [List.getLastD_cons,List.getLastD_nil]
      obtain ⟨l_22,hl_22,h⟩:=bE h
      refine runH 3 [(0,.app (l_22.map (AV.int .i64)) l_22.length)] [1,2,3,10,11,12] [LApp b_9.length (b_9.map (AV.int .i64)) (([r_20] : List Int).map (AV.int .i64)) 1 (l_22.map (AV.int .i64)) l_22.length] (mkS 39 [(1,.ptr 0 0),(2,.ptr 1 0),(3,.ptr 2 0),(10,.sl (s_1.Jobs.map aJ) none),(11,i6 ((s_1.Jobs.length : Nat) : Int)),(12,i6 y_7)]) (⟨[(aH s_1),[.nils,.nils,.nils],[.sl (s_1.Jobs.map aJ) none,.sl (l_19.map (SV (AV.int .i64))) (some 0),.sl (l_22.map (AV.int .i64)) (some 1)],(aY x_14)],[(l_19.length,1),(l_22.length,1),(1,1),(1,1)]⟩) (by kernel_rfl) ⟨LApp.of hl_22 (fun _ => rfl),trivial⟩ ?_
      refine ExO.nil ?_
      refine rg 2 [1,2,3,10,11,12] (mkS 39 [(1,.ptr 0 0),(2,.ptr 1 0),(3,.ptr 2 0),(10,.sl (s_1.Jobs.map aJ) none),(11,i6 ((s_1.Jobs.length : Nat) : Int)),(12,i6 (IntKind.i64.wrap (y_7 + 1)))]) ⟨[(aH s_1),[.nils,.nils,.nils],[.sl (s_1.Jobs.map aJ) none,.sl (l_19.map (SV (AV.int .i64))) (some 0),.sl (l_22.map (AV.int .i64)) (some 1)],(aY x_14)],[(l_19.length,1),(l_22.length,1),(1,1),(1,1)]⟩ ?_
      dsimp only
      exact ⟨_,_,bU (m:=39) 3 [0,1] [(1,.ptr 0 0),(2,.ptr 1 0),(3,.ptr 2 0),(10,.sl (s_1.Jobs.map aJ) none),(11,i6 ((s_1.Jobs.length : Nat) : Int)),(12,i6 (IntKind.i64.wrap (y_7 + 1)))] [(aH s_1),[.nils,.nils,.nils],[.sl (s_1.Jobs.map aJ) none,.sl (l_19.map (SV (AV.int .i64))) (some 0),.sl (l_22.map (AV.int .i64)) (some 1)]] [(l_19.length,1),(l_22.length,1)] (by simp [bH]) (by simp) ⟨rfl,rfl,rfl,(reN (eP _)),rfl,rfl,trivial⟩ (by simp) rfl (by decide),k,Nat.lt_succ_self k,(IntKind.i64.wrap (y_7 + 1)),l_19,l_22,h,rfl,rfl⟩
   ·refine Ex.condF _ rfl hc_13 ?_
    refine Ex.exit ?_
    (try simp only [reduceCtorEq,AEx.ex.injEq,Nat.reduceEqDiff,if_true,if_false])
    exact ⟨_,_,bS [2,3],b_8,b_9,h,rfl,rfl⟩
 ·rintro a S ⟨b_2,b_3,h,rfl,rfl⟩
  subst hK_6
  refine Ex.seq (rg 2 [2] (mkS 39 [(2,.ptr 1 0)]) ⟨[(aH s_1),[.sl (s_1.Jobs.map aJ) none,.sl (b_2.map (SV (AV.int .i64))) (some 0),.sl (b_3.map (AV.int .i64)) (some 1)],[.sl (s_1.Jobs.map aJ) none,.sl (b_2.map (SV (AV.int .i64))) (some 0),.sl (b_3.map (AV.int .i64)) (some 1)]],[(b_2.length,1),(b_3.length,1)]⟩ ?_)
  refine Ex.ret ?_
  obtain rfl:=sJ h
  exact rt (.agg [.sl (s_1.Jobs.map aJ) none,.sl (b_2.map (SV (AV.int .i64))) (some 0),.sl (b_3.map (AV.int .i64)) (some 1)])
def eI (N : Nat) (p_1 : aT) (d_2 : aF) (job_3 : Int) : Option (Bool):=((getI p_1.after_ job_3).bind fun x_4 => (bif (x_4 != (-1)) then ((idxI x_4 7).bind fun u_6 => ((d_2.planned_.l[Int.toNat x_4]?).bind fun x_7 => some (!x_7))) else some false))
def fL (r : Bool) : AV:=.bool r
attribute [local simp] fL
theorem rH (p_1 : aT) (d_2 : aF) (job_3 : Int) : [(aM p_1),(aI d_2),i6 job_3].mapM (ren []) = some [(aM p_1),(aI d_2),i6 job_3]:=by simp
theorem rD (r : Bool) (n n2 m : Nat) : back n n2 m (fL r) = some (fL r):=by simp
theorem qY (N : Nat) (p_1 : aT) (d_2 : aF) (job_3 : Int) (r : Bool) (h : eI N p_1 d_2 job_3 = some r) : Does Tryz.prog 116 [(aM p_1),(aI d_2),i6 job_3] [] fun v c => v = fL r ∧ c = []:=by
 unfold eI at h
 refine Does.ofL comp116 _ _ rfl rfl ?_
 refine Ex.seq (rg 3 [2,3,4] (mkS 22 [(2,i6 job_3),(3,.ptr 0 0),(4,.ptr 1 0)]) ⟨[(aC p_1),(aB d_2)],[]⟩ ?_)
 refine Ex.seq ?_
 obtain ⟨x_4,hx_4,h⟩:=bE h
 refine regH 6 [(3,.rop [i6 x_4])] [4,7] [LGet (p_1.after_.map (AV.int .i64)) job_3 1 [i6 x_4]] (mkS 22 [(4,.ptr 1 0),(7,i6 x_4)]) (⟨[(aC p_1),(aB d_2)],[]⟩) (by kernel_rfl) ⟨LGet.of hx_4 rfl,trivial⟩ rfl ?_
 refine Ex.seq ?_
 rcases aU h with ⟨hc_5,h⟩ | ⟨hc_5,h⟩
 ·obtain ⟨u_6,hu_6,h⟩:=bE h
  obtain ⟨x_7,hx_7,h⟩:=bE h
  refine regH 10 [(2,.eq (.bool true)),(5,.adr),(6,.ld (.bool x_7))] [6] [AV.bool (x_4 != (-1)) = AV.bool true,0 ≤ x_4 ∧ x_4 < ((7 : Nat) : Int),bK (aB d_2) (14 + Int.toNat x_4 * 1) none = some (.bool x_7)] (mkS 22 [(6,.bool (!x_7))]) (⟨[(aC p_1),(aB d_2)],[]⟩) (by kernel_rfl) ⟨congrArg AV.bool hc_5,idxI.of hu_6,wM (f:=AV.bool) d_2.planned_.l (aB d_2) 14 0 7 x_4 x_7 (.bool x_7) (fun _ => rfl) (by kernel_rfl) rfl hu_6 hx_7 rfl,trivial⟩ rfl ?_
  refine Ex.ret ?_
  obtain rfl:=sJ h
  exact rt (.bool (!x_7))
 ·refine regH 10 [(2, .eq (.bool false))] [6] [AV.bool (x_4 != (-1)) = AV.bool false] (mkS 22 [(6, .bool false)]) (⟨[(aC p_1), (aB d_2)], []⟩) (by kernel_rfl) ⟨congrArg AV.bool hc_5, trivial⟩ rfl ?_
  refine Ex.ret ?_
  obtain rfl:=sJ h
  exact rt (.bool false)
def dM (N : Nat) (p_1 : aT) (d_2 : aF) (job_3 : Int) : Option (Int):=((getI p_1.after_ job_3).bind fun x_4 => (bif (x_4 != (-1)) then ((eF N p_1.jobs_ [d_2.shifts_.a0,d_2.shifts_.a1,d_2.shifts_.a2,d_2.shifts_.a3,d_2.shifts_.a4,d_2.shifts_.a5,d_2.shifts_.a6] x_4).bind fun r_6 => some r_6) else some 0))
def bZ (r : Int) : AV:=i6 r
attribute [local simp] bZ
theorem lS (r : Int) (n n2 m : Nat) : back n n2 m (bZ r) = some (bZ r):=by simp
theorem lR (N : Nat) (p_1 : aT) (d_2 : aF) (job_3 : Int) (r : Int) (h : dM N p_1 d_2 job_3 = some r) : Does Tryz.prog 117 [(aM p_1),(aI d_2),i6 job_3] [] fun v c => v = bZ r ∧ c = []:=by
 unfold dM at h
 refine Does.ofL comp117 _ _ rfl rfl ?_
 refine Ex.seq (rg 3 [2,3,4] (mkS 21 [(2,i6 job_3),(3,.ptr 0 0),(4,.ptr 1 0)]) ⟨[(aC p_1),(aB d_2)],[]⟩ ?_)
 refine Ex.seq (Ex.seq ?_)
 obtain ⟨x_4,hx_4,h⟩:=bE h
 refine regH 6 [(3,.rop [i6 x_4])] [3,4,7] [LGet (p_1.after_.map (AV.int .i64)) job_3 1 [i6 x_4]] (mkS 21 [(3,.ptr 0 0),(4,.ptr 1 0),(7,i6 x_4)]) (⟨[(aC p_1),(aB d_2)],[]⟩) (by kernel_rfl) ⟨LGet.of hx_4 rfl,trivial⟩ rfl ?_
 refine Ex.seq (rg 2 [3,4,7,14] (mkS 21 [(3,.ptr 0 0),(4,.ptr 1 0),(7,i6 x_4),(14,.bool (x_4 != (-1)))]) ⟨[(aC p_1),(aB d_2)],[]⟩ ?_)
 rcases aU h with ⟨hc_5,h⟩ | ⟨hc_5,h⟩
 ·refine Ex.condT _ rfl hc_5 ?_
  refine Ex.seq ?_
  refine Ex.drawE (a1:=mkS 21 [(3,.ptr 0 0),(4,.ptr 1 0),(7,i6 x_4),(14,.bool (x_4 != (-1))),(15,.ptr 0 0),(16,.sl (p_1.jobs_.map aJ) none),(17,.ptr 1 0),(18,.ms 1 7 2),(19,i6 x_4)]) (cD _) [] [] [] ?_ ?_
  ·refine drS [0, 1] 5 [] [] (mkS 21 [(3, .ptr 0 0), (4, .ptr 1 0), (7, i6 x_4), (14, .bool (x_4 != (-1))), (15, .ptr 0 0), (16, .sl (p_1.jobs_.map aJ) none), (17, .ptr 1 0), (18, .ms 1 7 2), (19, i6 x_4)]) (by simp) (by kernel_rfl) trivial (by kernel_rfl) ?_
   exact DrO.nil rfl
  ·dsimp only [List.getLastD_cons,List.getLastD_nil]
   obtain ⟨r_6,hr_6,h⟩:=bE h
   refine ExO.callLend [(1,2,([d_2.shifts_.a0,d_2.shifts_.a1,d_2.shifts_.a2,d_2.shifts_.a3,d_2.shifts_.a4,d_2.shifts_.a5,d_2.shifts_.a6] : List aG).map aA,[.bool d_2.planned_.a0,.bool d_2.planned_.a1,.bool d_2.planned_.a2,.bool d_2.planned_.a3,.bool d_2.planned_.a4,.bool d_2.planned_.a5,.bool d_2.planned_.a6,i6 d_2.many_,i6 d_2.last_,i6 d_2.days_])] [] [.sl (p_1.jobs_.map aJ) none,.ms 1 7 2,i6 x_4] rfl rfl (by exact ⟨.n (by simp; try rfl),⟨.s 0 rfl rfl,⟨.n (by simp; try rfl),trivial⟩⟩⟩) ⟨⟨(by kernel_rfl),show 0 < 2 by decide,fun i e he => eL (f:=aA) (s:=2) (fun _ => rfl) _ e (List.mem_of_getElem? he),(fX (f:=aA) (fun _ => rfl) _),show 1 ∉ ([] : List Nat) by decide⟩,trivial⟩ rfl rfl (jJ N p_1.jobs_ [d_2.shifts_.a0,d_2.shifts_.a1,d_2.shifts_.a2,d_2.shifts_.a3,d_2.shifts_.a4,d_2.shifts_.a5,d_2.shifts_.a6] x_4 r_6 hr_6) rfl rfl rfl ?_
   refine rn 1 [6] (mkS 21 [(6,i6 r_6)]) ⟨[(aC p_1),(aB d_2)],[]⟩ ?_
   refine ExO.nil ?_
   refine Ex.ret ?_
   obtain rfl:=sJ h
   exact rt (i6 r_6)
 ·refine Ex.condF _ rfl hc_5 ?_
  refine Ex.skip ?_
  refine Ex.seq (rg 1 [6] (mkS 21 [(6,i6 0)]) ⟨[(aC p_1),(aB d_2)],[]⟩ ?_)
  refine Ex.ret ?_
  obtain rfl:=sJ h
  exact rt (i6 0)
def eR (N : Nat) (p_1 : aT) (d_2 : aF) (worker_3 : Int) : Option (Int):=(letJ (fun (day_4 : Int) => some day_4) (fun k_5 => (loop2 (fun rec_10 (day_8 : Int) (y_9 : Int) => (bif (decide (y_9 < ((p_1.jobs_.length : Nat) : Int))) then (letJ (fun (day_14 : Int) => (rec_10 day_14 (IntKind.i64.wrap (y_9 + 1)))) (fun k_15 => (letJ (fun (y_18 : Bool) => (bif y_18 then ((eF N p_1.jobs_ [d_2.shifts_.a0,d_2.shifts_.a1,d_2.shifts_.a2,d_2.shifts_.a3,d_2.shifts_.a4,d_2.shifts_.a5,d_2.shifts_.a6] y_9).bind fun r_28 => (k_15 (if r_28 > day_8 then r_28 else day_8))) else (k_15 day_8))) (fun k_19 => ((idxI y_9 7).bind fun u_22 => ((d_2.planned_.l[Int.toNat y_9]?).bind fun x_23 => (bif x_23 then ((idxI y_9 7).bind fun u_25 => ((d_2.shifts_.l[Int.toNat y_9]?).bind fun x_26 => (k_19 (x_26.Worker == worker_3)))) else (k_19 false)))))))) else (k_5 day_8))) N 0 0)))
def gB (r : Int) : AV:=i6 r
attribute [local simp] gB
theorem sM (p_1 : aT) (d_2 : aF) (worker_3 : Int) : [(aM p_1),(aI d_2),i6 worker_3].mapM (ren []) = some [(aM p_1),(aI d_2),i6 worker_3]:=by simp
theorem sG (r : Int) (n n2 m : Nat) : back n n2 m (gB r) = some (gB r):=by simp
theorem sB (N : Nat) (p_1 : aT) (d_2 : aF) (worker_3 : Int) (r : Int) (h : eR N p_1 d_2 worker_3 = some r) : Does Tryz.prog 118 [(aM p_1),(aI d_2),i6 worker_3] [] fun v c => v = gB r ∧ c = []:=by
 unfold eR at h
 refine Does.ofL comp118 _ _ rfl rfl ?_
 refine Ex.seq (rg 3 [2,3,4] (mkS 38 [(2,i6 worker_3),(3,.ptr 0 0),(4,.ptr 1 0)]) ⟨[(aC p_1),(aB d_2)],[]⟩ ?_)
 refine Ex.seq (rg 1 [2,3,4,7] (mkS 38 [(2,i6 worker_3),(3,.ptr 0 0),(4,.ptr 1 0),(7,i6 0)]) ⟨[(aC p_1),(aB d_2)],[]⟩ ?_)
 refine Ex.seq (Ex.seq ?_)
 refine regH 4 [(2,.eq (i6 ((p_1.jobs_.length : Nat) : Int)))] [2,3,4,7,11,12] [AV.int .i64 (((p_1.jobs_.map aJ).length : Nat) : Int) = AV.int .i64 ((p_1.jobs_.length : Nat) : Int)] (mkS 38 [(2,i6 worker_3),(3,.ptr 0 0),(4,.ptr 1 0),(7,i6 0),(11,i6 ((p_1.jobs_.length : Nat) : Int)),(12,i6 0)]) (⟨[(aC p_1),(aB d_2)],[]⟩) (by kernel_rfl) ⟨lenM _ _,trivial⟩ rfl ?_
 obtain ⟨K_6,hK_7,h⟩:=letE h
 refine Ex.blockJ (fun a S => ∃ (day_4 : Int),K_6 day_4 = some r ∧ a = mkS 38 [(7,i6 day_4)] ∧ S = ⟨[],[]⟩) ?_ ?_
 ·obtain ⟨B_11,hB_12,h⟩:=kD h
  refine Ex.loopF (fun k a S => ∃ (day_8 : Int),∃ (y_9 : Int),loop2 B_11 k day_8 y_9 = some r ∧ a = mkS 38 [(2,i6 worker_3),(3,.ptr 0 0),(4,.ptr 1 0),(7,i6 day_8),(11,i6 ((p_1.jobs_.length : Nat) : Int)),(12,i6 y_9)] ∧ S = ⟨[(aC p_1),(aB d_2)],[]⟩) N ⟨_,_,aL.refl _ _ _,0,0,h,rfl,rfl⟩ ?_
  rintro k a S ⟨day_8,y_9,h,rfl,rfl⟩
  cases k with
  | zero => exact (kB h).elim
  | succ k =>
   replace h:=kC h hB_12
   refine Ex.seq (rg 1 [2,3,4,7,11,12,13] (mkS 38 [(2,i6 worker_3),(3,.ptr 0 0),(4,.ptr 1 0),(7,i6 day_8),(11,i6 ((p_1.jobs_.length : Nat) : Int)),(12,i6 y_9),(13,.bool (decide (y_9 < ((p_1.jobs_.length : Nat) : Int))))]) ⟨[(aC p_1),(aB d_2)],[]⟩ ?_)
   refine Ex.seq ?_
   rcases aU h with ⟨hc_13,h⟩ | ⟨hc_13,h⟩
   ·refine Ex.condT _ rfl hc_13 ?_
    refine Ex.skip ?_
    refine Ex.seq ?_
    obtain ⟨K_16,hK_17,h⟩:=letE h
    refine Ex.blockJ (fun a S => ∃ (day_14 : Int),K_16 day_14 = some r ∧ a = mkS 38 [(2,i6 worker_3),(3,.ptr 0 0),(4,.ptr 1 0),(7,i6 day_14),(11,i6 ((p_1.jobs_.length : Nat) : Int)),(12,i6 y_9)] ∧ S = ⟨[(aC p_1),(aB d_2)],[]⟩) ?_ ?_
    ·refine Ex.seq (rg 2 [2,3,4,7,8,11,12] (mkS 38 [(2,i6 worker_3),(3,.ptr 0 0),(4,.ptr 1 0),(7,i6 day_8),(8,i6 y_9),(11,i6 ((p_1.jobs_.length : Nat) : Int)),(12,i6 y_9)]) ⟨[(aC p_1),(aB d_2)],[]⟩ ?_)
     obtain ⟨K_20,hK_21,h⟩:=letE h
     refine Ex.seqJ (fun a S => ∃ (y_18 : Bool),K_20 y_18 = some r ∧ a = mkS 38 [(2,i6 worker_3),(3,.ptr 0 0),(4,.ptr 1 0),(7,i6 day_8),(8,i6 y_9),(11,i6 ((p_1.jobs_.length : Nat) : Int)),(12,i6 y_9),(27,.bool y_18)] ∧ S = ⟨[(aC p_1),(aB d_2)],[]⟩) ?_ ?_
     ·obtain ⟨u_22,hu_22,h⟩:=bE h
      obtain ⟨x_23,hx_23,h⟩:=bE h
      rcases aU h with ⟨hc_24,h⟩ | ⟨hc_24,h⟩
      ·obtain ⟨u_25,hu_25,h⟩:=bE h
       obtain ⟨x_26,hx_26,h⟩:=bE h
       refine regH 13 [(2,.adr),(3,.ld (.bool x_23)),(4,.eq (.bool true)),(7,.adr),(9,.ld (i6 x_26.Worker))] [2,3,4,7,8,11,12,27] [0 ≤ y_9 ∧ y_9 < ((7 : Nat) : Int),bK (aB d_2) (14 + Int.toNat y_9 * 1) none = some (.bool x_23),AV.bool x_23 = AV.bool true,0 ≤ y_9 ∧ y_9 < ((7 : Nat) : Int),bK (aB d_2) (0 + Int.toNat y_9 * 2 + 0) none = some (i6 x_26.Worker)] (mkS 38 [(2,i6 worker_3),(3,.ptr 0 0),(4,.ptr 1 0),(7,i6 day_8),(8,i6 y_9),(11,i6 ((p_1.jobs_.length : Nat) : Int)),(12,i6 y_9),(27,.bool (x_26.Worker == worker_3))]) (⟨[(aC p_1),(aB d_2)],[]⟩) (by kernel_rfl) ⟨idxI.of hu_22,wM (f:=AV.bool) d_2.planned_.l (aB d_2) 14 0 7 y_9 x_23 (.bool x_23) (fun _ => rfl) (by kernel_rfl) rfl hu_22 hx_23 rfl,congrArg AV.bool hc_24,idxI.of hu_25,wM (f:=aA) d_2.shifts_.l (aB d_2) 0 0 7 y_9 x_26 (i6 x_26.Worker) (fun _ => rfl) (by kernel_rfl) rfl hu_25 hx_26 rfl,trivial⟩ rfl ?_
       (try simp only [reduceCtorEq,AEx.ex.injEq,Nat.reduceEqDiff,if_true,if_false])
       exact ⟨_,_,aL.refl _ _ _,(x_26.Worker == worker_3),h,rfl,rfl⟩
      ·refine regH 13 [(2, .adr), (3, .ld (.bool x_23)), (4, .eq (.bool false))] [2, 3, 4, 7, 8, 11, 12, 27] [0 ≤ y_9 ∧ y_9 < ((7 : Nat) : Int), bK (aB d_2) (14 + Int.toNat y_9 * 1) none = some (.bool x_23), AV.bool x_23 = AV.bool false] (mkS 38 [(2, i6 worker_3), (3, .ptr 0 0), (4, .ptr 1 0), (7, i6 day_8), (8, i6 y_9), (11, i6 ((p_1.jobs_.length : Nat) : Int)), (12, i6 y_9), (27, .bool false)]) (⟨[(aC p_1), (aB d_2)], []⟩) (by kernel_rfl) ⟨idxI.of hu_22, wM (f := AV.bool) d_2.planned_.l (aB d_2) 14 0 7 y_9 x_23 (.bool x_23) (fun _ => rfl) (by kernel_rfl) rfl hu_22 hx_23 rfl, congrArg AV.bool hc_24, trivial⟩ rfl ?_
       (try simp only [reduceCtorEq,AEx.ex.injEq,Nat.reduceEqDiff,if_true,if_false])
       exact ⟨_,_,aL.refl _ _ _,false,h,rfl,rfl⟩
     ·rintro a S ⟨y_18,h,rfl,rfl⟩
      subst hK_21
      rcases aU h with ⟨hc_27,h⟩ | ⟨hc_27,h⟩
      ·refine Ex.condT _ rfl hc_27 ?_
       obtain ⟨r_28,hr_28,h⟩:=bE h
       have hL_29 : aFm Tryz.prog (⟨96,[(1,2,([d_2.shifts_.a0,d_2.shifts_.a1,d_2.shifts_.a2,d_2.shifts_.a3,d_2.shifts_.a4,d_2.shifts_.a5,d_2.shifts_.a6] : List aG).map aA,[.bool d_2.planned_.a0,.bool d_2.planned_.a1,.bool d_2.planned_.a2,.bool d_2.planned_.a3,.bool d_2.planned_.a4,.bool d_2.planned_.a5,.bool d_2.planned_.a6,i6 d_2.many_,i6 d_2.last_,i6 d_2.days_])],[.sl (p_1.jobs_.map aJ) none,.ms 1 7 2,i6 y_9],[.sl (p_1.jobs_.map aJ) none,.sl (([d_2.shifts_.a0,d_2.shifts_.a1,d_2.shifts_.a2,d_2.shifts_.a3,d_2.shifts_.a4,d_2.shifts_.a5,d_2.shifts_.a6] : List aG).map aA) none,i6 y_9],(cB r_28)⟩ : LdR):=⟨⟨.n (by simp; try rfl),⟨.s 0 rfl rfl,⟨.n (by simp; try rfl),trivial⟩⟩⟩,jJ N p_1.jobs_ [d_2.shifts_.a0,d_2.shifts_.a1,d_2.shifts_.a2,d_2.shifts_.a3,d_2.shifts_.a4,d_2.shifts_.a5,d_2.shifts_.a6] y_9 r_28 hr_28,rfl⟩
       refine Ex.drawE (a1:=mkS 38 [(2,i6 worker_3),(3,.ptr 0 0),(4,.ptr 1 0),(7,i6 day_8),(8,i6 y_9),(11,i6 ((p_1.jobs_.length : Nat) : Int)),(12,i6 y_9),(27,.bool y_18),(28,i6 day_8),(29,.ptr 0 0),(30,.sl (p_1.jobs_.map aJ) none),(31,.ptr 1 0),(32,.ms 1 7 2),(33,i6 y_9),(34,i6 r_28)]) (aBP hL_29 (cD _)) [] [] [] ?_ ?_
       ·refine drS [0, 1] 6 [] [] (mkS 38 [(2, i6 worker_3), (3, .ptr 0 0), (4, .ptr 1 0), (7, i6 day_8), (8, i6 y_9), (11, i6 ((p_1.jobs_.length : Nat) : Int)), (12, i6 y_9), (27, .bool y_18), (28, i6 day_8), (29, .ptr 0 0), (30, .sl (p_1.jobs_.map aJ) none), (31, .ptr 1 0), (32, .ms 1 7 2), (33, i6 y_9)]) (by simp) (by kernel_rfl) trivial (by kernel_rfl) ?_
        refine drLd (r:=(⟨96,[(1,2,([d_2.shifts_.a0,d_2.shifts_.a1,d_2.shifts_.a2,d_2.shifts_.a3,d_2.shifts_.a4,d_2.shifts_.a5,d_2.shifts_.a6] : List aG).map aA,[.bool d_2.planned_.a0,.bool d_2.planned_.a1,.bool d_2.planned_.a2,.bool d_2.planned_.a3,.bool d_2.planned_.a4,.bool d_2.planned_.a5,.bool d_2.planned_.a6,i6 d_2.many_,i6 d_2.last_,i6 d_2.days_])],[.sl (p_1.jobs_.map aJ) none,.ms 1 7 2,i6 y_9],[.sl (p_1.jobs_.map aJ) none,.sl (([d_2.shifts_.a0,d_2.shifts_.a1,d_2.shifts_.a2,d_2.shifts_.a3,d_2.shifts_.a4,d_2.shifts_.a5,d_2.shifts_.a6] : List aG).map aA) none,i6 y_9],(cB r_28)⟩ : LdR)) rfl rfl (fun _ _ => rfl) (by exact (List.forall_mem_cons.2 ⟨⟨⟨(by kernel_rfl),show 0 < 2 by decide,fun i e he => eL (f:=aA) (s:=2) (fun _ => rfl) _ e (List.mem_of_getElem? he),(fX (f:=aA) (fun _ => rfl) _),show 1 ∉ ([] : List Nat) by decide⟩,trivial⟩,(fun _ h => (List.not_mem_nil h).elim)⟩)) (fun st hl => yA rfl hl) ?_
        exact DrO.nil rfl
       ·dsimp only [List.getLastD_cons,List.getLastD_nil]
        refine rn 2 [2,3,4,7,11,12] (mkS 38 [(2,i6 worker_3),(3,.ptr 0 0),(4,.ptr 1 0),(7,i6 (if r_28 > day_8 then r_28 else day_8)),(11,i6 ((p_1.jobs_.length : Nat) : Int)),(12,i6 y_9)]) ⟨[(aC p_1),(aB d_2)],[]⟩ ?_
        refine ExO.nil ?_
        (try simp only [reduceCtorEq,AEx.ex.injEq,Nat.reduceEqDiff,if_true,if_false])
        exact ⟨_,_,aL.refl _ _ _,(if r_28 > day_8 then r_28 else day_8),h,rfl,rfl⟩
      ·refine Ex.condF _ rfl hc_27 ?_
       refine Ex.skip ?_
       (try simp only [reduceCtorEq,AEx.ex.injEq,Nat.reduceEqDiff,if_true,if_false])
       exact ⟨_,_,bS [2,3,4,7,11,12],day_8,h,rfl,rfl⟩
    ·rintro a S ⟨day_14,h,rfl,rfl⟩
     subst hK_17
     refine rg 2 [2,3,4,7,11,12] (mkS 38 [(2,i6 worker_3),(3,.ptr 0 0),(4,.ptr 1 0),(7,i6 day_14),(11,i6 ((p_1.jobs_.length : Nat) : Int)),(12,i6 (IntKind.i64.wrap (y_9 + 1)))]) ⟨[(aC p_1),(aB d_2)],[]⟩ ?_
     dsimp only
     exact ⟨_,_,aL.refl _ _ _,k,Nat.lt_succ_self k,day_14,(IntKind.i64.wrap (y_9 + 1)),h,rfl,rfl⟩
   ·refine Ex.condF _ rfl hc_13 ?_
    refine Ex.exit ?_
    (try simp only [reduceCtorEq,AEx.ex.injEq,Nat.reduceEqDiff,if_true,if_false])
    exact ⟨_,_,bU (m:=38) 0 [] [(7,i6 day_8)] [] [] (by simp [bH]) (by simp) ⟨rfl,trivial⟩ (by simp) rfl (by decide),day_8,h,rfl,rfl⟩
 ·rintro a S ⟨day_4,h,rfl,rfl⟩
  subst hK_7
  refine Ex.seq (rg 2 [6] (mkS 38 [(6,i6 day_4)]) ⟨[],[]⟩ ?_)
  refine Ex.ret ?_
  obtain rfl:=sJ h
  exact rt (i6 day_4)
def fP (N : Nat) (d_1 : aF) (job_2 : Int) : Option (Int):=(bif (d_1.last_ == (-1)) then some 0 else (bif (decide (job_2 < d_1.last_)) then ((idxI d_1.last_ 7).bind fun u_5 => ((d_1.shifts_.l[Int.toNat d_1.last_]?).bind fun x_6 => some (IntKind.i64.wrap (x_6.Day + 1)))) else ((idxI d_1.last_ 7).bind fun u_7 => ((d_1.shifts_.l[Int.toNat d_1.last_]?).bind fun x_8 => some x_8.Day))))
def dR (r : Int) : AV:=i6 r
attribute [local simp] dR
theorem uM (r : Int) (n n2 m : Nat) : back n n2 m (dR r) = some (dR r):=by simp
theorem uG (N : Nat) (d_1 : aF) (job_2 : Int) (r : Int) (h : fP N d_1 job_2 = some r) : Does Tryz.prog 120 [(aI d_1),i6 job_2] [] fun v c => v = dR r ∧ c = []:=by
 unfold fP at h
 refine Does.ofL comp120 _ _ rfl rfl ?_
 refine Ex.seq (rg 2 [1,2] (mkS 27 [(1,i6 job_2),(2,.ptr 0 0)]) ⟨[(aB d_1)],[]⟩ ?_)
 refine Ex.seq ?_
 refine Ex.blockK ?_
 refine Ex.seq (rg 4 [1,2,5] (mkS 27 [(1,i6 job_2),(2,.ptr 0 0),(5,.bool (d_1.last_ == (-1)))]) ⟨[(aB d_1)],[]⟩ ?_)
 rcases aU h with ⟨hc_3,h⟩ | ⟨hc_3,h⟩
 ·refine Ex.condT _ rfl hc_3 ?_
  refine Ex.seq (rg 1 [4] (mkS 27 [(4,i6 0)]) ⟨[(aB d_1)],[]⟩ ?_)
  refine Ex.ret ?_
  obtain rfl:=sJ h
  exact rt (i6 0)
 ·refine Ex.condF _ rfl hc_3 ?_
  refine Ex.seq (rg 5 [2,9] (mkS 27 [(2,.ptr 0 0),(9,.bool (decide (job_2 < d_1.last_)))]) ⟨[(aB d_1)],[]⟩ ?_)
  rcases aU h with ⟨hc_4,h⟩ | ⟨hc_4,h⟩
  ·refine Ex.condT _ rfl hc_4 ?_
   refine Ex.seq ?_
   obtain ⟨u_5,hu_5,h⟩:=bE h
   obtain ⟨x_6,hx_6,h⟩:=bE h
   refine regH 8 [(3,.adr),(5,.ld (i6 x_6.Day))] [4] [0 ≤ d_1.last_ ∧ d_1.last_ < ((7 : Nat) : Int),bK (aB d_1) (0 + Int.toNat d_1.last_ * 2 + 1) none = some (i6 x_6.Day)] (mkS 27 [(4,i6 (IntKind.i64.wrap (x_6.Day + 1)))]) (⟨[(aB d_1)],[]⟩) (by kernel_rfl) ⟨idxI.of hu_5,wM (f:=aA) d_1.shifts_.l (aB d_1) 0 1 7 d_1.last_ x_6 (i6 x_6.Day) (fun _ => rfl) (by kernel_rfl) rfl hu_5 hx_6 rfl,trivial⟩ rfl ?_
   refine Ex.ret ?_
   obtain rfl:=sJ h
   exact rt (i6 (IntKind.i64.wrap (x_6.Day + 1)))
  ·refine Ex.condF _ rfl hc_4 ?_
   refine Ex.skip ?_
   refine Ex.seq ?_
   obtain ⟨u_7,hu_7,h⟩:=bE h
   obtain ⟨x_8,hx_8,h⟩:=bE h
   refine regH 7 [(3,.adr),(5,.ld (i6 x_8.Day))] [4] [0 ≤ d_1.last_ ∧ d_1.last_ < ((7 : Nat) : Int),bK (aB d_1) (0 + Int.toNat d_1.last_ * 2 + 1) none = some (i6 x_8.Day)] (mkS 27 [(4,i6 x_8.Day)]) (⟨[(aB d_1)],[]⟩) (by kernel_rfl) ⟨idxI.of hu_7,wM (f:=aA) d_1.shifts_.l (aB d_1) 0 1 7 d_1.last_ x_8 (i6 x_8.Day) (fun _ => rfl) (by kernel_rfl) rfl hu_7 hx_8 rfl,trivial⟩ rfl ?_
   refine Ex.ret ?_
   obtain rfl:=sJ h
   exact rt (i6 x_8.Day)
def cY (N : Nat) (p_1 : aT) (d_2 : aF) : Option (aF):=(letJ (fun (z_3 : aF) => ((gN N p_1.jobs_ [z_3.shifts_.a0,z_3.shifts_.a1,z_3.shifts_.a2,z_3.shifts_.a3,z_3.shifts_.a4,z_3.shifts_.a5,z_3.shifts_.a6]).bind fun r_26 => some (⟨z_3.shifts_,z_3.planned_,z_3.many_,z_3.last_,r_26⟩ : aF))) (fun k_4 => (loop2 (fun rec_9 (y_7 : Int) (z_8 : aF) => (bif (decide (y_7 < ((p_1.jobs_.length : Nat) : Int))) then (letJ (fun (z_13 : aF) => (rec_9 (IntKind.i64.wrap (y_7 + 1)) z_13)) (fun k_14 => ((idxI y_7 7).bind fun u_17 => ((z_8.planned_.l[Int.toNat y_7]?).bind fun x_18 => (bif x_18 then (k_14 z_8) else ((dM N p_1 z_8 y_7).bind fun r_20 => ((fP N z_8 y_7).bind fun r_21 => ((idxI y_7 7).bind fun u_23 => (((z_8.shifts_.l[Int.toNat y_7]?).map fun (y_24 : aG) => (⟨(bF.ofl (z_8.shifts_.l.set (Int.toNat y_7) (⟨y_24.Worker,(if r_21 > r_20 then r_21 else r_20)⟩ : aG))),z_8.planned_,z_8.many_,z_8.last_,z_8.days_⟩ : aF)).bind fun z_25 => (k_14 z_25)))))))))) else (k_4 z_8))) N 0 d_2)))
def dI (r : aF) : AV:=(aI r)
attribute [local simp] dI
theorem tP (p_1 : aT) (d_2 : aF) : [(aM p_1),(aI d_2)].mapM (ren []) = some [(aM p_1),(aI d_2)]:=by simp
theorem nE (r : aF) (n n2 m : Nat) : back n n2 m (dI r) = some (dI r):=by simp
theorem nA (N : Nat) (p_1 : aT) (d_2 : aF) (r : aF) (h : cY N p_1 d_2 = some r) : Does Tryz.prog 89 [(aM p_1),(aI d_2)] [] fun v c => v = dI r ∧ c = []:=by
 unfold cY at h
 refine Does.ofL comp89 _ _ rfl rfl ?_
 refine Ex.seq (rg 3 [2,3,4] (mkS 36 [(2,.ptr 0 0),(3,.ptr 1 0),(4,.ptr 2 0)]) ⟨[(aC p_1),(aB d_2),[i6 0,i6 0,i6 0,i6 0,i6 0,i6 0,i6 0,i6 0,i6 0,i6 0,i6 0,i6 0,i6 0,i6 0,.bool false,.bool false,.bool false,.bool false,.bool false,.bool false,.bool false,i6 0,i6 0,i6 0]],[]⟩ ?_)
 refine Ex.seq (Ex.seq ?_)
 refine regH 4 [(2,.eq (i6 ((p_1.jobs_.length : Nat) : Int)))] [2,3,4,8,9] [AV.int .i64 (((p_1.jobs_.map aJ).length : Nat) : Int) = AV.int .i64 ((p_1.jobs_.length : Nat) : Int)] (mkS 36 [(2,.ptr 0 0),(3,.ptr 1 0),(4,.ptr 2 0),(8,i6 ((p_1.jobs_.length : Nat) : Int)),(9,i6 0)]) (⟨[(aC p_1),(aB d_2),[i6 0,i6 0,i6 0,i6 0,i6 0,i6 0,i6 0,i6 0,i6 0,i6 0,i6 0,i6 0,i6 0,i6 0,.bool false,.bool false,.bool false,.bool false,.bool false,.bool false,.bool false,i6 0,i6 0,i6 0]],[]⟩) (by kernel_rfl) ⟨lenM _ _,trivial⟩ rfl ?_
 obtain ⟨K_5,hK_6,h⟩:=letE h
 refine Ex.blockJ (fun a S => ∃ (z_3 : aF),K_5 z_3 = some r ∧ a = mkS 36 [(2,.ptr 0 0),(3,.ptr 1 0),(4,.ptr 2 0)] ∧ S = ⟨[(aC p_1),(aB z_3),[i6 0,i6 0,i6 0,i6 0,i6 0,i6 0,i6 0,i6 0,i6 0,i6 0,i6 0,i6 0,i6 0,i6 0,.bool false,.bool false,.bool false,.bool false,.bool false,.bool false,.bool false,i6 0,i6 0,i6 0]],[]⟩) ?_ ?_
 ·obtain ⟨B_10,hB_11,h⟩:=kD h
  refine Ex.loopF (fun k a S => ∃ (y_7 : Int),∃ (z_8 : aF),loop2 B_10 k y_7 z_8 = some r ∧ a = mkS 36 [(2,.ptr 0 0),(3,.ptr 1 0),(4,.ptr 2 0),(8,i6 ((p_1.jobs_.length : Nat) : Int)),(9,i6 y_7)] ∧ S = ⟨[(aC p_1),(aB z_8),[i6 0,i6 0,i6 0,i6 0,i6 0,i6 0,i6 0,i6 0,i6 0,i6 0,i6 0,i6 0,i6 0,i6 0,.bool false,.bool false,.bool false,.bool false,.bool false,.bool false,.bool false,i6 0,i6 0,i6 0]],[]⟩) N ⟨_,_,aL.refl _ _ _,0,d_2,h,rfl,rfl⟩ ?_
  rintro k a S ⟨y_7,z_8,h,rfl,rfl⟩
  cases k with
  | zero => exact (kB h).elim
  | succ k =>
   replace h:=kC h hB_11
   refine Ex.seq (rg 1 [2,3,4,8,9,10] (mkS 36 [(2,.ptr 0 0),(3,.ptr 1 0),(4,.ptr 2 0),(8,i6 ((p_1.jobs_.length : Nat) : Int)),(9,i6 y_7),(10,.bool (decide (y_7 < ((p_1.jobs_.length : Nat) : Int))))]) ⟨[(aC p_1),(aB z_8),[i6 0,i6 0,i6 0,i6 0,i6 0,i6 0,i6 0,i6 0,i6 0,i6 0,i6 0,i6 0,i6 0,i6 0,.bool false,.bool false,.bool false,.bool false,.bool false,.bool false,.bool false,i6 0,i6 0,i6 0]],[]⟩ ?_)
   refine Ex.seq ?_
   rcases aU h with ⟨hc_12,h⟩ | ⟨hc_12,h⟩
   ·refine Ex.condT _ rfl hc_12 ?_
    refine Ex.skip ?_
    refine Ex.seq ?_
    obtain ⟨K_15,hK_16,h⟩:=letE h
    refine Ex.blockJ (fun a S => ∃ (z_13 : aF),K_15 z_13 = some r ∧ a = mkS 36 [(2,.ptr 0 0),(3,.ptr 1 0),(4,.ptr 2 0),(8,i6 ((p_1.jobs_.length : Nat) : Int)),(9,i6 y_7)] ∧ S = ⟨[(aC p_1),(aB z_13),[i6 0,i6 0,i6 0,i6 0,i6 0,i6 0,i6 0,i6 0,i6 0,i6 0,i6 0,i6 0,i6 0,i6 0,.bool false,.bool false,.bool false,.bool false,.bool false,.bool false,.bool false,i6 0,i6 0,i6 0]],[]⟩) ?_ ?_
    ·refine Ex.seq (rg 2 [2,3,4,5,8,9] (mkS 36 [(2,.ptr 0 0),(3,.ptr 1 0),(4,.ptr 2 0),(5,i6 y_7),(8,i6 ((p_1.jobs_.length : Nat) : Int)),(9,i6 y_7)]) ⟨[(aC p_1),(aB z_8),[i6 0,i6 0,i6 0,i6 0,i6 0,i6 0,i6 0,i6 0,i6 0,i6 0,i6 0,i6 0,i6 0,i6 0,.bool false,.bool false,.bool false,.bool false,.bool false,.bool false,.bool false,i6 0,i6 0,i6 0]],[]⟩ ?_)
     refine Ex.seq (Ex.seq ?_)
     obtain ⟨u_17,hu_17,h⟩:=bE h
     obtain ⟨x_18,hx_18,h⟩:=bE h
     refine regH 4 [(2,.adr),(3,.ld (.bool x_18))] [2,3,4,5,8,9,15] [0 ≤ y_7 ∧ y_7 < ((7 : Nat) : Int),bK (aB z_8) (14 + Int.toNat y_7 * 1) none = some (.bool x_18)] (mkS 36 [(2,.ptr 0 0),(3,.ptr 1 0),(4,.ptr 2 0),(5,i6 y_7),(8,i6 ((p_1.jobs_.length : Nat) : Int)),(9,i6 y_7),(15,.bool x_18)]) (⟨[(aC p_1),(aB z_8),[i6 0,i6 0,i6 0,i6 0,i6 0,i6 0,i6 0,i6 0,i6 0,i6 0,i6 0,i6 0,i6 0,i6 0,.bool false,.bool false,.bool false,.bool false,.bool false,.bool false,.bool false,i6 0,i6 0,i6 0]],[]⟩) (by kernel_rfl) ⟨idxI.of hu_17,wM (f:=AV.bool) z_8.planned_.l (aB z_8) 14 0 7 y_7 x_18 (.bool x_18) (fun _ => rfl) (by kernel_rfl) rfl hu_17 hx_18 rfl,trivial⟩ rfl ?_
     rcases aU h with ⟨hc_19,h⟩ | ⟨hc_19,h⟩
     ·refine Ex.condT _ rfl hc_19 ?_
      refine Ex.exit ?_
      (try simp only [reduceCtorEq,AEx.ex.injEq,Nat.reduceEqDiff,if_true,if_false])
      exact ⟨_,_,bS [2,3,4,8,9],z_8,h,rfl,rfl⟩
     ·refine Ex.condF _ rfl hc_19 ?_
      refine Ex.skip ?_
      obtain ⟨r_20,hr_20,h⟩:=bE h
      obtain ⟨r_21,hr_21,h⟩:=bE h
      have hT_22 : iZ Tryz.prog [⟨117,[(aM p_1),(aI z_8),i6 y_7],[],(bZ r_20),[]⟩,⟨120,[(aI z_8),i6 y_7],[],(dR r_21),[]⟩] ∧ gG [⟨117,[(aM p_1),(aI z_8),i6 y_7],[],(bZ r_20),[]⟩,⟨120,[(aI z_8),i6 y_7],[],(dR r_21),[]⟩]:=⟨⟨(lR N p_1 z_8 y_7 r_20 hr_20),rfl,(uG N z_8 y_7 r_21 hr_21),rfl,trivial⟩,⟨⟨qH.ne rfl,trivial⟩,trivial,trivial⟩⟩
      refine Ex.drawE (a1:=mkS 36 [(2,.ptr 0 0),(3,.ptr 1 0),(4,.ptr 2 0),(5,i6 y_7),(8,i6 ((p_1.jobs_.length : Nat) : Int)),(9,i6 y_7),(15,.bool x_18),(16,i6 y_7),(17,(aM p_1)),(18,(aI z_8)),(19,i6 y_7),(20,i6 r_20),(21,(aI z_8)),(22,i6 y_7),(23,i6 r_21),(24,i6 (if r_21 > r_20 then r_21 else r_20)),(25,.ptr 1 0)]) (gK hT_22.1) [] [] [] ?_ ?_
      ·refine drS [0, 1, 2] 4 [] [] (mkS 36 [(2, .ptr 0 0), (3, .ptr 1 0), (4, .ptr 2 0), (5, i6 y_7), (8, i6 ((p_1.jobs_.length : Nat) : Int)), (9, i6 y_7), (15, .bool x_18), (16, i6 y_7), (17, (aM p_1)), (18, (aI z_8)), (19, i6 y_7)]) (by simp) (by kernel_rfl) trivial (by kernel_rfl) ?_
       refine drC hT_22.2 0 _ [(aM p_1),(aI z_8),i6 y_7] (bZ r_20) rfl rfl rfl rfl rfl (fun _ => rfl) rfl (by simp; try rfl) (fun _ => lS _ _ _ _) ?_
       refine drS [0,1,2] 2 [] [] (mkS 36 [(2,.ptr 0 0),(3,.ptr 1 0),(4,.ptr 2 0),(5,i6 y_7),(8,i6 ((p_1.jobs_.length : Nat) : Int)),(9,i6 y_7),(15,.bool x_18),(16,i6 y_7),(17,(aM p_1)),(18,(aI z_8)),(19,i6 y_7),(20,i6 r_20),(21,(aI z_8)),(22,i6 y_7)]) (by simp) (by kernel_rfl) trivial (by kernel_rfl) ?_
       refine drC hT_22.2 1 _ [(aI z_8),i6 y_7] (dR r_21) rfl rfl rfl rfl rfl (fun _ => rfl) rfl (by simp; try rfl) (fun _ => uM _ _ _ _) ?_
       refine drS [0,1,2] 2 [] [] (mkS 36 [(2,.ptr 0 0),(3,.ptr 1 0),(4,.ptr 2 0),(5,i6 y_7),(8,i6 ((p_1.jobs_.length : Nat) : Int)),(9,i6 y_7),(15,.bool x_18),(16,i6 y_7),(17,(aM p_1)),(18,(aI z_8)),(19,i6 y_7),(20,i6 r_20),(21,(aI z_8)),(22,i6 y_7),(23,i6 r_21),(24,i6 (if r_21 > r_20 then r_21 else r_20)),(25,.ptr 1 0)]) (by simp) (by kernel_rfl) trivial (by kernel_rfl) ?_
       exact DrO.nil rfl
      ·dsimp only [List.getLastD_cons,List.getLastD_nil]
       obtain ⟨u_23,hu_23,h⟩:=bE h
       obtain ⟨z_25,hz_25,h⟩:=bE h
       refine runH 3 [(0,.adr),(2,.st (aB z_25))] [2,3,4,8,9] [0 ≤ y_7 ∧ y_7 < ((7 : Nat) : Int),0 + Int.toNat y_7 * 2 + 1 + 1 ≤ ((aB z_8)).length ∧ fF (aB z_8) (0 + Int.toNat y_7 * 2 + 1) [i6 (if r_21 > r_20 then r_21 else r_20)] = (aB z_25)] (mkS 36 [(2,.ptr 0 0),(3,.ptr 1 0),(4,.ptr 2 0),(8,i6 ((p_1.jobs_.length : Nat) : Int)),(9,i6 y_7)]) (⟨[(aC p_1),(aB z_25),[i6 0,i6 0,i6 0,i6 0,i6 0,i6 0,i6 0,i6 0,i6 0,i6 0,i6 0,i6 0,i6 0,i6 0,.bool false,.bool false,.bool false,.bool false,.bool false,.bool false,.bool false,i6 0,i6 0,i6 0]],[]⟩) (by kernel_rfl) ⟨idxI.of hu_23,(by obtain ⟨y_24,hy_24,rfl⟩:=Option.map_eq_some_iff.1 hz_25; exact aEF (f:=aA) (s:=2) z_8.shifts_.l _ (aB z_8) _ 0 7 _ 1 1 y_7 y_24 (⟨y_24.Worker,(if r_21 > r_20 then r_21 else r_20)⟩ : aG) [i6 (if r_21 > r_20 then r_21 else r_20)] (fun _ => rfl) (by kernel_rfl) (by kernel_rfl) rfl (by simp) hy_24 (bF.l_ofl _ (by simp [bF.l])) rfl (by decide) (by omega) rfl (by kernel_rfl) (by kernel_rfl)),trivial⟩ ?_
       refine ExO.nil ?_
       (try simp only [reduceCtorEq,AEx.ex.injEq,Nat.reduceEqDiff,if_true,if_false])
       exact ⟨_,_,aL.refl _ _ _,z_25,h,rfl,rfl⟩
    ·rintro a S ⟨z_13,h,rfl,rfl⟩
     subst hK_16
     refine rg 2 [2,3,4,8,9] (mkS 36 [(2,.ptr 0 0),(3,.ptr 1 0),(4,.ptr 2 0),(8,i6 ((p_1.jobs_.length : Nat) : Int)),(9,i6 (IntKind.i64.wrap (y_7 + 1)))]) ⟨[(aC p_1),(aB z_13),[i6 0,i6 0,i6 0,i6 0,i6 0,i6 0,i6 0,i6 0,i6 0,i6 0,i6 0,i6 0,i6 0,i6 0,.bool false,.bool false,.bool false,.bool false,.bool false,.bool false,.bool false,i6 0,i6 0,i6 0]],[]⟩ ?_
     dsimp only
     exact ⟨_,_,aL.refl _ _ _,k,Nat.lt_succ_self k,(IntKind.i64.wrap (y_7 + 1)),z_13,h,rfl,rfl⟩
   ·refine Ex.condF _ rfl hc_12 ?_
    refine Ex.exit ?_
    (try simp only [reduceCtorEq,AEx.ex.injEq,Nat.reduceEqDiff,if_true,if_false])
    exact ⟨_,_,bS [2,3,4],z_8,h,rfl,rfl⟩
 ·rintro a S ⟨z_3,h,rfl,rfl⟩
  subst hK_6
  refine Ex.seq ?_
  refine Ex.drawE (a1:=mkS 36 [(2,.ptr 0 0),(3,.ptr 1 0),(4,.ptr 2 0),(29,.ptr 0 0),(30,.sl (p_1.jobs_.map aJ) none),(31,.ptr 1 0),(32,.ms 1 7 2)]) (cD _) [] [] [] ?_ ?_
  ·refine drS [0, 1, 2] 4 [] [] (mkS 36 [(2, .ptr 0 0), (3, .ptr 1 0), (4, .ptr 2 0), (29, .ptr 0 0), (30, .sl (p_1.jobs_.map aJ) none), (31, .ptr 1 0), (32, .ms 1 7 2)]) (by simp) (by kernel_rfl) trivial (by kernel_rfl) ?_
   exact DrO.nil rfl
  ·dsimp only [List.getLastD_cons,List.getLastD_nil]
   obtain ⟨r_26,hr_26,h⟩:=bE h
   refine ExO.callLend [(1,2,([z_3.shifts_.a0,z_3.shifts_.a1,z_3.shifts_.a2,z_3.shifts_.a3,z_3.shifts_.a4,z_3.shifts_.a5,z_3.shifts_.a6] : List aG).map aA,[.bool z_3.planned_.a0,.bool z_3.planned_.a1,.bool z_3.planned_.a2,.bool z_3.planned_.a3,.bool z_3.planned_.a4,.bool z_3.planned_.a5,.bool z_3.planned_.a6,i6 z_3.many_,i6 z_3.last_,i6 z_3.days_])] [] [.sl (p_1.jobs_.map aJ) none,.ms 1 7 2] rfl rfl (by exact ⟨.n (by simp; try rfl),⟨.s 0 rfl rfl,trivial⟩⟩) ⟨⟨(by kernel_rfl),show 0 < 2 by decide,fun i e he => eL (f:=aA) (s:=2) (fun _ => rfl) _ e (List.mem_of_getElem? he),(fX (f:=aA) (fun _ => rfl) _),show 1 ∉ ([] : List Nat) by decide⟩,trivial⟩ rfl rfl (uE N p_1.jobs_ [z_3.shifts_.a0,z_3.shifts_.a1,z_3.shifts_.a2,z_3.shifts_.a3,z_3.shifts_.a4,z_3.shifts_.a5,z_3.shifts_.a6] r_26 hr_26) rfl rfl rfl ?_
   refine rn 2 [3,4] (mkS 36 [(3,.ptr 1 0),(4,.ptr 2 0)]) ⟨[(aC p_1),[i6 z_3.shifts_.a0.Worker,i6 z_3.shifts_.a0.Day,i6 z_3.shifts_.a1.Worker,i6 z_3.shifts_.a1.Day,i6 z_3.shifts_.a2.Worker,i6 z_3.shifts_.a2.Day,i6 z_3.shifts_.a3.Worker,i6 z_3.shifts_.a3.Day,i6 z_3.shifts_.a4.Worker,i6 z_3.shifts_.a4.Day,i6 z_3.shifts_.a5.Worker,i6 z_3.shifts_.a5.Day,i6 z_3.shifts_.a6.Worker,i6 z_3.shifts_.a6.Day,.bool z_3.planned_.a0,.bool z_3.planned_.a1,.bool z_3.planned_.a2,.bool z_3.planned_.a3,.bool z_3.planned_.a4,.bool z_3.planned_.a5,.bool z_3.planned_.a6,i6 z_3.many_,i6 z_3.last_,i6 r_26],[i6 0,i6 0,i6 0,i6 0,i6 0,i6 0,i6 0,i6 0,i6 0,i6 0,i6 0,i6 0,i6 0,i6 0,.bool false,.bool false,.bool false,.bool false,.bool false,.bool false,.bool false,i6 0,i6 0,i6 0]],[]⟩ ?_
   refine ExO.nil ?_
   refine Ex.seq (rg 2 [4] (mkS 36 [(4,.ptr 2 0)]) ⟨[(aC p_1),[i6 z_3.shifts_.a0.Worker,i6 z_3.shifts_.a0.Day,i6 z_3.shifts_.a1.Worker,i6 z_3.shifts_.a1.Day,i6 z_3.shifts_.a2.Worker,i6 z_3.shifts_.a2.Day,i6 z_3.shifts_.a3.Worker,i6 z_3.shifts_.a3.Day,i6 z_3.shifts_.a4.Worker,i6 z_3.shifts_.a4.Day,i6 z_3.shifts_.a5.Worker,i6 z_3.shifts_.a5.Day,i6 z_3.shifts_.a6.Worker,i6 z_3.shifts_.a6.Day,.bool z_3.planned_.a0,.bool z_3.planned_.a1,.bool z_3.planned_.a2,.bool z_3.planned_.a3,.bool z_3.planned_.a4,.bool z_3.planned_.a5,.bool z_3.planned_.a6,i6 z_3.many_,i6 z_3.last_,i6 r_26],[i6 z_3.shifts_.a0.Worker,i6 z_3.shifts_.a0.Day,i6 z_3.shifts_.a1.Worker,i6 z_3.shifts_.a1.Day,i6 z_3.shifts_.a2.Worker,i6 z_3.shifts_.a2.Day,i6 z_3.shifts_.a3.Worker,i6 z_3.shifts_.a3.Day,i6 z_3.shifts_.a4.Worker,i6 z_3.shifts_.a4.Day,i6 z_3.shifts_.a5.Worker,i6 z_3.shifts_.a5.Day,i6 z_3.shifts_.a6.Worker,i6 z_3.shifts_.a6.Day,.bool z_3.planned_.a0,.bool z_3.planned_.a1,.bool z_3.planned_.a2,.bool z_3.planned_.a3,.bool z_3.planned_.a4,.bool z_3.planned_.a5,.bool z_3.planned_.a6,i6 z_3.many_,i6 z_3.last_,i6 r_26]],[]⟩ ?_)
   refine Ex.ret ?_
   obtain rfl:=sJ h
   exact rt (.agg [i6 z_3.shifts_.a0.Worker,i6 z_3.shifts_.a0.Day,i6 z_3.shifts_.a1.Worker,i6 z_3.shifts_.a1.Day,i6 z_3.shifts_.a2.Worker,i6 z_3.shifts_.a2.Day,i6 z_3.shifts_.a3.Worker,i6 z_3.shifts_.a3.Day,i6 z_3.shifts_.a4.Worker,i6 z_3.shifts_.a4.Day,i6 z_3.shifts_.a5.Worker,i6 z_3.shifts_.a5.Day,i6 z_3.shifts_.a6.Worker,i6 z_3.shifts_.a6.Day,.bool z_3.planned_.a0,.bool z_3.planned_.a1,.bool z_3.planned_.a2,.bool z_3.planned_.a3,.bool z_3.planned_.a4,.bool z_3.planned_.a5,.bool z_3.planned_.a6,i6 z_3.many_,i6 z_3.last_,i6 r_26])
def eQ (N : Nat) (p_1 : aT) (d_2 : aF) (job_3 : Int) (x_4 : aG) : Option (aF):=((idxI job_3 7).bind fun u_5 => (((d_2.shifts_.l[Int.toNat job_3]?).map fun (y_6 : aG) => (⟨(bF.ofl (d_2.shifts_.l.set (Int.toNat job_3) x_4)),d_2.planned_,d_2.many_,d_2.last_,d_2.days_⟩ : aF)).bind fun z_7 => ((idxI job_3 7).bind fun u_8 => ((some (⟨z_7.shifts_,(bY.ofl (z_7.planned_.l.set (Int.toNat job_3) true)),z_7.many_,z_7.last_,z_7.days_⟩ : aF)).bind fun z_9 => ((cY N p_1 (⟨z_9.shifts_,z_9.planned_,(IntKind.i64.wrap (z_9.many_ + 1)),job_3,z_9.days_⟩ : aF)).bind fun r_10 => some r_10)))))
def gA (r : aF) : AV:=(aI r)
attribute [local simp] gA
theorem sL (p_1 : aT) (d_2 : aF) (job_3 : Int) (x_4 : aG) : [(aM p_1),(aI d_2),i6 job_3,(aA x_4)].mapM (ren []) = some [(aM p_1),(aI d_2),i6 job_3,(aA x_4)]:=by simp
theorem sF (r : aF) (n n2 m : Nat) : back n n2 m (gA r) = some (gA r):=by simp
theorem sA (N : Nat) (p_1 : aT) (d_2 : aF) (job_3 : Int) (x_4 : aG) (r : aF) (h : eQ N p_1 d_2 job_3 x_4 = some r) : Does Tryz.prog 119 [(aM p_1),(aI d_2),i6 job_3,(aA x_4)] [] fun v c => v = gA r ∧ c = []:=by
 unfold eQ at h
 refine Does.ofL comp119 _ _ rfl rfl ?_
 refine Ex.seq (rg 4 [2,4,5,7,8] (mkS 25 [(2,i6 job_3),(4,.ptr 0 0),(5,.ptr 1 0),(7,.ptr 2 0),(8,.ptr 3 0)]) ⟨[(aC p_1),(aB d_2),(aE x_4),[i6 0,i6 0,i6 0,i6 0,i6 0,i6 0,i6 0,i6 0,i6 0,i6 0,i6 0,i6 0,i6 0,i6 0,.bool false,.bool false,.bool false,.bool false,.bool false,.bool false,.bool false,i6 0,i6 0,i6 0]],[]⟩ ?_)
 refine Ex.seq ?_
 obtain ⟨u_5,hu_5,h⟩:=bE h
 obtain ⟨z_7,hz_7,h⟩:=bE h
 refine regH 5 [(3,.adr),(4,.st (aB z_7))] [2,4,5,8] [0 ≤ job_3 ∧ job_3 < ((7 : Nat) : Int),0 + Int.toNat job_3 * 2 + 2 ≤ ((aB d_2)).length ∧ fF (aB d_2) (0 + Int.toNat job_3 * 2) [i6 x_4.Worker,i6 x_4.Day] = (aB z_7)] (mkS 25 [(2,i6 job_3),(4,.ptr 0 0),(5,.ptr 1 0),(8,.ptr 3 0)]) (⟨[(aC p_1),(aB z_7),(aE x_4),[i6 0,i6 0,i6 0,i6 0,i6 0,i6 0,i6 0,i6 0,i6 0,i6 0,i6 0,i6 0,i6 0,i6 0,.bool false,.bool false,.bool false,.bool false,.bool false,.bool false,.bool false,i6 0,i6 0,i6 0]],[]⟩) (by kernel_rfl) ⟨idxI.of hu_5,(by obtain ⟨y_6,hy_6,rfl⟩:=Option.map_eq_some_iff.1 hz_7; exact aEF (f:=aA) (s:=2) d_2.shifts_.l _ (aB d_2) _ 0 7 _ 0 2 job_3 y_6 x_4 [i6 x_4.Worker,i6 x_4.Day] (fun _ => rfl) (by kernel_rfl) (by kernel_rfl) rfl (by simp) hy_6 (bF.l_ofl _ (by simp [bF.l])) rfl (by decide) (by omega) rfl (by kernel_rfl) (by kernel_rfl)),trivial⟩ rfl ?_
 refine Ex.seq ?_
 obtain ⟨u_8,hu_8,h⟩:=bE h
 obtain ⟨z_9,hz_9,h⟩:=bE h
 refine regH 4 [(2,.adr),(3,.st (aB z_9))] [2,4,5,8] [0 ≤ job_3 ∧ job_3 < ((7 : Nat) : Int),14 + Int.toNat job_3 * 1 + 1 ≤ ((aB z_7)).length ∧ fF (aB z_7) (14 + Int.toNat job_3 * 1) [.bool true] = (aB z_9)] (mkS 25 [(2,i6 job_3),(4,.ptr 0 0),(5,.ptr 1 0),(8,.ptr 3 0)]) (⟨[(aC p_1),(aB z_9),(aE x_4),[i6 0,i6 0,i6 0,i6 0,i6 0,i6 0,i6 0,i6 0,i6 0,i6 0,i6 0,i6 0,i6 0,i6 0,.bool false,.bool false,.bool false,.bool false,.bool false,.bool false,.bool false,i6 0,i6 0,i6 0]],[]⟩) (by kernel_rfl) ⟨idxI.of hu_8,(by obtain rfl:=Option.some.inj hz_9; exact aHu z_7.planned_.l _ (aB z_7) _ 14 7 job_3 true (fun _ => rfl) (by kernel_rfl) (by kernel_rfl) rfl (bY.l_ofl _ (by simp [bY.l])) hu_8 (by kernel_rfl) (by kernel_rfl)),trivial⟩ rfl ?_
 refine Ex.seq (rg 5 [2,4,5,8] (mkS 25 [(2,i6 job_3),(4,.ptr 0 0),(5,.ptr 1 0),(8,.ptr 3 0)]) ⟨[(aC p_1),[i6 z_9.shifts_.a0.Worker,i6 z_9.shifts_.a0.Day,i6 z_9.shifts_.a1.Worker,i6 z_9.shifts_.a1.Day,i6 z_9.shifts_.a2.Worker,i6 z_9.shifts_.a2.Day,i6 z_9.shifts_.a3.Worker,i6 z_9.shifts_.a3.Day,i6 z_9.shifts_.a4.Worker,i6 z_9.shifts_.a4.Day,i6 z_9.shifts_.a5.Worker,i6 z_9.shifts_.a5.Day,i6 z_9.shifts_.a6.Worker,i6 z_9.shifts_.a6.Day,.bool z_9.planned_.a0,.bool z_9.planned_.a1,.bool z_9.planned_.a2,.bool z_9.planned_.a3,.bool z_9.planned_.a4,.bool z_9.planned_.a5,.bool z_9.planned_.a6,i6 (IntKind.i64.wrap (z_9.many_ + 1)),i6 z_9.last_,i6 z_9.days_],(aE x_4),[i6 0,i6 0,i6 0,i6 0,i6 0,i6 0,i6 0,i6 0,i6 0,i6 0,i6 0,i6 0,i6 0,i6 0,.bool false,.bool false,.bool false,.bool false,.bool false,.bool false,.bool false,i6 0,i6 0,i6 0]],[]⟩ ?_)
 refine Ex.seq (rg 3 [4,5,8] (mkS 25 [(4,.ptr 0 0),(5,.ptr 1 0),(8,.ptr 3 0)]) ⟨[(aC p_1),[i6 z_9.shifts_.a0.Worker,i6 z_9.shifts_.a0.Day,i6 z_9.shifts_.a1.Worker,i6 z_9.shifts_.a1.Day,i6 z_9.shifts_.a2.Worker,i6 z_9.shifts_.a2.Day,i6 z_9.shifts_.a3.Worker,i6 z_9.shifts_.a3.Day,i6 z_9.shifts_.a4.Worker,i6 z_9.shifts_.a4.Day,i6 z_9.shifts_.a5.Worker,i6 z_9.shifts_.a5.Day,i6 z_9.shifts_.a6.Worker,i6 z_9.shifts_.a6.Day,.bool z_9.planned_.a0,.bool z_9.planned_.a1,.bool z_9.planned_.a2,.bool z_9.planned_.a3,.bool z_9.planned_.a4,.bool z_9.planned_.a5,.bool z_9.planned_.a6,i6 (IntKind.i64.wrap (z_9.many_ + 1)),i6 job_3,i6 z_9.days_],(aE x_4),[i6 0,i6 0,i6 0,i6 0,i6 0,i6 0,i6 0,i6 0,i6 0,i6 0,i6 0,i6 0,i6 0,i6 0,.bool false,.bool false,.bool false,.bool false,.bool false,.bool false,.bool false,i6 0,i6 0,i6 0]],[]⟩ ?_)
 refine Ex.seq ?_
 obtain ⟨r_10,hr_10,h⟩:=bE h
 refine Ex.reg (rn 2 [8,22,23] (mkS 25 [(8,.ptr 3 0),(22,(aM p_1)),(23,.agg [i6 z_9.shifts_.a0.Worker,i6 z_9.shifts_.a0.Day,i6 z_9.shifts_.a1.Worker,i6 z_9.shifts_.a1.Day,i6 z_9.shifts_.a2.Worker,i6 z_9.shifts_.a2.Day,i6 z_9.shifts_.a3.Worker,i6 z_9.shifts_.a3.Day,i6 z_9.shifts_.a4.Worker,i6 z_9.shifts_.a4.Day,i6 z_9.shifts_.a5.Worker,i6 z_9.shifts_.a5.Day,i6 z_9.shifts_.a6.Worker,i6 z_9.shifts_.a6.Day,.bool z_9.planned_.a0,.bool z_9.planned_.a1,.bool z_9.planned_.a2,.bool z_9.planned_.a3,.bool z_9.planned_.a4,.bool z_9.planned_.a5,.bool z_9.planned_.a6,i6 (IntKind.i64.wrap (z_9.many_ + 1)),i6 job_3,i6 z_9.days_])]) ⟨[(aC p_1),[i6 z_9.shifts_.a0.Worker,i6 z_9.shifts_.a0.Day,i6 z_9.shifts_.a1.Worker,i6 z_9.shifts_.a1.Day,i6 z_9.shifts_.a2.Worker,i6 z_9.shifts_.a2.Day,i6 z_9.shifts_.a3.Worker,i6 z_9.shifts_.a3.Day,i6 z_9.shifts_.a4.Worker,i6 z_9.shifts_.a4.Day,i6 z_9.shifts_.a5.Worker,i6 z_9.shifts_.a5.Day,i6 z_9.shifts_.a6.Worker,i6 z_9.shifts_.a6.Day,.bool z_9.planned_.a0,.bool z_9.planned_.a1,.bool z_9.planned_.a2,.bool z_9.planned_.a3,.bool z_9.planned_.a4,.bool z_9.planned_.a5,.bool z_9.planned_.a6,i6 (IntKind.i64.wrap (z_9.many_ + 1)),i6 job_3,i6 z_9.days_],(aE x_4),[i6 0,i6 0,i6 0,i6 0,i6 0,i6 0,i6 0,i6 0,i6 0,i6 0,i6 0,i6 0,i6 0,i6 0,.bool false,.bool false,.bool false,.bool false,.bool false,.bool false,.bool false,i6 0,i6 0,i6 0]],[]⟩ ?_)
 refine ExO.callL [] [(aM p_1),.agg [i6 z_9.shifts_.a0.Worker,i6 z_9.shifts_.a0.Day,i6 z_9.shifts_.a1.Worker,i6 z_9.shifts_.a1.Day,i6 z_9.shifts_.a2.Worker,i6 z_9.shifts_.a2.Day,i6 z_9.shifts_.a3.Worker,i6 z_9.shifts_.a3.Day,i6 z_9.shifts_.a4.Worker,i6 z_9.shifts_.a4.Day,i6 z_9.shifts_.a5.Worker,i6 z_9.shifts_.a5.Day,i6 z_9.shifts_.a6.Worker,i6 z_9.shifts_.a6.Day,.bool z_9.planned_.a0,.bool z_9.planned_.a1,.bool z_9.planned_.a2,.bool z_9.planned_.a3,.bool z_9.planned_.a4,.bool z_9.planned_.a5,.bool z_9.planned_.a6,i6 (IntKind.i64.wrap (z_9.many_ + 1)),i6 job_3,i6 z_9.days_]] rfl rfl (tP p_1 (⟨z_9.shifts_,z_9.planned_,(IntKind.i64.wrap (z_9.many_ + 1)),job_3,z_9.days_⟩ : aF)) rfl rfl (nA N p_1 (⟨z_9.shifts_,z_9.planned_,(IntKind.i64.wrap (z_9.many_ + 1)),job_3,z_9.days_⟩ : aF) r_10 hr_10) (nE _ _ _ _) rfl ?_
 refine rn 1 [8] (mkS 25 [(8,.ptr 3 0)]) ⟨[(aC p_1),[i6 z_9.shifts_.a0.Worker,i6 z_9.shifts_.a0.Day,i6 z_9.shifts_.a1.Worker,i6 z_9.shifts_.a1.Day,i6 z_9.shifts_.a2.Worker,i6 z_9.shifts_.a2.Day,i6 z_9.shifts_.a3.Worker,i6 z_9.shifts_.a3.Day,i6 z_9.shifts_.a4.Worker,i6 z_9.shifts_.a4.Day,i6 z_9.shifts_.a5.Worker,i6 z_9.shifts_.a5.Day,i6 z_9.shifts_.a6.Worker,i6 z_9.shifts_.a6.Day,.bool z_9.planned_.a0,.bool z_9.planned_.a1,.bool z_9.planned_.a2,.bool z_9.planned_.a3,.bool z_9.planned_.a4,.bool z_9.planned_.a5,.bool z_9.planned_.a6,i6 (IntKind.i64.wrap (z_9.many_ + 1)),i6 job_3,i6 z_9.days_],(aE x_4),(aB r_10)],[]⟩ ?_
 refine ExO.nil ?_
 refine Ex.ret ?_
 obtain rfl:=sJ h
 exact rt ((aI r_10))
def fO (N : Nat) (p_1 : aT) (d_2 : aF) : Option (aT × aF):=some (p_1,d_2)
def fM (r : aT × aF) : AV:=.fn 115 [] [.rop (aC r.1),.rop (aB r.2)]
attribute [local simp] fM
theorem rI (p_1 : aT) (d_2 : aF) : [(aM p_1),(aI d_2)].mapM (ren []) = some [(aM p_1),(aI d_2)]:=by simp
theorem rE (r : aT × aF) (n n2 m : Nat) : back n n2 m (fM r) = some (fM r):=by simp
theorem qZ (N : Nat) (p_1 : aT) (d_2 : aF) (r : aT × aF) (h : fO N p_1 d_2 = some r) : Does Tryz.prog 88 [(aM p_1),(aI d_2)] [] fun v c => v = fM r ∧ c = []:=by
 unfold fO at h
 refine Does.ofL comp88 _ _ rfl rfl ?_
 refine Ex.seq (rg 3 [2,3] (mkS 6 [(2,.ptr 0 0),(3,.ptr 1 0)]) ⟨[(aC p_1),(aB d_2)],[]⟩ ?_)
 refine Ex.seq (rg 2 [4] (mkS 6 [(4,.fn 115 [] [.ptr 0 0,.ptr 1 0])]) ⟨[(aC p_1),(aB d_2)],[]⟩ ?_)
 refine Ex.forget (bS [4]) ?_
 refine Ex.castA (a2:=mkS 6 [(4,.fn 115 [] [.ptr 0 0,.ptr 1 0])]) (S2:=⟨[(aC p_1),(aB d_2)],[]⟩) (by kernel_rfl) (by kernel_rfl) ?_
 obtain rfl:=sJ h
 refine Ex.forget (aFd 4 0 (aC p_1) _ rfl rfl) ?_
 refine Ex.forget (aFd 4 1 (aB d_2) _ rfl rfl) ?_
 refine Ex.castA (a2:=mkS 6 [(4,.fn 115 [] [.rop (aC p_1),.rop (aB d_2)])]) (S2:=⟨[[],[]],[]⟩) (by kernel_rfl) (by kernel_rfl) ?_
 refine Ex.ret ?_
 exact rt (.fn 115 [] [.rop (aC p_1),.rop (aB d_2)])
def eS (N : Nat) (p_1 : aT) : Option (aF):=((cY N p_1 (⟨(⟨(⟨0,0⟩ : aG),(⟨0,0⟩ : aG),(⟨0,0⟩ : aG),(⟨0,0⟩ : aG),(⟨0,0⟩ : aG),(⟨0,0⟩ : aG),(⟨0,0⟩ : aG)⟩ : bF),(⟨false,false,false,false,false,false,false⟩ : bY),0,(-1),0⟩ : aF)).bind fun r_2 => (letJ (fun (z_11 : aF) (b_12 : Bool) => some z_11) (fun k_117 => ((loop3 (ρ:=(aF × Bool)) (fun rec_13 (d_8 : aF) (z_9 : aF) (b_10 : Bool) => (letJ (fun (z_21 : aF) (b_22 : Bool) => some (z_21,b_22)) (fun k_23 => (letJ (fun (y_26 : Bool) => (bif y_26 then (k_23 z_9 b_10) else (bif (d_8.many_ == ((p_1.jobs_.length : Nat) : Int)) then (k_23 d_8 true) else ((fO N p_1 d_8).bind fun r_34 => (letJ (fun (z_42 : aF) (b_43 : Bool) => (k_23 z_42 b_43)) (fun k_44 => (letJ (fun (z_47 : aF) (b_48 : Bool) => (k_44 z_47 b_48)) (fun k_49 => (loop3 (fun rec_55 (y_52 : Int) (z_53 : aF) (b_54 : Bool) => (bif (decide (y_52 < ((r_34.1.jobs_.length : Nat) : Int))) then (letJ (fun (z_59 : aF) (b_60 : Bool) => (rec_55 (IntKind.i64.wrap (y_52 + 1)) z_59 b_60)) (fun k_61 => (letJ (fun (y_64 : Bool) => (bif y_64 then (k_61 z_53 b_54) else ((getI r_34.1.able_ y_52).bind fun x_72 => (letJ (fun (z_73 : aF) (b_74 : Bool) => (k_61 z_73 b_74)) (fun k_75 => (loop3 (fun rec_81 (y_78 : Int) (z_79 : aF) (b_80 : Bool) => (bif (decide (y_78 < ((x_72.length : Nat) : Int))) then (letJ (fun (z_85 : aF) (b_86 : Bool) => (rec_81 (IntKind.i64.wrap (y_78 + 1)) z_85 b_86)) (fun k_87 => ((getI x_72 y_78).bind fun x_90 => ((dM N r_34.1 r_34.2 y_52).bind fun r_91 => ((eR N r_34.1 r_34.2 x_90).bind fun r_93 => ((getA r_34.2.shifts_.l y_52 7).bind fun x_94 => (bif (decide ((if r_93 > r_91 then r_93 else r_91) < x_94.Day)) then (k_87 z_79 b_80) else ((eQ N r_34.1 r_34.2 y_52 (⟨x_90,(if r_93 > r_91 then r_93 else r_91)⟩ : aG)).bind fun r_96 => (letJ (fun (z_105 : aF) (b_106 : Bool) => (k_87 z_105 b_106)) (fun k_107 => (letJ (fun (z_112 : aF) (b_113 : Bool) => (k_107 z_112 b_113)) (fun k_114 => ((rec_13 r_96 z_79 b_80).bind fun s_110 => ((fun t => k_114 t.1 t.2) s_110)))))))))))))) else (k_75 z_79 b_80))) N 0 z_53 b_54)))))) (fun k_65 => ((getA r_34.2.planned_.l y_52 7).bind fun x_68 => (bif x_68 then (k_65 true) else ((eI N r_34.1 r_34.2 y_52).bind fun r_70 => (k_65 r_70)))))))) else (k_49 z_53 b_54))) N 0 z_9 b_10))))))))) (fun k_27 => (bif b_10 then ((gE N d_8 z_9).bind fun r_31 => (k_27 (decide (r_31 ≥ 0)))) else (k_27 false))))))) N r_2 (⟨(⟨(⟨0,0⟩ : aG),(⟨0,0⟩ : aG),(⟨0,0⟩ : aG),(⟨0,0⟩ : aG),(⟨0,0⟩ : aG),(⟨0,0⟩ : aG),(⟨0,0⟩ : aG)⟩ : bF),(⟨false,false,false,false,false,false,false⟩ : bY),0,0,0⟩ : aF) false).bind fun s_19 => ((fun t => k_117 t.1 t.2) s_19)))))
def gC (r : aF) : AV:=(aI r)
attribute [local simp] gC
theorem sN (p_1 : aT) : [(aM p_1)].mapM (ren []) = some [(aM p_1)]:=by simp
theorem sH (r : aF) (n n2 m : Nat) : back n n2 m (gC r) = some (gC r):=by simp
theorem sC (N : Nat) (p_1 : aT) (r : aF) (h : eS N p_1 = some r) : Does Tryz.prog 64 [(aM p_1)] [] fun v c => v = gC r ∧ c = []:=by
 unfold eS at h
 refine Does.ofL comp64 _ _ rfl rfl ?_
 refine Ex.seq (rg 2 [1,2] (mkS 14 [(1,.ptr 0 0),(2,.ptr 1 0)]) ⟨[(aC p_1),[i6 0,i6 0,i6 0,i6 0,i6 0,i6 0,i6 0,i6 0,i6 0,i6 0,i6 0,i6 0,i6 0,i6 0,.bool false,.bool false,.bool false,.bool false,.bool false,.bool false,.bool false,i6 0,i6 0,i6 0]],[]⟩ ?_)
 refine Ex.seq (rg 5 [1,2,3,4] (mkS 14 [(1,.ptr 0 0),(2,.ptr 1 0),(3,.ptr 2 0),(4,.ptr 3 0)]) ⟨[(aC p_1),[i6 0,i6 0,i6 0,i6 0,i6 0,i6 0,i6 0,i6 0,i6 0,i6 0,i6 0,i6 0,i6 0,i6 0,.bool false,.bool false,.bool false,.bool false,.bool false,.bool false,.bool false,i6 0,i6 0,i6 0],[i6 0,i6 0,i6 0,i6 0,i6 0,i6 0,i6 0,i6 0,i6 0,i6 0,i6 0,i6 0,i6 0,i6 0,.bool false,.bool false,.bool false,.bool false,.bool false,.bool false,.bool false,i6 0,i6 0,i6 0],[.bool false]],[]⟩ ?_)
 refine Ex.seq (rg 1 [1,2,3,4,5] (mkS 14 [(1,.ptr 0 0),(2,.ptr 1 0),(3,.ptr 2 0),(4,.ptr 3 0),(5,.ptr 4 0)]) ⟨[(aC p_1),[i6 0,i6 0,i6 0,i6 0,i6 0,i6 0,i6 0,i6 0,i6 0,i6 0,i6 0,i6 0,i6 0,i6 0,.bool false,.bool false,.bool false,.bool false,.bool false,.bool false,.bool false,i6 0,i6 0,i6 0],[i6 0,i6 0,i6 0,i6 0,i6 0,i6 0,i6 0,i6 0,i6 0,i6 0,i6 0,i6 0,i6 0,i6 0,.bool false,.bool false,.bool false,.bool false,.bool false,.bool false,.bool false,i6 0,i6 0,i6 0],[.bool false],[.nilf]],[]⟩ ?_)
 refine Ex.seq (rg 2 [1,2,3,5] (mkS 14 [(1,.ptr 0 0),(2,.ptr 1 0),(3,.ptr 2 0),(5,.ptr 4 0)]) ⟨[(aC p_1),[i6 0,i6 0,i6 0,i6 0,i6 0,i6 0,i6 0,i6 0,i6 0,i6 0,i6 0,i6 0,i6 0,i6 0,.bool false,.bool false,.bool false,.bool false,.bool false,.bool false,.bool false,i6 0,i6 0,i6 0],[i6 0,i6 0,i6 0,i6 0,i6 0,i6 0,i6 0,i6 0,i6 0,i6 0,i6 0,i6 0,i6 0,i6 0,.bool false,.bool false,.bool false,.bool false,.bool false,.bool false,.bool false,i6 0,i6 0,i6 0],[.bool false],[.fn 86 [] [.ptr 3 0,.ptr 2 0,.ptr 0 0,.ptr 4 0]]],[]⟩ ?_)
 refine Ex.seq ?_
 obtain ⟨r_2,hr_2,h⟩:=bE h
 have hT_3 : iZ Tryz.prog [⟨89,[(aM p_1),.agg [i6 0,i6 0,i6 0,i6 0,i6 0,i6 0,i6 0,i6 0,i6 0,i6 0,i6 0,i6 0,i6 0,i6 0,.bool false,.bool false,.bool false,.bool false,.bool false,.bool false,.bool false,i6 0,i6 (-1),i6 0]],[],(dI r_2),[]⟩] ∧ gG [⟨89,[(aM p_1),.agg [i6 0,i6 0,i6 0,i6 0,i6 0,i6 0,i6 0,i6 0,i6 0,i6 0,i6 0,i6 0,i6 0,i6 0,.bool false,.bool false,.bool false,.bool false,.bool false,.bool false,.bool false,i6 0,i6 (-1),i6 0]],[],(dI r_2),[]⟩]:=⟨⟨(nA N p_1 (⟨(⟨(⟨0,0⟩ : aG),(⟨0,0⟩ : aG),(⟨0,0⟩ : aG),(⟨0,0⟩ : aG),(⟨0,0⟩ : aG),(⟨0,0⟩ : aG),(⟨0,0⟩ : aG)⟩ : bF),(⟨false,false,false,false,false,false,false⟩ : bY),0,(-1),0⟩ : aF) r_2 hr_2),rfl,trivial⟩,⟨trivial,trivial⟩⟩
 refine Ex.drawE (a1:=mkS 14 [(1,.ptr 0 0),(2,.ptr 1 0),(3,.ptr 2 0),(5,.ptr 4 0),(8,.fn 86 [] [.ptr 3 0,.ptr 2 0,.ptr 0 0,.ptr 4 0]),(9,(aM p_1)),(10,.agg [i6 0,i6 0,i6 0,i6 0,i6 0,i6 0,i6 0,i6 0,i6 0,i6 0,i6 0,i6 0,i6 0,i6 0,.bool false,.bool false,.bool false,.bool false,.bool false,.bool false,.bool false,i6 0,i6 (-1),i6 0]),(11,(aI r_2))]) (gK hT_3.1) [] [] [] ?_ ?_
 ·refine drS [0, 1, 2, 3, 4] 3 [] [] (mkS 14 [(1, .ptr 0 0), (2, .ptr 1 0), (3, .ptr 2 0), (5, .ptr 4 0), (8, .fn 86 [] [.ptr 3 0, .ptr 2 0, .ptr 0 0, .ptr 4 0]), (9, (aM p_1)), (10, .agg [i6 0, i6 0, i6 0, i6 0, i6 0, i6 0, i6 0, i6 0, i6 0, i6 0, i6 0, i6 0, i6 0, i6 0, .bool false, .bool false, .bool false, .bool false, .bool false, .bool false, .bool false, i6 0, i6 (-1), i6 0])]) (by simp) (by kernel_rfl) trivial (by kernel_rfl) ?_
  refine drC hT_3.2 0 _ [(aM p_1),.agg [i6 0,i6 0,i6 0,i6 0,i6 0,i6 0,i6 0,i6 0,i6 0,i6 0,i6 0,i6 0,i6 0,i6 0,.bool false,.bool false,.bool false,.bool false,.bool false,.bool false,.bool false,i6 0,i6 (-1),i6 0]] (dI r_2) rfl rfl rfl rfl rfl (fun _ => rfl) rfl (by simp; try rfl) (fun _ => nE _ _ _ _) ?_
  exact DrO.nil rfl
 ·dsimp only [List.getLastD_cons,List.getLastD_nil]
  obtain ⟨K_118,hK_119,h⟩:=letE h
  obtain ⟨s_19,hs_20,h⟩:=bE h
  obtain ⟨B_14,hB_15,hs_20⟩:=vG hs_20
  have hY_18 : ∀ (k : Nat) (d_8 : aF) (z_9 : aF) (b_10 : Bool) (r : (aF × Bool)),loop3 B_14 k d_8 z_9 b_10 = some r → ∀ (cx_4 : Cx),cx_4.n = 5 → cx_4.m = 0 → (∀ L' a' ps' x' y',LpOk Tryz.prog (Cx.nat 0) L' a' ps' x' y' → LpOk Tryz.prog cx_4 L' a' ps' x' y') → Ex cx_4 .plain Tryz.prog F86.code (mkS 30 [(0,(aI d_8)),(1,.ptr 3 0),(2,.ptr 2 0),(3,.ptr 0 0),(4,.ptr 4 0),(5,.tup []),(6,.tup []),(7,.tup []),(8,.tup []),(9,.tup []),(10,.tup []),(11,.tup []),(12,.tup []),(13,.tup []),(14,.tup []),(15,.tup []),(16,.tup []),(17,.tup []),(18,.tup []),(19,.tup []),(20,.tup []),(21,.tup []),(22,.tup []),(23,.tup []),(24,.tup []),(25,.tup []),(26,.tup []),(27,.tup []),(28,.tup []),(29,.tup [])]) (⟨[(aC p_1),[i6 0,i6 0,i6 0,i6 0,i6 0,i6 0,i6 0,i6 0,i6 0,i6 0,i6 0,i6 0,i6 0,i6 0,.bool false,.bool false,.bool false,.bool false,.bool false,.bool false,.bool false,i6 0,i6 0,i6 0],(aB z_9),[.bool b_10],[.fn 86 [] [.ptr 3 0,.ptr 2 0,.ptr 0 0,.ptr 4 0]]],[]⟩) fun z a' S' => ∃ a2 S2,aL cx_4 a' S' a2 S2 ∧ (z = .norm ∨ z = .ret) ∧ ∃ v,iA a2 S2 F86.res = some v ∧ (fun v S => (∃ (z_11 : aF),∃ (b_12 : Bool),(z_11,b_12) = r ∧ v = .tup [] ∧ S = ⟨[(aC p_1),[i6 0,i6 0,i6 0,i6 0,i6 0,i6 0,i6 0,i6 0,i6 0,i6 0,i6 0,i6 0,i6 0,i6 0,.bool false,.bool false,.bool false,.bool false,.bool false,.bool false,.bool false,i6 0,i6 0,i6 0],(aB z_11),[.bool b_12],[.fn 86 [] [.ptr 3 0,.ptr 2 0,.ptr 0 0,.ptr 4 0]]],[]⟩)) v S2:=by
   intro k_16
   induction k_16 with
   | zero => intro d_8 z_9 b_10 r h; exact (vE h).elim
   | succ k ih_17 =>
    intro d_8 z_9 b_10 r h cx_4 hcn_5 hcm_6 hup_7
    replace h:=vF h hB_15
    refine Ex.seq (rg 1 [1,2,3,4,5] (mkS 30 [(1,.ptr 3 0),(2,.ptr 2 0),(3,.ptr 0 0),(4,.ptr 4 0),(5,.ptr 5 0)]) ⟨[(aC p_1),[i6 0,i6 0,i6 0,i6 0,i6 0,i6 0,i6 0,i6 0,i6 0,i6 0,i6 0,i6 0,i6 0,i6 0,.bool false,.bool false,.bool false,.bool false,.bool false,.bool false,.bool false,i6 0,i6 0,i6 0],(aB z_9),[.bool b_10],[.fn 86 [] [.ptr 3 0,.ptr 2 0,.ptr 0 0,.ptr 4 0]],(aB d_8)],[]⟩ ?_)
    obtain ⟨K_24,hK_25,h⟩:=letE h
    refine Ex.blockJ (fun a S => ∃ (z_21 : aF),∃ (b_22 : Bool),K_24 z_21 b_22 = some r ∧ a = mkS 30 [] ∧ S = ⟨[(aC p_1),[i6 0,i6 0,i6 0,i6 0,i6 0,i6 0,i6 0,i6 0,i6 0,i6 0,i6 0,i6 0,i6 0,i6 0,.bool false,.bool false,.bool false,.bool false,.bool false,.bool false,.bool false,i6 0,i6 0,i6 0],(aB z_21),[.bool b_22],[.fn 86 [] [.ptr 3 0,.ptr 2 0,.ptr 0 0,.ptr 4 0]]],[]⟩) ?_ ?_
    ·obtain ⟨K_28,hK_29,h⟩:=letE h
     refine Ex.seqJ (fun a S => ∃ (y_26 : Bool),K_28 y_26 = some r ∧ a = mkS 30 [(1,.ptr 3 0),(2,.ptr 2 0),(3,.ptr 0 0),(4,.ptr 4 0),(5,.ptr 5 0),(14,.bool y_26)] ∧ S = ⟨[(aC p_1),[i6 0,i6 0,i6 0,i6 0,i6 0,i6 0,i6 0,i6 0,i6 0,i6 0,i6 0,i6 0,i6 0,i6 0,.bool false,.bool false,.bool false,.bool false,.bool false,.bool false,.bool false,i6 0,i6 0,i6 0],(aB z_9),[.bool b_10],[.fn 86 [] [.ptr 3 0,.ptr 2 0,.ptr 0 0,.ptr 4 0]],(aB d_8)],[]⟩) ?_ ?_
     ·rcases aU h with ⟨hc_30,h⟩ | ⟨hc_30,h⟩
      ·obtain ⟨r_31,hr_31,h⟩:=bE h
       refine Ex.reg ?_
       refine runH 4 [(1,.eq (.bool true))] [1,2,3,4,5,16,17,18] [AV.bool b_10 = AV.bool true] (mkS 30 [(1,.ptr 3 0),(2,.ptr 2 0),(3,.ptr 0 0),(4,.ptr 4 0),(5,.ptr 5 0),(16,.bool true),(17,(aI d_8)),(18,(aI z_9))]) (⟨[(aC p_1),[i6 0,i6 0,i6 0,i6 0,i6 0,i6 0,i6 0,i6 0,i6 0,i6 0,i6 0,i6 0,i6 0,i6 0,.bool false,.bool false,.bool false,.bool false,.bool false,.bool false,.bool false,i6 0,i6 0,i6 0],(aB z_9),[.bool b_10],[.fn 86 [] [.ptr 3 0,.ptr 2 0,.ptr 0 0,.ptr 4 0]],(aB d_8)],[]⟩) (by kernel_rfl) ⟨congrArg AV.bool hc_30,trivial⟩ ?_
       refine ExO.callL [] [(aI d_8),(aI z_9)] rfl rfl (yZ d_8 z_9) rfl rfl (yL N d_8 z_9 r_31 hr_31) (yX _ _ _ _) rfl ?_
       refine rn 3 [1,2,3,4,5,14] (mkS 30 [(1,.ptr 3 0),(2,.ptr 2 0),(3,.ptr 0 0),(4,.ptr 4 0),(5,.ptr 5 0),(14,.bool (decide (r_31 ≥ 0)))]) ⟨[(aC p_1),[i6 0,i6 0,i6 0,i6 0,i6 0,i6 0,i6 0,i6 0,i6 0,i6 0,i6 0,i6 0,i6 0,i6 0,.bool false,.bool false,.bool false,.bool false,.bool false,.bool false,.bool false,i6 0,i6 0,i6 0],(aB z_9),[.bool b_10],[.fn 86 [] [.ptr 3 0,.ptr 2 0,.ptr 0 0,.ptr 4 0]],(aB d_8)],[]⟩ ?_
       refine ExO.nil ?_
       (try simp only [reduceCtorEq,AEx.ex.injEq,Nat.reduceEqDiff,if_true,if_false])
       exact ⟨_,_,aL.refl _ _ _,(decide (r_31 ≥ 0)),h,rfl,rfl⟩
      ·refine regH 8 [(1, .eq (.bool false))] [1, 2, 3, 4, 5, 14] [AV.bool b_10 = AV.bool false] (mkS 30 [(1, .ptr 3 0), (2, .ptr 2 0), (3, .ptr 0 0), (4, .ptr 4 0), (5, .ptr 5 0), (14, .bool false)]) (⟨[(aC p_1), [i6 0, i6 0, i6 0, i6 0, i6 0, i6 0, i6 0, i6 0, i6 0, i6 0, i6 0, i6 0, i6 0, i6 0, .bool false, .bool false, .bool false, .bool false, .bool false, .bool false, .bool false, i6 0, i6 0, i6 0], (aB z_9), [.bool b_10], [.fn 86 [] [.ptr 3 0, .ptr 2 0, .ptr 0 0, .ptr 4 0]], (aB d_8)], []⟩) (by kernel_rfl) ⟨congrArg AV.bool hc_30, trivial⟩ rfl ?_
       (try simp only [reduceCtorEq,AEx.ex.injEq,Nat.reduceEqDiff,if_true,if_false])
       exact ⟨_,_,aL.refl _ _ _,false,h,rfl,rfl⟩
     ·rintro a S ⟨y_26,h,rfl,rfl⟩
      subst hK_29
      rcases aU h with ⟨hc_32,h⟩ | ⟨hc_32,h⟩
      ·refine Ex.condT _ rfl hc_32 ?_
       refine Ex.skip ?_
       (try simp only [reduceCtorEq,AEx.ex.injEq,Nat.reduceEqDiff,if_true,if_false])
       exact ⟨_,_,bU (m:=30) 5 [] [] [(aC p_1),[i6 0,i6 0,i6 0,i6 0,i6 0,i6 0,i6 0,i6 0,i6 0,i6 0,i6 0,i6 0,i6 0,i6 0,.bool false,.bool false,.bool false,.bool false,.bool false,.bool false,.bool false,i6 0,i6 0,i6 0],(aB z_9),[.bool b_10],[.fn 86 [] [.ptr 3 0,.ptr 2 0,.ptr 0 0,.ptr 4 0]]] [] (leC hcn_5 (by simp [bH])) (by simp) trivial (by simp) rfl (by decide) (sig0 0 hcm_6 rfl),z_9,b_10,h,rfl,rfl⟩
      ·refine Ex.condF _ rfl hc_32 ?_
       refine Ex.seq ?_
       refine regH 7 [(4,.eq (i6 ((p_1.jobs_.length : Nat) : Int)))] [1,2,3,4,5,22] [AV.int .i64 (((p_1.jobs_.map aJ).length : Nat) : Int) = AV.int .i64 ((p_1.jobs_.length : Nat) : Int)] (mkS 30 [(1,.ptr 3 0),(2,.ptr 2 0),(3,.ptr 0 0),(4,.ptr 4 0),(5,.ptr 5 0),(22,.bool (d_8.many_ == ((p_1.jobs_.length : Nat) : Int)))]) (⟨[(aC p_1),[i6 0,i6 0,i6 0,i6 0,i6 0,i6 0,i6 0,i6 0,i6 0,i6 0,i6 0,i6 0,i6 0,i6 0,.bool false,.bool false,.bool false,.bool false,.bool false,.bool false,.bool false,i6 0,i6 0,i6 0],(aB z_9),[.bool b_10],[.fn 86 [] [.ptr 3 0,.ptr 2 0,.ptr 0 0,.ptr 4 0]],(aB d_8)],[]⟩) (by kernel_rfl) ⟨lenM _ _,trivial⟩ rfl ?_
       rcases aU h with ⟨hc_33,h⟩ | ⟨hc_33,h⟩
       ·refine Ex.condT _ rfl hc_33 ?_
        refine rg 3 [] (mkS 30 []) ⟨[(aC p_1),[i6 0,i6 0,i6 0,i6 0,i6 0,i6 0,i6 0,i6 0,i6 0,i6 0,i6 0,i6 0,i6 0,i6 0,.bool false,.bool false,.bool false,.bool false,.bool false,.bool false,.bool false,i6 0,i6 0,i6 0],(aB d_8),[.bool true],[.fn 86 [] [.ptr 3 0,.ptr 2 0,.ptr 0 0,.ptr 4 0]],(aB d_8)],[]⟩ ?_
        (try simp only [reduceCtorEq,AEx.ex.injEq,Nat.reduceEqDiff,if_true,if_false])
        exact ⟨_,_,bU (m:=30) 5 [] [] [(aC p_1),[i6 0,i6 0,i6 0,i6 0,i6 0,i6 0,i6 0,i6 0,i6 0,i6 0,i6 0,i6 0,i6 0,i6 0,.bool false,.bool false,.bool false,.bool false,.bool false,.bool false,.bool false,i6 0,i6 0,i6 0],(aB d_8),[.bool true],[.fn 86 [] [.ptr 3 0,.ptr 2 0,.ptr 0 0,.ptr 4 0]]] [] (leC hcn_5 (by simp [bH])) (by simp) trivial (by simp) rfl (by decide) (sig0 0 hcm_6 rfl),d_8,true,h,rfl,rfl⟩
       ·refine Ex.condF _ rfl hc_33 ?_
        refine Ex.seq ?_
        obtain ⟨r_34,hr_34,h⟩:=bE h
        refine Ex.reg (rn 2 [4,7,8] (mkS 30 [(4,.ptr 4 0),(7,(aM p_1)),(8,(aI d_8))]) ⟨[(aC p_1),[i6 0,i6 0,i6 0,i6 0,i6 0,i6 0,i6 0,i6 0,i6 0,i6 0,i6 0,i6 0,i6 0,i6 0,.bool false,.bool false,.bool false,.bool false,.bool false,.bool false,.bool false,i6 0,i6 0,i6 0],(aB z_9),[.bool b_10],[.fn 86 [] [.ptr 3 0,.ptr 2 0,.ptr 0 0,.ptr 4 0]],(aB d_8)],[]⟩ ?_)
        refine ExO.callL [] [(aM p_1),(aI d_8)] rfl rfl (rI p_1 d_8) rfl rfl (qZ N p_1 d_8 r_34 hr_34) (rE _ _ _ _) rfl ?_
        refine rn 0 [4,9] (mkS 30 [(4,.ptr 4 0),(9,.fn 115 [] [.rop (aC r_34.1),.rop (aB r_34.2)])]) ⟨[(aC p_1),[i6 0,i6 0,i6 0,i6 0,i6 0,i6 0,i6 0,i6 0,i6 0,i6 0,i6 0,i6 0,i6 0,i6 0,.bool false,.bool false,.bool false,.bool false,.bool false,.bool false,.bool false,i6 0,i6 0,i6 0],(aB z_9),[.bool b_10],[.fn 86 [] [.ptr 3 0,.ptr 2 0,.ptr 0 0,.ptr 4 0]],(aB d_8)],[]⟩ ?_
        refine ExO.nil ?_
        refine Ex.blockK ?_
        refine Ex.forget (bU (m:=30) 5 [] [(4,.ptr 4 0),(9,.fn 115 [] [.rop (aC r_34.1),.rop (aB r_34.2)])] [(aC p_1),[i6 0,i6 0,i6 0,i6 0,i6 0,i6 0,i6 0,i6 0,i6 0,i6 0,i6 0,i6 0,i6 0,i6 0,.bool false,.bool false,.bool false,.bool false,.bool false,.bool false,.bool false,i6 0,i6 0,i6 0],(aB z_9),[.bool b_10],[.fn 86 [] [.ptr 3 0,.ptr 2 0,.ptr 0 0,.ptr 4 0]]] [] (leC hcn_5 (by simp [bH])) (by simp) ⟨rfl,(by show re 5 [] (.fn 115 [] [.rop (aC r_34.1),.rop (aB r_34.2)]) = some (.fn 115 [] [.rop (aC r_34.1),.rop (aB r_34.2)]); simp [re,re1,AV.clean,List.idxOf?,List.findIdx?,List.findIdx?.go,bB,fG,dP,fI,eX,cS,cV,eP,fT,cG,cF,dZ,eO,dC,dB,cN,aK,aN,aX,aJ,aY,aP,aH,aA,aE,bO,bQ,dW,dF,eN,dX,aI,aB,aM,aC]),trivial⟩ (by simp) rfl (by decide) (sig0 0 hcm_6 rfl)) ?_
        refine Ex.castA (a2:=mkS 30 [(4,.ptr 4 0),(9,.fn 115 [] [.rop (aC r_34.1),.rop (aB r_34.2)])]) (S2:=⟨[(aC p_1),[i6 0,i6 0,i6 0,i6 0,i6 0,i6 0,i6 0,i6 0,i6 0,i6 0,i6 0,i6 0,i6 0,i6 0,.bool false,.bool false,.bool false,.bool false,.bool false,.bool false,.bool false,i6 0,i6 0,i6 0],(aB z_9),[.bool b_10],[.fn 86 [] [.ptr 3 0,.ptr 2 0,.ptr 0 0,.ptr 4 0]]],[]⟩) (by kernel_rfl) (by kernel_rfl) ?_
        obtain ⟨K_45,hK_46,h⟩:=letE h
        refine Ex.rangeJ (fun k S => (k = 0 ∧ ∃ (z_42 : aF),∃ (b_43 : Bool),K_45 z_42 b_43 = some r ∧ S = ⟨[(aC p_1),[i6 0,i6 0,i6 0,i6 0,i6 0,i6 0,i6 0,i6 0,i6 0,i6 0,i6 0,i6 0,i6 0,i6 0,.bool false,.bool false,.bool false,.bool false,.bool false,.bool false,.bool false,i6 0,i6 0,i6 0],(aB z_42),[.bool b_43],[.fn 86 [] [.ptr 3 0,.ptr 2 0,.ptr 0 0,.ptr 4 0]]],[(0,0)]⟩)) 115 [.rop (aC r_34.1),.rop (aB r_34.2)] _ rfl comp115 rfl (leC hcn_5 (by simp [bH])) (by exact trivial) (mkS 62 [(1,.rop (aC r_34.1)),(2,.rop (aB r_34.2)),(3,.tup []),(4,.tup []),(5,.tup []),(6,.tup []),(7,.tup []),(8,.tup []),(9,.tup []),(10,.tup []),(11,.tup []),(12,.tup []),(13,.tup []),(14,.tup []),(15,.tup []),(16,.tup []),(17,.tup []),(18,.tup []),(19,.tup []),(20,.tup []),(21,.tup []),(22,.tup []),(23,.tup []),(24,.tup []),(25,.tup []),(26,.tup []),(27,.tup []),(28,.tup []),(29,.tup []),(30,.tup []),(31,.tup []),(32,.tup []),(33,.tup []),(34,.tup []),(35,.tup []),(36,.tup []),(37,.tup []),(38,.tup []),(39,.tup []),(40,.tup []),(41,.tup []),(42,.tup []),(43,.tup []),(44,.tup []),(45,.tup []),(46,.tup []),(47,.tup []),(48,.tup []),(49,.tup []),(50,.tup []),(51,.tup []),(52,.tup []),(53,.tup []),(54,.tup []),(55,.tup []),(56,.tup []),(57,.tup []),(58,.tup []),(59,.tup []),(60,.tup []),(61,.tup [])]) (⟨[(aC p_1),[i6 0,i6 0,i6 0,i6 0,i6 0,i6 0,i6 0,i6 0,i6 0,i6 0,i6 0,i6 0,i6 0,i6 0,.bool false,.bool false,.bool false,.bool false,.bool false,.bool false,.bool false,i6 0,i6 0,i6 0],(aB z_9),[.bool b_10],[.fn 86 [] [.ptr 3 0,.ptr 2 0,.ptr 0 0,.ptr 4 0]]],[(0,0)]⟩) (fun _ => by kernel_rfl) (by kernel_rfl) ?_ ?_
        ·intro cx_36 Lp_35 hcn_37 hcm_38 hLt_39 hL_40 hup_41
         refine Ex.castA (a2:=mkS 62 [(0,.yld Lp_35.l 0),(1,.rop (aC r_34.1)),(2,.rop (aB r_34.2)),(3,.tup []),(4,.tup []),(5,.tup []),(6,.tup []),(7,.tup []),(8,.tup []),(9,.tup []),(10,.tup []),(11,.tup []),(12,.tup []),(13,.tup []),(14,.tup []),(15,.tup []),(16,.tup []),(17,.tup []),(18,.tup []),(19,.tup []),(20,.tup []),(21,.tup []),(22,.tup []),(23,.tup []),(24,.tup []),(25,.tup []),(26,.tup []),(27,.tup []),(28,.tup []),(29,.tup []),(30,.tup []),(31,.tup []),(32,.tup []),(33,.tup []),(34,.tup []),(35,.tup []),(36,.tup []),(37,.tup []),(38,.tup []),(39,.tup []),(40,.tup []),(41,.tup []),(42,.tup []),(43,.tup []),(44,.tup []),(45,.tup []),(46,.tup []),(47,.tup []),(48,.tup []),(49,.tup []),(50,.tup []),(51,.tup []),(52,.tup []),(53,.tup []),(54,.tup []),(55,.tup []),(56,.tup []),(57,.tup []),(58,.tup []),(59,.tup []),(60,.tup []),(61,.tup [])]) (S2:=⟨[(aC p_1),[i6 0,i6 0,i6 0,i6 0,i6 0,i6 0,i6 0,i6 0,i6 0,i6 0,i6 0,i6 0,i6 0,i6 0,.bool false,.bool false,.bool false,.bool false,.bool false,.bool false,.bool false,i6 0,i6 0,i6 0],(aB z_9),[.bool b_10],[.fn 86 [] [.ptr 3 0,.ptr 2 0,.ptr 0 0,.ptr 4 0]]],[(0,0)]⟩) (by kernel_rfl) rfl ?_
         refine Ex.seq ?_
         refine regH 4 [(2,.eq (i6 ((r_34.1.jobs_.length : Nat) : Int)))] [0,1,2,10,11] [AV.int .i64 (((r_34.1.jobs_.map aJ).length : Nat) : Int) = AV.int .i64 ((r_34.1.jobs_.length : Nat) : Int)] (mkS 62 [(0,.yld Lp_35.l 0),(1,.rop (aC r_34.1)),(2,.rop (aB r_34.2)),(10,i6 ((r_34.1.jobs_.length : Nat) : Int)),(11,i6 0)]) (⟨[(aC p_1),[i6 0,i6 0,i6 0,i6 0,i6 0,i6 0,i6 0,i6 0,i6 0,i6 0,i6 0,i6 0,i6 0,i6 0,.bool false,.bool false,.bool false,.bool false,.bool false,.bool false,.bool false,i6 0,i6 0,i6 0],(aB z_9),[.bool b_10],[.fn 86 [] [.ptr 3 0,.ptr 2 0,.ptr 0 0,.ptr 4 0]]],[(0,0)]⟩) (by kernel_rfl) ⟨lenM _ _,trivial⟩ rfl ?_
         obtain ⟨K_50,hK_51,h⟩:=letE h
         refine Ex.blockJ (fun a S => ∃ (z_47 : aF),∃ (b_48 : Bool),K_50 z_47 b_48 = some r ∧ a = mkS 62 [] ∧ S = ⟨[(aC p_1),[i6 0,i6 0,i6 0,i6 0,i6 0,i6 0,i6 0,i6 0,i6 0,i6 0,i6 0,i6 0,i6 0,i6 0,.bool false,.bool false,.bool false,.bool false,.bool false,.bool false,.bool false,i6 0,i6 0,i6 0],(aB z_47),[.bool b_48],[.fn 86 [] [.ptr 3 0,.ptr 2 0,.ptr 0 0,.ptr 4 0]]],[(0,0)]⟩) ?_ ?_
         ·obtain ⟨B_56,hB_57,h⟩:=vG h
          refine Ex.loopF (fun k a S => ∃ (y_52 : Int),∃ (z_53 : aF),∃ (b_54 : Bool),loop3 B_56 k y_52 z_53 b_54 = some r ∧ a = mkS 62 [(0,.yld Lp_35.l 0),(1,.rop (aC r_34.1)),(2,.rop (aB r_34.2)),(10,i6 ((r_34.1.jobs_.length : Nat) : Int)),(11,i6 y_52)] ∧ S = ⟨[(aC p_1),[i6 0,i6 0,i6 0,i6 0,i6 0,i6 0,i6 0,i6 0,i6 0,i6 0,i6 0,i6 0,i6 0,i6 0,.bool false,.bool false,.bool false,.bool false,.bool false,.bool false,.bool false,i6 0,i6 0,i6 0],(aB z_53),[.bool b_54],[.fn 86 [] [.ptr 3 0,.ptr 2 0,.ptr 0 0,.ptr 4 0]]],[(0,0)]⟩) N ⟨_,_,aL.refl _ _ _,0,z_9,b_10,h,rfl,rfl⟩ ?_
          rintro k a S ⟨y_52,z_53,b_54,h,rfl,rfl⟩
          cases k with
          | zero => exact (vE h).elim
          | succ k =>
           replace h:=vF h hB_57
           refine Ex.seq (rg 1 [0,1,2,10,11,12] (mkS 62 [(0,.yld Lp_35.l 0),(1,.rop (aC r_34.1)),(2,.rop (aB r_34.2)),(10,i6 ((r_34.1.jobs_.length : Nat) : Int)),(11,i6 y_52),(12,.bool (decide (y_52 < ((r_34.1.jobs_.length : Nat) : Int))))]) ⟨[(aC p_1),[i6 0,i6 0,i6 0,i6 0,i6 0,i6 0,i6 0,i6 0,i6 0,i6 0,i6 0,i6 0,i6 0,i6 0,.bool false,.bool false,.bool false,.bool false,.bool false,.bool false,.bool false,i6 0,i6 0,i6 0],(aB z_53),[.bool b_54],[.fn 86 [] [.ptr 3 0,.ptr 2 0,.ptr 0 0,.ptr 4 0]]],[(0,0)]⟩ ?_)
           refine Ex.seq ?_
           rcases aU h with ⟨hc_58,h⟩ | ⟨hc_58,h⟩
           ·refine Ex.condT _ rfl hc_58 ?_
            refine Ex.skip ?_
            refine Ex.seq ?_
            obtain ⟨K_62,hK_63,h⟩:=letE h
            refine Ex.blockJ (fun a S => ∃ (z_59 : aF),∃ (b_60 : Bool),K_62 z_59 b_60 = some r ∧ a = mkS 62 [(0,.yld Lp_35.l 0),(1,.rop (aC r_34.1)),(2,.rop (aB r_34.2)),(10,i6 ((r_34.1.jobs_.length : Nat) : Int)),(11,i6 y_52)] ∧ S = ⟨[(aC p_1),[i6 0,i6 0,i6 0,i6 0,i6 0,i6 0,i6 0,i6 0,i6 0,i6 0,i6 0,i6 0,i6 0,i6 0,.bool false,.bool false,.bool false,.bool false,.bool false,.bool false,.bool false,i6 0,i6 0,i6 0],(aB z_59),[.bool b_60],[.fn 86 [] [.ptr 3 0,.ptr 2 0,.ptr 0 0,.ptr 4 0]]],[(0,0)]⟩) ?_ ?_
            ·refine Ex.seq (rg 2 [0,1,2,4,10,11] (mkS 62 [(0,.yld Lp_35.l 0),(1,.rop (aC r_34.1)),(2,.rop (aB r_34.2)),(4,i6 y_52),(10,i6 ((r_34.1.jobs_.length : Nat) : Int)),(11,i6 y_52)]) ⟨[(aC p_1),[i6 0,i6 0,i6 0,i6 0,i6 0,i6 0,i6 0,i6 0,i6 0,i6 0,i6 0,i6 0,i6 0,i6 0,.bool false,.bool false,.bool false,.bool false,.bool false,.bool false,.bool false,i6 0,i6 0,i6 0],(aB z_53),[.bool b_54],[.fn 86 [] [.ptr 3 0,.ptr 2 0,.ptr 0 0,.ptr 4 0]]],[(0,0)]⟩ ?_)
             refine Ex.seq ?_
             obtain ⟨K_66,hK_67,h⟩:=letE h
             refine Ex.seqJ (fun a S => ∃ (y_64 : Bool),K_66 y_64 = some r ∧ a = mkS 62 [(0,.yld Lp_35.l 0),(1,.rop (aC r_34.1)),(2,.rop (aB r_34.2)),(4,i6 y_52),(10,i6 ((r_34.1.jobs_.length : Nat) : Int)),(11,i6 y_52),(23,.bool y_64)] ∧ S = ⟨[(aC p_1),[i6 0,i6 0,i6 0,i6 0,i6 0,i6 0,i6 0,i6 0,i6 0,i6 0,i6 0,i6 0,i6 0,i6 0,.bool false,.bool false,.bool false,.bool false,.bool false,.bool false,.bool false,i6 0,i6 0,i6 0],(aB z_53),[.bool b_54],[.fn 86 [] [.ptr 3 0,.ptr 2 0,.ptr 0 0,.ptr 4 0]]],[(0,0)]⟩) ?_ ?_
             ·obtain ⟨x_68,hx_68,h⟩:=bE h
              rcases aU h with ⟨hc_69,h⟩ | ⟨hc_69,h⟩
              ·refine regH 10 [(2, .rop [.bool x_68]), (4, .eq (.bool true))] [0, 1, 2, 4, 10, 11, 23] [(0 ≤ y_52 ∧ y_52 < ((7 : Nat) : Int) ∧ Int.toNat y_52 * 1 ≤ ([.bool r_34.2.planned_.a0, .bool r_34.2.planned_.a1, .bool r_34.2.planned_.a2, .bool r_34.2.planned_.a3, .bool r_34.2.planned_.a4, .bool r_34.2.planned_.a5, .bool r_34.2.planned_.a6, i6 r_34.2.many_, i6 r_34.2.last_, i6 r_34.2.days_] : List AV).length) ∧ (([.bool r_34.2.planned_.a0, .bool r_34.2.planned_.a1, .bool r_34.2.planned_.a2, .bool r_34.2.planned_.a3, .bool r_34.2.planned_.a4, .bool r_34.2.planned_.a5, .bool r_34.2.planned_.a6, i6 r_34.2.many_, i6 r_34.2.last_, i6 r_34.2.days_] : List AV).drop (Int.toNat y_52 * 1)).take 1 = [.bool x_68], AV.bool x_68 = AV.bool true] (mkS 62 [(0, .yld Lp_35.l 0), (1, .rop (aC r_34.1)), (2, .rop (aB r_34.2)), (4, i6 y_52), (10, i6 ((r_34.1.jobs_.length : Nat) : Int)), (11, i6 y_52), (23, .bool true)]) (⟨[(aC p_1), [i6 0, i6 0, i6 0, i6 0, i6 0, i6 0, i6 0, i6 0, i6 0, i6 0, i6 0, i6 0, i6 0, i6 0, .bool false, .bool false, .bool false, .bool false, .bool false, .bool false, .bool false, i6 0, i6 0, i6 0], (aB z_53), [.bool b_54], [.fn 86 [] [.ptr 3 0, .ptr 2 0, .ptr 0 0, .ptr 4 0]]], [(0, 0)]⟩) (by kernel_rfl) ⟨aCO (f := AV.bool) r_34.2.planned_.l [.bool r_34.2.planned_.a0, .bool r_34.2.planned_.a1, .bool r_34.2.planned_.a2, .bool r_34.2.planned_.a3, .bool r_34.2.planned_.a4, .bool r_34.2.planned_.a5, .bool r_34.2.planned_.a6, i6 r_34.2.many_, i6 r_34.2.last_, i6 r_34.2.days_] 7 (fun _ => rfl) (by kernel_rfl) rfl hx_68 (by simp), congrArg AV.bool hc_69, trivial⟩ rfl ?_
               (try simp only [reduceCtorEq,AEx.ex.injEq,Nat.reduceEqDiff,if_true,if_false])
               exact ⟨_,_,aL.refl _ _ _,true,h,rfl,rfl⟩
              ·obtain ⟨r_70,hr_70,h⟩:=bE h
               refine Ex.reg ?_
               refine runH 8 [(2,.rop [.bool x_68]),(4,.eq (.bool false))] [0,1,2,4,10,11,18,19,20,21] [(0 ≤ y_52 ∧ y_52 < ((7 : Nat) : Int) ∧ Int.toNat y_52 * 1 ≤ ([.bool r_34.2.planned_.a0,.bool r_34.2.planned_.a1,.bool r_34.2.planned_.a2,.bool r_34.2.planned_.a3,.bool r_34.2.planned_.a4,.bool r_34.2.planned_.a5,.bool r_34.2.planned_.a6,i6 r_34.2.many_,i6 r_34.2.last_,i6 r_34.2.days_] : List AV).length) ∧ (([.bool r_34.2.planned_.a0,.bool r_34.2.planned_.a1,.bool r_34.2.planned_.a2,.bool r_34.2.planned_.a3,.bool r_34.2.planned_.a4,.bool r_34.2.planned_.a5,.bool r_34.2.planned_.a6,i6 r_34.2.many_,i6 r_34.2.last_,i6 r_34.2.days_] : List AV).drop (Int.toNat y_52 * 1)).take 1 = [.bool x_68],AV.bool x_68 = AV.bool false] (mkS 62 [(0,.yld Lp_35.l 0),(1,.rop (aC r_34.1)),(2,.rop (aB r_34.2)),(4,i6 y_52),(10,i6 ((r_34.1.jobs_.length : Nat) : Int)),(11,i6 y_52),(18,.bool false),(19,(aM r_34.1)),(20,(aI r_34.2)),(21,i6 y_52)]) (⟨[(aC p_1),[i6 0,i6 0,i6 0,i6 0,i6 0,i6 0,i6 0,i6 0,i6 0,i6 0,i6 0,i6 0,i6 0,i6 0,.bool false,.bool false,.bool false,.bool false,.bool false,.bool false,.bool false,i6 0,i6 0,i6 0],(aB z_53),[.bool b_54],[.fn 86 [] [.ptr 3 0,.ptr 2 0,.ptr 0 0,.ptr 4 0]]],[(0,0)]⟩) (by kernel_rfl) ⟨aCO (f:=AV.bool) r_34.2.planned_.l [.bool r_34.2.planned_.a0,.bool r_34.2.planned_.a1,.bool r_34.2.planned_.a2,.bool r_34.2.planned_.a3,.bool r_34.2.planned_.a4,.bool r_34.2.planned_.a5,.bool r_34.2.planned_.a6,i6 r_34.2.many_,i6 r_34.2.last_,i6 r_34.2.days_] 7 (fun _ => rfl) (by kernel_rfl) rfl hx_68 (by simp),congrArg AV.bool hc_69,trivial⟩ ?_
               refine ExO.callL [] [(aM r_34.1),(aI r_34.2),i6 y_52] rfl rfl (rH r_34.1 r_34.2 y_52) rfl rfl (qY N r_34.1 r_34.2 y_52 r_70 hr_70) (rD _ _ _ _) rfl ?_
               refine rn 1 [0,1,2,4,10,11,23] (mkS 62 [(0,.yld Lp_35.l 0),(1,.rop (aC r_34.1)),(2,.rop (aB r_34.2)),(4,i6 y_52),(10,i6 ((r_34.1.jobs_.length : Nat) : Int)),(11,i6 y_52),(23,.bool r_70)]) ⟨[(aC p_1),[i6 0,i6 0,i6 0,i6 0,i6 0,i6 0,i6 0,i6 0,i6 0,i6 0,i6 0,i6 0,i6 0,i6 0,.bool false,.bool false,.bool false,.bool false,.bool false,.bool false,.bool false,i6 0,i6 0,i6 0],(aB z_53),[.bool b_54],[.fn 86 [] [.ptr 3 0,.ptr 2 0,.ptr 0 0,.ptr 4 0]]],[(0,0)]⟩ ?_
               refine ExO.nil ?_
               (try simp only [reduceCtorEq,AEx.ex.injEq,Nat.reduceEqDiff,if_true,if_false])
               exact ⟨_,_,aL.refl _ _ _,r_70,h,rfl,rfl⟩
             ·rintro a S ⟨y_64,h,rfl,rfl⟩
              subst hK_67
              rcases aU h with ⟨hc_71,h⟩ | ⟨hc_71,h⟩
              ·refine Ex.condT _ rfl hc_71 ?_
               refine Ex.exit ?_
               (try simp only [reduceCtorEq,AEx.ex.injEq,Nat.reduceEqDiff,if_true,if_false])
               exact ⟨_,_,bS [0,1,2,10,11],z_53,b_54,h,rfl,rfl⟩
              ·refine Ex.condF _ rfl hc_71 ?_
               refine Ex.skip ?_
               refine Ex.seq ?_
               obtain ⟨x_72,hx_72,h⟩:=bE h
               refine regH 7 [(3,.rop [.sl (x_72.map (AV.int .i64)) none]),(5,.eq (i6 ((x_72.length : Nat) : Int)))] [0,1,2,4,10,11,28,29,30] [LGet (r_34.1.able_.map (SV (AV.int .i64))) y_52 1 [.sl (x_72.map (AV.int .i64)) none],AV.int .i64 (((x_72.map (AV.int .i64)).length : Nat) : Int) = AV.int .i64 ((x_72.length : Nat) : Int)] (mkS 62 [(0,.yld Lp_35.l 0),(1,.rop (aC r_34.1)),(2,.rop (aB r_34.2)),(4,i6 y_52),(10,i6 ((r_34.1.jobs_.length : Nat) : Int)),(11,i6 y_52),(28,.sl (x_72.map (AV.int .i64)) none),(29,i6 ((x_72.length : Nat) : Int)),(30,i6 0)]) (⟨[(aC p_1),[i6 0,i6 0,i6 0,i6 0,i6 0,i6 0,i6 0,i6 0,i6 0,i6 0,i6 0,i6 0,i6 0,i6 0,.bool false,.bool false,.bool false,.bool false,.bool false,.bool false,.bool false,i6 0,i6 0,i6 0],(aB z_53),[.bool b_54],[.fn 86 [] [.ptr 3 0,.ptr 2 0,.ptr 0 0,.ptr 4 0]]],[(0,0)]⟩) (by kernel_rfl) ⟨LGet.of hx_72 rfl,lenM _ _,trivial⟩ rfl ?_
               obtain ⟨K_76,hK_77,h⟩:=letE h
               refine Ex.blockJ (fun a S => ∃ (z_73 : aF),∃ (b_74 : Bool),K_76 z_73 b_74 = some r ∧ a = mkS 62 [(0,.yld Lp_35.l 0),(1,.rop (aC r_34.1)),(2,.rop (aB r_34.2)),(10,i6 ((r_34.1.jobs_.length : Nat) : Int)),(11,i6 y_52)] ∧ S = ⟨[(aC p_1),[i6 0,i6 0,i6 0,i6 0,i6 0,i6 0,i6 0,i6 0,i6 0,i6 0,i6 0,i6 0,i6 0,i6 0,.bool false,.bool false,.bool false,.bool false,.bool false,.bool false,.bool false,i6 0,i6 0,i6 0],(aB z_73),[.bool b_74],[.fn 86 [] [.ptr 3 0,.ptr 2 0,.ptr 0 0,.ptr 4 0]]],[(0,0)]⟩) ?_ ?_
               ·obtain ⟨B_82,hB_83,h⟩:=vG h
                refine Ex.loopF (fun k a S => ∃ (y_78 : Int),∃ (z_79 : aF),∃ (b_80 : Bool),loop3 B_82 k y_78 z_79 b_80 = some r ∧ a = mkS 62 [(0,.yld Lp_35.l 0),(1,.rop (aC r_34.1)),(2,.rop (aB r_34.2)),(4,i6 y_52),(10,i6 ((r_34.1.jobs_.length : Nat) : Int)),(11,i6 y_52),(28,.sl (x_72.map (AV.int .i64)) none),(29,i6 ((x_72.length : Nat) : Int)),(30,i6 y_78)] ∧ S = ⟨[(aC p_1),[i6 0,i6 0,i6 0,i6 0,i6 0,i6 0,i6 0,i6 0,i6 0,i6 0,i6 0,i6 0,i6 0,i6 0,.bool false,.bool false,.bool false,.bool false,.bool false,.bool false,.bool false,i6 0,i6 0,i6 0],(aB z_79),[.bool b_80],[.fn 86 [] [.ptr 3 0,.ptr 2 0,.ptr 0 0,.ptr 4 0]]],[(0,0)]⟩) N ⟨_,_,aL.refl _ _ _,0,z_53,b_54,h,rfl,rfl⟩ ?_
                rintro k a S ⟨y_78,z_79,b_80,h,rfl,rfl⟩
                cases k with
                | zero => exact (vE h).elim
                | succ k =>
                 replace h:=vF h hB_83
                 refine Ex.seq (rg 1 [0,1,2,4,10,11,28,29,30,31] (mkS 62 [(0,.yld Lp_35.l 0),(1,.rop (aC r_34.1)),(2,.rop (aB r_34.2)),(4,i6 y_52),(10,i6 ((r_34.1.jobs_.length : Nat) : Int)),(11,i6 y_52),(28,.sl (x_72.map (AV.int .i64)) none),(29,i6 ((x_72.length : Nat) : Int)),(30,i6 y_78),(31,.bool (decide (y_78 < ((x_72.length : Nat) : Int))))]) ⟨[(aC p_1),[i6 0,i6 0,i6 0,i6 0,i6 0,i6 0,i6 0,i6 0,i6 0,i6 0,i6 0,i6 0,i6 0,i6 0,.bool false,.bool false,.bool false,.bool false,.bool false,.bool false,.bool false,i6 0,i6 0,i6 0],(aB z_79),[.bool b_80],[.fn 86 [] [.ptr 3 0,.ptr 2 0,.ptr 0 0,.ptr 4 0]]],[(0,0)]⟩ ?_)
                 refine Ex.seq ?_
                 rcases aU h with ⟨hc_84,h⟩ | ⟨hc_84,h⟩
                 ·refine Ex.condT _ rfl hc_84 ?_
                  refine Ex.skip ?_
                  refine Ex.seq ?_
                  obtain ⟨K_88,hK_89,h⟩:=letE h
                  refine Ex.blockJ (fun a S => ∃ (z_85 : aF),∃ (b_86 : Bool),K_88 z_85 b_86 = some r ∧ a = mkS 62 [(0,.yld Lp_35.l 0),(1,.rop (aC r_34.1)),(2,.rop (aB r_34.2)),(4,i6 y_52),(10,i6 ((r_34.1.jobs_.length : Nat) : Int)),(11,i6 y_52),(28,.sl (x_72.map (AV.int .i64)) none),(29,i6 ((x_72.length : Nat) : Int)),(30,i6 y_78)] ∧ S = ⟨[(aC p_1),[i6 0,i6 0,i6 0,i6 0,i6 0,i6 0,i6 0,i6 0,i6 0,i6 0,i6 0,i6 0,i6 0,i6 0,.bool false,.bool false,.bool false,.bool false,.bool false,.bool false,.bool false,i6 0,i6 0,i6 0],(aB z_85),[.bool b_86],[.fn 86 [] [.ptr 3 0,.ptr 2 0,.ptr 0 0,.ptr 4 0]]],[(0,0)]⟩) ?_ ?_
                  ·refine Ex.seq ?_
                   obtain ⟨x_90,hx_90,h⟩:=bE h
                   refine regH 3 [(0,.rop [i6 x_90])] [0,1,2,4,6,10,11,28,29,30] [LGet (x_72.map (AV.int .i64)) y_78 1 [i6 x_90]] (mkS 62 [(0,.yld Lp_35.l 0),(1,.rop (aC r_34.1)),(2,.rop (aB r_34.2)),(4,i6 y_52),(6,i6 x_90),(10,i6 ((r_34.1.jobs_.length : Nat) : Int)),(11,i6 y_52),(28,.sl (x_72.map (AV.int .i64)) none),(29,i6 ((x_72.length : Nat) : Int)),(30,i6 y_78)]) (⟨[(aC p_1),[i6 0,i6 0,i6 0,i6 0,i6 0,i6 0,i6 0,i6 0,i6 0,i6 0,i6 0,i6 0,i6 0,i6 0,.bool false,.bool false,.bool false,.bool false,.bool false,.bool false,.bool false,i6 0,i6 0,i6 0],(aB z_79),[.bool b_80],[.fn 86 [] [.ptr 3 0,.ptr 2 0,.ptr 0 0,.ptr 4 0]]],[(0,0)]⟩) (by kernel_rfl) ⟨LGet.of hx_90 rfl,trivial⟩ rfl ?_
                   refine Ex.seq ?_
                   obtain ⟨r_91,hr_91,h⟩:=bE h
                   have hT_92 : iZ Tryz.prog [⟨117,[(aM r_34.1),(aI r_34.2),i6 y_52],[],(bZ r_91),[]⟩] ∧ gG [⟨117,[(aM r_34.1),(aI r_34.2),i6 y_52],[],(bZ r_91),[]⟩]:=⟨⟨(lR N r_34.1 r_34.2 y_52 r_91 hr_91),rfl,trivial⟩,⟨trivial,trivial⟩⟩
                   refine Ex.drawE (a1:=mkS 62 [(0,.yld Lp_35.l 0),(1,.rop (aC r_34.1)),(2,.rop (aB r_34.2)),(4,i6 y_52),(6,i6 x_90),(10,i6 ((r_34.1.jobs_.length : Nat) : Int)),(11,i6 y_52),(28,.sl (x_72.map (AV.int .i64)) none),(29,i6 ((x_72.length : Nat) : Int)),(30,i6 y_78),(34,(aM r_34.1)),(35,(aI r_34.2)),(36,i6 y_52),(37,i6 r_91),(38,(aM r_34.1)),(39,(aI r_34.2)),(40,i6 x_90)]) (gK hT_92.1) [] [] [] ?_ ?_
                   ·refine drS [0, 1, 2, 3, 4] 3 [] [] (mkS 62 [(0, .yld Lp_35.l 0), (1, .rop (aC r_34.1)), (2, .rop (aB r_34.2)), (4, i6 y_52), (6, i6 x_90), (10, i6 ((r_34.1.jobs_.length : Nat) : Int)), (11, i6 y_52), (28, .sl (x_72.map (AV.int .i64)) none), (29, i6 ((x_72.length : Nat) : Int)), (30, i6 y_78), (34, (aM r_34.1)), (35, (aI r_34.2)), (36, i6 y_52)]) (by simp) (by kernel_rfl) trivial (by kernel_rfl) ?_
                    refine drC hT_92.2 0 _ [(aM r_34.1),(aI r_34.2),i6 y_52] (bZ r_91) rfl rfl rfl rfl rfl (fun _ => rfl) rfl (by simp; try rfl) (fun _ => lS _ _ _ _) ?_
                    refine drS [0,1,2,3,4] 3 [] [] (mkS 62 [(0,.yld Lp_35.l 0),(1,.rop (aC r_34.1)),(2,.rop (aB r_34.2)),(4,i6 y_52),(6,i6 x_90),(10,i6 ((r_34.1.jobs_.length : Nat) : Int)),(11,i6 y_52),(28,.sl (x_72.map (AV.int .i64)) none),(29,i6 ((x_72.length : Nat) : Int)),(30,i6 y_78),(34,(aM r_34.1)),(35,(aI r_34.2)),(36,i6 y_52),(37,i6 r_91),(38,(aM r_34.1)),(39,(aI r_34.2)),(40,i6 x_90)]) (by simp) (by kernel_rfl) trivial (by kernel_rfl) ?_
                    exact DrO.nil rfl
                   ·dsimp only [List.getLastD_cons,List.getLastD_nil]
                    obtain ⟨r_93,hr_93,h⟩:=bE h
                    refine ExO.callL [] [(aM r_34.1),(aI r_34.2),i6 x_90] rfl rfl (sM r_34.1 r_34.2 x_90) rfl rfl (sB N r_34.1 r_34.2 x_90 r_93 hr_93) (sG _ _ _ _) rfl ?_
                    refine rn 2 [0,1,2,4,6,7,10,11,28,29,30] (mkS 62 [(0,.yld Lp_35.l 0),(1,.rop (aC r_34.1)),(2,.rop (aB r_34.2)),(4,i6 y_52),(6,i6 x_90),(7,i6 (if r_93 > r_91 then r_93 else r_91)),(10,i6 ((r_34.1.jobs_.length : Nat) : Int)),(11,i6 y_52),(28,.sl (x_72.map (AV.int .i64)) none),(29,i6 ((x_72.length : Nat) : Int)),(30,i6 y_78)]) ⟨[(aC p_1),[i6 0,i6 0,i6 0,i6 0,i6 0,i6 0,i6 0,i6 0,i6 0,i6 0,i6 0,i6 0,i6 0,i6 0,.bool false,.bool false,.bool false,.bool false,.bool false,.bool false,.bool false,i6 0,i6 0,i6 0],(aB z_79),[.bool b_80],[.fn 86 [] [.ptr 3 0,.ptr 2 0,.ptr 0 0,.ptr 4 0]]],[(0,0)]⟩ ?_
                    refine ExO.nil ?_
                    refine Ex.seq (Ex.seq ?_)
                    obtain ⟨x_94,hx_94,h⟩:=bE h
                    refine regH 7 [(3,.rop (aE x_94))] [0,1,2,4,6,7,10,11,28,29,30,49] [(0 ≤ y_52 ∧ y_52 < ((7 : Nat) : Int) ∧ Int.toNat y_52 * 2 ≤ ((aB r_34.2) : List AV).length) ∧ (((aB r_34.2) : List AV).drop (Int.toNat y_52 * 2)).take 2 = (aE x_94)] (mkS 62 [(0,.yld Lp_35.l 0),(1,.rop (aC r_34.1)),(2,.rop (aB r_34.2)),(4,i6 y_52),(6,i6 x_90),(7,i6 (if r_93 > r_91 then r_93 else r_91)),(10,i6 ((r_34.1.jobs_.length : Nat) : Int)),(11,i6 y_52),(28,.sl (x_72.map (AV.int .i64)) none),(29,i6 ((x_72.length : Nat) : Int)),(30,i6 y_78),(49,.bool (decide ((if r_93 > r_91 then r_93 else r_91) < x_94.Day)))]) (⟨[(aC p_1),[i6 0,i6 0,i6 0,i6 0,i6 0,i6 0,i6 0,i6 0,i6 0,i6 0,i6 0,i6 0,i6 0,i6 0,.bool false,.bool false,.bool false,.bool false,.bool false,.bool false,.bool false,i6 0,i6 0,i6 0],(aB z_79),[.bool b_80],[.fn 86 [] [.ptr 3 0,.ptr 2 0,.ptr 0 0,.ptr 4 0]]],[(0,0)]⟩) (by kernel_rfl) ⟨aCO (f:=aA) r_34.2.shifts_.l (aB r_34.2) 7 (fun _ => rfl) (by kernel_rfl) rfl hx_94 (by simp),trivial⟩ rfl ?_
                    rcases aU h with ⟨hc_95,h⟩ | ⟨hc_95,h⟩
                    ·refine Ex.condT _ rfl hc_95 ?_
                     refine Ex.exit ?_
                     (try simp only [reduceCtorEq,AEx.ex.injEq,Nat.reduceEqDiff,if_true,if_false])
                     exact ⟨_,_,bS [0,1,2,4,10,11,28,29,30],z_79,b_80,h,rfl,rfl⟩
                    ·refine Ex.condF _ rfl hc_95 ?_
                     refine Ex.skip ?_
                     refine Ex.seq ?_
                     obtain ⟨r_96,hr_96,h⟩:=bE h
                     refine Ex.regI ?_
                     refine runI 7 [] [0,1,2,4,10,11,28,29,30,50,51,52,53,56] [] (mkS 62 [(0,.yld Lp_35.l 0),(1,.rop (aC r_34.1)),(2,.rop (aB r_34.2)),(4,i6 y_52),(10,i6 ((r_34.1.jobs_.length : Nat) : Int)),(11,i6 y_52),(28,.sl (x_72.map (AV.int .i64)) none),(29,i6 ((x_72.length : Nat) : Int)),(30,i6 y_78),(50,.yld Lp_35.l 0),(51,(aM r_34.1)),(52,(aI r_34.2)),(53,i6 y_52),(56,.agg [i6 x_90,i6 (if r_93 > r_91 then r_93 else r_91)])]) (⟨[(aC p_1),[i6 0,i6 0,i6 0,i6 0,i6 0,i6 0,i6 0,i6 0,i6 0,i6 0,i6 0,i6 0,i6 0,i6 0,.bool false,.bool false,.bool false,.bool false,.bool false,.bool false,.bool false,i6 0,i6 0,i6 0],(aB z_79),[.bool b_80],[.fn 86 [] [.ptr 3 0,.ptr 2 0,.ptr 0 0,.ptr 4 0]]],[(0,0)]⟩) (by kernel_rfl) trivial ?_
                     refine ExI.one ?_
                     refine ExO.callL [] [(aM r_34.1),(aI r_34.2),i6 y_52,.agg [i6 x_90,i6 (if r_93 > r_91 then r_93 else r_91)]] rfl rfl (sL r_34.1 r_34.2 y_52 (⟨x_90,(if r_93 > r_91 then r_93 else r_91)⟩ : aG)) rfl rfl (sA N r_34.1 r_34.2 y_52 (⟨x_90,(if r_93 > r_91 then r_93 else r_91)⟩ : aG) r_96 hr_96) (sF _ _ _ _) rfl ?_
                     refine ExO.nil ?_
                     obtain ⟨K_108,hK_109,h⟩:=letE h
                     refine ExI.yieldT 0 hLt_39 hL_40 [(aI r_96)] rfl rfl rfl (by kernel_rfl) rfl rfl (leC hcn_37 (by simp [bH])) ?_
                     intro ca_97 cb_98 ha_99 hb_100 hma_101 hmb_102 hup_103 hbz_104
                     refine Ex.castA (a2:=mkS 30 [(4,.ptr 4 0),(9,.fn 115 [] [.rop (aC r_34.1),.rop (aB r_34.2)]),(10,(aI r_96))]) (S2:=⟨[(aC p_1),[i6 0,i6 0,i6 0,i6 0,i6 0,i6 0,i6 0,i6 0,i6 0,i6 0,i6 0,i6 0,i6 0,i6 0,.bool false,.bool false,.bool false,.bool false,.bool false,.bool false,.bool false,i6 0,i6 0,i6 0],(aB z_79),[.bool b_80],[.fn 86 [] [.ptr 3 0,.ptr 2 0,.ptr 0 0,.ptr 4 0]]],[(0,0)]⟩) (by kernel_rfl) (by kernel_rfl) ?_
                     refine Ex.two (fun z S => (z = AEx.norm ∧ ∃ (z_105 : aF),∃ (b_106 : Bool),K_108 z_105 b_106 = some r ∧ S = ⟨[(aC p_1),[i6 0,i6 0,i6 0,i6 0,i6 0,i6 0,i6 0,i6 0,i6 0,i6 0,i6 0,i6 0,i6 0,i6 0,.bool false,.bool false,.bool false,.bool false,.bool false,.bool false,.bool false,i6 0,i6 0,i6 0],(aB z_105),[.bool b_106],[.fn 86 [] [.ptr 3 0,.ptr 2 0,.ptr 0 0,.ptr 4 0]]],[(0,0)]⟩)) ?_ ?_
                     ·refine rg 2 [4,6] (mkS 30 [(4,.ptr 4 0),(6,.ptr 5 0)]) ⟨[(aC p_1),[i6 0,i6 0,i6 0,i6 0,i6 0,i6 0,i6 0,i6 0,i6 0,i6 0,i6 0,i6 0,i6 0,i6 0,.bool false,.bool false,.bool false,.bool false,.bool false,.bool false,.bool false,i6 0,i6 0,i6 0],(aB z_79),[.bool b_80],[.fn 86 [] [.ptr 3 0,.ptr 2 0,.ptr 0 0,.ptr 4 0]],(aB r_96)],[(0,0)]⟩ ?_
                      refine ⟨rfl,rfl,?_⟩
                      refine Ex.blockK ?_
                      refine Ex.reg (rn 2 [11,12] (mkS 30 [(11,.fn 86 [] [.ptr 3 0,.ptr 2 0,.ptr 0 0,.ptr 4 0]),(12,(aI r_96))]) ⟨[(aC p_1),[i6 0,i6 0,i6 0,i6 0,i6 0,i6 0,i6 0,i6 0,i6 0,i6 0,i6 0,i6 0,i6 0,i6 0,.bool false,.bool false,.bool false,.bool false,.bool false,.bool false,.bool false,i6 0,i6 0,i6 0],(aB z_79),[.bool b_80],[.fn 86 [] [.ptr 3 0,.ptr 2 0,.ptr 0 0,.ptr 4 0]],(aB r_96)],[(0,0)]⟩ ?_)
                      obtain ⟨K_115,hK_116,h⟩:=letE h
                      obtain ⟨s_110,hs_111,h⟩:=bE h
                      refine ExO.forget (bU (m:=30) 5 [0] [(11,.fn 86 [] [.ptr 3 0,.ptr 2 0,.ptr 0 0,.ptr 4 0]),(12,(aI r_96))] [(aC p_1),[i6 0,i6 0,i6 0,i6 0,i6 0,i6 0,i6 0,i6 0,i6 0,i6 0,i6 0,i6 0,i6 0,i6 0,.bool false,.bool false,.bool false,.bool false,.bool false,.bool false,.bool false,i6 0,i6 0,i6 0],(aB z_79),[.bool b_80],[.fn 86 [] [.ptr 3 0,.ptr 2 0,.ptr 0 0,.ptr 4 0]]] [(0,0)] (leC hb_100 (by simp [bH])) (by simp) ⟨(by show re 5 [0] (.fn 86 [] [.ptr 3 0,.ptr 2 0,.ptr 0 0,.ptr 4 0]) = some (.fn 86 [] [.ptr 3 0,.ptr 2 0,.ptr 0 0,.ptr 4 0]); simp [re,re1,AV.clean,List.idxOf?,List.findIdx?,List.findIdx?.go,bB,fG,dP,fI,eX,cS,cV,eP,fT,cG,cF,dZ,eO,dC,dB,cN,aK,aN,aX,aJ,aY,aP,aH,aA,aE,bO,bQ,dW,dF,eN,dX,aI,aB,aM,aC]),(by show re 5 [0] ((aI r_96)) = some ((aI r_96)); simp [re,re1,AV.clean,List.idxOf?,List.findIdx?,List.findIdx?.go,bB,fG,dP,fI,eX,cS,cV,eP,fT,cG,cF,dZ,eO,dC,dB,cN,aK,aN,aX,aJ,aY,aP,aH,aA,aE,bO,bQ,dW,dF,eN,dX,aI,aB,aM,aC]),trivial⟩ (by simp) rfl (by decide) (sig0 1 hmb_102 rfl)) ?_
                      refine ExO.castA (a2:=mkS 30 [(11,.fn 86 [] [.ptr 3 0,.ptr 2 0,.ptr 0 0,.ptr 4 0]),(12,(aI r_96))]) (S2:=⟨[(aC p_1),[i6 0,i6 0,i6 0,i6 0,i6 0,i6 0,i6 0,i6 0,i6 0,i6 0,i6 0,i6 0,i6 0,i6 0,.bool false,.bool false,.bool false,.bool false,.bool false,.bool false,.bool false,i6 0,i6 0,i6 0],(aB z_79),[.bool b_80],[.fn 86 [] [.ptr 3 0,.ptr 2 0,.ptr 0 0,.ptr 4 0]]],[(0,0)]⟩) (by kernel_rfl) (by kernel_rfl) ?_
                      refine ExO.inlZ (fun v S => (∃ (z_112 : aF),∃ (b_113 : Bool),(z_112,b_113) = s_110 ∧ v = .tup [] ∧ S = ⟨[(aC p_1),[i6 0,i6 0,i6 0,i6 0,i6 0,i6 0,i6 0,i6 0,i6 0,i6 0,i6 0,i6 0,i6 0,i6 0,.bool false,.bool false,.bool false,.bool false,.bool false,.bool false,.bool false,i6 0,i6 0,i6 0],(aB z_112),[.bool b_113],[.fn 86 [] [.ptr 3 0,.ptr 2 0,.ptr 0 0,.ptr 4 0]]],[]⟩)) 86 [(aI r_96),.ptr 3 0,.ptr 2 0,.ptr 0 0,.ptr 4 0] _ comp86 (leC hb_100 (by simp [bH])) rfl hbz_104 hLt_39 rfl (by kernel_rfl) (mkS 30 [(0,(aI r_96)),(1,.ptr 3 0),(2,.ptr 2 0),(3,.ptr 0 0),(4,.ptr 4 0),(5,.tup []),(6,.tup []),(7,.tup []),(8,.tup []),(9,.tup []),(10,.tup []),(11,.tup []),(12,.tup []),(13,.tup []),(14,.tup []),(15,.tup []),(16,.tup []),(17,.tup []),(18,.tup []),(19,.tup []),(20,.tup []),(21,.tup []),(22,.tup []),(23,.tup []),(24,.tup []),(25,.tup []),(26,.tup []),(27,.tup []),(28,.tup []),(29,.tup [])]) (by kernel_rfl) (fun c1 g1 g2 g3 => ih_17 r_96 z_79 b_80 _ hs_111 c1 g1 g2 (fun _ _ _ _ _ hq => (noLp hq).elim)) (by rintro v S (⟨_,_,_,_,rfl⟩) <;> rfl) ?_
                      rintro v S (⟨z_112,b_113,rfl,rfl,rfl⟩)
                      replace h : K_115 z_112 b_113 = some r:=h
                      subst hK_116
                      refine rn 0 [] (mkS 30 []) ⟨[(aC p_1),[i6 0,i6 0,i6 0,i6 0,i6 0,i6 0,i6 0,i6 0,i6 0,i6 0,i6 0,i6 0,i6 0,i6 0,.bool false,.bool false,.bool false,.bool false,.bool false,.bool false,.bool false,i6 0,i6 0,i6 0],(aB z_112),[.bool b_113],[.fn 86 [] [.ptr 3 0,.ptr 2 0,.ptr 0 0,.ptr 4 0]]],[(0,0)]⟩ ?_
                      refine ExO.nil ?_
                      (try simp only [reduceCtorEq,AEx.ex.injEq,Nat.reduceEqDiff,if_true,if_false])
                      exact ⟨_,_,aL.refl _ _ _,⟨by first | rfl | trivial,z_112,b_113,h,rfl⟩⟩
                     ·rintro z a2 S (⟨rfl,z_105,b_106,h,rfl⟩)
                      subst hK_109
                      refine runI 1 [] [0,1,2,4,10,11,28,29,30,59] [] (mkS 62 [(0,.yld Lp_35.l 0),(1,.rop (aC r_34.1)),(2,.rop (aB r_34.2)),(4,i6 y_52),(10,i6 ((r_34.1.jobs_.length : Nat) : Int)),(11,i6 y_52),(28,.sl (x_72.map (AV.int .i64)) none),(29,i6 ((x_72.length : Nat) : Int)),(30,i6 y_78),(59,.bool false)]) (⟨[(aC p_1),[i6 0,i6 0,i6 0,i6 0,i6 0,i6 0,i6 0,i6 0,i6 0,i6 0,i6 0,i6 0,i6 0,i6 0,.bool false,.bool false,.bool false,.bool false,.bool false,.bool false,.bool false,i6 0,i6 0,i6 0],(aB z_105),[.bool b_106],[.fn 86 [] [.ptr 3 0,.ptr 2 0,.ptr 0 0,.ptr 4 0]]],[(0,0)]⟩) (by kernel_rfl) trivial ?_
                      refine ExI.nil ?_
                      refine Ex.cond (b:=false) rfl ?_
                      refine Ex.skip ?_
                      (try simp only [reduceCtorEq,AEx.ex.injEq,Nat.reduceEqDiff,if_true,if_false])
                      exact ⟨_,_,bS [0,1,2,4,10,11,28,29,30],z_105,b_106,h,rfl,rfl⟩
                  ·rintro a S ⟨z_85,b_86,h,rfl,rfl⟩
                   subst hK_89
                   refine rg 2 [0,1,2,4,10,11,28,29,30] (mkS 62 [(0,.yld Lp_35.l 0),(1,.rop (aC r_34.1)),(2,.rop (aB r_34.2)),(4,i6 y_52),(10,i6 ((r_34.1.jobs_.length : Nat) : Int)),(11,i6 y_52),(28,.sl (x_72.map (AV.int .i64)) none),(29,i6 ((x_72.length : Nat) : Int)),(30,i6 (IntKind.i64.wrap (y_78 + 1)))]) ⟨[(aC p_1),[i6 0,i6 0,i6 0,i6 0,i6 0,i6 0,i6 0,i6 0,i6 0,i6 0,i6 0,i6 0,i6 0,i6 0,.bool false,.bool false,.bool false,.bool false,.bool false,.bool false,.bool false,i6 0,i6 0,i6 0],(aB z_85),[.bool b_86],[.fn 86 [] [.ptr 3 0,.ptr 2 0,.ptr 0 0,.ptr 4 0]]],[(0,0)]⟩ ?_
                   dsimp only
                   exact ⟨_,_,aL.refl _ _ _,k,Nat.lt_succ_self k,(IntKind.i64.wrap (y_78 + 1)),z_85,b_86,h,rfl,rfl⟩
                 ·refine Ex.condF _ rfl hc_84 ?_
                  refine Ex.exit ?_
                  (try simp only [reduceCtorEq,AEx.ex.injEq,Nat.reduceEqDiff,if_true,if_false])
                  exact ⟨_,_,bS [0,1,2,10,11],z_79,b_80,h,rfl,rfl⟩
               ·rintro a S ⟨z_73,b_74,h,rfl,rfl⟩
                subst hK_77
                (try simp only [reduceCtorEq,AEx.ex.injEq,Nat.reduceEqDiff,if_true,if_false])
                exact ⟨_,_,aL.refl _ _ _,z_73,b_74,h,rfl,rfl⟩
            ·rintro a S ⟨z_59,b_60,h,rfl,rfl⟩
             subst hK_63
             refine rg 2 [0,1,2,10,11] (mkS 62 [(0,.yld Lp_35.l 0),(1,.rop (aC r_34.1)),(2,.rop (aB r_34.2)),(10,i6 ((r_34.1.jobs_.length : Nat) : Int)),(11,i6 (IntKind.i64.wrap (y_52 + 1)))]) ⟨[(aC p_1),[i6 0,i6 0,i6 0,i6 0,i6 0,i6 0,i6 0,i6 0,i6 0,i6 0,i6 0,i6 0,i6 0,i6 0,.bool false,.bool false,.bool false,.bool false,.bool false,.bool false,.bool false,i6 0,i6 0,i6 0],(aB z_59),[.bool b_60],[.fn 86 [] [.ptr 3 0,.ptr 2 0,.ptr 0 0,.ptr 4 0]]],[(0,0)]⟩ ?_
             dsimp only
             exact ⟨_,_,aL.refl _ _ _,k,Nat.lt_succ_self k,(IntKind.i64.wrap (y_52 + 1)),z_59,b_60,h,rfl,rfl⟩
           ·refine Ex.condF _ rfl hc_58 ?_
            refine Ex.exit ?_
            (try simp only [reduceCtorEq,AEx.ex.injEq,Nat.reduceEqDiff,if_true,if_false])
            exact ⟨_,_,bS [],z_53,b_54,h,rfl,rfl⟩
         ·rintro a S ⟨z_47,b_48,h,rfl,rfl⟩
          subst hK_51
          exact ⟨_,_,aL.refl _ _ _,.inl rfl,0,rfl,⟨by first | rfl | trivial,z_47,b_48,h,rfl⟩⟩
        ·rintro k S (⟨rfl,z_42,b_43,h,rfl⟩)
         subst hK_46
         (try simp only [reduceCtorEq,AEx.ex.injEq,Nat.reduceEqDiff,if_true,if_false])
         exact ⟨_,_,bU (m:=30) 5 [] [] [(aC p_1),[i6 0,i6 0,i6 0,i6 0,i6 0,i6 0,i6 0,i6 0,i6 0,i6 0,i6 0,i6 0,i6 0,i6 0,.bool false,.bool false,.bool false,.bool false,.bool false,.bool false,.bool false,i6 0,i6 0,i6 0],(aB z_42),[.bool b_43],[.fn 86 [] [.ptr 3 0,.ptr 2 0,.ptr 0 0,.ptr 4 0]]] [] (leC hcn_5 (by simp [bH])) (by simp) trivial (by simp) rfl (by decide) (sig0 0 hcm_6 rfl),z_42,b_43,h,rfl,rfl⟩
    ·rintro a S ⟨z_21,b_22,h,rfl,rfl⟩
     subst hK_25
     obtain rfl:=sJ h
     exact ⟨_,_,aL.refl _ _ _,.inl rfl,_,by kernel_rfl,⟨z_21,b_22,rfl,rfl,rfl⟩⟩
  refine ExO.inlY (fun v S => (∃ (z_11 : aF),∃ (b_12 : Bool),(z_11,b_12) = s_19 ∧ v = .tup [] ∧ S = ⟨[(aC p_1),[i6 0,i6 0,i6 0,i6 0,i6 0,i6 0,i6 0,i6 0,i6 0,i6 0,i6 0,i6 0,i6 0,i6 0,.bool false,.bool false,.bool false,.bool false,.bool false,.bool false,.bool false,i6 0,i6 0,i6 0],(aB z_11),[.bool b_12],[.fn 86 [] [.ptr 3 0,.ptr 2 0,.ptr 0 0,.ptr 4 0]]],[]⟩)) 86 [(aI r_2),.ptr 3 0,.ptr 2 0,.ptr 0 0,.ptr 4 0] _ comp86 (by simp [bH]) rfl (by kernel_rfl) (mkS 30 [(0,(aI r_2)),(1,.ptr 3 0),(2,.ptr 2 0),(3,.ptr 0 0),(4,.ptr 4 0),(5,.tup []),(6,.tup []),(7,.tup []),(8,.tup []),(9,.tup []),(10,.tup []),(11,.tup []),(12,.tup []),(13,.tup []),(14,.tup []),(15,.tup []),(16,.tup []),(17,.tup []),(18,.tup []),(19,.tup []),(20,.tup []),(21,.tup []),(22,.tup []),(23,.tup []),(24,.tup []),(25,.tup []),(26,.tup []),(27,.tup []),(28,.tup []),(29,.tup [])]) (by kernel_rfl) (fun c1 g1 g2 g3 => hY_18 N r_2 (⟨(⟨(⟨0,0⟩ : aG),(⟨0,0⟩ : aG),(⟨0,0⟩ : aG),(⟨0,0⟩ : aG),(⟨0,0⟩ : aG),(⟨0,0⟩ : aG),(⟨0,0⟩ : aG)⟩ : bF),(⟨false,false,false,false,false,false,false⟩ : bY),0,0,0⟩ : aF) false _ hs_20 c1 g1 g2 g3) ?_
  rintro v S (⟨z_11,b_12,rfl,rfl,rfl⟩)
  replace h : K_118 z_11 b_12 = some r:=h
  subst hK_119
  refine rn 0 [2,3] (mkS 14 [(2,.ptr 1 0),(3,.ptr 2 0)]) ⟨[(aC p_1),[i6 0,i6 0,i6 0,i6 0,i6 0,i6 0,i6 0,i6 0,i6 0,i6 0,i6 0,i6 0,i6 0,i6 0,.bool false,.bool false,.bool false,.bool false,.bool false,.bool false,.bool false,i6 0,i6 0,i6 0],(aB z_11),[.bool b_12],[.fn 86 [] [.ptr 3 0,.ptr 2 0,.ptr 0 0,.ptr 4 0]]],[]⟩ ?_
  refine ExO.nil ?_
  refine Ex.seq (rg 2 [2] (mkS 14 [(2,.ptr 1 0)]) ⟨[(aC p_1),(aB z_11),(aB z_11),[.bool b_12],[.fn 86 [] [.ptr 3 0,.ptr 2 0,.ptr 0 0,.ptr 4 0]]],[]⟩ ?_)
  refine Ex.ret ?_
  obtain rfl:=sJ h
  exact rt ((aI z_11))
def cX (N : Nat) (s_1 : (List aG)) : Option ((List aG)):=lN ([] : List aG) s_1
def mT (r : (List aG)) : AV:=.sl (r.map aA) none
attribute [local simp] mT
theorem mV (N : Nat) (s_1 : (List aG)) (r : (List aG)) (h : cX N s_1 = some r) : wU Tryz.prog ⟨65,[.sl (s_1.map aA) none],r.map aA,r.length,2⟩:=by
 refine ⟨?_,(cG _),by simp⟩
 unfold cX at h
 refine aAB.of comp65 ?_
 refine Ex.seq (rg 1 [0] (mkS 8 [(0,.sl (s_1.map aA) none)]) ⟨[],[]⟩ ?_)
 refine Ex.seq (Ex.seq ?_)
 refine Ex.reg (rn 1 [0,3] (mkS 8 [(0,.sl (s_1.map aA) none),(3,.sl (s_1.map aA) none)]) ⟨[],[]⟩ ?_)
 refine ExO.isNil false (.tmp 3) (s_1.map aA) rfl rfl rfl (fun b hb => ?_)
 refine rn 0 [0,4] (mkS 8 [(0,.sl (s_1.map aA) none),(4,.bool (b != false))]) ⟨[],[]⟩ ?_
 refine ExO.nil ?_
 cases b
 ·refine Ex.condF (false != false) rfl rfl ?_
  refine Ex.skip ?_
  refine Ex.seq ?_
  refine regH 4 [(2,.apps (s_1.map aA) (r.map aA) r.length)] [2] [uY 0 (([] : List aG).map aA) (s_1.map aA) (s_1.map aA) 2 (r.map aA) r.length] (mkS 8 [(2,.sl (r.map aA) (some 0))]) (⟨[],[(r.length,2)]⟩) (by kernel_rfl) ⟨uY.of h (fun _ => rfl) (fun _ => rfl) (fun _ => rfl),trivial⟩ rfl ?_
  refine Ex.ret ?_
  exact ⟨.inr rfl,.sl (r.map aA) (some 0),by kernel_rfl,0,rfl,rfl⟩
 ·have hl : s_1 = []:=List.map_eq_nil_iff.1 (hb rfl)
  subst hl
  have hr : r = []:=by simpa [lN] using h.symm
  subst hr
  refine Ex.condT (true != false) rfl rfl ?_
  refine Ex.seq (rg 1 [2] (mkS 8 [(2,.nils)]) ⟨[],[]⟩ ?_)
  refine Ex.forget (nilK 2 2 rfl) ?_
  refine Ex.ret ?_
  exact ⟨.inr rfl,.sl [] (some 0),by kernel_rfl,0,rfl,rfl⟩
def hU (N : Nat) (s_1 : aV) : Option ((List aG) × Int × Int):=((dL N s_1).bind fun r_2 => (bif (r_2 != 0) then some ([],0,r_2) else ((gD N s_1).bind fun r_4 => ((eS N r_4).bind fun r_5 => ((cutL r_5.shifts_.l 7 ((s_1.Jobs.length : Nat) : Int)).bind fun l_6 => ((cX N l_6).bind fun r_7 => some (r_7,r_5.days_,0)))))))
def nN (r : (List aG) × Int × Int) : AV:=.tup [.sl (r.1.map aA) none,i6 r.2.1,i6 r.2.2]
attribute [local simp] nN
theorem wS (s_1 : aV) : [(aP s_1)].mapM (ren []) = some [(aP s_1)]:=by simp
theorem wQ (r : (List aG) × Int × Int) (n n2 m : Nat) : back n n2 m (nN r) = some (nN r):=by simp
theorem wO (N : Nat) (s_1 : aV) (r : (List aG) × Int × Int) (h : hU N s_1 = some r) : Does Tryz.prog 28 [(aP s_1)] [] fun v c => v = nN r ∧ c = []:=by
 unfold hU at h
 refine Does.ofL comp28 _ _ rfl rfl ?_
 refine Ex.seq (rg 4 [1] (mkS 23 [(1,.ptr 0 0)]) ⟨[(aH s_1)],[]⟩ ?_)
 refine Ex.seq (Ex.seq ?_)
 obtain ⟨r_2,hr_2,h⟩:=bE h
 refine Ex.reg (rn 1 [1,7] (mkS 23 [(1,.ptr 0 0),(7,(aP s_1))]) ⟨[(aH s_1)],[]⟩ ?_)
 refine ExO.callL [] [(aP s_1)] rfl rfl (nJ s_1) rfl rfl (nB N s_1 r_2 hr_2) (nG _ _ _ _) rfl ?_
 refine rn 1 [1,5] (mkS 23 [(1,.ptr 0 0),(5,i6 r_2)]) ⟨[(aH s_1)],[]⟩ ?_
 refine ExO.nil ?_
 refine Ex.seq (rg 2 [1,5,10] (mkS 23 [(1,.ptr 0 0),(5,i6 r_2),(10,.bool (r_2 != 0))]) ⟨[(aH s_1)],[]⟩ ?_)
 rcases aU h with ⟨hc_3,h⟩ | ⟨hc_3,h⟩
 ·refine Ex.condT _ rfl hc_3 ?_
  refine Ex.seq (rg 4 [2,3,4] (mkS 23 [(2,.nils),(3,i6 0),(4,i6 r_2)]) ⟨[(aH s_1)],[]⟩ ?_)
  refine Ex.ret ?_
  obtain rfl:=sJ h
  exact rt (.tup [.nils,i6 0,i6 r_2])
 ·refine Ex.condF _ rfl hc_3 ?_
  refine Ex.skip ?_
  refine Ex.seq ?_
  obtain ⟨r_4,hr_4,h⟩:=bE h
  refine Ex.reg (rn 1 [1,12] (mkS 23 [(1,.ptr 0 0),(12,(aP s_1))]) ⟨[(aH s_1)],[]⟩ ?_)
  refine ExO.callL [] [(aP s_1)] rfl rfl (wB s_1) rfl rfl (vM N s_1 r_4 hr_4) (vU _ _ _ _) rfl ?_
  obtain ⟨r_5,hr_5,h⟩:=bE h
  refine ExO.callL [] [(aM r_4)] rfl rfl (sN r_4) rfl rfl (sC N r_4 r_5 hr_5) (sH _ _ _ _) rfl ?_
  refine rn 2 [1,6] (mkS 23 [(1,.ptr 0 0),(6,.ptr 1 0)]) ⟨[(aH s_1),(aB r_5)],[]⟩ ?_
  refine ExO.nil ?_
  refine Ex.seq ?_
  obtain ⟨l_6,hl_6,h⟩:=bE h
  obtain ⟨r_7,hr_7,h⟩:=bE h
  refine Ex.drawE (a1:=mkS 23 [(1,.ptr 0 0),(2,.sl (r_7.map aA) none),(6,.ptr 1 0),(15,.ptr 1 0),(16,.ptr 0 1),(17,.sl (s_1.Jobs.map aJ) none),(18,i6 ((s_1.Jobs.length : Nat) : Int)),(19,.ms 1 (Int.toNat ((s_1.Jobs.length : Nat) : Int)) 2),(20,.sl (r_7.map aA) none),(21,.ptr 1 23),(22,i6 r_5.days_)]) (aEk (ls:=[(1,2,l_6.map aA,flat ((r_5.shifts_.l.drop l_6.length).map aA) ++ [.bool r_5.planned_.a0,.bool r_5.planned_.a1,.bool r_5.planned_.a2,.bool r_5.planned_.a3,.bool r_5.planned_.a4,.bool r_5.planned_.a5,.bool r_5.planned_.a6,i6 r_5.many_,i6 r_5.last_,i6 r_5.days_])]) (xs:=[.ms 1 (Int.toNat ((s_1.Jobs.length : Nat) : Int)) 2]) (mV N l_6 r_7 hr_7) (aAp (f:=aA) (fun _ => rfl) _) (by exact ⟨.s 0 rfl ((cutL.toN hl_6).trans (List.length_map ..).symm),trivial⟩) (cD _)) [] [] [] ?_ ?_
  ·refine drS [0, 1] 5 [(3, .eq (i6 ((s_1.Jobs.length : Nat) : Int))), (4, .adm)] [AV.int .i64 (((s_1.Jobs.map aJ).length : Nat) : Int) = AV.int .i64 ((s_1.Jobs.length : Nat) : Int), 0 = 0 ∧ 0 ≤ ((s_1.Jobs.length : Nat) : Int) ∧ ((s_1.Jobs.length : Nat) : Int) ≤ ((7 : Nat) : Int)] (mkS 23 [(1, .ptr 0 0), (6, .ptr 1 0), (15, .ptr 1 0), (16, .ptr 0 1), (17, .sl (s_1.Jobs.map aJ) none), (18, i6 ((s_1.Jobs.length : Nat) : Int)), (19, .ms 1 (Int.toNat ((s_1.Jobs.length : Nat) : Int)) 2)]) (by simp) (by kernel_rfl) ⟨lenM _ _, cutL.adm hl_6, trivial⟩ (by kernel_rfl) ?_
   refine aHH rfl rfl (fun _ _ => rfl) (by exact (List.forall_mem_cons.2 ⟨⟨⟨(by show some _ = some _; refine congrArg some ?_; rw [← List.append_assoc,← cutL.flat hl_6 aA]; kernel_rfl),show 0 < 2 by decide,fun i e he => eL (f:=aA) (s:=2) (fun _ => rfl) _ e (List.mem_of_getElem? he),(fX (f:=aA) (fun _ => rfl) _),show 1 ∉ ([] : List Nat) by decide⟩,trivial⟩,(fun _ h => (List.not_mem_nil h).elim)⟩)) ?_
   refine drS [0,1] 3 [] [] (mkS 23 [(1,.ptr 0 0),(2,.sl (r_7.map aA) none),(6,.ptr 1 0),(15,.ptr 1 0),(16,.ptr 0 1),(17,.sl (s_1.Jobs.map aJ) none),(18,i6 ((s_1.Jobs.length : Nat) : Int)),(19,.ms 1 (Int.toNat ((s_1.Jobs.length : Nat) : Int)) 2),(20,.sl (r_7.map aA) none),(21,.ptr 1 23),(22,i6 r_5.days_)]) (by simp) (by kernel_rfl) trivial (by kernel_rfl) ?_
   exact DrO.nil rfl
  ·dsimp only [List.getLastD_cons,List.getLastD_nil]
   refine rn 2 [2,3,4] (mkS 23 [(2,.sl (r_7.map aA) none),(3,i6 r_5.days_),(4,i6 0)]) ⟨[(aH s_1),(aB r_5)],[]⟩ ?_
   refine ExO.nil ?_
   refine Ex.ret ?_
   obtain rfl:=sJ h
   exact rt (.tup [.sl (r_7.map aA) none,i6 r_5.days_,i6 0])
end
section
open Go.RowKit
theorem w64 {x : Int} (h0 : -9223372036854775808 ≤ x) (h1 : x < 9223372036854775808) : IntKind.i64.wrap x = x:=by
 simp [IntKind.wrap,IntKind.bits,IntKind.signed]
 omega
theorem wu64 (x : Int) : 0 ≤ IntKind.u64.wrap x ∧ IntKind.u64.wrap x < 2 ^ 64:=by
 have e : IntKind.u64.wrap x = x % 2 ^ 64:=rfl
 omega
theorem aFy {x : Int} (h0 : 0 ≤ x) (h1 : x < 2 ^ 64) : IntKind.u64.wrap x = x:=by
 have e : IntKind.u64.wrap x = x % 2 ^ 64:=rfl
 omega
section
variable {α A B C D ρ : Type}
theorem aDE {body : (A → B → Option ρ) → A → B → Option ρ} (T : Option ρ → Prop) (P : A → B → Prop) (μ : A → B → Nat) (h : ∀ rec a b,P a b → (∀ a' b',P a' b' → μ a' b' < μ a b → T (rec a' b')) → T (body rec a b)) : ∀ (N : Nat) (a : A) (b : B),P a b → μ a b < N → T (loop2 body N a b)
 | 0,a,b,_,hm => absurd hm (Nat.not_lt_zero _)
 | n + 1,a,b,hp,hm => h (loop2 body n) a b hp fun a' b' hp' hm' => aDE T P μ h n a' b' hp' (by omega)
theorem aAI {body : (A → B → C → Option ρ) → A → B → C → Option ρ} (T : Option ρ → Prop) (P : A → B → C → Prop) (μ : A → B → C → Nat) (h : ∀ rec a b c,P a b c → (∀ a' b' c',P a' b' c' → μ a' b' c' < μ a b c → T (rec a' b' c')) → T (body rec a b c)) : ∀ (N : Nat) (a : A) (b : B) (c : C),P a b c → μ a b c < N → T (loop3 body N a b c)
 | 0,a,b,c,_,hm => absurd hm (Nat.not_lt_zero _)
 | n + 1,a,b,c,hp,hm => h (loop3 body n) a b c hp fun a' b' c' hp' hm' => aAI T P μ h n a' b' c' hp' (by omega)
end
theorem bV {α : Type} (l : List α) (i : Nat) : getI l (i : Int) = l[i]?:=by simp [getI]
theorem aFU {α : Type} {l : List α} {i : Int} (h0 : 0 ≤ i) (h1 : i < (l.length : Int)) : ∃ x,getI l i = some x ∧ l[i.toNat]? = some x ∧ x ∈ l:=by
 have hlt : i.toNat < l.length:=by omega
 refine ⟨l[i.toNat],?_,List.getElem?_eq_getElem hlt,List.getElem_mem hlt⟩
 simp only [getI,h0,if_true]
 exact List.getElem?_eq_getElem hlt
theorem lM {α : Type} {l m : List α} (h : l.length + m.length ≤ 65536) : lN l m = some (l ++ m):=if_pos h
theorem eM {κ ρ : Type} (K : κ) (f : κ → Option ρ) : letJ K f = f K:=rfl
section
variable {A B ρ : Type}
theorem st1 (n : Nat) (body : (Int → Option ρ) → Int → Option ρ) (r : Option ρ) (hend : ∀ rec,body rec (n : Int) = r) (hstep : ∀ rec (i : Nat),i < n → body rec (i : Int) = rec ((i + 1 : Nat) : Int)) : ∀ (N i : Nat),i ≤ n → n - i < N → loop1 body N (i : Int) = r
 | 0,i,_,h => absurd h (Nat.not_lt_zero _)
 | N + 1,i,hle,hN => by
  show body (loop1 body N) (i : Int) = _
  by_cases hlt : i < n
  ·rw [hstep _ i hlt]; exact st1 n body r hend hstep N (i + 1) (by omega) (by omega)
  ·have : i = n := by omega
   subst this
   exact hend _
theorem st2 (n : Nat) (st : Nat → A) (body : (Int → A → Option ρ) → Int → A → Option ρ) (r : Option ρ) (hend : ∀ rec,body rec (n : Int) (st n) = r) (hstep : ∀ rec (i : Nat),i < n → body rec (i : Int) (st i) = rec ((i + 1 : Nat) : Int) (st (i + 1))) : ∀ (N i : Nat),i ≤ n → n - i < N → loop2 body N (i : Int) (st i) = r
 | 0,i,_,h => absurd h (Nat.not_lt_zero _)
 | N + 1,i,hle,hN => by
  show body (loop2 body N) (i : Int) (st i) = _
  by_cases hlt : i < n
  ·rw [hstep _ i hlt]; exact st2 n st body r hend hstep N (i + 1) (by omega) (by omega)
  ·have : i = n := by omega
   subst this
   exact hend _
theorem st2' (n : Nat) (st : Nat → A) (body : (A → Int → Option ρ) → A → Int → Option ρ) (r : Option ρ) (hend : ∀ rec,body rec (st n) (n : Int) = r) (hstep : ∀ rec (i : Nat),i < n → body rec (st i) (i : Int) = rec (st (i + 1)) ((i + 1 : Nat) : Int)) : ∀ (N i : Nat),i ≤ n → n - i < N → loop2 body N (st i) (i : Int) = r
 | 0,i,_,h => absurd h (Nat.not_lt_zero _)
 | N + 1,i,hle,hN => by
  show body (loop2 body N) (st i) (i : Int) = _
  by_cases hlt : i < n
  ·rw [hstep _ i hlt]; exact st2' n st body r hend hstep N (i + 1) (by omega) (by omega)
  ·have : i = n := by omega
   subst this
   exact hend _
theorem st3 (n : Nat) (sa : Nat → A) (sb : Nat → B) (body : (Int → A → B → Option ρ) → Int → A → B → Option ρ) (r : Option ρ) (hend : ∀ rec,body rec (n : Int) (sa n) (sb n) = r) (hstep : ∀ rec (i : Nat),i < n → body rec (i : Int) (sa i) (sb i) = rec ((i + 1 : Nat) : Int) (sa (i + 1)) (sb (i + 1))) : ∀ (N i : Nat),i ≤ n → n - i < N → loop3 body N (i : Int) (sa i) (sb i) = r
 | 0,i,_,h => absurd h (Nat.not_lt_zero _)
 | N + 1,i,hle,hN => by
  show body (loop3 body N) (i : Int) (sa i) (sb i) = _
  by_cases hlt : i < n
  ·rw [hstep _ i hlt]; exact st3 n sa sb body r hend hstep N (i + 1) (by omega) (by omega)
  ·have : i = n := by omega
   subst this
   exact hend _
theorem st2z (n : Nat) (st : Nat → A) {body : (Int → A → Option ρ) → Int → A → Option ρ} {r : Option ρ} {a : A} {N : Nat} (ha : a = st 0) (hN : n < N) (hend : ∀ rec,body rec (n : Int) (st n) = r) (hstep : ∀ rec (i : Nat),i < n → body rec (i : Int) (st i) = rec ((i + 1 : Nat) : Int) (st (i + 1))) : loop2 body N 0 a = r:=by
 subst ha; exact st2 n st body r hend hstep N 0 (Nat.zero_le _) (by omega)
theorem st2z' (n : Nat) (st : Nat → A) {body : (A → Int → Option ρ) → A → Int → Option ρ} {r : Option ρ} {a : A} {N : Nat} (ha : a = st 0) (hN : n < N) (hend : ∀ rec,body rec (st n) (n : Int) = r) (hstep : ∀ rec (i : Nat),i < n → body rec (st i) (i : Int) = rec (st (i + 1)) ((i + 1 : Nat) : Int)) : loop2 body N a 0 = r:=by
 subst ha; exact st2' n st body r hend hstep N 0 (Nat.zero_le _) (by omega)
theorem st3z (n : Nat) (sa : Nat → A) (sb : Nat → B) {body : (Int → A → B → Option ρ) → Int → A → B → Option ρ} {r : Option ρ} {a : A} {b : B} {N : Nat} (ha : a = sa 0) (hb : b = sb 0) (hN : n < N) (hend : ∀ rec,body rec (n : Int) (sa n) (sb n) = r) (hstep : ∀ rec (i : Nat),i < n → body rec (i : Int) (sa i) (sb i) = rec ((i + 1 : Nat) : Int) (sa (i + 1)) (sb (i + 1))) : loop3 body N 0 a b = r:=by
 subst ha hb; exact st3 n sa sb body r hend hstep N 0 (Nat.zero_le _) (by omega)
end
theorem nadd1 (i : Nat) (h : i < 4611686018427387904) : IntKind.i64.wrap ((i : Int) + 1) = ((i + 1 : Nat) : Int):=by
 rw [w64 (x:=(i : Int) + 1) (by omega) (by omega)]
 omega
theorem ltD {i n : Nat} (h : i < n) : decide ((i : Int) < ((n : Nat) : Int)) = true:=decide_eq_true (by omega)
theorem ltE (n : Nat) : decide (((n : Nat) : Int) < ((n : Nat) : Int)) = false:=decide_eq_false (by omega)
def pre (l : List Int) (i : Nat) : Int:=(l.take i).sum
section
variable {α A B C D ρ : Type}
end
end
section
def lxL : List Int → List Int → Prop
 | x :: l,y :: m => x < y ∨ x = y ∧ lxL l m
 | _,_ => False
theorem lxL.irr : ∀ l,¬ lxL l l
 | [],h => h
 | x :: l,h => by
  rcases h with h | ⟨_,h⟩
  ·omega
  ·exact lxL.irr l h
theorem lxL.trans : ∀ {l m k : List Int},lxL l m → lxL m k → lxL l k
 | [],_,_,h,_ => h.elim
 | _ :: _,[],_,h,_ => h.elim
 | _ :: _,_ :: _,[],_,h => h.elim
 | x :: l,y :: m,z :: k,h1,h2 => by
  rcases h1 with h1 | ⟨e1,h1⟩ <;> rcases h2 with h2 | ⟨e2,h2⟩
  ·exact .inl (by omega)
  ·exact .inl (by omega)
  ·exact .inl (by omega)
  ·exact .inr ⟨by omega,lxL.trans h1 h2⟩
def lxE (l m : List Int) : Prop:=l = m ∨ lxL l m
theorem lxE.refl (l : List Int) : lxE l l:=.inl rfl
theorem lxE.trans {l m k : List Int} (h1 : lxE l m) (h2 : lxE m k) : lxE l k:=by
 rcases h1 with rfl | h1
 ·exact h2
 ·rcases h2 with rfl | h2
  ·exact .inr h1
  ·exact .inr (h1.trans h2)
theorem lxE.not {l m : List Int} (h : lxE l m) (h2 : lxL m l) : False:=by
 rcases h with rfl | h
 ·exact lxL.irr _ h2
 ·exact lxL.irr _ (h.trans h2)
theorem lxL.tot : ∀ {l m : List Int},l.length = m.length → lxE l m ∨ lxL m l
 | [],[],_ => .inl (.inl rfl)
 | [],_ :: _,h => by simp at h
 | _ :: _,[],h => by simp at h
 | x :: l,y :: m,h => by
  rcases Int.lt_trichotomy x y with hx | hx | hx
  ·exact .inl (.inr (.inl hx))
  ·subst hx
   rcases lxL.tot (l:=l) (m:=m) (by simpa using h) with (rfl | h2) | h2
   ·exact .inl (.inl rfl)
   ·exact .inl (.inr (.inr ⟨rfl,h2⟩))
   ·exact .inr (.inr ⟨rfl,h2⟩)
  ·exact .inr (.inl hx)
def leL : List Int → List Int → Prop
 | x :: l,y :: m => x ≤ y ∧ leL l m
 | [],[] => True
 | _,_ => False
theorem leL.lx : ∀ {l m : List Int},leL l m → lxE l m
 | [],[],_ => .inl rfl
 | [],_ :: _,h => h.elim
 | _ :: _,[],h => h.elim
 | x :: l,y :: m,⟨h1,h2⟩ => by
  by_cases hx : x < y
  ·exact .inr (.inl hx)
  ·have : x = y := by omega
   subst this
   rcases h2.lx with rfl | h
   ·exact .inl rfl
   ·exact .inr (.inr ⟨rfl,h⟩)
theorem leL.refl : ∀ l,leL l l
 | [] => trivial
 | x :: l => ⟨Int.le_refl x,leL.refl l⟩
theorem leL.app : ∀ {l m l' m' : List Int},leL l m → leL l' m' → leL (l ++ l') (m ++ m')
 | [],[],_,_,_,h => h
 | [],_ :: _,_,_,h,_ => h.elim
 | _ :: _,[],_,_,h,_ => h.elim
 | x :: l,y :: m,_,_,⟨h1,h2⟩,h => ⟨h1,h2.app h⟩
theorem leL.map {α : Type} (f g : α → Int) : ∀ (l : List α),(∀ x,x ∈ l → f x ≤ g x) → leL (l.map f) (l.map g)
 | [],_ => trivial
 | x :: l,h => ⟨h x (by simp),leL.map f g l fun y hy => h y (by simp [hy])⟩
def mxN (f : Nat → Int) : Nat → Int
 | 0 => 0
 | n + 1 => max (mxN f n) (f n)
theorem mxN.ge (f : Nat → Int) : ∀ (n i : Nat),i < n → f i ≤ mxN f n
 | 0,i,h => absurd h (Nat.not_lt_zero _)
 | n + 1,i,h => by
  simp only [mxN]
  by_cases hi : i = n
  ·subst hi; omega
  ·have := mxN.ge f n i (by omega)
   omega
theorem mxN.pos (f : Nat → Int) : ∀ n,0 ≤ mxN f n
 | 0 => by simp [mxN]
 | n + 1 => by have:=mxN.pos f n; simp only [mxN]; omega
theorem mxN.le (f : Nat → Int) {c : Int} (hc : 0 ≤ c) : ∀ n,(∀ i,i < n → f i ≤ c) → mxN f n ≤ c
 | 0,_ => hc
 | n + 1,h => by have:=mxN.le f hc n (fun i hi => h i (by omega)); have:=h n (by omega); simp only [mxN]; omega
theorem mxN.mono (f g : Nat → Int) (n : Nat) (h : ∀ i,i < n → f i ≤ g i) : mxN f n ≤ mxN g n :=
 mxN.le f (mxN.pos g n) n fun i hi => by have:=mxN.ge g n i hi; have:=h i hi; omega
theorem mxN.congr (f g : Nat → Int) (n : Nat) (h : ∀ i,i < n → f i = g i) : mxN f n = mxN g n:=by
 have h1:=mxN.mono f g n fun i hi => by have:=h i hi; omega
 have h2:=mxN.mono g f n fun i hi => by have:=h i hi; omega
 omega
def smN (f : Nat → Int) : Nat → Int
 | 0 => 0
 | n + 1 => smN f n + f n
theorem smN.mono (f g : Nat → Int) : ∀ n,(∀ i,i < n → f i ≤ g i) → smN f n ≤ smN g n
 | 0,_ => by simp [smN]
 | n + 1,h => by have:=smN.mono f g n (fun i hi => h i (by omega)); have:=h n (by omega); simp only [smN]; omega
theorem smN.pos (f : Nat → Int) : ∀ n,(∀ i,i < n → 0 ≤ f i) → 0 ≤ smN f n
 | 0,_ => by simp [smN]
 | n + 1,h => by have:=smN.pos f n (fun i hi => h i (by omega)); have:=h n (by omega); simp only [smN]; omega
theorem smN.lt (f g : Nat → Int) : ∀ (n k : Nat),k < n → (∀ i,i < n → f i ≤ g i) → f k < g k → smN f n < smN g n
 | 0,k,h,_,_ => absurd h (Nat.not_lt_zero _)
 | n + 1,k,hk,h,hlt => by
  simp only [smN]
  have hn:=h n (by omega)
  by_cases e : k = n
  ·subst e
   have:=smN.mono f g k (fun i hi => h i (by omega))
   omega
  ·have := smN.lt f g n k (by omega) (fun i hi => h i (by omega)) hlt
   omega
theorem smN.eq (f g : Nat → Int) : ∀ n,(∀ i,i < n → f i = g i) → smN f n = smN g n
 | 0,_ => rfl
 | n + 1,h => by rw [smN,smN,smN.eq f g n (fun i hi => h i (by omega)),h n (by omega)]
theorem smN.one (f g : Nat → Int) : ∀ (n k : Nat),k < n → (∀ i,i < n → i ≠ k → f i = g i) → smN f n = smN g n + (f k - g k)
 | 0,k,h,_ => absurd h (Nat.not_lt_zero _)
 | n + 1,k,hk,h => by
  simp only [smN]
  by_cases e : k = n
  ·subst e
   rw [smN.eq f g k (fun i hi => h i (by omega) (by omega))]
   omega
  ·rw [smN.one f g n k (by omega) (fun i hi hn => h i (by omega) hn), h n (by omega) (fun c => e c.symm)]
   omega
structure Shp where
 n : Nat
 D : Nat → Int
 aft : Nat → Int
 can : Nat → Int → Prop
 hD : ∀ j,j < n → 1 ≤ D j
 ha : ∀ j,j < n → aft j = -1 ∨ ∃ b : Nat,aft j = (b : Int) ∧ b < j
structure Okp (s : Shp) (w d : Nat → Int) : Prop where
 can : ∀ j,j < s.n → s.can j (w j)
 pos : ∀ j,j < s.n → 0 ≤ d j
 ord : ∀ (j b : Nat),j < s.n → s.aft j = (b : Int) → d b + s.D b ≤ d j
 cl : ∀ j k,j < s.n → k < s.n → j ≠ k → w j = w k → d j + s.D j ≤ d k ∨ d k + s.D k ≤ d j
def Bef (d : Nat → Int) (j k : Nat) : Prop:=d j < d k ∨ d j = d k ∧ j < k
def Tgt (s : Shp) (w d : Nat → Int) : Prop:=∀ k,k < s.n → d k = 0 ∨ (∃ b : Nat,s.aft k = (b : Int) ∧ d k = d b + s.D b) ∨ ∃ j,j < s.n ∧ w j = w k ∧ Bef d j k ∧ d k = d j + s.D j
theorem Okp.early {s : Shp} {w d : Nat → Int} (h : Okp s w d) (k : Nat) (hk : k < s.n) (h0 : d k ≠ 0) (h1 : ¬ ∃ b : Nat,s.aft k = (b : Int) ∧ d k = d b + s.D b) (h2 : ¬ ∃ j,j < s.n ∧ w j = w k ∧ Bef d j k ∧ d k = d j + s.D j) : Okp s w (fun j => if j = k then d k - 1 else d j):=by
 have hp:=h.pos k hk
 refine ⟨h.can,fun j hj => ?_,fun j b hj hb => ?_,fun j i hj hi hne hw => ?_⟩
 ·show 0 ≤ (if j = k then d k - 1 else d j)
  split
  ·omega
  ·exact h.pos j hj
 ·have hb' : b < j:=by
   rcases s.ha j hj with e | ⟨b',e,hb'⟩
   ·rw [e] at hb; omega
   ·rw [e] at hb; omega
  have ho:=h.ord j b hj hb
  show (if b = k then d k - 1 else d b) + s.D b ≤ (if j = k then d k - 1 else d j)
  by_cases e1 : j = k
  ·subst e1
   rw [if_pos rfl,if_neg (by omega)]
   have : d j ≠ d b + s.D b:=fun e => h1 ⟨b,hb,e⟩
   omega
  ·rw [if_neg e1]
   split
   ·rename_i e; subst e; omega
   ·exact ho
 ·-- two jobs of one worker
  have key : ∀ i,i < s.n → i ≠ k → w i = w k → d i + s.D i ≤ d k - 1 ∨ d k - 1 + s.D k ≤ d i:=by
   intro i hi hne hw
   have hDi:=s.hD i hi
   have hDk:=s.hD k hk
   rcases h.cl i k hi hk hne hw with c | c
   ·have : d k ≠ d i + s.D i := fun e => h2 ⟨i, hi, hw, .inl (by omega), e⟩
    exact .inl (by omega)
   ·exact .inr (by omega)
  show (if j = k then d k - 1 else d j) + s.D j ≤ (if i = k then d k - 1 else d i) ∨ (if i = k then d k - 1 else d i) + s.D i ≤ (if j = k then d k - 1 else d j)
  by_cases e1 : j = k
  ·subst e1
   rw [if_pos rfl,if_neg (fun e => hne e.symm)]
   exact (key i hi (fun e => hne e.symm) hw.symm).symm
  ·rw [if_neg e1]
   by_cases e2 : i = k
   ·subst e2
    rw [if_pos rfl]
    exact key j hj e1 hw
   ·rw [if_neg e2]
    exact h.cl j i hj hi hne hw
theorem Okp.tight {s : Shp} {w : Nat → Int} : ∀ (N : Nat) (d : Nat → Int),smN d s.n < (N : Int) → Okp s w d → ∃ d',Okp s w d' ∧ Tgt s w d' ∧ (∀ j,d' j ≤ d j) ∧ ∀ j,s.n ≤ j → d' j = d j
 | 0,d,hN,h => by
  have:=smN.pos d s.n h.pos
  omega
 | N + 1,d,hN,h => by
  by_cases ht : Tgt s w d
  ·exact ⟨d,h,ht,fun j => Int.le_refl _,fun j _ => rfl⟩
  ·obtain ⟨k,hk⟩:=Classical.not_forall.1 ht
   obtain ⟨hk,hk2⟩:=Classical.not_imp.1 hk
   have h0 : d k ≠ 0:=fun e => hk2 (.inl e)
   have h1:=fun e => hk2 (.inr (.inl e))
   have h2:=fun e => hk2 (.inr (.inr e))
   obtain ⟨d', a1, a2, a3, a4⟩ := Okp.tight N (fun j => if j = k then d k - 1 else d j) (by
    have := smN.lt (fun j => if j = k then d k - 1 else d j) d s.n k hk (fun i _ => by
     show (if i = k then d k - 1 else d i) ≤ d i
     split
     ·rename_i e; subst e; omega
     ·omega) (by
     show (if k = k then d k - 1 else d k) < d k
     rw [if_pos rfl]; omega)
    omega) (h.early k hk h0 h1 h2)
   refine ⟨d',a1,a2,fun j => ?_,fun j hj => ?_⟩
   ·have:=a3 j
    replace this : d' j ≤ (if j = k then d k - 1 else d j):=this
    split at this
    ·rename_i e; subst e; omega
    ·exact this
   ·rw [a4 j hj,if_neg (by omega)]
def keyP (s : Shp) (w d : Nat → Int) : List Int:=mxN (fun j => d j + s.D j) s.n :: ((List.range 7).map d ++ (List.range 7).map w)
theorem keyP.mono {s : Shp} {w d d' : Nat → Int} (h : ∀ j,d' j ≤ d j) : lxE (keyP s w d') (keyP s w d) :=
 leL.lx ⟨mxN.mono _ _ _ fun i hi => by have:=h i; omega,(leL.map _ _ _ fun j hj => h j).app (leL.refl _)⟩
end
section
structure Dr where
 pl : Nat → Bool
 w : Nat → Int
 d : Nat → Int
 last : Int
def rdyD (s : Shp) (x : Dr) (j : Nat) : Int:=if s.aft j = -1 then 0 else x.d (s.aft j).toNat + s.D (s.aft j).toNat
def gS (x : Dr) (j : Nat) : Int:=if x.last = -1 then 0 else if (j : Int) < x.last then x.d x.last.toNat + 1 else x.d x.last.toNat
def freD (s : Shp) (x : Dr) (w : Int) : Int:=mxN (fun j => if x.pl j = true ∧ x.w j = w then x.d j + s.D j else 0) s.n
structure DI (s : Shp) (x : Dr) : Prop where
 can : ∀ j,j < s.n → x.pl j = true → s.can j (x.w j) ∧ 0 ≤ x.d j
 ord : ∀ j,j < s.n → x.pl j = true → s.aft j = -1 ∨ x.pl (s.aft j).toNat = true ∧ rdyD s x j ≤ x.d j
 cl : ∀ j k,j < s.n → k < s.n → j ≠ k → x.pl j = true → x.pl k = true → x.w j = x.w k → x.d j + s.D j ≤ x.d k ∨ x.d k + s.D k ≤ x.d j
 last : (x.last = -1 ∧ ∀ j,j < s.n → x.pl j = false) ∨ ∃ l : Nat,x.last = (l : Int) ∧ l < s.n ∧ x.pl l = true ∧ ∀ j,j < s.n → x.pl j = true → j = l ∨ Bef x.d j l
 un : ∀ j,j < s.n → x.pl j = false → x.w j = 0 ∧ x.d j = max (rdyD s x j) (gS x j)
 out : ∀ j,s.n ≤ j → x.w j = 0 ∧ x.d j = 0
 sum : ∀ j,j < s.n → x.pl j = true → x.d j + s.D j ≤ smN (fun j => if x.pl j = true then s.D j else 0) s.n
structure Adds (s : Shp) (x : Dr) (k : Nat) (w0 day : Int) (y : Dr) : Prop where
 last : y.last = (k : Int)
 pl : ∀ j,y.pl j = if j = k then true else x.pl j
 w : ∀ j,y.w j = if j = k then w0 else x.w j
 d : ∀ j,j < s.n → y.pl j = true → y.d j = if j = k then day else x.d j
 un : ∀ j,j < s.n → y.pl j = false → y.d j = max (rdyD s y j) (gS y j)
 out : ∀ j,s.n ≤ j → y.d j = x.d j
theorem Shp.aftc (s : Shp) {j : Nat} (hj : j < s.n) (h : s.aft j ≠ -1) : s.aft j = ((s.aft j).toNat : Int) ∧ (s.aft j).toNat < j:=by
 rcases s.ha j hj with e | ⟨b,e,hb⟩
 ·exact absurd e h
 ·rw [e]; exact ⟨by simp,by simpa using hb⟩
theorem DI.lastle {s : Shp} {x : Dr} (h : DI s x) {j : Nat} (hj : j < s.n) (hp : x.pl j = true) : ∃ l : Nat,x.last = (l : Int) ∧ l < s.n ∧ x.pl l = true ∧ x.d j ≤ x.d l ∧ (j = l ∨ Bef x.d j l):=by
 rcases h.last with ⟨_,h2⟩ | ⟨l,h1,h2,h3,h4⟩
 ·rw [h2 j hj] at hp; cases hp
 ·refine ⟨l,h1,h2,h3,?_,h4 j hj hp⟩
  rcases h4 j hj hp with rfl | h5
  ·exact Int.le_refl _
  ·rcases h5 with h5 | h5 <;> omega
theorem DI.add {s : Shp} {x y : Dr} {k : Nat} {w0 day : Int} (h : DI s x) (hk : k < s.n) (hpk : x.pl k = false) (hwait : s.aft k = -1 ∨ x.pl (s.aft k).toNat = true) (hcan : s.can k w0) (hday : day = max (rdyD s x k) (freD s x w0)) (hge : x.d k ≤ day) (hy : Adds s x k w0 day y) : DI s y:=by
 have hyk : y.pl k = true:=by rw [hy.pl,if_pos rfl]
 have hdk : y.d k = day:=by rw [hy.d k hk hyk,if_pos rfl]
 have hold : ∀ j,j < s.n → x.pl j = true → y.pl j = true ∧ y.d j = x.d j ∧ y.w j = x.w j ∧ j ≠ k:=by
  intro j hj hp
  have hne : j ≠ k:=fun e => by subst e; rw [hpk] at hp; cases hp
  have hpy : y.pl j = true:=by rw [hy.pl,if_neg hne]; exact hp
  exact ⟨hpy,by rw [hy.d j hj hpy,if_neg hne],by rw [hy.w,if_neg hne],hne⟩
 have hback : ∀ j,j < s.n → y.pl j = true → j = k ∨ x.pl j = true:=by
  intro j hj hp
  rw [hy.pl] at hp
  split at hp
  ·exact .inl (by assumption)
  ·exact .inr hp
 have hfp : 0 ≤ freD s x w0:=mxN.pos _ _
 have hfre : ∀ j,j < s.n → x.pl j = true → x.w j = w0 → x.d j + s.D j ≤ day:=by
  intro j hj hp hw
  have:=mxN.ge (fun j => if x.pl j = true ∧ x.w j = w0 then x.d j + s.D j else 0) s.n j hj
  simp only [hp,hw,and_self,if_true] at this
  have e : freD s x w0 = mxN (fun j => if x.pl j = true ∧ x.w j = w0 then x.d j + s.D j else 0) s.n:=rfl
  omega
 have hrd : ∀ j,j < s.n → (s.aft j = -1 ∨ x.pl (s.aft j).toNat = true) → rdyD s y j = rdyD s x j:=by
  intro j hj hp
  unfold rdyD
  split
  ·rfl
  ·rename_i ha
   obtain ⟨e1,e2⟩:=s.aftc hj ha
   rcases hp with hp | hp
   ·exact absurd hp ha
   ·rw [(hold _ (by omega) hp).2.1]
 have hsum : smN (fun j => if y.pl j = true then s.D j else 0) s.n = smN (fun j => if x.pl j = true then s.D j else 0) s.n + s.D k:=by
  rw [smN.one (fun j => if y.pl j = true then s.D j else 0) (fun j => if x.pl j = true then s.D j else 0) s.n k hk (fun i hi hne => by rw [hy.pl,if_neg hne])]
  simp only [hyk,hpk,if_true,Bool.false_eq_true,if_false]
  omega
 have hsp : 0 ≤ smN (fun j => if x.pl j = true then s.D j else 0) s.n:=smN.pos _ _ fun i hi => by
  show 0 ≤ (if x.pl i = true then s.D i else 0)
  split
  ·have:=s.hD i hi; omega
  ·omega
 have hrle : rdyD s x k ≤ smN (fun j => if x.pl j = true then s.D j else 0) s.n:=by
  unfold rdyD
  split
  ·exact hsp
  ·rename_i ha
   obtain ⟨e1,e2⟩:=s.aftc hk ha
   rcases hwait with hp | hp
   ·exact absurd hp ha
   ·exact h.sum _ (by omega) hp
 have hfle : freD s x w0 ≤ smN (fun j => if x.pl j = true then s.D j else 0) s.n:=by
  refine mxN.le _ hsp _ fun i hi => ?_
  split
  ·rename_i hp; exact h.sum i hi hp.1
  ·exact hsp
 refine ⟨fun j hj hp => ?_,fun j hj hp => ?_,fun j i hj hi hne hp hq hw => ?_,.inr ⟨k,hy.last,hk,hyk,fun j hj hp => ?_⟩,fun j hj hp => ?_,fun j hj => ?_,fun j hj hp => ?_⟩
 ·rcases hback j hj hp with rfl | hx
  ·rw [hdk,hy.w,if_pos rfl]; exact ⟨hcan,by omega⟩
  ·obtain ⟨_,a2,a3,_⟩:=hold j hj hx
   rw [a2,a3]; exact h.can j hj hx
 ·rcases hback j hj hp with rfl | hx
  ·rcases hwait with ha | ha
   ·exact .inl ha
   ·by_cases e : s.aft j = -1
    ·exact .inl e
    ·obtain ⟨e1,e2⟩:=s.aftc hj e
     refine .inr ⟨(hold _ (by omega) ha).1,?_⟩
     rw [hrd j hj (.inr ha),hdk]
     omega
  ·obtain ⟨_,a2,a3,_⟩:=hold j hj hx
   rcases h.ord j hj hx with ha | ⟨ha,hr⟩
   ·exact .inl ha
   ·by_cases e : s.aft j = -1
    ·exact .inl e
    ·obtain ⟨e1,e2⟩:=s.aftc hj e
     refine .inr ⟨(hold _ (by omega) ha).1,?_⟩
     rw [hrd j hj (.inr ha),a2]
     exact hr
 ·rcases hback j hj hp with rfl | hx
  ·rcases hback i hi hq with rfl | hx2
   ·exact absurd rfl hne
   ·obtain ⟨_,a2,a3,_⟩:=hold i hi hx2
    rw [hdk,a2]
    rw [hy.w,if_pos rfl,a3] at hw
    exact .inr (hfre i hi hx2 hw.symm)
  ·obtain ⟨_,a2,a3,_⟩:=hold j hj hx
   rcases hback i hi hq with rfl | hx2
   ·rw [hdk,a2]
    rw [a3,hy.w,if_pos rfl] at hw
    exact .inl (hfre j hj hx hw)
   ·obtain ⟨_,b2,b3,_⟩:=hold i hi hx2
    rw [a2,b2]
    rw [a3,b3] at hw
    exact h.cl j i hj hi hne hx hx2 hw
 ·rcases hback j hj hp with rfl | hx
  ·exact .inl rfl
  ·obtain ⟨_,a2,a3,a4⟩:=hold j hj hx
   refine .inr ?_
   obtain ⟨l,l1,l2,l3,l4,l5⟩:=h.lastle hj hx
   have hu:=(h.un k hk hpk).2
   unfold Bef
   rw [a2,hdk]
   have ht : gS x k ≤ day:=by omega
   unfold gS at ht
   rw [l1,if_neg (by omega),Int.toNat_natCast] at ht
   split at ht
   ·exact .inl (by omega)
   ·rename_i hlt
    have hlk : l ≠ k:=fun e => by subst e; rw [hpk] at l3; cases l3
    by_cases hd : x.d j < day
    ·exact .inl hd
    ·refine .inr ⟨by omega, ?_⟩
     rcases l5 with rfl | l5
     ·omega
     ·rcases l5 with l5 | l5 <;> omega
 ·have hx : x.pl j = false ∧ j ≠ k:=by
   rw [hy.pl] at hp
   split at hp
   ·cases hp
   ·exact ⟨hp,by assumption⟩
  refine ⟨?_,hy.un j hj hp⟩
  rw [hy.w,if_neg hx.2]
  exact (h.un j hj hx.1).1
 ·rw [hy.w, if_neg (by omega), hy.out j hj]
  exact h.out j hj
 ·rw [hsum]
  rcases hback j hj hp with rfl | hx
  ·rw [hdk]; omega
  ·obtain ⟨_,a2,a3,_⟩:=hold j hj hx
   have:=h.sum j hj hx
   have:=s.hD k hk
   rw [a2]; omega
structure Ext (s : Shp) (x : Dr) (w d : Nat → Int) : Prop where
 ok : Okp s w d
 tg : Tgt s w d
 wp : ∀ j,0 ≤ w j
 pl : ∀ j,j < s.n → x.pl j = true → w j = x.w j ∧ d j = x.d j
 un : ∀ j,j < s.n → x.pl j = false → x.last = -1 ∨ x.d x.last.toNat < d j ∨ x.d x.last.toNat = d j ∧ x.last < (j : Int)
 out : ∀ j,s.n ≤ j → d j = 0
theorem Ext.low {s : Shp} {x : Dr} {w d : Nat → Int} (h : DI s x) (he : Ext s x w d) (j : Nat) : x.d j ≤ d j ∧ x.w j ≤ w j:=by
 induction j using Nat.strongRecOn with
 | _ j ih =>
  by_cases hj : j < s.n
  ·cases hp : x.pl j with
   | true => have:=he.pl j hj hp; omega
   | false =>
    obtain ⟨u1,u2⟩:=h.un j hj hp
    have h0:=he.ok.pos j hj
    refine ⟨?_,by rw [u1]; exact he.wp j⟩
    have hr : rdyD s x j ≤ d j:=by
     unfold rdyD
     split
     ·exact h0
     ·rename_i ha
      obtain ⟨e1,e2⟩:=s.aftc hj ha
      have:=he.ok.ord j _ hj e1
      have:=(ih _ e2).1
      omega
    have ht : gS x j ≤ d j:=by
     unfold gS
     have:=he.un j hj hp
     split
     ·exact h0
     ·rename_i hl
      split <;> omega
    omega
  ·have := h.out j (by omega)
   have:=he.out j (by omega)
   have:=he.wp j
   omega
theorem aBR {n : Nat} (p : Nat → Bool) (d : Nat → Int) : ∀ m,(∃ j,j < m ∧ p j = false) → ∃ k,k < m ∧ p k = false ∧ ∀ j,j < m → p j = false → j = k ∨ Bef d k j
 | 0,⟨j,h,_⟩ => absurd h (Nat.not_lt_zero _)
 | m + 1,⟨j,hj,hp⟩ => by
  by_cases hm : ∃ j,j < m ∧ p j = false
  ·obtain ⟨k,k1,k2,k3⟩:=aBR (n:=n) p d m hm
   cases hpm : p m with
   | true => exact ⟨k, by omega, k2, fun i hi hpi => by
     by_cases e : i = m
     ·subst e; rw [hpm] at hpi; cases hpi
     ·exact k3 i (by omega) hpi⟩
   | false =>
    by_cases hlt : d m < d k
    ·refine ⟨m, by omega, hpm, fun i hi hpi => ?_⟩
     by_cases e : i = m
     ·exact .inl e
     ·refine .inr (.inl ?_)
      rcases k3 i (by omega) hpi with rfl | h5
      ·exact hlt
      ·rcases h5 with h5 | h5 <;> omega
    ·refine ⟨k, by omega, k2, fun i hi hpi => ?_⟩
     by_cases e : i = m
     ·subst e
      refine .inr ?_
      unfold Bef
      omega
     ·exact k3 i (by omega) hpi
  ·refine ⟨j,hj,hp,fun i hi hpi => ?_⟩
   have : ∀ i,i < m + 1 → p i = false → i = m:=fun i hi hpi => by
    by_cases e : i = m
    ·exact e
    ·exact absurd ⟨i,by omega,hpi⟩ hm
   rw [this i hi hpi,this j hj hp]
   exact .inl rfl
theorem Ext.next {s : Shp} {x : Dr} {w d : Nat → Int} (h : DI s x) (he : Ext s x w d) (hun : ∃ j,j < s.n ∧ x.pl j = false) : ∃ k,k < s.n ∧ x.pl k = false ∧ (s.aft k = -1 ∨ x.pl (s.aft k).toNat = true) ∧ s.can k (w k) ∧ max (rdyD s x k) (freD s x (w k)) = d k ∧ x.d k ≤ d k ∧ ∀ y,Adds s x k (w k) (d k) y → Ext s y w d:=by
 obtain ⟨k,hk,hpk,hmin⟩:=aBR (n:=s.n) x.pl d s.n hun
 have hDk:=s.hD k hk
 have h0:=he.ok.pos k hk
 have haft : s.aft k = -1 ∨ x.pl (s.aft k).toNat = true:=by
  by_cases ha : s.aft k = -1
  ·exact .inl ha
  ·obtain ⟨e1,e2⟩:=s.aftc hk ha
   have ho:=he.ok.ord k _ hk e1
   have hDb:=s.hD (s.aft k).toNat (by omega)
   refine .inr ?_
   cases hb : x.pl (s.aft k).toNat with
   | true => rfl
   | false =>
    rcases hmin _ (by omega) hb with e | e
    ·omega
    ·rcases e with e | e <;> omega
 have hplk : ∀ j,j < s.n → x.pl j = true → d j ≤ d k:=by
  intro j hj hp
  obtain ⟨l,l1,l2,l3,l4,l5⟩:=h.lastle hj hp
  have hj2:=(he.pl j hj hp).2
  rcases he.un k hk hpk with e | e
  ·omega
  ·rw [l1,Int.toNat_natCast] at e
   omega
 have hfre : freD s x (w k) ≤ d k:=by
  refine mxN.le _ h0 _ fun j hj => ?_
  split
  ·rename_i hp
   obtain ⟨e1,e2⟩:=he.pl j hj hp.1
   have hne : j ≠ k:=fun e => by subst e; rw [hpk] at hp; cases hp.1
   have:=hplk j hj hp.1
   rcases he.ok.cl j k hj hk hne (by rw [e1]; exact hp.2) with c | c <;> omega
  ·exact h0
 have hrd : rdyD s x k ≤ d k:=by
  unfold rdyD
  split
  ·exact h0
  ·rename_i ha
   obtain ⟨e1,e2⟩:=s.aftc hk ha
   have ho:=he.ok.ord k _ hk e1
   have:=(Ext.low h he (s.aft k).toNat).1
   omega
 have hfp : 0 ≤ freD s x (w k):=mxN.pos _ _
 refine ⟨k,hk,hpk,haft,he.ok.can k hk,?_,(Ext.low h he k).1,fun y hy => ?_⟩
 ·rcases he.tg k hk with e | ⟨b,e1,e2⟩ | ⟨j,hj,j1,j2,j3⟩
  ·omega
  ·have : rdyD s x k = d k:=by
    unfold rdyD
    rw [if_neg (by omega),e1,Int.toNat_natCast]
    rcases haft with ha | ha
    ·omega
    ·rw [e1,Int.toNat_natCast] at ha
     have hb : b < k:=by
      obtain ⟨q1,q2⟩:=s.aftc hk (by omega)
      rw [e1,Int.toNat_natCast] at q2
      exact q2
     rw [← (he.pl b (by omega) ha).2]
     omega
   omega
  ·have hp : x.pl j = true:=by
    cases hp : x.pl j with
    | true => rfl
    | false =>
     rcases hmin j hj hp with e | e
     ·subst e; rcases j2 with j2 | j2 <;> omega
     ·unfold Bef at e j2; omega
   have:=mxN.ge (fun j => if x.pl j = true ∧ x.w j = w k then x.d j + s.D j else 0) s.n j hj
   obtain ⟨e1,e2⟩:=he.pl j hj hp
   simp only [hp,show x.w j = w k by omega,and_self,if_true] at this
   have e : freD s x (w k) = mxN (fun j => if x.pl j = true ∧ x.w j = w k then x.d j + s.D j else 0) s.n:=rfl
   omega
 ·have hyk : y.pl k = true := by rw [hy.pl, if_pos rfl]
  refine ⟨he.ok,he.tg,he.wp,fun j hj hp => ?_,fun j hj hp => ?_,he.out⟩
  ·rw [hy.w,hy.d j hj hp]
   rw [hy.pl] at hp
   by_cases e : j = k
   ·subst e; simp
   ·rw [if_neg e] at hp
    rw [if_neg e,if_neg e]
    exact he.pl j hj hp
  ·rw [hy.pl] at hp
   by_cases e : j = k
   ·subst e; simp at hp
   ·rw [if_neg e] at hp
    refine .inr ?_
    rw [hy.last,Int.toNat_natCast,hy.d k hk hyk,if_pos rfl]
    rcases hmin j hj hp with c | c
    ·exact absurd c e
    ·rcases c with c | c <;> omega
def keyD (s : Shp) (x : Dr) : List Int:=keyP s x.w x.d
theorem Ext.key {s : Shp} {x : Dr} {w d : Nat → Int} (h : DI s x) (he : Ext s x w d) : lxE (keyD s x) (keyP s w d) :=
 leL.lx ⟨mxN.mono _ _ _ fun i hi => by have:=(Ext.low h he i).1; omega,(leL.map _ _ _ fun j hj => (Ext.low h he j).1).app (leL.map _ _ _ fun j hj => (Ext.low h he j).2)⟩
theorem DI.full {s : Shp} {x : Dr} (h : DI s x) (hp : ∀ j,j < s.n → x.pl j = true) : Okp s x.w x.d:=by
 refine ⟨fun j hj => (h.can j hj (hp j hj)).1,fun j hj => (h.can j hj (hp j hj)).2,fun j b hj hb => ?_,fun j k hj hk hne hw => h.cl j k hj hk hne (hp j hj) (hp k hk) hw⟩
 rcases h.ord j hj (hp j hj) with e | ⟨_,e⟩
 ·omega
 ·unfold rdyD at e
  rw [if_neg (by omega),hb,Int.toNat_natCast] at e
  exact e
end
section
open Go.RowKit
def dyL (l : List aG) (j : Nat) : Int:=(l[j]?.map (·.Day)).getD 0
def wkL (l : List aG) (j : Nat) : Int:=(l[j]?.map (·.Worker)).getD 0
def dsL (J : List bR) (j : Nat) : Int:=(J[j]?.map (·.Days)).getD 0
def flL (J : List bR) (j : Nat) : Int:=(J[j]?.map (·.Float)).getD 0
def skL (J : List bR) (j : Nat) : Int:=(J[j]?.map (·.Skill)).getD 0
structure GJ (J : List bR) : Prop where
 len : J.length ≤ 7
 all : ∀ x,x ∈ J → 0 ≤ x.Float ∧ x.Float ≤ 6 ∧ 1 ≤ x.Skill ∧ x.Skill ≤ 3 ∧ 1 ≤ x.Days ∧ x.Days ≤ 30
theorem lB {l : List aG} {j : Nat} {x : aG} (h : l[j]? = some x) : dyL l j = x.Day:=by simp [dyL,h]
theorem qK {l : List aG} {j : Nat} {x : aG} (h : l[j]? = some x) : wkL l j = x.Worker:=by simp [wkL,h]
theorem aCY {J : List bR} {j : Nat} {x : bR} (h : J[j]? = some x) : dsL J j = x.Days:=by simp [dsL,h]
theorem GJ.ds {J : List bR} (h : GJ J) {j : Nat} (hj : j < J.length) : 1 ≤ dsL J j ∧ dsL J j ≤ 30:=by
 rw [aCY (List.getElem?_eq_getElem hj)]
 have:=h.all _ (List.getElem_mem hj)
 omega
theorem ifmax (a b : Int) : (if b > a then b else a) = max a b:=by
 split <;> omega
theorem yJ (N : Nat) {J : List bR} (hJ : GJ J) {l : List aG} {j : Nat} (hj : j < J.length) (hl : J.length ≤ l.length) (hb : -1000000 ≤ dyL l j ∧ dyL l j ≤ 1000000) : eF N J l (j : Int) = some (dyL l j + dsL J j):=by
 have h1 : l[j]? = some l[j]:=List.getElem?_eq_getElem (by omega)
 have h2 : J[j]? = some J[j]:=List.getElem?_eq_getElem hj
 have hd:=hJ.ds hj
 rw [lB h1] at hb ⊢
 rw [aCY h2] at hd ⊢
 unfold eF
 rw [bV,h1,Option.bind_some,bV,h2,Option.bind_some,w64 (by omega) (by omega)]
theorem aDJ (N : Nat) (hN : 100 < N) {J : List bR} (hJ : GJ J) {l : List aG} (hl : J.length ≤ l.length) (hb : ∀ j,j < J.length → -1000000 ≤ dyL l j ∧ dyL l j ≤ 1000000) : gN N J l = some (mxN (fun j => dyL l j + dsL J j) J.length):=by
 unfold gN
 simp only [eM]
 have hn:=hJ.len
 refine st2z' J.length (fun i => mxN (fun j => dyL l j + dsL J j) i) rfl (by omega) (fun rec => ?_) (fun rec i hi => ?_)
 ·rw [ltE,cond_false]
 ·rw [ltD hi, cond_true, yJ N hJ hi hl (hb i hi), Option.bind_some, nadd1 i (by omega), ifmax]
  rfl
def aftF (f : Int) (J : List bR) : Nat → Int
 | 0 => -1
 | k + 1 => if flL J k = f then (k : Int) else aftF f J k
def aftJ (J : List bR) (j : Nat) : Int:=aftF (flL J j) J j
theorem kQ (f : Int) (J : List bR) : ∀ k,aftF f J k = -1 ∨ ∃ b : Nat,aftF f J k = (b : Int) ∧ b < k
 | 0 => .inl rfl
 | k + 1 => by
  unfold aftF
  split
  ·exact .inr ⟨k,rfl,by omega⟩
  ·rcases kQ f J k with h | ⟨b,h,hb⟩
   ·exact .inl h
   ·exact .inr ⟨b,h,by omega⟩
theorem wN (N : Nat) (hN : 100 < N) {J : List bR} (hJ : J.length ≤ 7) {j : Nat} (hj : j < J.length) : fC N J (j : Int) = some (aftJ J j):=by
 unfold fC
 simp only [eM]
 have h2 : J[j]? = some J[j]:=List.getElem?_eq_getElem hj
 have hf : flL J j = J[j].Float:=by simp [flL,h2]
 rw [show getI J (j : Int) = some J[j] from by rw [bV,h2]]
 have key : ∀ (k M : Nat),k ≤ j → k < M → loop1 (fun rec_7 (before_6 : Int) => (bif (decide (before_6 ≥ 0)) then ((getI J before_6).bind fun x_11 => ((some J[j]).bind fun x_12 => (bif (x_11.Float == x_12.Float) then some before_6 else (rec_7 (IntKind.i64.wrap (before_6 - 1)))))) else some (-1))) M ((k : Int) - 1) = some (aftF (flL J j) J k):=by
  intro k
  induction k with
  | zero =>
   intro M _ hM
   cases M with
   | zero => omega
   | succ M => rfl
  | succ k ih =>
   intro M hk hM
   cases M with
   | zero => omega
   | succ M =>
    show cond (decide (((k + 1 : Nat) : Int) - 1 ≥ 0)) _ _ = _
    have e : ((k + 1 : Nat) : Int) - 1 = (k : Int):=by omega
    have h1 : J[k]? = some J[k]:=List.getElem?_eq_getElem (by omega)
    have hfk : flL J k = J[k].Float:=by simp [flL,h1]
    simp only [e]
    rw [decide_eq_true (by omega),cond_true,bV,h1,Option.bind_some,Option.bind_some]
    unfold aftF
    rw [hfk,hf]
    by_cases hc : J[k].Float = J[j].Float
    ·rw [if_pos hc,beq_iff_eq.2 hc,cond_true]
    ·rw [if_neg hc, beq_eq_false_iff_ne.2 hc, cond_false, w64 (by omega) (by omega), ← hf]
     exact ih M (by omega) (by omega)
 rw [w64 (by omega) (by omega)]
 exact key j N (Nat.le_refl _) (by omega)
def canW (x : bI) (sk : Int) : Bool:=if sk = 1 then x.Weld else if sk = 2 then x.Carve else x.Paint
def bitS (sk : Int) : Int:=if sk = 1 then 1 else if sk = 2 then 2 else 4
theorem aBT (N : Nat) (hN : 100 < N) (x : bI) {sk : Int} (h1 : 1 ≤ sk) (h3 : sk ≤ 3) : iU N x (bitS sk) = some (canW x sk):=by
 obtain ⟨M,rfl⟩ : ∃ M,N = M + 10:=⟨N - 10,by omega⟩
 have hs : sk = 1 ∨ sk = 2 ∨ sk = 3:=by omega
 obtain ⟨w,c,p⟩:=x
 rcases hs with rfl | rfl | rfl <;> cases w <;> cases c <;> cases p <;> rfl
theorem aDh {sk : Int} (h1 : 1 ≤ sk) (h3 : sk ≤ 3) : idxI sk 4 = some () ∧ (([0,1,2,4] : List Int)[Int.toNat sk]?) = some (bitS sk):=by
 have hs : sk = 1 ∨ sk = 2 ∨ sk = 3:=by omega
 rcases hs with rfl | rfl | rfl <;> exact ⟨rfl,rfl⟩
def sU (W : List bI) (sk : Int) (i : Nat) : List Int:=((List.range i).filter fun k => (W[k]?.map fun x => canW x sk).getD false).map fun (k : Nat) => (k : Int)
def fY (W : List bI) (sk : Int) : List Int:=sU W sk W.length
theorem aDk (W : List bI) (sk : Int) (i : Nat) (x : bI) (h : W[i]? = some x) : sU W sk (i + 1) = if canW x sk then sU W sk i ++ [(i : Int)] else sU W sk i:=by
 unfold sU
 rw [List.range_succ,List.filter_append,List.map_append]
 cases hc : canW x sk <;> simp [h,hc]
theorem aAy (W : List bI) (sk : Int) (i : Nat) : (sU W sk i).length ≤ i:=by
 unfold sU
 rw [List.length_map]
 exact Nat.le_trans (List.length_filter_le _ _) (by simp)
theorem sO (N : Nat) (hN : 100 < N) (s : aV) (hW : s.Workers.length ≤ 4) {sk : Int} (h1 : 1 ≤ sk) (h3 : sk ≤ 3) : dJ N s (bitS sk) = some (fY s.Workers sk):=by
 unfold dJ
 simp only [eM]
 refine st2z' s.Workers.length (fun i => sU s.Workers sk i) rfl (by omega) (fun rec => ?_) (fun rec i hi => ?_)
 ·rw [ltE,cond_false]; rfl
 ·have hx : s.Workers[i]? = some s.Workers[i]:=List.getElem?_eq_getElem hi
  rw [ltD hi,cond_true,bV,hx,Option.bind_some,aBT N hN _ h1 h3,Option.bind_some,nadd1 i (by omega),aDk _ _ _ _ hx]
  have:=aAy s.Workers sk i
  cases hc : canW s.Workers[i] sk with
  | true => rw [cond_true,lM (by simp; omega),Option.bind_some]; rfl
  | false => rw [cond_false]; rfl
theorem oP {W : List bI} {sk : Int} {w : Int} : w ∈ fY W sk ↔ ∃ (k : Nat) (x : bI),w = (k : Int) ∧ W[k]? = some x ∧ canW x sk = true:=by
 unfold fY sU
 simp only [List.mem_map,List.mem_filter,List.mem_range]
 constructor
 ·rintro ⟨k,⟨hk,hc⟩,rfl⟩
  have hx : W[k]? = some W[k]:=List.getElem?_eq_getElem hk
  rw [hx] at hc
  exact ⟨k,W[k],rfl,hx,hc⟩
 ·rintro ⟨k,x,rfl,hx,hc⟩
  exact ⟨k,⟨(List.getElem?_eq_some_iff.1 hx).1,by rw [hx]; exact hc⟩,rfl⟩
def bP (s : aV) (hJ : GJ s.Jobs) : Shp:=⟨s.Jobs.length,dsL s.Jobs,aftJ s.Jobs,fun j w => w ∈ fY s.Workers (skL s.Jobs j),fun j hj => (hJ.ds hj).1,fun j hj => kQ _ _ j⟩
structure Plr (s : aV) (p : aT) : Prop where
 jobs : p.jobs_ = s.Jobs
 able : ∀ j,j < s.Jobs.length → p.able_[j]? = some (fY s.Workers (skL s.Jobs j))
 after : ∀ j,j < s.Jobs.length → p.after_[j]? = some (aftJ s.Jobs j)
theorem aBJ (N : Nat) (hN : 100 < N) (s : aV) (hJ : GJ s.Jobs) (hW : s.Workers.length ≤ 4) : ∃ p,gD N s = some p ∧ Plr s p:=by
 refine ⟨⟨s.Jobs,(List.range s.Jobs.length).map fun j => fY s.Workers (skL s.Jobs j),(List.range s.Jobs.length).map fun j => aftJ s.Jobs j⟩,?_,rfl,fun j hj => by simp [hj],fun j hj => by simp [hj]⟩
 unfold gD
 simp only [eM]
 have hn:=hJ.len
 refine st3z s.Jobs.length (fun i => (List.range i).map fun j => fY s.Workers (skL s.Jobs j)) (fun i => (List.range i).map fun j => aftJ s.Jobs j) rfl rfl (by omega) (fun rec => ?_) (fun rec i hi => ?_)
 ·rw [ltE,cond_false]
 ·have hx : s.Jobs[i]? = some s.Jobs[i]:=List.getElem?_eq_getElem hi
  have hs : skL s.Jobs i = s.Jobs[i].Skill:=by simp [skL,hx]
  have ha:=hJ.all _ (List.getElem_mem hi)
  obtain ⟨b1,b2⟩:=aDh (sk:=s.Jobs[i].Skill) (by omega) (by omega)
  rw [ltD hi,cond_true,bV,hx,Option.bind_some,b1,Option.bind_some,b2,Option.bind_some,sO N hN s hW (by omega) (by omega),Option.bind_some,lM (by simp; omega),Option.bind_some,wN N hN hn hi,Option.bind_some,lM (by simp; omega),Option.bind_some,nadd1 i (by omega)]
  simp only [List.range_succ,List.map_append,List.map_cons,List.map_nil,hs]
end
section
open Go.RowKit
def mkDr (pl : List Bool) (l : List aG) (last : Int) : Dr:=⟨fun j => (pl[j]?).getD false,wkL l,dyL l,last⟩
def toD (d : aF) : Dr:=mkDr d.planned_.l d.shifts_.l d.last_
structure Bd (s : aV) (l : List aG) (last : Int) : Prop where
 len : l.length = 7
 day : ∀ j,0 ≤ dyL l j ∧ dyL l j ≤ 100000
 last : last = -1 ∨ ∃ k : Nat,last = (k : Int) ∧ k < s.Jobs.length
theorem aDz (N : Nat) {s : aV} (hJ : GJ s.Jobs) {p : aT} (hp : Plr s p) {d : aF} (hb : Bd s d.shifts_.l d.last_) {j : Nat} (hj : j < s.Jobs.length) : dM N p d (j : Int) = some (rdyD (bP s hJ) (toD d) j):=by
 unfold dM
 rw [bV,hp.after j hj,Option.bind_some]
 unfold rdyD
 show cond (aftJ s.Jobs j != -1) _ _ = some (if aftJ s.Jobs j = -1 then 0 else dyL d.shifts_.l (aftJ s.Jobs j).toNat + dsL s.Jobs (aftJ s.Jobs j).toNat)
 by_cases ha : aftJ s.Jobs j = -1
 ·rw [if_pos ha,ha]; rfl
 ·rw [if_neg ha,bne_iff_ne.2 ha,cond_true]
  rcases kQ (flL s.Jobs j) s.Jobs j with e | ⟨b,e,hbl⟩
  ·exact absurd e ha
  ·have e : aftJ s.Jobs j = (b : Int):=e
   have:=hb.day b
   have h:=yJ N hJ (l:=d.shifts_.l) (j:=b) (by omega) (by rw [hb.len]; exact hJ.len) (by omega)
   rw [e,Int.toNat_natCast,hp.jobs]
   exact (congrArg (fun x => x.bind fun r => some r) h)
theorem aHa (N : Nat) (hN : 100 < N) {s : aV} (hJ : GJ s.Jobs) {p : aT} (hp : Plr s p) {d : aF} (hb : Bd s d.shifts_.l d.last_) (w : Int) : eR N p d w = some (freD (bP s hJ) (toD d) w):=by
 unfold eR
 simp only [eM]
 rw [hp.jobs]
 have hn:=hJ.len
 refine st2z' s.Jobs.length (fun i => mxN (fun j => if (toD d).pl j = true ∧ (toD d).w j = w then (toD d).d j + (bP s hJ).D j else 0) i) rfl (by omega) (fun rec => ?_) (fun rec i hi => ?_)
 ·rw [ltE,cond_false]; rfl
 ·have h7 : d.planned_.l[i]? = some (d.planned_.l[i]'(by show i < 7; omega)) := List.getElem?_eq_getElem _
  generalize d.planned_.l[i]'(by show i < 7; omega) = b at h7
  have h8 : d.shifts_.l[i]? = some (d.shifts_.l[i]'(by show i < 7; omega)):=List.getElem?_eq_getElem _
  generalize d.shifts_.l[i]'(by show i < 7; omega) = x at h8
  have hpl : (toD d).pl i = b:=by show (d.planned_.l[i]?).getD false = b; rw [h7]; rfl
  have hw : (toD d).w i = x.Worker:=qK h8
  have hd:=hb.day i
  have he : eF N s.Jobs [d.shifts_.a0,d.shifts_.a1,d.shifts_.a2,d.shifts_.a3,d.shifts_.a4,d.shifts_.a5,d.shifts_.a6] (i : Int) = some ((toD d).d i + (bP s hJ).D i):=yJ N hJ (l:=d.shifts_.l) (j:=i) hi (by rw [hb.len]; exact hJ.len) (by omega)
  have hi7 : idxI (i : Int) 7 = some ():=if_pos (by omega)
  rw [ltD hi,cond_true,hi7,Option.bind_some,Int.toNat_natCast,h7,Option.bind_some,nadd1 i (by omega)]
  simp only [mxN,hpl,hw]
  have hp0:=mxN.pos (fun j => if (toD d).pl j = true ∧ (toD d).w j = w then (toD d).d j + (bP s hJ).D j else 0) i
  cases b with
  | false =>
   rw [cond_false,cond_false]
   simp only [Bool.false_eq_true,false_and,if_false]
   congr 1
   omega
  | true =>
   rw [cond_true,h8,Option.bind_some,Option.bind_some]
   by_cases hx : x.Worker = w
   ·rw [beq_iff_eq.2 hx,cond_true]
    rw [he,Option.bind_some,ifmax]
    simp only [hx,and_self,if_true]
   ·rw [beq_eq_false_iff_ne.2 hx,cond_false]
    simp only [hx,and_false,if_false]
    congr 1
    omega
theorem aFz (N : Nat) {s : aV} (hJ : GJ s.Jobs) {p : aT} (hp : Plr s p) {d : aF} {j : Nat} (hj : j < s.Jobs.length) : eI N p d (j : Int) = some (decide (¬ (aftJ s.Jobs j = -1 ∨ (toD d).pl (aftJ s.Jobs j).toNat = true))):=by
 unfold eI
 rw [bV,hp.after j hj,Option.bind_some]
 have hn:=hJ.len
 by_cases ha : aftJ s.Jobs j = -1
 ·rw [ha]; rfl
 ·rw [bne_iff_ne.2 ha,cond_true]
  rcases kQ (flL s.Jobs j) s.Jobs j with e | ⟨b,e,hbl⟩
  ·exact absurd e ha
  ·have e : aftJ s.Jobs j = (b : Int):=e
   have h7 : d.planned_.l[b]? = some (d.planned_.l[b]'(by show b < 7; omega)):=List.getElem?_eq_getElem _
   generalize d.planned_.l[b]'(by show b < 7; omega) = v at h7
   have hpl : (toD d).pl b = v:=by show (d.planned_.l[b]?).getD false = v; rw [h7]; rfl
   have hi7 : idxI (b : Int) 7 = some ():=if_pos (by omega)
   rw [e,hi7,Option.bind_some,Int.toNat_natCast,h7,Option.bind_some,hpl]
   congr 1
   have hb1 : ¬ ((b : Int) = -1):=by omega
   cases v <;> simp [hb1]
theorem aGI (N : Nat) {s : aV} (hJ : GJ s.Jobs) {d : aF} (hb : Bd s d.shifts_.l d.last_) (j : Nat) : fP N d (j : Int) = some (gS (toD d) j):=by
 have hn:=hJ.len
 unfold fP gS
 show _ = some (if d.last_ = -1 then 0 else if (j : Int) < d.last_ then dyL d.shifts_.l d.last_.toNat + 1 else dyL d.shifts_.l d.last_.toNat)
 rcases hb.last with e | ⟨k,e,hk⟩
 ·rw [e]; rfl
 ·have h8 : d.shifts_.l[k]? = some (d.shifts_.l[k]'(by show k < 7; omega)) := List.getElem?_eq_getElem _
  generalize d.shifts_.l[k]'(by show k < 7; omega) = x at h8
  have hi7 : idxI (k : Int) 7 = some ():=if_pos (by omega)
  have hd:=hb.day k
  rw [lB h8] at hd
  rw [e,Int.toNat_natCast,lB h8,if_neg (by omega),beq_eq_false_iff_ne.2 (by omega),cond_false,hi7,Option.bind_some,Option.bind_some,h8,Option.bind_some,Option.bind_some]
  by_cases hlt : (j : Int) < (k : Int)
  ·rw [if_pos hlt,decide_eq_true hlt,cond_true,w64 (by omega) (by omega)]
  ·rw [if_neg hlt,decide_eq_false hlt,cond_false]
theorem aAV (l : List aG) (i : Nat) (x : aG) (hi : i < l.length) (j : Nat) : dyL (l.set i x) j = if j = i then x.Day else dyL l j:=by
 unfold dyL
 rw [List.getElem?_set]
 by_cases e : i = j
 ·subst e; simp [hi]
 ·rw [if_neg e,if_neg (fun h => e h.symm)]
theorem aDs (l : List aG) (i : Nat) (x : aG) (hi : i < l.length) (j : Nat) : wkL (l.set i x) j = if j = i then x.Worker else wkL l j:=by
 unfold wkL
 rw [List.getElem?_set]
 by_cases e : i = j
 ·subst e; simp [hi]
 ·rw [if_neg e,if_neg (fun h => e h.symm)]
theorem aFG {s : aV} (hJ : GJ s.Jobs) (pl : List Bool) (last : Int) (l : List aG) (i : Nat) (x : aG) (hi : i < l.length) (j : Nat) (hj : j ≤ i) : rdyD (bP s hJ) (mkDr pl (l.set i x) last) j = rdyD (bP s hJ) (mkDr pl l last) j:=by
 unfold rdyD
 show (if aftJ s.Jobs j = -1 then 0 else dyL (l.set i x) (aftJ s.Jobs j).toNat + _) = (if aftJ s.Jobs j = -1 then 0 else dyL l (aftJ s.Jobs j).toNat + _)
 split
 ·rfl
 ·rename_i ha
  rcases kQ (flL s.Jobs j) s.Jobs j with e | ⟨b,e,hbl⟩
  ·exact absurd e ha
  ·have e : aftJ s.Jobs j = (b : Int):=e
   rw [e,Int.toNat_natCast,aAV _ _ _ hi,if_neg (by omega)]
theorem aEb (pl : List Bool) (last : Int) (l l0 : List aG) (h : ∀ k : Nat,last = (k : Int) → dyL l k = dyL l0 k) (hlast : last = -1 ∨ ∃ k : Nat,last = (k : Int)) (j : Nat) : gS (mkDr pl l last) j = gS (mkDr pl l0 last) j:=by
 unfold gS
 show (if last = -1 then 0 else if (j : Int) < last then dyL l last.toNat + 1 else dyL l last.toNat) = (if last = -1 then 0 else if (j : Int) < last then dyL l0 last.toNat + 1 else dyL l0 last.toNat)
 rcases hlast with e | ⟨k,e⟩
 ·rw [if_pos e,if_pos e]
 ·have:=h k e
  rw [e,Int.toNat_natCast,this]
def putL (S : Shp) (pl : List Bool) (last : Int) (l0 : List aG) : Nat → List aG
 | 0 => l0
 | i + 1 => let l:=putL S pl last l0 i; if (pl[i]?).getD false = true then l else l.set i ⟨wkL l i,max (rdyD S (mkDr pl l last) i) (gS (mkDr pl l last) i)⟩
structure aHp (s : aV) (S : Shp) (pl : List Bool) (last : Int) (l0 l : List aG) (i : Nat) : Prop where
 len : l.length = 7
 w : ∀ j,wkL l j = wkL l0 j
 old : ∀ j,i ≤ j ∨ (pl[j]?).getD false = true → dyL l j = dyL l0 j
 new : ∀ j,j < i → (pl[j]?).getD false = false → dyL l j = max (rdyD S (mkDr pl l last) j) (gS (mkDr pl l0 last) j)
 bd : ∀ j,j < i → 0 ≤ dyL l j ∧ dyL l j ≤ 1000 + 100 * (j : Int)
theorem aDA {s : aV} (hJ : GJ s.Jobs) (pl : List Bool) (last : Int) (l0 : List aG) (hlen : l0.length = 7) (hpl : ∀ j,j < s.Jobs.length → (pl[j]?).getD false = true → 0 ≤ dyL l0 j ∧ dyL l0 j ≤ 500) (hlast : last = -1 ∨ ∃ k : Nat,last = (k : Int) ∧ k < s.Jobs.length ∧ (pl[k]?).getD false = true) :
  ∀ i,i ≤ s.Jobs.length → aHp s (bP s hJ) pl last l0 (putL (bP s hJ) pl last l0 i) i
 | 0,_ => ⟨hlen,fun _ => rfl,fun _ _ => rfl,fun j h => absurd h (Nat.not_lt_zero _),fun j h => absurd h (Nat.not_lt_zero _)⟩
 | i + 1,hi => by
  have ih:=aDA hJ pl last l0 hlen hpl hlast i (by omega)
  have hn:=hJ.len
  unfold putL
  generalize putL (bP s hJ) pl last l0 i = l at ih
  dsimp only
  have hturn : ∀ l',(∀ j,(pl[j]?).getD false = true → dyL l' j = dyL l0 j) → ∀ j,gS (mkDr pl l' last) j = gS (mkDr pl l0 last) j:=by
   intro l' hl' j
   unfold gS
   show (if last = -1 then 0 else if (j : Int) < last then dyL l' last.toNat + 1 else dyL l' last.toNat) = (if last = -1 then 0 else if (j : Int) < last then dyL l0 last.toNat + 1 else dyL l0 last.toNat)
   rcases hlast with e | ⟨k,e,hk,hk2⟩
   ·rw [if_pos e,if_pos e]
   ·rw [e,Int.toNat_natCast,hl' k hk2]
  cases hp : (pl[i]?).getD false with
  | true =>
   rw [if_pos rfl]
   refine ⟨ih.len,ih.w,fun j hj => ih.old j ?_,fun j hj hpj => ?_,fun j hj => ?_⟩
   ·rcases hj with hj | hj
    ·exact .inl (by omega)
    ·exact .inr hj
   ·have : j ≠ i := fun e => by subst e; rw [hp] at hpj; cases hpj
    exact ih.new j (by omega) hpj
   ·by_cases e : j = i
    ·subst e
     rw [ih.old j (.inr hp)]
     have:=hpl j (by omega) hp
     omega
    ·exact ih.bd j (by omega)
  | false =>
   rw [if_neg (by simp)]
   have hset:=aAV l i ⟨wkL l i,max (rdyD (bP s hJ) (mkDr pl l last) i) (gS (mkDr pl l last) i)⟩ (by rw [ih.len]; omega)
   have hold : ∀ j,(pl[j]?).getD false = true → dyL (l.set i ⟨wkL l i,max (rdyD (bP s hJ) (mkDr pl l last) i) (gS (mkDr pl l last) i)⟩) j = dyL l0 j:=by
    intro j hj
    rw [hset,if_neg (fun e => by subst e; rw [hp] at hj; cases hj)]
    exact ih.old j (.inr hj)
   have hrd:=aFG hJ pl last l i ⟨wkL l i,max (rdyD (bP s hJ) (mkDr pl l last) i) (gS (mkDr pl l last) i)⟩ (by rw [ih.len]; omega)
   refine ⟨by rw [List.length_set]; exact ih.len,fun j => ?_,fun j hj => ?_,fun j hj hpj => ?_,fun j hj => ?_⟩
   ·rw [aDs _ _ _ (by rw [ih.len]; omega)]
    split
    ·rename_i e; subst e; exact ih.w j
    ·exact ih.w j
   ·rcases hj with hj | hj
    ·rw [hset,if_neg (by omega)]; exact ih.old j (.inl (by omega))
    ·exact hold j hj
   ·rw [hrd j (by omega), hset]
    split
    ·rename_i e
     subst e
     show max _ _ = _
     rw [hturn l (fun j hj => ih.old j (.inr hj))]
    ·exact ih.new j (by omega) hpj
   ·rw [hset]
    split
    ·rename_i e
     subst e
     show 0 ≤ max _ _ ∧ max _ _ ≤ _
     rw [hturn l (fun j hj => ih.old j (.inr hj))]
     have h1 : 0 ≤ gS (mkDr pl l0 last) j ∧ gS (mkDr pl l0 last) j ≤ 501:=by
      unfold gS
      show 0 ≤ (if last = -1 then 0 else if (j : Int) < last then dyL l0 last.toNat + 1 else dyL l0 last.toNat) ∧ (if last = -1 then 0 else if (j : Int) < last then dyL l0 last.toNat + 1 else dyL l0 last.toNat) ≤ 501
      rcases hlast with e | ⟨k,e,hk,hk2⟩
      ·rw [if_pos e]; omega
      ·have:=hpl k hk hk2
       rw [e,Int.toNat_natCast]
       split
       ·omega
       ·split <;> omega
     have h2 : rdyD (bP s hJ) (mkDr pl l last) j ≤ 1000 + 100 * (j : Int):=by
      unfold rdyD
      show (if aftJ s.Jobs j = -1 then 0 else dyL l (aftJ s.Jobs j).toNat + dsL s.Jobs (aftJ s.Jobs j).toNat) ≤ _
      split
      ·omega
      ·rename_i ha
       rcases kQ (flL s.Jobs j) s.Jobs j with e | ⟨b,e,hbl⟩
       ·exact absurd e ha
       ·have e : aftJ s.Jobs j = (b : Int):=e
        rw [e,Int.toNat_natCast]
        have:=ih.bd b hbl
        have:=(hJ.ds (j:=b) (by omega)).2
        omega
     omega
    ·exact ih.bd j (by omega)
theorem T7_l (l : List aG) (h : l.length = 7) : (bF.ofl l).l = l:=bF.l_ofl l h
theorem aGs (N : Nat) (hN : 100 < N) {s : aV} (hJ : GJ s.Jobs) {p : aT} (hp : Plr s p) (d : aF) (hout : ∀ j,s.Jobs.length ≤ j → dyL d.shifts_.l j = 0) (hbd : ∀ j,0 ≤ dyL d.shifts_.l j ∧ dyL d.shifts_.l j ≤ 10000) (hpl : ∀ j,j < s.Jobs.length → (toD d).pl j = true → 0 ≤ dyL d.shifts_.l j ∧ dyL d.shifts_.l j ≤ 500) (hlast : d.last_ = -1 ∨ ∃ k : Nat,d.last_ = (k : Int) ∧ k < s.Jobs.length ∧ (toD d).pl k = true) :
  ∃ y,cY N p d = some y ∧ y.planned_ = d.planned_ ∧ y.many_ = d.many_ ∧ y.last_ = d.last_ ∧ (∀ j,wkL y.shifts_.l j = wkL d.shifts_.l j) ∧ (∀ j,s.Jobs.length ≤ j ∨ (toD d).pl j = true → dyL y.shifts_.l j = dyL d.shifts_.l j) ∧ (∀ j,j < s.Jobs.length → (toD d).pl j = false → dyL y.shifts_.l j = max (rdyD (bP s hJ) (toD y) j) (gS (toD y) j)) ∧ (∀ j,0 ≤ dyL y.shifts_.l j ∧ dyL y.shifts_.l j ≤ 10000) ∧ y.days_ = mxN (fun j => dyL y.shifts_.l j + dsL s.Jobs j) s.Jobs.length:=by
 have hn:=hJ.len
 have hok:=aDA hJ d.planned_.l d.last_ d.shifts_.l rfl hpl hlast
 have hB : ∀ i,i ≤ s.Jobs.length → ∀ j,0 ≤ dyL (putL (bP s hJ) d.planned_.l d.last_ d.shifts_.l i) j ∧ dyL (putL (bP s hJ) d.planned_.l d.last_ d.shifts_.l i) j ≤ 10000:=by
  intro i hi j
  by_cases hj : j < i
  ·have:=(hok i hi).bd j hj
   omega
  ·rw [(hok i hi).old j (.inl (by omega))]
   exact hbd j
 have hfin:=hok s.Jobs.length (Nat.le_refl _)
 refine ⟨⟨bF.ofl (putL (bP s hJ) d.planned_.l d.last_ d.shifts_.l s.Jobs.length),d.planned_,d.many_,d.last_,mxN (fun j => dyL (putL (bP s hJ) d.planned_.l d.last_ d.shifts_.l s.Jobs.length) j + dsL s.Jobs j) s.Jobs.length⟩,?_,rfl,rfl,rfl,?_,?_,?_,?_,?_⟩
 ·unfold cY
  simp only [eM]
  rw [hp.jobs]
  refine st2z s.Jobs.length (fun i => (⟨bF.ofl (putL (bP s hJ) d.planned_.l d.last_ d.shifts_.l i),d.planned_,d.many_,d.last_,d.days_⟩ : aF)) rfl (by omega) (fun rec => ?_) (fun rec i hi => ?_)
  ·rw [ltE,cond_false]
   have hl := aDJ N hN hJ (l := (bF.ofl (putL (bP s hJ) d.planned_.l d.last_ d.shifts_.l s.Jobs.length)).l) (by show s.Jobs.length ≤ 7; exact hn) (fun j hj => by
    rw [T7_l _ hfin.len]
    have:=hB _ (Nat.le_refl _) j
    omega)
   rw [T7_l _ hfin.len] at hl
   have hl' : ∀ z : aF,z.shifts_ = bF.ofl (putL (bP s hJ) d.planned_.l d.last_ d.shifts_.l s.Jobs.length) → gN N s.Jobs [z.shifts_.a0,z.shifts_.a1,z.shifts_.a2,z.shifts_.a3,z.shifts_.a4,z.shifts_.a5,z.shifts_.a6] = some (mxN (fun j => dyL (putL (bP s hJ) d.planned_.l d.last_ d.shifts_.l s.Jobs.length) j + dsL s.Jobs j) s.Jobs.length):=fun z hz => by
    rw [show [z.shifts_.a0,z.shifts_.a1,z.shifts_.a2,z.shifts_.a3,z.shifts_.a4,z.shifts_.a5,z.shifts_.a6] = z.shifts_.l from rfl,hz,T7_l _ hfin.len]
    exact hl
   rw [hl' _ rfl,Option.bind_some]
  ·have hli := (hok i (by omega)).len
   have h7 : d.planned_.l[i]? = some (d.planned_.l[i]'(by show i < 7; omega)):=List.getElem?_eq_getElem _
   have hpi : (d.planned_.l[i]?).getD false = d.planned_.l[i]'(by show i < 7; omega):=by rw [h7]; rfl
   generalize d.planned_.l[i]'(by show i < 7; omega) = b at h7 hpi
   have hi7 : idxI (i : Int) 7 = some ():=if_pos (by omega)
   have hbz : Bd s (bF.ofl (putL (bP s hJ) d.planned_.l d.last_ d.shifts_.l i)).l d.last_ := ⟨rfl, fun j => by
    rw [T7_l _ hli]
    have:=hB i (by omega) j
    omega, hlast.imp id fun ⟨k, e, h, _⟩ => ⟨k, e, h⟩⟩
   rw [ltD hi,cond_true,hi7,Option.bind_some,Int.toNat_natCast,h7,Option.bind_some,nadd1 i (by omega)]
   have hsucc : putL (bP s hJ) d.planned_.l d.last_ d.shifts_.l (i + 1) = if b = true then putL (bP s hJ) d.planned_.l d.last_ d.shifts_.l i else (putL (bP s hJ) d.planned_.l d.last_ d.shifts_.l i).set i ⟨wkL (putL (bP s hJ) d.planned_.l d.last_ d.shifts_.l i) i,max (rdyD (bP s hJ) (mkDr d.planned_.l (putL (bP s hJ) d.planned_.l d.last_ d.shifts_.l i) d.last_) i) (gS (mkDr d.planned_.l (putL (bP s hJ) d.planned_.l d.last_ d.shifts_.l i) d.last_) i)⟩:=by
    conv => lhs; unfold putL
    dsimp only
    rw [hpi]
   rw [hsucc]
   cases b with
   | true => rw [cond_true,if_pos rfl]
   | false =>
    rw [cond_false,if_neg (by simp)]
    have hr:=aDz N hJ hp (d:=⟨bF.ofl (putL (bP s hJ) d.planned_.l d.last_ d.shifts_.l i),d.planned_,d.many_,d.last_,d.days_⟩) hbz hi
    have ht:=aGI N hJ (d:=⟨bF.ofl (putL (bP s hJ) d.planned_.l d.last_ d.shifts_.l i),d.planned_,d.many_,d.last_,d.days_⟩) hbz i
    have hD : toD ⟨bF.ofl (putL (bP s hJ) d.planned_.l d.last_ d.shifts_.l i),d.planned_,d.many_,d.last_,d.days_⟩ = mkDr d.planned_.l (putL (bP s hJ) d.planned_.l d.last_ d.shifts_.l i) d.last_:=by
     show mkDr _ _ _ = _
     rw [T7_l _ hli]
    rw [hr,Option.bind_some,ht,Option.bind_some,Option.bind_some]
    rw [hD]
    have h8 : (putL (bP s hJ) d.planned_.l d.last_ d.shifts_.l i)[i]? = some ((putL (bP s hJ) d.planned_.l d.last_ d.shifts_.l i)[i]'(by omega)):=List.getElem?_eq_getElem _
    have hw8:=qK h8
    simp only [T7_l _ hli]
    rw [h8,Option.map_some,Option.bind_some,hw8,ifmax]
 ·intro j
  show wkL (bF.ofl _).l j = _
  rw [T7_l _ hfin.len]
  exact hfin.w j
 ·intro j hj
  show dyL (bF.ofl _).l j = _
  rw [T7_l _ hfin.len]
  exact hfin.old j hj
 ·intro j hj hpj
  have hD : toD ⟨bF.ofl (putL (bP s hJ) d.planned_.l d.last_ d.shifts_.l s.Jobs.length),d.planned_,d.many_,d.last_,mxN (fun j => dyL (putL (bP s hJ) d.planned_.l d.last_ d.shifts_.l s.Jobs.length) j + dsL s.Jobs j) s.Jobs.length⟩ = mkDr d.planned_.l (putL (bP s hJ) d.planned_.l d.last_ d.shifts_.l s.Jobs.length) d.last_:=by
   show mkDr _ _ _ = _
   rw [T7_l _ hfin.len]
  rw [hD]
  show dyL (bF.ofl _).l j = _
  rw [T7_l _ hfin.len,hfin.new j hj hpj]
  congr 1
  exact (aEb _ _ _ _ (fun k e => by
   rcases hlast with e2 | ⟨k2,e2,hk,hk2⟩
   ·omega
   ·obtain rfl : k = k2 := by omega
    exact hfin.old k (.inr hk2)) (hlast.imp id fun ⟨k, e, _⟩ => ⟨k, e⟩) j).symm
 ·intro j
  show 0 ≤ dyL (bF.ofl _).l j ∧ dyL (bF.ofl _).l j ≤ _
  rw [T7_l _ hfin.len]
  exact hB _ (Nat.le_refl _) j
 ·show mxN _ _ = mxN (fun j => dyL (bF.ofl _).l j + dsL s.Jobs j) s.Jobs.length
  rw [T7_l _ hfin.len]
end
section
open Go.RowKit
def cntD (s : aV) (x : Dr) : Int:=smN (fun j => if x.pl j = true then 1 else 0) s.Jobs.length
structure GD (s : aV) (hJ : GJ s.Jobs) (d : aF) : Prop where
 di : DI (bP s hJ) (toD d)
 many : d.many_ = cntD s (toD d)
 days : d.days_ = mxN (fun j => dyL d.shifts_.l j + dsL s.Jobs j) s.Jobs.length
 bd : ∀ j,0 ≤ dyL d.shifts_.l j ∧ dyL d.shifts_.l j ≤ 10000
theorem aAd {s : aV} (hJ : GJ s.Jobs) (p : Nat → Bool) : smN (fun j => if p j = true then dsL s.Jobs j else 0) s.Jobs.length ≤ 210:=by
 have h : smN (fun j => if p j = true then dsL s.Jobs j else 0) s.Jobs.length ≤ smN (fun _ => 30) s.Jobs.length:=smN.mono _ _ _ fun i hi => by
  have:=hJ.ds hi
  show (if p i = true then dsL s.Jobs i else 0) ≤ 30
  split <;> omega
 have h2 : ∀ n,smN (fun _ => 30) n = 30 * (n : Int):=fun n => by
  induction n with
  | zero => rfl
  | succ n ih => rw [smN,ih]; omega
 have:=hJ.len
 rw [h2] at h
 omega
theorem GD.bdd {s : aV} {hJ : GJ s.Jobs} {d : aF} (h : GD s hJ d) : Bd s d.shifts_.l d.last_ := ⟨rfl, fun j => by have := h.bd j; omega, by
 rcases h.di.last with ⟨e,_⟩ | ⟨l,e,hl,_⟩
 ·exact .inl e
 ·exact .inr ⟨l, e, hl⟩⟩
theorem GD.pl210 {s : aV} {hJ : GJ s.Jobs} {d : aF} (h : GD s hJ d) {j : Nat} (hj : j < s.Jobs.length) (hp : (toD d).pl j = true) : 0 ≤ dyL d.shifts_.l j ∧ dyL d.shifts_.l j + dsL s.Jobs j ≤ 210:=by
 have h1:=h.di.sum j hj hp
 have h2:=aAd hJ (toD d).pl
 have h3:=h.bd j
 exact ⟨h3.1,Int.le_trans h1 h2⟩
theorem aHK (l : List Bool) (h : l.length = 7) : (bY.ofl l).l = l:=bY.l_ofl l h
theorem aGG (N : Nat) (hN : 100 < N) {s : aV} {hJ : GJ s.Jobs} {p : aT} (hp : Plr s p) {d : aF} (h : GD s hJ d) {k : Nat} (hk : k < s.Jobs.length) (hpk : (toD d).pl k = false) {w day : Int} (hd : 0 ≤ day ∧ day ≤ 500) :
  ∃ y,eQ N p d (k : Int) ⟨w,day⟩ = some y ∧ Adds (bP s hJ) (toD d) k w day (toD y) ∧ y.many_ = d.many_ + 1 ∧ y.days_ = mxN (fun j => dyL y.shifts_.l j + dsL s.Jobs j) s.Jobs.length ∧ ∀ j,0 ≤ dyL y.shifts_.l j ∧ dyL y.shifts_.l j ≤ 10000:=by
 have hn:=hJ.len
 have hi7 : idxI (k : Int) 7 = some ():=if_pos (by omega)
 have h8 : d.shifts_.l[k]? = some (d.shifts_.l[k]'(by show k < 7; omega)):=List.getElem?_eq_getElem _
 have hm : 0 ≤ d.many_ ∧ d.many_ ≤ 7:=by
  rw [h.many]
  have h1 : cntD s (toD d) ≤ smN (fun _ => 1) s.Jobs.length:=smN.mono _ _ _ fun i hi => by
   show (if (toD d).pl i = true then (1 : Int) else 0) ≤ 1
   split <;> omega
  have h2 : ∀ n,smN (fun _ => 1) n = (n : Int):=fun n => by
   induction n with
   | zero => rfl
   | succ n ih => rw [smN,ih]; omega
  have h3 : 0 ≤ cntD s (toD d):=smN.pos _ _ fun i hi => by
   show 0 ≤ (if (toD d).pl i = true then (1 : Int) else 0)
   split <;> omega
  rw [h2] at h1
  omega
 have hsl : (d.shifts_.l.set k (⟨w,day⟩ : aG)).length = 7:=by rw [List.length_set]; rfl
 have hbl : (d.planned_.l.set k true).length = 7:=by rw [List.length_set]; rfl
 -- the draft ahead of putting
 obtain ⟨z,hz⟩ : ∃ z : aF,z = ⟨bF.ofl (d.shifts_.l.set k ⟨w,day⟩),bY.ofl (d.planned_.l.set k true),d.many_ + 1,(k : Int),d.days_⟩:=⟨_,rfl⟩
 have hzl : z.shifts_.l = d.shifts_.l.set k ⟨w,day⟩:=by rw [hz]; exact T7_l _ hsl
 have hzb : z.planned_.l = d.planned_.l.set k true:=by rw [hz]; exact aHK _ hbl
 have hzp : ∀ j,(toD z).pl j = if j = k then true else (toD d).pl j:=by
  intro j
  show (z.planned_.l[j]?).getD false = if j = k then true else (d.planned_.l[j]?).getD false
  rw [hzb,List.getElem?_set]
  by_cases e : k = j
  ·subst e
   have : k < d.planned_.l.length:=by show k < 7; omega
   simp [this]
  ·rw [if_neg e,if_neg (fun h => e h.symm)]
 have hzd : ∀ j,dyL z.shifts_.l j = if j = k then day else dyL d.shifts_.l j:=fun j => by
  rw [hzl]; exact aAV _ _ _ (by show k < 7; omega) j
 have hzw : ∀ j,wkL z.shifts_.l j = if j = k then w else wkL d.shifts_.l j:=fun j => by
  rw [hzl]; exact aDs _ _ _ (by show k < 7; omega) j
 have hzlast : z.last_ = (k : Int):=by rw [hz]
 obtain ⟨y, e, y1, y2, y3, y4, y5, y6, y7, y8⟩ := aGs N hN hJ hp z (fun j hj => by
   rw [hzd,if_neg (by omega)]
   exact (h.di.out j hj).2) (fun j => by
   rw [hzd]
   have:=h.bd j
   split <;> omega) (fun j hj hpj => by
   rw [hzd]
   rw [hzp] at hpj
   split
   ·omega
   ·rename_i hne
    rw [if_neg hne] at hpj
    have:=h.pl210 hj hpj
    have:=hJ.ds hj
    omega) (.inr ⟨k, hzlast, hk, by rw [hzp, if_pos rfl]⟩)
 have hyp : ∀ j,(toD y).pl j = (toD z).pl j:=fun j => by
  show (y.planned_.l[j]?).getD false = (z.planned_.l[j]?).getD false
  rw [y1]
 refine ⟨y,?_,⟨by show y.last_ = _; rw [y3,hzlast],fun j => by rw [hyp,hzp],fun j => (y4 j).trans (hzw j),fun j hj hpj => (y5 j (.inr (by rw [← hyp]; exact hpj))).trans (hzd j),fun j hj hpj => y6 j hj (by rw [← hyp]; exact hpj),fun j hj => (y5 j (.inl hj)).trans ((hzd j).trans (if_neg (fun e => by subst e; exact absurd hk (Nat.not_lt.2 hj))))⟩,by rw [y2,hz],y8,y7⟩
 unfold eQ
 rw [hi7,Option.bind_some,Int.toNat_natCast,h8,Option.map_some,Option.bind_some,Option.bind_some,Option.bind_some]
 dsimp only
 rw [w64 (x:=d.many_ + 1) (by omega) (by omega)]
 rw [show (⟨bF.ofl (d.shifts_.l.set k ⟨w,day⟩),bY.ofl (d.planned_.l.set k true),d.many_ + 1,(k : Int),d.days_⟩ : aF) = z from hz.symm,e,Option.bind_some]
theorem GD.add {s : aV} {hJ : GJ s.Jobs} {d y : aF} (h : GD s hJ d) {k : Nat} (hk : k < s.Jobs.length) (hpk : (toD d).pl k = false) (hwait : aftJ s.Jobs k = -1 ∨ (toD d).pl (aftJ s.Jobs k).toNat = true) {w day : Int} (hcan : w ∈ fY s.Workers (skL s.Jobs k)) (hday : day = max (rdyD (bP s hJ) (toD d) k) (freD (bP s hJ) (toD d) w)) (hge : dyL d.shifts_.l k ≤ day) (hy : Adds (bP s hJ) (toD d) k w day (toD y)) (hm : y.many_ = d.many_ + 1) (hd : y.days_ = mxN (fun j => dyL y.shifts_.l j + dsL s.Jobs j) s.Jobs.length) (hb : ∀ j,0 ≤ dyL y.shifts_.l j ∧ dyL y.shifts_.l j ≤ 10000) : GD s hJ y:=by
 refine ⟨h.di.add hk hpk hwait hcan hday hge hy,?_,hd,hb⟩
 rw [hm,h.many]
 unfold cntD
 rw [smN.one (fun j => if (toD y).pl j = true then 1 else 0) (fun j => if (toD d).pl j = true then 1 else 0) s.Jobs.length k hk (fun i hi hne => by rw [hy.pl,if_neg hne])]
 rw [hy.pl,if_pos rfl,hpk]
 simp
theorem GD.full {s : aV} {hJ : GJ s.Jobs} {d : aF} (h : GD s hJ d) : d.many_ = (s.Jobs.length : Int) ↔ ∀ j,j < s.Jobs.length → (toD d).pl j = true:=by
 rw [h.many]
 have key : ∀ n,(smN (fun j => if (toD d).pl j = true then (1 : Int) else 0) n ≤ (n : Int)) ∧ (smN (fun j => if (toD d).pl j = true then (1 : Int) else 0) n = (n : Int) ↔ ∀ j,j < n → (toD d).pl j = true):=by
  intro n
  induction n with
  | zero => exact ⟨Int.le_refl _,⟨fun _ j hj => absurd hj (Nat.not_lt_zero _),fun _ => rfl⟩⟩
  | succ n ih =>
   rw [smN]
   obtain ⟨i1,i2⟩:=ih
   cases hp : (toD d).pl n with
   | true =>
    simp only [if_true]
    refine ⟨by omega,⟨fun e j hj => ?_,fun ha => ?_⟩⟩
    ·by_cases ej : j = n
     ·subst ej; exact hp
     ·exact i2.1 (by omega) j (by omega)
    ·have := i2.2 (fun j hj => ha j (by omega))
     omega
   | false =>
    simp only [Bool.false_eq_true,if_false]
    refine ⟨by omega,⟨fun e => by omega,fun ha => ?_⟩⟩
    have:=ha n (by omega)
    rw [hp] at this
    cases this
 exact (key _).2
theorem aHh {s : aV} {hJ : GJ s.Jobs} {d : aF} (h : GD s hJ d) {k : Nat} (hk : k < s.Jobs.length) (hwait : aftJ s.Jobs k = -1 ∨ (toD d).pl (aftJ s.Jobs k).toNat = true) (w : Int) : 0 ≤ max (rdyD (bP s hJ) (toD d) k) (freD (bP s hJ) (toD d) w) ∧ max (rdyD (bP s hJ) (toD d) k) (freD (bP s hJ) (toD d) w) ≤ 210:=by
 have h1 : 0 ≤ freD (bP s hJ) (toD d) w:=mxN.pos _ _
 have h2 : freD (bP s hJ) (toD d) w ≤ 210 := mxN.le _ (by omega) _ fun j hj => by
  show (if (toD d).pl j = true ∧ (toD d).w j = w then dyL d.shifts_.l j + dsL s.Jobs j else 0) ≤ 210
  split
  ·rename_i hp; exact (h.pl210 hj hp.1).2
  ·omega
 have h3 : rdyD (bP s hJ) (toD d) k ≤ 210:=by
  unfold rdyD
  show (if aftJ s.Jobs k = -1 then 0 else dyL d.shifts_.l (aftJ s.Jobs k).toNat + dsL s.Jobs (aftJ s.Jobs k).toNat) ≤ 210
  split
  ·omega
  ·rename_i ha
   rcases hwait with hw | hw
   ·exact absurd hw ha
   ·rcases kQ (flL s.Jobs k) s.Jobs k with e | ⟨b,e,hbl⟩
    ·exact absurd e ha
    ·have e : aftJ s.Jobs k = (b : Int):=e
     rw [e,Int.toNat_natCast] at hw ⊢
     exact (h.pl210 (by omega) hw).2
 omega
def cmpV (x y : Int) : Int:=if x < y then -1 else if x > y then 1 else 0
theorem aDg (N : Nat) (x y : Int) : dT N x y = some (cmpV x y):=by
 unfold dT gV cmpV
 simp only [Option.bind_some,bne_self_eq_false,cond_false]
 by_cases h : x < y
 ·rw [decide_eq_true h,cond_true,if_pos h]
 ·rw [decide_eq_false h,cond_false,if_neg h]
  by_cases h2 : x > y
  ·rw [decide_eq_true h2,cond_true,if_pos h2]
  ·rw [decide_eq_false h2,cond_false,if_neg h2]
def cmpL : List Int → List Int → Int
 | x :: l,y :: m => if cmpV x y ≠ 0 then cmpV x y else cmpL l m
 | _,_ => 0
theorem aCl : ∀ {l m : List Int} (l' m' : List Int),l.length = m.length → cmpL (l ++ l') (m ++ m') = if cmpL l m ≠ 0 then cmpL l m else cmpL l' m'
 | [],[],l',m',_ => by simp [cmpL]
 | [],_ :: _,_,_,h => by simp at h
 | _ :: _,[],_,_,h => by simp at h
 | x :: l,y :: m,l',m',h => by
  simp only [List.cons_append,cmpL]
  by_cases hc : cmpV x y ≠ 0
  ·simp [hc]
  ·simp only [hc,if_false]
   exact aCl l' m' (by simpa using h)
theorem aDO : ∀ {l m : List Int},l.length = m.length → (cmpL l m < 0 ↔ lxL l m) ∧ (cmpL l m = 0 ↔ l = m)
 | [],[],_ => by simp [cmpL,lxL]
 | [],_ :: _,h => by simp at h
 | _ :: _,[],h => by simp at h
 | x :: l,y :: m,h => by
  have ih:=aDO (l:=l) (m:=m) (by simpa using h)
  have hc : cmpV x y = if x < y then -1 else if x > y then 1 else 0:=rfl
  simp only [cmpL,lxL,List.cons.injEq]
  by_cases h1 : x < y
  ·rw [if_pos h1] at hc
   simp only [hc]
   refine ⟨⟨fun _ => .inl h1,fun _ => by simp⟩,⟨fun h => by simp at h,fun h => by omega⟩⟩
  ·by_cases h2 : x > y
   ·rw [if_neg h1,if_pos h2] at hc
    simp only [hc]
    refine ⟨⟨fun h => by simp at h,fun h => by rcases h with h | h <;> omega⟩,⟨fun h => by simp at h,fun h => by omega⟩⟩
   ·rw [if_neg h1,if_neg h2] at hc
    simp only [hc]
    have : x = y:=by omega
    subst this
    simp only [Int.lt_irrefl,ne_eq,not_true_eq_false,if_false,true_and,false_or]
    exact ih
theorem aDf {body : (Int → Option Int) → Int → Option Int} (a b : List Int) (hab : a.length = b.length) (hend : ∀ rec,body rec (a.length : Int) = some 0) (hstep : ∀ rec (i : Nat) x y,a[i]? = some x → b[i]? = some y → body rec (i : Int) = if cmpV x y ≠ 0 then some (cmpV x y) else rec ((i + 1 : Nat) : Int)) : ∀ (N i : Nat),i ≤ a.length → a.length - i < N → loop1 body N (i : Int) = some (cmpL (a.drop i) (b.drop i))
 | 0,_,_,h => absurd h (Nat.not_lt_zero _)
 | N + 1,i,hi,h => by
  show body (loop1 body N) (i : Int) = _
  by_cases hlt : i < a.length
  ·have hx : a[i]? = some a[i]:=List.getElem?_eq_getElem hlt
   have hy : b[i]? = some b[i]:=List.getElem?_eq_getElem (by omega)
   rw [hstep _ i _ _ hx hy,List.drop_eq_getElem_cons hlt,List.drop_eq_getElem_cons (show i < b.length by omega)]
   simp only [cmpL]
   split
   ·rfl
   ·exact aDf a b hab hend hstep N (i + 1) (by omega) (by omega)
  ·have : i = a.length := by omega
   subst this
   rw [hend,List.drop_eq_nil_of_le (Nat.le_refl _)]
   rfl
theorem aHj (N : Nat) (hN : 100 < N) (l m : List aG) (h : l.length = m.length) (h7 : l.length ≤ 7) : bA N l m = some (cmpL (l.map (·.Day)) (m.map (·.Day))):=by
 unfold bA
 simp only [eM]
 refine (aDf (l.map (·.Day)) (m.map (·.Day)) (by simp [h]) (fun rec => ?_) (fun rec i x y hx hy => ?_) N 0 (Nat.zero_le _) (by rw [List.length_map]; omega)).trans (by simp)
 ·rw [List.length_map,ltE,cond_false,h,ltE,cond_false]
 ·rw [List.getElem?_map,Option.map_eq_some_iff] at hx hy
  obtain ⟨u,hu,rfl⟩:=hx
  obtain ⟨v,hv,rfl⟩:=hy
  have h1:=(List.getElem?_eq_some_iff.1 hu).1
  have h2:=(List.getElem?_eq_some_iff.1 hv).1
  rw [ltD h1,cond_true,bV,hu,Option.bind_some,decide_eq_false (by omega),cond_false,bV,hv,Option.bind_some]
  unfold iK
  rw [aDg,Option.bind_some,Option.bind_some,nadd1 i (by omega)]
  by_cases hc : cmpV u.Day v.Day = 0
  ·rw [hc]; rfl
  ·rw [bne_iff_ne.2 hc,cond_true,if_pos hc]
theorem aHi (N : Nat) (hN : 100 < N) (l m : List aG) (h : l.length = m.length) (h7 : l.length ≤ 7) : aZ N l m = some (cmpL (l.map (·.Worker)) (m.map (·.Worker))):=by
 unfold aZ
 simp only [eM]
 refine (aDf (l.map (·.Worker)) (m.map (·.Worker)) (by simp [h]) (fun rec => ?_) (fun rec i x y hx hy => ?_) N 0 (Nat.zero_le _) (by rw [List.length_map]; omega)).trans (by simp)
 ·rw [List.length_map,ltE,cond_false,h,ltE,cond_false]
 ·rw [List.getElem?_map,Option.map_eq_some_iff] at hx hy
  obtain ⟨u,hu,rfl⟩:=hx
  obtain ⟨v,hv,rfl⟩:=hy
  have h1:=(List.getElem?_eq_some_iff.1 hu).1
  have h2:=(List.getElem?_eq_some_iff.1 hv).1
  rw [ltD h1,cond_true,bV,hu,Option.bind_some,decide_eq_false (by omega),cond_false,bV,hv,Option.bind_some]
  unfold iJ
  rw [aDg,Option.bind_some,Option.bind_some,nadd1 i (by omega)]
  by_cases hc : cmpV u.Worker v.Worker = 0
  ·rw [hc]; rfl
  ·rw [bne_iff_ne.2 hc,cond_true,if_pos hc]
def or3 (a b c : Int) : Int:=if a ≠ 0 then a else if b ≠ 0 then b else c
theorem or_c (N : Nat) (hN : 100 < N) (a b c : Int) : jY N [a,b,c] = some (or3 a b c):=by
 obtain ⟨M,rfl⟩ : ∃ M,N = M + 10:=⟨N - 10,by omega⟩
 have e : jY (M + 10) [a,b,c] = (bif a != 0 then some a else bif b != 0 then some b else bif c != 0 then some c else some 0):=rfl
 rw [e]
 unfold or3
 by_cases h1 : a = 0
 ·rw [h1]
  by_cases h2 : b = 0
  ·rw [h2]
   by_cases h3 : c = 0
   ·rw [h3]; rfl
   ·rw [bne_iff_ne.2 h3]; simp
  ·rw [bne_iff_ne.2 h2]; simp [h2]
 ·rw [bne_iff_ne.2 h1]; simp [h1]
def keyT (d : aF) : List Int:=d.days_ :: (d.shifts_.l.map (·.Day) ++ d.shifts_.l.map (·.Worker))
theorem aAv (N : Nat) (hN : 100 < N) (a b : aF) : ∃ c,gE N a b = some c ∧ (c ≥ 0 ↔ lxE (keyT b) (keyT a)):=by
 have e1:=aHj N hN a.shifts_.l b.shifts_.l rfl (Nat.le_refl _)
 have e2:=aHi N hN a.shifts_.l b.shifts_.l rfl (Nat.le_refl _)
 have e1 : bA N [a.shifts_.a0,a.shifts_.a1,a.shifts_.a2,a.shifts_.a3,a.shifts_.a4,a.shifts_.a5,a.shifts_.a6] [b.shifts_.a0,b.shifts_.a1,b.shifts_.a2,b.shifts_.a3,b.shifts_.a4,b.shifts_.a5,b.shifts_.a6] = _:=e1
 have e2 : aZ N [a.shifts_.a0,a.shifts_.a1,a.shifts_.a2,a.shifts_.a3,a.shifts_.a4,a.shifts_.a5,a.shifts_.a6] [b.shifts_.a0,b.shifts_.a1,b.shifts_.a2,b.shifts_.a3,b.shifts_.a4,b.shifts_.a5,b.shifts_.a6] = _:=e2
 refine ⟨or3 (cmpV a.days_ b.days_) (cmpL (a.shifts_.l.map (·.Day)) (b.shifts_.l.map (·.Day))) (cmpL (a.shifts_.l.map (·.Worker)) (b.shifts_.l.map (·.Worker))),?_,?_⟩
 ·unfold gE
  rw [aDg,Option.bind_some,e1,Option.bind_some,e2,Option.bind_some,or_c N hN,Option.bind_some]
 ·have hk : or3 (cmpV a.days_ b.days_) (cmpL (a.shifts_.l.map (·.Day)) (b.shifts_.l.map (·.Day))) (cmpL (a.shifts_.l.map (·.Worker)) (b.shifts_.l.map (·.Worker))) = cmpL (keyT a) (keyT b):=by
   unfold keyT or3
   simp only [cmpL]
   rw [aCl _ _ (by rfl)]
  rw [hk]
  have hl : (keyT a).length = (keyT b).length:=rfl
  obtain ⟨c1,c2⟩:=aDO hl
  constructor
  ·intro h
   rcases lxL.tot (l:=keyT b) (m:=keyT a) hl.symm with h2 | h2
   ·exact h2
   ·exact absurd (c1.2 h2) (by omega)
  ·intro h
   have : ¬ cmpL (keyT a) (keyT b) < 0:=fun h3 => h.not (c1.1 h3)
   omega
theorem range7 (l : List aG) (h : l.length = 7) : (List.range 7).map (dyL l) = l.map (·.Day) ∧ (List.range 7).map (wkL l) = l.map (·.Worker):=by
 match l,h with
 | [a,b,c,d,e,f,g],_ => exact ⟨rfl,rfl⟩
theorem GD.key {s : aV} {hJ : GJ s.Jobs} {d : aF} (h : GD s hJ d) : keyT d = keyD (bP s hJ) (toD d):=by
 unfold keyT keyD keyP
 obtain ⟨r1,r2⟩:=range7 d.shifts_.l rfl
 rw [h.days,← r1,← r2]
 rfl
end
end Go.Proofs.YtjjmhjmkdihmnaaGreatDoor
