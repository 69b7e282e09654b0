/- Part 8 of what the law needs: own work, put together. -/
import Derived.ProofKit
import Derived.LaidMore
import Derived.LaidLaws
import Derived.LaidHandle
import Derived.Lib.LaidTab
import Derived.Stop.LaidErr
import Derived.OpenShut
import Derived.Stop.Joined
import Derived.Test.YtjjmhjmkdihmnaaGreatDoorRows
import Derived.Test.YtjjmhjmkdihmnaaGreatDoorTie
import Derived.Test.YtjjmhjmkdihmnaaGreatDoorCards
import Derived.SevenTiedAt
import Derived.Test.YtjjmhjmkdihmnaaGreatDoorJfZq6
set_option linter.unusedVariables false
set_option linter.unusedSimpArgs false
set_option maxRecDepth 10000
set_option maxHeartbeats 4000000
namespace Go.Proofs.YtjjmhjmkdihmnaaGreatDoor
section
open Go.RowKit
attribute [local simp] ren ren1 AV.plain AV.plain1 AV.clean bB fG dP fI eX cS cV eP fT cG cF dZ eO dC dB jR rY kS kT cN aK aN aX aJ aY aP aH aA aE bO bQ dW dF eN dX aI aB aM aC aO bJ pZ oG bG oH bC dG back back1 re re1 List.idxOf? List.findIdx? List.findIdx?.go nK oY zB uZ rK kU nY pY lL jF wH aDU aDV aCF fadeS fadeV
def eV (N : Nat) (n_1 : Int) (low_2 : Int) (high_3 : Int) : Option (Bool):=(bif (decide (n_1 ≥ low_2)) then some (decide (n_1 ≤ high_3)) else some false)
def mJ (r : Bool) : AV:=.bool r
attribute [local simp] mJ
theorem kR (n_1 : Int) (low_2 : Int) (high_3 : Int) : [i6 n_1,i6 low_2,i6 high_3].mapM (ren []) = some [i6 n_1,i6 low_2,i6 high_3]:=by simp
theorem kO (r : Bool) (n n2 m : Nat) : back n n2 m (mJ r) = some (mJ r):=by simp
theorem kH (N : Nat) (n_1 : Int) (low_2 : Int) (high_3 : Int) (r : Bool) (h : eV N n_1 low_2 high_3 = some r) : Does Tryz.prog 122 [i6 n_1,i6 low_2,i6 high_3] [] fun v c => v = mJ r ∧ c = []:=by
 unfold eV at h
 refine Does.ofL comp122 _ _ rfl rfl ?_
 refine Ex.seq (rg 1 [0,1,2] (mkS 15 [(0,i6 n_1),(1,i6 low_2),(2,i6 high_3)]) ⟨[],[]⟩ ?_)
 refine Ex.seq ?_
 rcases aU h with ⟨hc_4,h⟩ | ⟨hc_4,h⟩
 ·refine regH 9 [(3, .eq (.bool true))] [6] [AV.bool (decide (n_1 ≥ low_2)) = AV.bool true] (mkS 15 [(6, .bool (decide (n_1 ≤ high_3)))]) (⟨[], []⟩) (by kernel_rfl) ⟨congrArg AV.bool hc_4, trivial⟩ rfl ?_
  refine Ex.ret ?_
  obtain rfl:=sJ h
  exact rt (.bool (decide (n_1 ≤ high_3)))
 ·refine regH 9 [(3, .eq (.bool false))] [6] [AV.bool (decide (n_1 ≥ low_2)) = AV.bool false] (mkS 15 [(6, .bool false)]) (⟨[], []⟩) (by kernel_rfl) ⟨congrArg AV.bool hc_4, trivial⟩ rfl ?_
  refine Ex.ret ?_
  obtain rfl:=sJ h
  exact rt (.bool false)
def lO (N : Nat) (s_1 : aV) : Option (Int):=(bif (((s_1.Workers.length : Nat) : Int) == 0) then some 4 else (letJ (fun (y_3 : Bool) => (bif y_3 then some 5 else (letJ (fun (_ : Unit) => some 0) (fun k_9 => (loop1 (fun rec_13 (i_12 : Int) => (bif (decide (i_12 < ((s_1.Jobs.length : Nat) : Int))) then ((getI s_1.Jobs i_12).bind fun x_17 => ((eV N x_17.Float 0 6).bind fun r_18 => (bif (!r_18) then some 2 else ((eV N x_17.Skill 1 3).bind fun r_20 => (bif (!r_20) then some 3 else ((eV N x_17.Days 1 30).bind fun r_22 => (bif (!r_22) then some 2 else (rec_13 (IntKind.i64.wrap (i_12 + 1)))))))))) else (k_9 ()))) N 0))))) (fun k_4 => (bif (decide (((s_1.Workers.length : Nat) : Int) > 4)) then (k_4 true) else (k_4 (decide (((s_1.Jobs.length : Nat) : Int) > 7)))))))
def nR (r : Int) : AV:=i6 r
attribute [local simp] nR
theorem aCB (s_1 : aV) : [(aP s_1)].mapM (ren []) = some [(aP s_1)]:=by simp
theorem aCt (r : Int) (n n2 m : Nat) : back n n2 m (nR r) = some (nR r):=by simp
theorem aCc (N : Nat) (s_1 : aV) (r : Int) (h : lO N s_1 = some r) : Does Tryz.prog 97 [(aP s_1)] [] fun v c => v = nR r ∧ c = []:=by
 unfold lO at h
 refine Does.ofL comp97 _ _ rfl rfl ?_
 refine Ex.seq (rg 2 [1] (mkS 43 [(1,.ptr 0 0)]) ⟨[(aH s_1)],[]⟩ ?_)
 refine Ex.seq (Ex.seq ?_)
 refine regH 4 [(2,.eq (i6 ((s_1.Workers.length : Nat) : Int)))] [1,8] [AV.int .i64 (((s_1.Workers.map aN).length : Nat) : Int) = AV.int .i64 ((s_1.Workers.length : Nat) : Int)] (mkS 43 [(1,.ptr 0 0),(8,.bool (((s_1.Workers.length : Nat) : Int) == 0))]) (⟨[(aH s_1)],[]⟩) (by kernel_rfl) ⟨lenM _ _,trivial⟩ rfl ?_
 rcases aU h with ⟨hc_2,h⟩ | ⟨hc_2,h⟩
 ·refine Ex.condT _ rfl hc_2 ?_
  refine Ex.seq (rg 1 [2] (mkS 43 [(2,i6 4)]) ⟨[(aH s_1)],[]⟩ ?_)
  refine Ex.ret ?_
  obtain rfl:=sJ h
  exact rt (i6 4)
 ·refine Ex.condF _ rfl hc_2 ?_
  refine Ex.skip ?_
  refine Ex.seq ?_
  obtain ⟨K_5,hK_6,h⟩:=letE h
  refine Ex.seqJ (fun a S => ∃ (y_3 : Bool),K_5 y_3 = some r ∧ a = mkS 43 [(1,.ptr 0 0),(18,.bool y_3)] ∧ S = ⟨[(aH s_1)],[]⟩) ?_ ?_
  ·rcases aU h with ⟨hc_7,h⟩ | ⟨hc_7,h⟩
   ·refine regH 10 [(2, .eq (i6 ((s_1.Workers.length : Nat) : Int))), (4, .eq (.bool true))] [1, 18] [AV.int .i64 (((s_1.Workers.map aN).length : Nat) : Int) = AV.int .i64 ((s_1.Workers.length : Nat) : Int), AV.bool (decide (((s_1.Workers.length : Nat) : Int) > 4)) = AV.bool true] (mkS 43 [(1, .ptr 0 0), (18, .bool true)]) (⟨[(aH s_1)], []⟩) (by kernel_rfl) ⟨lenM _ _, congrArg AV.bool hc_7, trivial⟩ rfl ?_
    (try simp only [reduceCtorEq,AEx.ex.injEq,Nat.reduceEqDiff,if_true,if_false])
    exact ⟨_,_,aL.refl _ _ _,true,h,rfl,rfl⟩
   ·refine regH 10 [(2, .eq (i6 ((s_1.Workers.length : Nat) : Int))), (4, .eq (.bool false)), (7, .eq (i6 ((s_1.Jobs.length : Nat) : Int)))] [1, 18] [AV.int .i64 (((s_1.Workers.map aN).length : Nat) : Int) = AV.int .i64 ((s_1.Workers.length : Nat) : Int), AV.bool (decide (((s_1.Workers.length : Nat) : Int) > 4)) = AV.bool false, AV.int .i64 (((s_1.Jobs.map aJ).length : Nat) : Int) = AV.int .i64 ((s_1.Jobs.length : Nat) : Int)] (mkS 43 [(1, .ptr 0 0), (18, .bool (decide (((s_1.Jobs.length : Nat) : Int) > 7)))]) (⟨[(aH s_1)], []⟩) (by kernel_rfl) ⟨lenM _ _, congrArg AV.bool hc_7, lenM _ _, trivial⟩ rfl ?_
    (try simp only [reduceCtorEq,AEx.ex.injEq,Nat.reduceEqDiff,if_true,if_false])
    exact ⟨_,_,aL.refl _ _ _,(decide (((s_1.Jobs.length : Nat) : Int) > 7)),h,rfl,rfl⟩
  ·rintro a S ⟨y_3,h,rfl,rfl⟩
   subst hK_6
   rcases aU h with ⟨hc_8,h⟩ | ⟨hc_8,h⟩
   ·refine Ex.condT _ rfl hc_8 ?_
    refine Ex.seq (rg 1 [2] (mkS 43 [(2,i6 5)]) ⟨[(aH s_1)],[]⟩ ?_)
    refine Ex.ret ?_
    obtain rfl:=sJ h
    exact rt (i6 5)
   ·refine Ex.condF _ rfl hc_8 ?_
    refine Ex.skip ?_
    refine Ex.seq (Ex.seq ?_)
    refine rg 1 [1,3] (mkS 43 [(1,.ptr 0 0),(3,i6 0)]) ⟨[(aH s_1)],[]⟩ ?_
    obtain ⟨K_10,hK_11,h⟩:=letE h
    refine Ex.blockJ (fun a S => K_10 () = some r ∧ a = mkS 43 [] ∧ S = ⟨[],[]⟩) ?_ ?_
    ·obtain ⟨B_14,hB_15,h⟩:=fW h
     refine Ex.loopF (fun k a S => ∃ (i_12 : Int),loop1 B_14 k i_12 = some r ∧ a = mkS 43 [(1,.ptr 0 0),(3,i6 i_12)] ∧ S = ⟨[(aH s_1)],[]⟩) N ⟨_,_,aL.refl _ _ _,0,h,rfl,rfl⟩ ?_
     rintro k a S ⟨i_12,h,rfl,rfl⟩
     cases k with
     | zero => exact (fU h).elim
     | succ k =>
      replace h:=fV h hB_15
      refine Ex.seq (Ex.seq ?_)
      refine regH 5 [(3,.eq (i6 ((s_1.Jobs.length : Nat) : Int)))] [1,3,23] [AV.int .i64 (((s_1.Jobs.map aJ).length : Nat) : Int) = AV.int .i64 ((s_1.Jobs.length : Nat) : Int)] (mkS 43 [(1,.ptr 0 0),(3,i6 i_12),(23,.bool (decide (i_12 < ((s_1.Jobs.length : Nat) : Int))))]) (⟨[(aH s_1)],[]⟩) (by kernel_rfl) ⟨lenM _ _,trivial⟩ rfl ?_
      rcases aU h with ⟨hc_16,h⟩ | ⟨hc_16,h⟩
      ·refine Ex.condT _ rfl hc_16 ?_
       refine Ex.skip ?_
       refine Ex.seq ?_
       refine Ex.blockK ?_
       refine Ex.seq ?_
       obtain ⟨x_17,hx_17,h⟩:=bE h
       refine regH 7 [(3,.rop (aY x_17))] [1,3,4] [LGet (s_1.Jobs.map aJ) i_12 3 (aY x_17)] (mkS 43 [(1,.ptr 0 0),(3,i6 i_12),(4,.ptr 1 0)]) (⟨[(aH s_1),(aY x_17)],[]⟩) (by kernel_rfl) ⟨LGet.of hx_17 rfl,trivial⟩ rfl ?_
       refine Ex.seq (Ex.seq ?_)
       obtain ⟨r_18,hr_18,h⟩:=bE h
       refine Ex.reg (rn 2 [1,3,4,32] (mkS 43 [(1,.ptr 0 0),(3,i6 i_12),(4,.ptr 1 0),(32,i6 x_17.Float)]) ⟨[(aH s_1),(aY x_17)],[]⟩ ?_)
       refine ExO.callL [] [i6 x_17.Float,i6 0,i6 6] rfl rfl (kR x_17.Float 0 6) rfl rfl (kH N x_17.Float 0 6 r_18 hr_18) (kO _ _ _ _) rfl ?_
       refine rn 1 [1,3,4,34] (mkS 43 [(1,.ptr 0 0),(3,i6 i_12),(4,.ptr 1 0),(34,.bool (!r_18))]) ⟨[(aH s_1),(aY x_17)],[]⟩ ?_
       refine ExO.nil ?_
       rcases aU h with ⟨hc_19,h⟩ | ⟨hc_19,h⟩
       ·refine Ex.condT _ rfl hc_19 ?_
        refine Ex.seq (rg 1 [2] (mkS 43 [(2,i6 2)]) ⟨[(aH s_1),(aY x_17)],[]⟩ ?_)
        refine Ex.ret ?_
        obtain rfl:=sJ h
        exact rt (i6 2)
       ·refine Ex.condF _ rfl hc_19 ?_
        refine Ex.skip ?_
        refine Ex.seq (Ex.seq ?_)
        obtain ⟨r_20,hr_20,h⟩:=bE h
        refine Ex.reg (rn 2 [1,3,4,36] (mkS 43 [(1,.ptr 0 0),(3,i6 i_12),(4,.ptr 1 0),(36,i6 x_17.Skill)]) ⟨[(aH s_1),(aY x_17)],[]⟩ ?_)
        refine ExO.callL [] [i6 x_17.Skill,i6 1,i6 3] rfl rfl (kR x_17.Skill 1 3) rfl rfl (kH N x_17.Skill 1 3 r_20 hr_20) (kO _ _ _ _) rfl ?_
        refine rn 1 [1,3,4,38] (mkS 43 [(1,.ptr 0 0),(3,i6 i_12),(4,.ptr 1 0),(38,.bool (!r_20))]) ⟨[(aH s_1),(aY x_17)],[]⟩ ?_
        refine ExO.nil ?_
        rcases aU h with ⟨hc_21,h⟩ | ⟨hc_21,h⟩
        ·refine Ex.condT _ rfl hc_21 ?_
         refine Ex.seq (rg 1 [2] (mkS 43 [(2,i6 3)]) ⟨[(aH s_1),(aY x_17)],[]⟩ ?_)
         refine Ex.ret ?_
         obtain rfl:=sJ h
         exact rt (i6 3)
        ·refine Ex.condF _ rfl hc_21 ?_
         refine Ex.skip ?_
         refine Ex.seq ?_
         obtain ⟨r_22,hr_22,h⟩:=bE h
         refine Ex.reg (rn 2 [1,3,40] (mkS 43 [(1,.ptr 0 0),(3,i6 i_12),(40,i6 x_17.Days)]) ⟨[(aH s_1),(aY x_17)],[]⟩ ?_)
         refine ExO.callL [] [i6 x_17.Days,i6 1,i6 30] rfl rfl (kR x_17.Days 1 30) rfl rfl (kH N x_17.Days 1 30 r_22 hr_22) (kO _ _ _ _) rfl ?_
         refine rn 1 [1,3,42] (mkS 43 [(1,.ptr 0 0),(3,i6 i_12),(42,.bool (!r_22))]) ⟨[(aH s_1),(aY x_17)],[]⟩ ?_
         refine ExO.nil ?_
         rcases aU h with ⟨hc_23,h⟩ | ⟨hc_23,h⟩
         ·refine Ex.condT _ rfl hc_23 ?_
          refine Ex.seq (rg 1 [2] (mkS 43 [(2,i6 2)]) ⟨[(aH s_1),(aY x_17)],[]⟩ ?_)
          refine Ex.ret ?_
          obtain rfl:=sJ h
          exact rt (i6 2)
         ·refine Ex.condF _ rfl hc_23 ?_
          refine Ex.skip ?_
          refine rg 3 [1,3] (mkS 43 [(1,.ptr 0 0),(3,i6 (IntKind.i64.wrap (i_12 + 1)))]) ⟨[(aH s_1),(aY x_17)],[]⟩ ?_
          dsimp only
          exact ⟨_,_,bU (m:=43) 1 [] [(1,.ptr 0 0),(3,i6 (IntKind.i64.wrap (i_12 + 1)))] [(aH s_1)] [] (by simp [bH]) (by simp) ⟨rfl,rfl,trivial⟩ (by simp) rfl (by decide),k,Nat.lt_succ_self k,(IntKind.i64.wrap (i_12 + 1)),h,rfl,rfl⟩
      ·refine Ex.condF _ rfl hc_16 ?_
       refine Ex.exit ?_
       (try simp only [reduceCtorEq,AEx.ex.injEq,Nat.reduceEqDiff,if_true,if_false])
       exact ⟨_,_,bU (m:=43) 0 [] [] [] [] (by simp [bH]) (by simp) trivial (by simp) rfl (by decide),h,rfl,rfl⟩
    ·rintro a S ⟨h,rfl,rfl⟩
     subst hK_11
     refine Ex.seq (rg 1 [2] (mkS 43 [(2,i6 0)]) ⟨[],[]⟩ ?_)
     refine Ex.ret ?_
     obtain rfl:=sJ h
     exact rt (i6 0)
def mQ (N : Nat) (w_1 : bI) (skill_2 : Int) : Option (Bool):=(bif (skill_2 == 1) then some w_1.Weld else (bif (skill_2 == 2) then some w_1.Carve else some w_1.Paint))
def rM (r : Bool) : AV:=.bool r
attribute [local simp] rM
theorem aAz (w_1 : bI) (skill_2 : Int) : [(aN w_1),i6 skill_2].mapM (ren []) = some [(aN w_1),i6 skill_2]:=by simp
theorem aAw (r : Bool) (n n2 m : Nat) : back n n2 m (rM r) = some (rM r):=by simp
theorem aAr (N : Nat) (w_1 : bI) (skill_2 : Int) (r : Bool) (h : mQ N w_1 skill_2 = some r) : Does Tryz.prog 73 [(aN w_1),i6 skill_2] [] fun v c => v = rM r ∧ c = []:=by
 unfold mQ at h
 refine Does.ofL comp73 _ _ rfl rfl ?_
 refine Ex.seq (rg 2 [1,2] (mkS 16 [(1,i6 skill_2),(2,.ptr 0 0)]) ⟨[(aX w_1)],[]⟩ ?_)
 refine Ex.seq (Ex.seq ?_)
 refine rg 1 [2,5] (mkS 16 [(2,.ptr 0 0),(5,i6 skill_2)]) ⟨[(aX w_1)],[]⟩ ?_
 refine Ex.blockK ?_
 refine Ex.seq (rg 2 [2,5,6] (mkS 16 [(2,.ptr 0 0),(5,i6 skill_2),(6,.bool (skill_2 == 1))]) ⟨[(aX w_1)],[]⟩ ?_)
 rcases aU h with ⟨hc_3,h⟩ | ⟨hc_3,h⟩
 ·refine Ex.condT _ rfl hc_3 ?_
  refine Ex.seq (rg 3 [4] (mkS 16 [(4,.bool w_1.Weld)]) ⟨[(aX w_1)],[]⟩ ?_)
  refine Ex.ret ?_
  obtain rfl:=sJ h
  exact rt (.bool w_1.Weld)
 ·refine Ex.condF _ rfl hc_3 ?_
  refine Ex.seq (rg 2 [2,10] (mkS 16 [(2,.ptr 0 0),(10,.bool (skill_2 == 2))]) ⟨[(aX w_1)],[]⟩ ?_)
  rcases aU h with ⟨hc_4,h⟩ | ⟨hc_4,h⟩
  ·refine Ex.condT _ rfl hc_4 ?_
   refine Ex.seq (rg 3 [4] (mkS 16 [(4,.bool w_1.Carve)]) ⟨[(aX w_1)],[]⟩ ?_)
   refine Ex.ret ?_
   obtain rfl:=sJ h
   exact rt (.bool w_1.Carve)
  ·refine Ex.condF _ rfl hc_4 ?_
   refine Ex.skip ?_
   refine Ex.seq (rg 3 [4] (mkS 16 [(4,.bool w_1.Paint)]) ⟨[(aX w_1)],[]⟩ ?_)
   refine Ex.ret ?_
   obtain rfl:=sJ h
   exact rt (.bool w_1.Paint)
def iN (N : Nat) (s_1 : aV) (plan_2 : (List aG)) (job_3 : Int) : Option (Int):=((getI plan_2 job_3).bind fun x_4 => ((getI s_1.Jobs job_3).bind fun x_5 => some (IntKind.i64.wrap (x_4.Day + x_5.Days))))
def cU (r : Int) : AV:=i6 r
attribute [local simp] cU
theorem aEx (s_1 : aV) (plan_2 : (List aG)) (job_3 : Int) : [(aP s_1),.sl (plan_2.map aA) none,i6 job_3].mapM (ren []) = some [(aP s_1),.sl (plan_2.map aA) none,i6 job_3]:=by simp
theorem oX (r : Int) (n n2 m : Nat) : back n n2 m (cU r) = some (cU r):=by simp
theorem oU (N : Nat) (s_1 : aV) (plan_2 : (List aG)) (job_3 : Int) (r : Int) (h : iN N s_1 plan_2 job_3 = some r) : Does Tryz.prog 123 [(aP s_1),.sl (plan_2.map aA) none,i6 job_3] [] fun v c => v = cU r ∧ c = []:=by
 unfold iN at h
 refine Does.ofL comp123 _ _ rfl rfl ?_
 refine Ex.seq (rg 2 [1,2,3] (mkS 19 [(1,.sl (plan_2.map aA) none),(2,i6 job_3),(3,.ptr 0 0)]) ⟨[(aH s_1)],[]⟩ ?_)
 refine Ex.seq ?_
 obtain ⟨x_4,hx_4,h⟩:=bE h
 obtain ⟨x_5,hx_5,h⟩:=bE h
 refine Ex.drawE (a1:=mkS 19 [(1,.sl (plan_2.map aA) none),(2,i6 job_3),(3,.ptr 0 0),(7,.sl (plan_2.map aA) none),(8,i6 job_3),(9,.rop (aE x_4)),(10,.rop [i6 x_4.Day]),(11,i6 x_4.Day),(12,.ptr 0 1),(13,.sl (s_1.Jobs.map aJ) none),(14,i6 job_3),(15,.rop (aY x_5)),(16,.rop [i6 x_5.Days]),(17,i6 x_5.Days)]) (cD _) [] [] [] ?_ ?_
 ·refine drS [0] 11 [(2, .rop (aE x_4)), (8, .rop (aY x_5))] [LGet (plan_2.map aA) job_3 2 (aE x_4), LGet (s_1.Jobs.map aJ) job_3 3 (aY x_5)] (mkS 19 [(1, .sl (plan_2.map aA) none), (2, i6 job_3), (3, .ptr 0 0), (7, .sl (plan_2.map aA) none), (8, i6 job_3), (9, .rop (aE x_4)), (10, .rop [i6 x_4.Day]), (11, i6 x_4.Day), (12, .ptr 0 1), (13, .sl (s_1.Jobs.map aJ) none), (14, i6 job_3), (15, .rop (aY x_5)), (16, .rop [i6 x_5.Days]), (17, i6 x_5.Days)]) (by simp) (by kernel_rfl) ⟨LGet.of hx_4 rfl, LGet.of hx_5 rfl, trivial⟩ (by kernel_rfl) ?_
  exact DrO.nil rfl
 ·dsimp only [List.getLastD_cons,List.getLastD_nil]
  refine rn 2 [6] (mkS 19 [(6,i6 (IntKind.i64.wrap (x_4.Day + x_5.Days)))]) ⟨[(aH s_1)],[]⟩ ?_
  refine ExO.nil ?_
  refine Ex.ret ?_
  obtain rfl:=sJ h
  exact rt (i6 (IntKind.i64.wrap (x_4.Day + x_5.Days)))
theorem aEC (x y : bI) (h : aN x = aN y) : x = y:=by
 have h:=AV.agg.inj h
 simp only [aX,List.cons.injEq,AV.int.injEq,AV.bool.injEq,AV.str.injEq,AV.sl.injEq,true_and,and_true] at h
 obtain ⟨h0,h1,h2⟩:=h
 obtain ⟨x0,x1,x2⟩:=x; obtain ⟨y0,y1,y2⟩:=y; simp_all
theorem aGp (x y : aV) (h : aP x = aP y) : x = y:=by
 have h:=AV.agg.inj h
 simp only [aH,List.cons.injEq,AV.int.injEq,AV.bool.injEq,AV.str.injEq,AV.sl.injEq,true_and,and_true] at h
 obtain ⟨h0,h1⟩:=h
 have h0:=aAH aEC h0
 have h1:=aAH aFr h1
 obtain ⟨x0,x1⟩:=x; obtain ⟨y0,y1⟩:=y; simp_all
theorem aEm (N : Nat) (s_1 : aV) (plan_2 : (List aG)) (job_3 : Int) (s_1z : aV) (plan_2z : (List aG)) (job_3z : Int) (r s : Int) (hr : iN N s_1 plan_2 job_3 = some r) (hs : iN N s_1z plan_2z job_3z = some s) : qH ⟨123,[(aP s_1),.sl (plan_2.map aA) none,i6 job_3],[],cU r,[]⟩ ⟨123,[(aP s_1z),.sl (plan_2z.map aA) none,i6 job_3z],[],cU s,[]⟩:=by
 intro _ h1 h2
 have h1 : ([(aP s_1),.sl (plan_2.map aA) none,i6 job_3] : List AV) = [(aP s_1z),.sl (plan_2z.map aA) none,i6 job_3z]:=h1
 have h2 : ([] : List (List AV)) = []:=h2
 obtain rfl : s_1 = s_1z:=aGp _ _ (List.cons.inj h1).1
 obtain rfl : plan_2 = plan_2z:=(aEG aCH) _ _ (List.cons.inj (List.cons.inj h1).2).1
 obtain rfl : job_3 = job_3z:=(yE _) _ _ (List.cons.inj (List.cons.inj (List.cons.inj h1).2).2).1
 rw [hr] at hs; cases hs; exact ⟨rfl,rfl⟩
def fK (N : Nat) (s_1 : aV) (plan_2 : (List aG)) : Option (Int):=(bif (((plan_2.length : Nat) : Int) != ((s_1.Jobs.length : Nat) : Int)) then some 1 else (letJ (fun (_ : Unit) => (letJ (fun (_ : Unit) => some 0) (fun k_39 => (loop1 (fun rec_43 (i_42 : Int) => (bif (decide (i_42 < ((plan_2.length : Nat) : Int))) then (letJ (fun (_ : Unit) => (rec_43 (IntKind.i64.wrap (i_42 + 1)))) (fun k_47 => (loop1 (fun rec_51 (k_50 : Int) => (bif (decide (k_50 < i_42)) then (letJ (fun (y_55 : Bool) => (bif y_55 then some 10 else (rec_51 (IntKind.i64.wrap (k_50 + 1))))) (fun k_56 => ((getI plan_2 i_42).bind fun x_59 => ((getI plan_2 k_50).bind fun x_60 => (bif (x_59.Worker == x_60.Worker) then ((getI plan_2 i_42).bind fun x_62 => ((iN N s_1 plan_2 k_50).bind fun r_63 => (bif (decide (x_62.Day < r_63)) then ((getI plan_2 k_50).bind fun x_65 => ((iN N s_1 plan_2 i_42).bind fun r_66 => (k_56 (decide (x_65.Day < r_66))))) else (k_56 false)))) else (k_56 false)))))) else (k_47 ()))) N 0))) else (k_39 ()))) N 0)))) (fun k_4 => (loop1 (fun rec_8 (i_7 : Int) => (bif (decide (i_7 < ((plan_2.length : Nat) : Int))) then ((getI plan_2 i_7).bind fun x_12 => ((eV N x_12.Worker 0 (IntKind.i64.wrap (((s_1.Workers.length : Nat) : Int) - 1))).bind fun r_13 => (bif (!r_13) then some 7 else ((getI s_1.Workers x_12.Worker).bind fun x_15 => ((getI s_1.Jobs i_7).bind fun x_16 => ((mQ N x_15 x_16.Skill).bind fun r_17 => (bif (!r_17) then some 3 else ((eV N x_12.Day 0 400).bind fun r_19 => (bif (!r_19) then some 2 else (letJ (fun (_ : Unit) => (rec_8 (IntKind.i64.wrap (i_7 + 1)))) (fun k_21 => (loop1 (fun rec_25 (k_24 : Int) => (bif (decide (k_24 < i_7)) then (letJ (fun (y_29 : Bool) => (bif y_29 then some 9 else (rec_25 (IntKind.i64.wrap (k_24 + 1))))) (fun k_30 => ((getI s_1.Jobs k_24).bind fun x_33 => ((getI s_1.Jobs i_7).bind fun x_34 => (bif (x_33.Float == x_34.Float) then ((iN N s_1 plan_2 k_24).bind fun r_36 => (k_30 (decide (x_12.Day < r_36)))) else (k_30 false)))))) else (k_21 ()))) N 0)))))))))))) else (k_4 ()))) N 0))))
def jD (r : Int) : AV:=i6 r
attribute [local simp] jD
theorem xF (s_1 : aV) (plan_2 : (List aG)) : [(aP s_1),.sl (plan_2.map aA) none].mapM (ren []) = some [(aP s_1),.sl (plan_2.map aA) none]:=by simp
theorem xC (r : Int) (n n2 m : Nat) : back n n2 m (jD r) = some (jD r):=by simp
theorem wY (N : Nat) (s_1 : aV) (plan_2 : (List aG)) (r : Int) (h : fK N s_1 plan_2 = some r) : Does Tryz.prog 98 [(aP s_1),.sl (plan_2.map aA) none] [] fun v c => v = jD r ∧ c = []:=by
 unfold fK at h
 refine Does.ofL comp98 _ _ rfl rfl ?_
 refine Ex.seq (rg 2 [1,2] (mkS 125 [(1,.sl (plan_2.map aA) none),(2,.ptr 0 0)]) ⟨[(aH s_1)],[]⟩ ?_)
 refine Ex.seq (Ex.seq ?_)
 refine regH 6 [(1,.eq (i6 ((plan_2.length : Nat) : Int))),(4,.eq (i6 ((s_1.Jobs.length : Nat) : Int)))] [1,2,15] [AV.int .i64 (((plan_2.map aA).length : Nat) : Int) = AV.int .i64 ((plan_2.length : Nat) : Int),AV.int .i64 (((s_1.Jobs.map aJ).length : Nat) : Int) = AV.int .i64 ((s_1.Jobs.length : Nat) : Int)] (mkS 125 [(1,.sl (plan_2.map aA) none),(2,.ptr 0 0),(15,.bool (((plan_2.length : Nat) : Int) != ((s_1.Jobs.length : Nat) : Int)))]) (⟨[(aH s_1)],[]⟩) (by kernel_rfl) ⟨lenM _ _,lenM _ _,trivial⟩ rfl ?_
 rcases aU h with ⟨hc_3,h⟩ | ⟨hc_3,h⟩
 ·refine Ex.condT _ rfl hc_3 ?_
  refine Ex.seq (rg 1 [4] (mkS 125 [(4,i6 1)]) ⟨[(aH s_1)],[]⟩ ?_)
  refine Ex.ret ?_
  obtain rfl:=sJ h
  exact rt (i6 1)
 ·refine Ex.condF _ rfl hc_3 ?_
  refine Ex.skip ?_
  refine Ex.seq (Ex.seq ?_)
  refine rg 1 [1,2,5] (mkS 125 [(1,.sl (plan_2.map aA) none),(2,.ptr 0 0),(5,i6 0)]) ⟨[(aH s_1)],[]⟩ ?_
  obtain ⟨K_5,hK_6,h⟩:=letE h
  refine Ex.blockJ (fun a S => K_5 () = some r ∧ a = mkS 125 [(1,.sl (plan_2.map aA) none),(2,.ptr 0 0)] ∧ S = ⟨[(aH s_1)],[]⟩) ?_ ?_
  ·obtain ⟨B_9,hB_10,h⟩:=fW h
   refine Ex.loopF (fun k a S => ∃ (i_7 : Int),loop1 B_9 k i_7 = some r ∧ a = mkS 125 [(1,.sl (plan_2.map aA) none),(2,.ptr 0 0),(5,i6 i_7)] ∧ S = ⟨[(aH s_1)],[]⟩) N ⟨_,_,aL.refl _ _ _,0,h,rfl,rfl⟩ ?_
   rintro k a S ⟨i_7,h,rfl,rfl⟩
   cases k with
   | zero => exact (fU h).elim
   | succ k =>
    replace h:=fV h hB_10
    refine Ex.seq (Ex.seq ?_)
    refine regH 4 [(2,.eq (i6 ((plan_2.length : Nat) : Int)))] [1,2,5,19] [AV.int .i64 (((plan_2.map aA).length : Nat) : Int) = AV.int .i64 ((plan_2.length : Nat) : Int)] (mkS 125 [(1,.sl (plan_2.map aA) none),(2,.ptr 0 0),(5,i6 i_7),(19,.bool (decide (i_7 < ((plan_2.length : Nat) : Int))))]) (⟨[(aH s_1)],[]⟩) (by kernel_rfl) ⟨lenM _ _,trivial⟩ rfl ?_
    rcases aU h with ⟨hc_11,h⟩ | ⟨hc_11,h⟩
    ·refine Ex.condT _ rfl hc_11 ?_
     refine Ex.skip ?_
     refine Ex.seq ?_
     refine Ex.blockK ?_
     refine Ex.seq ?_
     obtain ⟨x_12,hx_12,h⟩:=bE h
     refine regH 6 [(2,.rop (aE x_12))] [1,2,5,6] [LGet (plan_2.map aA) i_7 2 (aE x_12)] (mkS 125 [(1,.sl (plan_2.map aA) none),(2,.ptr 0 0),(5,i6 i_7),(6,.ptr 1 0)]) (⟨[(aH s_1),(aE x_12)],[]⟩) (by kernel_rfl) ⟨LGet.of hx_12 rfl,trivial⟩ rfl ?_
     refine Ex.seq (Ex.seq ?_)
     obtain ⟨r_13,hr_13,h⟩:=bE h
     refine Ex.reg ?_
     refine runH 6 [(4,.eq (i6 ((s_1.Workers.length : Nat) : Int)))] [1,2,5,6,27,31] [AV.int .i64 (((s_1.Workers.map aN).length : Nat) : Int) = AV.int .i64 ((s_1.Workers.length : Nat) : Int)] (mkS 125 [(1,.sl (plan_2.map aA) none),(2,.ptr 0 0),(5,i6 i_7),(6,.ptr 1 0),(27,i6 x_12.Worker),(31,i6 (IntKind.i64.wrap (((s_1.Workers.length : Nat) : Int) - 1)))]) (⟨[(aH s_1),(aE x_12)],[]⟩) (by kernel_rfl) ⟨lenM _ _,trivial⟩ ?_
     refine ExO.callL [] [i6 x_12.Worker,i6 0,i6 (IntKind.i64.wrap (((s_1.Workers.length : Nat) : Int) - 1))] rfl rfl (kR x_12.Worker 0 (IntKind.i64.wrap (((s_1.Workers.length : Nat) : Int) - 1))) rfl rfl (kH N x_12.Worker 0 (IntKind.i64.wrap (((s_1.Workers.length : Nat) : Int) - 1)) r_13 hr_13) (kO _ _ _ _) rfl ?_
     refine rn 1 [1,2,5,6,33] (mkS 125 [(1,.sl (plan_2.map aA) none),(2,.ptr 0 0),(5,i6 i_7),(6,.ptr 1 0),(33,.bool (!r_13))]) ⟨[(aH s_1),(aE x_12)],[]⟩ ?_
     refine ExO.nil ?_
     rcases aU h with ⟨hc_14,h⟩ | ⟨hc_14,h⟩
     ·refine Ex.condT _ rfl hc_14 ?_
      refine Ex.seq (rg 1 [4] (mkS 125 [(4,i6 7)]) ⟨[(aH s_1),(aE x_12)],[]⟩ ?_)
      refine Ex.ret ?_
      obtain rfl:=sJ h
      exact rt (i6 7)
     ·refine Ex.condF _ rfl hc_14 ?_
      refine Ex.skip ?_
      refine Ex.seq (Ex.seq ?_)
      obtain ⟨x_15,hx_15,h⟩:=bE h
      obtain ⟨x_16,hx_16,h⟩:=bE h
      refine Ex.drawE (a1:=mkS 125 [(1,.sl (plan_2.map aA) none),(2,.ptr 0 0),(5,i6 i_7),(6,.ptr 1 0),(33,.bool (!r_13)),(34,.ptr 0 0),(35,.sl (s_1.Workers.map aN) none),(36,.ptr 1 0),(37,i6 x_12.Worker),(38,.rop (aX x_15)),(39,(aN x_15)),(40,.ptr 0 1),(41,.sl (s_1.Jobs.map aJ) none),(42,i6 i_7),(43,.rop (aY x_16)),(44,.rop [i6 x_16.Skill,i6 x_16.Days]),(45,i6 x_16.Skill)]) (cD _) [] [] [] ?_ ?_
      ·refine drS [0, 1] 12 [(4, .rop (aX x_15)), (9, .rop (aY x_16))] [LGet (s_1.Workers.map aN) x_12.Worker 3 (aX x_15), LGet (s_1.Jobs.map aJ) i_7 3 (aY x_16)] (mkS 125 [(1, .sl (plan_2.map aA) none), (2, .ptr 0 0), (5, i6 i_7), (6, .ptr 1 0), (33, .bool (!r_13)), (34, .ptr 0 0), (35, .sl (s_1.Workers.map aN) none), (36, .ptr 1 0), (37, i6 x_12.Worker), (38, .rop (aX x_15)), (39, (aN x_15)), (40, .ptr 0 1), (41, .sl (s_1.Jobs.map aJ) none), (42, i6 i_7), (43, .rop (aY x_16)), (44, .rop [i6 x_16.Skill, i6 x_16.Days]), (45, i6 x_16.Skill)]) (by simp) (by kernel_rfl) ⟨LGet.of hx_15 rfl, LGet.of hx_16 rfl, trivial⟩ (by kernel_rfl) ?_
       exact DrO.nil rfl
      ·dsimp only [List.getLastD_cons,List.getLastD_nil]
       obtain ⟨r_17,hr_17,h⟩:=bE h
       refine ExO.callL [] [(aN x_15),i6 x_16.Skill] rfl rfl (aAz x_15 x_16.Skill) rfl rfl (aAr N x_15 x_16.Skill r_17 hr_17) (aAw _ _ _ _) rfl ?_
       refine rn 1 [1,2,5,6,47] (mkS 125 [(1,.sl (plan_2.map aA) none),(2,.ptr 0 0),(5,i6 i_7),(6,.ptr 1 0),(47,.bool (!r_17))]) ⟨[(aH s_1),(aE x_12)],[]⟩ ?_
       refine ExO.nil ?_
       rcases aU h with ⟨hc_18,h⟩ | ⟨hc_18,h⟩
       ·refine Ex.condT _ rfl hc_18 ?_
        refine Ex.seq (rg 1 [4] (mkS 125 [(4,i6 3)]) ⟨[(aH s_1),(aE x_12)],[]⟩ ?_)
        refine Ex.ret ?_
        obtain rfl:=sJ h
        exact rt (i6 3)
       ·refine Ex.condF _ rfl hc_18 ?_
        refine Ex.skip ?_
        refine Ex.seq (Ex.seq ?_)
        obtain ⟨r_19,hr_19,h⟩:=bE h
        refine Ex.reg (rn 2 [1,2,5,6,49] (mkS 125 [(1,.sl (plan_2.map aA) none),(2,.ptr 0 0),(5,i6 i_7),(6,.ptr 1 0),(49,i6 x_12.Day)]) ⟨[(aH s_1),(aE x_12)],[]⟩ ?_)
        refine ExO.callL [] [i6 x_12.Day,i6 0,i6 400] rfl rfl (kR x_12.Day 0 400) rfl rfl (kH N x_12.Day 0 400 r_19 hr_19) (kO _ _ _ _) rfl ?_
        refine rn 1 [1,2,5,6,51] (mkS 125 [(1,.sl (plan_2.map aA) none),(2,.ptr 0 0),(5,i6 i_7),(6,.ptr 1 0),(51,.bool (!r_19))]) ⟨[(aH s_1),(aE x_12)],[]⟩ ?_
        refine ExO.nil ?_
        rcases aU h with ⟨hc_20,h⟩ | ⟨hc_20,h⟩
        ·refine Ex.condT _ rfl hc_20 ?_
         refine Ex.seq (rg 1 [4] (mkS 125 [(4,i6 2)]) ⟨[(aH s_1),(aE x_12)],[]⟩ ?_)
         refine Ex.ret ?_
         obtain rfl:=sJ h
         exact rt (i6 2)
        ·refine Ex.condF _ rfl hc_20 ?_
         refine Ex.skip ?_
         refine Ex.seq (rg 1 [1,2,5,6,7] (mkS 125 [(1,.sl (plan_2.map aA) none),(2,.ptr 0 0),(5,i6 i_7),(6,.ptr 1 0),(7,i6 0)]) ⟨[(aH s_1),(aE x_12)],[]⟩ ?_)
         obtain ⟨K_22,hK_23,h⟩:=letE h
         refine Ex.blockJ (fun a S => K_22 () = some r ∧ a = mkS 125 [(1,.sl (plan_2.map aA) none),(2,.ptr 0 0),(5,i6 i_7)] ∧ S = ⟨[(aH s_1)],[]⟩) ?_ ?_
         ·obtain ⟨B_26,hB_27,h⟩:=fW h
          refine Ex.loopF (fun k a S => ∃ (k_24 : Int),loop1 B_26 k k_24 = some r ∧ a = mkS 125 [(1,.sl (plan_2.map aA) none),(2,.ptr 0 0),(5,i6 i_7),(6,.ptr 1 0),(7,i6 k_24)] ∧ S = ⟨[(aH s_1),(aE x_12)],[]⟩) N ⟨_,_,aL.refl _ _ _,0,h,rfl,rfl⟩ ?_
          rintro k a S ⟨k_24,h,rfl,rfl⟩
          cases k with
          | zero => exact (fU h).elim
          | succ k =>
           replace h:=fV h hB_27
           refine Ex.seq (Ex.seq ?_)
           refine rg 3 [1,2,5,6,7,54] (mkS 125 [(1,.sl (plan_2.map aA) none),(2,.ptr 0 0),(5,i6 i_7),(6,.ptr 1 0),(7,i6 k_24),(54,.bool (decide (k_24 < i_7)))]) ⟨[(aH s_1),(aE x_12)],[]⟩ ?_
           rcases aU h with ⟨hc_28,h⟩ | ⟨hc_28,h⟩
           ·refine Ex.condT _ rfl hc_28 ?_
            refine Ex.skip ?_
            refine Ex.seq ?_
            refine Ex.blockK ?_
            obtain ⟨K_31,hK_32,h⟩:=letE h
            refine Ex.seqJ (fun a S => ∃ (y_29 : Bool),K_31 y_29 = some r ∧ a = mkS 125 [(1,.sl (plan_2.map aA) none),(2,.ptr 0 0),(5,i6 i_7),(6,.ptr 1 0),(7,i6 k_24),(78,.bool y_29)] ∧ S = ⟨[(aH s_1),(aE x_12)],[]⟩) ?_ ?_
            ·obtain ⟨x_33,hx_33,h⟩:=bE h
             obtain ⟨x_34,hx_34,h⟩:=bE h
             rcases aU h with ⟨hc_35,h⟩ | ⟨hc_35,h⟩
             ·obtain ⟨r_36,hr_36,h⟩:=bE h
              have hT_37 : iZ Tryz.prog [⟨123,[(aP s_1),.sl (plan_2.map aA) none,i6 k_24],[],(cU r_36),[]⟩] ∧ gG [⟨123,[(aP s_1),.sl (plan_2.map aA) none,i6 k_24],[],(cU r_36),[]⟩]:=⟨⟨(oU N s_1 plan_2 k_24 r_36 hr_36),rfl,trivial⟩,⟨trivial,trivial⟩⟩
              refine Ex.drawE (a1:=mkS 125 [(1,.sl (plan_2.map aA) none),(2,.ptr 0 0),(5,i6 i_7),(6,.ptr 1 0),(7,i6 k_24),(54,.bool (decide (k_24 < i_7))),(57,.ptr 0 1),(58,.sl (s_1.Jobs.map aJ) none),(59,i6 k_24),(60,.rop (aY x_33)),(61,.rop (aY x_33)),(62,i6 x_33.Float),(63,.ptr 0 1),(64,.sl (s_1.Jobs.map aJ) none),(65,i6 i_7),(66,.rop (aY x_34)),(67,.rop (aY x_34)),(68,i6 x_34.Float),(69,.bool (x_33.Float == x_34.Float)),(70,.bool true),(71,.ptr 1 1),(72,i6 x_12.Day),(73,(aP s_1)),(74,.sl (plan_2.map aA) none),(75,i6 k_24),(76,i6 r_36)]) (gK hT_37.1) [] [] [] ?_ ?_
              ·refine drS [0, 1] 19 [(3, .rop (aY x_33)), (9, .rop (aY x_34)), (13, .eq (.bool true))] [LGet (s_1.Jobs.map aJ) k_24 3 (aY x_33), LGet (s_1.Jobs.map aJ) i_7 3 (aY x_34), AV.bool (x_33.Float == x_34.Float) = AV.bool true] (mkS 125 [(1, .sl (plan_2.map aA) none), (2, .ptr 0 0), (5, i6 i_7), (6, .ptr 1 0), (7, i6 k_24), (54, .bool (decide (k_24 < i_7))), (57, .ptr 0 1), (58, .sl (s_1.Jobs.map aJ) none), (59, i6 k_24), (60, .rop (aY x_33)), (61, .rop (aY x_33)), (62, i6 x_33.Float), (63, .ptr 0 1), (64, .sl (s_1.Jobs.map aJ) none), (65, i6 i_7), (66, .rop (aY x_34)), (67, .rop (aY x_34)), (68, i6 x_34.Float), (69, .bool (x_33.Float == x_34.Float)), (70, .bool true), (71, .ptr 1 1), (72, i6 x_12.Day), (73, (aP s_1)), (74, .sl (plan_2.map aA) none), (75, i6 k_24)]) (by simp) (by kernel_rfl) ⟨LGet.of hx_33 rfl, LGet.of hx_34 rfl, congrArg AV.bool hc_35, trivial⟩ (by kernel_rfl) ?_
               refine drC hT_37.2 0 _ [(aP s_1),.sl (plan_2.map aA) none,i6 k_24] (cU r_36) rfl rfl rfl rfl rfl (fun _ => rfl) rfl (by simp; try rfl) (fun _ => oX _ _ _ _) ?_
               exact DrO.nil rfl
              ·dsimp only [List.getLastD_cons,List.getLastD_nil]
               refine rn 2 [1,2,5,6,7,78] (mkS 125 [(1,.sl (plan_2.map aA) none),(2,.ptr 0 0),(5,i6 i_7),(6,.ptr 1 0),(7,i6 k_24),(78,.bool (decide (x_12.Day < r_36)))]) ⟨[(aH s_1),(aE x_12)],[]⟩ ?_
               refine ExO.nil ?_
               (try simp only [reduceCtorEq,AEx.ex.injEq,Nat.reduceEqDiff,if_true,if_false])
               exact ⟨_,_,aL.refl _ _ _,(decide (x_12.Day < r_36)),h,rfl,rfl⟩
             ·refine yK (cD _) [(3, .rop (aY x_33)), (9, .rop (aY x_34)), (13, .eq (.bool false))] [] [1, 2, 5, 6, 7, 78] [LGet (s_1.Jobs.map aJ) k_24 3 (aY x_33), LGet (s_1.Jobs.map aJ) i_7 3 (aY x_34), AV.bool (x_33.Float == x_34.Float) = AV.bool false] [] (mkS 125 [(1, .sl (plan_2.map aA) none), (2, .ptr 0 0), (5, i6 i_7), (6, .ptr 1 0), (7, i6 k_24), (54, .bool (decide (k_24 < i_7))), (57, .ptr 0 1), (58, .sl (s_1.Jobs.map aJ) none), (59, i6 k_24), (60, .rop (aY x_33)), (61, .rop (aY x_33)), (62, i6 x_33.Float), (63, .ptr 0 1), (64, .sl (s_1.Jobs.map aJ) none), (65, i6 i_7), (66, .rop (aY x_34)), (67, .rop (aY x_34)), (68, i6 x_34.Float), (69, .bool (x_33.Float == x_34.Float)), (70, .bool false), (71, .tup []), (72, .tup []), (73, .tup []), (74, .tup []), (75, .tup []), (76, .tup [])]) (mkS 125 [(1, .sl (plan_2.map aA) none), (2, .ptr 0 0), (5, i6 i_7), (6, .ptr 1 0), (7, i6 k_24), (78, .bool false)]) (by kernel_rfl) (by kernel_rfl) ⟨LGet.of hx_33 rfl, LGet.of hx_34 rfl, congrArg AV.bool hc_35, trivial⟩ (by kernel_rfl) trivial ?_
              (try simp only [reduceCtorEq,AEx.ex.injEq,Nat.reduceEqDiff,if_true,if_false])
              exact ⟨_,_,aL.refl _ _ _,false,h,rfl,rfl⟩
            ·rintro a S ⟨y_29,h,rfl,rfl⟩
             subst hK_32
             rcases aU h with ⟨hc_38,h⟩ | ⟨hc_38,h⟩
             ·refine Ex.condT _ rfl hc_38 ?_
              refine Ex.seq (rg 1 [4] (mkS 125 [(4,i6 9)]) ⟨[(aH s_1),(aE x_12)],[]⟩ ?_)
              refine Ex.ret ?_
              obtain rfl:=sJ h
              exact rt (i6 9)
             ·refine Ex.condF _ rfl hc_38 ?_
              refine Ex.skip ?_
              refine rg 3 [1,2,5,6,7] (mkS 125 [(1,.sl (plan_2.map aA) none),(2,.ptr 0 0),(5,i6 i_7),(6,.ptr 1 0),(7,i6 (IntKind.i64.wrap (k_24 + 1)))]) ⟨[(aH s_1),(aE x_12)],[]⟩ ?_
              dsimp only
              exact ⟨_,_,aL.refl _ _ _,k,Nat.lt_succ_self k,(IntKind.i64.wrap (k_24 + 1)),h,rfl,rfl⟩
           ·refine Ex.condF _ rfl hc_28 ?_
            refine Ex.exit ?_
            (try simp only [reduceCtorEq,AEx.ex.injEq,Nat.reduceEqDiff,if_true,if_false])
            exact ⟨_,_,bU (m:=125) 1 [] [(1,.sl (plan_2.map aA) none),(2,.ptr 0 0),(5,i6 i_7)] [(aH s_1)] [] (by simp [bH]) (by simp) ⟨(reN (cG _)),rfl,rfl,trivial⟩ (by simp) rfl (by decide),h,rfl,rfl⟩
         ·rintro a S ⟨h,rfl,rfl⟩
          subst hK_23
          refine rg 3 [1,2,5] (mkS 125 [(1,.sl (plan_2.map aA) none),(2,.ptr 0 0),(5,i6 (IntKind.i64.wrap (i_7 + 1)))]) ⟨[(aH s_1)],[]⟩ ?_
          dsimp only
          exact ⟨_,_,aL.refl _ _ _,k,Nat.lt_succ_self k,(IntKind.i64.wrap (i_7 + 1)),h,rfl,rfl⟩
    ·refine Ex.condF _ rfl hc_11 ?_
     refine Ex.exit ?_
     (try simp only [reduceCtorEq,AEx.ex.injEq,Nat.reduceEqDiff,if_true,if_false])
     exact ⟨_,_,bS [1,2],h,rfl,rfl⟩
  ·rintro a S ⟨h,rfl,rfl⟩
   subst hK_6
   refine Ex.seq (Ex.seq ?_)
   refine rg 1 [1,2,8] (mkS 125 [(1,.sl (plan_2.map aA) none),(2,.ptr 0 0),(8,i6 0)]) ⟨[(aH s_1)],[]⟩ ?_
   obtain ⟨K_40,hK_41,h⟩:=letE h
   refine Ex.blockJ (fun a S => K_40 () = some r ∧ a = mkS 125 [] ∧ S = ⟨[],[]⟩) ?_ ?_
   ·obtain ⟨B_44,hB_45,h⟩:=fW h
    refine Ex.loopF (fun k a S => ∃ (i_42 : Int),loop1 B_44 k i_42 = some r ∧ a = mkS 125 [(1,.sl (plan_2.map aA) none),(2,.ptr 0 0),(8,i6 i_42)] ∧ S = ⟨[(aH s_1)],[]⟩) N ⟨_,_,aL.refl _ _ _,0,h,rfl,rfl⟩ ?_
    rintro k a S ⟨i_42,h,rfl,rfl⟩
    cases k with
    | zero => exact (fU h).elim
    | succ k =>
     replace h:=fV h hB_45
     refine Ex.seq (Ex.seq ?_)
     refine regH 4 [(2,.eq (i6 ((plan_2.length : Nat) : Int)))] [1,2,8,82] [AV.int .i64 (((plan_2.map aA).length : Nat) : Int) = AV.int .i64 ((plan_2.length : Nat) : Int)] (mkS 125 [(1,.sl (plan_2.map aA) none),(2,.ptr 0 0),(8,i6 i_42),(82,.bool (decide (i_42 < ((plan_2.length : Nat) : Int))))]) (⟨[(aH s_1)],[]⟩) (by kernel_rfl) ⟨lenM _ _,trivial⟩ rfl ?_
     rcases aU h with ⟨hc_46,h⟩ | ⟨hc_46,h⟩
     ·refine Ex.condT _ rfl hc_46 ?_
      refine Ex.skip ?_
      refine Ex.seq ?_
      refine Ex.blockK ?_
      refine Ex.seq (rg 1 [1,2,8,9] (mkS 125 [(1,.sl (plan_2.map aA) none),(2,.ptr 0 0),(8,i6 i_42),(9,i6 0)]) ⟨[(aH s_1)],[]⟩ ?_)
      obtain ⟨K_48,hK_49,h⟩:=letE h
      refine Ex.blockJ (fun a S => K_48 () = some r ∧ a = mkS 125 [(1,.sl (plan_2.map aA) none),(2,.ptr 0 0),(8,i6 i_42)] ∧ S = ⟨[(aH s_1)],[]⟩) ?_ ?_
      ·obtain ⟨B_52,hB_53,h⟩:=fW h
       refine Ex.loopF (fun k a S => ∃ (k_50 : Int),loop1 B_52 k k_50 = some r ∧ a = mkS 125 [(1,.sl (plan_2.map aA) none),(2,.ptr 0 0),(8,i6 i_42),(9,i6 k_50)] ∧ S = ⟨[(aH s_1)],[]⟩) N ⟨_,_,aL.refl _ _ _,0,h,rfl,rfl⟩ ?_
       rintro k a S ⟨k_50,h,rfl,rfl⟩
       cases k with
       | zero => exact (fU h).elim
       | succ k =>
        replace h:=fV h hB_53
        refine Ex.seq (Ex.seq ?_)
        refine rg 3 [1,2,8,9,87] (mkS 125 [(1,.sl (plan_2.map aA) none),(2,.ptr 0 0),(8,i6 i_42),(9,i6 k_50),(87,.bool (decide (k_50 < i_42)))]) ⟨[(aH s_1)],[]⟩ ?_
        rcases aU h with ⟨hc_54,h⟩ | ⟨hc_54,h⟩
        ·refine Ex.condT _ rfl hc_54 ?_
         refine Ex.skip ?_
         refine Ex.seq ?_
         refine Ex.blockK ?_
         obtain ⟨K_57,hK_58,h⟩:=letE h
         refine Ex.seqJ (fun a S => ∃ (y_55 : Bool),K_57 y_55 = some r ∧ a = mkS 125 [(1,.sl (plan_2.map aA) none),(2,.ptr 0 0),(8,i6 i_42),(9,i6 k_50),(124,.bool y_55)] ∧ S = ⟨[(aH s_1)],[]⟩) ?_ ?_
         ·obtain ⟨x_59,hx_59,h⟩:=bE h
          obtain ⟨x_60,hx_60,h⟩:=bE h
          rcases aU h with ⟨hc_61,h⟩ | ⟨hc_61,h⟩
          ·obtain ⟨x_62,hx_62,h⟩:=bE h
           obtain ⟨r_63,hr_63,h⟩:=bE h
           rcases aU h with ⟨hc_64,h⟩ | ⟨hc_64,h⟩
           ·obtain ⟨x_65,hx_65,h⟩:=bE h
            obtain ⟨r_66,hr_66,h⟩:=bE h
            have hT_67 : iZ Tryz.prog [⟨123,[(aP s_1),.sl (plan_2.map aA) none,i6 k_50],[],(cU r_63),[]⟩,⟨123,[(aP s_1),.sl (plan_2.map aA) none,i6 i_42],[],(cU r_66),[]⟩] ∧ gG [⟨123,[(aP s_1),.sl (plan_2.map aA) none,i6 k_50],[],(cU r_63),[]⟩,⟨123,[(aP s_1),.sl (plan_2.map aA) none,i6 i_42],[],(cU r_66),[]⟩]:=⟨⟨(oU N s_1 plan_2 k_50 r_63 hr_63),rfl,(oU N s_1 plan_2 i_42 r_66 hr_66),rfl,trivial⟩,⟨⟨aEm N s_1 plan_2 k_50 s_1 plan_2 i_42 r_63 r_66 hr_63 hr_66,trivial⟩,trivial,trivial⟩⟩
            refine Ex.drawE (a1:=mkS 125 [(1,.sl (plan_2.map aA) none),(2,.ptr 0 0),(8,i6 i_42),(9,i6 k_50),(87,.bool (decide (k_50 < i_42))),(90,.sl (plan_2.map aA) none),(91,i6 i_42),(92,.rop (aE x_59)),(93,.rop (aE x_59)),(94,i6 x_59.Worker),(95,.sl (plan_2.map aA) none),(96,i6 k_50),(97,.rop (aE x_60)),(98,.rop (aE x_60)),(99,i6 x_60.Worker),(100,.bool (x_59.Worker == x_60.Worker)),(101,.bool true),(102,.sl (plan_2.map aA) none),(103,i6 i_42),(104,.rop (aE x_62)),(105,.rop [i6 x_62.Day]),(106,i6 x_62.Day),(107,(aP s_1)),(108,.sl (plan_2.map aA) none),(109,i6 k_50),(110,i6 r_63),(111,.bool (decide (x_62.Day < r_63))),(112,.bool (decide (x_62.Day < r_63))),(113,.bool true),(114,.sl (plan_2.map aA) none),(115,i6 k_50),(116,.rop (aE x_65)),(117,.rop [i6 x_65.Day]),(118,i6 x_65.Day),(119,(aP s_1)),(120,.sl (plan_2.map aA) none),(121,i6 i_42),(122,i6 r_66)]) (gK hT_67.1) [] [] [] ?_ ?_
            ·refine drS [0] 20 [(2, .rop (aE x_59)), (7, .rop (aE x_60)), (11, .eq (.bool true)), (14, .rop (aE x_62))] [LGet (plan_2.map aA) i_42 2 (aE x_59), LGet (plan_2.map aA) k_50 2 (aE x_60), AV.bool (x_59.Worker == x_60.Worker) = AV.bool true, LGet (plan_2.map aA) i_42 2 (aE x_62)] (mkS 125 [(1, .sl (plan_2.map aA) none), (2, .ptr 0 0), (8, i6 i_42), (9, i6 k_50), (87, .bool (decide (k_50 < i_42))), (90, .sl (plan_2.map aA) none), (91, i6 i_42), (92, .rop (aE x_59)), (93, .rop (aE x_59)), (94, i6 x_59.Worker), (95, .sl (plan_2.map aA) none), (96, i6 k_50), (97, .rop (aE x_60)), (98, .rop (aE x_60)), (99, i6 x_60.Worker), (100, .bool (x_59.Worker == x_60.Worker)), (101, .bool true), (102, .sl (plan_2.map aA) none), (103, i6 i_42), (104, .rop (aE x_62)), (105, .rop [i6 x_62.Day]), (106, i6 x_62.Day), (107, (aP s_1)), (108, .sl (plan_2.map aA) none), (109, i6 k_50)]) (by simp) (by kernel_rfl) ⟨LGet.of hx_59 rfl, LGet.of hx_60 rfl, congrArg AV.bool hc_61, LGet.of hx_62 rfl, trivial⟩ (by kernel_rfl) ?_
             refine drC hT_67.2 0 _ [(aP s_1),.sl (plan_2.map aA) none,i6 k_50] (cU r_63) rfl rfl rfl rfl rfl (fun _ => rfl) rfl (by simp; try rfl) (fun _ => oX _ _ _ _) ?_
             refine drS [0] 11 [(2,.eq (.bool true)),(5,.rop (aE x_65))] [AV.bool (decide (x_62.Day < r_63)) = AV.bool true,LGet (plan_2.map aA) k_50 2 (aE x_65)] (mkS 125 [(1,.sl (plan_2.map aA) none),(2,.ptr 0 0),(8,i6 i_42),(9,i6 k_50),(87,.bool (decide (k_50 < i_42))),(90,.sl (plan_2.map aA) none),(91,i6 i_42),(92,.rop (aE x_59)),(93,.rop (aE x_59)),(94,i6 x_59.Worker),(95,.sl (plan_2.map aA) none),(96,i6 k_50),(97,.rop (aE x_60)),(98,.rop (aE x_60)),(99,i6 x_60.Worker),(100,.bool (x_59.Worker == x_60.Worker)),(101,.bool true),(102,.sl (plan_2.map aA) none),(103,i6 i_42),(104,.rop (aE x_62)),(105,.rop [i6 x_62.Day]),(106,i6 x_62.Day),(107,(aP s_1)),(108,.sl (plan_2.map aA) none),(109,i6 k_50),(110,i6 r_63),(111,.bool (decide (x_62.Day < r_63))),(112,.bool (decide (x_62.Day < r_63))),(113,.bool true),(114,.sl (plan_2.map aA) none),(115,i6 k_50),(116,.rop (aE x_65)),(117,.rop [i6 x_65.Day]),(118,i6 x_65.Day),(119,(aP s_1)),(120,.sl (plan_2.map aA) none),(121,i6 i_42)]) (by simp) (by kernel_rfl) ⟨congrArg AV.bool hc_64,LGet.of hx_65 rfl,trivial⟩ (by kernel_rfl) ?_
             refine drC hT_67.2 1 _ [(aP s_1),.sl (plan_2.map aA) none,i6 i_42] (cU r_66) rfl rfl rfl rfl rfl (fun _ => rfl) rfl (by simp; try rfl) (fun _ => oX _ _ _ _) ?_
             exact DrO.nil rfl
            ·dsimp only [List.getLastD_cons,List.getLastD_nil]
             refine rn 2 [1,2,8,9,124] (mkS 125 [(1,.sl (plan_2.map aA) none),(2,.ptr 0 0),(8,i6 i_42),(9,i6 k_50),(124,.bool (decide (x_65.Day < r_66)))]) ⟨[(aH s_1)],[]⟩ ?_
             refine ExO.nil ?_
             (try simp only [reduceCtorEq,AEx.ex.injEq,Nat.reduceEqDiff,if_true,if_false])
             exact ⟨_,_,aL.refl _ _ _,(decide (x_65.Day < r_66)),h,rfl,rfl⟩
           ·have hT_69 : iZ Tryz.prog [⟨123,[(aP s_1),.sl (plan_2.map aA) none,i6 k_50],[],(cU r_63),[]⟩] ∧ gG [⟨123,[(aP s_1),.sl (plan_2.map aA) none,i6 k_50],[],(cU r_63),[]⟩]:=⟨⟨(oU N s_1 plan_2 k_50 r_63 hr_63),rfl,trivial⟩,⟨trivial,trivial⟩⟩
            obtain ⟨X_68,hX_68,hcl_70⟩ : ∃ X : Clr,fA Tryz.prog X ∧ X 123 [(aP s_1),.sl (plan_2.map aA) none,i6 k_50] ⟨[(aH s_1)],[]⟩ = some (cU r_63,none):=⟨_,gK hT_69.1,aAc hT_69.2 0 _ [(aP s_1),.sl (plan_2.map aA) none,i6 k_50] _ rfl rfl rfl rfl (by simp; try rfl) (fun _ => oX _ _ _ _)⟩
            refine yK hX_68 [(2,.rop (aE x_59)),(7,.rop (aE x_60)),(11,.eq (.bool true)),(14,.rop (aE x_62)),(20,.cl (cU r_63)),(23,.eq (.bool false))] [] [1,2,8,9,124] [LGet (plan_2.map aA) i_42 2 (aE x_59),LGet (plan_2.map aA) k_50 2 (aE x_60),AV.bool (x_59.Worker == x_60.Worker) = AV.bool true,LGet (plan_2.map aA) i_42 2 (aE x_62),X_68 123 [(aP s_1),.sl (plan_2.map aA) none,i6 k_50] ⟨[(aH s_1)],[]⟩ = some (cU r_63,none),AV.bool (decide (x_62.Day < r_63)) = AV.bool false] [] (mkS 125 [(1,.sl (plan_2.map aA) none),(2,.ptr 0 0),(8,i6 i_42),(9,i6 k_50),(87,.bool (decide (k_50 < i_42))),(90,.sl (plan_2.map aA) none),(91,i6 i_42),(92,.rop (aE x_59)),(93,.rop (aE x_59)),(94,i6 x_59.Worker),(95,.sl (plan_2.map aA) none),(96,i6 k_50),(97,.rop (aE x_60)),(98,.rop (aE x_60)),(99,i6 x_60.Worker),(100,.bool (x_59.Worker == x_60.Worker)),(101,.bool true),(102,.sl (plan_2.map aA) none),(103,i6 i_42),(104,.rop (aE x_62)),(105,.rop [i6 x_62.Day]),(106,i6 x_62.Day),(107,(aP s_1)),(108,.sl (plan_2.map aA) none),(109,i6 k_50),(110,i6 r_63),(111,.bool (decide (x_62.Day < r_63))),(112,.bool (decide (x_62.Day < r_63))),(113,.bool false),(114,.tup []),(115,.tup []),(116,.tup []),(117,.tup []),(118,.tup []),(119,.tup []),(120,.tup []),(121,.tup []),(122,.tup [])]) (mkS 125 [(1,.sl (plan_2.map aA) none),(2,.ptr 0 0),(8,i6 i_42),(9,i6 k_50),(124,.bool false)]) (by kernel_rfl) (by kernel_rfl) ⟨LGet.of hx_59 rfl,LGet.of hx_60 rfl,congrArg AV.bool hc_61,LGet.of hx_62 rfl,hcl_70,congrArg AV.bool hc_64,trivial⟩ (by kernel_rfl) trivial ?_
            (try simp only [reduceCtorEq,AEx.ex.injEq,Nat.reduceEqDiff,if_true,if_false])
            exact ⟨_,_,aL.refl _ _ _,false,h,rfl,rfl⟩
          ·refine yK (cD _) [(2, .rop (aE x_59)), (7, .rop (aE x_60)), (11, .eq (.bool false))] [] [1, 2, 8, 9, 124] [LGet (plan_2.map aA) i_42 2 (aE x_59), LGet (plan_2.map aA) k_50 2 (aE x_60), AV.bool (x_59.Worker == x_60.Worker) = AV.bool false] [] (mkS 125 [(1, .sl (plan_2.map aA) none), (2, .ptr 0 0), (8, i6 i_42), (9, i6 k_50), (87, .bool (decide (k_50 < i_42))), (90, .sl (plan_2.map aA) none), (91, i6 i_42), (92, .rop (aE x_59)), (93, .rop (aE x_59)), (94, i6 x_59.Worker), (95, .sl (plan_2.map aA) none), (96, i6 k_50), (97, .rop (aE x_60)), (98, .rop (aE x_60)), (99, i6 x_60.Worker), (100, .bool (x_59.Worker == x_60.Worker)), (101, .bool false), (102, .tup []), (103, .tup []), (104, .tup []), (105, .tup []), (106, .tup []), (107, .tup []), (108, .tup []), (109, .tup []), (110, .tup []), (111, .tup []), (112, .bool false), (113, .bool false), (114, .tup []), (115, .tup []), (116, .tup []), (117, .tup []), (118, .tup []), (119, .tup []), (120, .tup []), (121, .tup []), (122, .tup [])]) (mkS 125 [(1, .sl (plan_2.map aA) none), (2, .ptr 0 0), (8, i6 i_42), (9, i6 k_50), (124, .bool false)]) (by kernel_rfl) (by kernel_rfl) ⟨LGet.of hx_59 rfl, LGet.of hx_60 rfl, congrArg AV.bool hc_61, trivial⟩ (by kernel_rfl) trivial ?_
           (try simp only [reduceCtorEq,AEx.ex.injEq,Nat.reduceEqDiff,if_true,if_false])
           exact ⟨_,_,aL.refl _ _ _,false,h,rfl,rfl⟩
         ·rintro a S ⟨y_55,h,rfl,rfl⟩
          subst hK_58
          rcases aU h with ⟨hc_71,h⟩ | ⟨hc_71,h⟩
          ·refine Ex.condT _ rfl hc_71 ?_
           refine Ex.seq (rg 1 [4] (mkS 125 [(4,i6 10)]) ⟨[(aH s_1)],[]⟩ ?_)
           refine Ex.ret ?_
           obtain rfl:=sJ h
           exact rt (i6 10)
          ·refine Ex.condF _ rfl hc_71 ?_
           refine Ex.skip ?_
           refine rg 3 [1,2,8,9] (mkS 125 [(1,.sl (plan_2.map aA) none),(2,.ptr 0 0),(8,i6 i_42),(9,i6 (IntKind.i64.wrap (k_50 + 1)))]) ⟨[(aH s_1)],[]⟩ ?_
           dsimp only
           exact ⟨_,_,aL.refl _ _ _,k,Nat.lt_succ_self k,(IntKind.i64.wrap (k_50 + 1)),h,rfl,rfl⟩
        ·refine Ex.condF _ rfl hc_54 ?_
         refine Ex.exit ?_
         (try simp only [reduceCtorEq,AEx.ex.injEq,Nat.reduceEqDiff,if_true,if_false])
         exact ⟨_,_,bS [1,2,8],h,rfl,rfl⟩
      ·rintro a S ⟨h,rfl,rfl⟩
       subst hK_49
       refine rg 3 [1,2,8] (mkS 125 [(1,.sl (plan_2.map aA) none),(2,.ptr 0 0),(8,i6 (IntKind.i64.wrap (i_42 + 1)))]) ⟨[(aH s_1)],[]⟩ ?_
       dsimp only
       exact ⟨_,_,aL.refl _ _ _,k,Nat.lt_succ_self k,(IntKind.i64.wrap (i_42 + 1)),h,rfl,rfl⟩
     ·refine Ex.condF _ rfl hc_46 ?_
      refine Ex.exit ?_
      (try simp only [reduceCtorEq,AEx.ex.injEq,Nat.reduceEqDiff,if_true,if_false])
      exact ⟨_,_,bU (m:=125) 0 [] [] [] [] (by simp [bH]) (by simp) trivial (by simp) rfl (by decide),h,rfl,rfl⟩
   ·rintro a S ⟨h,rfl,rfl⟩
    subst hK_41
    refine Ex.seq (rg 1 [4] (mkS 125 [(4,i6 0)]) ⟨[],[]⟩ ?_)
    refine Ex.ret ?_
    obtain rfl:=sJ h
    exact rt (i6 0)
def mX (N : Nat) (s_1 : aV) (plan_2 : (List aG)) : Option (Int):=(letJ (fun (n_3 : Int) => some n_3) (fun k_4 => (loop2 (fun rec_9 (n_7 : Int) (i_8 : Int) => (bif (decide (i_8 < ((plan_2.length : Nat) : Int))) then ((iN N s_1 plan_2 i_8).bind fun r_13 => (rec_9 (if r_13 > n_7 then r_13 else n_7) (IntKind.i64.wrap (i_8 + 1)))) else (k_4 n_7))) N 0 0)))
def pA (r : Int) : AV:=i6 r
attribute [local simp] pA
theorem aDm (s_1 : aV) (plan_2 : (List aG)) : [(aP s_1),.sl (plan_2.map aA) none].mapM (ren []) = some [(aP s_1),.sl (plan_2.map aA) none]:=by simp
theorem aDi (r : Int) (n n2 m : Nat) : back n n2 m (pA r) = some (pA r):=by simp
theorem aDb (N : Nat) (s_1 : aV) (plan_2 : (List aG)) (r : Int) (h : mX N s_1 plan_2 = some r) : Does Tryz.prog 99 [(aP s_1),.sl (plan_2.map aA) none] [] fun v c => v = pA r ∧ c = []:=by
 unfold mX at h
 refine Does.ofL comp99 _ _ rfl rfl ?_
 refine Ex.seq (rg 2 [1,2] (mkS 20 [(1,.sl (plan_2.map aA) none),(2,.ptr 0 0)]) ⟨[(aH s_1)],[]⟩ ?_)
 refine Ex.seq (rg 1 [1,2,5] (mkS 20 [(1,.sl (plan_2.map aA) none),(2,.ptr 0 0),(5,i6 0)]) ⟨[(aH s_1)],[]⟩ ?_)
 refine Ex.seq (Ex.seq ?_)
 refine rg 1 [1,2,5,6] (mkS 20 [(1,.sl (plan_2.map aA) none),(2,.ptr 0 0),(5,i6 0),(6,i6 0)]) ⟨[(aH s_1)],[]⟩ ?_
 obtain ⟨K_5,hK_6,h⟩:=letE h
 refine Ex.blockJ (fun a S => ∃ (n_3 : Int),K_5 n_3 = some r ∧ a = mkS 20 [(5,i6 n_3)] ∧ S = ⟨[],[]⟩) ?_ ?_
 ·obtain ⟨B_10,hB_11,h⟩:=kD h
  refine Ex.loopF (fun k a S => ∃ (n_7 : Int),∃ (i_8 : Int),loop2 B_10 k n_7 i_8 = some r ∧ a = mkS 20 [(1,.sl (plan_2.map aA) none),(2,.ptr 0 0),(5,i6 n_7),(6,i6 i_8)] ∧ S = ⟨[(aH s_1)],[]⟩) N ⟨_,_,aL.refl _ _ _,0,0,h,rfl,rfl⟩ ?_
  rintro k a S ⟨n_7,i_8,h,rfl,rfl⟩
  cases k with
  | zero => exact (kB h).elim
  | succ k =>
   replace h:=kC h hB_11
   refine Ex.seq (Ex.seq ?_)
   refine regH 4 [(2,.eq (i6 ((plan_2.length : Nat) : Int)))] [1,2,5,6,10] [AV.int .i64 (((plan_2.map aA).length : Nat) : Int) = AV.int .i64 ((plan_2.length : Nat) : Int)] (mkS 20 [(1,.sl (plan_2.map aA) none),(2,.ptr 0 0),(5,i6 n_7),(6,i6 i_8),(10,.bool (decide (i_8 < ((plan_2.length : Nat) : Int))))]) (⟨[(aH s_1)],[]⟩) (by kernel_rfl) ⟨lenM _ _,trivial⟩ rfl ?_
   rcases aU h with ⟨hc_12,h⟩ | ⟨hc_12,h⟩
   ·refine Ex.condT _ rfl hc_12 ?_
    refine Ex.skip ?_
    refine Ex.seq ?_
    refine Ex.blockK ?_
    obtain ⟨r_13,hr_13,h⟩:=bE h
    refine Ex.reg (rn 4 [1,2,6,13,14,15,16] (mkS 20 [(1,.sl (plan_2.map aA) none),(2,.ptr 0 0),(6,i6 i_8),(13,i6 n_7),(14,(aP s_1)),(15,.sl (plan_2.map aA) none),(16,i6 i_8)]) ⟨[(aH s_1)],[]⟩ ?_)
    refine ExO.callL [] [(aP s_1),.sl (plan_2.map aA) none,i6 i_8] rfl rfl (aEx s_1 plan_2 i_8) rfl rfl (oU N s_1 plan_2 i_8 r_13 hr_13) (oX _ _ _ _) rfl ?_
    refine rn 2 [1,2,5,6] (mkS 20 [(1,.sl (plan_2.map aA) none),(2,.ptr 0 0),(5,i6 (if r_13 > n_7 then r_13 else n_7)),(6,i6 i_8)]) ⟨[(aH s_1)],[]⟩ ?_
    refine ExO.nil ?_
    refine rg 3 [1,2,5,6] (mkS 20 [(1,.sl (plan_2.map aA) none),(2,.ptr 0 0),(5,i6 (if r_13 > n_7 then r_13 else n_7)),(6,i6 (IntKind.i64.wrap (i_8 + 1)))]) ⟨[(aH s_1)],[]⟩ ?_
    dsimp only
    exact ⟨_,_,aL.refl _ _ _,k,Nat.lt_succ_self k,(if r_13 > n_7 then r_13 else n_7),(IntKind.i64.wrap (i_8 + 1)),h,rfl,rfl⟩
   ·refine Ex.condF _ rfl hc_12 ?_
    refine Ex.exit ?_
    (try simp only [reduceCtorEq,AEx.ex.injEq,Nat.reduceEqDiff,if_true,if_false])
    exact ⟨_,_,bU (m:=20) 0 [] [(5,i6 n_7)] [] [] (by simp [bH]) (by simp) ⟨rfl,trivial⟩ (by simp) rfl (by decide),n_7,h,rfl,rfl⟩
 ·rintro a S ⟨n_3,h,rfl,rfl⟩
  subst hK_6
  refine Ex.seq (rg 2 [4] (mkS 20 [(4,i6 n_3)]) ⟨[],[]⟩ ?_)
  refine Ex.ret ?_
  obtain rfl:=sJ h
  exact rt (i6 n_3)
def jQ (N : Nat) (s_1 : aV) (plan_2 : (List aG)) : Option (Int × Int):=((lO N s_1).bind fun r_3 => (bif (r_3 != 0) then some (0,r_3) else ((fK N s_1 plan_2).bind fun r_5 => (bif (r_5 != 0) then some (0,r_5) else ((mX N s_1 plan_2).bind fun r_7 => some (r_7,0))))))
def nQ (r : Int × Int) : AV:=.tup [i6 r.1,i6 r.2]
attribute [local simp] nQ
theorem aCA (s_1 : aV) (plan_2 : (List aG)) : [(aP s_1),.sl (plan_2.map aA) none].mapM (ren []) = some [(aP s_1),.sl (plan_2.map aA) none]:=by simp
theorem aCs (r : Int × Int) (n n2 m : Nat) : back n n2 m (nQ r) = some (nQ r):=by simp
theorem aCb (N : Nat) (s_1 : aV) (plan_2 : (List aG)) (r : Int × Int) (h : jQ N s_1 plan_2 = some r) : Does Tryz.prog 71 [(aP s_1),.sl (plan_2.map aA) none] [] fun v c => v = nQ r ∧ c = []:=by
 unfold jQ at h
 refine Does.ofL comp71 _ _ rfl rfl ?_
 refine Ex.seq (rg 3 [1,2] (mkS 22 [(1,.sl (plan_2.map aA) none),(2,.ptr 0 0)]) ⟨[(aH s_1)],[]⟩ ?_)
 refine Ex.seq (Ex.seq ?_)
 obtain ⟨r_3,hr_3,h⟩:=bE h
 refine Ex.reg (rn 1 [1,2,8] (mkS 22 [(1,.sl (plan_2.map aA) none),(2,.ptr 0 0),(8,(aP s_1))]) ⟨[(aH s_1)],[]⟩ ?_)
 refine ExO.callL [] [(aP s_1)] rfl rfl (aCB s_1) rfl rfl (aCc N s_1 r_3 hr_3) (aCt _ _ _ _) rfl ?_
 refine rn 1 [1,2,6] (mkS 22 [(1,.sl (plan_2.map aA) none),(2,.ptr 0 0),(6,i6 r_3)]) ⟨[(aH s_1)],[]⟩ ?_
 refine ExO.nil ?_
 refine Ex.seq (rg 2 [1,2,6,11] (mkS 22 [(1,.sl (plan_2.map aA) none),(2,.ptr 0 0),(6,i6 r_3),(11,.bool (r_3 != 0))]) ⟨[(aH s_1)],[]⟩ ?_)
 rcases aU h with ⟨hc_4,h⟩ | ⟨hc_4,h⟩
 ·refine Ex.condT _ rfl hc_4 ?_
  refine Ex.seq (rg 3 [4,5] (mkS 22 [(4,i6 0),(5,i6 r_3)]) ⟨[(aH s_1)],[]⟩ ?_)
  refine Ex.ret ?_
  obtain rfl:=sJ h
  exact rt (.tup [i6 0,i6 r_3])
 ·refine Ex.condF _ rfl hc_4 ?_
  refine Ex.skip ?_
  refine Ex.seq (Ex.seq ?_)
  obtain ⟨r_5,hr_5,h⟩:=bE h
  refine Ex.reg (rn 2 [1,2,13,14] (mkS 22 [(1,.sl (plan_2.map aA) none),(2,.ptr 0 0),(13,(aP s_1)),(14,.sl (plan_2.map aA) none)]) ⟨[(aH s_1)],[]⟩ ?_)
  refine ExO.callL [] [(aP s_1),.sl (plan_2.map aA) none] rfl rfl (xF s_1 plan_2) rfl rfl (wY N s_1 plan_2 r_5 hr_5) (xC _ _ _ _) rfl ?_
  refine rn 1 [1,2,7] (mkS 22 [(1,.sl (plan_2.map aA) none),(2,.ptr 0 0),(7,i6 r_5)]) ⟨[(aH s_1)],[]⟩ ?_
  refine ExO.nil ?_
  refine Ex.seq (rg 2 [1,2,7,17] (mkS 22 [(1,.sl (plan_2.map aA) none),(2,.ptr 0 0),(7,i6 r_5),(17,.bool (r_5 != 0))]) ⟨[(aH s_1)],[]⟩ ?_)
  rcases aU h with ⟨hc_6,h⟩ | ⟨hc_6,h⟩
  ·refine Ex.condT _ rfl hc_6 ?_
   refine Ex.seq (rg 3 [4,5] (mkS 22 [(4,i6 0),(5,i6 r_5)]) ⟨[(aH s_1)],[]⟩ ?_)
   refine Ex.ret ?_
   obtain rfl:=sJ h
   exact rt (.tup [i6 0,i6 r_5])
  ·refine Ex.condF _ rfl hc_6 ?_
   refine Ex.skip ?_
   refine Ex.seq ?_
   obtain ⟨r_7,hr_7,h⟩:=bE h
   refine Ex.reg (rn 2 [19,20] (mkS 22 [(19,(aP s_1)),(20,.sl (plan_2.map aA) none)]) ⟨[(aH s_1)],[]⟩ ?_)
   refine ExO.callL [] [(aP s_1),.sl (plan_2.map aA) none] rfl rfl (aDm s_1 plan_2) rfl rfl (aDb N s_1 plan_2 r_7 hr_7) (aDi _ _ _ _) rfl ?_
   refine rn 2 [4,5] (mkS 22 [(4,i6 r_7),(5,i6 0)]) ⟨[(aH s_1)],[]⟩ ?_
   refine ExO.nil ?_
   refine Ex.ret ?_
   obtain rfl:=sJ h
   exact rt (.tup [i6 r_7,i6 0])
def jZ (N : Nat) (a_1 : (List aG)) (b_2 : (List aG)) : Option (Bool):=(letJ (fun (_ : Unit) => (letJ (fun (_ : Unit) => some false) (fun k_16 => (loop1 (fun rec_20 (i_19 : Int) => (bif (decide (i_19 < ((a_1.length : Nat) : Int))) then ((getI a_1 i_19).bind fun x_24 => ((getI b_2 i_19).bind fun x_25 => (bif (x_24.Worker != x_25.Worker) then ((getI a_1 i_19).bind fun x_27 => ((getI b_2 i_19).bind fun x_28 => some (decide (x_27.Worker < x_28.Worker)))) else (rec_20 (IntKind.i64.wrap (i_19 + 1)))))) else (k_16 ()))) N 0)))) (fun k_3 => (loop1 (fun rec_7 (i_6 : Int) => (bif (decide (i_6 < ((a_1.length : Nat) : Int))) then ((getI a_1 i_6).bind fun x_11 => ((getI b_2 i_6).bind fun x_12 => (bif (x_11.Day != x_12.Day) then ((getI a_1 i_6).bind fun x_14 => ((getI b_2 i_6).bind fun x_15 => some (decide (x_14.Day < x_15.Day)))) else (rec_7 (IntKind.i64.wrap (i_6 + 1)))))) else (k_3 ()))) N 0)))
def mK (r : Bool) : AV:=.bool r
attribute [local simp] mK
theorem aBw (a_1 : (List aG)) (b_2 : (List aG)) : [.sl (a_1.map aA) none,.sl (b_2.map aA) none].mapM (ren []) = some [.sl (a_1.map aA) none,.sl (b_2.map aA) none]:=by simp
theorem aBn (r : Bool) (n n2 m : Nat) : back n n2 m (mK r) = some (mK r):=by simp
theorem aBa (N : Nat) (a_1 : (List aG)) (b_2 : (List aG)) (r : Bool) (h : jZ N a_1 b_2 = some r) : Does Tryz.prog 72 [.sl (a_1.map aA) none,.sl (b_2.map aA) none] [] fun v c => v = mK r ∧ c = []:=by
 unfold jZ at h
 refine Does.ofL comp72 _ _ rfl rfl ?_
 refine Ex.seq (rg 1 [0,1] (mkS 63 [(0,.sl (a_1.map aA) none),(1,.sl (b_2.map aA) none)]) ⟨[],[]⟩ ?_)
 refine Ex.seq (Ex.seq ?_)
 refine rg 1 [0,1,5] (mkS 63 [(0,.sl (a_1.map aA) none),(1,.sl (b_2.map aA) none),(5,i6 0)]) ⟨[],[]⟩ ?_
 obtain ⟨K_4,hK_5,h⟩:=letE h
 refine Ex.blockJ (fun a S => K_4 () = some r ∧ a = mkS 63 [(0,.sl (a_1.map aA) none),(1,.sl (b_2.map aA) none)] ∧ S = ⟨[],[]⟩) ?_ ?_
 ·obtain ⟨B_8,hB_9,h⟩:=fW h
  refine Ex.loopF (fun k a S => ∃ (i_6 : Int),loop1 B_8 k i_6 = some r ∧ a = mkS 63 [(0,.sl (a_1.map aA) none),(1,.sl (b_2.map aA) none),(5,i6 i_6)] ∧ S = ⟨[],[]⟩) N ⟨_,_,aL.refl _ _ _,0,h,rfl,rfl⟩ ?_
  rintro k a S ⟨i_6,h,rfl,rfl⟩
  cases k with
  | zero => exact (fU h).elim
  | succ k =>
   replace h:=fV h hB_9
   refine Ex.seq (Ex.seq ?_)
   refine regH 4 [(2,.eq (i6 ((a_1.length : Nat) : Int)))] [0,1,5,10] [AV.int .i64 (((a_1.map aA).length : Nat) : Int) = AV.int .i64 ((a_1.length : Nat) : Int)] (mkS 63 [(0,.sl (a_1.map aA) none),(1,.sl (b_2.map aA) none),(5,i6 i_6),(10,.bool (decide (i_6 < ((a_1.length : Nat) : Int))))]) (⟨[],[]⟩) (by kernel_rfl) ⟨lenM _ _,trivial⟩ rfl ?_
   rcases aU h with ⟨hc_10,h⟩ | ⟨hc_10,h⟩
   ·refine Ex.condT _ rfl hc_10 ?_
    refine Ex.skip ?_
    refine Ex.seq ?_
    refine Ex.blockK ?_
    refine Ex.seq ?_
    obtain ⟨x_11,hx_11,h⟩:=bE h
    obtain ⟨x_12,hx_12,h⟩:=bE h
    refine Ex.drawE (a1:=mkS 63 [(0,.sl (a_1.map aA) none),(1,.sl (b_2.map aA) none),(5,i6 i_6),(10,.bool (decide (i_6 < ((a_1.length : Nat) : Int)))),(13,.sl (a_1.map aA) none),(14,i6 i_6),(15,.rop (aE x_11)),(16,.rop [i6 x_11.Day]),(17,i6 x_11.Day),(18,.sl (b_2.map aA) none),(19,i6 i_6),(20,.rop (aE x_12)),(21,.rop [i6 x_12.Day]),(22,i6 x_12.Day)]) (cD _) [] [] [] ?_ ?_
    ·refine drS [] 10 [(2, .rop (aE x_11)), (7, .rop (aE x_12))] [LGet (a_1.map aA) i_6 2 (aE x_11), LGet (b_2.map aA) i_6 2 (aE x_12)] (mkS 63 [(0, .sl (a_1.map aA) none), (1, .sl (b_2.map aA) none), (5, i6 i_6), (10, .bool (decide (i_6 < ((a_1.length : Nat) : Int)))), (13, .sl (a_1.map aA) none), (14, i6 i_6), (15, .rop (aE x_11)), (16, .rop [i6 x_11.Day]), (17, i6 x_11.Day), (18, .sl (b_2.map aA) none), (19, i6 i_6), (20, .rop (aE x_12)), (21, .rop [i6 x_12.Day]), (22, i6 x_12.Day)]) (by simp) (by kernel_rfl) ⟨LGet.of hx_11 rfl, LGet.of hx_12 rfl, trivial⟩ (by kernel_rfl) ?_
     exact DrO.nil rfl
    ·dsimp only [List.getLastD_cons,List.getLastD_nil]
     refine rn 1 [0,1,5,23] (mkS 63 [(0,.sl (a_1.map aA) none),(1,.sl (b_2.map aA) none),(5,i6 i_6),(23,.bool (x_11.Day != x_12.Day))]) ⟨[],[]⟩ ?_
     refine ExO.nil ?_
     rcases aU h with ⟨hc_13,h⟩ | ⟨hc_13,h⟩
     ·refine Ex.condT _ rfl hc_13 ?_
      refine Ex.seq ?_
      obtain ⟨x_14,hx_14,h⟩:=bE h
      obtain ⟨x_15,hx_15,h⟩:=bE h
      refine Ex.drawE (a1:=mkS 63 [(0,.sl (a_1.map aA) none),(1,.sl (b_2.map aA) none),(5,i6 i_6),(23,.bool (x_11.Day != x_12.Day)),(24,.sl (a_1.map aA) none),(25,i6 i_6),(26,.rop (aE x_14)),(27,.rop [i6 x_14.Day]),(28,i6 x_14.Day),(29,.sl (b_2.map aA) none),(30,i6 i_6),(31,.rop (aE x_15)),(32,.rop [i6 x_15.Day]),(33,i6 x_15.Day)]) (cD _) [] [] [] ?_ ?_
      ·refine drS [] 10 [(2, .rop (aE x_14)), (7, .rop (aE x_15))] [LGet (a_1.map aA) i_6 2 (aE x_14), LGet (b_2.map aA) i_6 2 (aE x_15)] (mkS 63 [(0, .sl (a_1.map aA) none), (1, .sl (b_2.map aA) none), (5, i6 i_6), (23, .bool (x_11.Day != x_12.Day)), (24, .sl (a_1.map aA) none), (25, i6 i_6), (26, .rop (aE x_14)), (27, .rop [i6 x_14.Day]), (28, i6 x_14.Day), (29, .sl (b_2.map aA) none), (30, i6 i_6), (31, .rop (aE x_15)), (32, .rop [i6 x_15.Day]), (33, i6 x_15.Day)]) (by simp) (by kernel_rfl) ⟨LGet.of hx_14 rfl, LGet.of hx_15 rfl, trivial⟩ (by kernel_rfl) ?_
       exact DrO.nil rfl
      ·dsimp only [List.getLastD_cons,List.getLastD_nil]
       refine rn 2 [4] (mkS 63 [(4,.bool (decide (x_14.Day < x_15.Day)))]) ⟨[],[]⟩ ?_
       refine ExO.nil ?_
       refine Ex.ret ?_
       obtain rfl:=sJ h
       exact rt (.bool (decide (x_14.Day < x_15.Day)))
     ·refine Ex.condF _ rfl hc_13 ?_
      refine Ex.skip ?_
      refine rg 3 [0,1,5] (mkS 63 [(0,.sl (a_1.map aA) none),(1,.sl (b_2.map aA) none),(5,i6 (IntKind.i64.wrap (i_6 + 1)))]) ⟨[],[]⟩ ?_
      dsimp only
      exact ⟨_,_,aL.refl _ _ _,k,Nat.lt_succ_self k,(IntKind.i64.wrap (i_6 + 1)),h,rfl,rfl⟩
   ·refine Ex.condF _ rfl hc_10 ?_
    refine Ex.exit ?_
    (try simp only [reduceCtorEq,AEx.ex.injEq,Nat.reduceEqDiff,if_true,if_false])
    exact ⟨_,_,bS [0,1],h,rfl,rfl⟩
 ·rintro a S ⟨h,rfl,rfl⟩
  subst hK_5
  refine Ex.seq (Ex.seq ?_)
  refine rg 1 [0,1,6] (mkS 63 [(0,.sl (a_1.map aA) none),(1,.sl (b_2.map aA) none),(6,i6 0)]) ⟨[],[]⟩ ?_
  obtain ⟨K_17,hK_18,h⟩:=letE h
  refine Ex.blockJ (fun a S => K_17 () = some r ∧ a = mkS 63 [] ∧ S = ⟨[],[]⟩) ?_ ?_
  ·obtain ⟨B_21,hB_22,h⟩:=fW h
   refine Ex.loopF (fun k a S => ∃ (i_19 : Int),loop1 B_21 k i_19 = some r ∧ a = mkS 63 [(0,.sl (a_1.map aA) none),(1,.sl (b_2.map aA) none),(6,i6 i_19)] ∧ S = ⟨[],[]⟩) N ⟨_,_,aL.refl _ _ _,0,h,rfl,rfl⟩ ?_
   rintro k a S ⟨i_19,h,rfl,rfl⟩
   cases k with
   | zero => exact (fU h).elim
   | succ k =>
    replace h:=fV h hB_22
    refine Ex.seq (Ex.seq ?_)
    refine regH 4 [(2,.eq (i6 ((a_1.length : Nat) : Int)))] [0,1,6,38] [AV.int .i64 (((a_1.map aA).length : Nat) : Int) = AV.int .i64 ((a_1.length : Nat) : Int)] (mkS 63 [(0,.sl (a_1.map aA) none),(1,.sl (b_2.map aA) none),(6,i6 i_19),(38,.bool (decide (i_19 < ((a_1.length : Nat) : Int))))]) (⟨[],[]⟩) (by kernel_rfl) ⟨lenM _ _,trivial⟩ rfl ?_
    rcases aU h with ⟨hc_23,h⟩ | ⟨hc_23,h⟩
    ·refine Ex.condT _ rfl hc_23 ?_
     refine Ex.skip ?_
     refine Ex.seq ?_
     refine Ex.blockK ?_
     refine Ex.seq ?_
     obtain ⟨x_24,hx_24,h⟩:=bE h
     obtain ⟨x_25,hx_25,h⟩:=bE h
     refine Ex.drawE (a1:=mkS 63 [(0,.sl (a_1.map aA) none),(1,.sl (b_2.map aA) none),(6,i6 i_19),(38,.bool (decide (i_19 < ((a_1.length : Nat) : Int)))),(41,.sl (a_1.map aA) none),(42,i6 i_19),(43,.rop (aE x_24)),(44,.rop (aE x_24)),(45,i6 x_24.Worker),(46,.sl (b_2.map aA) none),(47,i6 i_19),(48,.rop (aE x_25)),(49,.rop (aE x_25)),(50,i6 x_25.Worker)]) (cD _) [] [] [] ?_ ?_
     ·refine drS [] 10 [(2, .rop (aE x_24)), (7, .rop (aE x_25))] [LGet (a_1.map aA) i_19 2 (aE x_24), LGet (b_2.map aA) i_19 2 (aE x_25)] (mkS 63 [(0, .sl (a_1.map aA) none), (1, .sl (b_2.map aA) none), (6, i6 i_19), (38, .bool (decide (i_19 < ((a_1.length : Nat) : Int)))), (41, .sl (a_1.map aA) none), (42, i6 i_19), (43, .rop (aE x_24)), (44, .rop (aE x_24)), (45, i6 x_24.Worker), (46, .sl (b_2.map aA) none), (47, i6 i_19), (48, .rop (aE x_25)), (49, .rop (aE x_25)), (50, i6 x_25.Worker)]) (by simp) (by kernel_rfl) ⟨LGet.of hx_24 rfl, LGet.of hx_25 rfl, trivial⟩ (by kernel_rfl) ?_
      exact DrO.nil rfl
     ·dsimp only [List.getLastD_cons,List.getLastD_nil]
      refine rn 1 [0,1,6,51] (mkS 63 [(0,.sl (a_1.map aA) none),(1,.sl (b_2.map aA) none),(6,i6 i_19),(51,.bool (x_24.Worker != x_25.Worker))]) ⟨[],[]⟩ ?_
      refine ExO.nil ?_
      rcases aU h with ⟨hc_26,h⟩ | ⟨hc_26,h⟩
      ·refine Ex.condT _ rfl hc_26 ?_
       refine Ex.seq ?_
       obtain ⟨x_27,hx_27,h⟩:=bE h
       obtain ⟨x_28,hx_28,h⟩:=bE h
       refine Ex.drawE (a1:=mkS 63 [(0,.sl (a_1.map aA) none),(1,.sl (b_2.map aA) none),(6,i6 i_19),(51,.bool (x_24.Worker != x_25.Worker)),(52,.sl (a_1.map aA) none),(53,i6 i_19),(54,.rop (aE x_27)),(55,.rop (aE x_27)),(56,i6 x_27.Worker),(57,.sl (b_2.map aA) none),(58,i6 i_19),(59,.rop (aE x_28)),(60,.rop (aE x_28)),(61,i6 x_28.Worker)]) (cD _) [] [] [] ?_ ?_
       ·refine drS [] 10 [(2, .rop (aE x_27)), (7, .rop (aE x_28))] [LGet (a_1.map aA) i_19 2 (aE x_27), LGet (b_2.map aA) i_19 2 (aE x_28)] (mkS 63 [(0, .sl (a_1.map aA) none), (1, .sl (b_2.map aA) none), (6, i6 i_19), (51, .bool (x_24.Worker != x_25.Worker)), (52, .sl (a_1.map aA) none), (53, i6 i_19), (54, .rop (aE x_27)), (55, .rop (aE x_27)), (56, i6 x_27.Worker), (57, .sl (b_2.map aA) none), (58, i6 i_19), (59, .rop (aE x_28)), (60, .rop (aE x_28)), (61, i6 x_28.Worker)]) (by simp) (by kernel_rfl) ⟨LGet.of hx_27 rfl, LGet.of hx_28 rfl, trivial⟩ (by kernel_rfl) ?_
        exact DrO.nil rfl
       ·dsimp only [List.getLastD_cons,List.getLastD_nil]
        refine rn 2 [4] (mkS 63 [(4,.bool (decide (x_27.Worker < x_28.Worker)))]) ⟨[],[]⟩ ?_
        refine ExO.nil ?_
        refine Ex.ret ?_
        obtain rfl:=sJ h
        exact rt (.bool (decide (x_27.Worker < x_28.Worker)))
      ·refine Ex.condF _ rfl hc_26 ?_
       refine Ex.skip ?_
       refine rg 3 [0,1,6] (mkS 63 [(0,.sl (a_1.map aA) none),(1,.sl (b_2.map aA) none),(6,i6 (IntKind.i64.wrap (i_19 + 1)))]) ⟨[],[]⟩ ?_
       dsimp only
       exact ⟨_,_,aL.refl _ _ _,k,Nat.lt_succ_self k,(IntKind.i64.wrap (i_19 + 1)),h,rfl,rfl⟩
    ·refine Ex.condF _ rfl hc_23 ?_
     refine Ex.exit ?_
     (try simp only [reduceCtorEq,AEx.ex.injEq,Nat.reduceEqDiff,if_true,if_false])
     exact ⟨_,_,bS [],h,rfl,rfl⟩
  ·rintro a S ⟨h,rfl,rfl⟩
   subst hK_18
   refine Ex.seq (rg 1 [4] (mkS 63 [(4,.bool false)]) ⟨[],[]⟩ ?_)
   refine Ex.ret ?_
   obtain rfl:=sJ h
   exact rt (.bool false)
def hZ (N : Nat) (l_1 : (List aG)) : Option ((List aG)):=((lN ([] : List aG) l_1).bind fun l_2 => some l_2)
def xQ (r : (List aG)) : AV:=.sl (r.map aA) none
attribute [local simp] xQ
theorem xR (N : Nat) (l_1 : (List aG)) (r : (List aG)) (h : hZ N l_1 = some r) : wU Tryz.prog ⟨34,[.sl (l_1.map aA) none],r.map aA,r.length,2⟩:=by
 refine ⟨?_,(cG _),by simp⟩
 unfold hZ at h
 refine aAB.of comp34 ?_
 refine Ex.seq (rg 1 [0] (mkS 6 [(0,.sl (l_1.map aA) none)]) ⟨[],[]⟩ ?_)
 refine Ex.seq ?_
 obtain ⟨l_2,hl_2,h⟩:=bE h
 refine regH 4 [(2,.apps (l_1.map aA) (l_2.map aA) l_2.length)] [2] [uY 0 (([] : List aG).map aA) (l_1.map aA) (l_1.map aA) 2 (l_2.map aA) l_2.length] (mkS 6 [(2,.sl (l_2.map aA) (some 0))]) (⟨[],[(l_2.length,2)]⟩) (by kernel_rfl) ⟨uY.of hl_2 (fun _ => rfl) (fun _ => rfl) (fun _ => rfl),trivial⟩ rfl ?_
 refine Ex.ret ?_
 obtain rfl:=sJ h
 exact ⟨.inr rfl,.sl (l_2.map aA) (some 0),by kernel_rfl,0,by kernel_rfl,by kernel_rfl⟩
def eW : Nat → aV → (List aG) → (List aG) → Int → Int → Option (Bool)
 | 0,_,_,_,_,_ => none
 | N + 1,s_1,l_2,best_3,days_4,last_5 => (bif (((l_2.length : Nat) : Int) == ((s_1.Jobs.length : Nat) : Int)) then ((jQ N s_1 l_2).bind fun r_7 => (bif (r_7.2 == 0) then (bif (decide (r_7.1 < days_4)) then some true else (bif (r_7.1 == days_4) then ((jZ N l_2 best_3).bind fun r_11 => some r_11) else some false)) else some false)) else (letJ (fun (_ : Unit) => some false) (fun k_12 => (loop1 (fun rec_16 (w_15 : Int) => (bif (decide (w_15 < ((s_1.Workers.length : Nat) : Int))) then (letJ (fun (_ : Unit) => (rec_16 (IntKind.i64.wrap (w_15 + 1)))) (fun k_20 => (loop1 (fun rec_24 (day_23 : Int) => (letJ (fun (y_27 : Bool) => (bif y_27 then ((hZ N l_2).bind fun r_36 => ((lN r_36 ([(⟨w_15,day_23⟩ : aG)] : List aG)).bind fun l_37 => ((eW N s_1 l_37 best_3 days_4 last_5).bind fun r_39 => (bif r_39 then some true else (rec_24 (IntKind.i64.wrap (day_23 + 1))))))) else (k_20 ()))) (fun k_28 => (bif (decide (day_23 ≤ last_5)) then ((getI s_1.Workers w_15).bind fun x_32 => ((getI s_1.Jobs ((l_2.length : Nat) : Int)).bind fun x_33 => ((mQ N x_32 x_33.Skill).bind fun r_34 => (k_28 r_34)))) else (k_28 false))))) N 0))) else (k_12 ()))) N 0))))
def mN (r : Bool) : AV:=.bool r
attribute [local simp] mN
theorem uW (s_1 : aV) (l_2 : (List aG)) (best_3 : (List aG)) (days_4 : Int) (last_5 : Int) : [(aP s_1),.sl (l_2.map aA) none,.sl (best_3.map aA) none,i6 days_4,i6 last_5].mapM (ren []) = some [(aP s_1),.sl (l_2.map aA) none,.sl (best_3.map aA) none,i6 days_4,i6 last_5]:=by simp
theorem uQ (r : Bool) (n n2 m : Nat) : back n n2 m (mN r) = some (mN r):=by simp
theorem aBd (N : Nat) (s_1 : aV) (l_2 : (List aG)) (best_3 : (List aG)) (days_4 : Int) (last_5 : Int) (r : Bool) (h : eW N s_1 l_2 best_3 days_4 last_5 = some r) : Does Tryz.prog 31 [(aP s_1),.sl (l_2.map aA) none,.sl (best_3.map aA) none,i6 days_4,i6 last_5] [] fun v c => v = mN r ∧ c = []:=by
 induction N generalizing s_1 l_2 best_3 days_4 last_5 r with
 | zero => simp [eW] at h
 | succ N ih =>
  rw [eW] at h
  refine Does.ofL comp31 _ _ rfl rfl ?_
  refine Ex.seq (rg 2 [1,2,3,4,5] (mkS 84 [(1,.sl (l_2.map aA) none),(2,.sl (best_3.map aA) none),(3,i6 days_4),(4,i6 last_5),(5,.ptr 0 0)]) ⟨[(aH s_1)],[]⟩ ?_)
  refine Ex.seq ?_
  refine regH 3 [(1,.eq (i6 ((l_2.length : Nat) : Int)))] [1,2,3,4,5,11] [AV.int .i64 (((l_2.map aA).length : Nat) : Int) = AV.int .i64 ((l_2.length : Nat) : Int)] (mkS 84 [(1,.sl (l_2.map aA) none),(2,.sl (best_3.map aA) none),(3,i6 days_4),(4,i6 last_5),(5,.ptr 0 0),(11,i6 ((l_2.length : Nat) : Int))]) (⟨[(aH s_1)],[]⟩) (by kernel_rfl) ⟨lenM _ _,trivial⟩ rfl ?_
  refine Ex.seq (Ex.seq ?_)
  refine regH 5 [(3,.eq (i6 ((s_1.Jobs.length : Nat) : Int)))] [1,2,3,4,5,11,22] [AV.int .i64 (((s_1.Jobs.map aJ).length : Nat) : Int) = AV.int .i64 ((s_1.Jobs.length : Nat) : Int)] (mkS 84 [(1,.sl (l_2.map aA) none),(2,.sl (best_3.map aA) none),(3,i6 days_4),(4,i6 last_5),(5,.ptr 0 0),(11,i6 ((l_2.length : Nat) : Int)),(22,.bool (((l_2.length : Nat) : Int) == ((s_1.Jobs.length : Nat) : Int)))]) (⟨[(aH s_1)],[]⟩) (by kernel_rfl) ⟨lenM _ _,trivial⟩ rfl ?_
  rcases aU h with ⟨hc_6,h⟩ | ⟨hc_6,h⟩
  ·refine Ex.condT _ rfl hc_6 ?_
   refine Ex.seq ?_
   obtain ⟨r_7,hr_7,h⟩:=bE h
   refine Ex.reg (rn 2 [1,2,3,24,25] (mkS 84 [(1,.sl (l_2.map aA) none),(2,.sl (best_3.map aA) none),(3,i6 days_4),(24,(aP s_1)),(25,.sl (l_2.map aA) none)]) ⟨[(aH s_1)],[]⟩ ?_)
   refine ExO.callL [] [(aP s_1),.sl (l_2.map aA) none] rfl rfl (aCA s_1 l_2) rfl rfl (aCb N s_1 l_2 r_7 hr_7) (aCs _ _ _ _) rfl ?_
   refine rn 5 [1,2,3,12,13] (mkS 84 [(1,.sl (l_2.map aA) none),(2,.sl (best_3.map aA) none),(3,i6 days_4),(12,i6 r_7.1),(13,i6 r_7.2)]) ⟨[(aH s_1)],[]⟩ ?_
   refine ExO.nil ?_
   refine Ex.seq ?_
   rcases aU h with ⟨hc_8,h⟩ | ⟨hc_8,h⟩
   ·rcases aU h with ⟨hc_9,h⟩ | ⟨hc_9,h⟩
    ·refine regH 18 [(2, .eq (.bool true)), (6, .eq (.bool true))] [10] [AV.bool (r_7.2 == 0) = AV.bool true, AV.bool (decide (r_7.1 < days_4)) = AV.bool true] (mkS 84 [(10, .bool true)]) (⟨[(aH s_1)], []⟩) (by kernel_rfl) ⟨congrArg AV.bool hc_8, congrArg AV.bool hc_9, trivial⟩ rfl ?_
     refine Ex.ret ?_
     obtain rfl:=sJ h
     exact rt (.bool true)
    ·rcases aU h with ⟨hc_10,h⟩ | ⟨hc_10,h⟩
     ·obtain ⟨r_11,hr_11,h⟩:=bE h
      refine Ex.reg ?_
      refine runH 13 [(2,.eq (.bool true)),(6,.eq (.bool false)),(10,.eq (.bool true))] [31,35,39,40,41] [AV.bool (r_7.2 == 0) = AV.bool true,AV.bool (decide (r_7.1 < days_4)) = AV.bool false,AV.bool (r_7.1 == days_4) = AV.bool true] (mkS 84 [(31,.bool true),(35,.bool false),(39,.bool true),(40,.sl (l_2.map aA) none),(41,.sl (best_3.map aA) none)]) (⟨[(aH s_1)],[]⟩) (by kernel_rfl) ⟨congrArg AV.bool hc_8,congrArg AV.bool hc_9,congrArg AV.bool hc_10,trivial⟩ ?_
      refine ExO.callL [] [.sl (l_2.map aA) none,.sl (best_3.map aA) none] rfl rfl (aBw l_2 best_3) rfl rfl (aBa N l_2 best_3 r_11 hr_11) (aBn _ _ _ _) rfl ?_
      refine rn 4 [10] (mkS 84 [(10,.bool r_11)]) ⟨[(aH s_1)],[]⟩ ?_
      refine ExO.nil ?_
      refine Ex.ret ?_
      obtain rfl:=sJ h
      exact rt (.bool r_11)
     ·refine regH 18 [(2, .eq (.bool true)), (6, .eq (.bool false)), (10, .eq (.bool false))] [10] [AV.bool (r_7.2 == 0) = AV.bool true, AV.bool (decide (r_7.1 < days_4)) = AV.bool false, AV.bool (r_7.1 == days_4) = AV.bool false] (mkS 84 [(10, .bool false)]) (⟨[(aH s_1)], []⟩) (by kernel_rfl) ⟨congrArg AV.bool hc_8, congrArg AV.bool hc_9, congrArg AV.bool hc_10, trivial⟩ rfl ?_
      refine Ex.ret ?_
      obtain rfl:=sJ h
      exact rt (.bool false)
   ·refine regH 18 [(2, .eq (.bool false))] [10] [AV.bool (r_7.2 == 0) = AV.bool false] (mkS 84 [(10, .bool false)]) (⟨[(aH s_1)], []⟩) (by kernel_rfl) ⟨congrArg AV.bool hc_8, trivial⟩ rfl ?_
    refine Ex.ret ?_
    obtain rfl:=sJ h
    exact rt (.bool false)
  ·refine Ex.condF _ rfl hc_6 ?_
   refine Ex.skip ?_
   refine Ex.seq (Ex.seq ?_)
   refine rg 1 [1,2,3,4,5,11,14] (mkS 84 [(1,.sl (l_2.map aA) none),(2,.sl (best_3.map aA) none),(3,i6 days_4),(4,i6 last_5),(5,.ptr 0 0),(11,i6 ((l_2.length : Nat) : Int)),(14,i6 0)]) ⟨[(aH s_1)],[]⟩ ?_
   obtain ⟨K_13,hK_14,h⟩:=letE h
   refine Ex.blockJ (fun a S => K_13 () = some r ∧ a = mkS 84 [] ∧ S = ⟨[],[]⟩) ?_ ?_
   ·obtain ⟨B_17,hB_18,h⟩:=fW h
    refine Ex.loopF (fun k a S => ∃ (w_15 : Int),loop1 B_17 k w_15 = some r ∧ a = mkS 84 [(1,.sl (l_2.map aA) none),(2,.sl (best_3.map aA) none),(3,i6 days_4),(4,i6 last_5),(5,.ptr 0 0),(11,i6 ((l_2.length : Nat) : Int)),(14,i6 w_15)] ∧ S = ⟨[(aH s_1)],[]⟩) N ⟨_,_,aL.refl _ _ _,0,h,rfl,rfl⟩ ?_
    rintro k a S ⟨w_15,h,rfl,rfl⟩
    cases k with
    | zero => exact (fU h).elim
    | succ k =>
     replace h:=fV h hB_18
     refine Ex.seq (Ex.seq ?_)
     refine regH 5 [(3,.eq (i6 ((s_1.Workers.length : Nat) : Int)))] [1,2,3,4,5,11,14,50] [AV.int .i64 (((s_1.Workers.map aN).length : Nat) : Int) = AV.int .i64 ((s_1.Workers.length : Nat) : Int)] (mkS 84 [(1,.sl (l_2.map aA) none),(2,.sl (best_3.map aA) none),(3,i6 days_4),(4,i6 last_5),(5,.ptr 0 0),(11,i6 ((l_2.length : Nat) : Int)),(14,i6 w_15),(50,.bool (decide (w_15 < ((s_1.Workers.length : Nat) : Int))))]) (⟨[(aH s_1)],[]⟩) (by kernel_rfl) ⟨lenM _ _,trivial⟩ rfl ?_
     rcases aU h with ⟨hc_19,h⟩ | ⟨hc_19,h⟩
     ·refine Ex.condT _ rfl hc_19 ?_
      refine Ex.skip ?_
      refine Ex.seq ?_
      refine Ex.blockK ?_
      refine Ex.seq (rg 1 [1,2,3,4,5,11,14,15] (mkS 84 [(1,.sl (l_2.map aA) none),(2,.sl (best_3.map aA) none),(3,i6 days_4),(4,i6 last_5),(5,.ptr 0 0),(11,i6 ((l_2.length : Nat) : Int)),(14,i6 w_15),(15,i6 0)]) ⟨[(aH s_1)],[]⟩ ?_)
      obtain ⟨K_21,hK_22,h⟩:=letE h
      refine Ex.blockJ (fun a S => K_21 () = some r ∧ a = mkS 84 [(1,.sl (l_2.map aA) none),(2,.sl (best_3.map aA) none),(3,i6 days_4),(4,i6 last_5),(5,.ptr 0 0),(11,i6 ((l_2.length : Nat) : Int)),(14,i6 w_15)] ∧ S = ⟨[(aH s_1)],[]⟩) ?_ ?_
      ·obtain ⟨B_25,hB_26,h⟩:=fW h
       refine Ex.loopF (fun k a S => ∃ (day_23 : Int),loop1 B_25 k day_23 = some r ∧ a = mkS 84 [(1,.sl (l_2.map aA) none),(2,.sl (best_3.map aA) none),(3,i6 days_4),(4,i6 last_5),(5,.ptr 0 0),(11,i6 ((l_2.length : Nat) : Int)),(14,i6 w_15),(15,i6 day_23)] ∧ S = ⟨[(aH s_1)],[]⟩) N ⟨_,_,aL.refl _ _ _,0,h,rfl,rfl⟩ ?_
       rintro k a S ⟨day_23,h,rfl,rfl⟩
       cases k with
       | zero => exact (fU h).elim
       | succ k =>
        replace h:=fV h hB_26
        refine Ex.seq ?_
        obtain ⟨K_29,hK_30,h⟩:=letE h
        refine Ex.seqJ (fun a S => ∃ (y_27 : Bool),K_29 y_27 = some r ∧ a = mkS 84 [(1,.sl (l_2.map aA) none),(2,.sl (best_3.map aA) none),(3,i6 days_4),(4,i6 last_5),(5,.ptr 0 0),(11,i6 ((l_2.length : Nat) : Int)),(14,i6 w_15),(15,i6 day_23),(69,.bool y_27)] ∧ S = ⟨[(aH s_1)],[]⟩) ?_ ?_
        ·rcases aU h with ⟨hc_31,h⟩ | ⟨hc_31,h⟩
         ·obtain ⟨x_32,hx_32,h⟩:=bE h
          obtain ⟨x_33,hx_33,h⟩:=bE h
          refine Ex.drawE (a1:=mkS 84 [(1,.sl (l_2.map aA) none),(2,.sl (best_3.map aA) none),(3,i6 days_4),(4,i6 last_5),(5,.ptr 0 0),(11,i6 ((l_2.length : Nat) : Int)),(14,i6 w_15),(15,i6 day_23),(53,i6 day_23),(54,i6 last_5),(55,.bool (decide (day_23 ≤ last_5))),(56,.bool true),(57,.ptr 0 0),(58,.sl (s_1.Workers.map aN) none),(59,i6 w_15),(60,.rop (aX x_32)),(61,(aN x_32)),(62,.ptr 0 1),(63,.sl (s_1.Jobs.map aJ) none),(64,i6 ((l_2.length : Nat) : Int)),(65,.rop (aY x_33)),(66,.rop [i6 x_33.Skill,i6 x_33.Days]),(67,i6 x_33.Skill)]) (cD _) [] [] [] ?_ ?_
          ·refine drS [0] 15 [(3, .eq (.bool true)), (7, .rop (aX x_32)), (12, .rop (aY x_33))] [AV.bool (decide (day_23 ≤ last_5)) = AV.bool true, LGet (s_1.Workers.map aN) w_15 3 (aX x_32), LGet (s_1.Jobs.map aJ) ((l_2.length : Nat) : Int) 3 (aY x_33)] (mkS 84 [(1, .sl (l_2.map aA) none), (2, .sl (best_3.map aA) none), (3, i6 days_4), (4, i6 last_5), (5, .ptr 0 0), (11, i6 ((l_2.length : Nat) : Int)), (14, i6 w_15), (15, i6 day_23), (53, i6 day_23), (54, i6 last_5), (55, .bool (decide (day_23 ≤ last_5))), (56, .bool true), (57, .ptr 0 0), (58, .sl (s_1.Workers.map aN) none), (59, i6 w_15), (60, .rop (aX x_32)), (61, (aN x_32)), (62, .ptr 0 1), (63, .sl (s_1.Jobs.map aJ) none), (64, i6 ((l_2.length : Nat) : Int)), (65, .rop (aY x_33)), (66, .rop [i6 x_33.Skill, i6 x_33.Days]), (67, i6 x_33.Skill)]) (by simp) (by kernel_rfl) ⟨congrArg AV.bool hc_31, LGet.of hx_32 rfl, LGet.of hx_33 rfl, trivial⟩ (by kernel_rfl) ?_
           exact DrO.nil rfl
          ·dsimp only [List.getLastD_cons,List.getLastD_nil]
           obtain ⟨r_34,hr_34,h⟩:=bE h
           refine ExO.callL [] [(aN x_32),i6 x_33.Skill] rfl rfl (aAz x_32 x_33.Skill) rfl rfl (aAr N x_32 x_33.Skill r_34 hr_34) (aAw _ _ _ _) rfl ?_
           refine rn 1 [1,2,3,4,5,11,14,15,69] (mkS 84 [(1,.sl (l_2.map aA) none),(2,.sl (best_3.map aA) none),(3,i6 days_4),(4,i6 last_5),(5,.ptr 0 0),(11,i6 ((l_2.length : Nat) : Int)),(14,i6 w_15),(15,i6 day_23),(69,.bool r_34)]) ⟨[(aH s_1)],[]⟩ ?_
           refine ExO.nil ?_
           (try simp only [reduceCtorEq,AEx.ex.injEq,Nat.reduceEqDiff,if_true,if_false])
           exact ⟨_,_,aL.refl _ _ _,r_34,h,rfl,rfl⟩
         ·refine yK (cD _) [(3, .eq (.bool false))] [] [1, 2, 3, 4, 5, 11, 14, 15, 69] [AV.bool (decide (day_23 ≤ last_5)) = AV.bool false] [] (mkS 84 [(1, .sl (l_2.map aA) none), (2, .sl (best_3.map aA) none), (3, i6 days_4), (4, i6 last_5), (5, .ptr 0 0), (11, i6 ((l_2.length : Nat) : Int)), (14, i6 w_15), (15, i6 day_23), (53, i6 day_23), (54, i6 last_5), (55, .bool (decide (day_23 ≤ last_5))), (56, .bool false), (57, .tup []), (58, .tup []), (59, .tup []), (60, .tup []), (61, .tup []), (62, .tup []), (63, .tup []), (64, .tup []), (65, .tup []), (66, .tup []), (67, .tup [])]) (mkS 84 [(1, .sl (l_2.map aA) none), (2, .sl (best_3.map aA) none), (3, i6 days_4), (4, i6 last_5), (5, .ptr 0 0), (11, i6 ((l_2.length : Nat) : Int)), (14, i6 w_15), (15, i6 day_23), (69, .bool false)]) (by kernel_rfl) (by kernel_rfl) ⟨congrArg AV.bool hc_31, trivial⟩ (by kernel_rfl) trivial ?_
          (try simp only [reduceCtorEq,AEx.ex.injEq,Nat.reduceEqDiff,if_true,if_false])
          exact ⟨_,_,aL.refl _ _ _,false,h,rfl,rfl⟩
        ·rintro a S ⟨y_27,h,rfl,rfl⟩
         subst hK_30
         rcases aU h with ⟨hc_35,h⟩ | ⟨hc_35,h⟩
         ·refine Ex.condT _ rfl hc_35 ?_
          refine Ex.skip ?_
          refine Ex.seq ?_
          refine Ex.blockK ?_
          refine Ex.seq ?_
          obtain ⟨r_36,hr_36,h⟩:=bE h
          obtain ⟨l_37,hl_37,h⟩:=bE h
          have hT_38:=xR N l_2 r_36 hr_36
          refine Ex.drawE (a1:=mkS 84 [(1,.sl (l_2.map aA) none),(2,.sl (best_3.map aA) none),(3,i6 days_4),(4,i6 last_5),(5,.ptr 0 0),(11,i6 ((l_2.length : Nat) : Int)),(14,i6 w_15),(15,i6 day_23),(69,.bool y_27),(72,(aP s_1)),(73,.sl (l_2.map aA) none),(74,.sl (r_36.map aA) (some 1)),(75,i6 w_15),(76,i6 day_23),(77,.agg [i6 w_15,i6 day_23]),(78,.sl (([(⟨w_15,day_23⟩ : aG)] : List aG).map aA) (some 0)),(79,.sl (l_37.map aA) (some 1)),(80,.sl (best_3.map aA) none),(81,i6 days_4),(82,i6 last_5)]) (aFA hT_38 (cD _)) [] [(1,2)] [⟨[(aH s_1)],[(1,2),(r_36.length,2)]⟩,⟨[(aH s_1)],[(1,2),(l_37.length,2)]⟩] ?_ ?_
          ·refine drS [0] 2 [] [] (mkS 84 [(1, .sl (l_2.map aA) none), (2, .sl (best_3.map aA) none), (3, i6 days_4), (4, i6 last_5), (5, .ptr 0 0), (11, i6 ((l_2.length : Nat) : Int)), (14, i6 w_15), (15, i6 day_23), (69, .bool y_27), (72, (aP s_1)), (73, .sl (l_2.map aA) none)]) (by simp) (by kernel_rfl) trivial (by kernel_rfl) ?_
           refine drT [.sl (l_2.map aA) none] (.sl (r_36.map aA) (some 1)) _ _ rfl rfl rfl rfl rfl rfl rfl (by simp) rfl rfl ?_
           refine drS [0] 3 [] [] (mkS 84 [(1,.sl (l_2.map aA) none),(2,.sl (best_3.map aA) none),(3,i6 days_4),(4,i6 last_5),(5,.ptr 0 0),(11,i6 ((l_2.length : Nat) : Int)),(14,i6 w_15),(15,i6 day_23),(69,.bool y_27),(72,(aP s_1)),(73,.sl (l_2.map aA) none),(74,.sl (r_36.map aA) (some 1)),(75,i6 w_15),(76,i6 day_23),(77,.agg [i6 w_15,i6 day_23])]) (by simp) (by kernel_rfl) trivial (by kernel_rfl) ?_
           refine drR 0 2 (([(⟨w_15,day_23⟩ : aG)] : List aG).map aA) rfl rfl (fun _ => by kernel_rfl) (by simp) rfl rfl ?_
           refine drE (some (.app (l_37.map aA) l_37.length)) (some (LApp r_36.length (r_36.map aA) (([(⟨w_15,day_23⟩ : aG)] : List aG).map aA) 2 (l_37.map aA) l_37.length)) (.sl (l_37.map aA) (some 1)) _ _ rfl rfl rfl rfl rfl (by kernel_rfl) (LApp.of hl_37 (fun _ => rfl)) ?_
           refine drS [0] 3 [] [] (mkS 84 [(1,.sl (l_2.map aA) none),(2,.sl (best_3.map aA) none),(3,i6 days_4),(4,i6 last_5),(5,.ptr 0 0),(11,i6 ((l_2.length : Nat) : Int)),(14,i6 w_15),(15,i6 day_23),(69,.bool y_27),(72,(aP s_1)),(73,.sl (l_2.map aA) none),(74,.sl (r_36.map aA) (some 1)),(75,i6 w_15),(76,i6 day_23),(77,.agg [i6 w_15,i6 day_23]),(78,.sl (([(⟨w_15,day_23⟩ : aG)] : List aG).map aA) (some 0)),(79,.sl (l_37.map aA) (some 1)),(80,.sl (best_3.map aA) none),(81,i6 days_4),(82,i6 last_5)]) (by simp) (by kernel_rfl) trivial (by kernel_rfl) ?_
           exact DrO.nil rfl
          ·dsimp only [List.getLastD_cons,List.getLastD_nil]
           obtain ⟨r_39,hr_39,h⟩:=bE h
           refine ExO.callL [] [(aP s_1),.sl (l_37.map aA) (some 1),.sl (best_3.map aA) none,i6 days_4,i6 last_5] rfl rfl (uW s_1 l_37 best_3 days_4 last_5) rfl rfl (ih s_1 l_37 best_3 days_4 last_5 r_39 hr_39) (uQ _ _ _ _) rfl ?_
           refine rn 0 [1,2,3,4,5,11,14,15,83] (mkS 84 [(1,.sl (l_2.map aA) none),(2,.sl (best_3.map aA) none),(3,i6 days_4),(4,i6 last_5),(5,.ptr 0 0),(11,i6 ((l_2.length : Nat) : Int)),(14,i6 w_15),(15,i6 day_23),(83,.bool r_39)]) ⟨[(aH s_1)],[(1,2),(l_37.length,2)]⟩ ?_
           refine ExO.nil ?_
           rcases aU h with ⟨hc_40,h⟩ | ⟨hc_40,h⟩
           ·refine Ex.condT _ rfl hc_40 ?_
            refine Ex.seq (rg 1 [10] (mkS 84 [(10,.bool true)]) ⟨[(aH s_1)],[(1,2),(l_37.length,2)]⟩ ?_)
            refine Ex.ret ?_
            obtain rfl:=sJ h
            exact rt (.bool true)
           ·refine Ex.condF _ rfl hc_40 ?_
            refine Ex.skip ?_
            refine rg 3 [1,2,3,4,5,11,14,15] (mkS 84 [(1,.sl (l_2.map aA) none),(2,.sl (best_3.map aA) none),(3,i6 days_4),(4,i6 last_5),(5,.ptr 0 0),(11,i6 ((l_2.length : Nat) : Int)),(14,i6 w_15),(15,i6 (IntKind.i64.wrap (day_23 + 1)))]) ⟨[(aH s_1)],[(1,2),(l_37.length,2)]⟩ ?_
            dsimp only
            exact ⟨_,_,bU (m:=84) 1 [] [(1,.sl (l_2.map aA) none),(2,.sl (best_3.map aA) none),(3,i6 days_4),(4,i6 last_5),(5,.ptr 0 0),(11,i6 ((l_2.length : Nat) : Int)),(14,i6 w_15),(15,i6 (IntKind.i64.wrap (day_23 + 1)))] [(aH s_1)] [] (by simp [bH]) (by simp) ⟨(reN (cG _)),(reN (cG _)),rfl,rfl,rfl,rfl,rfl,rfl,trivial⟩ (by simp) rfl (by decide),k,Nat.lt_succ_self k,(IntKind.i64.wrap (day_23 + 1)),h,rfl,rfl⟩
         ·refine Ex.condF _ rfl hc_35 ?_
          refine Ex.exit ?_
          (try simp only [reduceCtorEq,AEx.ex.injEq,Nat.reduceEqDiff,if_true,if_false])
          exact ⟨_,_,bS [1,2,3,4,5,11,14],h,rfl,rfl⟩
      ·rintro a S ⟨h,rfl,rfl⟩
       subst hK_22
       refine rg 3 [1,2,3,4,5,11,14] (mkS 84 [(1,.sl (l_2.map aA) none),(2,.sl (best_3.map aA) none),(3,i6 days_4),(4,i6 last_5),(5,.ptr 0 0),(11,i6 ((l_2.length : Nat) : Int)),(14,i6 (IntKind.i64.wrap (w_15 + 1)))]) ⟨[(aH s_1)],[]⟩ ?_
       dsimp only
       exact ⟨_,_,aL.refl _ _ _,k,Nat.lt_succ_self k,(IntKind.i64.wrap (w_15 + 1)),h,rfl,rfl⟩
     ·refine Ex.condF _ rfl hc_19 ?_
      refine Ex.exit ?_
      (try simp only [reduceCtorEq,AEx.ex.injEq,Nat.reduceEqDiff,if_true,if_false])
      exact ⟨_,_,bU (m:=84) 0 [] [] [] [] (by simp [bH]) (by simp) trivial (by simp) rfl (by decide),h,rfl,rfl⟩
   ·rintro a S ⟨h,rfl,rfl⟩
    subst hK_14
    refine Ex.seq (rg 1 [10] (mkS 84 [(10,.bool false)]) ⟨[],[]⟩ ?_)
    refine Ex.ret ?_
    obtain rfl:=sJ h
    exact rt (.bool false)
def iO (N : Nat) (nums_1 : (List Int)) : Option (Bool):=((lQ N nums_1).bind fun r_2 => ((lP N r_2 2 4 2).bind fun r_3 => ((hU N r_3.1).bind fun r_4 => (bif (r_4.2.2 != 0) then ((iM N r_3.1).bind fun r_6 => (bif (r_4.2.2 == 7) then (bif (r_6.2 == 7) then ((hY N).bind fun r_9 => some r_9) else some false) else some false)) else ((gP N r_3.1 r_4.1).bind fun r_10 => (bif (r_10.2 == 0) then (bif (r_10.1 == r_4.2.1) then (bif (decide (r_4.2.1 ≥ 0)) then (bif (decide (r_4.2.1 ≤ 8)) then ((eW N r_3.1 [] r_4.1 r_4.2.1 (if (IntKind.i64.wrap (r_4.2.1 - 1)) > 0 then (IntKind.i64.wrap (r_4.2.1 - 1)) else 0)).bind fun r_15 => (bif (!r_15) then ((hY N).bind fun r_17 => some r_17) else some false)) else some false) else some false) else some false) else some false))))))
def oK (r : Bool) : AV:=.bool r
attribute [local simp] oK
theorem vR (N : Nat) (nums_1 : (List Int)) (r : Bool) (h : iO N nums_1 = some r) : Does Tryz.prog 5 [.sl (nums_1.map (AV.int .i64)) none] [] fun v c => v = oK r ∧ c = []:=by
 unfold iO at h
 refine Does.ofL comp5 _ _ rfl rfl ?_
 refine Ex.seq (rg 1 [0] (mkS 70 [(0,.sl (nums_1.map (AV.int .i64)) none)]) ⟨[],[]⟩ ?_)
 refine Ex.seq ?_
 obtain ⟨r_2,hr_2,h⟩:=bE h
 refine Ex.reg (rn 1 [11] (mkS 70 [(11,.sl (nums_1.map (AV.int .i64)) none)]) ⟨[],[]⟩ ?_)
 refine ExO.callL (v':=.ptr 0 0) [] [.sl (nums_1.map (AV.int .i64)) none] rfl rfl (aCD nums_1) rfl rfl (aCf N nums_1 r_2 hr_2) rfl (by simp) ?_
 obtain ⟨r_3,hr_3,h⟩:=bE h
 refine ExO.callL [0] [.ptr 0 0,i6 2,i6 4,i6 2] rfl rfl (by simp; try rfl) rfl (by simp) (aCd N r_2 2 4 2 r_3 hr_3) (aCu _ _ _ _) (by simp) ?_
 refine rn 2 [3] (mkS 70 [(3,.ptr 1 0)]) ⟨[(aK r_3.2),(aH r_3.1)],[]⟩ ?_
 refine ExO.nil ?_
 refine Ex.seq ?_
 obtain ⟨r_4,hr_4,h⟩:=bE h
 refine Ex.reg (rn 1 [3,15] (mkS 70 [(3,.ptr 1 0),(15,(aP r_3.1))]) ⟨[(aK r_3.2),(aH r_3.1)],[]⟩ ?_)
 refine ExO.callL [] [(aP r_3.1)] rfl rfl (wS r_3.1) rfl rfl (wO N r_3.1 r_4 hr_4) (wQ _ _ _ _) rfl ?_
 refine rn 7 [3,4,5,6] (mkS 70 [(3,.ptr 1 0),(4,.sl (r_4.1.map aA) none),(5,i6 r_4.2.1),(6,i6 r_4.2.2)]) ⟨[(aK r_3.2),(aH r_3.1)],[]⟩ ?_
 refine ExO.nil ?_
 refine Ex.seq (Ex.seq ?_)
 refine rg 2 [3,4,5,6,21] (mkS 70 [(3,.ptr 1 0),(4,.sl (r_4.1.map aA) none),(5,i6 r_4.2.1),(6,i6 r_4.2.2),(21,.bool (r_4.2.2 != 0))]) ⟨[(aK r_3.2),(aH r_3.1)],[]⟩ ?_
 rcases aU h with ⟨hc_5,h⟩ | ⟨hc_5,h⟩
 ·refine Ex.condT _ rfl hc_5 ?_
  refine Ex.seq ?_
  obtain ⟨r_6,hr_6,h⟩:=bE h
  refine Ex.reg (rn 1 [6,23] (mkS 70 [(6,i6 r_4.2.2),(23,(aP r_3.1))]) ⟨[(aK r_3.2),(aH r_3.1)],[]⟩ ?_)
  refine ExO.callL [] [(aP r_3.1)] rfl rfl (uV r_3.1) rfl rfl (uJ N r_3.1 r_6 hr_6) (uP _ _ _ _) rfl ?_
  refine rn 5 [6,8] (mkS 70 [(6,i6 r_4.2.2),(8,i6 r_6.2)]) ⟨[(aK r_3.2),(aH r_3.1)],[]⟩ ?_
  refine ExO.nil ?_
  refine Ex.seq ?_
  rcases aU h with ⟨hc_7,h⟩ | ⟨hc_7,h⟩
  ·rcases aU h with ⟨hc_8,h⟩ | ⟨hc_8,h⟩
   ·obtain ⟨r_9,hr_9,h⟩:=bE h
    refine Ex.reg ?_
    refine runH 7 [(2,.eq (.bool true)),(6,.eq (.bool true))] [33] [AV.bool (r_4.2.2 == 7) = AV.bool true,AV.bool (r_6.2 == 7) = AV.bool true] (mkS 70 [(33,.bool true)]) (⟨[(aK r_3.2),(aH r_3.1)],[]⟩) (by kernel_rfl) ⟨congrArg AV.bool hc_7,congrArg AV.bool hc_8,trivial⟩ ?_
    refine ExO.callL [] [] rfl rfl (wT) rfl rfl (wP N r_9 hr_9) (wR _ _ _ _) rfl ?_
    refine rn 2 [2] (mkS 70 [(2,.bool r_9)]) ⟨[(aK r_3.2),(aH r_3.1)],[]⟩ ?_
    refine ExO.nil ?_
    refine Ex.ret ?_
    obtain rfl:=sJ h
    exact rt (.bool r_9)
   ·refine regH 10 [(2, .eq (.bool true)), (6, .eq (.bool false))] [2] [AV.bool (r_4.2.2 == 7) = AV.bool true, AV.bool (r_6.2 == 7) = AV.bool false] (mkS 70 [(2, .bool false)]) (⟨[(aK r_3.2), (aH r_3.1)], []⟩) (by kernel_rfl) ⟨congrArg AV.bool hc_7, congrArg AV.bool hc_8, trivial⟩ rfl ?_
    refine Ex.ret ?_
    obtain rfl:=sJ h
    exact rt (.bool false)
  ·refine regH 10 [(2, .eq (.bool false))] [2] [AV.bool (r_4.2.2 == 7) = AV.bool false] (mkS 70 [(2, .bool false)]) (⟨[(aK r_3.2), (aH r_3.1)], []⟩) (by kernel_rfl) ⟨congrArg AV.bool hc_7, trivial⟩ rfl ?_
   refine Ex.ret ?_
   obtain rfl:=sJ h
   exact rt (.bool false)
 ·refine Ex.condF _ rfl hc_5 ?_
  refine Ex.skip ?_
  refine Ex.seq ?_
  obtain ⟨r_10,hr_10,h⟩:=bE h
  refine Ex.reg (rn 2 [3,4,5,37,38] (mkS 70 [(3,.ptr 1 0),(4,.sl (r_4.1.map aA) none),(5,i6 r_4.2.1),(37,(aP r_3.1)),(38,.sl (r_4.1.map aA) none)]) ⟨[(aK r_3.2),(aH r_3.1)],[]⟩ ?_)
  refine ExO.callL [] [(aP r_3.1),.sl (r_4.1.map aA) none] rfl rfl (aBt r_3.1 r_4.1) rfl rfl (aAX N r_3.1 r_4.1 r_10 hr_10) (aBk _ _ _ _) rfl ?_
  refine rn 5 [3,4,5,9,10] (mkS 70 [(3,.ptr 1 0),(4,.sl (r_4.1.map aA) none),(5,i6 r_4.2.1),(9,i6 r_10.1),(10,i6 r_10.2)]) ⟨[(aK r_3.2),(aH r_3.1)],[]⟩ ?_
  refine ExO.nil ?_
  refine Ex.seq ?_
  rcases aU h with ⟨hc_11,h⟩ | ⟨hc_11,h⟩
  ·rcases aU h with ⟨hc_12,h⟩ | ⟨hc_12,h⟩
   ·rcases aU h with ⟨hc_13,h⟩ | ⟨hc_13,h⟩
    ·rcases aU h with ⟨hc_14,h⟩ | ⟨hc_14,h⟩
     ·obtain ⟨r_15,hr_15,h⟩:=bE h
      refine Ex.reg ?_
      refine runH 22 [(2,.eq (.bool true)),(7,.eq (.bool true)),(11,.eq (.bool true)),(15,.eq (.bool true))] [57,58,59,60,63] [AV.bool (r_10.2 == 0) = AV.bool true,AV.bool (r_10.1 == r_4.2.1) = AV.bool true,AV.bool (decide (r_4.2.1 ≥ 0)) = AV.bool true,AV.bool (decide (r_4.2.1 ≤ 8)) = AV.bool true] (mkS 70 [(57,.bool true),(58,(aP r_3.1)),(59,.sl (r_4.1.map aA) none),(60,i6 r_4.2.1),(63,i6 (if (IntKind.i64.wrap (r_4.2.1 - 1)) > 0 then (IntKind.i64.wrap (r_4.2.1 - 1)) else 0))]) (⟨[(aK r_3.2),(aH r_3.1)],[]⟩) (by kernel_rfl) ⟨congrArg AV.bool hc_11,congrArg AV.bool hc_12,congrArg AV.bool hc_13,congrArg AV.bool hc_14,trivial⟩ ?_
      refine ExO.callL [] [(aP r_3.1),.nils,.sl (r_4.1.map aA) none,i6 r_4.2.1,i6 (if (IntKind.i64.wrap (r_4.2.1 - 1)) > 0 then (IntKind.i64.wrap (r_4.2.1 - 1)) else 0)] rfl rfl (uW r_3.1 [] r_4.1 r_4.2.1 (if (IntKind.i64.wrap (r_4.2.1 - 1)) > 0 then (IntKind.i64.wrap (r_4.2.1 - 1)) else 0)) rfl rfl (aBd N r_3.1 [] r_4.1 r_4.2.1 (if (IntKind.i64.wrap (r_4.2.1 - 1)) > 0 then (IntKind.i64.wrap (r_4.2.1 - 1)) else 0) r_15 hr_15) (uQ _ _ _ _) rfl ?_
      rcases aU h with ⟨hc_16,h⟩ | ⟨hc_16,h⟩
      ·obtain ⟨r_17,hr_17,h⟩:=bE h
       refine runH 3 [(2,.eq (.bool true))] [67] [AV.bool (!r_15) = AV.bool true] (mkS 70 [(67,.bool true)]) (⟨[(aK r_3.2),(aH r_3.1)],[]⟩) (by kernel_rfl) ⟨congrArg AV.bool hc_16,trivial⟩ ?_
       refine ExO.callL [] [] rfl rfl (wT) rfl rfl (wP N r_17 hr_17) (wR _ _ _ _) rfl ?_
       refine rn 2 [2] (mkS 70 [(2,.bool r_17)]) ⟨[(aK r_3.2),(aH r_3.1)],[]⟩ ?_
       refine ExO.nil ?_
       refine Ex.ret ?_
       obtain rfl:=sJ h
       exact rt (.bool r_17)
      ·refine runH 6 [(2, .eq (.bool false))] [2] [AV.bool (!r_15) = AV.bool false] (mkS 70 [(2, .bool false)]) (⟨[(aK r_3.2), (aH r_3.1)], []⟩) (by kernel_rfl) ⟨congrArg AV.bool hc_16, trivial⟩ ?_
       refine ExO.nil ?_
       refine Ex.ret ?_
       obtain rfl:=sJ h
       exact rt (.bool false)
     ·refine regH 29 [(2, .eq (.bool true)), (7, .eq (.bool true)), (11, .eq (.bool true)), (15, .eq (.bool false))] [2] [AV.bool (r_10.2 == 0) = AV.bool true, AV.bool (r_10.1 == r_4.2.1) = AV.bool true, AV.bool (decide (r_4.2.1 ≥ 0)) = AV.bool true, AV.bool (decide (r_4.2.1 ≤ 8)) = AV.bool false] (mkS 70 [(2, .bool false)]) (⟨[(aK r_3.2), (aH r_3.1)], []⟩) (by kernel_rfl) ⟨congrArg AV.bool hc_11, congrArg AV.bool hc_12, congrArg AV.bool hc_13, congrArg AV.bool hc_14, trivial⟩ rfl ?_
      refine Ex.ret ?_
      obtain rfl:=sJ h
      exact rt (.bool false)
    ·refine regH 29 [(2, .eq (.bool true)), (7, .eq (.bool true)), (11, .eq (.bool false))] [2] [AV.bool (r_10.2 == 0) = AV.bool true, AV.bool (r_10.1 == r_4.2.1) = AV.bool true, AV.bool (decide (r_4.2.1 ≥ 0)) = AV.bool false] (mkS 70 [(2, .bool false)]) (⟨[(aK r_3.2), (aH r_3.1)], []⟩) (by kernel_rfl) ⟨congrArg AV.bool hc_11, congrArg AV.bool hc_12, congrArg AV.bool hc_13, trivial⟩ rfl ?_
     refine Ex.ret ?_
     obtain rfl:=sJ h
     exact rt (.bool false)
   ·refine regH 29 [(2, .eq (.bool true)), (7, .eq (.bool false))] [2] [AV.bool (r_10.2 == 0) = AV.bool true, AV.bool (r_10.1 == r_4.2.1) = AV.bool false] (mkS 70 [(2, .bool false)]) (⟨[(aK r_3.2), (aH r_3.1)], []⟩) (by kernel_rfl) ⟨congrArg AV.bool hc_11, congrArg AV.bool hc_12, trivial⟩ rfl ?_
    refine Ex.ret ?_
    obtain rfl:=sJ h
    exact rt (.bool false)
  ·refine regH 29 [(2, .eq (.bool false))] [2] [AV.bool (r_10.2 == 0) = AV.bool false] (mkS 70 [(2, .bool false)]) (⟨[(aK r_3.2), (aH r_3.1)], []⟩) (by kernel_rfl) ⟨congrArg AV.bool hc_11, trivial⟩ rfl ?_
   refine Ex.ret ?_
   obtain rfl:=sJ h
   exact rt (.bool false)
end
section
open Go.RowKit
theorem chkS {n : Nat} (Q : Nat → Prop) (E : Int → Prop) {K : Option Int} {body : (Int → Option Int) → Int → Option Int} (hend : ∀ rec,body rec (n : Int) = K) (hstep : ∀ rec (i : Nat),i < n → (∃ e,E e ∧ body rec (i : Int) = some e) ∨ (Q i ∧ body rec (i : Int) = rec ((i + 1 : Nat) : Int))) : ∀ (N i : Nat),i ≤ n → n - i < N → (∃ e,E e ∧ loop1 body N (i : Int) = some e) ∨ ((∀ j,i ≤ j → j < n → Q j) ∧ loop1 body N (i : Int) = K)
 | 0,_,_,h => absurd h (Nat.not_lt_zero _)
 | N + 1,i,hi,h => by
  show (∃ e,E e ∧ body (loop1 body N) (i : Int) = some e) ∨ (_ ∧ body (loop1 body N) (i : Int) = K)
  by_cases hlt : i < n
  ·rcases hstep (loop1 body N) i hlt with h2 | ⟨h1,h2⟩
   ·exact .inl h2
   ·rw [h2]
    rcases chkS Q E hend hstep N (i + 1) (by omega) (by omega) with k2 | ⟨k1,k2⟩
    ·exact .inl k2
    ·refine .inr ⟨fun j hj hj2 => ?_,k2⟩
     by_cases e : j = i
     ·subst e; exact h1
     ·exact k1 j (by omega) hj2
  ·have : i = n := by omega
   subst this
   exact .inr ⟨fun j h1 h2 => absurd h2 (by omega),hend _⟩
theorem aDQ {n : Nat} (Q : Nat → Prop) (E : Int → Prop) {R : Option Int} {body : (Int → Option Int) → Int → Option Int} {N : Nat} {A : Prop} (hN : n < N) (hend : ∀ rec,body rec (n : Int) = body (fun _ => none) (n : Int)) (hstep : ∀ rec (i : Nat),i < n → (∃ e,E e ∧ body rec (i : Int) = some e) ∨ (Q i ∧ body rec (i : Int) = rec ((i + 1 : Nat) : Int))) (hK : (∀ j,j < n → Q j) → (∃ e,E e ∧ body (fun _ => none) (n : Int) = some e) ∨ (A ∧ body (fun _ => none) (n : Int) = R)) : (∃ e,E e ∧ loop1 body N 0 = some e) ∨ (A ∧ loop1 body N 0 = R):=by
 rcases chkS Q E hend hstep N 0 (Nat.zero_le _) (by omega) with q2 | ⟨q1,q2⟩
 ·exact .inl q2
 ·have q2 : loop1 body N 0 = body (fun _ => none) (n : Int):=q2
  rw [q2]; exact hK fun j hj => q1 j (Nat.zero_le _) hj
theorem oI (N : Nat) (n a b : Int) : eV N n a b = some (decide (a ≤ n ∧ n ≤ b)):=by
 unfold eV
 by_cases h : n ≥ a
 ·rw [decide_eq_true h,cond_true]
  congr 1
  exact decide_eq_decide.2 ⟨fun h2 => ⟨h,h2⟩,fun h2 => h2.2⟩
 ·rw [decide_eq_false h,cond_false,decide_eq_false (fun h2 => h h2.1)]
theorem aGq (N : Nat) (hN : 100 < N) {s : aV} (h : GW s) : lO N s = some 0:=by
 unfold lO
 have:=h.w0
 have:=h.w4
 have hn:=h.jobs.len
 simp only [eM]
 rw [beq_eq_false_iff_ne.2 (show ((s.Workers.length : Nat) : Int) ≠ 0 by omega),cond_false,decide_eq_false (show ¬ ((s.Workers.length : Nat) : Int) > 4 by omega),cond_false,decide_eq_false (show ¬ ((s.Jobs.length : Nat) : Int) > 7 by omega),cond_false]
 refine st1 s.Jobs.length _ (some 0) (fun rec => ?_) (fun rec i hi => ?_) N 0 (Nat.zero_le _) (by omega)
 ·rw [ltE,cond_false]
 ·have hx : s.Jobs[i]? = some s.Jobs[i]:=List.getElem?_eq_getElem hi
  have ha:=h.jobs.all _ (List.getElem_mem hi)
  generalize s.Jobs[i] = x at hx ha
  rw [ltD hi,cond_true,bV,hx,Option.bind_some,oI,Option.bind_some,decide_eq_true (by omega),Bool.not_true,cond_false,oI,Option.bind_some,decide_eq_true (by omega),Bool.not_true,cond_false,oI,Option.bind_some,decide_eq_true (by omega),Bool.not_true,cond_false,nadd1 i (by omega)]
theorem aDX (N : Nat) {s : aV} (hJ : GJ s.Jobs) {l : List aG} {j : Nat} (hj : j < s.Jobs.length) (hl : s.Jobs.length ≤ l.length) (hb : -1000000 ≤ dyL l j ∧ dyL l j ≤ 1000000) : iN N s l (j : Int) = some (dyL l j + dsL s.Jobs j):=yJ N hJ hj hl hb
theorem aGF (N : Nat) (w : bI) (sk : Int) : mQ N w sk = some (canW w sk):=by
 unfold mQ canW
 by_cases h1 : sk = 1
 ·rw [beq_iff_eq.2 h1,cond_true,if_pos h1]
 ·rw [beq_eq_false_iff_ne.2 h1,cond_false,if_neg h1]
  by_cases h2 : sk = 2
  ·rw [beq_iff_eq.2 h2,cond_true,if_pos h2]
  ·rw [beq_eq_false_iff_ne.2 h2,cond_false,if_neg h2]
theorem aDS (f : Int) (J : List bR) : ∀ (k b : Nat),aftF f J k = (b : Int) → flL J b = f
 | 0,b,h => by unfold aftF at h; omega
 | k + 1,b,h => by
  unfold aftF at h
  split at h
  ·rename_i hf
   obtain rfl : k = b:=by omega
   exact hf
  ·exact aDS f J k b h
theorem aCI (N : Nat) (hN : 100 < N) {s : aV} (h : GW s) {l : List aG} (hb : ∀ j,-1000000 ≤ dyL l j ∧ dyL l j ≤ 1000000) : (∃ e,e ≠ 0 ∧ fK N s l = some e) ∨ (jO s l ∧ fK N s l = some 0):=by
 have hn:=h.jobs.len
 have hw4:=h.w4
 have hw0:=h.w0
 unfold fK
 simp only [eM]
 by_cases hl : l.length = s.Jobs.length
 ·rw [show (((l.length : Nat) : Int) != ((s.Jobs.length : Nat) : Int)) = false from by rw [hl]; simp, cond_false]
  rw [hl]
  refine aDQ (n:=s.Jobs.length) (fun j => uX s l j) (fun e => e ≠ 0) (by omega) (fun rec => ?_) (fun rec i hi => ?_) (fun q1 => ?_)
  ·rw [ltE,cond_false,cond_false]
  ·have hx : l[i]? = some l[i] := List.getElem?_eq_getElem (by omega)
   have hJx : s.Jobs[i]? = some s.Jobs[i]:=List.getElem?_eq_getElem hi
   have ha:=h.jobs.all _ (List.getElem_mem hi)
   have hsk : skL s.Jobs i = s.Jobs[i].Skill:=by simp [skL,hJx]
   have hfl : flL s.Jobs i = s.Jobs[i].Float:=by simp [flL,hJx]
   have hwk:=qK hx
   have hdy:=lB hx
   generalize l[i] = x at hx hwk hdy
   generalize s.Jobs[i] = y at hJx ha hsk hfl
   rw [ltD hi,cond_true,bV,hx,Option.bind_some,oI,Option.bind_some,w64 (by omega) (by omega)]
   by_cases hwi : 0 ≤ x.Worker ∧ x.Worker ≤ (s.Workers.length : Int) - 1
   ·rw [decide_eq_true hwi,Bool.not_true,cond_false]
    obtain ⟨k,hk⟩ : ∃ k : Nat,x.Worker = (k : Int):=⟨x.Worker.toNat,by omega⟩
    have hkl : k < s.Workers.length:=by omega
    have hv : s.Workers[k]? = some s.Workers[k]:=List.getElem?_eq_getElem hkl
    generalize s.Workers[k] = v at hv
    rw [hk,bV,hv,Option.bind_some,bV,hJx,Option.bind_some,aGF,Option.bind_some]
    cases hc : canW v y.Skill with
    | false => exact .inl ⟨3,by decide,rfl⟩
    | true =>
     have hmem : wkL l i ∈ fY s.Workers (skL s.Jobs i):=by
      rw [hwk,hsk,hk,oP]
      exact ⟨k,v,rfl,hv,hc⟩
     rw [Bool.not_true,cond_false,oI,Option.bind_some]
     by_cases hdi : 0 ≤ x.Day ∧ x.Day ≤ 400
     ·rw [decide_eq_true hdi,Bool.not_true,cond_false]
      refine aDQ (n:=i) (fun k => flL s.Jobs k = flL s.Jobs i → dyL l k + dsL s.Jobs k ≤ dyL l i) (fun e => e ≠ 0) (by omega) (fun rec2 => ?_) (fun rec2 k hk => ?_) (fun q => .inr ⟨⟨hmem,by rw [hdy]; exact hdi,?_⟩,by rw [ltE,cond_false,nadd1 i (by omega)]⟩)
      ·rw [ltE,cond_false,cond_false]
      ·have hkx : s.Jobs[k]? = some (s.Jobs[k]'(by omega)) := List.getElem?_eq_getElem _
       have hfk : flL s.Jobs k = (s.Jobs[k]'(by omega)).Float:=by simp [flL,hkx]
       generalize s.Jobs[k]'(by omega) = z at hkx hfk
       rw [ltD hk,cond_true,bV,hkx,Option.bind_some,Option.bind_some,aDX N h.jobs (show k < s.Jobs.length by omega) (by omega) (hb k),nadd1 k (by omega)]
       by_cases hz : z.Float = y.Float
       ·rw [beq_iff_eq.2 hz,cond_true,Option.bind_some]
        by_cases hlt : x.Day < dyL l k + dsL s.Jobs k
        ·rw [decide_eq_true hlt,cond_true]; exact .inl ⟨9,by decide,rfl⟩
        ·rw [decide_eq_false hlt,cond_false]; exact .inr ⟨fun _ => by rw [hdy]; omega,rfl⟩
       ·rw [beq_eq_false_iff_ne.2 hz,cond_false,cond_false]
        exact .inr ⟨fun e => absurd (by rw [← hfk,← hfl]; exact e) hz,rfl⟩
      ·rcases kQ (flL s.Jobs i) s.Jobs i with e | ⟨b,e,hbl⟩
       ·exact .inl e
       ·have e2 : aftJ s.Jobs i = (b : Int):=e
        rw [e2,Int.toNat_natCast]
        exact .inr (q b hbl (aDS _ _ _ _ e))
     ·rw [decide_eq_false hdi]; exact .inl ⟨2,by decide,rfl⟩
   ·rw [decide_eq_false hwi]; exact .inl ⟨7,by decide,rfl⟩
  ·rw [ltE,cond_false]
   refine aDQ (n:=s.Jobs.length) (fun j => ∀ k,k < j → ¬ sY s l j k) (fun e => e ≠ 0) (by omega) (fun rec => ?_) (fun rec i hi => ?_) (fun q2 => .inr ⟨⟨hl,q1,q2⟩,by rw [ltE,cond_false]⟩)
   ·rw [ltE,cond_false,cond_false]
   ·rw [ltD hi,cond_true]
    refine aDQ (n:=i) (fun k => ¬ sY s l i k) (fun e => e ≠ 0) (by omega) (fun rec2 => ?_) (fun rec2 k hk => ?_) (fun q => .inr ⟨q,by rw [ltE,cond_false,nadd1 i (by omega)]⟩)
    ·rw [ltE,cond_false,cond_false]
    ·have h1 : l[i]? = some l[i] := List.getElem?_eq_getElem (by omega)
     have h2 : l[k]? = some l[k]:=List.getElem?_eq_getElem (by omega)
     unfold sY
     rw [qK h1,qK h2,lB h1,lB h2]
     rw [ltD hk,cond_true,bV,h1,Option.bind_some,bV,h2,Option.bind_some,aDX N h.jobs (show k < s.Jobs.length by omega) (by omega) (hb k),aDX N h.jobs hi (by omega) (hb i),lB h1,lB h2,nadd1 k (by omega)]
     generalize l[i] = x
     generalize l[k] = y
     by_cases c1 : x.Worker = y.Worker
     ·rw [beq_iff_eq.2 c1,cond_true,Option.bind_some,Option.bind_some]
      by_cases c2 : x.Day < y.Day + dsL s.Jobs k
      ·rw [decide_eq_true c2,cond_true,Option.bind_some,Option.bind_some]
       by_cases c3 : y.Day < x.Day + dsL s.Jobs i
       ·rw [decide_eq_true c3]; exact .inl ⟨10,by decide,rfl⟩
       ·rw [decide_eq_false c3]; exact .inr ⟨fun q => c3 q.2.2,rfl⟩
      ·rw [decide_eq_false c2]; exact .inr ⟨fun q => c2 q.2.1,rfl⟩
     ·rw [beq_eq_false_iff_ne.2 c1]; exact .inr ⟨fun q => c1 q.1,rfl⟩
 ·rw [bne_iff_ne.2 (by omega), cond_true]
  exact .inl ⟨1,by decide,rfl⟩
theorem aHg (N : Nat) (hN : 100 < N) {s : aV} (hJ : GJ s.Jobs) {l : List aG} (hl : l.length = s.Jobs.length) (hb : ∀ j,-1000000 ≤ dyL l j ∧ dyL l j ≤ 1000000) : mX N s l = some (mxN (fun j => dyL l j + dsL s.Jobs j) s.Jobs.length):=by
 unfold mX
 simp only [eM]
 have hn:=hJ.len
 rw [hl]
 refine st2z' s.Jobs.length (fun i => mxN (fun j => dyL l j + dsL s.Jobs j) i) rfl (by omega) (fun rec => ?_) (fun rec i hi => ?_)
 ·rw [ltE,cond_false]
 ·rw [ltD hi, cond_true, aDX N hJ hi (by omega) (hb i), Option.bind_some, nadd1 i (by omega), ifmax]
  rfl
theorem aGh (N : Nat) (hN : 100 < N) {s : aV} (h : GW s) {l : List aG} (hb : ∀ j,-1000000 ≤ dyL l j ∧ dyL l j ≤ 1000000) : (∃ e,e ≠ 0 ∧ jQ N s l = some (0,e)) ∨ (jO s l ∧ jQ N s l = some (mxN (fun j => dyL l j + dsL s.Jobs j) s.Jobs.length,0)):=by
 unfold jQ
 rw [aGq N hN h,Option.bind_some,show ((0 : Int) != 0) = false from rfl,cond_false]
 rcases aCI N hN h hb with ⟨e,q2,q3⟩ | ⟨q1,q3⟩
 ·rw [q3,Option.bind_some,bne_iff_ne.2 q2,cond_true]
  exact .inl ⟨e,q2,rfl⟩
 ·rw [q3,Option.bind_some,show ((0 : Int) != 0) = false from rfl,cond_false,aHg N hN h.jobs q1.len hb,Option.bind_some]
  exact .inr ⟨q1,rfl⟩
theorem aGz {body : (Int → Option Bool) → Int → Option Bool} (a b : List Int) (hab : a.length = b.length) (K : Option Bool) (hend : ∀ rec,body rec (a.length : Int) = K) (hstep : ∀ rec (i : Nat) x y,a[i]? = some x → b[i]? = some y → body rec (i : Int) = if x ≠ y then some (decide (x < y)) else rec ((i + 1 : Nat) : Int)) : ∀ (N i : Nat),i ≤ a.length → a.length - i < N → (∃ r,loop1 body N (i : Int) = some r ∧ a.drop i ≠ b.drop i ∧ (r = true → lxL (a.drop i) (b.drop i))) ∨ (a.drop i = b.drop i ∧ loop1 body N (i : Int) = K)
 | 0,_,_,h => absurd h (Nat.not_lt_zero _)
 | N + 1,i,hi,h => by
  show (∃ r,body (loop1 body N) (i : Int) = some r ∧ _ ∧ _) ∨ (_ ∧ body (loop1 body N) (i : Int) = K)
  by_cases hlt : i < a.length
  ·have hx : a[i]? = some a[i]:=List.getElem?_eq_getElem hlt
   have hy : b[i]? = some b[i]:=List.getElem?_eq_getElem (by omega)
   rw [hstep _ i _ _ hx hy,List.drop_eq_getElem_cons hlt,List.drop_eq_getElem_cons (show i < b.length by omega)]
   by_cases hne : a[i] = b[i]
   ·rw [if_neg (not_not_intro hne)]
    rcases aGz a b hab K hend hstep N (i + 1) (by omega) (by omega) with ⟨r,e1,e2,e3⟩ | ⟨e1,e2⟩
    ·exact .inl ⟨r,e1,fun e => e2 (List.cons.inj e).2,fun hr => .inr ⟨hne,e3 hr⟩⟩
    ·exact .inr ⟨by rw [e1,hne],e2⟩
   ·rw [if_pos hne]
    exact .inl ⟨_,rfl,fun e => hne (List.cons.inj e).1,fun hr => .inl (of_decide_eq_true hr)⟩
  ·have : i = a.length := by omega
   subst this
   rw [hend,List.drop_eq_nil_of_le (Nat.le_refl _),List.drop_eq_nil_of_le (by omega)]
   exact .inr ⟨rfl,rfl⟩
theorem aGA {body : (Int → Option Bool) → Int → Option Bool} (P : Option Bool → Prop) (a b : List Int) (hab : a.length = b.length) {N : Nat} (hN : a.length < N) (hend : ∀ rec,body rec (a.length : Int) = body (fun _ => none) (a.length : Int)) (hstep : ∀ rec (i : Nat) x y,a[i]? = some x → b[i]? = some y → body rec (i : Int) = if x ≠ y then some (decide (x < y)) else rec ((i + 1 : Nat) : Int)) (h1 : ∀ r,(r = true → lxL a b) → P (some r)) (h2 : a = b → P (body (fun _ => none) (a.length : Int))) : P (loop1 body N 0):=by
 rcases aGz a b hab _ hend hstep N 0 (Nat.zero_le _) (by omega) with ⟨r,e1,_,e3⟩ | ⟨e1,e2⟩
 ·have e1 : loop1 body N 0 = some r:=e1
  rw [e1]; exact h1 r e3
 ·have e2 : loop1 body N 0 = _:=e2
  rw [e2]; exact h2 e1
theorem aFw (N : Nat) (hN : 100 < N) (l m : List aG) (h : l.length = m.length) (h7 : l.length ≤ 7) : ∃ r,jZ N l m = some r ∧ (r = true → lxL (l.map (·.Day)) (m.map (·.Day)) ∨ (l.map (·.Day) = m.map (·.Day) ∧ lxL (l.map (·.Worker)) (m.map (·.Worker)))):=by
 unfold jZ
 simp only [eM]
 refine aGA (N:=N) (fun o => ∃ r,o = some r ∧ (r = true → lxL (l.map (·.Day)) (m.map (·.Day)) ∨ (l.map (·.Day) = m.map (·.Day) ∧ lxL (l.map (·.Worker)) (m.map (·.Worker))))) (l.map (·.Day)) (m.map (·.Day)) (by simp [h]) (by rw [List.length_map]; omega) (fun rec => ?_) (fun rec i x y hx hy => ?_) (fun r hr => ⟨r,rfl,fun e => .inl (hr e)⟩) (fun e1 => ?_)
 ·rw [List.length_map,ltE,cond_false,cond_false]
 ·rw [List.getElem?_map,Option.map_eq_some_iff] at hx hy
  obtain ⟨u,hu,rfl⟩:=hx
  obtain ⟨v,hv,rfl⟩:=hy
  have h1:=(List.getElem?_eq_some_iff.1 hu).1
  rw [ltD h1,cond_true,bV,hu,Option.bind_some,bV,hv,Option.bind_some,Option.bind_some,Option.bind_some,nadd1 i (by omega)]
  by_cases hc : u.Day = v.Day
  ·rw [if_neg (not_not_intro hc),hc]; simp
  ·rw [if_pos hc,bne_iff_ne.2 hc,cond_true]
 ·rw [List.length_map,ltE,cond_false]
  refine aGA (N:=N) (fun o => ∃ r,o = some r ∧ (r = true → lxL (l.map (·.Day)) (m.map (·.Day)) ∨ (l.map (·.Day) = m.map (·.Day) ∧ lxL (l.map (·.Worker)) (m.map (·.Worker))))) (l.map (·.Worker)) (m.map (·.Worker)) (by simp [h]) (by rw [List.length_map]; omega) (fun rec => ?_) (fun rec i x y hx hy => ?_) (fun r hr => ⟨r,rfl,fun e => .inr ⟨e1,hr e⟩⟩) (fun e2 => ⟨false,?_,fun e => by cases e⟩)
  ·rw [List.length_map,ltE,cond_false,cond_false]
  ·rw [List.getElem?_map,Option.map_eq_some_iff] at hx hy
   obtain ⟨u,hu,rfl⟩:=hx
   obtain ⟨v,hv,rfl⟩:=hy
   have h1:=(List.getElem?_eq_some_iff.1 hu).1
   rw [ltD h1,cond_true,bV,hu,Option.bind_some,bV,hv,Option.bind_some,Option.bind_some,Option.bind_some,nadd1 i (by omega)]
   by_cases hc : u.Worker = v.Worker
   ·rw [if_neg (not_not_intro hc),hc]; simp
   ·rw [if_pos hc,bne_iff_ne.2 hc,cond_true]
  ·rw [List.length_map,ltE,cond_false]
end
section
open Go.RowKit
theorem lxL.app2 : ∀ {l m : List Int} (l' m' : List Int),l.length = m.length → lxL l m → lxL (l ++ l') (m ++ m')
 | [],_,_,_,_,h => h.elim
 | _ :: _,[],_,_,_,h => h.elim
 | x :: l,y :: m,l',m',hl,h => by
  rcases h with h | ⟨e,h⟩
  ·exact .inl h
  ·exact .inr ⟨e,lxL.app2 l' m' (by simpa using hl) h⟩
theorem lxL.pre : ∀ (p : List Int) {l m : List Int},lxL l m → lxL (p ++ l) (p ++ m)
 | [],_,_,h => h
 | x :: p,_,_,h => .inr ⟨rfl,lxL.pre p h⟩
theorem aAg (l : List aG) (h : l.length ≤ 7) : (List.range 7).map (dyL l) = l.map (·.Day) ++ List.replicate (7 - l.length) 0 ∧ (List.range 7).map (wkL l) = l.map (·.Worker) ++ List.replicate (7 - l.length) 0:=by
 match l,h with
 | [],_ => exact ⟨rfl,rfl⟩
 | [a],_ => exact ⟨rfl,rfl⟩
 | [a,b],_ => exact ⟨rfl,rfl⟩
 | [a,b,c],_ => exact ⟨rfl,rfl⟩
 | [a,b,c,d],_ => exact ⟨rfl,rfl⟩
 | [a,b,c,d,e],_ => exact ⟨rfl,rfl⟩
 | [a,b,c,d,e,f],_ => exact ⟨rfl,rfl⟩
 | [a,b,c,d,e,f,g],_ => exact ⟨rfl,rfl⟩
theorem aCQ {s : aV} (h : GW s) {l m : List aG} {d : Int} (hb : aCJ s h.jobs m d) (hp : jO s l) (hd : mxN (fun j => dyL l j + dsL s.Jobs j) s.Jobs.length = d) (hlt : lxL (l.map (·.Day)) (m.map (·.Day)) ∨ (l.map (·.Day) = m.map (·.Day) ∧ lxL (l.map (·.Worker)) (m.map (·.Worker)))) : False:=by
 have hn:=h.jobs.len
 have hok:=hp.okp h
 have hout : ∀ j,s.Jobs.length ≤ j → dyL l j = 0 ∧ wkL l j = 0:=fun j hj => by
  unfold dyL wkL
  rw [List.getElem?_eq_none (by rw [hp.len]; exact hj)]
  exact ⟨rfl,rfl⟩
 have hmin := hb.min _ _ hok (fun j => by
  by_cases hj : j < s.Jobs.length
  ·obtain ⟨k,_,e,_⟩:=oP.1 (hok.can j hj)
   rw [e]; exact Int.natCast_nonneg k
  ·rw [(hout j (by omega)).2]; exact Int.le_refl _) fun j hj => (hout j hj).1
 refine hmin.not ?_
 unfold keyP
 obtain ⟨a1,a2⟩:=aAg l (by rw [hp.len]; exact hn)
 obtain ⟨b1,b2⟩:=aAg m (by rw [hb.len]; exact hn)
 rw [a1,a2,b1,b2,hp.len,hb.len]
 refine .inr ⟨hd.trans hb.days,?_⟩
 have hl : (l.map (·.Day)).length = (m.map (·.Day)).length:=by simp [hp.len,hb.len]
 rcases hlt with e | ⟨e1,e⟩
 ·rw [List.append_assoc,List.append_assoc]
  exact lxL.app2 _ _ hl e
 ·rw [e1]
  refine lxL.pre _ (lxL.app2 _ _ (by simp [hp.len,hb.len]) e)
theorem aFf {s : aV} (h : GW s) {m : List aG} {d : Int} (hb : aCJ s h.jobs m d) {last : Int} (h0 : 0 ≤ last ∧ last ≤ 50) : ∀ (r N : Nat) (l : List aG),l.length + r = s.Jobs.length → 200 + r < N → (∀ x,x ∈ l → 0 ≤ x.Day ∧ x.Day ≤ 50) → eW N s l m d last = some false:=by
 intro r
 have hn:=h.jobs.len
 have hw4:=h.w4
 induction r with
 | zero =>
  intro N l hl hN hx
  obtain ⟨M,rfl⟩ : ∃ M,N = M + 1:=⟨N - 1,by omega⟩
  have hbd : ∀ j,-1000000 ≤ dyL l j ∧ dyL l j ≤ 1000000:=fun j => by
   by_cases hj : j < l.length
   ·rw [lB (List.getElem?_eq_getElem hj)]
    have:=hx _ (List.getElem_mem hj)
    omega
   ·unfold dyL
    rw [List.getElem?_eq_none (by omega)]
    exact ⟨by decide,by decide⟩
  unfold eW
  rw [beq_iff_eq.2 (show ((l.length : Nat) : Int) = ((s.Jobs.length : Nat) : Int) by omega),cond_true]
  rcases aGh M (by omega) h hbd with ⟨e,he,q⟩ | ⟨q,q2⟩
  ·rw [q,Option.bind_some,beq_eq_false_iff_ne.2 he,cond_false]
  ·have hle:=q.best h hb
   rw [q2,Option.bind_some]
   dsimp only
   rw [show ((0 : Int) == 0) = true from rfl,cond_true,decide_eq_false (by omega),cond_false]
   by_cases hd : mxN (fun j => dyL l j + dsL s.Jobs j) s.Jobs.length = d
   ·obtain ⟨r, er, hr⟩ := aFw M (by omega) l m (by rw [q.len, hb.len]) (by rw [q.len]; exact hn)
    rw [beq_iff_eq.2 hd,cond_true,er,Option.bind_some]
    cases r with
    | false => rfl
    | true => exact (aCQ h hb q hd (hr rfl)).elim
   ·rw [beq_eq_false_iff_ne.2 hd,cond_false]
 | succ r ih =>
  intro N l hl hN hx
  obtain ⟨M,rfl⟩ : ∃ M,N = M + 1:=⟨N - 1,by omega⟩
  unfold eW
  simp only [eM]
  rw [beq_eq_false_iff_ne.2 (show ((l.length : Nat) : Int) ≠ ((s.Jobs.length : Nat) : Int) by omega),cond_false]
  have hJ : s.Jobs[l.length]? = some (s.Jobs[l.length]'(by omega)):=List.getElem?_eq_getElem _
  generalize s.Jobs[l.length]'(by omega) = y at hJ
  refine st1 s.Workers.length _ (some false) (fun rec => ?_) (fun rec w hw => ?_) M 0 (Nat.zero_le _) (by omega)
  ·rw [ltE,cond_false]
  ·have hv : s.Workers[w]? = some s.Workers[w]:=List.getElem?_eq_getElem hw
   generalize s.Workers[w] = v at hv
   rw [ltD hw,cond_true,bV,hv,bV,hJ]
   simp only [Option.bind_some,aGF]
   obtain ⟨L,hL⟩ : ∃ L : Nat,last = (L : Int):=⟨last.toNat,by omega⟩
   cases hc : canW v y.Skill with
   | false =>
    refine st1 0 _ (rec ((w + 1 : Nat) : Int)) (fun rec2 => ?_) (fun rec2 day hday => absurd hday (Nat.not_lt_zero _)) M 0 (Nat.zero_le _) (by omega)
    rw [decide_eq_true (by omega),cond_true,cond_false,nadd1 w (by omega)]
   | true =>
    refine st1 (L + 1) _ (rec ((w + 1 : Nat) : Int)) (fun rec2 => ?_) (fun rec2 day hday => ?_) M 0 (Nat.zero_le _) (by omega)
    ·rw [decide_eq_false (by omega),cond_false,cond_false,nadd1 w (by omega)]
    ·have ho : hZ M l = some l:=by
      unfold hZ
      rw [lM (by simp; omega),Option.bind_some,List.nil_append]
     rw [decide_eq_true (by omega),cond_true,cond_true,ho,Option.bind_some,lM (by simp; omega),Option.bind_some,ih M _ (by simp; omega) (by omega) (fun x hx2 => ?_),Option.bind_some,cond_false,nadd1 day (by omega)]
     rcases List.mem_append.1 hx2 with hx2 | hx2
     ·exact hx x hx2
     ·rw [List.mem_singleton] at hx2
      subst hx2
      exact ⟨by show 0 ≤ (day : Int); omega,by show (day : Int) ≤ 50; omega⟩
theorem aAC (N : Nat) (nums : List Int) (hN : nums.length + 1000 < N) (hl : nums.length < 9223372036854775808) (haw : hY N = some true) : iO N nums = some true:=by
 unfold iO
 obtain ⟨d,ed⟩:=aFa N nums (by omega) hl
 obtain ⟨s,d',es,hs⟩:=aEH N (by omega) d 2 4 2 (by omega) (by omega) (by omega)
 have hg:=hs.gw
 rw [ed,Option.bind_some,es,Option.bind_some]
 rcases aHs N (by omega) hg with ⟨hna,eb⟩ | ⟨haa,l0,d0,eb,hb0⟩
 ·have ebd : iM N s = some (0,7):=by
   unfold iM
   rcases aBI N (by omega) hg with ⟨_,q⟩ | ⟨q,_⟩
   ·rw [q]; rfl
   ·exact absurd q hna
  rw [eb,Option.bind_some]
  dsimp only
  rw [ebd,haw]
  rfl
 ·have hsm : ∀ i,i < s.Jobs.length → 0 ≤ dyL l0 i ∧ dyL l0 i ≤ 210:=fun i hi => by
   have h1:=hb0.small i hi
   have h2 : smN (dsL s.Jobs) s.Jobs.length ≤ 210:=aAd hg.jobs (fun _ => true)
   have h3:=(hg.jobs.ds hi).1
   exact ⟨hb0.ok.pos i hi,by omega⟩
  have hlb : ∀ j,-1000000 ≤ dyL l0 j ∧ dyL l0 j ≤ 1000000:=fun j => by
   by_cases hj : j < s.Jobs.length
   ·have:=hsm j hj; omega
   ·have : dyL l0 j = 0 := by unfold dyL; rw [List.getElem?_eq_none (by rw [hb0.len]; omega)]; rfl
    omega
  have hpo : jO s l0:=jO.of hg hb0.len hb0.ok fun j hj => by have:=hsm j hj; omega
  have etk : gP N s l0 = some (d0,0):=by
   rcases aGi N (by omega) hg hlb with ⟨q,_⟩ | ⟨_,q⟩
   ·exact absurd hpo q
   ·rw [q,← hb0.days]
  have h0 : 0 ≤ d0:=by rw [hb0.days]; exact mxN.pos _ _
  have h8 : d0 ≤ 8:=by
   rw [hb0.days]
   refine mxN.le _ (by omega) _ fun j hj => ?_
   have h1:=hb0.small j hj
   have h2 : smN (dsL s.Jobs) s.Jobs.length ≤ smN (fun _ => 2) s.Jobs.length:=smN.mono _ _ _ fun i hi => by
    have hx : s.Jobs[i]? = some s.Jobs[i]:=List.getElem?_eq_getElem hi
    rw [aCY hx]
    exact hs.k _ (List.getElem_mem hi)
   have h3 : ∀ n,smN (fun _ => 2) n = 2 * (n : Int):=fun n => by
    induction n with
    | zero => rfl
    | succ n ih => rw [smN,ih]; omega
   have h4:=hs.j
   rw [h3] at h2
   have h1 : dyL l0 j + dsL s.Jobs j ≤ smN (dsL s.Jobs) s.Jobs.length:=h1
   omega
  have ebt : eW N s [] l0 d0 (if (IntKind.i64.wrap (d0 - 1)) > 0 then (IntKind.i64.wrap (d0 - 1)) else 0) = some false:=by
   rw [w64 (by omega) (by omega),ifmax]
   exact aFf hg hb0 (by omega) s.Jobs.length N [] (by simp) (by have:=hg.jobs.len; omega) (fun x hx => by simp at hx)
  rw [eb,Option.bind_some]
  dsimp only
  rw [show ((0 : Int) != 0) = false from rfl,cond_false,etk,Option.bind_some]
  dsimp only
  rw [show ((0 : Int) == 0) = true from rfl,cond_true,beq_self_eq_true,cond_true,decide_eq_true (show d0 ≥ 0 from h0),cond_true,decide_eq_true h8,cond_true,ebt,haw]
  rfl
theorem aAD (nums : List Int) (haw : hY 18446744073709551616 = some true) (hl : nums.length + 1000 < 18446744073709551616) (hl2 : nums.length < 9223372036854775808) : Does Tryz.prog 5 [.sl (nums.map fun z => .int .i64 z) none] [] fun v _ => v = .bool true :=
 (vR _ nums true (aAC _ nums hl hl2 haw)).mono fun v c h => h.1
end
section
open Go.RowKit
set_option maxRecDepth 100000
theorem aGf : hY 18446744073709551616 = some true:=by kernel_rfl
end
section
open Go.RowKit Go.ChangeShapes Go.WideShapes Go.ChangeAt
def nums (zs : List Int) : AV:=.sl (zs.map fun z => .int .i64 z) none
theorem aEJ : ownKnob Tryz.prog.godebug = none:=by kernel_rfl
theorem aEh : laidOutB Tryz.prog = true:=by kernel_rfl
namespace shedFewest
theorem glw {W : World} (hL : laidMetH Tryz.prog Rows.shedFewestRow.laid W) : GLW W:=by
 rw [MakeChecks.laidMetH_plain _ _ _ (by kernel_rfl)] at hL
 have h0 : Lib.TabIs Tryz.prog W "bateria/shed.bitOf" .u8 gnum0 := Lib.tabIs_of_head (g := 0) (t := 136) (e := 135) (n := 4) (by kernel_rfl) (by kernel_rfl) (by kernel_rfl) (by kernel_rfl) (by kernel_rfl) (by kernel_rfl) (hL)
 intro B o u h
 by_cases e0 : B = 0
 ·subst e0
  have:=World.var?_cell (P:=Tryz.prog) (g:=0) (by kernel_rfl) h0 o
  rw [this]
  simpa [gcell,gtab,gtab0] using h
 simp [gcell,gtab,e0] at h
theorem aFb (os : Os) (args : Array Value) : laidMetH Tryz.prog Rows.shedFewestRow.laid ((World.doorLaid Tryz.prog 14 os).forCall (fun _ _ => 0) ⟨#[],args,[]⟩).memory :=
 laidMetH_of_parts3 (fuel:=8) (laidMet_of_run' 8 (by kernel_rfl) (by kernel_rfl)) (by kernel_rfl) (by kernel_rfl)
set_option maxRecDepth 100000 in
theorem lifted (hM : ∀ zs : List Int,(∀ z ∈ zs,(Lit.int .i64 z).wf = true) → zs.length ≤ maxLen → Does Tryz.prog 5 [nums zs] [] fun v _ => v = .bool true) (os : Os) (started : os.Started) (H : Type) (enc : TypeId × Value → H) :
  ReturnsInHanded {} Tryz.checked os 5 .any (fun w args => (Rows.shedFewestSpec.pre enc Tryz.prog Tryz.f5 Rows.shedFewestRow.domain false w args ∧ laidMetH Tryz.prog Rows.shedFewestRow.laid w) ∧ sizedMet enc Tryz.prog Tryz.f5 (OpenSpec.ofChange Rows.shedFewestSpec) false w args) (Rows.shedFewestSpec.post enc Tryz.prog Tryz.f5 false true false false):=by
 refine returnsInHanded_of_change_and (C := Tryz.checked) (X := fun w _ => laidMetH Tryz.prog Rows.shedFewestRow.laid w) (fun _ _ _ hh h => h.of_heap hh) aEJ started (by kernel_rfl) Tryz.func5
  (ChangeSpec.witness_shaped (enc:=enc) (C:=Tryz.checked) (os:=os) (X:=fun w _ => laidMetH Tryz.prog Rows.shedFewestRow.laid w) false (World.doorLaid Tryz.prog 14 os) #[.slice none 0 0] 8 rfl (World.shaped_of_RefB (by kernel_rfl) (by kernel_rfl)) (by kernel_rfl) (by kernel_rfl) (by kernel_rfl) (aFb os _)) ?_
 intro W base args ds gs before hval0 hW hcnd _ hL _
 have hval : ∀ (j : Nat) t v,Tryz.f5.params[j]? = some t → args[j]? = some v → Value.okWide Tryz.prog W .any base t v:=hval0
 have hW':=hW
 obtain ⟨p,q,hA0,hV,rfl,hfz,hnd⟩:=hW
 have hA : DataW.TrodAll enc Tryz.prog W 0 (fun _ => true) true Tryz.f5.params.toList args.toList ds p:=hA0
 rw [Tryz.params5] at hA hval
 obtain ⟨v0,vs0,d0,ds0,p0,q0,hargs,rfl,rfl,h0,r0⟩:=trodAll_cons hA
 obtain ⟨rfl,rfl,rfl⟩:=trodAll_nil r0
 obtain rfl : args = #[v0]:=by cases args; simp_all
 obtain ⟨rfl,rfl⟩:=trodVars_none hV
 obtain ⟨a0,len0,cap0,rfl⟩:=okWide_slice Tryz.underlying22 (hval 0 22 v0 rfl rfl)
 have k0:=h0
 have lt0 : ∀ x ∈ p0,x.block < W.heap.size:=by obtain ⟨m,hm⟩:=k0; exact DataW.trod_lt m _ _ _ hm
 obtain ⟨zs,hwf,hlen,hvr⟩:=aFS Tryz.underlying22 Tryz.underlying3 (by kernel_rfl) h0
 clear hA0 hval0
 refine ((hM zs hwf hlen).law (us:=#[.slice a0 len0 cap0]) ⟨rfl,fun i x u hx hu => ?_⟩ (glw hL)).mono fun e W' ⟨he,bel⟩ => ?_
 ·cases i with
  | zero => simp at hx hu; subst hx; subst hu; exact hvr
  | succ i => simp at hx
 subst he
 exact ⟨_,rfl,_,_,_,[],_,[],hW',trodAll_mk1 (shut_bool Tryz.underlying4 _),(trodAll_cons_mk (Below.trod aEh (by kernel_rfl) (of_decide_eq_true (by kernel_rfl)) k0 bel lt0) trodAll_mk0),rfl,bel.frame _,fun h => by cases h⟩
theorem frame (hM : ∀ zs : List Int,(∀ z ∈ zs,(Lit.int .i64 z).wf = true) → zs.length ≤ maxLen → Does Tryz.prog 5 [nums zs] [] fun v _ => v = .bool true) : Rows.ShedFewestSaid :=
 OpenClaim.holds_of_wide 5 Tryz.f5 rfl rfl rfl rfl rfl rfl rfl ⟨rfl, rfl, rfl, rfl, rfl⟩ rfl rfl rfl rfl rfl (by kernel_rfl) Tryz.func5 (by kernel_rfl)
  (of_decide_eq_true (by kernel_rfl)) (by unfold Func.isWrapper; first | (rw [if_pos (by decide +kernel)]; kernel_rfl) | (rw [if_neg (by decide +kernel)]; exact ⟨rfl,rfl⟩))
  (fun os started H enc _ => lifted hM os started H enc)
end shedFewest
end
section
open Go
set_option maxRecDepth 100000
theorem wV (h : Rows.ShedFewestSaid) : Rows.ShedFewestCardSaid :=
 Claim7.holds_tied_plain_at .later [] [.data] true (true, "b3fded3a67afa865d36bc59f57d365191d1fc101e0dca674230707b3974d87a0") false
  h (fun _ h => by cases h) (by kernel_rfl) (fun _ h => by cases h) shedFewest_row_tie rfl ⟨rfl,rfl⟩ (by kernel_rfl) rfl
  (fun f fn hf hfn => by
    obtain rfl : f = 5 := Option.some.inj ((show Tryz.prog.funcNamed "bateria/baterialaw08.ShedFewest" = some 5 by kernel_rfl).symm.trans hf) |>.symm
    obtain rfl : fn = Tryz.f5:=(Option.some.inj ((Tryz.func5).symm.trans hfn)).symm
    refine ⟨by kernel_rfl,fun j t ht => ?_⟩
    have hall : (Tryz.f5.params.toList.all fun t => !Tryz.prog.wantsStandIn t) = true:=by kernel_rfl
    have hm : t ∈ Tryz.f5.params.toList:=by
     rw [← Array.getElem?_toList] at ht
     exact List.mem_of_getElem? ht
    have hq:=List.all_eq_true.1 hall t hm
    show Tryz.prog.wantsStandIn t = false
    simpa using hq)
  (by kernel_rfl)
end
end Go.Proofs.YtjjmhjmkdihmnaaGreatDoor
