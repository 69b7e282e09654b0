/- Part 8 of what the law needs: own work, put together. -/
import Derived.Deep.Slices
import Derived.WideShapes
import Derived.Test.YtildamklmoekaaaGreatDoorZp6
set_option linter.unusedVariables false
set_option linter.unusedSimpArgs false
set_option maxRecDepth 10000
set_option maxHeartbeats 4000000
namespace Go.Proofs.YtildamklmoekaaaGreatDoor
section
open Go.RowKit
attribute [local simp] ren ren1 AV.plain AV.plain1 AV.clean bB fX dS gB fR dB dC fE dN cF cJ eV fY dK cZ jS sC kM kN cT aK aE aU aI aW aC aB aA aN bO bP eH dP fL eG aO aJ aQ aF aP bJ qB oG bF oH bC dF back back1 fadeS fadeV List.idxOf? List.findIdx? List.findIdx?.go re re1 nH oX zF vE rN kO nY qA lF jI wK aEe aEf aCS
def kB (N : Nat) (s_1 : aH) : Option (aH):=((iO ([] : List aX) s_1.Workers).bind fun l_2 => ((iO ([] : List bH) s_1.Jobs).bind fun l_3 => some (⟨l_2,l_3⟩ : aH)))
def gJ (r : aH) : AV:=(aC r)
attribute [local simp] gJ
theorem aBu (r : aH) (n n2 m : Nat) : back n n2 m (gJ r) = some (gJ r):=by simp
theorem aBg (N : Nat) (s_1 : aH) (r : aH) (h : kB N s_1 = some r) : Does Tryz.prog 7 [(aC s_1)] [] fun v c => v = gJ r ∧ c = []:=by
 unfold kB at h
 refine Does.ofL comp7 _ _ rfl rfl ?_
 refine Ex.seq (rg 2 [1,2] (mkS 12 [(1,.ptr 0 0),(2,.ptr 1 0)]) ⟨[(aB s_1),[.nils,.nils]],[]⟩ ?_)
 refine Ex.seq ?_
 obtain ⟨l_2,hl_2,h⟩:=bE h
 refine Ex.drawE (a1:=mkS 12 [(1,.ptr 0 0),(2,.ptr 1 0),(3,.sl (([] : List aX).map aE) (some 0)),(4,.ptr 0 0),(5,.sl (s_1.Workers.map aE) none),(6,.sl (l_2.map aE) (some 0)),(7,.sl (([] : List bH).map aI) (some 1)),(8,.ptr 0 1),(9,.sl (s_1.Jobs.map aI) none)]) (cP _) [] [(0,3),(0,3)] [⟨[(aB s_1),[.nils,.nils]],[(l_2.length,3),(0,3)]⟩] ?_ ?_
 ·refine drRF 0 3 (([] : List aX).map aE) 3 rfl rfl rfl (by kernel_rfl) (fun _ => by kernel_rfl) (by simp) (by simp) rfl rfl ?_
  refine drS [0,1] 2 [] [] (mkS 12 [(1,.ptr 0 0),(2,.ptr 1 0),(3,.sl (([] : List aX).map aE) (some 0)),(4,.ptr 0 0),(5,.sl (s_1.Workers.map aE) none)]) (by simp) (by kernel_rfl) trivial (by kernel_rfl) ?_
  refine drE (some (.apps (s_1.Workers.map aE) (l_2.map aE) l_2.length)) (some (lQ 0 (([] : List aX).map aE) (s_1.Workers.map aE) (s_1.Workers.map aE) 3 (l_2.map aE) l_2.length)) (.sl (l_2.map aE) (some 0)) _ _ rfl rfl rfl rfl rfl (by kernel_rfl) (lQ.of hl_2 (fun _ => rfl) (fun _ => rfl) (fun _ => rfl)) ?_
  refine drR 1 3 (([] : List bH).map aI) rfl rfl (fun _ => by kernel_rfl) (by simp) rfl rfl ?_
  refine drS [0,1] 2 [] [] (mkS 12 [(1,.ptr 0 0),(2,.ptr 1 0),(3,.sl (([] : List aX).map aE) (some 0)),(4,.ptr 0 0),(5,.sl (s_1.Workers.map aE) none),(6,.sl (l_2.map aE) (some 0)),(7,.sl (([] : List bH).map aI) (some 1)),(8,.ptr 0 1),(9,.sl (s_1.Jobs.map aI) none)]) (by simp) (by kernel_rfl) trivial (by kernel_rfl) ?_
  exact DrO.nil rfl
 ·dsimp only [List.getLastD_cons,List.getLastD_nil]
  obtain ⟨l_3,hl_3,h⟩:=bE h
  refine runH 3 [(0,.apps (s_1.Jobs.map aI) (l_3.map aI) l_3.length)] [2] [lQ 0 (([] : List bH).map aI) (s_1.Jobs.map aI) (s_1.Jobs.map aI) 3 (l_3.map aI) l_3.length] (mkS 12 [(2,.ptr 1 0)]) (⟨[(aB s_1),[.sl (l_2.map aE) (some 0),.sl (l_3.map aI) (some 1)]],[(l_2.length,3),(l_3.length,3)]⟩) (by kernel_rfl) ⟨lQ.of hl_3 (fun _ => rfl) (fun _ => rfl) (fun _ => rfl),trivial⟩ ?_
  refine ExO.nil ?_
  refine Ex.ret ?_
  obtain rfl:=sJ h
  exact rt (.agg [.sl (l_2.map aE) (some 0),.sl (l_3.map aI) (some 1)])
def iX (N : Nat) (d_1 : aR) (s_2 : aH) : Option ((List aG) × aR):=(letJ (fun (l_3 : List aG) (b_4 : Int) => some (l_3,(⟨b_4⟩ : aR))) (fun k_5 => (loop4 (fun rec_12 (l_8 : List aG) (day_9 : Int) (i_10 : Int) (b_11 : Int) => (bif (decide (i_10 < ((s_2.Jobs.length : Nat) : Int))) then ((cK N (⟨b_11⟩ : aR) ((s_2.Workers.length : Nat) : Int)).bind fun r_16 => ((cK N r_16.2 2).bind fun r_17 => ((iO l_8 ([(⟨r_16.1,(IntKind.i64.wrap (day_9 + r_17.1))⟩ : aG)] : List aG)).bind fun l_18 => ((getI s_2.Jobs i_10).bind fun x_19 => ((getI s_2.Jobs i_10).bind fun x_20 => ((iY N r_17.2 [0,x_19.Days,x_20.Days]).bind fun r_21 => (rec_12 l_18 (IntKind.i64.wrap (day_9 + r_21.1)) (IntKind.i64.wrap (i_10 + 1)) r_21.2.beat_))))))) else (k_5 l_8 b_11))) N [] 0 0 d_1.beat_)))
def fU (r : (List aG) × aR) : AV:=.sl (r.1.map aA) none
attribute [local simp] fU
theorem zZ (r : (List aG) × aR) (n n2 m : Nat) : back n n2 m (fU r) = some (fU r):=by simp
theorem zR (N : Nat) (d_1 : aR) (s_2 : aH) (r : (List aG) × aR) (h : iX N d_1 s_2 = some r) : Does Tryz.prog 8 [.ptr 0 0,(aC s_2)] [(aK d_1)] fun v c => v = fU r ∧ c = [(aK r.2)]:=by
 unfold iX at h
 refine Does.ofL comp8 _ _ rfl rfl ?_
 refine Ex.seq (rg 2 [0,3] (mkS 46 [(0,.ptr 0 0),(3,.ptr 1 0)]) ⟨[(aK d_1),(aB s_2)],[]⟩ ?_)
 refine Ex.seq (rg 1 [0,3,5] (mkS 46 [(0,.ptr 0 0),(3,.ptr 1 0),(5,.nils)]) ⟨[(aK d_1),(aB s_2)],[]⟩ ?_)
 refine Ex.seq (rg 1 [0,3,5,6] (mkS 46 [(0,.ptr 0 0),(3,.ptr 1 0),(5,.nils),(6,i6 0)]) ⟨[(aK d_1),(aB s_2)],[]⟩ ?_)
 refine Ex.seq (Ex.seq ?_)
 refine rg 1 [0,3,5,6,7] (mkS 46 [(0,.ptr 0 0),(3,.ptr 1 0),(5,.nils),(6,i6 0),(7,i6 0)]) ⟨[(aK d_1),(aB s_2)],[]⟩ ?_
 obtain ⟨K_6,hK_7,h⟩:=letE h
 refine Ex.blockJ (fun a S => ∃ (l_3 : List aG),∃ (b_4 : Int),K_6 l_3 b_4 = some r ∧ a = mkS 46 [(5,.sl (l_3.map aA) (some 0))] ∧ S = ⟨[[.int .u64 b_4]],[(l_3.length,2)]⟩) ?_ ?_
 ·refine Ex.forget (nilK 5 2 rfl) ?_
  refine Ex.castA (a2:=mkS 46 [(0,.ptr 0 0),(3,.ptr 1 0),(5,.sl (([] : List aG).map aA) (some 0)),(6,i6 0),(7,i6 0)]) (S2:=⟨[(aK d_1),(aB s_2)],[(0,2)]⟩) (by kernel_rfl) (by kernel_rfl) ?_
  obtain ⟨B_13,hB_14,h⟩:=aFf h
  refine Ex.loopF (fun k a S => ∃ (l_8 : List aG),∃ (day_9 : Int),∃ (i_10 : Int),∃ (b_11 : Int),loop4 B_13 k l_8 day_9 i_10 b_11 = some r ∧ a = mkS 46 [(0,.ptr 0 0),(3,.ptr 1 0),(5,.sl (l_8.map aA) (some 0)),(6,i6 day_9),(7,i6 i_10)] ∧ S = ⟨[[.int .u64 b_11],(aB s_2)],[(l_8.length,2)]⟩) N ⟨_,_,aM.refl _ _ _,[],0,0,d_1.beat_,h,rfl,rfl⟩ ?_
  rintro k a S ⟨l_8,day_9,i_10,b_11,h,rfl,rfl⟩
  cases k with
  | zero => exact (aFd h).elim
  | succ k =>
   replace h:=aFe h hB_14
   refine Ex.seq (Ex.seq ?_)
   refine regH 5 [(3,.eq (i6 ((s_2.Jobs.length : Nat) : Int)))] [0,3,5,6,7,12] [AV.int .i64 (((s_2.Jobs.map aI).length : Nat) : Int) = AV.int .i64 ((s_2.Jobs.length : Nat) : Int)] (mkS 46 [(0,.ptr 0 0),(3,.ptr 1 0),(5,.sl (l_8.map aA) (some 0)),(6,i6 day_9),(7,i6 i_10),(12,.bool (decide (i_10 < ((s_2.Jobs.length : Nat) : Int))))]) (⟨[[.int .u64 b_11],(aB s_2)],[(l_8.length,2)]⟩) (by kernel_rfl) ⟨lenM _ _,trivial⟩ rfl ?_
   rcases aY h with ⟨hc_15,h⟩ | ⟨hc_15,h⟩
   ·refine Ex.condT _ rfl hc_15 ?_
    refine Ex.skip ?_
    refine Ex.seq ?_
    refine Ex.blockK ?_
    refine Ex.seq ?_
    obtain ⟨r_16,hr_16,h⟩:=bE h
    refine Ex.reg ?_
    refine runH 5 [(4,.eq (i6 ((s_2.Workers.length : Nat) : Int)))] [0,3,6,7,15,16,19] [AV.int .i64 (((s_2.Workers.map aE).length : Nat) : Int) = AV.int .i64 ((s_2.Workers.length : Nat) : Int)] (mkS 46 [(0,.ptr 0 0),(3,.ptr 1 0),(6,i6 day_9),(7,i6 i_10),(15,.sl (l_8.map aA) (some 0)),(16,.ptr 0 0),(19,i6 ((s_2.Workers.length : Nat) : Int))]) (⟨[[.int .u64 b_11],(aB s_2)],[(l_8.length,2)]⟩) (by kernel_rfl) ⟨lenM _ _,trivial⟩ ?_
    refine ExO.callL [0] [.ptr 0 0,i6 ((s_2.Workers.length : Nat) : Int)] rfl rfl (by simp; try rfl) rfl (by simp) (fC N (⟨b_11⟩ : aR) ((s_2.Workers.length : Nat) : Int) r_16 hr_16) (fD _ _ _ _) (by simp) ?_
    obtain ⟨r_17,hr_17,h⟩:=bE h
    refine rn 2 [0,3,6,7,15,20,21,22] (mkS 46 [(0,.ptr 0 0),(3,.ptr 1 0),(6,i6 day_9),(7,i6 i_10),(15,.sl (l_8.map aA) (some 0)),(20,i6 r_16.1),(21,i6 day_9),(22,.ptr 0 0)]) ⟨[(aK r_16.2),(aB s_2)],[(l_8.length,2)]⟩ ?_
    refine ExO.callL [0] [.ptr 0 0,i6 2] rfl rfl (by simp; try rfl) rfl (by simp) (fC N r_16.2 2 r_17 hr_17) (fD _ _ _ _) (by simp) ?_
    obtain ⟨l_18,hl_18,h⟩:=bE h
    refine runH 5 [(3,.app (l_18.map aA) l_18.length)] [0,3,5,6,7] [LApp l_8.length (l_8.map aA) (([(⟨r_16.1,(IntKind.i64.wrap (day_9 + r_17.1))⟩ : aG)] : List aG).map aA) 2 (l_18.map aA) l_18.length] (mkS 46 [(0,.ptr 0 0),(3,.ptr 1 0),(5,.sl (l_18.map aA) (some 0)),(6,i6 day_9),(7,i6 i_10)]) (⟨[(aK r_17.2),(aB s_2)],[(l_18.length,2),(1,2)]⟩) (by kernel_rfl) ⟨LApp.of hl_18 (fun _ => rfl),trivial⟩ ?_
    refine ExO.nil ?_
    obtain ⟨x_19,hx_19,h⟩:=bE h
    obtain ⟨x_20,hx_20,h⟩:=bE h
    obtain ⟨r_21,hr_21,h⟩:=bE h
    have hT_22 : fH Tryz.prog [⟨30,[.ptr 0 0,.sl (([0,x_19.Days,x_20.Days] : List Int).map (AV.int .i64)) none],[(aK r_17.2)],(fV r_21),[(aK r_21.2)]⟩] ∧ eF [⟨30,[.ptr 0 0,.sl (([0,x_19.Days,x_20.Days] : List Int).map (AV.int .i64)) none],[(aK r_17.2)],(fV r_21),[(aK r_21.2)]⟩]:=⟨⟨(zS N r_17.2 [0,x_19.Days,x_20.Days] r_21 hr_21),rfl,trivial⟩,⟨trivial,trivial⟩⟩
    refine Ex.drawE (a1:=mkS 46 [(0,.ptr 0 0),(3,.ptr 1 0),(5,.sl (l_18.map aA) (some 0)),(6,i6 day_9),(7,i6 i_10),(28,i6 day_9),(29,.ptr 0 0),(30,.ptr 1 1),(31,.sl (s_2.Jobs.map aI) none),(32,i6 i_10),(33,.rop (aW x_19)),(34,.rop [i6 x_19.Days]),(35,i6 x_19.Days),(36,.ptr 1 1),(37,.sl (s_2.Jobs.map aI) none),(38,i6 i_10),(39,.rop (aW x_20)),(40,.rop [i6 x_20.Days]),(41,i6 x_20.Days),(42,.sl (([0,x_19.Days,x_20.Days] : List Int).map (AV.int .i64)) (some 2)),(43,i6 r_21.1)]) (dI hT_22.1) [] [(3,1)] [⟨[(aK r_21.2),(aB s_2)],[(l_18.length,2),(1,2),(3,1)]⟩] ?_ ?_
    ·refine drS [1] 14 [(5, .rop (aW x_19)), (11, .rop (aW x_20))] [LGet (s_2.Jobs.map aI) i_10 3 (aW x_19), LGet (s_2.Jobs.map aI) i_10 3 (aW x_20)] (mkS 46 [(0, .ptr 0 0), (3, .ptr 1 0), (5, .sl (l_18.map aA) (some 0)), (6, i6 day_9), (7, i6 i_10), (28, i6 day_9), (29, .ptr 0 0), (30, .ptr 1 1), (31, .sl (s_2.Jobs.map aI) none), (32, i6 i_10), (33, .rop (aW x_19)), (34, .rop [i6 x_19.Days]), (35, i6 x_19.Days), (36, .ptr 1 1), (37, .sl (s_2.Jobs.map aI) none), (38, i6 i_10), (39, .rop (aW x_20)), (40, .rop [i6 x_20.Days]), (41, i6 x_20.Days)]) (by simp) (by kernel_rfl) ⟨LGet.of hx_19 rfl, LGet.of hx_20 rfl, trivial⟩ (by kernel_rfl) ?_
     refine drR 2 1 (([0,x_19.Days,x_20.Days] : List Int).map (AV.int .i64)) rfl rfl (fun _ => by kernel_rfl) (by simp) rfl rfl ?_
     refine drB hT_22.2 0 _ [0] [.ptr 0 0,.sl (([0,x_19.Days,x_20.Days] : List Int).map (AV.int .i64)) (some 2)] (fV r_21) _ _ rfl rfl rfl rfl rfl rfl rfl rfl (by simp; try rfl) rfl (by simp) (aAa _ _ _ _) (by simp) rfl ?_
     exact DrO.nil rfl
    ·dsimp only [List.getLastD_cons,List.getLastD_nil]
     refine rn 2 [0,3,5,6,7] (mkS 46 [(0,.ptr 0 0),(3,.ptr 1 0),(5,.sl (l_18.map aA) (some 0)),(6,i6 (IntKind.i64.wrap (day_9 + r_21.1))),(7,i6 i_10)]) ⟨[(aK r_21.2),(aB s_2)],[(l_18.length,2),(1,2),(3,1)]⟩ ?_
     refine ExO.nil ?_
     refine rg 3 [0,3,5,6,7] (mkS 46 [(0,.ptr 0 0),(3,.ptr 1 0),(5,.sl (l_18.map aA) (some 0)),(6,i6 (IntKind.i64.wrap (day_9 + r_21.1))),(7,i6 (IntKind.i64.wrap (i_10 + 1)))]) ⟨[(aK r_21.2),(aB s_2)],[(l_18.length,2),(1,2),(3,1)]⟩ ?_
     dsimp only
     exact ⟨_,_,bM (m:=46) 2 [0] [(0,.ptr 0 0),(3,.ptr 1 0),(5,.sl (l_18.map aA) (some 0)),(6,i6 (IntKind.i64.wrap (day_9 + r_21.1))),(7,i6 (IntKind.i64.wrap (i_10 + 1)))] [(aK r_21.2),(aB s_2)] [(l_18.length,2)] (by simp [bD]) (by simp) ⟨rfl,rfl,(reT (cF _) rfl),rfl,rfl,trivial⟩ (by simp) rfl (by decide),k,Nat.lt_succ_self k,l_18,(IntKind.i64.wrap (day_9 + r_21.1)),(IntKind.i64.wrap (i_10 + 1)),r_21.2.beat_,h,rfl,rfl⟩
   ·refine Ex.condF _ rfl hc_15 ?_
    refine Ex.exit ?_
    (try simp only [reduceCtorEq,AEx.ex.injEq,Nat.reduceEqDiff,if_true,if_false])
    exact ⟨_,_,bM (m:=46) 1 [0] [(5,.sl (l_8.map aA) (some 0))] [[.int .u64 b_11]] [(l_8.length,2)] (by simp [bD]) (by simp) ⟨(reT (cF _) rfl),trivial⟩ (by simp) rfl (by decide),l_8,b_11,h,rfl,rfl⟩
 ·rintro a S ⟨l_3,b_4,h,rfl,rfl⟩
  subst hK_7
  refine Ex.seq (rg 2 [4] (mkS 46 [(4,.sl (l_3.map aA) (some 0))]) ⟨[[.int .u64 b_4]],[(l_3.length,2)]⟩ ?_)
  refine Ex.ret ?_
  obtain rfl:=sJ h
  exact rt (.sl (l_3.map aA) (some 0))
def iD (N : Nat) (l_1 : (List aG)) : Option ((List aG)):=((iO ([] : List aG) l_1).bind fun l_2 => some l_2)
def eZ (r : (List aG)) : AV:=.sl (r.map aA) none
attribute [local simp] eZ
theorem zC (r : (List aG)) (n n2 m : Nat) : back n n2 m (eZ r) = some (eZ r):=by simp
theorem yP (N : Nat) (l_1 : (List aG)) (r : (List aG)) (h : iD N l_1 = some r) : Does Tryz.prog 9 [.sl (l_1.map aA) none] [] fun v c => v = eZ r ∧ c = []:=by
 unfold iD at h
 refine Does.ofL comp9 _ _ rfl rfl ?_
 refine Ex.seq (rg 1 [0] (mkS 6 [(0,.sl (l_1.map aA) none)]) ⟨[],[]⟩ ?_)
 refine Ex.seq ?_
 obtain ⟨l_2,hl_2,h⟩:=bE h
 refine regH 4 [(2,.apps (l_1.map aA) (l_2.map aA) l_2.length)] [2] [lQ 0 (([] : List aG).map aA) (l_1.map aA) (l_1.map aA) 2 (l_2.map aA) l_2.length] (mkS 6 [(2,.sl (l_2.map aA) (some 0))]) (⟨[],[(l_2.length,2)]⟩) (by kernel_rfl) ⟨lQ.of hl_2 (fun _ => rfl) (fun _ => rfl) (fun _ => rfl),trivial⟩ rfl ?_
 refine Ex.ret ?_
 obtain rfl:=sJ h
 exact rt (.sl (l_2.map aA) (some 0))
def eP (N : Nat) (n_1 : Int) (low_2 : Int) (high_3 : Int) : Option (Bool):=(bif (decide (n_1 ≥ low_2)) then some (decide (n_1 ≤ high_3)) else some false)
def mG (r : Bool) : AV:=.bool r
attribute [local simp] mG
theorem kL (n_1 : Int) (low_2 : Int) (high_3 : Int) : [i6 n_1,i6 low_2,i6 high_3].mapM (ren []) = some [i6 n_1,i6 low_2,i6 high_3]:=by simp
theorem kK (r : Bool) (n n2 m : Nat) : back n n2 m (mG r) = some (mG r):=by simp
theorem kG (N : Nat) (n_1 : Int) (low_2 : Int) (high_3 : Int) (r : Bool) (h : eP N n_1 low_2 high_3 = some r) : Does Tryz.prog 40 [i6 n_1,i6 low_2,i6 high_3] [] fun v c => v = mG r ∧ c = []:=by
 unfold eP at h
 refine Does.ofL comp40 _ _ rfl rfl ?_
 refine Ex.seq (rg 1 [0,1,2] (mkS 15 [(0,i6 n_1),(1,i6 low_2),(2,i6 high_3)]) ⟨[],[]⟩ ?_)
 refine Ex.seq ?_
 rcases aY h with ⟨hc_4,h⟩ | ⟨hc_4,h⟩
 ·refine regH 9 [(3, .eq (.bool true))] [6] [AV.bool (decide (n_1 ≥ low_2)) = AV.bool true] (mkS 15 [(6, .bool (decide (n_1 ≤ high_3)))]) (⟨[], []⟩) (by kernel_rfl) ⟨congrArg AV.bool hc_4, trivial⟩ rfl ?_
  refine Ex.ret ?_
  obtain rfl:=sJ h
  exact rt (.bool (decide (n_1 ≤ high_3)))
 ·refine regH 9 [(3, .eq (.bool false))] [6] [AV.bool (decide (n_1 ≥ low_2)) = AV.bool false] (mkS 15 [(6, .bool false)]) (⟨[], []⟩) (by kernel_rfl) ⟨congrArg AV.bool hc_4, trivial⟩ rfl ?_
  refine Ex.ret ?_
  obtain rfl:=sJ h
  exact rt (.bool false)
def iB (N : Nat) (s_1 : aH) : Option (Int):=(bif (((s_1.Workers.length : Nat) : Int) == 0) then some 4 else (letJ (fun (y_3 : Bool) => (bif y_3 then some 5 else (letJ (fun (_ : Unit) => some 0) (fun k_9 => (loop1 (fun rec_13 (i_12 : Int) => (bif (decide (i_12 < ((s_1.Jobs.length : Nat) : Int))) then ((getI s_1.Jobs i_12).bind fun x_17 => ((eP N x_17.Float 0 6).bind fun r_18 => (bif (!r_18) then some 2 else ((eP N x_17.Skill 1 3).bind fun r_20 => (bif (!r_20) then some 3 else ((eP N x_17.Days 1 30).bind fun r_22 => (bif (!r_22) then some 2 else (rec_13 (IntKind.i64.wrap (i_12 + 1)))))))))) else (k_9 ()))) N 0))))) (fun k_4 => (bif (decide (((s_1.Workers.length : Nat) : Int) > 4)) then (k_4 true) else (k_4 (decide (((s_1.Jobs.length : Nat) : Int) > 7)))))))
def bI (r : Int) : AV:=i6 r
attribute [local simp] bI
theorem wW (s_1 : aH) : [(aC s_1)].mapM (ren []) = some [(aC s_1)]:=by simp
theorem fS (r : Int) (n n2 m : Nat) : back n n2 m (bI r) = some (bI r):=by simp
theorem fP (N : Nat) (s_1 : aH) (r : Int) (h : iB N s_1 = some r) : Does Tryz.prog 15 [(aC s_1)] [] fun v c => v = bI r ∧ c = []:=by
 unfold iB at h
 refine Does.ofL comp15 _ _ rfl rfl ?_
 refine Ex.seq (rg 2 [1] (mkS 43 [(1,.ptr 0 0)]) ⟨[(aB s_1)],[]⟩ ?_)
 refine Ex.seq (Ex.seq ?_)
 refine regH 4 [(2,.eq (i6 ((s_1.Workers.length : Nat) : Int)))] [1,8] [AV.int .i64 (((s_1.Workers.map aE).length : Nat) : Int) = AV.int .i64 ((s_1.Workers.length : Nat) : Int)] (mkS 43 [(1,.ptr 0 0),(8,.bool (((s_1.Workers.length : Nat) : Int) == 0))]) (⟨[(aB s_1)],[]⟩) (by kernel_rfl) ⟨lenM _ _,trivial⟩ rfl ?_
 rcases aY h with ⟨hc_2,h⟩ | ⟨hc_2,h⟩
 ·refine Ex.condT _ rfl hc_2 ?_
  refine Ex.seq (rg 1 [2] (mkS 43 [(2,i6 4)]) ⟨[(aB s_1)],[]⟩ ?_)
  refine Ex.ret ?_
  obtain rfl:=sJ h
  exact rt (i6 4)
 ·refine Ex.condF _ rfl hc_2 ?_
  refine Ex.skip ?_
  refine Ex.seq ?_
  obtain ⟨K_5,hK_6,h⟩:=letE h
  refine Ex.seqJ (fun a S => ∃ (y_3 : Bool),K_5 y_3 = some r ∧ a = mkS 43 [(1,.ptr 0 0),(18,.bool y_3)] ∧ S = ⟨[(aB s_1)],[]⟩) ?_ ?_
  ·rcases aY h with ⟨hc_7,h⟩ | ⟨hc_7,h⟩
   ·refine regH 10 [(2, .eq (i6 ((s_1.Workers.length : Nat) : Int))), (4, .eq (.bool true))] [1, 18] [AV.int .i64 (((s_1.Workers.map aE).length : Nat) : Int) = AV.int .i64 ((s_1.Workers.length : Nat) : Int), AV.bool (decide (((s_1.Workers.length : Nat) : Int) > 4)) = AV.bool true] (mkS 43 [(1, .ptr 0 0), (18, .bool true)]) (⟨[(aB s_1)], []⟩) (by kernel_rfl) ⟨lenM _ _, congrArg AV.bool hc_7, trivial⟩ rfl ?_
    (try simp only [reduceCtorEq,AEx.ex.injEq,Nat.reduceEqDiff,if_true,if_false])
    exact ⟨_,_,aM.refl _ _ _,true,h,rfl,rfl⟩
   ·refine regH 10 [(2, .eq (i6 ((s_1.Workers.length : Nat) : Int))), (4, .eq (.bool false)), (7, .eq (i6 ((s_1.Jobs.length : Nat) : Int)))] [1, 18] [AV.int .i64 (((s_1.Workers.map aE).length : Nat) : Int) = AV.int .i64 ((s_1.Workers.length : Nat) : Int), AV.bool (decide (((s_1.Workers.length : Nat) : Int) > 4)) = AV.bool false, AV.int .i64 (((s_1.Jobs.map aI).length : Nat) : Int) = AV.int .i64 ((s_1.Jobs.length : Nat) : Int)] (mkS 43 [(1, .ptr 0 0), (18, .bool (decide (((s_1.Jobs.length : Nat) : Int) > 7)))]) (⟨[(aB s_1)], []⟩) (by kernel_rfl) ⟨lenM _ _, congrArg AV.bool hc_7, lenM _ _, trivial⟩ rfl ?_
    (try simp only [reduceCtorEq,AEx.ex.injEq,Nat.reduceEqDiff,if_true,if_false])
    exact ⟨_,_,aM.refl _ _ _,(decide (((s_1.Jobs.length : Nat) : Int) > 7)),h,rfl,rfl⟩
  ·rintro a S ⟨y_3,h,rfl,rfl⟩
   subst hK_6
   rcases aY h with ⟨hc_8,h⟩ | ⟨hc_8,h⟩
   ·refine Ex.condT _ rfl hc_8 ?_
    refine Ex.seq (rg 1 [2] (mkS 43 [(2,i6 5)]) ⟨[(aB s_1)],[]⟩ ?_)
    refine Ex.ret ?_
    obtain rfl:=sJ h
    exact rt (i6 5)
   ·refine Ex.condF _ rfl hc_8 ?_
    refine Ex.skip ?_
    refine Ex.seq (Ex.seq ?_)
    refine rg 1 [1,3] (mkS 43 [(1,.ptr 0 0),(3,i6 0)]) ⟨[(aB s_1)],[]⟩ ?_
    obtain ⟨K_10,hK_11,h⟩:=letE h
    refine Ex.blockJ (fun a S => K_10 () = some r ∧ a = mkS 43 [] ∧ S = ⟨[],[]⟩) ?_ ?_
    ·obtain ⟨B_14,hB_15,h⟩:=iU h
     refine Ex.loopF (fun k a S => ∃ (i_12 : Int),loop1 B_14 k i_12 = some r ∧ a = mkS 43 [(1,.ptr 0 0),(3,i6 i_12)] ∧ S = ⟨[(aB s_1)],[]⟩) N ⟨_,_,aM.refl _ _ _,0,h,rfl,rfl⟩ ?_
     rintro k a S ⟨i_12,h,rfl,rfl⟩
     cases k with
     | zero => exact (iS h).elim
     | succ k =>
      replace h:=iT h hB_15
      refine Ex.seq (Ex.seq ?_)
      refine regH 5 [(3,.eq (i6 ((s_1.Jobs.length : Nat) : Int)))] [1,3,23] [AV.int .i64 (((s_1.Jobs.map aI).length : Nat) : Int) = AV.int .i64 ((s_1.Jobs.length : Nat) : Int)] (mkS 43 [(1,.ptr 0 0),(3,i6 i_12),(23,.bool (decide (i_12 < ((s_1.Jobs.length : Nat) : Int))))]) (⟨[(aB s_1)],[]⟩) (by kernel_rfl) ⟨lenM _ _,trivial⟩ rfl ?_
      rcases aY h with ⟨hc_16,h⟩ | ⟨hc_16,h⟩
      ·refine Ex.condT _ rfl hc_16 ?_
       refine Ex.skip ?_
       refine Ex.seq ?_
       refine Ex.blockK ?_
       refine Ex.seq ?_
       obtain ⟨x_17,hx_17,h⟩:=bE h
       refine regH 7 [(3,.rop (aW x_17))] [1,3,4] [LGet (s_1.Jobs.map aI) i_12 3 (aW x_17)] (mkS 43 [(1,.ptr 0 0),(3,i6 i_12),(4,.ptr 1 0)]) (⟨[(aB s_1),(aW x_17)],[]⟩) (by kernel_rfl) ⟨LGet.of hx_17 rfl,trivial⟩ rfl ?_
       refine Ex.seq (Ex.seq ?_)
       obtain ⟨r_18,hr_18,h⟩:=bE h
       refine Ex.reg (rn 2 [1,3,4,32] (mkS 43 [(1,.ptr 0 0),(3,i6 i_12),(4,.ptr 1 0),(32,i6 x_17.Float)]) ⟨[(aB s_1),(aW x_17)],[]⟩ ?_)
       refine ExO.callL [] [i6 x_17.Float,i6 0,i6 6] rfl rfl (kL x_17.Float 0 6) rfl rfl (kG N x_17.Float 0 6 r_18 hr_18) (kK _ _ _ _) rfl ?_
       refine rn 1 [1,3,4,34] (mkS 43 [(1,.ptr 0 0),(3,i6 i_12),(4,.ptr 1 0),(34,.bool (!r_18))]) ⟨[(aB s_1),(aW x_17)],[]⟩ ?_
       refine ExO.nil ?_
       rcases aY h with ⟨hc_19,h⟩ | ⟨hc_19,h⟩
       ·refine Ex.condT _ rfl hc_19 ?_
        refine Ex.seq (rg 1 [2] (mkS 43 [(2,i6 2)]) ⟨[(aB s_1),(aW x_17)],[]⟩ ?_)
        refine Ex.ret ?_
        obtain rfl:=sJ h
        exact rt (i6 2)
       ·refine Ex.condF _ rfl hc_19 ?_
        refine Ex.skip ?_
        refine Ex.seq (Ex.seq ?_)
        obtain ⟨r_20,hr_20,h⟩:=bE h
        refine Ex.reg (rn 2 [1,3,4,36] (mkS 43 [(1,.ptr 0 0),(3,i6 i_12),(4,.ptr 1 0),(36,i6 x_17.Skill)]) ⟨[(aB s_1),(aW x_17)],[]⟩ ?_)
        refine ExO.callL [] [i6 x_17.Skill,i6 1,i6 3] rfl rfl (kL x_17.Skill 1 3) rfl rfl (kG N x_17.Skill 1 3 r_20 hr_20) (kK _ _ _ _) rfl ?_
        refine rn 1 [1,3,4,38] (mkS 43 [(1,.ptr 0 0),(3,i6 i_12),(4,.ptr 1 0),(38,.bool (!r_20))]) ⟨[(aB s_1),(aW x_17)],[]⟩ ?_
        refine ExO.nil ?_
        rcases aY h with ⟨hc_21,h⟩ | ⟨hc_21,h⟩
        ·refine Ex.condT _ rfl hc_21 ?_
         refine Ex.seq (rg 1 [2] (mkS 43 [(2,i6 3)]) ⟨[(aB s_1),(aW x_17)],[]⟩ ?_)
         refine Ex.ret ?_
         obtain rfl:=sJ h
         exact rt (i6 3)
        ·refine Ex.condF _ rfl hc_21 ?_
         refine Ex.skip ?_
         refine Ex.seq ?_
         obtain ⟨r_22,hr_22,h⟩:=bE h
         refine Ex.reg (rn 2 [1,3,40] (mkS 43 [(1,.ptr 0 0),(3,i6 i_12),(40,i6 x_17.Days)]) ⟨[(aB s_1),(aW x_17)],[]⟩ ?_)
         refine ExO.callL [] [i6 x_17.Days,i6 1,i6 30] rfl rfl (kL x_17.Days 1 30) rfl rfl (kG N x_17.Days 1 30 r_22 hr_22) (kK _ _ _ _) rfl ?_
         refine rn 1 [1,3,42] (mkS 43 [(1,.ptr 0 0),(3,i6 i_12),(42,.bool (!r_22))]) ⟨[(aB s_1),(aW x_17)],[]⟩ ?_
         refine ExO.nil ?_
         rcases aY h with ⟨hc_23,h⟩ | ⟨hc_23,h⟩
         ·refine Ex.condT _ rfl hc_23 ?_
          refine Ex.seq (rg 1 [2] (mkS 43 [(2,i6 2)]) ⟨[(aB s_1),(aW x_17)],[]⟩ ?_)
          refine Ex.ret ?_
          obtain rfl:=sJ h
          exact rt (i6 2)
         ·refine Ex.condF _ rfl hc_23 ?_
          refine Ex.skip ?_
          refine rg 3 [1,3] (mkS 43 [(1,.ptr 0 0),(3,i6 (IntKind.i64.wrap (i_12 + 1)))]) ⟨[(aB s_1),(aW x_17)],[]⟩ ?_
          dsimp only
          exact ⟨_,_,bM (m:=43) 1 [] [(1,.ptr 0 0),(3,i6 (IntKind.i64.wrap (i_12 + 1)))] [(aB s_1)] [] (by simp [bD]) (by simp) ⟨rfl,rfl,trivial⟩ (by simp) rfl (by decide),k,Nat.lt_succ_self k,(IntKind.i64.wrap (i_12 + 1)),h,rfl,rfl⟩
      ·refine Ex.condF _ rfl hc_16 ?_
       refine Ex.exit ?_
       (try simp only [reduceCtorEq,AEx.ex.injEq,Nat.reduceEqDiff,if_true,if_false])
       exact ⟨_,_,bM (m:=43) 0 [] [] [] [] (by simp [bD]) (by simp) trivial (by simp) rfl (by decide),h,rfl,rfl⟩
    ·rintro a S ⟨h,rfl,rfl⟩
     subst hK_11
     refine Ex.seq (rg 1 [2] (mkS 43 [(2,i6 0)]) ⟨[],[]⟩ ?_)
     refine Ex.ret ?_
     obtain rfl:=sJ h
     exact rt (i6 0)
def mM (N : Nat) (w_1 : aX) (skill_2 : Int) : Option (Bool):=(bif (skill_2 == 1) then some w_1.Weld else (bif (skill_2 == 2) then some w_1.Carve else some w_1.Paint))
def rP (r : Bool) : AV:=.bool r
attribute [local simp] rP
theorem aAD (w_1 : aX) (skill_2 : Int) : [(aE w_1),i6 skill_2].mapM (ren []) = some [(aE w_1),i6 skill_2]:=by simp
theorem aAB (r : Bool) (n n2 m : Nat) : back n n2 m (rP r) = some (rP r):=by simp
theorem aAw (N : Nat) (w_1 : aX) (skill_2 : Int) (r : Bool) (h : mM N w_1 skill_2 = some r) : Does Tryz.prog 51 [(aE w_1),i6 skill_2] [] fun v c => v = rP r ∧ c = []:=by
 unfold mM at h
 refine Does.ofL comp51 _ _ rfl rfl ?_
 refine Ex.seq (rg 2 [1,2] (mkS 16 [(1,i6 skill_2),(2,.ptr 0 0)]) ⟨[(aU w_1)],[]⟩ ?_)
 refine Ex.seq (Ex.seq ?_)
 refine rg 1 [2,5] (mkS 16 [(2,.ptr 0 0),(5,i6 skill_2)]) ⟨[(aU w_1)],[]⟩ ?_
 refine Ex.blockK ?_
 refine Ex.seq (rg 2 [2,5,6] (mkS 16 [(2,.ptr 0 0),(5,i6 skill_2),(6,.bool (skill_2 == 1))]) ⟨[(aU w_1)],[]⟩ ?_)
 rcases aY h with ⟨hc_3,h⟩ | ⟨hc_3,h⟩
 ·refine Ex.condT _ rfl hc_3 ?_
  refine Ex.seq (rg 3 [4] (mkS 16 [(4,.bool w_1.Weld)]) ⟨[(aU w_1)],[]⟩ ?_)
  refine Ex.ret ?_
  obtain rfl:=sJ h
  exact rt (.bool w_1.Weld)
 ·refine Ex.condF _ rfl hc_3 ?_
  refine Ex.seq (rg 2 [2,10] (mkS 16 [(2,.ptr 0 0),(10,.bool (skill_2 == 2))]) ⟨[(aU w_1)],[]⟩ ?_)
  rcases aY h with ⟨hc_4,h⟩ | ⟨hc_4,h⟩
  ·refine Ex.condT _ rfl hc_4 ?_
   refine Ex.seq (rg 3 [4] (mkS 16 [(4,.bool w_1.Carve)]) ⟨[(aU w_1)],[]⟩ ?_)
   refine Ex.ret ?_
   obtain rfl:=sJ h
   exact rt (.bool w_1.Carve)
  ·refine Ex.condF _ rfl hc_4 ?_
   refine Ex.skip ?_
   refine Ex.seq (rg 3 [4] (mkS 16 [(4,.bool w_1.Paint)]) ⟨[(aU w_1)],[]⟩ ?_)
   refine Ex.ret ?_
   obtain rfl:=sJ h
   exact rt (.bool w_1.Paint)
def fK (N : Nat) (s_1 : aH) (plan_2 : (List aG)) (job_3 : Int) : Option (Int):=((getI plan_2 job_3).bind fun x_4 => ((getI s_1.Jobs job_3).bind fun x_5 => some (IntKind.i64.wrap (x_4.Day + x_5.Days))))
def cS (r : Int) : AV:=i6 r
attribute [local simp] cS
theorem aEL (s_1 : aH) (plan_2 : (List aG)) (job_3 : Int) : [(aC s_1),.sl (plan_2.map aA) none,i6 job_3].mapM (ren []) = some [(aC s_1),.sl (plan_2.map aA) none,i6 job_3]:=by simp
theorem oV (r : Int) (n n2 m : Nat) : back n n2 m (cS r) = some (cS r):=by simp
theorem oS (N : Nat) (s_1 : aH) (plan_2 : (List aG)) (job_3 : Int) (r : Int) (h : fK N s_1 plan_2 job_3 = some r) : Does Tryz.prog 52 [(aC s_1),.sl (plan_2.map aA) none,i6 job_3] [] fun v c => v = cS r ∧ c = []:=by
 unfold fK at h
 refine Does.ofL comp52 _ _ rfl rfl ?_
 refine Ex.seq (rg 2 [1,2,3] (mkS 19 [(1,.sl (plan_2.map aA) none),(2,i6 job_3),(3,.ptr 0 0)]) ⟨[(aB s_1)],[]⟩ ?_)
 refine Ex.seq ?_
 obtain ⟨x_4,hx_4,h⟩:=bE h
 obtain ⟨x_5,hx_5,h⟩:=bE h
 refine Ex.drawE (a1:=mkS 19 [(1,.sl (plan_2.map aA) none),(2,i6 job_3),(3,.ptr 0 0),(7,.sl (plan_2.map aA) none),(8,i6 job_3),(9,.rop (aN x_4)),(10,.rop [i6 x_4.Day]),(11,i6 x_4.Day),(12,.ptr 0 1),(13,.sl (s_1.Jobs.map aI) none),(14,i6 job_3),(15,.rop (aW x_5)),(16,.rop [i6 x_5.Days]),(17,i6 x_5.Days)]) (cP _) [] [] [] ?_ ?_
 ·refine drS [0] 11 [(2, .rop (aN x_4)), (8, .rop (aW x_5))] [LGet (plan_2.map aA) job_3 2 (aN x_4), LGet (s_1.Jobs.map aI) job_3 3 (aW x_5)] (mkS 19 [(1, .sl (plan_2.map aA) none), (2, i6 job_3), (3, .ptr 0 0), (7, .sl (plan_2.map aA) none), (8, i6 job_3), (9, .rop (aN x_4)), (10, .rop [i6 x_4.Day]), (11, i6 x_4.Day), (12, .ptr 0 1), (13, .sl (s_1.Jobs.map aI) none), (14, i6 job_3), (15, .rop (aW x_5)), (16, .rop [i6 x_5.Days]), (17, i6 x_5.Days)]) (by simp) (by kernel_rfl) ⟨LGet.of hx_4 rfl, LGet.of hx_5 rfl, trivial⟩ (by kernel_rfl) ?_
  exact DrO.nil rfl
 ·dsimp only [List.getLastD_cons,List.getLastD_nil]
  refine rn 2 [6] (mkS 19 [(6,i6 (IntKind.i64.wrap (x_4.Day + x_5.Days)))]) ⟨[(aB s_1)],[]⟩ ?_
  refine ExO.nil ?_
  refine Ex.ret ?_
  obtain rfl:=sJ h
  exact rt (i6 (IntKind.i64.wrap (x_4.Day + x_5.Days)))
theorem aEQ (x y : aX) (h : aE x = aE y) : x = y:=by
 have h:=AV.agg.inj h
 simp only [aU,List.cons.injEq,AV.int.injEq,AV.bool.injEq,AV.str.injEq,AV.sl.injEq,true_and,and_true] at h
 obtain ⟨h0,h1,h2⟩:=h
 obtain ⟨x0,x1,x2⟩:=x; obtain ⟨y0,y1,y2⟩:=y; simp_all
theorem aGL (x y : aH) (h : aC x = aC y) : x = y:=by
 have h:=AV.agg.inj h
 simp only [aB,List.cons.injEq,AV.int.injEq,AV.bool.injEq,AV.str.injEq,AV.sl.injEq,true_and,and_true] at h
 obtain ⟨h0,h1⟩:=h
 have h0:=aAN aEQ h0
 have h1:=aAN aFM h1
 obtain ⟨x0,x1⟩:=x; obtain ⟨y0,y1⟩:=y; simp_all
theorem aEu (N : Nat) (s_1 : aH) (plan_2 : (List aG)) (job_3 : Int) (s_1z : aH) (plan_2z : (List aG)) (job_3z : Int) (r s : Int) (hr : fK N s_1 plan_2 job_3 = some r) (hs : fK N s_1z plan_2z job_3z = some s) : iH ⟨52,[(aC s_1),.sl (plan_2.map aA) none,i6 job_3],[],cS r,[]⟩ ⟨52,[(aC s_1z),.sl (plan_2z.map aA) none,i6 job_3z],[],cS s,[]⟩:=by
 intro _ h1 h2
 have h1 : ([(aC s_1),.sl (plan_2.map aA) none,i6 job_3] : List AV) = [(aC s_1z),.sl (plan_2z.map aA) none,i6 job_3z]:=h1
 have h2 : ([] : List (List AV)) = []:=h2
 obtain rfl : s_1 = s_1z:=aGL _ _ (List.cons.inj h1).1
 obtain rfl : plan_2 = plan_2z:=(aET aCU) _ _ (List.cons.inj (List.cons.inj h1).2).1
 obtain rfl : job_3 = job_3z:=(yI _) _ _ (List.cons.inj (List.cons.inj (List.cons.inj h1).2).2).1
 rw [hr] at hs; cases hs; exact ⟨rfl,rfl⟩
def gS (N : Nat) (s_1 : aH) (plan_2 : (List aG)) : Option (Int):=(bif (((plan_2.length : Nat) : Int) != ((s_1.Jobs.length : Nat) : Int)) then some 1 else (letJ (fun (_ : Unit) => (letJ (fun (_ : Unit) => some 0) (fun k_39 => (loop1 (fun rec_43 (i_42 : Int) => (bif (decide (i_42 < ((plan_2.length : Nat) : Int))) then (letJ (fun (_ : Unit) => (rec_43 (IntKind.i64.wrap (i_42 + 1)))) (fun k_47 => (loop1 (fun rec_51 (k_50 : Int) => (bif (decide (k_50 < i_42)) then (letJ (fun (y_55 : Bool) => (bif y_55 then some 10 else (rec_51 (IntKind.i64.wrap (k_50 + 1))))) (fun k_56 => ((getI plan_2 i_42).bind fun x_59 => ((getI plan_2 k_50).bind fun x_60 => (bif (x_59.Worker == x_60.Worker) then ((getI plan_2 i_42).bind fun x_62 => ((fK N s_1 plan_2 k_50).bind fun r_63 => (bif (decide (x_62.Day < r_63)) then ((getI plan_2 k_50).bind fun x_65 => ((fK N s_1 plan_2 i_42).bind fun r_66 => (k_56 (decide (x_65.Day < r_66))))) else (k_56 false)))) else (k_56 false)))))) else (k_47 ()))) N 0))) else (k_39 ()))) N 0)))) (fun k_4 => (loop1 (fun rec_8 (i_7 : Int) => (bif (decide (i_7 < ((plan_2.length : Nat) : Int))) then ((getI plan_2 i_7).bind fun x_12 => ((eP N x_12.Worker 0 (IntKind.i64.wrap (((s_1.Workers.length : Nat) : Int) - 1))).bind fun r_13 => (bif (!r_13) then some 7 else ((getI s_1.Workers x_12.Worker).bind fun x_15 => ((getI s_1.Jobs i_7).bind fun x_16 => ((mM N x_15 x_16.Skill).bind fun r_17 => (bif (!r_17) then some 3 else ((eP N x_12.Day 0 400).bind fun r_19 => (bif (!r_19) then some 2 else (letJ (fun (_ : Unit) => (rec_8 (IntKind.i64.wrap (i_7 + 1)))) (fun k_21 => (loop1 (fun rec_25 (k_24 : Int) => (bif (decide (k_24 < i_7)) then (letJ (fun (y_29 : Bool) => (bif y_29 then some 9 else (rec_25 (IntKind.i64.wrap (k_24 + 1))))) (fun k_30 => ((getI s_1.Jobs k_24).bind fun x_33 => ((getI s_1.Jobs i_7).bind fun x_34 => (bif (x_33.Float == x_34.Float) then ((fK N s_1 plan_2 k_24).bind fun r_36 => (k_30 (decide (x_12.Day < r_36)))) else (k_30 false)))))) else (k_21 ()))) N 0)))))))))))) else (k_4 ()))) N 0))))
def jE (r : Int) : AV:=i6 r
attribute [local simp] jE
theorem xJ (s_1 : aH) (plan_2 : (List aG)) : [(aC s_1),.sl (plan_2.map aA) none].mapM (ren []) = some [(aC s_1),.sl (plan_2.map aA) none]:=by simp
theorem xG (r : Int) (n n2 m : Nat) : back n n2 m (jE r) = some (jE r):=by simp
theorem xB (N : Nat) (s_1 : aH) (plan_2 : (List aG)) (r : Int) (h : gS N s_1 plan_2 = some r) : Does Tryz.prog 33 [(aC s_1),.sl (plan_2.map aA) none] [] fun v c => v = jE r ∧ c = []:=by
 unfold gS at h
 refine Does.ofL comp33 _ _ rfl rfl ?_
 refine Ex.seq (rg 2 [1,2] (mkS 125 [(1,.sl (plan_2.map aA) none),(2,.ptr 0 0)]) ⟨[(aB s_1)],[]⟩ ?_)
 refine Ex.seq (Ex.seq ?_)
 refine regH 6 [(1,.eq (i6 ((plan_2.length : Nat) : Int))),(4,.eq (i6 ((s_1.Jobs.length : Nat) : Int)))] [1,2,15] [AV.int .i64 (((plan_2.map aA).length : Nat) : Int) = AV.int .i64 ((plan_2.length : Nat) : Int),AV.int .i64 (((s_1.Jobs.map aI).length : Nat) : Int) = AV.int .i64 ((s_1.Jobs.length : Nat) : Int)] (mkS 125 [(1,.sl (plan_2.map aA) none),(2,.ptr 0 0),(15,.bool (((plan_2.length : Nat) : Int) != ((s_1.Jobs.length : Nat) : Int)))]) (⟨[(aB s_1)],[]⟩) (by kernel_rfl) ⟨lenM _ _,lenM _ _,trivial⟩ rfl ?_
 rcases aY h with ⟨hc_3,h⟩ | ⟨hc_3,h⟩
 ·refine Ex.condT _ rfl hc_3 ?_
  refine Ex.seq (rg 1 [4] (mkS 125 [(4,i6 1)]) ⟨[(aB s_1)],[]⟩ ?_)
  refine Ex.ret ?_
  obtain rfl:=sJ h
  exact rt (i6 1)
 ·refine Ex.condF _ rfl hc_3 ?_
  refine Ex.skip ?_
  refine Ex.seq (Ex.seq ?_)
  refine rg 1 [1,2,5] (mkS 125 [(1,.sl (plan_2.map aA) none),(2,.ptr 0 0),(5,i6 0)]) ⟨[(aB s_1)],[]⟩ ?_
  obtain ⟨K_5,hK_6,h⟩:=letE h
  refine Ex.blockJ (fun a S => K_5 () = some r ∧ a = mkS 125 [(1,.sl (plan_2.map aA) none),(2,.ptr 0 0)] ∧ S = ⟨[(aB s_1)],[]⟩) ?_ ?_
  ·obtain ⟨B_9,hB_10,h⟩:=iU h
   refine Ex.loopF (fun k a S => ∃ (i_7 : Int),loop1 B_9 k i_7 = some r ∧ a = mkS 125 [(1,.sl (plan_2.map aA) none),(2,.ptr 0 0),(5,i6 i_7)] ∧ S = ⟨[(aB s_1)],[]⟩) N ⟨_,_,aM.refl _ _ _,0,h,rfl,rfl⟩ ?_
   rintro k a S ⟨i_7,h,rfl,rfl⟩
   cases k with
   | zero => exact (iS h).elim
   | succ k =>
    replace h:=iT h hB_10
    refine Ex.seq (Ex.seq ?_)
    refine regH 4 [(2,.eq (i6 ((plan_2.length : Nat) : Int)))] [1,2,5,19] [AV.int .i64 (((plan_2.map aA).length : Nat) : Int) = AV.int .i64 ((plan_2.length : Nat) : Int)] (mkS 125 [(1,.sl (plan_2.map aA) none),(2,.ptr 0 0),(5,i6 i_7),(19,.bool (decide (i_7 < ((plan_2.length : Nat) : Int))))]) (⟨[(aB s_1)],[]⟩) (by kernel_rfl) ⟨lenM _ _,trivial⟩ rfl ?_
    rcases aY h with ⟨hc_11,h⟩ | ⟨hc_11,h⟩
    ·refine Ex.condT _ rfl hc_11 ?_
     refine Ex.skip ?_
     refine Ex.seq ?_
     refine Ex.blockK ?_
     refine Ex.seq ?_
     obtain ⟨x_12,hx_12,h⟩:=bE h
     refine regH 6 [(2,.rop (aN x_12))] [1,2,5,6] [LGet (plan_2.map aA) i_7 2 (aN x_12)] (mkS 125 [(1,.sl (plan_2.map aA) none),(2,.ptr 0 0),(5,i6 i_7),(6,.ptr 1 0)]) (⟨[(aB s_1),(aN x_12)],[]⟩) (by kernel_rfl) ⟨LGet.of hx_12 rfl,trivial⟩ rfl ?_
     refine Ex.seq (Ex.seq ?_)
     obtain ⟨r_13,hr_13,h⟩:=bE h
     refine Ex.reg ?_
     refine runH 6 [(4,.eq (i6 ((s_1.Workers.length : Nat) : Int)))] [1,2,5,6,27,31] [AV.int .i64 (((s_1.Workers.map aE).length : Nat) : Int) = AV.int .i64 ((s_1.Workers.length : Nat) : Int)] (mkS 125 [(1,.sl (plan_2.map aA) none),(2,.ptr 0 0),(5,i6 i_7),(6,.ptr 1 0),(27,i6 x_12.Worker),(31,i6 (IntKind.i64.wrap (((s_1.Workers.length : Nat) : Int) - 1)))]) (⟨[(aB s_1),(aN x_12)],[]⟩) (by kernel_rfl) ⟨lenM _ _,trivial⟩ ?_
     refine ExO.callL [] [i6 x_12.Worker,i6 0,i6 (IntKind.i64.wrap (((s_1.Workers.length : Nat) : Int) - 1))] rfl rfl (kL x_12.Worker 0 (IntKind.i64.wrap (((s_1.Workers.length : Nat) : Int) - 1))) rfl rfl (kG N x_12.Worker 0 (IntKind.i64.wrap (((s_1.Workers.length : Nat) : Int) - 1)) r_13 hr_13) (kK _ _ _ _) rfl ?_
     refine rn 1 [1,2,5,6,33] (mkS 125 [(1,.sl (plan_2.map aA) none),(2,.ptr 0 0),(5,i6 i_7),(6,.ptr 1 0),(33,.bool (!r_13))]) ⟨[(aB s_1),(aN x_12)],[]⟩ ?_
     refine ExO.nil ?_
     rcases aY h with ⟨hc_14,h⟩ | ⟨hc_14,h⟩
     ·refine Ex.condT _ rfl hc_14 ?_
      refine Ex.seq (rg 1 [4] (mkS 125 [(4,i6 7)]) ⟨[(aB s_1),(aN x_12)],[]⟩ ?_)
      refine Ex.ret ?_
      obtain rfl:=sJ h
      exact rt (i6 7)
     ·refine Ex.condF _ rfl hc_14 ?_
      refine Ex.skip ?_
      refine Ex.seq (Ex.seq ?_)
      obtain ⟨x_15,hx_15,h⟩:=bE h
      obtain ⟨x_16,hx_16,h⟩:=bE h
      refine Ex.drawE (a1:=mkS 125 [(1,.sl (plan_2.map aA) none),(2,.ptr 0 0),(5,i6 i_7),(6,.ptr 1 0),(33,.bool (!r_13)),(34,.ptr 0 0),(35,.sl (s_1.Workers.map aE) none),(36,.ptr 1 0),(37,i6 x_12.Worker),(38,.rop (aU x_15)),(39,(aE x_15)),(40,.ptr 0 1),(41,.sl (s_1.Jobs.map aI) none),(42,i6 i_7),(43,.rop (aW x_16)),(44,.rop [i6 x_16.Skill,i6 x_16.Days]),(45,i6 x_16.Skill)]) (cP _) [] [] [] ?_ ?_
      ·refine drS [0, 1] 12 [(4, .rop (aU x_15)), (9, .rop (aW x_16))] [LGet (s_1.Workers.map aE) x_12.Worker 3 (aU x_15), LGet (s_1.Jobs.map aI) i_7 3 (aW x_16)] (mkS 125 [(1, .sl (plan_2.map aA) none), (2, .ptr 0 0), (5, i6 i_7), (6, .ptr 1 0), (33, .bool (!r_13)), (34, .ptr 0 0), (35, .sl (s_1.Workers.map aE) none), (36, .ptr 1 0), (37, i6 x_12.Worker), (38, .rop (aU x_15)), (39, (aE x_15)), (40, .ptr 0 1), (41, .sl (s_1.Jobs.map aI) none), (42, i6 i_7), (43, .rop (aW x_16)), (44, .rop [i6 x_16.Skill, i6 x_16.Days]), (45, i6 x_16.Skill)]) (by simp) (by kernel_rfl) ⟨LGet.of hx_15 rfl, LGet.of hx_16 rfl, trivial⟩ (by kernel_rfl) ?_
       exact DrO.nil rfl
      ·dsimp only [List.getLastD_cons,List.getLastD_nil]
       obtain ⟨r_17,hr_17,h⟩:=bE h
       refine ExO.callL [] [(aE x_15),i6 x_16.Skill] rfl rfl (aAD x_15 x_16.Skill) rfl rfl (aAw N x_15 x_16.Skill r_17 hr_17) (aAB _ _ _ _) rfl ?_
       refine rn 1 [1,2,5,6,47] (mkS 125 [(1,.sl (plan_2.map aA) none),(2,.ptr 0 0),(5,i6 i_7),(6,.ptr 1 0),(47,.bool (!r_17))]) ⟨[(aB s_1),(aN x_12)],[]⟩ ?_
       refine ExO.nil ?_
       rcases aY h with ⟨hc_18,h⟩ | ⟨hc_18,h⟩
       ·refine Ex.condT _ rfl hc_18 ?_
        refine Ex.seq (rg 1 [4] (mkS 125 [(4,i6 3)]) ⟨[(aB s_1),(aN x_12)],[]⟩ ?_)
        refine Ex.ret ?_
        obtain rfl:=sJ h
        exact rt (i6 3)
       ·refine Ex.condF _ rfl hc_18 ?_
        refine Ex.skip ?_
        refine Ex.seq (Ex.seq ?_)
        obtain ⟨r_19,hr_19,h⟩:=bE h
        refine Ex.reg (rn 2 [1,2,5,6,49] (mkS 125 [(1,.sl (plan_2.map aA) none),(2,.ptr 0 0),(5,i6 i_7),(6,.ptr 1 0),(49,i6 x_12.Day)]) ⟨[(aB s_1),(aN x_12)],[]⟩ ?_)
        refine ExO.callL [] [i6 x_12.Day,i6 0,i6 400] rfl rfl (kL x_12.Day 0 400) rfl rfl (kG N x_12.Day 0 400 r_19 hr_19) (kK _ _ _ _) rfl ?_
        refine rn 1 [1,2,5,6,51] (mkS 125 [(1,.sl (plan_2.map aA) none),(2,.ptr 0 0),(5,i6 i_7),(6,.ptr 1 0),(51,.bool (!r_19))]) ⟨[(aB s_1),(aN x_12)],[]⟩ ?_
        refine ExO.nil ?_
        rcases aY h with ⟨hc_20,h⟩ | ⟨hc_20,h⟩
        ·refine Ex.condT _ rfl hc_20 ?_
         refine Ex.seq (rg 1 [4] (mkS 125 [(4,i6 2)]) ⟨[(aB s_1),(aN x_12)],[]⟩ ?_)
         refine Ex.ret ?_
         obtain rfl:=sJ h
         exact rt (i6 2)
        ·refine Ex.condF _ rfl hc_20 ?_
         refine Ex.skip ?_
         refine Ex.seq (rg 1 [1,2,5,6,7] (mkS 125 [(1,.sl (plan_2.map aA) none),(2,.ptr 0 0),(5,i6 i_7),(6,.ptr 1 0),(7,i6 0)]) ⟨[(aB s_1),(aN x_12)],[]⟩ ?_)
         obtain ⟨K_22,hK_23,h⟩:=letE h
         refine Ex.blockJ (fun a S => K_22 () = some r ∧ a = mkS 125 [(1,.sl (plan_2.map aA) none),(2,.ptr 0 0),(5,i6 i_7)] ∧ S = ⟨[(aB s_1)],[]⟩) ?_ ?_
         ·obtain ⟨B_26,hB_27,h⟩:=iU h
          refine Ex.loopF (fun k a S => ∃ (k_24 : Int),loop1 B_26 k k_24 = some r ∧ a = mkS 125 [(1,.sl (plan_2.map aA) none),(2,.ptr 0 0),(5,i6 i_7),(6,.ptr 1 0),(7,i6 k_24)] ∧ S = ⟨[(aB s_1),(aN x_12)],[]⟩) N ⟨_,_,aM.refl _ _ _,0,h,rfl,rfl⟩ ?_
          rintro k a S ⟨k_24,h,rfl,rfl⟩
          cases k with
          | zero => exact (iS h).elim
          | succ k =>
           replace h:=iT h hB_27
           refine Ex.seq (Ex.seq ?_)
           refine rg 3 [1,2,5,6,7,54] (mkS 125 [(1,.sl (plan_2.map aA) none),(2,.ptr 0 0),(5,i6 i_7),(6,.ptr 1 0),(7,i6 k_24),(54,.bool (decide (k_24 < i_7)))]) ⟨[(aB s_1),(aN x_12)],[]⟩ ?_
           rcases aY h with ⟨hc_28,h⟩ | ⟨hc_28,h⟩
           ·refine Ex.condT _ rfl hc_28 ?_
            refine Ex.skip ?_
            refine Ex.seq ?_
            refine Ex.blockK ?_
            obtain ⟨K_31,hK_32,h⟩:=letE h
            refine Ex.seqJ (fun a S => ∃ (y_29 : Bool),K_31 y_29 = some r ∧ a = mkS 125 [(1,.sl (plan_2.map aA) none),(2,.ptr 0 0),(5,i6 i_7),(6,.ptr 1 0),(7,i6 k_24),(78,.bool y_29)] ∧ S = ⟨[(aB s_1),(aN x_12)],[]⟩) ?_ ?_
            ·obtain ⟨x_33,hx_33,h⟩:=bE h
             obtain ⟨x_34,hx_34,h⟩:=bE h
             rcases aY h with ⟨hc_35,h⟩ | ⟨hc_35,h⟩
             ·obtain ⟨r_36,hr_36,h⟩:=bE h
              have hT_37 : fH Tryz.prog [⟨52,[(aC s_1),.sl (plan_2.map aA) none,i6 k_24],[],(cS r_36),[]⟩] ∧ eF [⟨52,[(aC s_1),.sl (plan_2.map aA) none,i6 k_24],[],(cS r_36),[]⟩]:=⟨⟨(oS N s_1 plan_2 k_24 r_36 hr_36),rfl,trivial⟩,⟨trivial,trivial⟩⟩
              refine Ex.drawE (a1:=mkS 125 [(1,.sl (plan_2.map aA) none),(2,.ptr 0 0),(5,i6 i_7),(6,.ptr 1 0),(7,i6 k_24),(54,.bool (decide (k_24 < i_7))),(57,.ptr 0 1),(58,.sl (s_1.Jobs.map aI) none),(59,i6 k_24),(60,.rop (aW x_33)),(61,.rop (aW x_33)),(62,i6 x_33.Float),(63,.ptr 0 1),(64,.sl (s_1.Jobs.map aI) none),(65,i6 i_7),(66,.rop (aW x_34)),(67,.rop (aW x_34)),(68,i6 x_34.Float),(69,.bool (x_33.Float == x_34.Float)),(70,.bool true),(71,.ptr 1 1),(72,i6 x_12.Day),(73,(aC s_1)),(74,.sl (plan_2.map aA) none),(75,i6 k_24),(76,i6 r_36)]) (dI hT_37.1) [] [] [] ?_ ?_
              ·refine drS [0, 1] 19 [(3, .rop (aW x_33)), (9, .rop (aW x_34)), (13, .eq (.bool true))] [LGet (s_1.Jobs.map aI) k_24 3 (aW x_33), LGet (s_1.Jobs.map aI) i_7 3 (aW x_34), AV.bool (x_33.Float == x_34.Float) = AV.bool true] (mkS 125 [(1, .sl (plan_2.map aA) none), (2, .ptr 0 0), (5, i6 i_7), (6, .ptr 1 0), (7, i6 k_24), (54, .bool (decide (k_24 < i_7))), (57, .ptr 0 1), (58, .sl (s_1.Jobs.map aI) none), (59, i6 k_24), (60, .rop (aW x_33)), (61, .rop (aW x_33)), (62, i6 x_33.Float), (63, .ptr 0 1), (64, .sl (s_1.Jobs.map aI) none), (65, i6 i_7), (66, .rop (aW x_34)), (67, .rop (aW x_34)), (68, i6 x_34.Float), (69, .bool (x_33.Float == x_34.Float)), (70, .bool true), (71, .ptr 1 1), (72, i6 x_12.Day), (73, (aC s_1)), (74, .sl (plan_2.map aA) none), (75, i6 k_24)]) (by simp) (by kernel_rfl) ⟨LGet.of hx_33 rfl, LGet.of hx_34 rfl, congrArg AV.bool hc_35, trivial⟩ (by kernel_rfl) ?_
               refine drC hT_37.2 0 _ [(aC s_1),.sl (plan_2.map aA) none,i6 k_24] (cS r_36) rfl rfl rfl rfl rfl (fun _ => rfl) rfl (by simp; try rfl) (fun _ => oV _ _ _ _) ?_
               exact DrO.nil rfl
              ·dsimp only [List.getLastD_cons,List.getLastD_nil]
               refine rn 2 [1,2,5,6,7,78] (mkS 125 [(1,.sl (plan_2.map aA) none),(2,.ptr 0 0),(5,i6 i_7),(6,.ptr 1 0),(7,i6 k_24),(78,.bool (decide (x_12.Day < r_36)))]) ⟨[(aB s_1),(aN x_12)],[]⟩ ?_
               refine ExO.nil ?_
               (try simp only [reduceCtorEq,AEx.ex.injEq,Nat.reduceEqDiff,if_true,if_false])
               exact ⟨_,_,aM.refl _ _ _,(decide (x_12.Day < r_36)),h,rfl,rfl⟩
             ·refine qG (cP _) [(3, .rop (aW x_33)), (9, .rop (aW x_34)), (13, .eq (.bool false))] [] [1, 2, 5, 6, 7, 78] [LGet (s_1.Jobs.map aI) k_24 3 (aW x_33), LGet (s_1.Jobs.map aI) i_7 3 (aW x_34), AV.bool (x_33.Float == x_34.Float) = AV.bool false] [] (mkS 125 [(1, .sl (plan_2.map aA) none), (2, .ptr 0 0), (5, i6 i_7), (6, .ptr 1 0), (7, i6 k_24), (54, .bool (decide (k_24 < i_7))), (57, .ptr 0 1), (58, .sl (s_1.Jobs.map aI) none), (59, i6 k_24), (60, .rop (aW x_33)), (61, .rop (aW x_33)), (62, i6 x_33.Float), (63, .ptr 0 1), (64, .sl (s_1.Jobs.map aI) none), (65, i6 i_7), (66, .rop (aW x_34)), (67, .rop (aW x_34)), (68, i6 x_34.Float), (69, .bool (x_33.Float == x_34.Float)), (70, .bool false), (71, .tup []), (72, .tup []), (73, .tup []), (74, .tup []), (75, .tup []), (76, .tup [])]) (mkS 125 [(1, .sl (plan_2.map aA) none), (2, .ptr 0 0), (5, i6 i_7), (6, .ptr 1 0), (7, i6 k_24), (78, .bool false)]) (by kernel_rfl) (by kernel_rfl) ⟨LGet.of hx_33 rfl, LGet.of hx_34 rfl, congrArg AV.bool hc_35, trivial⟩ (by kernel_rfl) trivial ?_
              (try simp only [reduceCtorEq,AEx.ex.injEq,Nat.reduceEqDiff,if_true,if_false])
              exact ⟨_,_,aM.refl _ _ _,false,h,rfl,rfl⟩
            ·rintro a S ⟨y_29,h,rfl,rfl⟩
             subst hK_32
             rcases aY h with ⟨hc_38,h⟩ | ⟨hc_38,h⟩
             ·refine Ex.condT _ rfl hc_38 ?_
              refine Ex.seq (rg 1 [4] (mkS 125 [(4,i6 9)]) ⟨[(aB s_1),(aN x_12)],[]⟩ ?_)
              refine Ex.ret ?_
              obtain rfl:=sJ h
              exact rt (i6 9)
             ·refine Ex.condF _ rfl hc_38 ?_
              refine Ex.skip ?_
              refine rg 3 [1,2,5,6,7] (mkS 125 [(1,.sl (plan_2.map aA) none),(2,.ptr 0 0),(5,i6 i_7),(6,.ptr 1 0),(7,i6 (IntKind.i64.wrap (k_24 + 1)))]) ⟨[(aB s_1),(aN x_12)],[]⟩ ?_
              dsimp only
              exact ⟨_,_,aM.refl _ _ _,k,Nat.lt_succ_self k,(IntKind.i64.wrap (k_24 + 1)),h,rfl,rfl⟩
           ·refine Ex.condF _ rfl hc_28 ?_
            refine Ex.exit ?_
            (try simp only [reduceCtorEq,AEx.ex.injEq,Nat.reduceEqDiff,if_true,if_false])
            exact ⟨_,_,bM (m:=125) 1 [] [(1,.sl (plan_2.map aA) none),(2,.ptr 0 0),(5,i6 i_7)] [(aB s_1)] [] (by simp [bD]) (by simp) ⟨(reN (cF _)),rfl,rfl,trivial⟩ (by simp) rfl (by decide),h,rfl,rfl⟩
         ·rintro a S ⟨h,rfl,rfl⟩
          subst hK_23
          refine rg 3 [1,2,5] (mkS 125 [(1,.sl (plan_2.map aA) none),(2,.ptr 0 0),(5,i6 (IntKind.i64.wrap (i_7 + 1)))]) ⟨[(aB s_1)],[]⟩ ?_
          dsimp only
          exact ⟨_,_,aM.refl _ _ _,k,Nat.lt_succ_self k,(IntKind.i64.wrap (i_7 + 1)),h,rfl,rfl⟩
    ·refine Ex.condF _ rfl hc_11 ?_
     refine Ex.exit ?_
     (try simp only [reduceCtorEq,AEx.ex.injEq,Nat.reduceEqDiff,if_true,if_false])
     exact ⟨_,_,bQ [1,2],h,rfl,rfl⟩
  ·rintro a S ⟨h,rfl,rfl⟩
   subst hK_6
   refine Ex.seq (Ex.seq ?_)
   refine rg 1 [1,2,8] (mkS 125 [(1,.sl (plan_2.map aA) none),(2,.ptr 0 0),(8,i6 0)]) ⟨[(aB s_1)],[]⟩ ?_
   obtain ⟨K_40,hK_41,h⟩:=letE h
   refine Ex.blockJ (fun a S => K_40 () = some r ∧ a = mkS 125 [] ∧ S = ⟨[],[]⟩) ?_ ?_
   ·obtain ⟨B_44,hB_45,h⟩:=iU h
    refine Ex.loopF (fun k a S => ∃ (i_42 : Int),loop1 B_44 k i_42 = some r ∧ a = mkS 125 [(1,.sl (plan_2.map aA) none),(2,.ptr 0 0),(8,i6 i_42)] ∧ S = ⟨[(aB s_1)],[]⟩) N ⟨_,_,aM.refl _ _ _,0,h,rfl,rfl⟩ ?_
    rintro k a S ⟨i_42,h,rfl,rfl⟩
    cases k with
    | zero => exact (iS h).elim
    | succ k =>
     replace h:=iT h hB_45
     refine Ex.seq (Ex.seq ?_)
     refine regH 4 [(2,.eq (i6 ((plan_2.length : Nat) : Int)))] [1,2,8,82] [AV.int .i64 (((plan_2.map aA).length : Nat) : Int) = AV.int .i64 ((plan_2.length : Nat) : Int)] (mkS 125 [(1,.sl (plan_2.map aA) none),(2,.ptr 0 0),(8,i6 i_42),(82,.bool (decide (i_42 < ((plan_2.length : Nat) : Int))))]) (⟨[(aB s_1)],[]⟩) (by kernel_rfl) ⟨lenM _ _,trivial⟩ rfl ?_
     rcases aY h with ⟨hc_46,h⟩ | ⟨hc_46,h⟩
     ·refine Ex.condT _ rfl hc_46 ?_
      refine Ex.skip ?_
      refine Ex.seq ?_
      refine Ex.blockK ?_
      refine Ex.seq (rg 1 [1,2,8,9] (mkS 125 [(1,.sl (plan_2.map aA) none),(2,.ptr 0 0),(8,i6 i_42),(9,i6 0)]) ⟨[(aB s_1)],[]⟩ ?_)
      obtain ⟨K_48,hK_49,h⟩:=letE h
      refine Ex.blockJ (fun a S => K_48 () = some r ∧ a = mkS 125 [(1,.sl (plan_2.map aA) none),(2,.ptr 0 0),(8,i6 i_42)] ∧ S = ⟨[(aB s_1)],[]⟩) ?_ ?_
      ·obtain ⟨B_52,hB_53,h⟩:=iU h
       refine Ex.loopF (fun k a S => ∃ (k_50 : Int),loop1 B_52 k k_50 = some r ∧ a = mkS 125 [(1,.sl (plan_2.map aA) none),(2,.ptr 0 0),(8,i6 i_42),(9,i6 k_50)] ∧ S = ⟨[(aB s_1)],[]⟩) N ⟨_,_,aM.refl _ _ _,0,h,rfl,rfl⟩ ?_
       rintro k a S ⟨k_50,h,rfl,rfl⟩
       cases k with
       | zero => exact (iS h).elim
       | succ k =>
        replace h:=iT h hB_53
        refine Ex.seq (Ex.seq ?_)
        refine rg 3 [1,2,8,9,87] (mkS 125 [(1,.sl (plan_2.map aA) none),(2,.ptr 0 0),(8,i6 i_42),(9,i6 k_50),(87,.bool (decide (k_50 < i_42)))]) ⟨[(aB s_1)],[]⟩ ?_
        rcases aY h with ⟨hc_54,h⟩ | ⟨hc_54,h⟩
        ·refine Ex.condT _ rfl hc_54 ?_
         refine Ex.skip ?_
         refine Ex.seq ?_
         refine Ex.blockK ?_
         obtain ⟨K_57,hK_58,h⟩:=letE h
         refine Ex.seqJ (fun a S => ∃ (y_55 : Bool),K_57 y_55 = some r ∧ a = mkS 125 [(1,.sl (plan_2.map aA) none),(2,.ptr 0 0),(8,i6 i_42),(9,i6 k_50),(124,.bool y_55)] ∧ S = ⟨[(aB s_1)],[]⟩) ?_ ?_
         ·obtain ⟨x_59,hx_59,h⟩:=bE h
          obtain ⟨x_60,hx_60,h⟩:=bE h
          rcases aY h with ⟨hc_61,h⟩ | ⟨hc_61,h⟩
          ·obtain ⟨x_62,hx_62,h⟩:=bE h
           obtain ⟨r_63,hr_63,h⟩:=bE h
           rcases aY h with ⟨hc_64,h⟩ | ⟨hc_64,h⟩
           ·obtain ⟨x_65,hx_65,h⟩:=bE h
            obtain ⟨r_66,hr_66,h⟩:=bE h
            have hT_67 : fH Tryz.prog [⟨52,[(aC s_1),.sl (plan_2.map aA) none,i6 k_50],[],(cS r_63),[]⟩,⟨52,[(aC s_1),.sl (plan_2.map aA) none,i6 i_42],[],(cS r_66),[]⟩] ∧ eF [⟨52,[(aC s_1),.sl (plan_2.map aA) none,i6 k_50],[],(cS r_63),[]⟩,⟨52,[(aC s_1),.sl (plan_2.map aA) none,i6 i_42],[],(cS r_66),[]⟩]:=⟨⟨(oS N s_1 plan_2 k_50 r_63 hr_63),rfl,(oS N s_1 plan_2 i_42 r_66 hr_66),rfl,trivial⟩,⟨⟨aEu N s_1 plan_2 k_50 s_1 plan_2 i_42 r_63 r_66 hr_63 hr_66,trivial⟩,trivial,trivial⟩⟩
            refine Ex.drawE (a1:=mkS 125 [(1,.sl (plan_2.map aA) none),(2,.ptr 0 0),(8,i6 i_42),(9,i6 k_50),(87,.bool (decide (k_50 < i_42))),(90,.sl (plan_2.map aA) none),(91,i6 i_42),(92,.rop (aN x_59)),(93,.rop (aN x_59)),(94,i6 x_59.Worker),(95,.sl (plan_2.map aA) none),(96,i6 k_50),(97,.rop (aN x_60)),(98,.rop (aN x_60)),(99,i6 x_60.Worker),(100,.bool (x_59.Worker == x_60.Worker)),(101,.bool true),(102,.sl (plan_2.map aA) none),(103,i6 i_42),(104,.rop (aN x_62)),(105,.rop [i6 x_62.Day]),(106,i6 x_62.Day),(107,(aC s_1)),(108,.sl (plan_2.map aA) none),(109,i6 k_50),(110,i6 r_63),(111,.bool (decide (x_62.Day < r_63))),(112,.bool (decide (x_62.Day < r_63))),(113,.bool true),(114,.sl (plan_2.map aA) none),(115,i6 k_50),(116,.rop (aN x_65)),(117,.rop [i6 x_65.Day]),(118,i6 x_65.Day),(119,(aC s_1)),(120,.sl (plan_2.map aA) none),(121,i6 i_42),(122,i6 r_66)]) (dI hT_67.1) [] [] [] ?_ ?_
            ·refine drS [0] 20 [(2, .rop (aN x_59)), (7, .rop (aN x_60)), (11, .eq (.bool true)), (14, .rop (aN x_62))] [LGet (plan_2.map aA) i_42 2 (aN x_59), LGet (plan_2.map aA) k_50 2 (aN x_60), AV.bool (x_59.Worker == x_60.Worker) = AV.bool true, LGet (plan_2.map aA) i_42 2 (aN x_62)] (mkS 125 [(1, .sl (plan_2.map aA) none), (2, .ptr 0 0), (8, i6 i_42), (9, i6 k_50), (87, .bool (decide (k_50 < i_42))), (90, .sl (plan_2.map aA) none), (91, i6 i_42), (92, .rop (aN x_59)), (93, .rop (aN x_59)), (94, i6 x_59.Worker), (95, .sl (plan_2.map aA) none), (96, i6 k_50), (97, .rop (aN x_60)), (98, .rop (aN x_60)), (99, i6 x_60.Worker), (100, .bool (x_59.Worker == x_60.Worker)), (101, .bool true), (102, .sl (plan_2.map aA) none), (103, i6 i_42), (104, .rop (aN x_62)), (105, .rop [i6 x_62.Day]), (106, i6 x_62.Day), (107, (aC s_1)), (108, .sl (plan_2.map aA) none), (109, i6 k_50)]) (by simp) (by kernel_rfl) ⟨LGet.of hx_59 rfl, LGet.of hx_60 rfl, congrArg AV.bool hc_61, LGet.of hx_62 rfl, trivial⟩ (by kernel_rfl) ?_
             refine drC hT_67.2 0 _ [(aC s_1),.sl (plan_2.map aA) none,i6 k_50] (cS r_63) rfl rfl rfl rfl rfl (fun _ => rfl) rfl (by simp; try rfl) (fun _ => oV _ _ _ _) ?_
             refine drS [0] 11 [(2,.eq (.bool true)),(5,.rop (aN x_65))] [AV.bool (decide (x_62.Day < r_63)) = AV.bool true,LGet (plan_2.map aA) k_50 2 (aN x_65)] (mkS 125 [(1,.sl (plan_2.map aA) none),(2,.ptr 0 0),(8,i6 i_42),(9,i6 k_50),(87,.bool (decide (k_50 < i_42))),(90,.sl (plan_2.map aA) none),(91,i6 i_42),(92,.rop (aN x_59)),(93,.rop (aN x_59)),(94,i6 x_59.Worker),(95,.sl (plan_2.map aA) none),(96,i6 k_50),(97,.rop (aN x_60)),(98,.rop (aN x_60)),(99,i6 x_60.Worker),(100,.bool (x_59.Worker == x_60.Worker)),(101,.bool true),(102,.sl (plan_2.map aA) none),(103,i6 i_42),(104,.rop (aN x_62)),(105,.rop [i6 x_62.Day]),(106,i6 x_62.Day),(107,(aC s_1)),(108,.sl (plan_2.map aA) none),(109,i6 k_50),(110,i6 r_63),(111,.bool (decide (x_62.Day < r_63))),(112,.bool (decide (x_62.Day < r_63))),(113,.bool true),(114,.sl (plan_2.map aA) none),(115,i6 k_50),(116,.rop (aN x_65)),(117,.rop [i6 x_65.Day]),(118,i6 x_65.Day),(119,(aC s_1)),(120,.sl (plan_2.map aA) none),(121,i6 i_42)]) (by simp) (by kernel_rfl) ⟨congrArg AV.bool hc_64,LGet.of hx_65 rfl,trivial⟩ (by kernel_rfl) ?_
             refine drC hT_67.2 1 _ [(aC s_1),.sl (plan_2.map aA) none,i6 i_42] (cS r_66) rfl rfl rfl rfl rfl (fun _ => rfl) rfl (by simp; try rfl) (fun _ => oV _ _ _ _) ?_
             exact DrO.nil rfl
            ·dsimp only [List.getLastD_cons,List.getLastD_nil]
             refine rn 2 [1,2,8,9,124] (mkS 125 [(1,.sl (plan_2.map aA) none),(2,.ptr 0 0),(8,i6 i_42),(9,i6 k_50),(124,.bool (decide (x_65.Day < r_66)))]) ⟨[(aB s_1)],[]⟩ ?_
             refine ExO.nil ?_
             (try simp only [reduceCtorEq,AEx.ex.injEq,Nat.reduceEqDiff,if_true,if_false])
             exact ⟨_,_,aM.refl _ _ _,(decide (x_65.Day < r_66)),h,rfl,rfl⟩
           ·have hT_69 : fH Tryz.prog [⟨52,[(aC s_1),.sl (plan_2.map aA) none,i6 k_50],[],(cS r_63),[]⟩] ∧ eF [⟨52,[(aC s_1),.sl (plan_2.map aA) none,i6 k_50],[],(cS r_63),[]⟩]:=⟨⟨(oS N s_1 plan_2 k_50 r_63 hr_63),rfl,trivial⟩,⟨trivial,trivial⟩⟩
            obtain ⟨X_68,hX_68,hcl_70⟩ : ∃ X : Clr,eE Tryz.prog X ∧ X 52 [(aC s_1),.sl (plan_2.map aA) none,i6 k_50] ⟨[(aB s_1)],[]⟩ = some (cS r_63,none):=⟨_,dI hT_69.1,dX hT_69.2 0 _ [(aC s_1),.sl (plan_2.map aA) none,i6 k_50] _ rfl rfl rfl rfl (by simp; try rfl) (fun _ => oV _ _ _ _)⟩
            refine qG hX_68 [(2,.rop (aN x_59)),(7,.rop (aN x_60)),(11,.eq (.bool true)),(14,.rop (aN x_62)),(20,.cl (cS r_63)),(23,.eq (.bool false))] [] [1,2,8,9,124] [LGet (plan_2.map aA) i_42 2 (aN x_59),LGet (plan_2.map aA) k_50 2 (aN x_60),AV.bool (x_59.Worker == x_60.Worker) = AV.bool true,LGet (plan_2.map aA) i_42 2 (aN x_62),X_68 52 [(aC s_1),.sl (plan_2.map aA) none,i6 k_50] ⟨[(aB s_1)],[]⟩ = some (cS r_63,none),AV.bool (decide (x_62.Day < r_63)) = AV.bool false] [] (mkS 125 [(1,.sl (plan_2.map aA) none),(2,.ptr 0 0),(8,i6 i_42),(9,i6 k_50),(87,.bool (decide (k_50 < i_42))),(90,.sl (plan_2.map aA) none),(91,i6 i_42),(92,.rop (aN x_59)),(93,.rop (aN x_59)),(94,i6 x_59.Worker),(95,.sl (plan_2.map aA) none),(96,i6 k_50),(97,.rop (aN x_60)),(98,.rop (aN x_60)),(99,i6 x_60.Worker),(100,.bool (x_59.Worker == x_60.Worker)),(101,.bool true),(102,.sl (plan_2.map aA) none),(103,i6 i_42),(104,.rop (aN x_62)),(105,.rop [i6 x_62.Day]),(106,i6 x_62.Day),(107,(aC s_1)),(108,.sl (plan_2.map aA) none),(109,i6 k_50),(110,i6 r_63),(111,.bool (decide (x_62.Day < r_63))),(112,.bool (decide (x_62.Day < r_63))),(113,.bool false),(114,.tup []),(115,.tup []),(116,.tup []),(117,.tup []),(118,.tup []),(119,.tup []),(120,.tup []),(121,.tup []),(122,.tup [])]) (mkS 125 [(1,.sl (plan_2.map aA) none),(2,.ptr 0 0),(8,i6 i_42),(9,i6 k_50),(124,.bool false)]) (by kernel_rfl) (by kernel_rfl) ⟨LGet.of hx_59 rfl,LGet.of hx_60 rfl,congrArg AV.bool hc_61,LGet.of hx_62 rfl,hcl_70,congrArg AV.bool hc_64,trivial⟩ (by kernel_rfl) trivial ?_
            (try simp only [reduceCtorEq,AEx.ex.injEq,Nat.reduceEqDiff,if_true,if_false])
            exact ⟨_,_,aM.refl _ _ _,false,h,rfl,rfl⟩
          ·refine qG (cP _) [(2, .rop (aN x_59)), (7, .rop (aN x_60)), (11, .eq (.bool false))] [] [1, 2, 8, 9, 124] [LGet (plan_2.map aA) i_42 2 (aN x_59), LGet (plan_2.map aA) k_50 2 (aN x_60), AV.bool (x_59.Worker == x_60.Worker) = AV.bool false] [] (mkS 125 [(1, .sl (plan_2.map aA) none), (2, .ptr 0 0), (8, i6 i_42), (9, i6 k_50), (87, .bool (decide (k_50 < i_42))), (90, .sl (plan_2.map aA) none), (91, i6 i_42), (92, .rop (aN x_59)), (93, .rop (aN x_59)), (94, i6 x_59.Worker), (95, .sl (plan_2.map aA) none), (96, i6 k_50), (97, .rop (aN x_60)), (98, .rop (aN x_60)), (99, i6 x_60.Worker), (100, .bool (x_59.Worker == x_60.Worker)), (101, .bool false), (102, .tup []), (103, .tup []), (104, .tup []), (105, .tup []), (106, .tup []), (107, .tup []), (108, .tup []), (109, .tup []), (110, .tup []), (111, .tup []), (112, .bool false), (113, .bool false), (114, .tup []), (115, .tup []), (116, .tup []), (117, .tup []), (118, .tup []), (119, .tup []), (120, .tup []), (121, .tup []), (122, .tup [])]) (mkS 125 [(1, .sl (plan_2.map aA) none), (2, .ptr 0 0), (8, i6 i_42), (9, i6 k_50), (124, .bool false)]) (by kernel_rfl) (by kernel_rfl) ⟨LGet.of hx_59 rfl, LGet.of hx_60 rfl, congrArg AV.bool hc_61, trivial⟩ (by kernel_rfl) trivial ?_
           (try simp only [reduceCtorEq,AEx.ex.injEq,Nat.reduceEqDiff,if_true,if_false])
           exact ⟨_,_,aM.refl _ _ _,false,h,rfl,rfl⟩
         ·rintro a S ⟨y_55,h,rfl,rfl⟩
          subst hK_58
          rcases aY h with ⟨hc_71,h⟩ | ⟨hc_71,h⟩
          ·refine Ex.condT _ rfl hc_71 ?_
           refine Ex.seq (rg 1 [4] (mkS 125 [(4,i6 10)]) ⟨[(aB s_1)],[]⟩ ?_)
           refine Ex.ret ?_
           obtain rfl:=sJ h
           exact rt (i6 10)
          ·refine Ex.condF _ rfl hc_71 ?_
           refine Ex.skip ?_
           refine rg 3 [1,2,8,9] (mkS 125 [(1,.sl (plan_2.map aA) none),(2,.ptr 0 0),(8,i6 i_42),(9,i6 (IntKind.i64.wrap (k_50 + 1)))]) ⟨[(aB s_1)],[]⟩ ?_
           dsimp only
           exact ⟨_,_,aM.refl _ _ _,k,Nat.lt_succ_self k,(IntKind.i64.wrap (k_50 + 1)),h,rfl,rfl⟩
        ·refine Ex.condF _ rfl hc_54 ?_
         refine Ex.exit ?_
         (try simp only [reduceCtorEq,AEx.ex.injEq,Nat.reduceEqDiff,if_true,if_false])
         exact ⟨_,_,bQ [1,2,8],h,rfl,rfl⟩
      ·rintro a S ⟨h,rfl,rfl⟩
       subst hK_49
       refine rg 3 [1,2,8] (mkS 125 [(1,.sl (plan_2.map aA) none),(2,.ptr 0 0),(8,i6 (IntKind.i64.wrap (i_42 + 1)))]) ⟨[(aB s_1)],[]⟩ ?_
       dsimp only
       exact ⟨_,_,aM.refl _ _ _,k,Nat.lt_succ_self k,(IntKind.i64.wrap (i_42 + 1)),h,rfl,rfl⟩
     ·refine Ex.condF _ rfl hc_46 ?_
      refine Ex.exit ?_
      (try simp only [reduceCtorEq,AEx.ex.injEq,Nat.reduceEqDiff,if_true,if_false])
      exact ⟨_,_,bM (m:=125) 0 [] [] [] [] (by simp [bD]) (by simp) trivial (by simp) rfl (by decide),h,rfl,rfl⟩
   ·rintro a S ⟨h,rfl,rfl⟩
    subst hK_41
    refine Ex.seq (rg 1 [4] (mkS 125 [(4,i6 0)]) ⟨[],[]⟩ ?_)
    refine Ex.ret ?_
    obtain rfl:=sJ h
    exact rt (i6 0)
def mU (N : Nat) (s_1 : aH) (plan_2 : (List aG)) : Option (Int):=(letJ (fun (n_3 : Int) => some n_3) (fun k_4 => (loop2 (fun rec_9 (n_7 : Int) (i_8 : Int) => (bif (decide (i_8 < ((plan_2.length : Nat) : Int))) then ((fK N s_1 plan_2 i_8).bind fun r_13 => (rec_9 (if r_13 > n_7 then r_13 else n_7) (IntKind.i64.wrap (i_8 + 1)))) else (k_4 n_7))) N 0 0)))
def oZ (r : Int) : AV:=i6 r
attribute [local simp] oZ
theorem aDA (s_1 : aH) (plan_2 : (List aG)) : [(aC s_1),.sl (plan_2.map aA) none].mapM (ren []) = some [(aC s_1),.sl (plan_2.map aA) none]:=by simp
theorem aDw (r : Int) (n n2 m : Nat) : back n n2 m (oZ r) = some (oZ r):=by simp
theorem aDq (N : Nat) (s_1 : aH) (plan_2 : (List aG)) (r : Int) (h : mU N s_1 plan_2 = some r) : Does Tryz.prog 34 [(aC s_1),.sl (plan_2.map aA) none] [] fun v c => v = oZ r ∧ c = []:=by
 unfold mU at h
 refine Does.ofL comp34 _ _ rfl rfl ?_
 refine Ex.seq (rg 2 [1,2] (mkS 20 [(1,.sl (plan_2.map aA) none),(2,.ptr 0 0)]) ⟨[(aB s_1)],[]⟩ ?_)
 refine Ex.seq (rg 1 [1,2,5] (mkS 20 [(1,.sl (plan_2.map aA) none),(2,.ptr 0 0),(5,i6 0)]) ⟨[(aB s_1)],[]⟩ ?_)
 refine Ex.seq (Ex.seq ?_)
 refine rg 1 [1,2,5,6] (mkS 20 [(1,.sl (plan_2.map aA) none),(2,.ptr 0 0),(5,i6 0),(6,i6 0)]) ⟨[(aB s_1)],[]⟩ ?_
 obtain ⟨K_5,hK_6,h⟩:=letE h
 refine Ex.blockJ (fun a S => ∃ (n_3 : Int),K_5 n_3 = some r ∧ a = mkS 20 [(5,i6 n_3)] ∧ S = ⟨[],[]⟩) ?_ ?_
 ·obtain ⟨B_10,hB_11,h⟩:=gP h
  refine Ex.loopF (fun k a S => ∃ (n_7 : Int),∃ (i_8 : Int),loop2 B_10 k n_7 i_8 = some r ∧ a = mkS 20 [(1,.sl (plan_2.map aA) none),(2,.ptr 0 0),(5,i6 n_7),(6,i6 i_8)] ∧ S = ⟨[(aB s_1)],[]⟩) N ⟨_,_,aM.refl _ _ _,0,0,h,rfl,rfl⟩ ?_
  rintro k a S ⟨n_7,i_8,h,rfl,rfl⟩
  cases k with
  | zero => exact (gN h).elim
  | succ k =>
   replace h:=gO h hB_11
   refine Ex.seq (Ex.seq ?_)
   refine regH 4 [(2,.eq (i6 ((plan_2.length : Nat) : Int)))] [1,2,5,6,10] [AV.int .i64 (((plan_2.map aA).length : Nat) : Int) = AV.int .i64 ((plan_2.length : Nat) : Int)] (mkS 20 [(1,.sl (plan_2.map aA) none),(2,.ptr 0 0),(5,i6 n_7),(6,i6 i_8),(10,.bool (decide (i_8 < ((plan_2.length : Nat) : Int))))]) (⟨[(aB s_1)],[]⟩) (by kernel_rfl) ⟨lenM _ _,trivial⟩ rfl ?_
   rcases aY h with ⟨hc_12,h⟩ | ⟨hc_12,h⟩
   ·refine Ex.condT _ rfl hc_12 ?_
    refine Ex.skip ?_
    refine Ex.seq ?_
    refine Ex.blockK ?_
    obtain ⟨r_13,hr_13,h⟩:=bE h
    refine Ex.reg (rn 4 [1,2,6,13,14,15,16] (mkS 20 [(1,.sl (plan_2.map aA) none),(2,.ptr 0 0),(6,i6 i_8),(13,i6 n_7),(14,(aC s_1)),(15,.sl (plan_2.map aA) none),(16,i6 i_8)]) ⟨[(aB s_1)],[]⟩ ?_)
    refine ExO.callL [] [(aC s_1),.sl (plan_2.map aA) none,i6 i_8] rfl rfl (aEL s_1 plan_2 i_8) rfl rfl (oS N s_1 plan_2 i_8 r_13 hr_13) (oV _ _ _ _) rfl ?_
    refine rn 2 [1,2,5,6] (mkS 20 [(1,.sl (plan_2.map aA) none),(2,.ptr 0 0),(5,i6 (if r_13 > n_7 then r_13 else n_7)),(6,i6 i_8)]) ⟨[(aB s_1)],[]⟩ ?_
    refine ExO.nil ?_
    refine rg 3 [1,2,5,6] (mkS 20 [(1,.sl (plan_2.map aA) none),(2,.ptr 0 0),(5,i6 (if r_13 > n_7 then r_13 else n_7)),(6,i6 (IntKind.i64.wrap (i_8 + 1)))]) ⟨[(aB s_1)],[]⟩ ?_
    dsimp only
    exact ⟨_,_,aM.refl _ _ _,k,Nat.lt_succ_self k,(if r_13 > n_7 then r_13 else n_7),(IntKind.i64.wrap (i_8 + 1)),h,rfl,rfl⟩
   ·refine Ex.condF _ rfl hc_12 ?_
    refine Ex.exit ?_
    (try simp only [reduceCtorEq,AEx.ex.injEq,Nat.reduceEqDiff,if_true,if_false])
    exact ⟨_,_,bM (m:=20) 0 [] [(5,i6 n_7)] [] [] (by simp [bD]) (by simp) ⟨rfl,trivial⟩ (by simp) rfl (by decide),n_7,h,rfl,rfl⟩
 ·rintro a S ⟨n_3,h,rfl,rfl⟩
  subst hK_6
  refine Ex.seq (rg 2 [4] (mkS 20 [(4,i6 n_3)]) ⟨[],[]⟩ ?_)
  refine Ex.ret ?_
  obtain rfl:=sJ h
  exact rt (i6 n_3)
def lJ (N : Nat) (s_1 : aH) (plan_2 : (List aG)) : Option (Int × Int):=((iB N s_1).bind fun r_3 => (bif (r_3 != 0) then some (0,r_3) else ((gS N s_1 plan_2).bind fun r_5 => (bif (r_5 != 0) then some (0,r_5) else ((mU N s_1 plan_2).bind fun r_7 => some (r_7,0))))))
def hU (r : Int × Int) : AV:=.tup [i6 r.1,i6 r.2]
attribute [local simp] hU
theorem aCC (r : Int × Int) (n n2 m : Nat) : back n n2 m (hU r) = some (hU r):=by simp
theorem aCi (N : Nat) (s_1 : aH) (plan_2 : (List aG)) (r : Int × Int) (h : lJ N s_1 plan_2 = some r) : Does Tryz.prog 11 [(aC s_1),.sl (plan_2.map aA) none] [] fun v c => v = hU r ∧ c = []:=by
 unfold lJ at h
 refine Does.ofL comp11 _ _ rfl rfl ?_
 refine Ex.seq (rg 3 [1,2] (mkS 22 [(1,.sl (plan_2.map aA) none),(2,.ptr 0 0)]) ⟨[(aB s_1)],[]⟩ ?_)
 refine Ex.seq (Ex.seq ?_)
 obtain ⟨r_3,hr_3,h⟩:=bE h
 refine Ex.reg (rn 1 [1,2,8] (mkS 22 [(1,.sl (plan_2.map aA) none),(2,.ptr 0 0),(8,(aC s_1))]) ⟨[(aB s_1)],[]⟩ ?_)
 refine ExO.callL [] [(aC s_1)] rfl rfl (wW s_1) rfl rfl (fP N s_1 r_3 hr_3) (fS _ _ _ _) rfl ?_
 refine rn 1 [1,2,6] (mkS 22 [(1,.sl (plan_2.map aA) none),(2,.ptr 0 0),(6,i6 r_3)]) ⟨[(aB s_1)],[]⟩ ?_
 refine ExO.nil ?_
 refine Ex.seq (rg 2 [1,2,6,11] (mkS 22 [(1,.sl (plan_2.map aA) none),(2,.ptr 0 0),(6,i6 r_3),(11,.bool (r_3 != 0))]) ⟨[(aB s_1)],[]⟩ ?_)
 rcases aY h with ⟨hc_4,h⟩ | ⟨hc_4,h⟩
 ·refine Ex.condT _ rfl hc_4 ?_
  refine Ex.seq (rg 3 [4,5] (mkS 22 [(4,i6 0),(5,i6 r_3)]) ⟨[(aB s_1)],[]⟩ ?_)
  refine Ex.ret ?_
  obtain rfl:=sJ h
  exact rt (.tup [i6 0,i6 r_3])
 ·refine Ex.condF _ rfl hc_4 ?_
  refine Ex.skip ?_
  refine Ex.seq (Ex.seq ?_)
  obtain ⟨r_5,hr_5,h⟩:=bE h
  refine Ex.reg (rn 2 [1,2,13,14] (mkS 22 [(1,.sl (plan_2.map aA) none),(2,.ptr 0 0),(13,(aC s_1)),(14,.sl (plan_2.map aA) none)]) ⟨[(aB s_1)],[]⟩ ?_)
  refine ExO.callL [] [(aC s_1),.sl (plan_2.map aA) none] rfl rfl (xJ s_1 plan_2) rfl rfl (xB N s_1 plan_2 r_5 hr_5) (xG _ _ _ _) rfl ?_
  refine rn 1 [1,2,7] (mkS 22 [(1,.sl (plan_2.map aA) none),(2,.ptr 0 0),(7,i6 r_5)]) ⟨[(aB s_1)],[]⟩ ?_
  refine ExO.nil ?_
  refine Ex.seq (rg 2 [1,2,7,17] (mkS 22 [(1,.sl (plan_2.map aA) none),(2,.ptr 0 0),(7,i6 r_5),(17,.bool (r_5 != 0))]) ⟨[(aB s_1)],[]⟩ ?_)
  rcases aY h with ⟨hc_6,h⟩ | ⟨hc_6,h⟩
  ·refine Ex.condT _ rfl hc_6 ?_
   refine Ex.seq (rg 3 [4,5] (mkS 22 [(4,i6 0),(5,i6 r_5)]) ⟨[(aB s_1)],[]⟩ ?_)
   refine Ex.ret ?_
   obtain rfl:=sJ h
   exact rt (.tup [i6 0,i6 r_5])
  ·refine Ex.condF _ rfl hc_6 ?_
   refine Ex.skip ?_
   refine Ex.seq ?_
   obtain ⟨r_7,hr_7,h⟩:=bE h
   refine Ex.reg (rn 2 [19,20] (mkS 22 [(19,(aC s_1)),(20,.sl (plan_2.map aA) none)]) ⟨[(aB s_1)],[]⟩ ?_)
   refine ExO.callL [] [(aC s_1),.sl (plan_2.map aA) none] rfl rfl (aDA s_1 plan_2) rfl rfl (aDq N s_1 plan_2 r_7 hr_7) (aDw _ _ _ _) rfl ?_
   refine rn 2 [4,5] (mkS 22 [(4,i6 r_7),(5,i6 0)]) ⟨[(aB s_1)],[]⟩ ?_
   refine ExO.nil ?_
   refine Ex.ret ?_
   obtain rfl:=sJ h
   exact rt (.tup [i6 r_7,i6 0])
def nU (N : Nat) (w_1 : aX) (set_2 : Int) : Option (Bool):=(letJ (fun (_ : Unit) => some false) (fun k_3 => (loop1 (fun rec_7 (skill_6 : Int) => (bif (decide (skill_6 ≤ 3)) then (letJ (fun (y_11 : Bool) => (bif y_11 then some true else (rec_7 (IntKind.i64.wrap (skill_6 + 1))))) (fun k_12 => ((nnI (IntKind.i64.wrap (skill_6 - 1))).bind fun u_15 => ((some (IntKind.i64.wrap (((BitVec.ofInt (IntKind.bits .i64) (Int.fdiv set_2 ((2 : Int) ^ (min (Int.toNat (IntKind.i64.wrap (skill_6 - 1))) (IntKind.bits .i64)))) &&& BitVec.ofInt (IntKind.bits .i64) 1).toNat : Nat) : Int))).bind fun n_16 => (bif (n_16 == 1) then ((mM N w_1 skill_6).bind fun r_18 => (k_12 r_18)) else (k_12 false)))))) else (k_3 ()))) N 1)))
def nN (r : Bool) : AV:=.bool r
attribute [local simp] nN
theorem aCM (w_1 : aX) (set_2 : Int) : [(aE w_1),i6 set_2].mapM (ren []) = some [(aE w_1),i6 set_2]:=by simp
theorem aCB (r : Bool) (n n2 m : Nat) : back n n2 m (nN r) = some (nN r):=by simp
theorem aCh (N : Nat) (w_1 : aX) (set_2 : Int) (r : Bool) (h : nU N w_1 set_2 = some r) : Does Tryz.prog 38 [(aE w_1),i6 set_2] [] fun v c => v = nN r ∧ c = []:=by
 unfold nU at h
 refine Does.ofL comp38 _ _ rfl rfl ?_
 refine Ex.seq (rg 2 [1,2] (mkS 21 [(1,i6 set_2),(2,.ptr 0 0)]) ⟨[(aU w_1)],[]⟩ ?_)
 refine Ex.seq (Ex.seq ?_)
 refine rg 1 [1,2,5] (mkS 21 [(1,i6 set_2),(2,.ptr 0 0),(5,i6 1)]) ⟨[(aU w_1)],[]⟩ ?_
 obtain ⟨K_4,hK_5,h⟩:=letE h
 refine Ex.blockJ (fun a S => K_4 () = some r ∧ a = mkS 21 [] ∧ S = ⟨[],[]⟩) ?_ ?_
 ·obtain ⟨B_8,hB_9,h⟩:=iU h
  refine Ex.loopF (fun k a S => ∃ (skill_6 : Int),loop1 B_8 k skill_6 = some r ∧ a = mkS 21 [(1,i6 set_2),(2,.ptr 0 0),(5,i6 skill_6)] ∧ S = ⟨[(aU w_1)],[]⟩) N ⟨_,_,aM.refl _ _ _,1,h,rfl,rfl⟩ ?_
  rintro k a S ⟨skill_6,h,rfl,rfl⟩
  cases k with
  | zero => exact (iS h).elim
  | succ k =>
   replace h:=iT h hB_9
   refine Ex.seq (Ex.seq ?_)
   refine rg 2 [1,2,5,7] (mkS 21 [(1,i6 set_2),(2,.ptr 0 0),(5,i6 skill_6),(7,.bool (decide (skill_6 ≤ 3)))]) ⟨[(aU w_1)],[]⟩ ?_
   rcases aY h with ⟨hc_10,h⟩ | ⟨hc_10,h⟩
   ·refine Ex.condT _ rfl hc_10 ?_
    refine Ex.skip ?_
    refine Ex.seq ?_
    refine Ex.blockK ?_
    obtain ⟨K_13,hK_14,h⟩:=letE h
    refine Ex.seqJ (fun a S => ∃ (y_11 : Bool),K_13 y_11 = some r ∧ a = mkS 21 [(1,i6 set_2),(2,.ptr 0 0),(5,i6 skill_6),(20,.bool y_11)] ∧ S = ⟨[(aU w_1)],[]⟩) ?_ ?_
    ·obtain ⟨u_15,hu_15,h⟩:=bE h
     obtain ⟨n_16,hn_16,h⟩:=bE h
     rcases aY h with ⟨hc_17,h⟩ | ⟨hc_17,h⟩
     ·obtain ⟨r_18,hr_18,h⟩:=bE h
      refine Ex.reg ?_
      refine runH 9 [(3,.bin (i6 (Int.fdiv set_2 ((2 : Int) ^ (min (Int.toNat (IntKind.i64.wrap (skill_6 - 1))) (IntKind.bits .i64)))))),(4,.eq (i6 n_16)),(6,.eq (.bool true))] [1,2,5,16,17,18] [binA .shr (i6 set_2) (i6 (IntKind.i64.wrap (skill_6 - 1))) = some (i6 (Int.fdiv set_2 ((2 : Int) ^ (min (Int.toNat (IntKind.i64.wrap (skill_6 - 1))) (IntKind.bits .i64))))),AV.int .i64 (IntKind.i64.wrap (((BitVec.ofInt (IntKind.bits .i64) (Int.fdiv set_2 ((2 : Int) ^ (min (Int.toNat (IntKind.i64.wrap (skill_6 - 1))) (IntKind.bits .i64)))) &&& BitVec.ofInt (IntKind.bits .i64) 1).toNat : Nat) : Int)) = AV.int .i64 n_16,AV.bool (n_16 == 1) = AV.bool true] (mkS 21 [(1,i6 set_2),(2,.ptr 0 0),(5,i6 skill_6),(16,.bool true),(17,(aE w_1)),(18,i6 skill_6)]) (⟨[(aU w_1)],[]⟩) (by kernel_rfl) ⟨aFB hu_15,congrArg (AV.int .i64) (Option.some.inj hn_16),congrArg AV.bool hc_17,trivial⟩ ?_
      refine ExO.callL [] [(aE w_1),i6 skill_6] rfl rfl (aAD w_1 skill_6) rfl rfl (aAw N w_1 skill_6 r_18 hr_18) (aAB _ _ _ _) rfl ?_
      refine rn 1 [1,2,5,20] (mkS 21 [(1,i6 set_2),(2,.ptr 0 0),(5,i6 skill_6),(20,.bool r_18)]) ⟨[(aU w_1)],[]⟩ ?_
      refine ExO.nil ?_
      (try simp only [reduceCtorEq,AEx.ex.injEq,Nat.reduceEqDiff,if_true,if_false])
      exact ⟨_,_,aM.refl _ _ _,r_18,h,rfl,rfl⟩
     ·refine regH 11 [(3, .bin (i6 (Int.fdiv set_2 ((2 : Int) ^ (min (Int.toNat (IntKind.i64.wrap (skill_6 - 1))) (IntKind.bits .i64)))))), (4, .eq (i6 n_16)), (6, .eq (.bool false))] [1, 2, 5, 20] [binA .shr (i6 set_2) (i6 (IntKind.i64.wrap (skill_6 - 1))) = some (i6 (Int.fdiv set_2 ((2 : Int) ^ (min (Int.toNat (IntKind.i64.wrap (skill_6 - 1))) (IntKind.bits .i64))))), AV.int .i64 (IntKind.i64.wrap (((BitVec.ofInt (IntKind.bits .i64) (Int.fdiv set_2 ((2 : Int) ^ (min (Int.toNat (IntKind.i64.wrap (skill_6 - 1))) (IntKind.bits .i64)))) &&& BitVec.ofInt (IntKind.bits .i64) 1).toNat : Nat) : Int)) = AV.int .i64 n_16, AV.bool (n_16 == 1) = AV.bool false] (mkS 21 [(1, i6 set_2), (2, .ptr 0 0), (5, i6 skill_6), (20, .bool false)]) (⟨[(aU w_1)], []⟩) (by kernel_rfl) ⟨aFB hu_15, congrArg (AV.int .i64) (Option.some.inj hn_16), congrArg AV.bool hc_17, trivial⟩ rfl ?_
      (try simp only [reduceCtorEq,AEx.ex.injEq,Nat.reduceEqDiff,if_true,if_false])
      exact ⟨_,_,aM.refl _ _ _,false,h,rfl,rfl⟩
    ·rintro a S ⟨y_11,h,rfl,rfl⟩
     subst hK_14
     rcases aY h with ⟨hc_19,h⟩ | ⟨hc_19,h⟩
     ·refine Ex.condT _ rfl hc_19 ?_
      refine Ex.seq (rg 1 [4] (mkS 21 [(4,.bool true)]) ⟨[(aU w_1)],[]⟩ ?_)
      refine Ex.ret ?_
      obtain rfl:=sJ h
      exact rt (.bool true)
     ·refine Ex.condF _ rfl hc_19 ?_
      refine Ex.skip ?_
      refine rg 3 [1,2,5] (mkS 21 [(1,i6 set_2),(2,.ptr 0 0),(5,i6 (IntKind.i64.wrap (skill_6 + 1)))]) ⟨[(aU w_1)],[]⟩ ?_
      dsimp only
      exact ⟨_,_,aM.refl _ _ _,k,Nat.lt_succ_self k,(IntKind.i64.wrap (skill_6 + 1)),h,rfl,rfl⟩
   ·refine Ex.condF _ rfl hc_10 ?_
    refine Ex.exit ?_
    (try simp only [reduceCtorEq,AEx.ex.injEq,Nat.reduceEqDiff,if_true,if_false])
    exact ⟨_,_,bM (m:=21) 0 [] [] [] [] (by simp [bD]) (by simp) trivial (by simp) rfl (by decide),h,rfl,rfl⟩
 ·rintro a S ⟨h,rfl,rfl⟩
  subst hK_5
  refine Ex.seq (rg 1 [4] (mkS 21 [(4,.bool false)]) ⟨[],[]⟩ ?_)
  refine Ex.ret ?_
  obtain rfl:=sJ h
  exact rt (.bool false)
def lK (N : Nat) (s_1 : aH) : Option (Int × Int):=((iB N s_1).bind fun r_2 => (bif (r_2 != 0) then some (0,r_2) else (letJ (fun (bound_4 : Int) => (letJ (fun (bound_31 : Int) => some (bound_31,0)) (fun k_32 => (loop2 (fun rec_37 (bound_35 : Int) (set_36 : Int) => (bif (decide (set_36 < 8)) then (letJ (fun (bound_41 : Int) => (rec_37 bound_41 (IntKind.i64.wrap (set_36 + 1)))) (fun k_42 => (letJ (fun (work_45 : Int) => (letJ (fun (hands_64 : Int) => (letJ (fun (y_81 : Bool) => (bif y_81 then some (0,7) else (bif (decide (work_45 > 0)) then ((nzI hands_64).bind fun u_88 => (k_42 (if (IntKind.i64.wrap (Int.tdiv (IntKind.i64.wrap ((IntKind.i64.wrap (work_45 + hands_64)) - 1)) hands_64)) > bound_35 then (IntKind.i64.wrap (Int.tdiv (IntKind.i64.wrap ((IntKind.i64.wrap (work_45 + hands_64)) - 1)) hands_64)) else bound_35))) else (k_42 bound_35)))) (fun k_82 => (bif (decide (work_45 > 0)) then (k_82 (hands_64 == 0)) else (k_82 false))))) (fun k_65 => (loop2 (fun rec_70 (hands_68 : Int) (i_69 : Int) => (bif (decide (i_69 < ((s_1.Workers.length : Nat) : Int))) then (letJ (fun (hands_74 : Int) => (rec_70 hands_74 (IntKind.i64.wrap (i_69 + 1)))) (fun k_75 => ((getI s_1.Workers i_69).bind fun x_78 => ((nU N x_78 set_36).bind fun r_79 => (bif r_79 then (k_75 (IntKind.i64.wrap (hands_68 + 1))) else (k_75 hands_68)))))) else (k_65 hands_68))) N 0 0)))) (fun k_46 => (loop2 (fun rec_51 (work_49 : Int) (i_50 : Int) => (bif (decide (i_50 < ((s_1.Jobs.length : Nat) : Int))) then (letJ (fun (work_55 : Int) => (rec_51 work_55 (IntKind.i64.wrap (i_50 + 1)))) (fun k_56 => ((getI s_1.Jobs i_50).bind fun x_59 => ((nnI (IntKind.i64.wrap (x_59.Skill - 1))).bind fun u_60 => ((some (IntKind.i64.wrap (((BitVec.ofInt (IntKind.bits .i64) (Int.fdiv set_36 ((2 : Int) ^ (min (Int.toNat (IntKind.i64.wrap (x_59.Skill - 1))) (IntKind.bits .i64)))) &&& BitVec.ofInt (IntKind.bits .i64) 1).toNat : Nat) : Int))).bind fun n_61 => (bif (n_61 == 1) then ((getI s_1.Jobs i_50).bind fun x_63 => (k_56 (IntKind.i64.wrap (work_49 + x_63.Days)))) else (k_56 work_49))))))) else (k_46 work_49))) N 0 0))))) else (k_32 bound_35))) N bound_4 1)))) (fun k_5 => (loop2 (fun rec_10 (bound_8 : Int) (f_9 : Int) => (bif (decide (f_9 < 7)) then (letJ (fun (n_14 : Int) => (rec_10 (if n_14 > bound_8 then n_14 else bound_8) (IntKind.i64.wrap (f_9 + 1)))) (fun k_15 => (loop2 (fun rec_20 (n_18 : Int) (i_19 : Int) => (bif (decide (i_19 < ((s_1.Jobs.length : Nat) : Int))) then (letJ (fun (n_24 : Int) => (rec_20 n_24 (IntKind.i64.wrap (i_19 + 1)))) (fun k_25 => ((getI s_1.Jobs i_19).bind fun x_28 => (bif (x_28.Float == f_9) then ((getI s_1.Jobs i_19).bind fun x_30 => (k_25 (IntKind.i64.wrap (n_18 + x_30.Days)))) else (k_25 n_18))))) else (k_15 n_18))) N 0 0))) else (k_5 bound_8))) N 0 0)))))
def nO (r : Int × Int) : AV:=.tup [i6 r.1,i6 r.2]
attribute [local simp] nO
theorem aCN (s_1 : aH) : [(aC s_1)].mapM (ren []) = some [(aC s_1)]:=by simp
theorem aCD (r : Int × Int) (n n2 m : Nat) : back n n2 m (nO r) = some (nO r):=by simp
theorem aCj (N : Nat) (s_1 : aH) (r : Int × Int) (h : lK N s_1 = some r) : Does Tryz.prog 13 [(aC s_1)] [] fun v c => v = nO r ∧ c = []:=by
 unfold lK at h
 refine Does.ofL comp13 _ _ rfl rfl ?_
 refine Ex.seq (rg 3 [1] (mkS 112 [(1,.ptr 0 0)]) ⟨[(aB s_1)],[]⟩ ?_)
 refine Ex.seq (Ex.seq ?_)
 obtain ⟨r_2,hr_2,h⟩:=bE h
 refine Ex.reg (rn 1 [1,14] (mkS 112 [(1,.ptr 0 0),(14,(aC s_1))]) ⟨[(aB s_1)],[]⟩ ?_)
 refine ExO.callL [] [(aC s_1)] rfl rfl (wW s_1) rfl rfl (fP N s_1 r_2 hr_2) (fS _ _ _ _) rfl ?_
 refine rn 1 [1,4] (mkS 112 [(1,.ptr 0 0),(4,i6 r_2)]) ⟨[(aB s_1)],[]⟩ ?_
 refine ExO.nil ?_
 refine Ex.seq (rg 2 [1,4,17] (mkS 112 [(1,.ptr 0 0),(4,i6 r_2),(17,.bool (r_2 != 0))]) ⟨[(aB s_1)],[]⟩ ?_)
 rcases aY h with ⟨hc_3,h⟩ | ⟨hc_3,h⟩
 ·refine Ex.condT _ rfl hc_3 ?_
  refine Ex.seq (rg 3 [2,3] (mkS 112 [(2,i6 0),(3,i6 r_2)]) ⟨[(aB s_1)],[]⟩ ?_)
  refine Ex.ret ?_
  obtain rfl:=sJ h
  exact rt (.tup [i6 0,i6 r_2])
 ·refine Ex.condF _ rfl hc_3 ?_
  refine Ex.skip ?_
  refine Ex.seq (rg 1 [1,5] (mkS 112 [(1,.ptr 0 0),(5,i6 0)]) ⟨[(aB s_1)],[]⟩ ?_)
  refine Ex.seq (Ex.seq ?_)
  refine rg 1 [1,5,6] (mkS 112 [(1,.ptr 0 0),(5,i6 0),(6,i6 0)]) ⟨[(aB s_1)],[]⟩ ?_
  obtain ⟨K_6,hK_7,h⟩:=letE h
  refine Ex.blockJ (fun a S => ∃ (bound_4 : Int),K_6 bound_4 = some r ∧ a = mkS 112 [(1,.ptr 0 0),(5,i6 bound_4)] ∧ S = ⟨[(aB s_1)],[]⟩) ?_ ?_
  ·obtain ⟨B_11,hB_12,h⟩:=gP h
   refine Ex.loopF (fun k a S => ∃ (bound_8 : Int),∃ (f_9 : Int),loop2 B_11 k bound_8 f_9 = some r ∧ a = mkS 112 [(1,.ptr 0 0),(5,i6 bound_8),(6,i6 f_9)] ∧ S = ⟨[(aB s_1)],[]⟩) N ⟨_,_,aM.refl _ _ _,0,0,h,rfl,rfl⟩ ?_
   rintro k a S ⟨bound_8,f_9,h,rfl,rfl⟩
   cases k with
   | zero => exact (gN h).elim
   | succ k =>
    replace h:=gO h hB_12
    refine Ex.seq (Ex.seq ?_)
    refine rg 2 [1,5,6,20] (mkS 112 [(1,.ptr 0 0),(5,i6 bound_8),(6,i6 f_9),(20,.bool (decide (f_9 < 7)))]) ⟨[(aB s_1)],[]⟩ ?_
    rcases aY h with ⟨hc_13,h⟩ | ⟨hc_13,h⟩
    ·refine Ex.condT _ rfl hc_13 ?_
     refine Ex.skip ?_
     refine Ex.seq ?_
     refine Ex.blockK ?_
     refine Ex.seq (rg 1 [1,5,6,7] (mkS 112 [(1,.ptr 0 0),(5,i6 bound_8),(6,i6 f_9),(7,i6 0)]) ⟨[(aB s_1)],[]⟩ ?_)
     refine Ex.seq (Ex.seq ?_)
     refine rg 1 [1,5,6,7,8] (mkS 112 [(1,.ptr 0 0),(5,i6 bound_8),(6,i6 f_9),(7,i6 0),(8,i6 0)]) ⟨[(aB s_1)],[]⟩ ?_
     obtain ⟨K_16,hK_17,h⟩:=letE h
     refine Ex.blockJ (fun a S => ∃ (n_14 : Int),K_16 n_14 = some r ∧ a = mkS 112 [(1,.ptr 0 0),(5,i6 bound_8),(6,i6 f_9),(7,i6 n_14)] ∧ S = ⟨[(aB s_1)],[]⟩) ?_ ?_
     ·obtain ⟨B_21,hB_22,h⟩:=gP h
      refine Ex.loopF (fun k a S => ∃ (n_18 : Int),∃ (i_19 : Int),loop2 B_21 k n_18 i_19 = some r ∧ a = mkS 112 [(1,.ptr 0 0),(5,i6 bound_8),(6,i6 f_9),(7,i6 n_18),(8,i6 i_19)] ∧ S = ⟨[(aB s_1)],[]⟩) N ⟨_,_,aM.refl _ _ _,0,0,h,rfl,rfl⟩ ?_
      rintro k a S ⟨n_18,i_19,h,rfl,rfl⟩
      cases k with
      | zero => exact (gN h).elim
      | succ k =>
       replace h:=gO h hB_22
       refine Ex.seq (Ex.seq ?_)
       refine regH 5 [(3,.eq (i6 ((s_1.Jobs.length : Nat) : Int)))] [1,5,6,7,8,27] [AV.int .i64 (((s_1.Jobs.map aI).length : Nat) : Int) = AV.int .i64 ((s_1.Jobs.length : Nat) : Int)] (mkS 112 [(1,.ptr 0 0),(5,i6 bound_8),(6,i6 f_9),(7,i6 n_18),(8,i6 i_19),(27,.bool (decide (i_19 < ((s_1.Jobs.length : Nat) : Int))))]) (⟨[(aB s_1)],[]⟩) (by kernel_rfl) ⟨lenM _ _,trivial⟩ rfl ?_
       rcases aY h with ⟨hc_23,h⟩ | ⟨hc_23,h⟩
       ·refine Ex.condT _ rfl hc_23 ?_
        refine Ex.skip ?_
        refine Ex.seq ?_
        obtain ⟨K_26,hK_27,h⟩:=letE h
        refine Ex.blockJ (fun a S => ∃ (n_24 : Int),K_26 n_24 = some r ∧ a = mkS 112 [(1,.ptr 0 0),(5,i6 bound_8),(6,i6 f_9),(7,i6 n_24),(8,i6 i_19)] ∧ S = ⟨[(aB s_1)],[]⟩) ?_ ?_
        ·refine Ex.seq ?_
         obtain ⟨x_28,hx_28,h⟩:=bE h
         refine regH 8 [(3,.rop (aW x_28))] [1,5,6,7,8,37] [LGet (s_1.Jobs.map aI) i_19 3 (aW x_28)] (mkS 112 [(1,.ptr 0 0),(5,i6 bound_8),(6,i6 f_9),(7,i6 n_18),(8,i6 i_19),(37,.bool (x_28.Float == f_9))]) (⟨[(aB s_1)],[]⟩) (by kernel_rfl) ⟨LGet.of hx_28 rfl,trivial⟩ rfl ?_
         rcases aY h with ⟨hc_29,h⟩ | ⟨hc_29,h⟩
         ·refine Ex.condT _ rfl hc_29 ?_
          obtain ⟨x_30,hx_30,h⟩:=bE h
          refine regH 9 [(4,.rop (aW x_30))] [1,5,6,7,8] [LGet (s_1.Jobs.map aI) i_19 3 (aW x_30)] (mkS 112 [(1,.ptr 0 0),(5,i6 bound_8),(6,i6 f_9),(7,i6 (IntKind.i64.wrap (n_18 + x_30.Days))),(8,i6 i_19)]) (⟨[(aB s_1)],[]⟩) (by kernel_rfl) ⟨LGet.of hx_30 rfl,trivial⟩ rfl ?_
          (try simp only [reduceCtorEq,AEx.ex.injEq,Nat.reduceEqDiff,if_true,if_false])
          exact ⟨_,_,aM.refl _ _ _,(IntKind.i64.wrap (n_18 + x_30.Days)),h,rfl,rfl⟩
         ·refine Ex.condF _ rfl hc_29 ?_
          refine Ex.skip ?_
          (try simp only [reduceCtorEq,AEx.ex.injEq,Nat.reduceEqDiff,if_true,if_false])
          exact ⟨_,_,bQ [1,5,6,7,8],n_18,h,rfl,rfl⟩
        ·rintro a S ⟨n_24,h,rfl,rfl⟩
         subst hK_27
         refine rg 3 [1,5,6,7,8] (mkS 112 [(1,.ptr 0 0),(5,i6 bound_8),(6,i6 f_9),(7,i6 n_24),(8,i6 (IntKind.i64.wrap (i_19 + 1)))]) ⟨[(aB s_1)],[]⟩ ?_
         dsimp only
         exact ⟨_,_,aM.refl _ _ _,k,Nat.lt_succ_self k,n_24,(IntKind.i64.wrap (i_19 + 1)),h,rfl,rfl⟩
       ·refine Ex.condF _ rfl hc_23 ?_
        refine Ex.exit ?_
        (try simp only [reduceCtorEq,AEx.ex.injEq,Nat.reduceEqDiff,if_true,if_false])
        exact ⟨_,_,bQ [1,5,6,7],n_18,h,rfl,rfl⟩
     ·rintro a S ⟨n_14,h,rfl,rfl⟩
      subst hK_17
      refine rg 4 [1,5,6] (mkS 112 [(1,.ptr 0 0),(5,i6 (if n_14 > bound_8 then n_14 else bound_8)),(6,i6 f_9)]) ⟨[(aB s_1)],[]⟩ ?_
      refine rg 3 [1,5,6] (mkS 112 [(1,.ptr 0 0),(5,i6 (if n_14 > bound_8 then n_14 else bound_8)),(6,i6 (IntKind.i64.wrap (f_9 + 1)))]) ⟨[(aB s_1)],[]⟩ ?_
      dsimp only
      exact ⟨_,_,aM.refl _ _ _,k,Nat.lt_succ_self k,(if n_14 > bound_8 then n_14 else bound_8),(IntKind.i64.wrap (f_9 + 1)),h,rfl,rfl⟩
    ·refine Ex.condF _ rfl hc_13 ?_
     refine Ex.exit ?_
     (try simp only [reduceCtorEq,AEx.ex.injEq,Nat.reduceEqDiff,if_true,if_false])
     exact ⟨_,_,bQ [1,5],bound_8,h,rfl,rfl⟩
  ·rintro a S ⟨bound_4,h,rfl,rfl⟩
   subst hK_7
   refine Ex.seq (Ex.seq ?_)
   refine rg 1 [1,5,9] (mkS 112 [(1,.ptr 0 0),(5,i6 bound_4),(9,i6 1)]) ⟨[(aB s_1)],[]⟩ ?_
   obtain ⟨K_33,hK_34,h⟩:=letE h
   refine Ex.blockJ (fun a S => ∃ (bound_31 : Int),K_33 bound_31 = some r ∧ a = mkS 112 [(5,i6 bound_31)] ∧ S = ⟨[],[]⟩) ?_ ?_
   ·obtain ⟨B_38,hB_39,h⟩:=gP h
    refine Ex.loopF (fun k a S => ∃ (bound_35 : Int),∃ (set_36 : Int),loop2 B_38 k bound_35 set_36 = some r ∧ a = mkS 112 [(1,.ptr 0 0),(5,i6 bound_35),(9,i6 set_36)] ∧ S = ⟨[(aB s_1)],[]⟩) N ⟨_,_,aM.refl _ _ _,bound_4,1,h,rfl,rfl⟩ ?_
    rintro k a S ⟨bound_35,set_36,h,rfl,rfl⟩
    cases k with
    | zero => exact (gN h).elim
    | succ k =>
     replace h:=gO h hB_39
     refine Ex.seq (Ex.seq ?_)
     refine rg 2 [1,5,9,50] (mkS 112 [(1,.ptr 0 0),(5,i6 bound_35),(9,i6 set_36),(50,.bool (decide (set_36 < 8)))]) ⟨[(aB s_1)],[]⟩ ?_
     rcases aY h with ⟨hc_40,h⟩ | ⟨hc_40,h⟩
     ·refine Ex.condT _ rfl hc_40 ?_
      refine Ex.skip ?_
      refine Ex.seq ?_
      obtain ⟨K_43,hK_44,h⟩:=letE h
      refine Ex.blockJ (fun a S => ∃ (bound_41 : Int),K_43 bound_41 = some r ∧ a = mkS 112 [(1,.ptr 0 0),(5,i6 bound_41),(9,i6 set_36)] ∧ S = ⟨[(aB s_1)],[]⟩) ?_ ?_
      ·refine Ex.seq (rg 2 [1,5,9,10,11] (mkS 112 [(1,.ptr 0 0),(5,i6 bound_35),(9,i6 set_36),(10,i6 0),(11,i6 0)]) ⟨[(aB s_1)],[]⟩ ?_)
       refine Ex.seq (Ex.seq ?_)
       refine rg 1 [1,5,9,10,11,12] (mkS 112 [(1,.ptr 0 0),(5,i6 bound_35),(9,i6 set_36),(10,i6 0),(11,i6 0),(12,i6 0)]) ⟨[(aB s_1)],[]⟩ ?_
       obtain ⟨K_47,hK_48,h⟩:=letE h
       refine Ex.blockJ (fun a S => ∃ (work_45 : Int),K_47 work_45 = some r ∧ a = mkS 112 [(1,.ptr 0 0),(5,i6 bound_35),(9,i6 set_36),(10,i6 work_45),(11,i6 0)] ∧ S = ⟨[(aB s_1)],[]⟩) ?_ ?_
       ·obtain ⟨B_52,hB_53,h⟩:=gP h
        refine Ex.loopF (fun k a S => ∃ (work_49 : Int),∃ (i_50 : Int),loop2 B_52 k work_49 i_50 = some r ∧ a = mkS 112 [(1,.ptr 0 0),(5,i6 bound_35),(9,i6 set_36),(10,i6 work_49),(11,i6 0),(12,i6 i_50)] ∧ S = ⟨[(aB s_1)],[]⟩) N ⟨_,_,aM.refl _ _ _,0,0,h,rfl,rfl⟩ ?_
        rintro k a S ⟨work_49,i_50,h,rfl,rfl⟩
        cases k with
        | zero => exact (gN h).elim
        | succ k =>
         replace h:=gO h hB_53
         refine Ex.seq (Ex.seq ?_)
         refine regH 5 [(3,.eq (i6 ((s_1.Jobs.length : Nat) : Int)))] [1,5,9,10,11,12,57] [AV.int .i64 (((s_1.Jobs.map aI).length : Nat) : Int) = AV.int .i64 ((s_1.Jobs.length : Nat) : Int)] (mkS 112 [(1,.ptr 0 0),(5,i6 bound_35),(9,i6 set_36),(10,i6 work_49),(11,i6 0),(12,i6 i_50),(57,.bool (decide (i_50 < ((s_1.Jobs.length : Nat) : Int))))]) (⟨[(aB s_1)],[]⟩) (by kernel_rfl) ⟨lenM _ _,trivial⟩ rfl ?_
         rcases aY h with ⟨hc_54,h⟩ | ⟨hc_54,h⟩
         ·refine Ex.condT _ rfl hc_54 ?_
          refine Ex.skip ?_
          refine Ex.seq ?_
          obtain ⟨K_57,hK_58,h⟩:=letE h
          refine Ex.blockJ (fun a S => ∃ (work_55 : Int),K_57 work_55 = some r ∧ a = mkS 112 [(1,.ptr 0 0),(5,i6 bound_35),(9,i6 set_36),(10,i6 work_55),(11,i6 0),(12,i6 i_50)] ∧ S = ⟨[(aB s_1)],[]⟩) ?_ ?_
          ·refine Ex.seq ?_
           obtain ⟨x_59,hx_59,h⟩:=bE h
           obtain ⟨u_60,hu_60,h⟩:=bE h
           obtain ⟨n_61,hn_61,h⟩:=bE h
           refine regH 11 [(4,.rop (aW x_59)),(8,.bin (i6 (Int.fdiv set_36 ((2 : Int) ^ (min (Int.toNat (IntKind.i64.wrap (x_59.Skill - 1))) (IntKind.bits .i64)))))),(9,.eq (i6 n_61))] [1,5,9,10,11,12,70] [LGet (s_1.Jobs.map aI) i_50 3 (aW x_59),binA .shr (i6 set_36) (i6 (IntKind.i64.wrap (x_59.Skill - 1))) = some (i6 (Int.fdiv set_36 ((2 : Int) ^ (min (Int.toNat (IntKind.i64.wrap (x_59.Skill - 1))) (IntKind.bits .i64))))),AV.int .i64 (IntKind.i64.wrap (((BitVec.ofInt (IntKind.bits .i64) (Int.fdiv set_36 ((2 : Int) ^ (min (Int.toNat (IntKind.i64.wrap (x_59.Skill - 1))) (IntKind.bits .i64)))) &&& BitVec.ofInt (IntKind.bits .i64) 1).toNat : Nat) : Int)) = AV.int .i64 n_61] (mkS 112 [(1,.ptr 0 0),(5,i6 bound_35),(9,i6 set_36),(10,i6 work_49),(11,i6 0),(12,i6 i_50),(70,.bool (n_61 == 1))]) (⟨[(aB s_1)],[]⟩) (by kernel_rfl) ⟨LGet.of hx_59 rfl,aFB hu_60,congrArg (AV.int .i64) (Option.some.inj hn_61),trivial⟩ rfl ?_
           rcases aY h with ⟨hc_62,h⟩ | ⟨hc_62,h⟩
           ·refine Ex.condT _ rfl hc_62 ?_
            obtain ⟨x_63,hx_63,h⟩:=bE h
            refine regH 9 [(4,.rop (aW x_63))] [1,5,9,10,11,12] [LGet (s_1.Jobs.map aI) i_50 3 (aW x_63)] (mkS 112 [(1,.ptr 0 0),(5,i6 bound_35),(9,i6 set_36),(10,i6 (IntKind.i64.wrap (work_49 + x_63.Days))),(11,i6 0),(12,i6 i_50)]) (⟨[(aB s_1)],[]⟩) (by kernel_rfl) ⟨LGet.of hx_63 rfl,trivial⟩ rfl ?_
            (try simp only [reduceCtorEq,AEx.ex.injEq,Nat.reduceEqDiff,if_true,if_false])
            exact ⟨_,_,aM.refl _ _ _,(IntKind.i64.wrap (work_49 + x_63.Days)),h,rfl,rfl⟩
           ·refine Ex.condF _ rfl hc_62 ?_
            refine Ex.skip ?_
            (try simp only [reduceCtorEq,AEx.ex.injEq,Nat.reduceEqDiff,if_true,if_false])
            exact ⟨_,_,bQ [1,5,9,10,11,12],work_49,h,rfl,rfl⟩
          ·rintro a S ⟨work_55,h,rfl,rfl⟩
           subst hK_58
           refine rg 3 [1,5,9,10,11,12] (mkS 112 [(1,.ptr 0 0),(5,i6 bound_35),(9,i6 set_36),(10,i6 work_55),(11,i6 0),(12,i6 (IntKind.i64.wrap (i_50 + 1)))]) ⟨[(aB s_1)],[]⟩ ?_
           dsimp only
           exact ⟨_,_,aM.refl _ _ _,k,Nat.lt_succ_self k,work_55,(IntKind.i64.wrap (i_50 + 1)),h,rfl,rfl⟩
         ·refine Ex.condF _ rfl hc_54 ?_
          refine Ex.exit ?_
          (try simp only [reduceCtorEq,AEx.ex.injEq,Nat.reduceEqDiff,if_true,if_false])
          exact ⟨_,_,bQ [1,5,9,10,11],work_49,h,rfl,rfl⟩
       ·rintro a S ⟨work_45,h,rfl,rfl⟩
        subst hK_48
        refine Ex.seq (Ex.seq ?_)
        refine rg 1 [1,5,9,10,11,13] (mkS 112 [(1,.ptr 0 0),(5,i6 bound_35),(9,i6 set_36),(10,i6 work_45),(11,i6 0),(13,i6 0)]) ⟨[(aB s_1)],[]⟩ ?_
        obtain ⟨K_66,hK_67,h⟩:=letE h
        refine Ex.blockJ (fun a S => ∃ (hands_64 : Int),K_66 hands_64 = some r ∧ a = mkS 112 [(1,.ptr 0 0),(5,i6 bound_35),(9,i6 set_36),(10,i6 work_45),(11,i6 hands_64)] ∧ S = ⟨[(aB s_1)],[]⟩) ?_ ?_
        ·obtain ⟨B_71,hB_72,h⟩:=gP h
         refine Ex.loopF (fun k a S => ∃ (hands_68 : Int),∃ (i_69 : Int),loop2 B_71 k hands_68 i_69 = some r ∧ a = mkS 112 [(1,.ptr 0 0),(5,i6 bound_35),(9,i6 set_36),(10,i6 work_45),(11,i6 hands_68),(13,i6 i_69)] ∧ S = ⟨[(aB s_1)],[]⟩) N ⟨_,_,aM.refl _ _ _,0,0,h,rfl,rfl⟩ ?_
         rintro k a S ⟨hands_68,i_69,h,rfl,rfl⟩
         cases k with
         | zero => exact (gN h).elim
         | succ k =>
          replace h:=gO h hB_72
          refine Ex.seq (Ex.seq ?_)
          refine regH 5 [(3,.eq (i6 ((s_1.Workers.length : Nat) : Int)))] [1,5,9,10,11,13,83] [AV.int .i64 (((s_1.Workers.map aE).length : Nat) : Int) = AV.int .i64 ((s_1.Workers.length : Nat) : Int)] (mkS 112 [(1,.ptr 0 0),(5,i6 bound_35),(9,i6 set_36),(10,i6 work_45),(11,i6 hands_68),(13,i6 i_69),(83,.bool (decide (i_69 < ((s_1.Workers.length : Nat) : Int))))]) (⟨[(aB s_1)],[]⟩) (by kernel_rfl) ⟨lenM _ _,trivial⟩ rfl ?_
          rcases aY h with ⟨hc_73,h⟩ | ⟨hc_73,h⟩
          ·refine Ex.condT _ rfl hc_73 ?_
           refine Ex.skip ?_
           refine Ex.seq ?_
           obtain ⟨K_76,hK_77,h⟩:=letE h
           refine Ex.blockJ (fun a S => ∃ (hands_74 : Int),K_76 hands_74 = some r ∧ a = mkS 112 [(1,.ptr 0 0),(5,i6 bound_35),(9,i6 set_36),(10,i6 work_45),(11,i6 hands_74),(13,i6 i_69)] ∧ S = ⟨[(aB s_1)],[]⟩) ?_ ?_
           ·refine Ex.seq ?_
            obtain ⟨x_78,hx_78,h⟩:=bE h
            obtain ⟨r_79,hr_79,h⟩:=bE h
            refine Ex.reg ?_
            refine runH 6 [(3,.rop (aU x_78))] [1,5,9,10,11,13,90,91] [LGet (s_1.Workers.map aE) i_69 3 (aU x_78)] (mkS 112 [(1,.ptr 0 0),(5,i6 bound_35),(9,i6 set_36),(10,i6 work_45),(11,i6 hands_68),(13,i6 i_69),(90,(aE x_78)),(91,i6 set_36)]) (⟨[(aB s_1)],[]⟩) (by kernel_rfl) ⟨LGet.of hx_78 rfl,trivial⟩ ?_
            refine ExO.callL [] [(aE x_78),i6 set_36] rfl rfl (aCM x_78 set_36) rfl rfl (aCh N x_78 set_36 r_79 hr_79) (aCB _ _ _ _) rfl ?_
            refine rn 0 [1,5,9,10,11,13,92] (mkS 112 [(1,.ptr 0 0),(5,i6 bound_35),(9,i6 set_36),(10,i6 work_45),(11,i6 hands_68),(13,i6 i_69),(92,.bool r_79)]) ⟨[(aB s_1)],[]⟩ ?_
            refine ExO.nil ?_
            rcases aY h with ⟨hc_80,h⟩ | ⟨hc_80,h⟩
            ·refine Ex.condT _ rfl hc_80 ?_
             refine rg 3 [1,5,9,10,11,13] (mkS 112 [(1,.ptr 0 0),(5,i6 bound_35),(9,i6 set_36),(10,i6 work_45),(11,i6 (IntKind.i64.wrap (hands_68 + 1))),(13,i6 i_69)]) ⟨[(aB s_1)],[]⟩ ?_
             (try simp only [reduceCtorEq,AEx.ex.injEq,Nat.reduceEqDiff,if_true,if_false])
             exact ⟨_,_,aM.refl _ _ _,(IntKind.i64.wrap (hands_68 + 1)),h,rfl,rfl⟩
            ·refine Ex.condF _ rfl hc_80 ?_
             refine Ex.skip ?_
             (try simp only [reduceCtorEq,AEx.ex.injEq,Nat.reduceEqDiff,if_true,if_false])
             exact ⟨_,_,bQ [1,5,9,10,11,13],hands_68,h,rfl,rfl⟩
           ·rintro a S ⟨hands_74,h,rfl,rfl⟩
            subst hK_77
            refine rg 3 [1,5,9,10,11,13] (mkS 112 [(1,.ptr 0 0),(5,i6 bound_35),(9,i6 set_36),(10,i6 work_45),(11,i6 hands_74),(13,i6 (IntKind.i64.wrap (i_69 + 1)))]) ⟨[(aB s_1)],[]⟩ ?_
            dsimp only
            exact ⟨_,_,aM.refl _ _ _,k,Nat.lt_succ_self k,hands_74,(IntKind.i64.wrap (i_69 + 1)),h,rfl,rfl⟩
          ·refine Ex.condF _ rfl hc_73 ?_
           refine Ex.exit ?_
           (try simp only [reduceCtorEq,AEx.ex.injEq,Nat.reduceEqDiff,if_true,if_false])
           exact ⟨_,_,bQ [1,5,9,10,11],hands_68,h,rfl,rfl⟩
        ·rintro a S ⟨hands_64,h,rfl,rfl⟩
         subst hK_67
         refine Ex.seq ?_
         obtain ⟨K_83,hK_84,h⟩:=letE h
         refine Ex.seqJ (fun a S => ∃ (y_81 : Bool),K_83 y_81 = some r ∧ a = mkS 112 [(1,.ptr 0 0),(5,i6 bound_35),(9,i6 set_36),(10,i6 work_45),(11,i6 hands_64),(100,.bool y_81)] ∧ S = ⟨[(aB s_1)],[]⟩) ?_ ?_
         ·rcases aY h with ⟨hc_85,h⟩ | ⟨hc_85,h⟩
          ·refine regH 6 [(2, .eq (.bool true))] [1, 5, 9, 10, 11, 100] [AV.bool (decide (work_45 > 0)) = AV.bool true] (mkS 112 [(1, .ptr 0 0), (5, i6 bound_35), (9, i6 set_36), (10, i6 work_45), (11, i6 hands_64), (100, .bool (hands_64 == 0))]) (⟨[(aB s_1)], []⟩) (by kernel_rfl) ⟨congrArg AV.bool hc_85, trivial⟩ rfl ?_
           (try simp only [reduceCtorEq,AEx.ex.injEq,Nat.reduceEqDiff,if_true,if_false])
           exact ⟨_,_,aM.refl _ _ _,(hands_64 == 0),h,rfl,rfl⟩
          ·refine regH 6 [(2, .eq (.bool false))] [1, 5, 9, 10, 11, 100] [AV.bool (decide (work_45 > 0)) = AV.bool false] (mkS 112 [(1, .ptr 0 0), (5, i6 bound_35), (9, i6 set_36), (10, i6 work_45), (11, i6 hands_64), (100, .bool false)]) (⟨[(aB s_1)], []⟩) (by kernel_rfl) ⟨congrArg AV.bool hc_85, trivial⟩ rfl ?_
           (try simp only [reduceCtorEq,AEx.ex.injEq,Nat.reduceEqDiff,if_true,if_false])
           exact ⟨_,_,aM.refl _ _ _,false,h,rfl,rfl⟩
         ·rintro a S ⟨y_81,h,rfl,rfl⟩
          subst hK_84
          rcases aY h with ⟨hc_86,h⟩ | ⟨hc_86,h⟩
          ·refine Ex.condT _ rfl hc_86 ?_
           refine Ex.seq (rg 2 [2,3] (mkS 112 [(2,i6 0),(3,i6 7)]) ⟨[(aB s_1)],[]⟩ ?_)
           refine Ex.ret ?_
           obtain rfl:=sJ h
           exact rt (.tup [i6 0,i6 7])
          ·refine Ex.condF _ rfl hc_86 ?_
           refine Ex.skip ?_
           refine Ex.seq (rg 2 [1,5,9,10,11,102] (mkS 112 [(1,.ptr 0 0),(5,i6 bound_35),(9,i6 set_36),(10,i6 work_45),(11,i6 hands_64),(102,.bool (decide (work_45 > 0)))]) ⟨[(aB s_1)],[]⟩ ?_)
           rcases aY h with ⟨hc_87,h⟩ | ⟨hc_87,h⟩
           ·refine Ex.condT _ rfl hc_87 ?_
            obtain ⟨u_88,hu_88,h⟩:=bE h
            refine regH 9 [(6,.bin (i6 (IntKind.i64.wrap (Int.tdiv (IntKind.i64.wrap ((IntKind.i64.wrap (work_45 + hands_64)) - 1)) hands_64))))] [1,5,9] [binA .quo (i6 (IntKind.i64.wrap ((IntKind.i64.wrap (work_45 + hands_64)) - 1))) (i6 hands_64) = some (i6 (IntKind.i64.wrap (Int.tdiv (IntKind.i64.wrap ((IntKind.i64.wrap (work_45 + hands_64)) - 1)) hands_64)))] (mkS 112 [(1,.ptr 0 0),(5,i6 (if (IntKind.i64.wrap (Int.tdiv (IntKind.i64.wrap ((IntKind.i64.wrap (work_45 + hands_64)) - 1)) hands_64)) > bound_35 then (IntKind.i64.wrap (Int.tdiv (IntKind.i64.wrap ((IntKind.i64.wrap (work_45 + hands_64)) - 1)) hands_64)) else bound_35)),(9,i6 set_36)]) (⟨[(aB s_1)],[]⟩) (by kernel_rfl) ⟨binQ hu_88,trivial⟩ rfl ?_
            (try simp only [reduceCtorEq,AEx.ex.injEq,Nat.reduceEqDiff,if_true,if_false])
            exact ⟨_,_,aM.refl _ _ _,(if (IntKind.i64.wrap (Int.tdiv (IntKind.i64.wrap ((IntKind.i64.wrap (work_45 + hands_64)) - 1)) hands_64)) > bound_35 then (IntKind.i64.wrap (Int.tdiv (IntKind.i64.wrap ((IntKind.i64.wrap (work_45 + hands_64)) - 1)) hands_64)) else bound_35),h,rfl,rfl⟩
           ·refine Ex.condF _ rfl hc_87 ?_
            refine Ex.skip ?_
            (try simp only [reduceCtorEq,AEx.ex.injEq,Nat.reduceEqDiff,if_true,if_false])
            exact ⟨_,_,bQ [1,5,9],bound_35,h,rfl,rfl⟩
      ·rintro a S ⟨bound_41,h,rfl,rfl⟩
       subst hK_44
       refine rg 3 [1,5,9] (mkS 112 [(1,.ptr 0 0),(5,i6 bound_41),(9,i6 (IntKind.i64.wrap (set_36 + 1)))]) ⟨[(aB s_1)],[]⟩ ?_
       dsimp only
       exact ⟨_,_,aM.refl _ _ _,k,Nat.lt_succ_self k,bound_41,(IntKind.i64.wrap (set_36 + 1)),h,rfl,rfl⟩
     ·refine Ex.condF _ rfl hc_40 ?_
      refine Ex.exit ?_
      (try simp only [reduceCtorEq,AEx.ex.injEq,Nat.reduceEqDiff,if_true,if_false])
      exact ⟨_,_,bM (m:=112) 0 [] [(5,i6 bound_35)] [] [] (by simp [bD]) (by simp) ⟨rfl,trivial⟩ (by simp) rfl (by decide),bound_35,h,rfl,rfl⟩
   ·rintro a S ⟨bound_31,h,rfl,rfl⟩
    subst hK_34
    refine Ex.seq (rg 3 [2,3] (mkS 112 [(2,i6 bound_31),(3,i6 0)]) ⟨[],[]⟩ ?_)
    refine Ex.ret ?_
    obtain rfl:=sJ h
    exact rt (.tup [i6 bound_31,i6 0])
def lM (N : Nat) (a_1 : (List bH)) (b_2 : (List bH)) : Option (Bool):=(letJ (fun (same_3 : Bool) => some same_3) (fun k_4 => (loop2 (fun rec_9 (same_7 : Bool) (i_8 : Int) => (letJ (fun (y_12 : Bool) => (bif y_12 then ((getI a_1 i_8).bind fun x_18 => ((getI b_2 i_8).bind fun x_19 => (rec_9 ((x_18.Float == x_19.Float) && ((x_18.Skill == x_19.Skill) && ((x_18.Days == x_19.Days) && true))) (IntKind.i64.wrap (i_8 + 1))))) else (k_4 same_7))) (fun k_13 => (bif same_7 then (k_13 (decide (i_8 < ((a_1.length : Nat) : Int)))) else (k_13 false))))) N (((a_1.length : Nat) : Int) == ((b_2.length : Nat) : Int)) 0)))
def nR (r : Bool) : AV:=.bool r
attribute [local simp] nR
theorem aCO (a_1 : (List bH)) (b_2 : (List bH)) : [.sl (a_1.map aI) none,.sl (b_2.map aI) none].mapM (ren []) = some [.sl (a_1.map aI) none,.sl (b_2.map aI) none]:=by simp
theorem aCF (r : Bool) (n n2 m : Nat) : back n n2 m (nR r) = some (nR r):=by simp
theorem aCl (N : Nat) (a_1 : (List bH)) (b_2 : (List bH)) (r : Bool) (h : lM N a_1 b_2 = some r) : Does Tryz.prog 41 [.sl (a_1.map aI) none,.sl (b_2.map aI) none] [] fun v c => v = nR r ∧ c = []:=by
 unfold lM at h
 refine Does.ofL comp41 _ _ rfl rfl ?_
 refine Ex.seq (rg 1 [0,1] (mkS 31 [(0,.sl (a_1.map aI) none),(1,.sl (b_2.map aI) none)]) ⟨[],[]⟩ ?_)
 refine Ex.seq ?_
 refine regH 6 [(1,.eq (i6 ((a_1.length : Nat) : Int))),(3,.eq (i6 ((b_2.length : Nat) : Int)))] [0,1,5] [AV.int .i64 (((a_1.map aI).length : Nat) : Int) = AV.int .i64 ((a_1.length : Nat) : Int),AV.int .i64 (((b_2.map aI).length : Nat) : Int) = AV.int .i64 ((b_2.length : Nat) : Int)] (mkS 31 [(0,.sl (a_1.map aI) none),(1,.sl (b_2.map aI) none),(5,.bool (((a_1.length : Nat) : Int) == ((b_2.length : Nat) : Int)))]) (⟨[],[]⟩) (by kernel_rfl) ⟨lenM _ _,lenM _ _,trivial⟩ rfl ?_
 refine Ex.seq (Ex.seq ?_)
 refine rg 1 [0,1,5,6] (mkS 31 [(0,.sl (a_1.map aI) none),(1,.sl (b_2.map aI) none),(5,.bool (((a_1.length : Nat) : Int) == ((b_2.length : Nat) : Int))),(6,i6 0)]) ⟨[],[]⟩ ?_
 obtain ⟨K_5,hK_6,h⟩:=letE h
 refine Ex.blockJ (fun a S => ∃ (same_3 : Bool),K_5 same_3 = some r ∧ a = mkS 31 [(5,.bool same_3)] ∧ S = ⟨[],[]⟩) ?_ ?_
 ·obtain ⟨B_10,hB_11,h⟩:=gP h
  refine Ex.loopF (fun k a S => ∃ (same_7 : Bool),∃ (i_8 : Int),loop2 B_10 k same_7 i_8 = some r ∧ a = mkS 31 [(0,.sl (a_1.map aI) none),(1,.sl (b_2.map aI) none),(5,.bool same_7),(6,i6 i_8)] ∧ S = ⟨[],[]⟩) N ⟨_,_,aM.refl _ _ _,(((a_1.length : Nat) : Int) == ((b_2.length : Nat) : Int)),0,h,rfl,rfl⟩ ?_
  rintro k a S ⟨same_7,i_8,h,rfl,rfl⟩
  cases k with
  | zero => exact (gN h).elim
  | succ k =>
   replace h:=gO h hB_11
   refine Ex.seq ?_
   obtain ⟨K_14,hK_15,h⟩:=letE h
   refine Ex.seqJ (fun a S => ∃ (y_12 : Bool),K_14 y_12 = some r ∧ a = mkS 31 [(0,.sl (a_1.map aI) none),(1,.sl (b_2.map aI) none),(5,.bool same_7),(6,i6 i_8),(18,.bool y_12)] ∧ S = ⟨[],[]⟩) ?_ ?_
   ·rcases aY h with ⟨hc_16,h⟩ | ⟨hc_16,h⟩
    ·refine regH 7 [(1, .eq (.bool true)), (4, .eq (i6 ((a_1.length : Nat) : Int)))] [0, 1, 5, 6, 18] [AV.bool same_7 = AV.bool true, AV.int .i64 (((a_1.map aI).length : Nat) : Int) = AV.int .i64 ((a_1.length : Nat) : Int)] (mkS 31 [(0, .sl (a_1.map aI) none), (1, .sl (b_2.map aI) none), (5, .bool same_7), (6, i6 i_8), (18, .bool (decide (i_8 < ((a_1.length : Nat) : Int))))]) (⟨[], []⟩) (by kernel_rfl) ⟨congrArg AV.bool hc_16, lenM _ _, trivial⟩ rfl ?_
     (try simp only [reduceCtorEq,AEx.ex.injEq,Nat.reduceEqDiff,if_true,if_false])
     exact ⟨_,_,aM.refl _ _ _,(decide (i_8 < ((a_1.length : Nat) : Int))),h,rfl,rfl⟩
    ·refine regH 7 [(1, .eq (.bool false))] [0, 1, 5, 6, 18] [AV.bool same_7 = AV.bool false] (mkS 31 [(0, .sl (a_1.map aI) none), (1, .sl (b_2.map aI) none), (5, .bool same_7), (6, i6 i_8), (18, .bool false)]) (⟨[], []⟩) (by kernel_rfl) ⟨congrArg AV.bool hc_16, trivial⟩ rfl ?_
     (try simp only [reduceCtorEq,AEx.ex.injEq,Nat.reduceEqDiff,if_true,if_false])
     exact ⟨_,_,aM.refl _ _ _,false,h,rfl,rfl⟩
   ·rintro a S ⟨y_12,h,rfl,rfl⟩
    subst hK_15
    rcases aY h with ⟨hc_17,h⟩ | ⟨hc_17,h⟩
    ·refine Ex.condT _ rfl hc_17 ?_
     refine Ex.skip ?_
     refine Ex.seq ?_
     refine Ex.blockK ?_
     obtain ⟨x_18,hx_18,h⟩:=bE h
     obtain ⟨x_19,hx_19,h⟩:=bE h
     refine Ex.drawE (a1:=mkS 31 [(0,.sl (a_1.map aI) none),(1,.sl (b_2.map aI) none),(5,.bool same_7),(6,i6 i_8),(18,.bool y_12),(21,.sl (a_1.map aI) none),(22,i6 i_8),(23,.rop (aW x_18)),(24,(aI x_18)),(25,.sl (b_2.map aI) none),(26,i6 i_8),(27,.rop (aW x_19)),(28,(aI x_19))]) (cP _) [] [] [] ?_ ?_
     ·refine drS [] 8 [(2, .rop (aW x_18)), (6, .rop (aW x_19))] [LGet (a_1.map aI) i_8 3 (aW x_18), LGet (b_2.map aI) i_8 3 (aW x_19)] (mkS 31 [(0, .sl (a_1.map aI) none), (1, .sl (b_2.map aI) none), (5, .bool same_7), (6, i6 i_8), (18, .bool y_12), (21, .sl (a_1.map aI) none), (22, i6 i_8), (23, .rop (aW x_18)), (24, (aI x_18)), (25, .sl (b_2.map aI) none), (26, i6 i_8), (27, .rop (aW x_19)), (28, (aI x_19))]) (by simp) (by kernel_rfl) ⟨LGet.of hx_18 rfl, LGet.of hx_19 rfl, trivial⟩ (by kernel_rfl) ?_
      exact DrO.nil rfl
     ·dsimp only [List.getLastD_cons,List.getLastD_nil]
      refine rn 2 [0,1,5,6] (mkS 31 [(0,.sl (a_1.map aI) none),(1,.sl (b_2.map aI) none),(5,.bool ((x_18.Float == x_19.Float) && ((x_18.Skill == x_19.Skill) && ((x_18.Days == x_19.Days) && true)))),(6,i6 i_8)]) ⟨[],[]⟩ ?_
      refine ExO.nil ?_
      refine rg 3 [0,1,5,6] (mkS 31 [(0,.sl (a_1.map aI) none),(1,.sl (b_2.map aI) none),(5,.bool ((x_18.Float == x_19.Float) && ((x_18.Skill == x_19.Skill) && ((x_18.Days == x_19.Days) && true)))),(6,i6 (IntKind.i64.wrap (i_8 + 1)))]) ⟨[],[]⟩ ?_
      dsimp only
      exact ⟨_,_,aM.refl _ _ _,k,Nat.lt_succ_self k,((x_18.Float == x_19.Float) && ((x_18.Skill == x_19.Skill) && ((x_18.Days == x_19.Days) && true))),(IntKind.i64.wrap (i_8 + 1)),h,rfl,rfl⟩
    ·refine Ex.condF _ rfl hc_17 ?_
     refine Ex.exit ?_
     (try simp only [reduceCtorEq,AEx.ex.injEq,Nat.reduceEqDiff,if_true,if_false])
     exact ⟨_,_,bQ [5],same_7,h,rfl,rfl⟩
 ·rintro a S ⟨same_3,h,rfl,rfl⟩
  subst hK_6
  refine Ex.seq (rg 2 [4] (mkS 31 [(4,.bool same_3)]) ⟨[],[]⟩ ?_)
  refine Ex.ret ?_
  obtain rfl:=sJ h
  exact rt (.bool same_3)
def kC (N : Nat) (a_1 : aH) (b_2 : aH) : Option (Bool):=(letJ (fun (same_3 : Bool) => (letJ (fun (same_9 : Bool) => some same_9) (fun k_10 => (loop2 (fun rec_15 (same_13 : Bool) (i_14 : Int) => (letJ (fun (y_18 : Bool) => (bif y_18 then ((getI a_1.Workers i_14).bind fun x_24 => ((getI b_2.Workers i_14).bind fun x_25 => (rec_15 ((x_24.Weld == x_25.Weld) && ((x_24.Carve == x_25.Carve) && ((x_24.Paint == x_25.Paint) && true))) (IntKind.i64.wrap (i_14 + 1))))) else (k_10 same_13))) (fun k_19 => (bif same_13 then (k_19 (decide (i_14 < ((a_1.Workers.length : Nat) : Int)))) else (k_19 false))))) N same_3 0)))) (fun k_4 => (bif (((a_1.Workers.length : Nat) : Int) == ((b_2.Workers.length : Nat) : Int)) then ((lM N a_1.Jobs b_2.Jobs).bind fun r_8 => (k_4 r_8)) else (k_4 false))))
def dE (r : Bool) : AV:=.bool r
attribute [local simp] dE
theorem uV (r : Bool) (n n2 m : Nat) : back n n2 m (dE r) = some (dE r):=by simp
theorem uO (N : Nat) (a_1 : aH) (b_2 : aH) (r : Bool) (h : kC N a_1 b_2 = some r) : Does Tryz.prog 16 [(aC a_1),(aC b_2)] [] fun v c => v = dE r ∧ c = []:=by
 unfold kC at h
 refine Does.ofL comp16 _ _ rfl rfl ?_
 refine Ex.seq (rg 3 [2,3] (mkS 43 [(2,.ptr 0 0),(3,.ptr 1 0)]) ⟨[(aB a_1),(aB b_2)],[]⟩ ?_)
 obtain ⟨K_5,hK_6,h⟩:=letE h
 refine Ex.seqJ (fun a S => ∃ (same_3 : Bool),K_5 same_3 = some r ∧ a = mkS 43 [(2,.ptr 0 0),(3,.ptr 1 0),(5,.bool same_3)] ∧ S = ⟨[(aB a_1),(aB b_2)],[]⟩) ?_ ?_
 ·rcases aY h with ⟨hc_7,h⟩ | ⟨hc_7,h⟩
  ·obtain ⟨r_8,hr_8,h⟩:=bE h
   refine Ex.reg ?_
   refine runH 12 [(2,.eq (i6 ((a_1.Workers.length : Nat) : Int))),(5,.eq (i6 ((b_2.Workers.length : Nat) : Int))),(7,.eq (.bool true))] [2,3,14,16,18] [AV.int .i64 (((a_1.Workers.map aE).length : Nat) : Int) = AV.int .i64 ((a_1.Workers.length : Nat) : Int),AV.int .i64 (((b_2.Workers.map aE).length : Nat) : Int) = AV.int .i64 ((b_2.Workers.length : Nat) : Int),AV.bool (((a_1.Workers.length : Nat) : Int) == ((b_2.Workers.length : Nat) : Int)) = AV.bool true] (mkS 43 [(2,.ptr 0 0),(3,.ptr 1 0),(14,.bool true),(16,.sl (a_1.Jobs.map aI) none),(18,.sl (b_2.Jobs.map aI) none)]) (⟨[(aB a_1),(aB b_2)],[]⟩) (by kernel_rfl) ⟨lenM _ _,lenM _ _,congrArg AV.bool hc_7,trivial⟩ ?_
   refine ExO.callL [] [.sl (a_1.Jobs.map aI) none,.sl (b_2.Jobs.map aI) none] rfl rfl (aCO a_1.Jobs b_2.Jobs) rfl rfl (aCl N a_1.Jobs b_2.Jobs r_8 hr_8) (aCF _ _ _ _) rfl ?_
   refine rn 2 [2,3,5] (mkS 43 [(2,.ptr 0 0),(3,.ptr 1 0),(5,.bool r_8)]) ⟨[(aB a_1),(aB b_2)],[]⟩ ?_
   refine ExO.nil ?_
   (try simp only [reduceCtorEq,AEx.ex.injEq,Nat.reduceEqDiff,if_true,if_false])
   exact ⟨_,_,aM.refl _ _ _,r_8,h,rfl,rfl⟩
  ·refine regH 15 [(2, .eq (i6 ((a_1.Workers.length : Nat) : Int))), (5, .eq (i6 ((b_2.Workers.length : Nat) : Int))), (7, .eq (.bool false))] [2, 3, 5] [AV.int .i64 (((a_1.Workers.map aE).length : Nat) : Int) = AV.int .i64 ((a_1.Workers.length : Nat) : Int), AV.int .i64 (((b_2.Workers.map aE).length : Nat) : Int) = AV.int .i64 ((b_2.Workers.length : Nat) : Int), AV.bool (((a_1.Workers.length : Nat) : Int) == ((b_2.Workers.length : Nat) : Int)) = AV.bool false] (mkS 43 [(2, .ptr 0 0), (3, .ptr 1 0), (5, .bool false)]) (⟨[(aB a_1), (aB b_2)], []⟩) (by kernel_rfl) ⟨lenM _ _, lenM _ _, congrArg AV.bool hc_7, trivial⟩ rfl ?_
   (try simp only [reduceCtorEq,AEx.ex.injEq,Nat.reduceEqDiff,if_true,if_false])
   exact ⟨_,_,aM.refl _ _ _,false,h,rfl,rfl⟩
 ·rintro a S ⟨same_3,h,rfl,rfl⟩
  subst hK_6
  refine Ex.seq (Ex.seq ?_)
  refine rg 1 [2,3,5,6] (mkS 43 [(2,.ptr 0 0),(3,.ptr 1 0),(5,.bool same_3),(6,i6 0)]) ⟨[(aB a_1),(aB b_2)],[]⟩ ?_
  obtain ⟨K_11,hK_12,h⟩:=letE h
  refine Ex.blockJ (fun a S => ∃ (same_9 : Bool),K_11 same_9 = some r ∧ a = mkS 43 [(5,.bool same_9)] ∧ S = ⟨[],[]⟩) ?_ ?_
  ·obtain ⟨B_16,hB_17,h⟩:=gP h
   refine Ex.loopF (fun k a S => ∃ (same_13 : Bool),∃ (i_14 : Int),loop2 B_16 k same_13 i_14 = some r ∧ a = mkS 43 [(2,.ptr 0 0),(3,.ptr 1 0),(5,.bool same_13),(6,i6 i_14)] ∧ S = ⟨[(aB a_1),(aB b_2)],[]⟩) N ⟨_,_,aM.refl _ _ _,same_3,0,h,rfl,rfl⟩ ?_
   rintro k a S ⟨same_13,i_14,h,rfl,rfl⟩
   cases k with
   | zero => exact (gN h).elim
   | succ k =>
    replace h:=gO h hB_17
    refine Ex.seq ?_
    obtain ⟨K_20,hK_21,h⟩:=letE h
    refine Ex.seqJ (fun a S => ∃ (y_18 : Bool),K_20 y_18 = some r ∧ a = mkS 43 [(2,.ptr 0 0),(3,.ptr 1 0),(5,.bool same_13),(6,i6 i_14),(28,.bool y_18)] ∧ S = ⟨[(aB a_1),(aB b_2)],[]⟩) ?_ ?_
    ·rcases aY h with ⟨hc_22,h⟩ | ⟨hc_22,h⟩
     ·refine regH 8 [(1, .eq (.bool true)), (5, .eq (i6 ((a_1.Workers.length : Nat) : Int)))] [2, 3, 5, 6, 28] [AV.bool same_13 = AV.bool true, AV.int .i64 (((a_1.Workers.map aE).length : Nat) : Int) = AV.int .i64 ((a_1.Workers.length : Nat) : Int)] (mkS 43 [(2, .ptr 0 0), (3, .ptr 1 0), (5, .bool same_13), (6, i6 i_14), (28, .bool (decide (i_14 < ((a_1.Workers.length : Nat) : Int))))]) (⟨[(aB a_1), (aB b_2)], []⟩) (by kernel_rfl) ⟨congrArg AV.bool hc_22, lenM _ _, trivial⟩ rfl ?_
      (try simp only [reduceCtorEq,AEx.ex.injEq,Nat.reduceEqDiff,if_true,if_false])
      exact ⟨_,_,aM.refl _ _ _,(decide (i_14 < ((a_1.Workers.length : Nat) : Int))),h,rfl,rfl⟩
     ·refine regH 8 [(1, .eq (.bool false))] [2, 3, 5, 6, 28] [AV.bool same_13 = AV.bool false] (mkS 43 [(2, .ptr 0 0), (3, .ptr 1 0), (5, .bool same_13), (6, i6 i_14), (28, .bool false)]) (⟨[(aB a_1), (aB b_2)], []⟩) (by kernel_rfl) ⟨congrArg AV.bool hc_22, trivial⟩ rfl ?_
      (try simp only [reduceCtorEq,AEx.ex.injEq,Nat.reduceEqDiff,if_true,if_false])
      exact ⟨_,_,aM.refl _ _ _,false,h,rfl,rfl⟩
    ·rintro a S ⟨y_18,h,rfl,rfl⟩
     subst hK_21
     rcases aY h with ⟨hc_23,h⟩ | ⟨hc_23,h⟩
     ·refine Ex.condT _ rfl hc_23 ?_
      refine Ex.skip ?_
      refine Ex.seq ?_
      refine Ex.blockK ?_
      obtain ⟨x_24,hx_24,h⟩:=bE h
      obtain ⟨x_25,hx_25,h⟩:=bE h
      refine Ex.drawE (a1:=mkS 43 [(2,.ptr 0 0),(3,.ptr 1 0),(5,.bool same_13),(6,i6 i_14),(28,.bool y_18),(31,.ptr 0 0),(32,.sl (a_1.Workers.map aE) none),(33,i6 i_14),(34,.rop (aU x_24)),(35,(aE x_24)),(36,.ptr 1 0),(37,.sl (b_2.Workers.map aE) none),(38,i6 i_14),(39,.rop (aU x_25)),(40,(aE x_25))]) (cP _) [] [] [] ?_ ?_
      ·refine drS [0, 1] 10 [(3, .rop (aU x_24)), (8, .rop (aU x_25))] [LGet (a_1.Workers.map aE) i_14 3 (aU x_24), LGet (b_2.Workers.map aE) i_14 3 (aU x_25)] (mkS 43 [(2, .ptr 0 0), (3, .ptr 1 0), (5, .bool same_13), (6, i6 i_14), (28, .bool y_18), (31, .ptr 0 0), (32, .sl (a_1.Workers.map aE) none), (33, i6 i_14), (34, .rop (aU x_24)), (35, (aE x_24)), (36, .ptr 1 0), (37, .sl (b_2.Workers.map aE) none), (38, i6 i_14), (39, .rop (aU x_25)), (40, (aE x_25))]) (by simp) (by kernel_rfl) ⟨LGet.of hx_24 rfl, LGet.of hx_25 rfl, trivial⟩ (by kernel_rfl) ?_
       exact DrO.nil rfl
      ·dsimp only [List.getLastD_cons,List.getLastD_nil]
       refine rn 2 [2,3,5,6] (mkS 43 [(2,.ptr 0 0),(3,.ptr 1 0),(5,.bool ((x_24.Weld == x_25.Weld) && ((x_24.Carve == x_25.Carve) && ((x_24.Paint == x_25.Paint) && true)))),(6,i6 i_14)]) ⟨[(aB a_1),(aB b_2)],[]⟩ ?_
       refine ExO.nil ?_
       refine rg 3 [2,3,5,6] (mkS 43 [(2,.ptr 0 0),(3,.ptr 1 0),(5,.bool ((x_24.Weld == x_25.Weld) && ((x_24.Carve == x_25.Carve) && ((x_24.Paint == x_25.Paint) && true)))),(6,i6 (IntKind.i64.wrap (i_14 + 1)))]) ⟨[(aB a_1),(aB b_2)],[]⟩ ?_
       dsimp only
       exact ⟨_,_,aM.refl _ _ _,k,Nat.lt_succ_self k,((x_24.Weld == x_25.Weld) && ((x_24.Carve == x_25.Carve) && ((x_24.Paint == x_25.Paint) && true))),(IntKind.i64.wrap (i_14 + 1)),h,rfl,rfl⟩
     ·refine Ex.condF _ rfl hc_23 ?_
      refine Ex.exit ?_
      (try simp only [reduceCtorEq,AEx.ex.injEq,Nat.reduceEqDiff,if_true,if_false])
      exact ⟨_,_,bM (m:=43) 0 [] [(5,.bool same_13)] [] [] (by simp [bD]) (by simp) ⟨rfl,trivial⟩ (by simp) rfl (by decide),same_13,h,rfl,rfl⟩
  ·rintro a S ⟨same_9,h,rfl,rfl⟩
   subst hK_12
   refine Ex.seq (rg 2 [4] (mkS 43 [(4,.bool same_9)]) ⟨[],[]⟩ ?_)
   refine Ex.ret ?_
   obtain rfl:=sJ h
   exact rt (.bool same_9)
noncomputable def jG (N : Nat) (s_1 : aH) (plan_2 : (List aG)) (j_3 : bH) (nums_4 : (List Int)) : Option (Bool):=(letJ (fun (y_5 : Bool) => (bif y_5 then ((iC N).bind fun r_12 => some r_12) else ((lN N nums_4).bind fun r_13 => ((lL N r_13 4 6 5).bind fun r_14 => ((iO ([] : List aX) r_14.1.Workers).bind fun l_19 => ((iO ([] : List bH) r_14.1.Jobs).bind fun l_20 => ((iO l_20 ([j_3] : List bH)).bind fun l_21 => ((iX N r_14.2 r_14.1).bind fun r_22 => (letJ (fun (_ : Unit) => ((iC N).bind fun r_89 => some r_89)) (fun k_24 => (loop1 (fun rec_28 (i_27 : Int) => (bif (decide (i_27 < 4)) then ((getI ([s_1,r_14.1,r_14.1,(⟨l_19,l_21⟩ : aH)] : List aH) i_27).bind fun x_32 => ((kB N x_32).bind fun r_33 => ((getI ([plan_2,r_22.1,plan_2,plan_2] : List (List aG)) i_27).bind fun x_34 => ((iD N x_34).bind fun r_35 => ((kA N r_33 r_35).bind fun r_37 => ((getI ([s_1,r_14.1,r_14.1,(⟨l_19,l_21⟩ : aH)] : List aH) i_27).bind fun x_38 => ((getI ([plan_2,r_22.1,plan_2,plan_2] : List (List aG)) i_27).bind fun x_39 => ((lJ N x_38 x_39).bind fun r_40 => ((eO N r_33).bind fun r_42 => ((getI ([s_1,r_14.1,r_14.1,(⟨l_19,l_21⟩ : aH)] : List aH) i_27).bind fun x_43 => ((lK N x_43).bind fun r_44 => (letJ (fun (y_45 : Bool) => (bif y_45 then some false else (rec_28 (IntKind.i64.wrap (i_27 + 1))))) (fun k_46 => ((eN N r_33).bind fun r_49 => ((getI ([s_1,r_14.1,r_14.1,(⟨l_19,l_21⟩ : aH)] : List aH) i_27).bind fun x_50 => ((iB N x_50).bind fun r_51 => (bif (r_49 != r_51) then (k_46 true) else (bif (r_37.1 != r_40.1) then (k_46 true) else (bif (r_37.2 != r_40.2) then (k_46 true) else (bif (r_42.1 != r_44.1) then (k_46 true) else (bif (r_42.2 != r_44.2) then (k_46 true) else ((getI ([s_1,r_14.1,r_14.1,(⟨l_19,l_21⟩ : aH)] : List aH) i_27).bind fun x_77 => ((kC N r_33 x_77).bind fun r_78 => (bif (!r_78) then (k_46 true) else ((getI ([plan_2,r_22.1,plan_2,plan_2] : List (List aG)) i_27).bind fun x_85 => ((gW N r_35 x_85).bind fun r_87 => (k_46 (!r_87)))))))))))))))))))))))))))) else (k_24 ()))) N 0))))))))))) (fun k_6 => (bif (decide (((s_1.Workers.length : Nat) : Int) > 10)) then (k_6 true) else (bif (decide (((s_1.Jobs.length : Nat) : Int) > 20)) then (k_6 true) else (k_6 (decide (((plan_2.length : Nat) : Int) > 30)))))))
def qC (r : Bool) : AV:=.bool r
attribute [local simp] qC
theorem xC (N : Nat) (s_1 : aH) (plan_2 : (List aG)) (j_3 : bH) (nums_4 : (List Int)) (r : Bool) (h : jG N s_1 plan_2 j_3 nums_4 = some r) : Does Tryz.prog 3 [(aC s_1),.sl (plan_2.map aA) none,(aI j_3),.sl (nums_4.map (AV.int .i64)) none] [] fun v c => v = qC r ∧ c = []:=by
 unfold jG at h
 refine Does.ofL comp3 _ _ rfl rfl ?_
 refine Ex.seq (rg 3 [1,3,4,6] (mkS 159 [(1,.sl (plan_2.map aA) none),(3,.sl (nums_4.map (AV.int .i64)) none),(4,.ptr 0 0),(6,.ptr 1 0)]) ⟨[(aB s_1),(aW j_3)],[]⟩ ?_)
 refine Ex.seq ?_
 obtain ⟨K_7,hK_8,h⟩:=letE h
 refine Ex.seqJ (fun a S => ∃ (y_5 : Bool),K_7 y_5 = some r ∧ a = mkS 159 [(1,.sl (plan_2.map aA) none),(3,.sl (nums_4.map (AV.int .i64)) none),(4,.ptr 0 0),(6,.ptr 1 0),(39,.bool y_5)] ∧ S = ⟨[(aB s_1),(aW j_3)],[]⟩) ?_ ?_
 ·rcases aY h with ⟨hc_9,h⟩ | ⟨hc_9,h⟩
  ·refine regH 15 [(2, .eq (i6 ((s_1.Workers.length : Nat) : Int))), (4, .eq (.bool true))] [1, 3, 4, 6, 39] [AV.int .i64 (((s_1.Workers.map aE).length : Nat) : Int) = AV.int .i64 ((s_1.Workers.length : Nat) : Int), AV.bool (decide (((s_1.Workers.length : Nat) : Int) > 10)) = AV.bool true] (mkS 159 [(1, .sl (plan_2.map aA) none), (3, .sl (nums_4.map (AV.int .i64)) none), (4, .ptr 0 0), (6, .ptr 1 0), (39, .bool true)]) (⟨[(aB s_1), (aW j_3)], []⟩) (by kernel_rfl) ⟨lenM _ _, congrArg AV.bool hc_9, trivial⟩ rfl ?_
   (try simp only [reduceCtorEq,AEx.ex.injEq,Nat.reduceEqDiff,if_true,if_false])
   exact ⟨_,_,aM.refl _ _ _,true,h,rfl,rfl⟩
  ·rcases aY h with ⟨hc_10,h⟩ | ⟨hc_10,h⟩
   ·refine regH 15 [(2, .eq (i6 ((s_1.Workers.length : Nat) : Int))), (4, .eq (.bool false)), (7, .eq (i6 ((s_1.Jobs.length : Nat) : Int))), (10, .eq (.bool true))] [1, 3, 4, 6, 39] [AV.int .i64 (((s_1.Workers.map aE).length : Nat) : Int) = AV.int .i64 ((s_1.Workers.length : Nat) : Int), AV.bool (decide (((s_1.Workers.length : Nat) : Int) > 10)) = AV.bool false, AV.int .i64 (((s_1.Jobs.map aI).length : Nat) : Int) = AV.int .i64 ((s_1.Jobs.length : Nat) : Int), AV.bool (decide (((s_1.Jobs.length : Nat) : Int) > 20)) = AV.bool true] (mkS 159 [(1, .sl (plan_2.map aA) none), (3, .sl (nums_4.map (AV.int .i64)) none), (4, .ptr 0 0), (6, .ptr 1 0), (39, .bool true)]) (⟨[(aB s_1), (aW j_3)], []⟩) (by kernel_rfl) ⟨lenM _ _, congrArg AV.bool hc_9, lenM _ _, congrArg AV.bool hc_10, trivial⟩ rfl ?_
    (try simp only [reduceCtorEq,AEx.ex.injEq,Nat.reduceEqDiff,if_true,if_false])
    exact ⟨_,_,aM.refl _ _ _,true,h,rfl,rfl⟩
   ·refine regH 15 [(2, .eq (i6 ((s_1.Workers.length : Nat) : Int))), (4, .eq (.bool false)), (7, .eq (i6 ((s_1.Jobs.length : Nat) : Int))), (10, .eq (.bool false)), (12, .eq (i6 ((plan_2.length : Nat) : Int)))] [1, 3, 4, 6, 39] [AV.int .i64 (((s_1.Workers.map aE).length : Nat) : Int) = AV.int .i64 ((s_1.Workers.length : Nat) : Int), AV.bool (decide (((s_1.Workers.length : Nat) : Int) > 10)) = AV.bool false, AV.int .i64 (((s_1.Jobs.map aI).length : Nat) : Int) = AV.int .i64 ((s_1.Jobs.length : Nat) : Int), AV.bool (decide (((s_1.Jobs.length : Nat) : Int) > 20)) = AV.bool false, AV.int .i64 (((plan_2.map aA).length : Nat) : Int) = AV.int .i64 ((plan_2.length : Nat) : Int)] (mkS 159 [(1, .sl (plan_2.map aA) none), (3, .sl (nums_4.map (AV.int .i64)) none), (4, .ptr 0 0), (6, .ptr 1 0), (39, .bool (decide (((plan_2.length : Nat) : Int) > 30)))]) (⟨[(aB s_1), (aW j_3)], []⟩) (by kernel_rfl) ⟨lenM _ _, congrArg AV.bool hc_9, lenM _ _, congrArg AV.bool hc_10, lenM _ _, trivial⟩ rfl ?_
    (try simp only [reduceCtorEq,AEx.ex.injEq,Nat.reduceEqDiff,if_true,if_false])
    exact ⟨_,_,aM.refl _ _ _,(decide (((plan_2.length : Nat) : Int) > 30)),h,rfl,rfl⟩
 ·rintro a S ⟨y_5,h,rfl,rfl⟩
  subst hK_8
  rcases aY h with ⟨hc_11,h⟩ | ⟨hc_11,h⟩
  ·refine Ex.condT _ rfl hc_11 ?_
   refine Ex.seq ?_
   obtain ⟨r_12,hr_12,h⟩:=bE h
   refine Ex.reg ?_
   refine ExO.callL [] [] rfl rfl (wX) rfl rfl (wU N r_12 hr_12) (wV _ _ _ _) rfl ?_
   refine rn 1 [8] (mkS 159 [(8,.bool r_12)]) ⟨[(aB s_1),(aW j_3)],[]⟩ ?_
   refine ExO.nil ?_
   refine Ex.ret ?_
   obtain rfl:=sJ h
   exact rt (.bool r_12)
  ·refine Ex.condF _ rfl hc_11 ?_
   refine Ex.skip ?_
   refine Ex.seq ?_
   obtain ⟨r_13,hr_13,h⟩:=bE h
   refine Ex.reg (rn 1 [1,4,6,41] (mkS 159 [(1,.sl (plan_2.map aA) none),(4,.ptr 0 0),(6,.ptr 1 0),(41,.sl (nums_4.map (AV.int .i64)) none)]) ⟨[(aB s_1),(aW j_3)],[]⟩ ?_)
   refine ExO.callL (v':=.ptr 2 0) [] [.sl (nums_4.map (AV.int .i64)) none] rfl rfl (aCQ nums_4) rfl rfl (aCn N nums_4 r_13 hr_13) rfl (by simp) ?_
   refine rn 1 [1,4,6,9] (mkS 159 [(1,.sl (plan_2.map aA) none),(4,.ptr 0 0),(6,.ptr 1 0),(9,.ptr 2 0)]) ⟨[(aB s_1),(aW j_3),(aK r_13)],[]⟩ ?_
   refine ExO.nil ?_
   refine Ex.seq ?_
   obtain ⟨r_14,hr_14,h⟩:=bE h
   refine Ex.reg (rn 1 [1,4,6,9,43] (mkS 159 [(1,.sl (plan_2.map aA) none),(4,.ptr 0 0),(6,.ptr 1 0),(9,.ptr 2 0),(43,.ptr 2 0)]) ⟨[(aB s_1),(aW j_3),(aK r_13)],[]⟩ ?_)
   refine ExO.callL [2] [.ptr 2 0,i6 4,i6 6,i6 5] rfl rfl (by simp; try rfl) rfl (by simp) (aCk N r_13 4 6 5 r_14 hr_14) (aCE _ _ _ _) (by simp) ?_
   refine rn 2 [1,4,6,9,10] (mkS 159 [(1,.sl (plan_2.map aA) none),(4,.ptr 0 0),(6,.ptr 1 0),(9,.ptr 2 0),(10,.ptr 3 0)]) ⟨[(aB s_1),(aW j_3),(aK r_14.2),(aB r_14.1)],[]⟩ ?_
   refine ExO.nil ?_
   refine Ex.seq ?_
   refine Ex.reg (rn 1 [1,4,6,9,10,45] (mkS 159 [(1,.sl (plan_2.map aA) none),(4,.ptr 0 0),(6,.ptr 1 0),(9,.ptr 2 0),(10,.ptr 3 0),(45,(aC r_14.1))]) ⟨[(aB s_1),(aW j_3),(aK r_14.2),(aB r_14.1)],[]⟩ ?_)
   refine ExO.inlC 7 [(aC r_14.1)] _ comp7 (by simp [bD]) rfl rfl ?_
   intro cx_15 hcn_16 hcm_17 hup_18
   refine Ex.castA (a2:=mkS 12 [(0,(aC r_14.1)),(1,.tup []),(2,.tup []),(3,.tup []),(4,.tup []),(5,.tup []),(6,.tup []),(7,.tup []),(8,.tup []),(9,.tup []),(10,.tup []),(11,.tup [])]) (S2:=⟨[(aB s_1),(aW j_3),(aK r_14.2),(aB r_14.1)],[]⟩) (by kernel_rfl) (by kernel_rfl) ?_
   refine Ex.seq (rg 2 [1,2] (mkS 12 [(1,.ptr 4 0),(2,.ptr 5 0)]) ⟨[(aB s_1),(aW j_3),(aK r_14.2),(aB r_14.1),(aB r_14.1),[.nils,.nils]],[]⟩ ?_)
   refine Ex.seq ?_
   obtain ⟨l_19,hl_19,h⟩:=bE h
   refine Ex.drawE (a1:=mkS 12 [(1,.ptr 4 0),(2,.ptr 5 0),(3,.sl (([] : List aX).map aE) (some 0)),(4,.ptr 4 0),(5,.sl (r_14.1.Workers.map aE) none),(6,.sl (l_19.map aE) (some 0)),(7,.sl (([] : List bH).map aI) (some 1)),(8,.ptr 4 1),(9,.sl (r_14.1.Jobs.map aI) none)]) (cP _) [] [(0,3),(0,3)] [⟨[(aB s_1),(aW j_3),(aK r_14.2),(aB r_14.1),(aB r_14.1),[.nils,.nils]],[(l_19.length,3),(0,3)]⟩] ?_ ?_
   ·refine drRF 0 3 (([] : List aX).map aE) 3 rfl rfl rfl (by kernel_rfl) (fun _ => by kernel_rfl) (by simp) (by simp) rfl rfl ?_
    refine drS [0,1,2,3,4,5] 2 [] [] (mkS 12 [(1,.ptr 4 0),(2,.ptr 5 0),(3,.sl (([] : List aX).map aE) (some 0)),(4,.ptr 4 0),(5,.sl (r_14.1.Workers.map aE) none)]) (by simp) (by kernel_rfl) trivial (by kernel_rfl) ?_
    refine drE (some (.apps (r_14.1.Workers.map aE) (l_19.map aE) l_19.length)) (some (lQ 0 (([] : List aX).map aE) (r_14.1.Workers.map aE) (r_14.1.Workers.map aE) 3 (l_19.map aE) l_19.length)) (.sl (l_19.map aE) (some 0)) _ _ rfl rfl rfl rfl rfl (by kernel_rfl) (lQ.of hl_19 (fun _ => rfl) (fun _ => rfl) (fun _ => rfl)) ?_
    refine drR 1 3 (([] : List bH).map aI) rfl rfl (fun _ => by kernel_rfl) (by simp) rfl rfl ?_
    refine drS [0,1,2,3,4,5] 2 [] [] (mkS 12 [(1,.ptr 4 0),(2,.ptr 5 0),(3,.sl (([] : List aX).map aE) (some 0)),(4,.ptr 4 0),(5,.sl (r_14.1.Workers.map aE) none),(6,.sl (l_19.map aE) (some 0)),(7,.sl (([] : List bH).map aI) (some 1)),(8,.ptr 4 1),(9,.sl (r_14.1.Jobs.map aI) none)]) (by simp) (by kernel_rfl) trivial (by kernel_rfl) ?_
    exact DrO.nil rfl
   ·dsimp only [List.getLastD_cons,List.getLastD_nil]
    obtain ⟨l_20,hl_20,h⟩:=bE h
    refine runH 3 [(0,.apps (r_14.1.Jobs.map aI) (l_20.map aI) l_20.length)] [2] [lQ 0 (([] : List bH).map aI) (r_14.1.Jobs.map aI) (r_14.1.Jobs.map aI) 3 (l_20.map aI) l_20.length] (mkS 12 [(2,.ptr 5 0)]) (⟨[(aB s_1),(aW j_3),(aK r_14.2),(aB r_14.1),(aB r_14.1),[.sl (l_19.map aE) (some 0),.sl (l_20.map aI) (some 1)]],[(l_19.length,3),(l_20.length,3)]⟩) (by kernel_rfl) ⟨lQ.of hl_20 (fun _ => rfl) (fun _ => rfl) (fun _ => rfl),trivial⟩ ?_
    refine ExO.nil ?_
    refine Ex.ret ?_
    refine ⟨.inr rfl,.agg [.sl (l_19.map aE) (some 0),.sl (l_20.map aI) (some 1)],by kernel_rfl,?_⟩
    refine rn 2 [1,4,6,9,10,11] (mkS 159 [(1,.sl (plan_2.map aA) none),(4,.ptr 0 0),(6,.ptr 1 0),(9,.ptr 2 0),(10,.ptr 3 0),(11,.ptr 6 0)]) ⟨[(aB s_1),(aW j_3),(aK r_14.2),(aB r_14.1),(aB r_14.1),[.sl (l_19.map aE) (some 0),.sl (l_20.map aI) (some 1)],[.sl (l_19.map aE) (some 0),.sl (l_20.map aI) (some 1)]],[(l_19.length,3),(l_20.length,3)]⟩ ?_
    refine ExO.nil ?_
    refine Ex.seq ?_
    obtain ⟨l_21,hl_21,h⟩:=bE h
    refine regH 7 [(4,.app (l_21.map aI) l_21.length)] [1,4,9,10,11] [LApp l_20.length (l_20.map aI) (([j_3] : List bH).map aI) 3 (l_21.map aI) l_21.length] (mkS 159 [(1,.sl (plan_2.map aA) none),(4,.ptr 0 0),(9,.ptr 2 0),(10,.ptr 3 0),(11,.ptr 6 0)]) (⟨[(aB s_1),(aW j_3),(aK r_14.2),(aB r_14.1),(aB r_14.1),[.sl (l_19.map aE) (some 0),.sl (l_20.map aI) (some 1)],[.sl (l_19.map aE) (some 0),.sl (l_21.map aI) (some 1)]],[(l_19.length,3),(l_21.length,3),(1,3)]⟩) (by kernel_rfl) ⟨LApp.of hl_21 (fun _ => rfl),trivial⟩ rfl ?_
    refine Ex.seq ?_
    refine Ex.postF ?_
    obtain ⟨r_22,hr_22,h⟩:=bE h
    have hT_23 : fH Tryz.prog [⟨8,[.ptr 0 0,(aC r_14.1)],[(aK r_14.2)],(fU r_22),[(aK r_22.2)]⟩] ∧ eF [⟨8,[.ptr 0 0,(aC r_14.1)],[(aK r_14.2)],(fU r_22),[(aK r_22.2)]⟩]:=⟨⟨(zR N r_14.2 r_14.1 r_22 hr_22),rfl,trivial⟩,⟨trivial,trivial⟩⟩
    refine Ex.drawE (a1:=mkS 159 [(1,.sl (plan_2.map aA) none),(4,.ptr 0 0),(9,.ptr 2 0),(10,.ptr 3 0),(11,.ptr 6 0),(12,.sl [.agg [.sl (s_1.Workers.map aE) none,.sl (s_1.Jobs.map aI) none],.agg [.sl (r_14.1.Workers.map aE) none,.sl (r_14.1.Jobs.map aI) none],.agg [.sl (r_14.1.Workers.map aE) none,.sl (r_14.1.Jobs.map aI) none],.agg [.sl (l_19.map aE) (some 0),.sl (l_21.map aI) (some 1)]] (some 3)),(53,(aC s_1)),(54,(aC r_14.1)),(55,(aC r_14.1)),(56,.agg [.sl (l_19.map aE) (some 0),.sl (l_21.map aI) (some 1)]),(57,.sl [.agg [.sl (s_1.Workers.map aE) none,.sl (s_1.Jobs.map aI) none],.agg [.sl (r_14.1.Workers.map aE) none,.sl (r_14.1.Jobs.map aI) none],.agg [.sl (r_14.1.Workers.map aE) none,.sl (r_14.1.Jobs.map aI) none],.agg [.sl (l_19.map aE) (some 0),.sl (l_21.map aI) (some 1)]] (some 3)),(58,.sl (plan_2.map aA) none),(59,.ptr 2 0),(60,(aC r_14.1)),(61,.sl (r_22.1.map aA) none),(62,.sl (plan_2.map aA) none),(63,.sl (plan_2.map aA) none),(64,.sl (([plan_2,r_22.1,plan_2,plan_2] : List (List aG)).map (SV aA)) (some 4))]) (dI hT_23.1) [] [(4,2),(4,1)] [⟨[(aB s_1),(aW j_3),(aK r_22.2),(aB r_14.1),(aB r_14.1),[.sl (l_19.map aE) (some 0),.sl (l_20.map aI) (some 1)],[.sl (l_19.map aE) (some 0),.sl (l_21.map aI) (some 1)]],[(l_19.length,3),(l_21.length,3),(1,3),(4,2),(4,1)]⟩] ?_ ?_
    ·refine drS [0, 1, 3, 4, 5, 6] 4 [] [] (mkS 159 [(1, .sl (plan_2.map aA) none), (4, .ptr 0 0), (9, .ptr 2 0), (10, .ptr 3 0), (11, .ptr 6 0), (53, (aC s_1)), (54, (aC r_14.1)), (55, (aC r_14.1)), (56, .agg [.sl (l_19.map aE) (some 0), .sl (l_21.map aI) (some 1)])]) (by simp) (by kernel_rfl) trivial (by kernel_rfl) ?_
     refine drR 3 2 [.agg [.sl (s_1.Workers.map aE) none,.sl (s_1.Jobs.map aI) none],.agg [.sl (r_14.1.Workers.map aE) none,.sl (r_14.1.Jobs.map aI) none],.agg [.sl (r_14.1.Workers.map aE) none,.sl (r_14.1.Jobs.map aI) none],.agg [.sl (l_19.map aE) (some 0),.sl (l_21.map aI) (some 1)]] rfl rfl (fun _ => by kernel_rfl) (by simp) rfl rfl ?_
     refine drS [0,1,3,4,5,6] 3 [] [] (mkS 159 [(1,.sl (plan_2.map aA) none),(4,.ptr 0 0),(9,.ptr 2 0),(10,.ptr 3 0),(11,.ptr 6 0),(53,(aC s_1)),(54,(aC r_14.1)),(55,(aC r_14.1)),(56,.agg [.sl (l_19.map aE) (some 0),.sl (l_21.map aI) (some 1)]),(57,.sl [.agg [.sl (s_1.Workers.map aE) none,.sl (s_1.Jobs.map aI) none],.agg [.sl (r_14.1.Workers.map aE) none,.sl (r_14.1.Jobs.map aI) none],.agg [.sl (r_14.1.Workers.map aE) none,.sl (r_14.1.Jobs.map aI) none],.agg [.sl (l_19.map aE) (some 0),.sl (l_21.map aI) (some 1)]] (some 3)),(58,.sl (plan_2.map aA) none),(59,.ptr 2 0),(60,(aC r_14.1))]) (by simp) (by kernel_rfl) trivial (by kernel_rfl) ?_
     refine drB hT_23.2 0 _ [2] [.ptr 2 0,(aC r_14.1)] (fU r_22) _ _ rfl rfl rfl rfl rfl rfl rfl rfl (by simp; try rfl) rfl (by simp) (zZ _ _ _ _) (by simp) rfl ?_
     refine drS [0,1,3,4,5,6] 2 [] [] (mkS 159 [(1,.sl (plan_2.map aA) none),(4,.ptr 0 0),(9,.ptr 2 0),(10,.ptr 3 0),(11,.ptr 6 0),(53,(aC s_1)),(54,(aC r_14.1)),(55,(aC r_14.1)),(56,.agg [.sl (l_19.map aE) (some 0),.sl (l_21.map aI) (some 1)]),(57,.sl [.agg [.sl (s_1.Workers.map aE) none,.sl (s_1.Jobs.map aI) none],.agg [.sl (r_14.1.Workers.map aE) none,.sl (r_14.1.Jobs.map aI) none],.agg [.sl (r_14.1.Workers.map aE) none,.sl (r_14.1.Jobs.map aI) none],.agg [.sl (l_19.map aE) (some 0),.sl (l_21.map aI) (some 1)]] (some 3)),(58,.sl (plan_2.map aA) none),(59,.ptr 2 0),(60,(aC r_14.1)),(61,.sl (r_22.1.map aA) none),(62,.sl (plan_2.map aA) none),(63,.sl (plan_2.map aA) none)]) (by simp) (by kernel_rfl) trivial (by kernel_rfl) ?_
     refine drR 4 1 (([plan_2,r_22.1,plan_2,plan_2] : List (List aG)).map (SV aA)) rfl rfl (fun _ => by kernel_rfl) (by simp) rfl rfl ?_
     refine drS [0,1,3,4,5,6] 1 [] [] (mkS 159 [(1,.sl (plan_2.map aA) none),(4,.ptr 0 0),(9,.ptr 2 0),(10,.ptr 3 0),(11,.ptr 6 0),(12,.sl [.agg [.sl (s_1.Workers.map aE) none,.sl (s_1.Jobs.map aI) none],.agg [.sl (r_14.1.Workers.map aE) none,.sl (r_14.1.Jobs.map aI) none],.agg [.sl (r_14.1.Workers.map aE) none,.sl (r_14.1.Jobs.map aI) none],.agg [.sl (l_19.map aE) (some 0),.sl (l_21.map aI) (some 1)]] (some 3)),(53,(aC s_1)),(54,(aC r_14.1)),(55,(aC r_14.1)),(56,.agg [.sl (l_19.map aE) (some 0),.sl (l_21.map aI) (some 1)]),(57,.sl [.agg [.sl (s_1.Workers.map aE) none,.sl (s_1.Jobs.map aI) none],.agg [.sl (r_14.1.Workers.map aE) none,.sl (r_14.1.Jobs.map aI) none],.agg [.sl (r_14.1.Workers.map aE) none,.sl (r_14.1.Jobs.map aI) none],.agg [.sl (l_19.map aE) (some 0),.sl (l_21.map aI) (some 1)]] (some 3)),(58,.sl (plan_2.map aA) none),(59,.ptr 2 0),(60,(aC r_14.1)),(61,.sl (r_22.1.map aA) none),(62,.sl (plan_2.map aA) none),(63,.sl (plan_2.map aA) none),(64,.sl (([plan_2,r_22.1,plan_2,plan_2] : List (List aG)).map (SV aA)) (some 4))]) (by simp) (by kernel_rfl) trivial (by kernel_rfl) ?_
     exact DrO.nil rfl
    ·dsimp only [List.getLastD_cons,List.getLastD_nil]
     refine rn 1 [12,13] (mkS 159 [(12,.sl [.agg [.sl (s_1.Workers.map aE) none,.sl (s_1.Jobs.map aI) none],.agg [.sl (r_14.1.Workers.map aE) none,.sl (r_14.1.Jobs.map aI) none],.agg [.sl (r_14.1.Workers.map aE) none,.sl (r_14.1.Jobs.map aI) none],.agg [.sl (l_19.map aE) (some 0),.sl (l_21.map aI) (some 1)]] (some 3)),(13,.sl (([plan_2,r_22.1,plan_2,plan_2] : List (List aG)).map (SV aA)) (some 4))]) ⟨[(aB s_1),(aW j_3),(aK r_22.2),(aB r_14.1),(aB r_14.1),[.sl (l_19.map aE) (some 0),.sl (l_20.map aI) (some 1)],[.sl (l_19.map aE) (some 0),.sl (l_21.map aI) (some 1)]],[(l_19.length,3),(l_21.length,3),(1,3),(4,2),(4,1)]⟩ ?_
     refine ExO.nil ?_
     refine ⟨mkS 159 [(12,.sl (([s_1,r_14.1,r_14.1,(⟨l_19,l_21⟩ : aH)] : List aH).map aC) (some 3)),(13,.sl (([plan_2,r_22.1,plan_2,plan_2] : List (List aG)).map (SV aA)) (some 4))],⟨[(aB s_1),(aW j_3),(aK r_22.2),(aB r_14.1),(aB r_14.1),[.sl (l_19.map aE) (some 0),.sl (l_20.map aI) (some 1)],[.sl (l_19.map aE) (some 0),.sl (l_21.map aI) (some 1)]],[(l_19.length,3),(l_21.length,3),(1,3),(4,2),(4,1)]⟩,aM.castR (by kernel_rfl) rfl (aFq 12 [.agg [.sl (s_1.Workers.map aE) none,.sl (s_1.Jobs.map aI) none],.agg [.sl (r_14.1.Workers.map aE) none,.sl (r_14.1.Jobs.map aI) none],.agg [.sl (r_14.1.Workers.map aE) none,.sl (r_14.1.Jobs.map aI) none],.agg [.sl (l_19.map aE) (some 0),.sl (l_21.map aI) (some 1)]] (some 3) rfl),?_⟩
     refine Ex.seq (Ex.seq ?_)
     refine rg 1 [12,13,14] (mkS 159 [(12,.sl (([s_1,r_14.1,r_14.1,(⟨l_19,l_21⟩ : aH)] : List aH).map aC) (some 3)),(13,.sl (([plan_2,r_22.1,plan_2,plan_2] : List (List aG)).map (SV aA)) (some 4)),(14,i6 0)]) ⟨[(aB s_1),(aW j_3),(aK r_22.2),(aB r_14.1),(aB r_14.1),[.sl (l_19.map aE) (some 0),.sl (l_20.map aI) (some 1)],[.sl (l_19.map aE) (some 0),.sl (l_21.map aI) (some 1)]],[(l_19.length,3),(l_21.length,3),(1,3),(4,2),(4,1)]⟩ ?_
     obtain ⟨K_25,hK_26,h⟩:=letE h
     refine Ex.blockJ (fun a S => K_25 () = some r ∧ a = mkS 159 [] ∧ S = ⟨[],[]⟩) ?_ ?_
     ·obtain ⟨B_29,hB_30,h⟩:=iU h
      refine Ex.loopF (fun k a S => ∃ (i_27 : Int),loop1 B_29 k i_27 = some r ∧ a = mkS 159 [(12,.sl (([s_1,r_14.1,r_14.1,(⟨l_19,l_21⟩ : aH)] : List aH).map aC) (some 0)),(13,.sl (([plan_2,r_22.1,plan_2,plan_2] : List (List aG)).map (SV aA)) (some 1)),(14,i6 i_27)] ∧ S = ⟨[],[(4,2),(4,1)]⟩) N ⟨_,_,bM (m:=159) 0 [3,4] [(12,.sl (([s_1,r_14.1,r_14.1,(⟨l_19,l_21⟩ : aH)] : List aH).map aC) (some 0)),(13,.sl (([plan_2,r_22.1,plan_2,plan_2] : List (List aG)).map (SV aA)) (some 1)),(14,i6 0)] [] [(4,2),(4,1)] (by simp [bD]) (by simp) ⟨(reT (dN _) rfl),(reT (cR (fun _ => (by simp only [SV,AV.clean]; exact (cF _))) _) rfl),rfl,trivial⟩ (by simp) rfl (by decide),0,h,rfl,rfl⟩ ?_
      rintro k a S ⟨i_27,h,rfl,rfl⟩
      cases k with
      | zero => exact (iS h).elim
      | succ k =>
       replace h:=iT h hB_30
       refine Ex.seq (Ex.seq ?_)
       refine rg 4 [12,13,14,68] (mkS 159 [(12,.sl (([s_1,r_14.1,r_14.1,(⟨l_19,l_21⟩ : aH)] : List aH).map aC) (some 0)),(13,.sl (([plan_2,r_22.1,plan_2,plan_2] : List (List aG)).map (SV aA)) (some 1)),(14,i6 i_27),(68,.bool (decide (i_27 < 4)))]) ⟨[],[(4,2),(4,1)]⟩ ?_
       rcases aY h with ⟨hc_31,h⟩ | ⟨hc_31,h⟩
       ·refine Ex.condT _ rfl hc_31 ?_
        refine Ex.skip ?_
        refine Ex.seq ?_
        refine Ex.blockK ?_
        refine Ex.seq ?_
        obtain ⟨x_32,hx_32,h⟩:=bE h
        obtain ⟨r_33,hr_33,h⟩:=bE h
        obtain ⟨x_34,hx_34,h⟩:=bE h
        obtain ⟨r_35,hr_35,h⟩:=bE h
        have hT_36 : fH Tryz.prog [⟨7,[(aC x_32)],[],(gJ r_33),[]⟩,⟨9,[.sl (x_34.map aA) none],[],(eZ r_35),[]⟩] ∧ eF [⟨7,[(aC x_32)],[],(gJ r_33),[]⟩,⟨9,[.sl (x_34.map aA) none],[],(eZ r_35),[]⟩]:=⟨⟨(aBg N x_32 r_33 hr_33),rfl,(yP N x_34 r_35 hr_35),rfl,trivial⟩,⟨⟨iH.ne rfl,trivial⟩,trivial,trivial⟩⟩
        refine Ex.drawE (a1:=mkS 159 [(12,.sl (([s_1,r_14.1,r_14.1,(⟨l_19,l_21⟩ : aH)] : List aH).map aC) (some 0)),(13,.sl (([plan_2,r_22.1,plan_2,plan_2] : List (List aG)).map (SV aA)) (some 1)),(14,i6 i_27),(15,.ptr 0 0),(68,.bool (decide (i_27 < 4))),(71,.sl (([s_1,r_14.1,r_14.1,(⟨l_19,l_21⟩ : aH)] : List aH).map aC) (some 0)),(72,i6 i_27),(73,.rop (aB x_32)),(74,(aC x_32)),(75,(aC r_33)),(76,.sl (([plan_2,r_22.1,plan_2,plan_2] : List (List aG)).map (SV aA)) (some 1)),(77,i6 i_27),(78,.rop [.sl (x_34.map aA) none]),(79,.sl (x_34.map aA) none),(80,.sl (r_35.map aA) none)]) (dI hT_36.1) [[.nils,.nils]] [] [] ?_ ?_
        ·refine drS [0] 4 [(2, .rop (aB x_32))] [LGet (([s_1, r_14.1, r_14.1, (⟨l_19, l_21⟩ : aH)] : List aH).map aC) i_27 2 (aB x_32)] (mkS 159 [(12, .sl (([s_1, r_14.1, r_14.1, (⟨l_19, l_21⟩ : aH)] : List aH).map aC) (some 0)), (13, .sl (([plan_2, r_22.1, plan_2, plan_2] : List (List aG)).map (SV aA)) (some 1)), (14, i6 i_27), (68, .bool (decide (i_27 < 4))), (71, .sl (([s_1, r_14.1, r_14.1, (⟨l_19, l_21⟩ : aH)] : List aH).map aC) (some 0)), (72, i6 i_27), (73, .rop (aB x_32)), (74, (aC x_32))]) (by simp) (by kernel_rfl) ⟨LGet.of hx_32 rfl, trivial⟩ (by kernel_rfl) ?_
         refine drC hT_36.2 0 _ [(aC x_32)] (gJ r_33) rfl rfl rfl rfl rfl (fun _ => rfl) rfl (by simp; try rfl) (fun _ => aBu _ _ _ _) ?_
         refine drS [0] 4 [(2,.rop [.sl (x_34.map aA) none])] [LGet (([plan_2,r_22.1,plan_2,plan_2] : List (List aG)).map (SV aA)) i_27 1 [.sl (x_34.map aA) none]] (mkS 159 [(12,.sl (([s_1,r_14.1,r_14.1,(⟨l_19,l_21⟩ : aH)] : List aH).map aC) (some 0)),(13,.sl (([plan_2,r_22.1,plan_2,plan_2] : List (List aG)).map (SV aA)) (some 1)),(14,i6 i_27),(68,.bool (decide (i_27 < 4))),(71,.sl (([s_1,r_14.1,r_14.1,(⟨l_19,l_21⟩ : aH)] : List aH).map aC) (some 0)),(72,i6 i_27),(73,.rop (aB x_32)),(74,(aC x_32)),(75,(aC r_33)),(76,.sl (([plan_2,r_22.1,plan_2,plan_2] : List (List aG)).map (SV aA)) (some 1)),(77,i6 i_27),(78,.rop [.sl (x_34.map aA) none]),(79,.sl (x_34.map aA) none)]) (by simp) (by kernel_rfl) ⟨LGet.of hx_34 rfl,trivial⟩ (by kernel_rfl) ?_
         refine drC hT_36.2 1 _ [.sl (x_34.map aA) none] (eZ r_35) rfl rfl rfl rfl rfl (fun _ => rfl) rfl (by simp; try rfl) (fun _ => zC _ _ _ _) ?_
         refine drX 0 [.nils,.nils] rfl rfl (fun _ => by kernel_rfl) (by simp) rfl rfl ?_
         exact DrO.nil rfl
        ·dsimp only [List.getLastD_cons,List.getLastD_nil]
         refine rn 2 [12,13,14,15,16] (mkS 159 [(12,.sl (([s_1,r_14.1,r_14.1,(⟨l_19,l_21⟩ : aH)] : List aH).map aC) (some 0)),(13,.sl (([plan_2,r_22.1,plan_2,plan_2] : List (List aG)).map (SV aA)) (some 1)),(14,i6 i_27),(15,.ptr 0 0),(16,.sl (r_35.map aA) none)]) ⟨[(aB r_33)],[(4,2),(4,1)]⟩ ?_
         refine ExO.nil ?_
         refine Ex.seq ?_
         obtain ⟨r_37,hr_37,h⟩:=bE h
         refine Ex.reg (rn 2 [12,13,14,15,16,82,83] (mkS 159 [(12,.sl (([s_1,r_14.1,r_14.1,(⟨l_19,l_21⟩ : aH)] : List aH).map aC) (some 0)),(13,.sl (([plan_2,r_22.1,plan_2,plan_2] : List (List aG)).map (SV aA)) (some 1)),(14,i6 i_27),(15,.ptr 0 0),(16,.sl (r_35.map aA) none),(82,(aC r_33)),(83,.sl (r_35.map aA) none)]) ⟨[(aB r_33)],[(4,2),(4,1)]⟩ ?_)
         refine ExO.callL [] [(aC r_33),.sl (r_35.map aA) none] rfl rfl (aBz r_33 r_35) rfl rfl (aBc N r_33 r_35 r_37 hr_37) (aBq _ _ _ _) rfl ?_
         refine rn 5 [12,13,14,15,16,17,18] (mkS 159 [(12,.sl (([s_1,r_14.1,r_14.1,(⟨l_19,l_21⟩ : aH)] : List aH).map aC) (some 0)),(13,.sl (([plan_2,r_22.1,plan_2,plan_2] : List (List aG)).map (SV aA)) (some 1)),(14,i6 i_27),(15,.ptr 0 0),(16,.sl (r_35.map aA) none),(17,i6 r_37.1),(18,i6 r_37.2)]) ⟨[(aB r_33)],[(4,2),(4,1)]⟩ ?_
         refine ExO.nil ?_
         refine Ex.seq ?_
         obtain ⟨x_38,hx_38,h⟩:=bE h
         obtain ⟨x_39,hx_39,h⟩:=bE h
         obtain ⟨r_40,hr_40,h⟩:=bE h
         have hT_41 : fH Tryz.prog [⟨11,[(aC x_38),.sl (x_39.map aA) none],[],(hU r_40),[]⟩] ∧ eF [⟨11,[(aC x_38),.sl (x_39.map aA) none],[],(hU r_40),[]⟩]:=⟨⟨(aCi N x_38 x_39 r_40 hr_40),rfl,trivial⟩,⟨trivial,trivial⟩⟩
         refine Ex.drawE (a1:=mkS 159 [(12,.sl (([s_1,r_14.1,r_14.1,(⟨l_19,l_21⟩ : aH)] : List aH).map aC) (some 0)),(13,.sl (([plan_2,r_22.1,plan_2,plan_2] : List (List aG)).map (SV aA)) (some 1)),(14,i6 i_27),(15,.ptr 0 0),(16,.sl (r_35.map aA) none),(17,i6 r_37.1),(18,i6 r_37.2),(19,i6 r_40.1),(87,.tup [i6 r_40.1,i6 r_40.2]),(88,.sl (([s_1,r_14.1,r_14.1,(⟨l_19,l_21⟩ : aH)] : List aH).map aC) (some 0)),(89,i6 i_27),(90,.rop (aB x_38)),(91,(aC x_38)),(92,.sl (([plan_2,r_22.1,plan_2,plan_2] : List (List aG)).map (SV aA)) (some 1)),(93,i6 i_27),(94,.rop [.sl (x_39.map aA) none]),(95,.sl (x_39.map aA) none),(96,.tup [i6 r_40.1,i6 r_40.2]),(97,i6 r_40.1),(98,i6 r_40.2)]) (dI hT_41.1) [] [] [] ?_ ?_
         ·refine drS [0] 8 [(2, .rop (aB x_38)), (6, .rop [.sl (x_39.map aA) none])] [LGet (([s_1, r_14.1, r_14.1, (⟨l_19, l_21⟩ : aH)] : List aH).map aC) i_27 2 (aB x_38), LGet (([plan_2, r_22.1, plan_2, plan_2] : List (List aG)).map (SV aA)) i_27 1 [.sl (x_39.map aA) none]] (mkS 159 [(12, .sl (([s_1, r_14.1, r_14.1, (⟨l_19, l_21⟩ : aH)] : List aH).map aC) (some 0)), (13, .sl (([plan_2, r_22.1, plan_2, plan_2] : List (List aG)).map (SV aA)) (some 1)), (14, i6 i_27), (15, .ptr 0 0), (16, .sl (r_35.map aA) none), (17, i6 r_37.1), (18, i6 r_37.2), (88, .sl (([s_1, r_14.1, r_14.1, (⟨l_19, l_21⟩ : aH)] : List aH).map aC) (some 0)), (89, i6 i_27), (90, .rop (aB x_38)), (91, (aC x_38)), (92, .sl (([plan_2, r_22.1, plan_2, plan_2] : List (List aG)).map (SV aA)) (some 1)), (93, i6 i_27), (94, .rop [.sl (x_39.map aA) none]), (95, .sl (x_39.map aA) none)]) (by simp) (by kernel_rfl) ⟨LGet.of hx_38 rfl, LGet.of hx_39 rfl, trivial⟩ (by kernel_rfl) ?_
          refine drC hT_41.2 0 _ [(aC x_38),.sl (x_39.map aA) none] (hU r_40) rfl rfl rfl rfl rfl (fun _ => rfl) rfl (by simp; try rfl) (fun _ => aCC _ _ _ _) ?_
          refine drS [0] 4 [] [] (mkS 159 [(12,.sl (([s_1,r_14.1,r_14.1,(⟨l_19,l_21⟩ : aH)] : List aH).map aC) (some 0)),(13,.sl (([plan_2,r_22.1,plan_2,plan_2] : List (List aG)).map (SV aA)) (some 1)),(14,i6 i_27),(15,.ptr 0 0),(16,.sl (r_35.map aA) none),(17,i6 r_37.1),(18,i6 r_37.2),(19,i6 r_40.1),(87,.tup [i6 r_40.1,i6 r_40.2]),(88,.sl (([s_1,r_14.1,r_14.1,(⟨l_19,l_21⟩ : aH)] : List aH).map aC) (some 0)),(89,i6 i_27),(90,.rop (aB x_38)),(91,(aC x_38)),(92,.sl (([plan_2,r_22.1,plan_2,plan_2] : List (List aG)).map (SV aA)) (some 1)),(93,i6 i_27),(94,.rop [.sl (x_39.map aA) none]),(95,.sl (x_39.map aA) none),(96,.tup [i6 r_40.1,i6 r_40.2]),(97,i6 r_40.1),(98,i6 r_40.2)]) (by simp) (by kernel_rfl) trivial (by kernel_rfl) ?_
          exact DrO.nil rfl
         ·dsimp only [List.getLastD_cons,List.getLastD_nil]
          refine rn 1 [12,13,14,15,16,17,18,19,20] (mkS 159 [(12,.sl (([s_1,r_14.1,r_14.1,(⟨l_19,l_21⟩ : aH)] : List aH).map aC) (some 0)),(13,.sl (([plan_2,r_22.1,plan_2,plan_2] : List (List aG)).map (SV aA)) (some 1)),(14,i6 i_27),(15,.ptr 0 0),(16,.sl (r_35.map aA) none),(17,i6 r_37.1),(18,i6 r_37.2),(19,i6 r_40.1),(20,i6 r_40.2)]) ⟨[(aB r_33)],[(4,2),(4,1)]⟩ ?_
          refine ExO.nil ?_
          refine Ex.seq ?_
          obtain ⟨r_42,hr_42,h⟩:=bE h
          refine Ex.reg (rn 1 [12,13,14,15,16,17,18,19,20,100] (mkS 159 [(12,.sl (([s_1,r_14.1,r_14.1,(⟨l_19,l_21⟩ : aH)] : List aH).map aC) (some 0)),(13,.sl (([plan_2,r_22.1,plan_2,plan_2] : List (List aG)).map (SV aA)) (some 1)),(14,i6 i_27),(15,.ptr 0 0),(16,.sl (r_35.map aA) none),(17,i6 r_37.1),(18,i6 r_37.2),(19,i6 r_40.1),(20,i6 r_40.2),(100,(aC r_33))]) ⟨[(aB r_33)],[(4,2),(4,1)]⟩ ?_)
          refine ExO.callL [] [(aC r_33)] rfl rfl (vC r_33) rfl rfl (uN N r_33 r_42 hr_42) (uU _ _ _ _) rfl ?_
          refine rn 5 [12,13,14,15,16,17,18,19,20,21,22] (mkS 159 [(12,.sl (([s_1,r_14.1,r_14.1,(⟨l_19,l_21⟩ : aH)] : List aH).map aC) (some 0)),(13,.sl (([plan_2,r_22.1,plan_2,plan_2] : List (List aG)).map (SV aA)) (some 1)),(14,i6 i_27),(15,.ptr 0 0),(16,.sl (r_35.map aA) none),(17,i6 r_37.1),(18,i6 r_37.2),(19,i6 r_40.1),(20,i6 r_40.2),(21,i6 r_42.1),(22,i6 r_42.2)]) ⟨[(aB r_33)],[(4,2),(4,1)]⟩ ?_
          refine ExO.nil ?_
          refine Ex.seq ?_
          obtain ⟨x_43,hx_43,h⟩:=bE h
          obtain ⟨r_44,hr_44,h⟩:=bE h
          refine Ex.reg ?_
          refine runH 4 [(2,.rop (aB x_43))] [12,13,14,15,16,17,18,19,20,21,22,108] [LGet (([s_1,r_14.1,r_14.1,(⟨l_19,l_21⟩ : aH)] : List aH).map aC) i_27 2 (aB x_43)] (mkS 159 [(12,.sl (([s_1,r_14.1,r_14.1,(⟨l_19,l_21⟩ : aH)] : List aH).map aC) (some 0)),(13,.sl (([plan_2,r_22.1,plan_2,plan_2] : List (List aG)).map (SV aA)) (some 1)),(14,i6 i_27),(15,.ptr 0 0),(16,.sl (r_35.map aA) none),(17,i6 r_37.1),(18,i6 r_37.2),(19,i6 r_40.1),(20,i6 r_40.2),(21,i6 r_42.1),(22,i6 r_42.2),(108,(aC x_43))]) (⟨[(aB r_33)],[(4,2),(4,1)]⟩) (by kernel_rfl) ⟨LGet.of hx_43 rfl,trivial⟩ ?_
          refine ExO.callL [] [(aC x_43)] rfl rfl (aCN x_43) rfl rfl (aCj N x_43 r_44 hr_44) (aCD _ _ _ _) rfl ?_
          refine rn 5 [12,13,14,15,16,17,18,19,20,21,22,23,24] (mkS 159 [(12,.sl (([s_1,r_14.1,r_14.1,(⟨l_19,l_21⟩ : aH)] : List aH).map aC) (some 0)),(13,.sl (([plan_2,r_22.1,plan_2,plan_2] : List (List aG)).map (SV aA)) (some 1)),(14,i6 i_27),(15,.ptr 0 0),(16,.sl (r_35.map aA) none),(17,i6 r_37.1),(18,i6 r_37.2),(19,i6 r_40.1),(20,i6 r_40.2),(21,i6 r_42.1),(22,i6 r_42.2),(23,i6 r_44.1),(24,i6 r_44.2)]) ⟨[(aB r_33)],[(4,2),(4,1)]⟩ ?_
          refine ExO.nil ?_
          obtain ⟨K_47,hK_48,h⟩:=letE h
          refine Ex.seqJ (fun a S => ∃ (y_45 : Bool),K_47 y_45 = some r ∧ a = mkS 159 [(12,.sl (([s_1,r_14.1,r_14.1,(⟨l_19,l_21⟩ : aH)] : List aH).map aC) (some 0)),(13,.sl (([plan_2,r_22.1,plan_2,plan_2] : List (List aG)).map (SV aA)) (some 1)),(14,i6 i_27),(157,.bool y_45)] ∧ S = ⟨[],[(4,2),(4,1)]⟩) ?_ ?_
          ·obtain ⟨r_49,hr_49,h⟩:=bE h
           obtain ⟨x_50,hx_50,h⟩:=bE h
           obtain ⟨r_51,hr_51,h⟩:=bE h
           rcases aY h with ⟨hc_52,h⟩ | ⟨hc_52,h⟩
           ·have hT_54 : fH Tryz.prog [⟨14,[(aC r_33)],[],(bA r_49),[]⟩,⟨15,[(aC x_50)],[],(bI r_51),[]⟩] ∧ eF [⟨14,[(aC r_33)],[],(bA r_49),[]⟩,⟨15,[(aC x_50)],[],(bI r_51),[]⟩]:=⟨⟨(eR N r_33 r_49 hr_49),rfl,(fP N x_50 r_51 hr_51),rfl,trivial⟩,⟨⟨iH.ne rfl,trivial⟩,trivial,trivial⟩⟩
            obtain ⟨X_53,hX_53,hcl_55,hcl_56⟩ : ∃ X : Clr,eE Tryz.prog X ∧ X 14 [(aC r_33)] ⟨[(aB r_33)],[(4,2),(4,1)]⟩ = some (bA r_49,none) ∧ X 15 [(aC x_50)] ⟨[(aB r_33)],[(4,2),(4,1)]⟩ = some (bI r_51,none):=⟨_,dI hT_54.1,dX hT_54.2 0 _ [(aC r_33)] _ rfl rfl rfl rfl (by simp; try rfl) (fun _ => eS _ _ _ _),dX hT_54.2 1 _ [(aC x_50)] _ rfl rfl rfl rfl (by simp; try rfl) (fun _ => fS _ _ _ _)⟩
            refine qG hX_53 [(1,.cl (bA r_49)),(4,.rop (aB x_50)),(6,.cl (bI r_51)),(8,.eq (.bool true))] [] [12,13,14,157] [X_53 14 [(aC r_33)] ⟨[(aB r_33)],[(4,2),(4,1)]⟩ = some (bA r_49,none),LGet (([s_1,r_14.1,r_14.1,(⟨l_19,l_21⟩ : aH)] : List aH).map aC) i_27 2 (aB x_50),X_53 15 [(aC x_50)] ⟨[(aB r_33)],[(4,2),(4,1)]⟩ = some (bI r_51,none),AV.bool (r_49 != r_51) = AV.bool true] [] (mkS 159 [(12,.sl (([s_1,r_14.1,r_14.1,(⟨l_19,l_21⟩ : aH)] : List aH).map aC) (some 0)),(13,.sl (([plan_2,r_22.1,plan_2,plan_2] : List (List aG)).map (SV aA)) (some 1)),(14,i6 i_27),(15,.ptr 0 0),(16,.sl (r_35.map aA) none),(17,i6 r_37.1),(18,i6 r_37.2),(19,i6 r_40.1),(20,i6 r_40.2),(21,i6 r_42.1),(22,i6 r_42.2),(23,i6 r_44.1),(24,i6 r_44.2),(112,(aC r_33)),(113,i6 r_49),(114,.sl (([s_1,r_14.1,r_14.1,(⟨l_19,l_21⟩ : aH)] : List aH).map aC) (some 0)),(115,i6 i_27),(116,.rop (aB x_50)),(117,(aC x_50)),(118,i6 r_51),(119,.bool (r_49 != r_51)),(120,.bool true),(121,.tup []),(122,.tup []),(123,.tup []),(124,.bool true),(125,.bool true),(126,.tup []),(127,.tup []),(128,.tup []),(129,.bool true),(130,.bool true),(131,.tup []),(132,.tup []),(133,.tup []),(134,.bool true),(135,.bool true),(136,.tup []),(137,.tup []),(138,.tup []),(139,.bool true),(140,.bool true),(141,.tup []),(142,.tup []),(143,.tup []),(144,.tup []),(145,.tup []),(146,.tup []),(147,.tup []),(148,.bool true),(149,.bool true),(150,.tup []),(151,.tup []),(152,.tup []),(153,.tup []),(154,.tup [])]) (mkS 159 [(12,.sl (([s_1,r_14.1,r_14.1,(⟨l_19,l_21⟩ : aH)] : List aH).map aC) (some 0)),(13,.sl (([plan_2,r_22.1,plan_2,plan_2] : List (List aG)).map (SV aA)) (some 1)),(14,i6 i_27),(157,.bool true)]) (by kernel_rfl) (by kernel_rfl) ⟨hcl_55,LGet.of hx_50 rfl,hcl_56,congrArg AV.bool hc_52,trivial⟩ (by kernel_rfl) trivial ?_
            (try simp only [reduceCtorEq,AEx.ex.injEq,Nat.reduceEqDiff,if_true,if_false])
            exact ⟨_,_,bM (m:=159) 0 [0,1] [(12,.sl (([s_1,r_14.1,r_14.1,(⟨l_19,l_21⟩ : aH)] : List aH).map aC) (some 0)),(13,.sl (([plan_2,r_22.1,plan_2,plan_2] : List (List aG)).map (SV aA)) (some 1)),(14,i6 i_27),(157,.bool true)] [] [(4,2),(4,1)] (by simp [bD]) (by simp) ⟨(reT (dN _) rfl),(reT (cR (fun _ => (by simp only [SV,AV.clean]; exact (cF _))) _) rfl),rfl,rfl,trivial⟩ (by simp) rfl (by decide),true,h,rfl,rfl⟩
           ·rcases aY h with ⟨hc_57,h⟩ | ⟨hc_57,h⟩
            ·have hT_59 : fH Tryz.prog [⟨14,[(aC r_33)],[],(bA r_49),[]⟩,⟨15,[(aC x_50)],[],(bI r_51),[]⟩] ∧ eF [⟨14,[(aC r_33)],[],(bA r_49),[]⟩,⟨15,[(aC x_50)],[],(bI r_51),[]⟩]:=⟨⟨(eR N r_33 r_49 hr_49),rfl,(fP N x_50 r_51 hr_51),rfl,trivial⟩,⟨⟨iH.ne rfl,trivial⟩,trivial,trivial⟩⟩
             obtain ⟨X_58,hX_58,hcl_60,hcl_61⟩ : ∃ X : Clr,eE Tryz.prog X ∧ X 14 [(aC r_33)] ⟨[(aB r_33)],[(4,2),(4,1)]⟩ = some (bA r_49,none) ∧ X 15 [(aC x_50)] ⟨[(aB r_33)],[(4,2),(4,1)]⟩ = some (bI r_51,none):=⟨_,dI hT_59.1,dX hT_59.2 0 _ [(aC r_33)] _ rfl rfl rfl rfl (by simp; try rfl) (fun _ => eS _ _ _ _),dX hT_59.2 1 _ [(aC x_50)] _ rfl rfl rfl rfl (by simp; try rfl) (fun _ => fS _ _ _ _)⟩
             refine qG hX_58 [(1,.cl (bA r_49)),(4,.rop (aB x_50)),(6,.cl (bI r_51)),(8,.eq (.bool false)),(13,.eq (.bool true))] [] [12,13,14,157] [X_58 14 [(aC r_33)] ⟨[(aB r_33)],[(4,2),(4,1)]⟩ = some (bA r_49,none),LGet (([s_1,r_14.1,r_14.1,(⟨l_19,l_21⟩ : aH)] : List aH).map aC) i_27 2 (aB x_50),X_58 15 [(aC x_50)] ⟨[(aB r_33)],[(4,2),(4,1)]⟩ = some (bI r_51,none),AV.bool (r_49 != r_51) = AV.bool false,AV.bool (r_37.1 != r_40.1) = AV.bool true] [] (mkS 159 [(12,.sl (([s_1,r_14.1,r_14.1,(⟨l_19,l_21⟩ : aH)] : List aH).map aC) (some 0)),(13,.sl (([plan_2,r_22.1,plan_2,plan_2] : List (List aG)).map (SV aA)) (some 1)),(14,i6 i_27),(15,.ptr 0 0),(16,.sl (r_35.map aA) none),(17,i6 r_37.1),(18,i6 r_37.2),(19,i6 r_40.1),(20,i6 r_40.2),(21,i6 r_42.1),(22,i6 r_42.2),(23,i6 r_44.1),(24,i6 r_44.2),(112,(aC r_33)),(113,i6 r_49),(114,.sl (([s_1,r_14.1,r_14.1,(⟨l_19,l_21⟩ : aH)] : List aH).map aC) (some 0)),(115,i6 i_27),(116,.rop (aB x_50)),(117,(aC x_50)),(118,i6 r_51),(119,.bool (r_49 != r_51)),(120,.bool false),(121,i6 r_37.1),(122,i6 r_40.1),(123,.bool (r_37.1 != r_40.1)),(124,.bool (r_37.1 != r_40.1)),(125,.bool true),(126,.tup []),(127,.tup []),(128,.tup []),(129,.bool true),(130,.bool true),(131,.tup []),(132,.tup []),(133,.tup []),(134,.bool true),(135,.bool true),(136,.tup []),(137,.tup []),(138,.tup []),(139,.bool true),(140,.bool true),(141,.tup []),(142,.tup []),(143,.tup []),(144,.tup []),(145,.tup []),(146,.tup []),(147,.tup []),(148,.bool true),(149,.bool true),(150,.tup []),(151,.tup []),(152,.tup []),(153,.tup []),(154,.tup [])]) (mkS 159 [(12,.sl (([s_1,r_14.1,r_14.1,(⟨l_19,l_21⟩ : aH)] : List aH).map aC) (some 0)),(13,.sl (([plan_2,r_22.1,plan_2,plan_2] : List (List aG)).map (SV aA)) (some 1)),(14,i6 i_27),(157,.bool true)]) (by kernel_rfl) (by kernel_rfl) ⟨hcl_60,LGet.of hx_50 rfl,hcl_61,congrArg AV.bool hc_52,congrArg AV.bool hc_57,trivial⟩ (by kernel_rfl) trivial ?_
             (try simp only [reduceCtorEq,AEx.ex.injEq,Nat.reduceEqDiff,if_true,if_false])
             exact ⟨_,_,bM (m:=159) 0 [0,1] [(12,.sl (([s_1,r_14.1,r_14.1,(⟨l_19,l_21⟩ : aH)] : List aH).map aC) (some 0)),(13,.sl (([plan_2,r_22.1,plan_2,plan_2] : List (List aG)).map (SV aA)) (some 1)),(14,i6 i_27),(157,.bool true)] [] [(4,2),(4,1)] (by simp [bD]) (by simp) ⟨(reT (dN _) rfl),(reT (cR (fun _ => (by simp only [SV,AV.clean]; exact (cF _))) _) rfl),rfl,rfl,trivial⟩ (by simp) rfl (by decide),true,h,rfl,rfl⟩
            ·rcases aY h with ⟨hc_62,h⟩ | ⟨hc_62,h⟩
             ·have hT_64 : fH Tryz.prog [⟨14,[(aC r_33)],[],(bA r_49),[]⟩,⟨15,[(aC x_50)],[],(bI r_51),[]⟩] ∧ eF [⟨14,[(aC r_33)],[],(bA r_49),[]⟩,⟨15,[(aC x_50)],[],(bI r_51),[]⟩]:=⟨⟨(eR N r_33 r_49 hr_49),rfl,(fP N x_50 r_51 hr_51),rfl,trivial⟩,⟨⟨iH.ne rfl,trivial⟩,trivial,trivial⟩⟩
              obtain ⟨X_63,hX_63,hcl_65,hcl_66⟩ : ∃ X : Clr,eE Tryz.prog X ∧ X 14 [(aC r_33)] ⟨[(aB r_33)],[(4,2),(4,1)]⟩ = some (bA r_49,none) ∧ X 15 [(aC x_50)] ⟨[(aB r_33)],[(4,2),(4,1)]⟩ = some (bI r_51,none):=⟨_,dI hT_64.1,dX hT_64.2 0 _ [(aC r_33)] _ rfl rfl rfl rfl (by simp; try rfl) (fun _ => eS _ _ _ _),dX hT_64.2 1 _ [(aC x_50)] _ rfl rfl rfl rfl (by simp; try rfl) (fun _ => fS _ _ _ _)⟩
              refine qG hX_63 [(1,.cl (bA r_49)),(4,.rop (aB x_50)),(6,.cl (bI r_51)),(8,.eq (.bool false)),(13,.eq (.bool false)),(18,.eq (.bool true))] [] [12,13,14,157] [X_63 14 [(aC r_33)] ⟨[(aB r_33)],[(4,2),(4,1)]⟩ = some (bA r_49,none),LGet (([s_1,r_14.1,r_14.1,(⟨l_19,l_21⟩ : aH)] : List aH).map aC) i_27 2 (aB x_50),X_63 15 [(aC x_50)] ⟨[(aB r_33)],[(4,2),(4,1)]⟩ = some (bI r_51,none),AV.bool (r_49 != r_51) = AV.bool false,AV.bool (r_37.1 != r_40.1) = AV.bool false,AV.bool (r_37.2 != r_40.2) = AV.bool true] [] (mkS 159 [(12,.sl (([s_1,r_14.1,r_14.1,(⟨l_19,l_21⟩ : aH)] : List aH).map aC) (some 0)),(13,.sl (([plan_2,r_22.1,plan_2,plan_2] : List (List aG)).map (SV aA)) (some 1)),(14,i6 i_27),(15,.ptr 0 0),(16,.sl (r_35.map aA) none),(17,i6 r_37.1),(18,i6 r_37.2),(19,i6 r_40.1),(20,i6 r_40.2),(21,i6 r_42.1),(22,i6 r_42.2),(23,i6 r_44.1),(24,i6 r_44.2),(112,(aC r_33)),(113,i6 r_49),(114,.sl (([s_1,r_14.1,r_14.1,(⟨l_19,l_21⟩ : aH)] : List aH).map aC) (some 0)),(115,i6 i_27),(116,.rop (aB x_50)),(117,(aC x_50)),(118,i6 r_51),(119,.bool (r_49 != r_51)),(120,.bool false),(121,i6 r_37.1),(122,i6 r_40.1),(123,.bool (r_37.1 != r_40.1)),(124,.bool (r_37.1 != r_40.1)),(125,.bool false),(126,i6 r_37.2),(127,i6 r_40.2),(128,.bool (r_37.2 != r_40.2)),(129,.bool (r_37.2 != r_40.2)),(130,.bool true),(131,.tup []),(132,.tup []),(133,.tup []),(134,.bool true),(135,.bool true),(136,.tup []),(137,.tup []),(138,.tup []),(139,.bool true),(140,.bool true),(141,.tup []),(142,.tup []),(143,.tup []),(144,.tup []),(145,.tup []),(146,.tup []),(147,.tup []),(148,.bool true),(149,.bool true),(150,.tup []),(151,.tup []),(152,.tup []),(153,.tup []),(154,.tup [])]) (mkS 159 [(12,.sl (([s_1,r_14.1,r_14.1,(⟨l_19,l_21⟩ : aH)] : List aH).map aC) (some 0)),(13,.sl (([plan_2,r_22.1,plan_2,plan_2] : List (List aG)).map (SV aA)) (some 1)),(14,i6 i_27),(157,.bool true)]) (by kernel_rfl) (by kernel_rfl) ⟨hcl_65,LGet.of hx_50 rfl,hcl_66,congrArg AV.bool hc_52,congrArg AV.bool hc_57,congrArg AV.bool hc_62,trivial⟩ (by kernel_rfl) trivial ?_
              (try simp only [reduceCtorEq,AEx.ex.injEq,Nat.reduceEqDiff,if_true,if_false])
              exact ⟨_,_,bM (m:=159) 0 [0,1] [(12,.sl (([s_1,r_14.1,r_14.1,(⟨l_19,l_21⟩ : aH)] : List aH).map aC) (some 0)),(13,.sl (([plan_2,r_22.1,plan_2,plan_2] : List (List aG)).map (SV aA)) (some 1)),(14,i6 i_27),(157,.bool true)] [] [(4,2),(4,1)] (by simp [bD]) (by simp) ⟨(reT (dN _) rfl),(reT (cR (fun _ => (by simp only [SV,AV.clean]; exact (cF _))) _) rfl),rfl,rfl,trivial⟩ (by simp) rfl (by decide),true,h,rfl,rfl⟩
             ·rcases aY h with ⟨hc_67,h⟩ | ⟨hc_67,h⟩
              ·have hT_69 : fH Tryz.prog [⟨14,[(aC r_33)],[],(bA r_49),[]⟩,⟨15,[(aC x_50)],[],(bI r_51),[]⟩] ∧ eF [⟨14,[(aC r_33)],[],(bA r_49),[]⟩,⟨15,[(aC x_50)],[],(bI r_51),[]⟩]:=⟨⟨(eR N r_33 r_49 hr_49),rfl,(fP N x_50 r_51 hr_51),rfl,trivial⟩,⟨⟨iH.ne rfl,trivial⟩,trivial,trivial⟩⟩
               obtain ⟨X_68,hX_68,hcl_70,hcl_71⟩ : ∃ X : Clr,eE Tryz.prog X ∧ X 14 [(aC r_33)] ⟨[(aB r_33)],[(4,2),(4,1)]⟩ = some (bA r_49,none) ∧ X 15 [(aC x_50)] ⟨[(aB r_33)],[(4,2),(4,1)]⟩ = some (bI r_51,none):=⟨_,dI hT_69.1,dX hT_69.2 0 _ [(aC r_33)] _ rfl rfl rfl rfl (by simp; try rfl) (fun _ => eS _ _ _ _),dX hT_69.2 1 _ [(aC x_50)] _ rfl rfl rfl rfl (by simp; try rfl) (fun _ => fS _ _ _ _)⟩
               refine qG hX_68 [(1,.cl (bA r_49)),(4,.rop (aB x_50)),(6,.cl (bI r_51)),(8,.eq (.bool false)),(13,.eq (.bool false)),(18,.eq (.bool false)),(23,.eq (.bool true))] [] [12,13,14,157] [X_68 14 [(aC r_33)] ⟨[(aB r_33)],[(4,2),(4,1)]⟩ = some (bA r_49,none),LGet (([s_1,r_14.1,r_14.1,(⟨l_19,l_21⟩ : aH)] : List aH).map aC) i_27 2 (aB x_50),X_68 15 [(aC x_50)] ⟨[(aB r_33)],[(4,2),(4,1)]⟩ = some (bI r_51,none),AV.bool (r_49 != r_51) = AV.bool false,AV.bool (r_37.1 != r_40.1) = AV.bool false,AV.bool (r_37.2 != r_40.2) = AV.bool false,AV.bool (r_42.1 != r_44.1) = AV.bool true] [] (mkS 159 [(12,.sl (([s_1,r_14.1,r_14.1,(⟨l_19,l_21⟩ : aH)] : List aH).map aC) (some 0)),(13,.sl (([plan_2,r_22.1,plan_2,plan_2] : List (List aG)).map (SV aA)) (some 1)),(14,i6 i_27),(15,.ptr 0 0),(16,.sl (r_35.map aA) none),(17,i6 r_37.1),(18,i6 r_37.2),(19,i6 r_40.1),(20,i6 r_40.2),(21,i6 r_42.1),(22,i6 r_42.2),(23,i6 r_44.1),(24,i6 r_44.2),(112,(aC r_33)),(113,i6 r_49),(114,.sl (([s_1,r_14.1,r_14.1,(⟨l_19,l_21⟩ : aH)] : List aH).map aC) (some 0)),(115,i6 i_27),(116,.rop (aB x_50)),(117,(aC x_50)),(118,i6 r_51),(119,.bool (r_49 != r_51)),(120,.bool false),(121,i6 r_37.1),(122,i6 r_40.1),(123,.bool (r_37.1 != r_40.1)),(124,.bool (r_37.1 != r_40.1)),(125,.bool false),(126,i6 r_37.2),(127,i6 r_40.2),(128,.bool (r_37.2 != r_40.2)),(129,.bool (r_37.2 != r_40.2)),(130,.bool false),(131,i6 r_42.1),(132,i6 r_44.1),(133,.bool (r_42.1 != r_44.1)),(134,.bool (r_42.1 != r_44.1)),(135,.bool true),(136,.tup []),(137,.tup []),(138,.tup []),(139,.bool true),(140,.bool true),(141,.tup []),(142,.tup []),(143,.tup []),(144,.tup []),(145,.tup []),(146,.tup []),(147,.tup []),(148,.bool true),(149,.bool true),(150,.tup []),(151,.tup []),(152,.tup []),(153,.tup []),(154,.tup [])]) (mkS 159 [(12,.sl (([s_1,r_14.1,r_14.1,(⟨l_19,l_21⟩ : aH)] : List aH).map aC) (some 0)),(13,.sl (([plan_2,r_22.1,plan_2,plan_2] : List (List aG)).map (SV aA)) (some 1)),(14,i6 i_27),(157,.bool true)]) (by kernel_rfl) (by kernel_rfl) ⟨hcl_70,LGet.of hx_50 rfl,hcl_71,congrArg AV.bool hc_52,congrArg AV.bool hc_57,congrArg AV.bool hc_62,congrArg AV.bool hc_67,trivial⟩ (by kernel_rfl) trivial ?_
               (try simp only [reduceCtorEq,AEx.ex.injEq,Nat.reduceEqDiff,if_true,if_false])
               exact ⟨_,_,bM (m:=159) 0 [0,1] [(12,.sl (([s_1,r_14.1,r_14.1,(⟨l_19,l_21⟩ : aH)] : List aH).map aC) (some 0)),(13,.sl (([plan_2,r_22.1,plan_2,plan_2] : List (List aG)).map (SV aA)) (some 1)),(14,i6 i_27),(157,.bool true)] [] [(4,2),(4,1)] (by simp [bD]) (by simp) ⟨(reT (dN _) rfl),(reT (cR (fun _ => (by simp only [SV,AV.clean]; exact (cF _))) _) rfl),rfl,rfl,trivial⟩ (by simp) rfl (by decide),true,h,rfl,rfl⟩
              ·rcases aY h with ⟨hc_72,h⟩ | ⟨hc_72,h⟩
               ·have hT_74 : fH Tryz.prog [⟨14,[(aC r_33)],[],(bA r_49),[]⟩,⟨15,[(aC x_50)],[],(bI r_51),[]⟩] ∧ eF [⟨14,[(aC r_33)],[],(bA r_49),[]⟩,⟨15,[(aC x_50)],[],(bI r_51),[]⟩]:=⟨⟨(eR N r_33 r_49 hr_49),rfl,(fP N x_50 r_51 hr_51),rfl,trivial⟩,⟨⟨iH.ne rfl,trivial⟩,trivial,trivial⟩⟩
                obtain ⟨X_73,hX_73,hcl_75,hcl_76⟩ : ∃ X : Clr,eE Tryz.prog X ∧ X 14 [(aC r_33)] ⟨[(aB r_33)],[(4,2),(4,1)]⟩ = some (bA r_49,none) ∧ X 15 [(aC x_50)] ⟨[(aB r_33)],[(4,2),(4,1)]⟩ = some (bI r_51,none):=⟨_,dI hT_74.1,dX hT_74.2 0 _ [(aC r_33)] _ rfl rfl rfl rfl (by simp; try rfl) (fun _ => eS _ _ _ _),dX hT_74.2 1 _ [(aC x_50)] _ rfl rfl rfl rfl (by simp; try rfl) (fun _ => fS _ _ _ _)⟩
                refine qG hX_73 [(1,.cl (bA r_49)),(4,.rop (aB x_50)),(6,.cl (bI r_51)),(8,.eq (.bool false)),(13,.eq (.bool false)),(18,.eq (.bool false)),(23,.eq (.bool false)),(28,.eq (.bool true))] [] [12,13,14,157] [X_73 14 [(aC r_33)] ⟨[(aB r_33)],[(4,2),(4,1)]⟩ = some (bA r_49,none),LGet (([s_1,r_14.1,r_14.1,(⟨l_19,l_21⟩ : aH)] : List aH).map aC) i_27 2 (aB x_50),X_73 15 [(aC x_50)] ⟨[(aB r_33)],[(4,2),(4,1)]⟩ = some (bI r_51,none),AV.bool (r_49 != r_51) = AV.bool false,AV.bool (r_37.1 != r_40.1) = AV.bool false,AV.bool (r_37.2 != r_40.2) = AV.bool false,AV.bool (r_42.1 != r_44.1) = AV.bool false,AV.bool (r_42.2 != r_44.2) = AV.bool true] [] (mkS 159 [(12,.sl (([s_1,r_14.1,r_14.1,(⟨l_19,l_21⟩ : aH)] : List aH).map aC) (some 0)),(13,.sl (([plan_2,r_22.1,plan_2,plan_2] : List (List aG)).map (SV aA)) (some 1)),(14,i6 i_27),(15,.ptr 0 0),(16,.sl (r_35.map aA) none),(17,i6 r_37.1),(18,i6 r_37.2),(19,i6 r_40.1),(20,i6 r_40.2),(21,i6 r_42.1),(22,i6 r_42.2),(23,i6 r_44.1),(24,i6 r_44.2),(112,(aC r_33)),(113,i6 r_49),(114,.sl (([s_1,r_14.1,r_14.1,(⟨l_19,l_21⟩ : aH)] : List aH).map aC) (some 0)),(115,i6 i_27),(116,.rop (aB x_50)),(117,(aC x_50)),(118,i6 r_51),(119,.bool (r_49 != r_51)),(120,.bool false),(121,i6 r_37.1),(122,i6 r_40.1),(123,.bool (r_37.1 != r_40.1)),(124,.bool (r_37.1 != r_40.1)),(125,.bool false),(126,i6 r_37.2),(127,i6 r_40.2),(128,.bool (r_37.2 != r_40.2)),(129,.bool (r_37.2 != r_40.2)),(130,.bool false),(131,i6 r_42.1),(132,i6 r_44.1),(133,.bool (r_42.1 != r_44.1)),(134,.bool (r_42.1 != r_44.1)),(135,.bool false),(136,i6 r_42.2),(137,i6 r_44.2),(138,.bool (r_42.2 != r_44.2)),(139,.bool (r_42.2 != r_44.2)),(140,.bool true),(141,.tup []),(142,.tup []),(143,.tup []),(144,.tup []),(145,.tup []),(146,.tup []),(147,.tup []),(148,.bool true),(149,.bool true),(150,.tup []),(151,.tup []),(152,.tup []),(153,.tup []),(154,.tup [])]) (mkS 159 [(12,.sl (([s_1,r_14.1,r_14.1,(⟨l_19,l_21⟩ : aH)] : List aH).map aC) (some 0)),(13,.sl (([plan_2,r_22.1,plan_2,plan_2] : List (List aG)).map (SV aA)) (some 1)),(14,i6 i_27),(157,.bool true)]) (by kernel_rfl) (by kernel_rfl) ⟨hcl_75,LGet.of hx_50 rfl,hcl_76,congrArg AV.bool hc_52,congrArg AV.bool hc_57,congrArg AV.bool hc_62,congrArg AV.bool hc_67,congrArg AV.bool hc_72,trivial⟩ (by kernel_rfl) trivial ?_
                (try simp only [reduceCtorEq,AEx.ex.injEq,Nat.reduceEqDiff,if_true,if_false])
                exact ⟨_,_,bM (m:=159) 0 [0,1] [(12,.sl (([s_1,r_14.1,r_14.1,(⟨l_19,l_21⟩ : aH)] : List aH).map aC) (some 0)),(13,.sl (([plan_2,r_22.1,plan_2,plan_2] : List (List aG)).map (SV aA)) (some 1)),(14,i6 i_27),(157,.bool true)] [] [(4,2),(4,1)] (by simp [bD]) (by simp) ⟨(reT (dN _) rfl),(reT (cR (fun _ => (by simp only [SV,AV.clean]; exact (cF _))) _) rfl),rfl,rfl,trivial⟩ (by simp) rfl (by decide),true,h,rfl,rfl⟩
               ·obtain ⟨x_77,hx_77,h⟩:=bE h
                obtain ⟨r_78,hr_78,h⟩:=bE h
                rcases aY h with ⟨hc_79,h⟩ | ⟨hc_79,h⟩
                ·have hT_81 : fH Tryz.prog [⟨14,[(aC r_33)],[],(bA r_49),[]⟩,⟨15,[(aC x_50)],[],(bI r_51),[]⟩,⟨16,[(aC r_33),(aC x_77)],[],(dE r_78),[]⟩] ∧ eF [⟨14,[(aC r_33)],[],(bA r_49),[]⟩,⟨15,[(aC x_50)],[],(bI r_51),[]⟩,⟨16,[(aC r_33),(aC x_77)],[],(dE r_78),[]⟩]:=⟨⟨(eR N r_33 r_49 hr_49),rfl,(fP N x_50 r_51 hr_51),rfl,(uO N r_33 x_77 r_78 hr_78),rfl,trivial⟩,⟨⟨iH.ne rfl,iH.ne rfl,trivial⟩,⟨iH.ne rfl,trivial⟩,trivial,trivial⟩⟩
                 obtain ⟨X_80,hX_80,hcl_82,hcl_83,hcl_84⟩ : ∃ X : Clr,eE Tryz.prog X ∧ X 14 [(aC r_33)] ⟨[(aB r_33)],[(4,2),(4,1)]⟩ = some (bA r_49,none) ∧ X 15 [(aC x_50)] ⟨[(aB r_33)],[(4,2),(4,1)]⟩ = some (bI r_51,none) ∧ X 16 [(aC r_33),(aC x_77)] ⟨[(aB r_33)],[(4,2),(4,1)]⟩ = some (dE r_78,none):=⟨_,dI hT_81.1,dX hT_81.2 0 _ [(aC r_33)] _ rfl rfl rfl rfl (by simp; try rfl) (fun _ => eS _ _ _ _),dX hT_81.2 1 _ [(aC x_50)] _ rfl rfl rfl rfl (by simp; try rfl) (fun _ => fS _ _ _ _),dX hT_81.2 2 _ [(aC r_33),(aC x_77)] _ rfl rfl rfl rfl (by simp; try rfl) (fun _ => uV _ _ _ _)⟩
                 refine qG hX_80 [(1,.cl (bA r_49)),(4,.rop (aB x_50)),(6,.cl (bI r_51)),(8,.eq (.bool false)),(13,.eq (.bool false)),(18,.eq (.bool false)),(23,.eq (.bool false)),(28,.eq (.bool false)),(32,.rop (aB x_77)),(34,.cl (dE r_78)),(37,.eq (.bool true))] [] [12,13,14,157] [X_80 14 [(aC r_33)] ⟨[(aB r_33)],[(4,2),(4,1)]⟩ = some (bA r_49,none),LGet (([s_1,r_14.1,r_14.1,(⟨l_19,l_21⟩ : aH)] : List aH).map aC) i_27 2 (aB x_50),X_80 15 [(aC x_50)] ⟨[(aB r_33)],[(4,2),(4,1)]⟩ = some (bI r_51,none),AV.bool (r_49 != r_51) = AV.bool false,AV.bool (r_37.1 != r_40.1) = AV.bool false,AV.bool (r_37.2 != r_40.2) = AV.bool false,AV.bool (r_42.1 != r_44.1) = AV.bool false,AV.bool (r_42.2 != r_44.2) = AV.bool false,LGet (([s_1,r_14.1,r_14.1,(⟨l_19,l_21⟩ : aH)] : List aH).map aC) i_27 2 (aB x_77),X_80 16 [(aC r_33),(aC x_77)] ⟨[(aB r_33)],[(4,2),(4,1)]⟩ = some (dE r_78,none),AV.bool (!r_78) = AV.bool true] [] (mkS 159 [(12,.sl (([s_1,r_14.1,r_14.1,(⟨l_19,l_21⟩ : aH)] : List aH).map aC) (some 0)),(13,.sl (([plan_2,r_22.1,plan_2,plan_2] : List (List aG)).map (SV aA)) (some 1)),(14,i6 i_27),(15,.ptr 0 0),(16,.sl (r_35.map aA) none),(17,i6 r_37.1),(18,i6 r_37.2),(19,i6 r_40.1),(20,i6 r_40.2),(21,i6 r_42.1),(22,i6 r_42.2),(23,i6 r_44.1),(24,i6 r_44.2),(112,(aC r_33)),(113,i6 r_49),(114,.sl (([s_1,r_14.1,r_14.1,(⟨l_19,l_21⟩ : aH)] : List aH).map aC) (some 0)),(115,i6 i_27),(116,.rop (aB x_50)),(117,(aC x_50)),(118,i6 r_51),(119,.bool (r_49 != r_51)),(120,.bool false),(121,i6 r_37.1),(122,i6 r_40.1),(123,.bool (r_37.1 != r_40.1)),(124,.bool (r_37.1 != r_40.1)),(125,.bool false),(126,i6 r_37.2),(127,i6 r_40.2),(128,.bool (r_37.2 != r_40.2)),(129,.bool (r_37.2 != r_40.2)),(130,.bool false),(131,i6 r_42.1),(132,i6 r_44.1),(133,.bool (r_42.1 != r_44.1)),(134,.bool (r_42.1 != r_44.1)),(135,.bool false),(136,i6 r_42.2),(137,i6 r_44.2),(138,.bool (r_42.2 != r_44.2)),(139,.bool (r_42.2 != r_44.2)),(140,.bool false),(141,(aC r_33)),(142,.sl (([s_1,r_14.1,r_14.1,(⟨l_19,l_21⟩ : aH)] : List aH).map aC) (some 0)),(143,i6 i_27),(144,.rop (aB x_77)),(145,(aC x_77)),(146,.bool r_78),(147,.bool (!r_78)),(148,.bool (!r_78)),(149,.bool true),(150,.tup []),(151,.tup []),(152,.tup []),(153,.tup []),(154,.tup [])]) (mkS 159 [(12,.sl (([s_1,r_14.1,r_14.1,(⟨l_19,l_21⟩ : aH)] : List aH).map aC) (some 0)),(13,.sl (([plan_2,r_22.1,plan_2,plan_2] : List (List aG)).map (SV aA)) (some 1)),(14,i6 i_27),(157,.bool true)]) (by kernel_rfl) (by kernel_rfl) ⟨hcl_82,LGet.of hx_50 rfl,hcl_83,congrArg AV.bool hc_52,congrArg AV.bool hc_57,congrArg AV.bool hc_62,congrArg AV.bool hc_67,congrArg AV.bool hc_72,LGet.of hx_77 rfl,hcl_84,congrArg AV.bool hc_79,trivial⟩ (by kernel_rfl) trivial ?_
                 (try simp only [reduceCtorEq,AEx.ex.injEq,Nat.reduceEqDiff,if_true,if_false])
                 exact ⟨_,_,bM (m:=159) 0 [0,1] [(12,.sl (([s_1,r_14.1,r_14.1,(⟨l_19,l_21⟩ : aH)] : List aH).map aC) (some 0)),(13,.sl (([plan_2,r_22.1,plan_2,plan_2] : List (List aG)).map (SV aA)) (some 1)),(14,i6 i_27),(157,.bool true)] [] [(4,2),(4,1)] (by simp [bD]) (by simp) ⟨(reT (dN _) rfl),(reT (cR (fun _ => (by simp only [SV,AV.clean]; exact (cF _))) _) rfl),rfl,rfl,trivial⟩ (by simp) rfl (by decide),true,h,rfl,rfl⟩
                ·obtain ⟨x_85,hx_85,h⟩:=bE h
                 have hT_86 : fH Tryz.prog [⟨14,[(aC r_33)],[],(bA r_49),[]⟩,⟨15,[(aC x_50)],[],(bI r_51),[]⟩,⟨16,[(aC r_33),(aC x_77)],[],(dE r_78),[]⟩] ∧ eF [⟨14,[(aC r_33)],[],(bA r_49),[]⟩,⟨15,[(aC x_50)],[],(bI r_51),[]⟩,⟨16,[(aC r_33),(aC x_77)],[],(dE r_78),[]⟩]:=⟨⟨(eR N r_33 r_49 hr_49),rfl,(fP N x_50 r_51 hr_51),rfl,(uO N r_33 x_77 r_78 hr_78),rfl,trivial⟩,⟨⟨iH.ne rfl,iH.ne rfl,trivial⟩,⟨iH.ne rfl,trivial⟩,trivial,trivial⟩⟩
                 refine Ex.drawE (a1:=mkS 159 [(12,.sl (([s_1,r_14.1,r_14.1,(⟨l_19,l_21⟩ : aH)] : List aH).map aC) (some 0)),(13,.sl (([plan_2,r_22.1,plan_2,plan_2] : List (List aG)).map (SV aA)) (some 1)),(14,i6 i_27),(15,.ptr 0 0),(16,.sl (r_35.map aA) none),(17,i6 r_37.1),(18,i6 r_37.2),(19,i6 r_40.1),(20,i6 r_40.2),(21,i6 r_42.1),(22,i6 r_42.2),(23,i6 r_44.1),(24,i6 r_44.2),(112,(aC r_33)),(113,i6 r_49),(114,.sl (([s_1,r_14.1,r_14.1,(⟨l_19,l_21⟩ : aH)] : List aH).map aC) (some 0)),(115,i6 i_27),(116,.rop (aB x_50)),(117,(aC x_50)),(118,i6 r_51),(119,.bool (r_49 != r_51)),(120,.bool false),(121,i6 r_37.1),(122,i6 r_40.1),(123,.bool (r_37.1 != r_40.1)),(124,.bool (r_37.1 != r_40.1)),(125,.bool false),(126,i6 r_37.2),(127,i6 r_40.2),(128,.bool (r_37.2 != r_40.2)),(129,.bool (r_37.2 != r_40.2)),(130,.bool false),(131,i6 r_42.1),(132,i6 r_44.1),(133,.bool (r_42.1 != r_44.1)),(134,.bool (r_42.1 != r_44.1)),(135,.bool false),(136,i6 r_42.2),(137,i6 r_44.2),(138,.bool (r_42.2 != r_44.2)),(139,.bool (r_42.2 != r_44.2)),(140,.bool false),(141,(aC r_33)),(142,.sl (([s_1,r_14.1,r_14.1,(⟨l_19,l_21⟩ : aH)] : List aH).map aC) (some 0)),(143,i6 i_27),(144,.rop (aB x_77)),(145,(aC x_77)),(146,.bool r_78),(147,.bool (!r_78)),(148,.bool (!r_78)),(149,.bool false),(150,.sl (r_35.map aA) none),(151,.sl (([plan_2,r_22.1,plan_2,plan_2] : List (List aG)).map (SV aA)) (some 1)),(152,i6 i_27),(153,.rop [.sl (x_85.map aA) none]),(154,.sl (x_85.map aA) none)]) (dI hT_86.1) [] [] [] ?_ ?_
                 ·refine drS [0] 1 [] [] (mkS 159 [(12, .sl (([s_1, r_14.1, r_14.1, (⟨l_19, l_21⟩ : aH)] : List aH).map aC) (some 0)), (13, .sl (([plan_2, r_22.1, plan_2, plan_2] : List (List aG)).map (SV aA)) (some 1)), (14, i6 i_27), (15, .ptr 0 0), (16, .sl (r_35.map aA) none), (17, i6 r_37.1), (18, i6 r_37.2), (19, i6 r_40.1), (20, i6 r_40.2), (21, i6 r_42.1), (22, i6 r_42.2), (23, i6 r_44.1), (24, i6 r_44.2), (112, (aC r_33))]) (by simp) (by kernel_rfl) trivial (by kernel_rfl) ?_
                  refine drC hT_86.2 0 _ [(aC r_33)] (bA r_49) rfl rfl rfl rfl rfl (fun _ => rfl) rfl (by simp; try rfl) (fun _ => eS _ _ _ _) ?_
                  refine drS [0] 4 [(2,.rop (aB x_50))] [LGet (([s_1,r_14.1,r_14.1,(⟨l_19,l_21⟩ : aH)] : List aH).map aC) i_27 2 (aB x_50)] (mkS 159 [(12,.sl (([s_1,r_14.1,r_14.1,(⟨l_19,l_21⟩ : aH)] : List aH).map aC) (some 0)),(13,.sl (([plan_2,r_22.1,plan_2,plan_2] : List (List aG)).map (SV aA)) (some 1)),(14,i6 i_27),(15,.ptr 0 0),(16,.sl (r_35.map aA) none),(17,i6 r_37.1),(18,i6 r_37.2),(19,i6 r_40.1),(20,i6 r_40.2),(21,i6 r_42.1),(22,i6 r_42.2),(23,i6 r_44.1),(24,i6 r_44.2),(112,(aC r_33)),(113,i6 r_49),(114,.sl (([s_1,r_14.1,r_14.1,(⟨l_19,l_21⟩ : aH)] : List aH).map aC) (some 0)),(115,i6 i_27),(116,.rop (aB x_50)),(117,(aC x_50))]) (by simp) (by kernel_rfl) ⟨LGet.of hx_50 rfl,trivial⟩ (by kernel_rfl) ?_
                  refine drC hT_86.2 1 _ [(aC x_50)] (bI r_51) rfl rfl rfl rfl rfl (fun _ => rfl) rfl (by simp; try rfl) (fun _ => fS _ _ _ _) ?_
                  refine drS [0] 27 [(1,.eq (.bool false)),(6,.eq (.bool false)),(11,.eq (.bool false)),(16,.eq (.bool false)),(21,.eq (.bool false)),(25,.rop (aB x_77))] [AV.bool (r_49 != r_51) = AV.bool false,AV.bool (r_37.1 != r_40.1) = AV.bool false,AV.bool (r_37.2 != r_40.2) = AV.bool false,AV.bool (r_42.1 != r_44.1) = AV.bool false,AV.bool (r_42.2 != r_44.2) = AV.bool false,LGet (([s_1,r_14.1,r_14.1,(⟨l_19,l_21⟩ : aH)] : List aH).map aC) i_27 2 (aB x_77)] (mkS 159 [(12,.sl (([s_1,r_14.1,r_14.1,(⟨l_19,l_21⟩ : aH)] : List aH).map aC) (some 0)),(13,.sl (([plan_2,r_22.1,plan_2,plan_2] : List (List aG)).map (SV aA)) (some 1)),(14,i6 i_27),(15,.ptr 0 0),(16,.sl (r_35.map aA) none),(17,i6 r_37.1),(18,i6 r_37.2),(19,i6 r_40.1),(20,i6 r_40.2),(21,i6 r_42.1),(22,i6 r_42.2),(23,i6 r_44.1),(24,i6 r_44.2),(112,(aC r_33)),(113,i6 r_49),(114,.sl (([s_1,r_14.1,r_14.1,(⟨l_19,l_21⟩ : aH)] : List aH).map aC) (some 0)),(115,i6 i_27),(116,.rop (aB x_50)),(117,(aC x_50)),(118,i6 r_51),(119,.bool (r_49 != r_51)),(120,.bool false),(121,i6 r_37.1),(122,i6 r_40.1),(123,.bool (r_37.1 != r_40.1)),(124,.bool (r_37.1 != r_40.1)),(125,.bool false),(126,i6 r_37.2),(127,i6 r_40.2),(128,.bool (r_37.2 != r_40.2)),(129,.bool (r_37.2 != r_40.2)),(130,.bool false),(131,i6 r_42.1),(132,i6 r_44.1),(133,.bool (r_42.1 != r_44.1)),(134,.bool (r_42.1 != r_44.1)),(135,.bool false),(136,i6 r_42.2),(137,i6 r_44.2),(138,.bool (r_42.2 != r_44.2)),(139,.bool (r_42.2 != r_44.2)),(140,.bool false),(141,(aC r_33)),(142,.sl (([s_1,r_14.1,r_14.1,(⟨l_19,l_21⟩ : aH)] : List aH).map aC) (some 0)),(143,i6 i_27),(144,.rop (aB x_77)),(145,(aC x_77))]) (by simp) (by kernel_rfl) ⟨congrArg AV.bool hc_52,congrArg AV.bool hc_57,congrArg AV.bool hc_62,congrArg AV.bool hc_67,congrArg AV.bool hc_72,LGet.of hx_77 rfl,trivial⟩ (by kernel_rfl) ?_
                  refine drC hT_86.2 2 _ [(aC r_33),(aC x_77)] (dE r_78) rfl rfl rfl rfl rfl (fun _ => rfl) rfl (by simp; try rfl) (fun _ => uV _ _ _ _) ?_
                  refine drS [0] 8 [(2,.eq (.bool false)),(6,.rop [.sl (x_85.map aA) none])] [AV.bool (!r_78) = AV.bool false,LGet (([plan_2,r_22.1,plan_2,plan_2] : List (List aG)).map (SV aA)) i_27 1 [.sl (x_85.map aA) none]] (mkS 159 [(12,.sl (([s_1,r_14.1,r_14.1,(⟨l_19,l_21⟩ : aH)] : List aH).map aC) (some 0)),(13,.sl (([plan_2,r_22.1,plan_2,plan_2] : List (List aG)).map (SV aA)) (some 1)),(14,i6 i_27),(15,.ptr 0 0),(16,.sl (r_35.map aA) none),(17,i6 r_37.1),(18,i6 r_37.2),(19,i6 r_40.1),(20,i6 r_40.2),(21,i6 r_42.1),(22,i6 r_42.2),(23,i6 r_44.1),(24,i6 r_44.2),(112,(aC r_33)),(113,i6 r_49),(114,.sl (([s_1,r_14.1,r_14.1,(⟨l_19,l_21⟩ : aH)] : List aH).map aC) (some 0)),(115,i6 i_27),(116,.rop (aB x_50)),(117,(aC x_50)),(118,i6 r_51),(119,.bool (r_49 != r_51)),(120,.bool false),(121,i6 r_37.1),(122,i6 r_40.1),(123,.bool (r_37.1 != r_40.1)),(124,.bool (r_37.1 != r_40.1)),(125,.bool false),(126,i6 r_37.2),(127,i6 r_40.2),(128,.bool (r_37.2 != r_40.2)),(129,.bool (r_37.2 != r_40.2)),(130,.bool false),(131,i6 r_42.1),(132,i6 r_44.1),(133,.bool (r_42.1 != r_44.1)),(134,.bool (r_42.1 != r_44.1)),(135,.bool false),(136,i6 r_42.2),(137,i6 r_44.2),(138,.bool (r_42.2 != r_44.2)),(139,.bool (r_42.2 != r_44.2)),(140,.bool false),(141,(aC r_33)),(142,.sl (([s_1,r_14.1,r_14.1,(⟨l_19,l_21⟩ : aH)] : List aH).map aC) (some 0)),(143,i6 i_27),(144,.rop (aB x_77)),(145,(aC x_77)),(146,.bool r_78),(147,.bool (!r_78)),(148,.bool (!r_78)),(149,.bool false),(150,.sl (r_35.map aA) none),(151,.sl (([plan_2,r_22.1,plan_2,plan_2] : List (List aG)).map (SV aA)) (some 1)),(152,i6 i_27),(153,.rop [.sl (x_85.map aA) none]),(154,.sl (x_85.map aA) none)]) (by simp) (by kernel_rfl) ⟨congrArg AV.bool hc_79,LGet.of hx_85 rfl,trivial⟩ (by kernel_rfl) ?_
                  exact DrO.nil rfl
                 ·dsimp only [List.getLastD_cons,List.getLastD_nil]
                  obtain ⟨r_87,hr_87,h⟩:=bE h
                  refine ExO.callL [] [.sl (r_35.map aA) none,.sl (x_85.map aA) none] rfl rfl (tC r_35 x_85) rfl rfl (sV N r_35 x_85 r_87 hr_87) (sZ _ _ _ _) rfl ?_
                  refine rn 2 [12,13,14,157] (mkS 159 [(12,.sl (([s_1,r_14.1,r_14.1,(⟨l_19,l_21⟩ : aH)] : List aH).map aC) (some 0)),(13,.sl (([plan_2,r_22.1,plan_2,plan_2] : List (List aG)).map (SV aA)) (some 1)),(14,i6 i_27),(157,.bool (!r_87))]) ⟨[(aB r_33)],[(4,2),(4,1)]⟩ ?_
                  refine ExO.nil ?_
                  (try simp only [reduceCtorEq,AEx.ex.injEq,Nat.reduceEqDiff,if_true,if_false])
                  exact ⟨_,_,bM (m:=159) 0 [0,1] [(12,.sl (([s_1,r_14.1,r_14.1,(⟨l_19,l_21⟩ : aH)] : List aH).map aC) (some 0)),(13,.sl (([plan_2,r_22.1,plan_2,plan_2] : List (List aG)).map (SV aA)) (some 1)),(14,i6 i_27),(157,.bool (!r_87))] [] [(4,2),(4,1)] (by simp [bD]) (by simp) ⟨(reT (dN _) rfl),(reT (cR (fun _ => (by simp only [SV,AV.clean]; exact (cF _))) _) rfl),rfl,rfl,trivial⟩ (by simp) rfl (by decide),(!r_87),h,rfl,rfl⟩
          ·rintro a S ⟨y_45,h,rfl,rfl⟩
           subst hK_48
           rcases aY h with ⟨hc_88,h⟩ | ⟨hc_88,h⟩
           ·refine Ex.condT _ rfl hc_88 ?_
            refine Ex.seq (rg 1 [8] (mkS 159 [(8,.bool false)]) ⟨[],[(4,2),(4,1)]⟩ ?_)
            refine Ex.ret ?_
            obtain rfl:=sJ h
            exact rt (.bool false)
           ·refine Ex.condF _ rfl hc_88 ?_
            refine Ex.skip ?_
            refine rg 3 [12,13,14] (mkS 159 [(12,.sl (([s_1,r_14.1,r_14.1,(⟨l_19,l_21⟩ : aH)] : List aH).map aC) (some 0)),(13,.sl (([plan_2,r_22.1,plan_2,plan_2] : List (List aG)).map (SV aA)) (some 1)),(14,i6 (IntKind.i64.wrap (i_27 + 1)))]) ⟨[],[(4,2),(4,1)]⟩ ?_
            dsimp only
            exact ⟨_,_,aM.refl _ _ _,k,Nat.lt_succ_self k,(IntKind.i64.wrap (i_27 + 1)),h,rfl,rfl⟩
       ·refine Ex.condF _ rfl hc_31 ?_
        refine Ex.exit ?_
        (try simp only [reduceCtorEq,AEx.ex.injEq,Nat.reduceEqDiff,if_true,if_false])
        exact ⟨_,_,bM (m:=159) 0 [] [] [] [] (by simp [bD]) (by simp) trivial (by simp) rfl (by decide),h,rfl,rfl⟩
     ·rintro a S ⟨h,rfl,rfl⟩
      subst hK_26
      refine Ex.seq ?_
      obtain ⟨r_89,hr_89,h⟩:=bE h
      refine Ex.reg ?_
      refine ExO.callL [] [] rfl rfl (wX) rfl rfl (wU N r_89 hr_89) (wV _ _ _ _) rfl ?_
      refine rn 1 [8] (mkS 159 [(8,.bool r_89)]) ⟨[],[]⟩ ?_
      refine ExO.nil ?_
      refine Ex.ret ?_
      obtain rfl:=sJ h
      exact rt (.bool r_89)
end
section
open Go.RowKit
def fstN (f : Nat → Int) (n : Nat) : Nat → Nat → Int
 | 0,_ => 0
 | k + 1,i => if i < n then (if f i ≠ 0 then f i else fstN f n k (i + 1)) else 0
theorem aAt (f : Nat → Int) (n : Nat) : ∀ (k i : Nat),n - i ≤ k → fstN f n k i = 0 → ∀ j,i ≤ j → j < n → f j = 0
 | 0,i,hk,_,j,h1,h2 => by omega
 | k + 1,i,hk,h,j,h1,h2 => by
  unfold fstN at h
  rw [if_pos (show i < n by omega)] at h
  split at h
  ·rename_i hn; exact absurd h hn
  ·rename_i hn
   by_cases e : j = i
   ·subst e; exact Classical.not_not.1 hn
   ·exact aAt f n k (i + 1) (by omega) h j (by omega) h2
theorem fstL {n : Nat} (f : Nat → Int) {K : Option Int} {body : (Int → Option Int) → Int → Option Int} (hend : ∀ rec,(∀ j,j < n → f j = 0) → body rec (n : Int) = K) (hstep : ∀ rec (i : Nat),i < n → (∀ j,j < i → f j = 0) → body rec (i : Int) = if f i ≠ 0 then some (f i) else rec ((i + 1 : Nat) : Int)) : ∀ (N i : Nat),i ≤ n → n - i < N → (∀ j,j < i → f j = 0) → ∀ k,n - i ≤ k → loop1 body N (i : Int) = if fstN f n k i ≠ 0 then some (fstN f n k i) else K
 | 0,_,_,h,_,_,_ => absurd h (Nat.not_lt_zero _)
 | N + 1,i,hi,h,hp,k,hk => by
  show body (loop1 body N) (i : Int) = _
  by_cases hlt : i < n
  ·obtain ⟨k', rfl⟩ : ∃ k', k = k' + 1 := ⟨k - 1, by omega⟩
   rw [hstep _ i hlt hp]
   unfold fstN
   rw [if_pos hlt]
   by_cases hz : f i = 0
   ·rw [if_neg (not_not_intro hz),if_neg (not_not_intro hz)]
    exact fstL f hend hstep N (i + 1) (by omega) (by omega) (fun j hj => by
     by_cases e : j = i
     ·subst e; exact hz
     ·exact hp j (by omega)) k' (by omega)
   ·rw [if_pos hz,if_pos hz,if_pos hz]
  ·have : i = n := by omega
   subst this
   rw [hend _ hp]
   have : fstN f i k i = 0:=by
    cases k with
    | zero => rfl
    | succ k => unfold fstN; rw [if_neg (Nat.lt_irrefl _)]
   rw [this]
   rfl
def fst0 (f : Nat → Int) (n : Nat) : Int:=fstN f n n 0
theorem oN {f : Nat → Int} {n : Nat} (h : fst0 f n = 0) : ∀ j,j < n → f j = 0:=fun j hj => aAt f n n 0 (by omega) h j (Nat.zero_le _) hj
theorem fstZ {n : Nat} (f : Nat → Int) {R : Option Int} {body : (Int → Option Int) → Int → Option Int} {N : Nat} (hN : n < N) (hstep : ∀ rec (i : Nat),i < n → (∀ j,j < i → f j = 0) → body rec (i : Int) = if f i ≠ 0 then some (f i) else rec ((i + 1 : Nat) : Int)) (hend : ∀ rec,body rec (n : Int) = body (fun _ => none) (n : Int)) (hR : (if fst0 f n ≠ 0 then some (fst0 f n) else body (fun _ => none) (n : Int)) = R) : loop1 body N 0 = R:=by
 rw [← hR]
 exact fstL f (fun rec _ => hend rec) hstep N 0 (Nat.zero_le _) (by omega) (fun j hj => absurd hj (Nat.not_lt_zero _)) n (by omega)
def pN (x : bH) : Int:=if ¬ (0 ≤ x.Float ∧ x.Float ≤ 6) then 2 else if ¬ (1 ≤ x.Skill ∧ x.Skill ≤ 3) then 3 else if ¬ (1 ≤ x.Days ∧ x.Days ≤ 30) then 2 else 0
def wR (J : List bH) (i : Nat) : Int:=(J[i]?.map pN).getD 0
def nX (s : aH) : Int:=if s.Workers.length = 0 then 4 else if s.Workers.length > 4 ∨ s.Jobs.length > 7 then 5 else fst0 (wR s.Jobs) s.Jobs.length
theorem uQ {s : aH} (h : nX s = 0) : GW s:=by
 unfold nX at h
 split at h
 ·cases h
 ·rename_i h1
  split at h
  ·cases h
  ·rename_i h2
   have h2 : ¬ s.Workers.length > 4 ∧ ¬ s.Jobs.length > 7:=not_or.1 h2
   refine ⟨⟨by omega,fun x hx => ?_⟩,by omega,by omega⟩
   obtain ⟨i,hi⟩:=List.mem_iff_getElem?.1 hx
   have:=oN h i (List.getElem?_eq_some_iff.1 hi).1
   unfold wR at this
   rw [hi] at this
   have this : pN x = 0:=this
   unfold pN at this
   split at this
   ·cases this
   ·split at this
    ·cases this
    ·split at this
     ·cases this
     ·omega
theorem aBI (N : Nat) (hN : 100 < N) (s : aH) (hl : s.Workers.length ≤ 50 ∧ s.Jobs.length ≤ 50) : eN N s = some (nX s):=by
 unfold eN nX
 simp only [dJ]
 by_cases h0 : s.Workers.length = 0
 ·rw [if_pos h0,beq_iff_eq.2 (by omega),cond_true]
 ·rw [if_neg h0, beq_eq_false_iff_ne.2 (by omega), cond_false]
  by_cases h1 : s.Workers.length > 4
  ·rw [if_pos (.inl h1),decide_eq_true (by omega),cond_true,cond_true]
  ·rw [decide_eq_false (by omega), cond_false]
   by_cases h2 : s.Jobs.length > 7
   ·rw [if_pos (.inr h2),decide_eq_true (by omega),cond_true]
   ·rw [if_neg (fun e => e.elim h1 h2), decide_eq_false (by omega), cond_false]
    refine fstZ (n:=s.Jobs.length) (wR s.Jobs) (by omega) (fun rec i hi _ => ?_) (fun rec => ?_) ?_
    ·have hx : s.Jobs[i]? = some s.Jobs[i]:=List.getElem?_eq_getElem hi
     have hj : wR s.Jobs i = pN s.Jobs[i]:=by simp [wR,hx]
     rw [hj,ltD hi,cond_true,bX,hx,Option.bind_some,nadd1 i (by omega)]
     generalize s.Jobs[i] = x
     unfold fJ pN
     rw [gU,Option.bind_some]
     by_cases c1 : 0 ≤ x.Float ∧ x.Float ≤ 6
     ·rw [decide_eq_true c1,Bool.not_true,cond_false,gU,Option.bind_some]
      by_cases c2 : 1 ≤ x.Skill ∧ x.Skill ≤ 3
      ·rw [decide_eq_true c2,Bool.not_true,cond_false,gU,Option.bind_some]
       by_cases c3 : 1 ≤ x.Days ∧ x.Days ≤ 30
       ·rw [decide_eq_true c3]; simp [c1,c2,c3]
       ·rw [decide_eq_false c3]; simp [c1,c2,c3]
      ·rw [decide_eq_false c2]; simp [c1,c2]
     ·rw [decide_eq_false c1]; simp [c1]
    ·rw [ltE,cond_false,cond_false]
    ·rw [ltE,cond_false]
     split
     ·rfl
     ·rename_i hz
      rw [Classical.not_not.1 hz]
theorem aBH (N : Nat) (hN : 100 < N) (s : aH) (hl : s.Workers.length ≤ 50 ∧ s.Jobs.length ≤ 50) : iB N s = some (nX s):=by
 unfold iB nX
 simp only [dJ]
 by_cases h0 : s.Workers.length = 0
 ·rw [if_pos h0,beq_iff_eq.2 (by omega),cond_true]
 ·rw [if_neg h0, beq_eq_false_iff_ne.2 (by omega), cond_false]
  by_cases h1 : s.Workers.length > 4
  ·rw [if_pos (.inl h1),decide_eq_true (by omega),cond_true,cond_true]
  ·rw [decide_eq_false (by omega), cond_false]
   by_cases h2 : s.Jobs.length > 7
   ·rw [if_pos (.inr h2),decide_eq_true (by omega),cond_true]
   ·rw [if_neg (fun e => e.elim h1 h2), decide_eq_false (by omega), cond_false]
    refine fstZ (n:=s.Jobs.length) (wR s.Jobs) (by omega) (fun rec i hi _ => ?_) (fun rec => ?_) ?_
    ·have hx : s.Jobs[i]? = some s.Jobs[i]:=List.getElem?_eq_getElem hi
     have hj : wR s.Jobs i = pN s.Jobs[i]:=by simp [wR,hx]
     rw [hj,ltD hi,cond_true,bX,hx,Option.bind_some,nadd1 i (by omega)]
     generalize s.Jobs[i] = x
     have hw : ∀ n a b,eP N n a b = some (decide (a ≤ n ∧ n ≤ b)):=fun n a b => gU N n a b
     unfold pN
     rw [hw,Option.bind_some]
     by_cases c1 : 0 ≤ x.Float ∧ x.Float ≤ 6
     ·rw [decide_eq_true c1,Bool.not_true,cond_false,hw,Option.bind_some]
      by_cases c2 : 1 ≤ x.Skill ∧ x.Skill ≤ 3
      ·rw [decide_eq_true c2,Bool.not_true,cond_false,hw,Option.bind_some]
       by_cases c3 : 1 ≤ x.Days ∧ x.Days ≤ 30
       ·rw [decide_eq_true c3]; simp [c1,c2,c3]
       ·rw [decide_eq_false c3]; simp [c1,c2,c3]
      ·rw [decide_eq_false c2]; simp [c1,c2]
     ·rw [decide_eq_false c1]; simp [c1]
    ·rw [ltE,cond_false,cond_false]
    ·rw [ltE,cond_false]
     split
     ·rfl
     ·rename_i hz
      rw [Classical.not_not.1 hz]
end
section
open Go.RowKit
def aAA (s : aH) (l : List aG) (j : Nat) : Bool:=(s.Workers[(wkL l j).toNat]?.map fun x => canW x (skL s.Jobs j)).getD false
def qS (s : aH) (l : List aG) (j : Nat) : Prop:=aftJ s.Jobs j ≠ -1 ∧ dyL l j < dyL l (aftJ s.Jobs j).toNat + dsL s.Jobs (aftJ s.Jobs j).toNat
instance (s : aH) (l : List aG) (j : Nat) : Decidable (qS s l j):=inferInstanceAs (Decidable (_ ∧ _))
def dQ (s : aH) (l : List aG) (j : Nat) : Int:=if ¬ (0 ≤ wkL l j ∧ wkL l j ≤ (s.Workers.length : Int) - 1) then 7 else if aAA s l j = false then 3 else if ¬ (0 ≤ dyL l j ∧ dyL l j ≤ 400) then 2 else if qS s l j then 9 else 0
theorem gC {s : aH} {l : List aG} {j : Nat} (h : dQ s l j = 0) : (0 ≤ dyL l j ∧ dyL l j ≤ 400) ∧ ¬ qS s l j:=by
 unfold dQ at h
 split at h
 ·cases h
 ·split at h
  ·cases h
  ·split at h
   ·cases h
   ·rename_i hd
    split at h
    ·cases h
    ·rename_i hn
     exact ⟨Classical.not_not.1 hd,hn⟩
theorem aBl (N : Nat) (hN : 100 < N) {s : aH} (h : GW s) {l : List aG} (hl : l.length = s.Jobs.length) {j : Nat} (hj : j < s.Jobs.length) (hp : ∀ i,i < j → dQ s l i = 0) : fO N s l (j : Int) = some (dQ s l j):=by
 have hn:=h.jobs.len
 have hw4:=h.w4
 have hw0:=h.w0
 have hx : l[j]? = some l[j]:=List.getElem?_eq_getElem (by omega)
 have hJx : s.Jobs[j]? = some s.Jobs[j]:=List.getElem?_eq_getElem hj
 have ha:=h.jobs.all _ (List.getElem_mem hj)
 have hsk : skL s.Jobs j = s.Jobs[j].Skill:=by simp [skL,hJx]
 have hwk:=vF hx
 have hdy:=tK hx
 generalize l[j] = x at hx hwk hdy
 generalize s.Jobs[j] = y at hJx ha hsk
 unfold fO
 simp only [dJ]
 rw [bX,hx,Option.bind_some,gU,Option.bind_some,w64 (by omega) (by omega)]
 unfold dQ
 rw [hwk,hdy]
 by_cases hwi : 0 ≤ x.Worker ∧ x.Worker ≤ (s.Workers.length : Int) - 1
 ·rw [decide_eq_true hwi,Bool.not_true,cond_false,if_neg (not_not_intro hwi)]
  obtain ⟨k,hk⟩ : ∃ k : Nat,x.Worker = (k : Int):=⟨x.Worker.toNat,by omega⟩
  have hkl : k < s.Workers.length:=by omega
  have hv : s.Workers[k]? = some s.Workers[k]:=List.getElem?_eq_getElem hkl
  generalize s.Workers[k] = v at hv
  have hcan : aAA s l j = canW v y.Skill:=by
   unfold aAA
   rw [hwk,hk,Int.toNat_natCast,hv,hsk]; rfl
  obtain ⟨b1,b2⟩:=aDv (sk:=y.Skill) (by omega) (by omega)
  rw [hk,bX,hv,Option.bind_some,bX,hJx,Option.bind_some,b1,Option.bind_some,b2,Option.bind_some,aBY N hN v (by omega) (by omega),Option.bind_some,hcan]
  cases hc : canW v y.Skill with
  | false => rfl
  | true =>
   rw [Bool.not_true,cond_false,gU,Option.bind_some,if_neg (by simp)]
   by_cases hdi : 0 ≤ x.Day ∧ x.Day ≤ 400
   ·rw [decide_eq_true hdi,Bool.not_true,cond_false,aBW N hN hn hj,Option.bind_some,if_neg (not_not_intro hdi)]
    by_cases haft : aftJ s.Jobs j = -1
    ·rw [if_neg (fun q : qS s l j => q.1 haft),haft]; rfl
    ·rw [bne_iff_ne.2 haft,cond_true]
     rcases uX (flL s.Jobs j) s.Jobs j with e | ⟨b,e,hbl⟩
     ·exact absurd e haft
     ·have e : aftJ s.Jobs j = (b : Int):=e
      have hb:=(gC (hp b hbl)).1
      have hlate : qS s l j ↔ x.Day < dyL l b + dsL s.Jobs b:=by
       unfold qS
       rw [e,Int.toNat_natCast,hdy]
       exact ⟨fun q => q.2,fun q => ⟨by omega,q⟩⟩
      rw [e,wT N h.jobs (by omega) (by omega) (by omega),Option.bind_some]
      by_cases hlt : x.Day < dyL l b + dsL s.Jobs b
      ·rw [decide_eq_true hlt,if_pos (hlate.2 hlt)]; rfl
      ·rw [decide_eq_false hlt,if_neg (fun q => hlt (hlate.1 q))]; rfl
   ·rw [decide_eq_false hdi,if_pos hdi]; rfl
 ·rw [decide_eq_false hwi,if_pos hwi]; rfl
theorem aBw (f : Int) (J : List bH) : ∀ (m k : Nat),k < m → flL J k = f → ∃ c : Nat,aftF f J m = (c : Int) ∧ k ≤ c ∧ c < m
 | 0,k,h,_ => absurd h (Nat.not_lt_zero _)
 | m + 1,k,h,hf => by
  unfold aftF
  by_cases hm : flL J m = f
  ·rw [if_pos hm]; exact ⟨m,rfl,by omega,by omega⟩
  ·rw [if_neg hm]
   have : k ≠ m:=fun e => by subst e; exact hm hf
   obtain ⟨c,c1,c2,c3⟩:=aBw f J m k (by omega) hf
   exact ⟨c,c1,c2,by omega⟩
theorem aHz {s : aH} (hJ : GJ s.Jobs) {l : List aG} {i : Nat} (hi : i ≤ s.Jobs.length) (hp : ∀ j,j < i → dQ s l j = 0) : ∀ (b : Nat),b < i → ∀ k,k < b → flL s.Jobs k = flL s.Jobs b → dyL l k + dsL s.Jobs k ≤ dyL l b:=by
 intro b
 induction b using Nat.strongRecOn with
 | _ b ih =>
  intro hb k hk hf
  obtain ⟨c,c1,c2,c3⟩:=aBw (flL s.Jobs b) s.Jobs b k hk hf
  have hfc : flL s.Jobs c = flL s.Jobs b:=xR _ _ _ _ c1
  have hnl:=(gC (hp b hb)).2
  have c1' : aftJ s.Jobs b = (c : Int):=c1
  have hc : dyL l c + dsL s.Jobs c ≤ dyL l b:=by
   unfold qS at hnl
   rw [c1',Int.toNat_natCast] at hnl
   refine Int.not_lt.1 fun q => hnl ⟨by omega,q⟩
  by_cases e : k = c
  ·subst e; exact hc
  ·have := ih c c3 (by omega) k (by omega) (by rw [hf, hfc])
   have:=(hJ.ds (j:=c) (by omega)).1
   omega
theorem aFh {s : aH} (hJ : GJ s.Jobs) {l : List aG} {i : Nat} (hi : i < s.Jobs.length) (hp : ∀ j,j < i → dQ s l j = 0) : qS s l i ↔ ∃ k,k < i ∧ flL s.Jobs k = flL s.Jobs i ∧ dyL l i < dyL l k + dsL s.Jobs k:=by
 constructor
 ·rintro ⟨h1,h2⟩
  rcases uX (flL s.Jobs i) s.Jobs i with e | ⟨b,e,hb⟩
  ·exact absurd e h1
  ·have e2 : aftJ s.Jobs i = (b : Int):=e
   rw [e2,Int.toNat_natCast] at h2
   exact ⟨b,hb,xR _ _ _ _ e,h2⟩
 ·rintro ⟨k,hk,hf,hlt⟩
  obtain ⟨c,c1,c2,c3⟩:=aBw (flL s.Jobs i) s.Jobs i k hk hf
  have hfc : flL s.Jobs c = flL s.Jobs i:=xR _ _ _ _ c1
  have c1' : aftJ s.Jobs i = (c : Int):=c1
  unfold qS
  rw [c1',Int.toNat_natCast]
  refine ⟨by omega,?_⟩
  by_cases e : k = c
  ·subst e; exact hlt
  ·have := aHz hJ (by omega) hp c c3 k (by omega) (by rw [hf, hfc])
   have:=(hJ.ds (j:=c) (by omega)).1
   omega
theorem yJ (f : Nat → Int) (n : Nat) (c : Int) (h : ∀ j,j < n → f j = 0 ∨ f j = c) : ∀ (k i : Nat),fstN f n k i = 0 ∨ fstN f n k i = c
 | 0,_ => .inl rfl
 | k + 1,i => by
  unfold fstN
  split
  ·rename_i hi
   split
   ·rename_i hz
    rcases h i hi with e | e
    ·exact absurd e hz
    ·exact .inr e
   ·exact yJ f n c h k (i + 1)
  ·exact .inl rfl
def pU (s : aH) (l : List aG) (i k : Nat) : Int:=if wkL l i = wkL l k ∧ dyL l i < dyL l k + dsL s.Jobs k ∧ dyL l k < dyL l i + dsL s.Jobs i then 10 else 0
def vY (s : aH) (l : List aG) (i : Nat) : Int:=fst0 (pU s l i) i
def iW (s : aH) (l : List aG) : Int:=if l.length ≠ s.Jobs.length then 1 else if fst0 (dQ s l) s.Jobs.length ≠ 0 then fst0 (dQ s l) s.Jobs.length else fst0 (vY s l) s.Jobs.length
theorem aGw (N : Nat) {s : aH} (h : GW s) {l : List aG} (hl : l.length = s.Jobs.length) (hb : ∀ j,j < s.Jobs.length → 0 ≤ dyL l j ∧ dyL l j ≤ 400) {a b : Nat} (ha : a < s.Jobs.length) (hb2 : b < s.Jobs.length) : jZ N s.Jobs l (a : Int) (b : Int) = some (decide (pU s l a b ≠ 0)):=by
 have h1 : l[a]? = some l[a]:=List.getElem?_eq_getElem (by omega)
 have h2 : l[b]? = some l[b]:=List.getElem?_eq_getElem (by omega)
 have ea:=wT N h.jobs ha (show s.Jobs.length ≤ l.length by omega) (by have:=hb a ha; omega)
 have eb:=wT N h.jobs hb2 (show s.Jobs.length ≤ l.length by omega) (by have:=hb b hb2; omega)
 unfold jZ pU
 rw [ea,eb,vF h1,vF h2,tK h1,tK h2]
 rw [bX,h1,Option.bind_some,bX,h2,Option.bind_some]
 generalize l[a] = x
 generalize l[b] = y
 by_cases c1 : x.Worker = y.Worker
 ·rw [beq_iff_eq.2 c1,cond_true,Option.bind_some,Option.bind_some]
  by_cases c2 : x.Day < y.Day + dsL s.Jobs b
  ·rw [decide_eq_true c2,cond_true,Option.bind_some,Option.bind_some]
   by_cases c3 : y.Day < x.Day + dsL s.Jobs a
   ·rw [decide_eq_true c3]; simp [c1,c2,c3]
   ·rw [decide_eq_false c3]; simp [c1,c2,c3]
  ·rw [decide_eq_false c2]; simp [c1,c2]
 ·rw [beq_eq_false_iff_ne.2 c1]; simp [c1]
theorem aDX {c : Int} : (if c ≠ 0 then some c else some 0) = some c:=by
 split
 ·rfl
 ·rename_i h; rw [Classical.not_not.1 h]
theorem aDu (s : aH) (l : List aG) (i k : Nat) : pU s l i k = 0 ∨ pU s l i k = 10:=by
 unfold pU
 split
 ·exact .inr rfl
 ·exact .inl rfl
theorem aCu (N : Nat) (hN : 100 < N) {s : aH} (h : GW s) (l : List aG) : gD N s l = some (iW s l):=by
 have hn:=h.jobs.len
 unfold gD iW
 simp only [dJ]
 by_cases hl : l.length = s.Jobs.length
 ·rw [show (((l.length : Nat) : Int) != ((s.Jobs.length : Nat) : Int)) = false from by rw [hl]; simp, cond_false, if_neg (not_not_intro hl)]
  rw [hl]
  refine fstZ (n:=s.Jobs.length) (dQ s l) (by omega) (fun rec i hi hp => ?_) (fun rec => ?_) ?_
  ·rw [ltD hi, cond_true, aBl N hN h hl hi hp, Option.bind_some, nadd1 i (by omega)]
   by_cases hz : dQ s l i = 0
   ·rw [hz]; rfl
   ·rw [bne_iff_ne.2 hz,cond_true,if_pos hz]
  ·rw [ltE,cond_false,cond_false]
  ·by_cases hz : fst0 (dQ s l) s.Jobs.length = 0
   ·rw [if_neg (not_not_intro hz),if_neg (not_not_intro hz),ltE,cond_false]
    have hb : ∀ j,j < s.Jobs.length → 0 ≤ dyL l j ∧ dyL l j ≤ 400:=fun j hj => (gC (oN hz j hj)).1
    refine fstZ (n:=s.Jobs.length) (vY s l) (by omega) (fun rec i hi _ => ?_) (fun rec => ?_) ?_
    ·rw [ltD hi,cond_true]
     refine fstZ (n:=i) (pU s l i) (by omega) (fun rec2 k hk _ => ?_) (fun rec2 => ?_) ?_
     ·rw [ltD hk, cond_true, aGw N h hl hb hi (by omega), Option.bind_some, nadd1 k (by omega)]
      rcases aDu s l i k with e | e
      ·rw [e]; rfl
      ·rw [e]; rfl
     ·rw [ltE,cond_false,cond_false]
     ·rw [ltE,cond_false,nadd1 i (by omega)]; rfl
    ·rw [ltE,cond_false,cond_false]
    ·rw [ltE,cond_false]; exact aDX
   ·rw [if_pos hz,if_pos hz]
 ·rw [bne_iff_ne.2 (by omega),cond_true,if_pos hl]
theorem aCt (N : Nat) (hN : 100 < N) {s : aH} (h : GW s) (l : List aG) : gS N s l = some (iW s l):=by
 have hn:=h.jobs.len
 have hw4:=h.w4
 have hw0:=h.w0
 have hw : ∀ n a b,eP N n a b = some (decide (a ≤ n ∧ n ≤ b)):=fun n a b => gU N n a b
 have hCan : ∀ (w : aX) sk,mM N w sk = some (canW w sk):=fun w sk => by
  unfold mM canW
  by_cases h1 : sk = 1
  ·rw [beq_iff_eq.2 h1,cond_true,if_pos h1]
  ·rw [beq_eq_false_iff_ne.2 h1,cond_false,if_neg h1]
   by_cases h2 : sk = 2
   ·rw [beq_iff_eq.2 h2,cond_true,if_pos h2]
   ·rw [beq_eq_false_iff_ne.2 h2,cond_false,if_neg h2]
 unfold gS iW
 simp only [dJ]
 by_cases hl : l.length = s.Jobs.length
 ·rw [show (((l.length : Nat) : Int) != ((s.Jobs.length : Nat) : Int)) = false from by rw [hl]; simp, cond_false, if_neg (not_not_intro hl)]
  rw [hl]
  refine fstZ (n:=s.Jobs.length) (dQ s l) (by omega) (fun rec i hi hp => ?_) (fun rec => ?_) ?_
  ·have hx : l[i]? = some l[i] := List.getElem?_eq_getElem (by omega)
   have hJx : s.Jobs[i]? = some s.Jobs[i]:=List.getElem?_eq_getElem hi
   have ha:=h.jobs.all _ (List.getElem_mem hi)
   have hsk : skL s.Jobs i = s.Jobs[i].Skill:=by simp [skL,hJx]
   have hfl : flL s.Jobs i = s.Jobs[i].Float:=by simp [flL,hJx]
   have hwk:=vF hx
   have hdy:=tK hx
   have hlt:=aFh h.jobs hi hp
   generalize l[i] = x at hx hwk hdy
   generalize s.Jobs[i] = y at hJx ha hsk hfl
   rw [ltD hi,cond_true,bX,hx,Option.bind_some,hw,Option.bind_some,w64 (by omega) (by omega)]
   have hS : dQ s l i = if ¬ (0 ≤ x.Worker ∧ x.Worker ≤ (s.Workers.length : Int) - 1) then 7 else if aAA s l i = false then 3 else if ¬ (0 ≤ x.Day ∧ x.Day ≤ 400) then 2 else if qS s l i then 9 else 0:=by
    unfold dQ
    rw [hwk,hdy]
   by_cases hwi : 0 ≤ x.Worker ∧ x.Worker ≤ (s.Workers.length : Int) - 1
   ·rw [decide_eq_true hwi,Bool.not_true,cond_false]
    rw [if_neg (not_not_intro hwi)] at hS
    obtain ⟨k,hk⟩ : ∃ k : Nat,x.Worker = (k : Int):=⟨x.Worker.toNat,by omega⟩
    have hkl : k < s.Workers.length:=by omega
    have hv : s.Workers[k]? = some s.Workers[k]:=List.getElem?_eq_getElem hkl
    generalize s.Workers[k] = v at hv
    have hcan : aAA s l i = canW v y.Skill:=by
     unfold aAA
     rw [hwk,hk,Int.toNat_natCast,hv,hsk]; rfl
    rw [hk,bX,hv,Option.bind_some,bX,hJx,Option.bind_some,hCan,Option.bind_some]
    rw [hcan] at hS
    cases hc : canW v y.Skill with
    | false => rw [hc,if_pos rfl] at hS; rw [hS]; rfl
    | true =>
     rw [hc,if_neg (by simp)] at hS
     rw [Bool.not_true,cond_false,hw,Option.bind_some]
     by_cases hdi : 0 ≤ x.Day ∧ x.Day ≤ 400
     ·rw [decide_eq_true hdi,Bool.not_true,cond_false]
      rw [if_neg (not_not_intro hdi)] at hS
      rw [hS]
      refine fstZ (n:=i) (fun k => if flL s.Jobs k = flL s.Jobs i ∧ dyL l i < dyL l k + dsL s.Jobs k then 9 else 0) (by omega) (fun rec2 k hk _ => ?_) (fun rec2 => ?_) ?_
      ·have hkx : s.Jobs[k]? = some (s.Jobs[k]'(by omega)) := List.getElem?_eq_getElem _
       have hfk : flL s.Jobs k = (s.Jobs[k]'(by omega)).Float:=by simp [flL,hkx]
       generalize s.Jobs[k]'(by omega) = z at hkx hfk
       have hb:=(gC (hp k hk)).1
       have he : fK N s l (k : Int) = some (dyL l k + dsL s.Jobs k):=wT N h.jobs (show k < s.Jobs.length by omega) (by omega) (by omega)
       rw [ltD hk,cond_true,bX,hkx,Option.bind_some,Option.bind_some,he,nadd1 k (by omega),hfk,hfl,hdy]
       by_cases hz : z.Float = y.Float
       ·rw [beq_iff_eq.2 hz,cond_true,Option.bind_some]
        by_cases hlt : x.Day < dyL l k + dsL s.Jobs k
        ·rw [decide_eq_true hlt,cond_true]; simp [hz,hlt]
        ·rw [decide_eq_false hlt,cond_false]; simp [hlt]
       ·rw [beq_eq_false_iff_ne.2 hz,cond_false,cond_false]; simp [hz]
      ·rw [ltE,cond_false,cond_false]
      ·rw [ltE, cond_false, nadd1 i (by omega)]
       by_cases hla : qS s l i
       ·rw [if_pos hla]
        rcases yJ (fun k => if flL s.Jobs k = flL s.Jobs i ∧ dyL l i < dyL l k + dsL s.Jobs k then (9 : Int) else 0) i 9 (fun j _ => by
         show (if _ then (9 : Int) else 0) = 0 ∨ (if _ then (9 : Int) else 0) = 9
         split
         ·exact .inr rfl
         ·exact .inl rfl) i 0 with e | e
        ·exfalso
         obtain ⟨k,k1,k2,k3⟩:=hlt.1 hla
         have:=oN e k k1
         rw [if_pos ⟨k2,k3⟩] at this
         cases this
        ·have e : fst0 (fun k => if flL s.Jobs k = flL s.Jobs i ∧ dyL l i < dyL l k + dsL s.Jobs k then (9 : Int) else 0) i = 9:=e
         rw [e]
       ·rw [if_neg hla]
        rcases yJ (fun k => if flL s.Jobs k = flL s.Jobs i ∧ dyL l i < dyL l k + dsL s.Jobs k then (9 : Int) else 0) i 0 (fun j hj => by
         show (if _ then (9 : Int) else 0) = 0 ∨ (if _ then (9 : Int) else 0) = 0
         rw [if_neg (fun q => hla (hlt.2 ⟨j,hj,q.1,q.2⟩))]
         exact .inl rfl) i 0 with e | e <;>
        ·have e : fst0 (fun k => if flL s.Jobs k = flL s.Jobs i ∧ dyL l i < dyL l k + dsL s.Jobs k then (9 : Int) else 0) i = 0:=e
         rw [e]
     ·rw [if_pos hdi] at hS; rw [hS,decide_eq_false hdi]; rfl
   ·rw [if_pos hwi] at hS; rw [hS,decide_eq_false hwi]; rfl
  ·rw [ltE,cond_false,cond_false]
  ·by_cases hz : fst0 (dQ s l) s.Jobs.length = 0
   ·rw [if_neg (not_not_intro hz),if_neg (not_not_intro hz),ltE,cond_false]
    have hb : ∀ j,j < s.Jobs.length → 0 ≤ dyL l j ∧ dyL l j ≤ 400:=fun j hj => (gC (oN hz j hj)).1
    refine fstZ (n:=s.Jobs.length) (vY s l) (by omega) (fun rec i hi _ => ?_) (fun rec => ?_) ?_
    ·rw [ltD hi,cond_true]
     refine fstZ (n:=i) (pU s l i) (by omega) (fun rec2 k hk _ => ?_) (fun rec2 => ?_) ?_
     ·have h1 : l[i]? = some l[i] := List.getElem?_eq_getElem (by omega)
      have h2 : l[k]? = some l[k]:=List.getElem?_eq_getElem (by omega)
      have ea : fK N s l (i : Int) = some (dyL l i + dsL s.Jobs i):=wT N h.jobs hi (show s.Jobs.length ≤ l.length by omega) (by have:=hb i hi; omega)
      have eb : fK N s l (k : Int) = some (dyL l k + dsL s.Jobs k):=wT N h.jobs (show k < s.Jobs.length by omega) (show s.Jobs.length ≤ l.length by omega) (by have:=hb k (by omega); omega)
      unfold pU
      rw [ea,eb,vF h1,vF h2,tK h1,tK h2]
      rw [ltD hk,cond_true,bX,h1,Option.bind_some,bX,h2,Option.bind_some,nadd1 k (by omega)]
      generalize l[i] = x
      generalize l[k] = y
      by_cases c1 : x.Worker = y.Worker
      ·rw [beq_iff_eq.2 c1,cond_true,Option.bind_some,Option.bind_some]
       by_cases c2 : x.Day < y.Day + dsL s.Jobs k
       ·rw [decide_eq_true c2,cond_true,Option.bind_some,Option.bind_some]
        by_cases c3 : y.Day < x.Day + dsL s.Jobs i
        ·rw [decide_eq_true c3]; simp [c1,c2,c3]
        ·rw [decide_eq_false c3]; simp [c1,c2,c3]
       ·rw [decide_eq_false c2]; simp [c1,c2]
      ·rw [beq_eq_false_iff_ne.2 c1]; simp [c1]
     ·rw [ltE,cond_false,cond_false]
     ·rw [ltE,cond_false,nadd1 i (by omega)]; rfl
    ·rw [ltE,cond_false,cond_false]
    ·rw [ltE,cond_false]; exact aDX
   ·rw [if_pos hz,if_pos hz]
 ·rw [bne_iff_ne.2 (by omega),cond_true,if_pos hl]
theorem sS {s : aH} {l : List aG} (h : iW s l = 0) : l.length = s.Jobs.length ∧ ∀ j,j < s.Jobs.length → 0 ≤ dyL l j ∧ dyL l j ≤ 400:=by
 unfold iW at h
 split at h
 ·cases h
 ·rename_i hl
  split at h
  ·rename_i hz; exact absurd h hz
  ·rename_i hz
   exact ⟨Classical.not_not.1 hl,fun j hj => (gC (oN (Classical.not_not.1 hz) j hj)).1⟩
def aAJ (s : aH) (l : List aG) : Int × Int:=if nX s ≠ 0 then (0,nX s) else if iW s l ≠ 0 then (0,iW s l) else (mxN (fun j => dyL l j + dsL s.Jobs j) s.Jobs.length,0)
theorem aGD (N : Nat) (hN : 100 < N) (s : aH) (hs : s.Workers.length ≤ 50 ∧ s.Jobs.length ≤ 50) (l : List aG) : kA N s l = some (aAJ s l):=by
 unfold kA aAJ
 rw [aBI N hN s hs,Option.bind_some]
 by_cases hc : nX s = 0
 ·have h:=uQ hc
  rw [hc,show ((0 : Int) != 0) = false from rfl,cond_false,aCu N hN h,Option.bind_some,if_neg (by simp)]
  by_cases hp : iW s l = 0
  ·obtain ⟨q1,q2⟩:=sS hp
   rw [hp,show ((0 : Int) != 0) = false from rfl,cond_false,aGl N hN h.jobs (by omega) (fun j hj => by have:=q2 j hj; omega),Option.bind_some,if_neg (by simp)]
  ·rw [bne_iff_ne.2 hp,cond_true,if_pos hp]
 ·rw [bne_iff_ne.2 hc,cond_true,if_pos hc]
theorem aGC (N : Nat) (hN : 100 < N) (s : aH) (hs : s.Workers.length ≤ 50 ∧ s.Jobs.length ≤ 50) (l : List aG) : lJ N s l = some (aAJ s l):=by
 unfold lJ aAJ
 rw [aBH N hN s hs,Option.bind_some]
 by_cases hc : nX s = 0
 ·have h:=uQ hc
  have hn:=h.jobs.len
  rw [hc,show ((0 : Int) != 0) = false from rfl,cond_false,aCt N hN h,Option.bind_some,if_neg (by simp)]
  by_cases hp : iW s l = 0
  ·obtain ⟨q1,q2⟩:=sS hp
   have hd : mU N s l = some (mxN (fun j => dyL l j + dsL s.Jobs j) s.Jobs.length):=by
    unfold mU
    simp only [dJ]
    rw [q1]
    refine st2z' s.Jobs.length (fun i => mxN (fun j => dyL l j + dsL s.Jobs j) i) rfl (by omega) (fun rec => ?_) (fun rec i hi => ?_)
    ·rw [ltE,cond_false]
    ·have he : fK N s l (i : Int) = some (dyL l i + dsL s.Jobs i) := wT N h.jobs hi (by omega) (by have := q2 i hi; omega)
     rw [ltD hi,cond_true,he,Option.bind_some,nadd1 i (by omega),ifmax]
     rfl
   rw [hp,show ((0 : Int) != 0) = false from rfl,cond_false,hd,Option.bind_some,if_neg (by simp)]
  ·rw [bne_iff_ne.2 hp,cond_true,if_pos hp]
 ·rw [bne_iff_ne.2 hc,cond_true,if_pos hc]
end
section
open Go.RowKit
theorem aGA (N : Nat) (hN : 100 < N) (x : aX) {m : Nat} (h1 : 1 ≤ m) (h7 : m ≤ 7) : nU N x (m : Int) = some (anyW x m):=by
 obtain ⟨M,rfl⟩ : ∃ M,N = M + 10:=⟨N - 10,by omega⟩
 have hs : m = 1 ∨ m = 2 ∨ m = 3 ∨ m = 4 ∨ m = 5 ∨ m = 6 ∨ m = 7:=by omega
 obtain ⟨w,c,p⟩:=x
 rcases hs with rfl | rfl | rfl | rfl | rfl | rfl | rfl <;> cases w <;> cases c <;> cases p <;> rfl
theorem aHS {k : Int} (hk : 1 ≤ k ∧ k ≤ 3) {m : Nat} (h1 : 1 ≤ m) (h7 : m ≤ 7) : nnI (IntKind.i64.wrap (k - 1)) = some () ∧ ((IntKind.i64.wrap (((BitVec.ofInt (IntKind.bits .i64) (Int.fdiv (m : Int) ((2 : Int) ^ (min (Int.toNat (IntKind.i64.wrap (k - 1))) (IntKind.bits .i64)))) &&& BitVec.ofInt (IntKind.bits .i64) 1).toNat : Nat) : Int)) == 1) = inM k m:=by
 have hs : m = 1 ∨ m = 2 ∨ m = 3 ∨ m = 4 ∨ m = 5 ∨ m = 6 ∨ m = 7:=by omega
 have hk : k = 1 ∨ k = 2 ∨ k = 3:=by omega
 rcases hs with rfl | rfl | rfl | rfl | rfl | rfl | rfl <;> rcases hk with rfl | rfl | rfl <;> exact ⟨rfl,rfl⟩
def badM (s : aH) (m : Nat) : Prop:=sumM s.Jobs m s.Jobs.length > 0 ∧ (eQ s.Workers m s.Workers.length).length = 0
theorem smN.at (f : Nat → Int) (n : Nat) (h : ∀ i,i < n → 0 ≤ f i) (j : Nat) (hj : j < n) : f j ≤ smN f n:=by
 induction n with
 | zero => omega
 | succ n ih =>
  rw [smN]
  have h0:=smN.pos f n fun i hi => h i (by omega)
  by_cases e : j = n
  ·subst e; omega
  ·have := ih (fun i hi => h i (by omega)) (by omega)
   have:=h n (by omega)
   omega
theorem aEc {s : aH} (h : GW s) : (∃ m,1 ≤ m ∧ m ≤ 7 ∧ badM s m) ↔ ¬ nZ s:=by
 constructor
 ·rintro ⟨m,h1,h7,hw,hg⟩ ha
  have:=aAs h.jobs ha h1 h7 hw
  omega
 ·intro ha
  obtain ⟨j,hj⟩:=Classical.not_forall.1 ha
  obtain ⟨hj,he⟩:=Classical.not_imp.1 hj
  have he : oW s.Workers (skL s.Jobs j) = []:=Classical.not_not.1 he
  have hx : s.Jobs[j]? = some s.Jobs[j]:=List.getElem?_eq_getElem hj
  have hc:=h.jobs.all _ (List.getElem_mem hj)
  have hsk : skL s.Jobs j = s.Jobs[j].Skill:=by simp [skL,hx]
  have hk : skL s.Jobs j = 1 ∨ skL s.Jobs j = 2 ∨ skL s.Jobs j = 3:=by omega
  obtain ⟨m,h1,h7,hin,hgr⟩ : ∃ m,1 ≤ m ∧ m ≤ 7 ∧ inM (skL s.Jobs j) m = true ∧ ∀ x,anyW x m = true → canW x (skL s.Jobs j) = true:=by
   rcases hk with e | e | e
   ·refine ⟨1, by omega, by omega, by rw [e]; rfl, fun x hx => ?_⟩
    rw [e]; obtain ⟨a,b,c⟩:=x; revert hx; cases a <;> cases b <;> cases c <;> decide
   ·refine ⟨2, by omega, by omega, by rw [e]; rfl, fun x hx => ?_⟩
    rw [e]; obtain ⟨a,b,c⟩:=x; revert hx; cases a <;> cases b <;> cases c <;> decide
   ·refine ⟨4, by omega, by omega, by rw [e]; rfl, fun x hx => ?_⟩
    rw [e]; obtain ⟨a,b,c⟩:=x; revert hx; cases a <;> cases b <;> cases c <;> decide
  refine ⟨m,h1,h7,?_,?_⟩
  ·have h2 := smN.at (fun j => if inM (skL s.Jobs j) m = true then dsL s.Jobs j else 0) s.Jobs.length (fun i hi => by
    have:=(h.jobs.ds hi).1
    show 0 ≤ (if inM (skL s.Jobs i) m = true then dsL s.Jobs i else 0)
    split <;> omega) j hj
   have h3 : (if inM (skL s.Jobs j) m = true then dsL s.Jobs j else 0) ≤ sumM s.Jobs m s.Jobs.length:=h2
   rw [if_pos hin] at h3
   have:=(h.jobs.ds hj).1
   omega
  ·refine Classical.byContradiction fun hne => ?_
   obtain ⟨w,hw⟩:=List.exists_mem_of_length_pos (Nat.pos_of_ne_zero hne)
   unfold eQ at hw
   simp only [List.mem_map,List.mem_filter,List.mem_range] at hw
   obtain ⟨k,⟨hk1,hk2⟩,_⟩:=hw
   have hv : s.Workers[k]? = some s.Workers[k]:=List.getElem?_eq_getElem hk1
   rw [hv] at hk2
   have : (k : Int) ∈ oW s.Workers (skL s.Jobs j):=yE.2 ⟨k,_,rfl,hv,hgr _ hk2⟩
   rw [he] at this
   simp at this
theorem aFT {J : List bH} (hJ : GJ J) (f : Int) : ∀ i,i ≤ J.length → 0 ≤ sumF J f i ∧ sumF J f i ≤ 30 * (i : Int):=by
 intro i
 induction i with
 | zero => intro _; exact ⟨Int.le_refl _,Int.le_refl _⟩
 | succ i ih =>
  intro hi
  have:=ih (by omega)
  have:=hJ.ds (j:=i) (by omega)
  have e : sumF J f (i + 1) = sumF J f i + (if flL J i = f then dsL J i else 0):=rfl
  rw [e]
  split <;> omega
theorem aHI {body : (Int → Int → Option (Int × Int)) → Int → Int → Option (Int × Int)} (bad : Nat → Prop) (need : Nat → Int) {b0 : Int} {N : Nat} {R : Option (Int × Int)} (hN : 10 < N) (hb0 : 0 ≤ b0) (hend : ∀ rec bnd,body rec bnd 8 = some (bnd,0)) (hstep : ∀ rec bnd (k : Nat),0 ≤ bnd → k < 7 → body rec bnd ((k + 1 : Nat) : Int) = open Classical in if bad (k + 1) then some (0,7) else rec (max bnd (need (k + 1))) ((k + 1 + 1 : Nat) : Int)) (hR1 : (∃ m,1 ≤ m ∧ m ≤ 7 ∧ bad m) → some (0,7) = R) (hR2 : ¬ (∃ m,1 ≤ m ∧ m ≤ 7 ∧ bad m) → some (max b0 (mxN (fun i => need (i + 1)) 7),0) = R) : loop2 body N b0 1 = R:=by
 have key : ∀ (M k : Nat),k ≤ 7 → 8 - k ≤ M → (∀ m,1 ≤ m → m ≤ k → ¬ bad m) → loop2 body M (max b0 (mxN (fun i => need (i + 1)) k)) ((k + 1 : Nat) : Int) = R:=by
  intro M
  induction M with
  | zero => intro k h1 h2; omega
  | succ M ih =>
   intro k h1 h2 hp
   show body (loop2 body M) _ _ = R
   by_cases hk : k = 7
   ·subst hk
    rw [show (((7 + 1 : Nat)) : Int) = 8 from rfl,hend]
    exact hR2 fun ⟨m,m1,m7,hm⟩ => hp m m1 m7 hm
   ·rw [hstep _ _ k (by omega) (by omega)]
    by_cases hb : bad (k + 1)
    ·rw [if_pos hb]; exact hR1 ⟨k + 1,by omega,by omega,hb⟩
    ·rw [if_neg hb, show max (max b0 (mxN (fun i => need (i + 1)) k)) (need (k + 1)) = max b0 (mxN (fun i => need (i + 1)) (k + 1)) by
      have : mxN (fun i => need (i + 1)) (k + 1) = max (mxN (fun i => need (i + 1)) k) (need (k + 1)):=rfl
      omega]
     refine ih (k + 1) (by omega) (by omega) fun m m1 m2 => ?_
     by_cases e : m = k + 1
     ·subst e; exact hb
     ·exact hp m m1 (by omega)
 have:=key N 0 (by omega) (by omega) fun m m1 m2 => by omega
 rw [show max b0 (mxN (fun i => need (i + 1)) 0) = b0 by
  have : mxN (fun i => need (i + 1)) 0 = 0:=rfl
  omega] at this
 exact this
noncomputable def aBm (s : aH) : Int × Int:=open Classical in if nX s ≠ 0 then (0,nX s) else if nZ s then (aFA s,0) else (0,7)
theorem aGO (N : Nat) (hN : 100 < N) (s : aH) (hs : s.Workers.length ≤ 50 ∧ s.Jobs.length ≤ 50) : eO N s = some (aBm s):=by
 unfold aBm
 by_cases hc : nX s = 0
 ·rw [if_neg (not_not_intro hc)]
  rcases aGP N hN (uQ hc) with ⟨q1,q2⟩ | ⟨q1,q2⟩
  ·rw [q2,if_neg q1]
  ·rw [q2,if_pos q1]
 ·rw [if_pos hc]
  unfold eO cX
  rw [aBI N hN s hs,Option.bind_some,bne_iff_ne.2 hc,cond_true,Option.bind_some,bne_iff_ne.2 hc,cond_true]
theorem aGN (N : Nat) (hN : 100 < N) (s : aH) (hs : s.Workers.length ≤ 50 ∧ s.Jobs.length ≤ 50) : lK N s = some (aBm s):=by
 unfold lK aBm
 rw [aBH N hN s hs,Option.bind_some]
 by_cases hc : nX s = 0
 ·have h:=uQ hc
  have hn:=h.jobs.len
  have hw4:=h.w4
  rw [hc,show ((0 : Int) != 0) = false from rfl,cond_false,if_neg (by simp)]
  simp only [dJ]
  refine st2z' 7 (fun i => mxN (fun f => sumF s.Jobs (f : Int) s.Jobs.length) i) rfl (by omega) (fun rec => ?_) (fun rec i hi => ?_)
  ·rw [show decide (((7 : Nat) : Int) < 7) = false from rfl,cond_false]
   refine aHI (badM s) (nV s) (by omega) (mxN.pos _ _) (fun rec bnd => ?_) (fun rec bnd k h0 hk => ?_) (fun hb => ?_) (fun hb => ?_)
   ·rfl
   ·have h1 : 1 ≤ k + 1 := by omega
    have h7 : k + 1 ≤ 7:=by omega
    rw [decide_eq_true (show ((k + 1 : Nat) : Int) < 8 by omega),cond_true]
    refine st2z' s.Jobs.length (fun i => sumM s.Jobs (k + 1) i) rfl (by omega) (fun rec2 => ?_) (fun rec2 j hj => ?_)
    ·rw [ltE,cond_false]
     refine st2z' s.Workers.length (fun i => ((eQ s.Workers (k + 1) i).length : Int)) rfl (by omega) (fun rec3 => ?_) (fun rec3 i hi => ?_)
     ·rw [ltE, cond_false, nadd1 (k + 1) (by omega)]
      have hb:=xM h.jobs (k + 1) s.Jobs.length (Nat.le_refl _)
      have hgl:=pO s.Workers (k + 1) s.Workers.length
      have hbad : badM s (k + 1) ↔ sumM s.Jobs (k + 1) s.Jobs.length > 0 ∧ (eQ s.Workers (k + 1) s.Workers.length).length = 0:=Iff.rfl
      have hneed : nV s (k + 1) = if sumM s.Jobs (k + 1) s.Jobs.length > 0 then (sumM s.Jobs (k + 1) s.Jobs.length + ((eQ s.Workers (k + 1) s.Workers.length).length : Int) - 1) / ((eQ s.Workers (k + 1) s.Workers.length).length : Int) else 0:=rfl
      generalize badM s (k + 1) = B at hbad
      generalize (eQ s.Workers (k + 1) s.Workers.length).length = g at hgl hbad hneed
      generalize sumM s.Jobs (k + 1) s.Jobs.length = W at hb hbad hneed
      by_cases hpos : W > 0
      ·rw [decide_eq_true hpos,cond_true,cond_true]
       by_cases hg : g = 0
       ·rw [if_pos (hbad.2 ⟨hpos,hg⟩),hg]; rfl
       ·have hq0 : 0 ≤ (W + (g : Int) - 1) / (g : Int) := Int.ediv_nonneg (by omega) (by omega)
        have hq1 : (W + (g : Int) - 1) / (g : Int) ≤ W + (g : Int) - 1:=Int.ediv_le_self _ (by omega)
        rw [if_pos hpos] at hneed
        rw [if_neg (fun q => hg (hbad.1 q).2),beq_eq_false_iff_ne.2 (show (g : Int) ≠ 0 by omega),cond_false,show nzI (g : Int) = some () from if_neg (by omega),Option.bind_some,w64 (x:=W + (g : Int)) (by omega) (by omega),w64 (x:=W + (g : Int) - 1) (by omega) (by omega),Int.tdiv_eq_ediv_of_nonneg (by omega),w64 (by omega) (by omega),ifmax,← hneed]
      ·rw [if_neg hpos] at hneed
       rw [decide_eq_false hpos,cond_false,cond_false,cond_false,if_neg (fun q => hpos (hbad.1 q).1),hneed,show max bnd 0 = bnd by omega]
     ·have hx : s.Workers[i]? = some s.Workers[i]:=List.getElem?_eq_getElem hi
      have hgl:=pO s.Workers (k + 1) i
      rw [ltD hi,cond_true,bX,hx,Option.bind_some,aGA N hN _ h1 h7,Option.bind_some,nadd1 i (by omega),wS _ _ _ _ hx]
      cases hc : anyW s.Workers[i] (k + 1) with
      | true =>
       rw [cond_true,w64 (by omega) (by omega),if_pos rfl,List.length_append]
       rfl
      | false => rw [cond_false]; rfl
    ·have hx : s.Jobs[j]? = some s.Jobs[j]:=List.getElem?_eq_getElem hj
     have hd:=vT hx
     have hs : skL s.Jobs j = s.Jobs[j].Skill:=by simp [skL,hx]
     have ha:=h.jobs.all _ (List.getElem_mem hj)
     have hb:=xM h.jobs (k + 1) j (by omega)
     obtain ⟨i1,i2⟩:=aHS (k:=s.Jobs[j].Skill) ⟨by omega,by omega⟩ h1 h7
     rw [ltD hj,cond_true,bX,hx,Option.bind_some,i1,Option.bind_some,Option.bind_some,i2,nadd1 j (by omega)]
     show _ = rec2 (sumM s.Jobs (k + 1) j + (if inM (skL s.Jobs j) (k + 1) = true then dsL s.Jobs j else 0)) _
     rw [hd,hs]
     cases hc : inM s.Jobs[j].Skill (k + 1) with
     | true => rw [cond_true,Option.bind_some,if_pos rfl,w64 (by omega) (by omega)]
     | false => rw [cond_false,if_neg (by simp),Int.add_zero]
   ·rw [if_neg ((aEc h).1 hb)]
   ·rw [if_pos (Classical.not_not.1 fun q => hb ((aEc h).2 q))]
    rfl
  ·rw [decide_eq_true (show ((i : Nat) : Int) < 7 by omega), cond_true]
   refine st2z' s.Jobs.length (fun j => sumF s.Jobs (i : Int) j) rfl (by omega) (fun rec2 => ?_) (fun rec2 j hj => ?_)
   ·rw [ltE,cond_false,nadd1 i (by omega),ifmax]; rfl
   ·have hx : s.Jobs[j]? = some s.Jobs[j]:=List.getElem?_eq_getElem hj
    have hd:=vT hx
    have hf : flL s.Jobs j = s.Jobs[j].Float:=by simp [flL,hx]
    have hb:=aFT h.jobs (i : Int) j (by omega)
    have hb2:=h.jobs.ds hj
    rw [hd] at hb2
    rw [ltD hj,cond_true,bX,hx,Option.bind_some,Option.bind_some,nadd1 j (by omega)]
    show _ = rec2 (sumF s.Jobs (i : Int) j + (if flL s.Jobs j = (i : Int) then dsL s.Jobs j else 0)) _
    rw [hd,hf]
    by_cases hc : s.Jobs[j].Float = (i : Int)
    ·rw [beq_iff_eq.2 hc,cond_true,if_pos hc,w64 (by omega) (by omega)]
    ·rw [beq_eq_false_iff_ne.2 hc,cond_false,if_neg hc,Int.add_zero]
 ·rw [bne_iff_ne.2 hc,cond_true,if_pos hc]
end
section
open Go.RowKit
theorem aGg {A B C D ρ : Type} {body : (A → B → C → D → Option ρ) → A → B → C → D → Option ρ} (T : Option ρ → Prop) (P : A → B → C → D → Prop) (μ : A → B → C → D → Nat) (h : ∀ rec a b c d,P a b c d → (∀ a' b' c' d',P a' b' c' d' → μ a' b' c' d' < μ a b c d → T (rec a' b' c' d')) → T (body rec a b c d)) {N : Nat} {a : A} {b : B} {c : C} {d : D} (hp : P a b c d) (hm : μ a b c d < N) : T (loop4 body N a b c d):=aDP T P μ h N a b c d hp hm
theorem aDd (N : Nat) (hN : 100 < N) (d : aR) {s : aH} (h : GW s) : ∃ l d',iX N d s = some (l,d') ∧ l.length ≤ 50:=by
 unfold iX
 simp only [dJ]
 have hn:=h.jobs.len
 have hw0:=h.w0
 have hw4:=h.w4
 refine aGg (fun r => ∃ (l : List aG) (d' : aR),r = some (l,d') ∧ l.length ≤ 50) (fun (l : List aG) (day i b : Int) => ∃ k : Nat,i = (k : Int) ∧ k ≤ s.Jobs.length ∧ l.length = k) (fun l day i b => s.Jobs.length - i.toNat) ?_ ⟨0,rfl,Nat.zero_le _,rfl⟩ (by omega)
 rintro rec l day i b ⟨k,rfl,hk,hl⟩ ih
 by_cases hlt : k < s.Jobs.length
 ·have hJ : s.Jobs[k]? = some s.Jobs[k]:=List.getElem?_eq_getElem hlt
  generalize s.Jobs[k] = y at hJ
  obtain ⟨r1,q1,e1,_⟩:=vJ N ⟨b⟩ ((s.Workers.length : Nat) : Int) (by omega)
  obtain ⟨r2,q2,e2,_⟩:=vJ N q1 2 (by omega)
  obtain ⟨r3,q3,e3,_⟩:=aHY N q2 [0,y.Days,y.Days] (by simp) (by simp)
  rw [ltD hlt,cond_true,e1,Option.bind_some,e2,Option.bind_some,hZ (by simp; omega),Option.bind_some,bX,hJ,Option.bind_some,Option.bind_some,e3,Option.bind_some,nadd1 k (by omega)]
  exact ih _ _ _ _ ⟨k + 1,rfl,by omega,by simp [hl]⟩ (by omega)
 ·have : k = s.Jobs.length := by omega
  subst this
  rw [ltE,cond_false]
  exact ⟨_,_,rfl,by omega⟩
theorem aEn (N : Nat) (s : aH) (hs : s.Workers.length ≤ 50 ∧ s.Jobs.length ≤ 50) : kB N s = some s:=by
 unfold kB
 rw [hZ (by simp; omega),Option.bind_some,hZ (by simp; omega),Option.bind_some,List.nil_append,List.nil_append]
theorem aBP (N : Nat) (l : List aG) (hl : l.length ≤ 50) : iD N l = some l:=by
 unfold iD
 rw [hZ (by simp; omega),Option.bind_some,List.nil_append]
theorem aFu (N : Nat) (hN : 100 < N) (l : List bH) (hl : l.length ≤ 50) : lM N l l = some true:=by
 unfold lM
 simp only [dJ]
 rw [beq_self_eq_true]
 refine st2z' l.length (fun _ => true) rfl (by omega) (fun rec => ?_) (fun rec i hi => ?_)
 ·rw [cond_true,ltE,cond_false]
 ·have hx : l[i]? = some l[i]:=List.getElem?_eq_getElem hi
  rw [cond_true,ltD hi,cond_true,bX,hx,Option.bind_some,Option.bind_some,nadd1 i (by omega)]
  simp
theorem aDn (N : Nat) (hN : 100 < N) (l : List aG) (hl : l.length ≤ 50) : gW N l l = some true:=by
 unfold gW
 simp only [dJ]
 rw [beq_self_eq_true]
 refine st2z' l.length (fun _ => true) rfl (by omega) (fun rec => ?_) (fun rec i hi => ?_)
 ·rw [cond_true,ltE,cond_false]
 ·have hx : l[i]? = some l[i]:=List.getElem?_eq_getElem hi
  rw [cond_true,ltD hi,cond_true,bX,hx,Option.bind_some,Option.bind_some,nadd1 i (by omega)]
  simp
theorem aED (N : Nat) (hN : 100 < N) (s : aH) (hs : s.Workers.length ≤ 50 ∧ s.Jobs.length ≤ 50) : kC N s s = some true:=by
 unfold kC
 simp only [dJ]
 rw [beq_self_eq_true,cond_true,aFu N hN _ hs.2,Option.bind_some]
 refine st2z' s.Workers.length (fun _ => true) rfl (by omega) (fun rec => ?_) (fun rec i hi => ?_)
 ·rw [cond_true,ltE,cond_false]
 ·have hx : s.Workers[i]? = some s.Workers[i]:=List.getElem?_eq_getElem hi
  rw [cond_true,ltD hi,cond_true,bX,hx,Option.bind_some,Option.bind_some,nadd1 i (by omega)]
  simp
theorem aBN (N : Nat) (s : aH) (plan : List aG) (j : bH) (nums : List Int) (hN : nums.length + 1000 < N) (hl : nums.length < 9223372036854775808) (haw : iC N = some true) : jG N s plan j nums = some true:=by
 unfold jG
 simp only [dJ]
 by_cases h1 : s.Workers.length > 10
 ·rw [decide_eq_true (show ((s.Workers.length : Nat) : Int) > 10 by omega),cond_true,cond_true,haw]; rfl
 rw [decide_eq_false (show ¬ ((s.Workers.length : Nat) : Int) > 10 by omega),cond_false]
 by_cases h2 : s.Jobs.length > 20
 ·rw [decide_eq_true (show ((s.Jobs.length : Nat) : Int) > 20 by omega),cond_true,cond_true,haw]; rfl
 rw [decide_eq_false (show ¬ ((s.Jobs.length : Nat) : Int) > 20 by omega),cond_false]
 by_cases h3 : plan.length > 30
 ·rw [decide_eq_true (show ((plan.length : Nat) : Int) > 30 by omega),cond_true,haw]; rfl
 rw [decide_eq_false (show ¬ ((plan.length : Nat) : Int) > 30 by omega),cond_false]
 obtain ⟨d,ed⟩:=aFv N nums (by omega) hl
 obtain ⟨made,d',es,hm⟩:=aEV N (by omega) d 4 6 5 (by omega) (by omega) (by omega)
 have hg:=hm.gw
 have hw4:=hg.w4
 have hj7:=hg.jobs.len
 obtain ⟨l,d2,el,hll⟩:=aDd N (by omega) d' hg
 rw [ed,Option.bind_some,es,Option.bind_some,hZ (by simp; omega),Option.bind_some,hZ (by simp; omega),Option.bind_some,hZ (by simp; omega),Option.bind_some,el,Option.bind_some,List.nil_append,List.nil_append]
 dsimp only
 have hS : ∀ i : Nat,i < 4 → ∃ x,getI ([s,made,made,⟨made.Workers,made.Jobs ++ [j]⟩] : List aH) (i : Int) = some x ∧ x.Workers.length ≤ 50 ∧ x.Jobs.length ≤ 50:=by
  intro i hi
  have : i = 0 ∨ i = 1 ∨ i = 2 ∨ i = 3:=by omega
  rcases this with rfl | rfl | rfl | rfl
  ·exact ⟨s,rfl,by omega,by omega⟩
  ·exact ⟨made,rfl,by omega,by omega⟩
  ·exact ⟨made,rfl,by omega,by omega⟩
  ·exact ⟨_,rfl,by show made.Workers.length ≤ 50; omega,by show (made.Jobs ++ [j]).length ≤ 50; rw [List.length_append]; simp; omega⟩
 have hP : ∀ i : Nat,i < 4 → ∃ x,getI ([plan,l,plan,plan] : List (List aG)) (i : Int) = some x ∧ x.length ≤ 50:=by
  intro i hi
  have : i = 0 ∨ i = 1 ∨ i = 2 ∨ i = 3:=by omega
  rcases this with rfl | rfl | rfl | rfl
  ·exact ⟨plan,rfl,by omega⟩
  ·exact ⟨l,rfl,hll⟩
  ·exact ⟨plan,rfl,by omega⟩
  ·exact ⟨plan,rfl,by omega⟩
 refine st1 4 _ (some true) (fun rec => ?_) (fun rec i hi => ?_) N 0 (Nat.zero_le _) (by omega)
 ·rw [show decide (((4 : Nat) : Int) < 4) = false from rfl,cond_false,haw]; rfl
 ·obtain ⟨x,ex,hx⟩:=hS i hi
  obtain ⟨q,eq,hq⟩:=hP i hi
  rw [decide_eq_true (show ((i : Nat) : Int) < 4 by omega),cond_true,ex,Option.bind_some,aEn N x hx,Option.bind_some,eq,Option.bind_some,aBP N q hq,Option.bind_some,aGD N (by omega) x hx,Option.bind_some,Option.bind_some,Option.bind_some,aGC N (by omega) x hx,Option.bind_some,aGO N (by omega) x hx,Option.bind_some,Option.bind_some,aGN N (by omega) x hx,Option.bind_some,aBI N (by omega) x hx,Option.bind_some,Option.bind_some,aBH N (by omega) x hx,Option.bind_some]
  simp only [bne_self_eq_false,cond_false,Option.bind_some]
  rw [aED N (by omega) x hx,Option.bind_some]
  simp only [Option.bind_some,bne_self_eq_false,cond_false,Bool.not_true]
  rw [aDn N (by omega) q hq,Option.bind_some,Bool.not_true,cond_false,nadd1 i (by omega)]
theorem aBO (s : aH) (plan : List aG) (j : bH) (nums : List Int) (haw : iC 18446744073709551616 = some true) (hl : nums.length + 1000 < 18446744073709551616) (hl2 : nums.length < 9223372036854775808) : Does Tryz.prog 3 [aC s,.sl (plan.map aA) none,aI j,.sl (nums.map fun z => .int .i64 z) none] [] fun v _ => v = .bool true :=
 (xC _ s plan j nums true (aBN _ s plan j nums hl hl2 haw)).mono fun v c h => h.1
end
section
open Go.RowKit
set_option maxRecDepth 100000
theorem aGz : iC 18446744073709551616 = some true:=by kernel_rfl
end
section
open Go.RowKit Go.ChangeShapes Go.WideShapes Go.Deep
section
variable {H : Type} {enc : TypeId × Value → H} {W : World} {base : Nat} {spare : Nat → Bool} {held : Bool}
theorem eY {α : Type} {xs : List α} {n i : Nat} (h : xs.length = n) (hi : i < n) : ∃ x,xs[i]? = some x:=⟨xs[i]'(by omega),List.getElem?_eq_getElem (by omega)⟩
theorem qT {n : Nat} {off : Nat} {cs : List Value} {x : Option (DataW H × List MemPlace)} (hx : x ≠ none) (h : DataW.trod enc Tryz.prog W base spare held n 3 ((cs.drop off).take (Tryz.prog.cellsOf 3)) = x) : ∃ z : Int,(cs.drop off).take 1 = [.int .i64 z]:=by
 have k : Tryz.prog.cellsOf 3 = 1:=by kernel_rfl
 rw [k] at h
 cases x with
 | none => exact absurd rfl hx
 | some y =>
  obtain ⟨lo,hl,_⟩:=DataW.trod_int Tryz.underlying3 h
  exact ⟨lo,hl⟩
theorem aBn {n : Nat} {off : Nat} {cs : List Value} {x : Option (DataW H × List MemPlace)} (hx : x ≠ none) (h : DataW.trod enc Tryz.prog W base spare held n 4 ((cs.drop off).take (Tryz.prog.cellsOf 4)) = x) : ∃ z : Bool,(cs.drop off).take 1 = [.bool z]:=by
 have k : Tryz.prog.cellsOf 4 = 1:=by kernel_rfl
 rw [k] at h
 cases x with
 | none => exact absurd rfl hx
 | some y =>
  obtain ⟨lo,hl,_⟩:=DataW.trod_bool Tryz.underlying4 h
  exact ⟨lo,hl⟩
end
end
section
open Go.RowKit Go.ChangeShapes Go.WideShapes Go.Deep
section
variable {H : Type} {enc : TypeId × Value → H} {W : World} {base : Nat} {spare : Nat → Bool} {held : Bool}
def lO (l : bH) : List Int:=[l.Float,l.Skill,l.Days]
set_option maxRecDepth 100000 in
theorem aHs {n : Nat} {cs : List Value} {x : DataW H × List MemPlace} (h : DataW.trod enc Tryz.prog W base spare held n 28 cs = some x) : ∃ l : bH,cs = (lO l).map (Value.int .i64):=by
 obtain ⟨xs,m,_,_,hcl,hlen,hf⟩:=DataW.trod_struct Tryz.underlying28 h
 have kw : Tryz.prog.cellsOf 28 = 3:=by kernel_rfl
 rw [kw] at hcl
 match cs,hcl with
 | [c0,c1,c2],_ =>
  obtain ⟨x0,e0⟩:=eY hlen (i:=0) (by decide)
  obtain ⟨z0,h0⟩:=qT (cs:=[c0,c1,c2]) (off:=0) (by rw [e0]; simp) (hf 0 _ rfl)
  obtain ⟨x1,e1⟩:=eY hlen (i:=1) (by decide)
  obtain ⟨z1,h1⟩:=qT (cs:=[c0,c1,c2]) (off:=1) (by rw [e1]; simp) (hf 1 _ rfl)
  obtain ⟨x2,e2⟩:=eY hlen (i:=2) (by decide)
  obtain ⟨z2,h2⟩:=qT (cs:=[c0,c1,c2]) (off:=2) (by rw [e2]; simp) (hf 2 _ rfl)
  simp at h0 h1 h2
  subst h0 h1 h2
  exact ⟨⟨z0,z1,z2⟩,rfl⟩
theorem aEw (l : bH) : (aI l).cells = (lO l).map (AV.int .i64):=rfl
set_option maxRecDepth 100000 in
theorem aGm {a : Option Addr} {len cap : Nat} {x : DataW H × List MemPlace} {fuel : Nat} (hsp : ∀ b,spare b = true) (h : DataW.trod enc Tryz.prog W base spare held fuel 23 [.slice a len cap] = some x) :
  ∃ ls : List bH,ls.length ≤ maxLen ∧ VR (Gh.all W) (.sl (ls.map aI) none) (.slice a len cap):=by
 have kw : Tryz.prog.cellsOf 28 = 3:=by kernel_rfl
 rcases open_slice Tryz.underlying23 h with ⟨hcs,_⟩ | ⟨ad,l,c,m,n,D,Pl,hcs,hb,hl,hm,hmm,hx,hi⟩
 ·simp at hcs
  obtain ⟨rfl,rfl,rfl⟩:=hcs
  exact ⟨[],by simp,.sl0 _ _⟩
 ·simp at hcs
  obtain ⟨rfl,rfl,rfl⟩:=hcs
  have hw : ∀ i,∃ g : bH,i < len → ∀ j z,(lO g)[j]? = some z → W.cell? (ad.add (i * 3 + j)) = some (.int .i64 z):=by
   intro i
   by_cases hil : i < len
   ·obtain ⟨cs, hcells, ht⟩ := hi i (by rw [hmm]; split <;> omega)
    obtain ⟨g,rfl⟩:=aHs ht
    rw [kw] at hcells
    obtain ⟨_,hcl,hat⟩:=World.cells?_some hcells
    refine ⟨g,fun _ j z hz => ?_⟩
    have hj : j < 3:=(List.getElem?_eq_some_iff.1 hz).1
    rw [← Go.Deep.add_add,hat j hj,List.getElem?_map,hz]
    rfl
   ·exact ⟨default,fun h => absurd h hil⟩
  obtain ⟨f,hf⟩:=Classical.axiomOfChoice hw
  refine ⟨(List.range len).map f,by simp; omega,?_⟩
  by_cases h0 : len = 0
  ·subst h0
   exact .sl0 _ _
  ·have hx : ∃ b o,ad = ⟨b,o,none⟩:=by
    have h1:=hf 0 (by omega) 0 _ rfl
    obtain ⟨b,o,sp⟩:=ad
    cases sp with
    | none => exact ⟨b,o,rfl⟩
    | some s =>
     exfalso
     unfold World.cell? at h1
     simp only [Addr.add] at h1
     split at h1 <;> simp_all
   obtain ⟨b,o,rfl⟩:=hx
   have hcl : ∀ i,i < len → ∀ j z,(lO (f i))[j]? = some z → W.cell? ⟨b,o + (i * 3 + j),none⟩ = some (.int .i64 z):=fun i hi j z hz => by
    have h1:=hf i hi j z hz
    have ej : ((⟨b,o,none⟩ : Addr).add (i * 3 + j)) = ⟨b,o + (i * 3 + j),none⟩:=by unfold Addr.add; split <;> simp_all
    rw [ej] at h1
    exact h1
   have hel : ∀ (i : Nat) y,(((List.range len).map f).map aI)[i]? = some y → i < len ∧ y = aI (f i):=fun i y hy => by
    rw [List.map_map,List.getElem?_map,Option.map_eq_some_iff] at hy
    obtain ⟨z,hz1,rfl⟩:=hy
    have hi : i < (List.range len).length:=(List.getElem?_eq_some_iff.1 hz1).1
    rw [List.length_range] at hi
    rw [List.getElem?_range hi] at hz1
    cases hz1
    exact ⟨hi,rfl⟩
   have hcz : ∀ (i j : Nat) x,(aI (f i)).cells[j]? = some x → j < 3 ∧ ∃ z,(lO (f i))[j]? = some z ∧ x = .int .i64 z:=fun i j x hx => by
    rw [aEw,List.getElem?_map,Option.map_eq_some_iff] at hx
    obtain ⟨z,hz,rfl⟩:=hx
    exact ⟨(List.getElem?_eq_some_iff.1 hz).1,z,hz,rfl⟩
   have hus : ∀ (i j : Nat) z,j < 3 → (lO (f i))[j]? = some z → (lO (f ((i * 3 + j) / 3))).getD ((i * 3 + j) % 3) 0 = z:=fun i j z hj hz => by
    rw [show (i * 3 + j) / 3 = i by omega,show (i * 3 + j) % 3 = j by omega,List.getD_eq_getElem?_getD,hz]
    rfl
   have hlm : (((List.range len).map f).map aI).length = len:=by simp
   have key := VR.sl (G := Gh.all W) (((List.range len).map f).map aI) 3 b o cap (fun k => .int .i64 ((lO (f (k / 3))).getD (k % 3) 0)) (by rw [hlm]; exact hl) (fun i y hy => by rw [(hel i y hy).2]; rfl)
    (fun i y j x hy hx => by
      obtain ⟨hi,rfl⟩:=hel i y hy
      obtain ⟨hj,z,hz,rfl⟩:=hcz i j x hx
      show W.cell? _ = _
      rw [hcl i hi j z hz, hus i j z hj hz])
    (fun i y j x hy hx => by
      obtain ⟨hi,rfl⟩:=hel i y hy
      obtain ⟨hj,z,hz,rfl⟩:=hcz i j x hx
      rw [hus i j z hj hz]
      exact .int _ _)
   rw [hlm] at key
   exact key
set_option maxRecDepth 100000 in
theorem aHr {r0 : Reach} {b0 : Nat} {v : Value} {d : DataW H} {p : List MemPlace} (hv : Value.okWide Tryz.prog W r0 b0 28 v) (h : DataW.Trod enc Tryz.prog W base (fun _ => true) held 28 v d p) :
  ∃ x : bH,VR (Gh.all W) (aI x) v:=by
 obtain ⟨us,rfl,hsz⟩:=okWide_struct Tryz.underlying28 hv
 obtain ⟨fuel,hf⟩:=h
 have kw : Tryz.prog.cellsOf 28 = 3:=by kernel_rfl
 rw [kw] at hsz
 obtain ⟨us⟩:=us
 match us,hsz with
 | [c0,c1,c2],_ =>
  obtain ⟨xs,m,_,_,_,hlen,hf⟩:=DataW.trod_struct Tryz.underlying28 hf
  obtain ⟨x0,e0⟩:=eY hlen (i:=0) (by decide)
  obtain ⟨z0,h0⟩:=qT (cs:=[c0,c1,c2]) (off:=0) (by rw [e0]; simp) (hf 0 _ rfl)
  obtain ⟨x1,e1⟩:=eY hlen (i:=1) (by decide)
  obtain ⟨z1,h1⟩:=qT (cs:=[c0,c1,c2]) (off:=1) (by rw [e1]; simp) (hf 1 _ rfl)
  obtain ⟨x2,e2⟩:=eY hlen (i:=2) (by decide)
  obtain ⟨z2,h2⟩:=qT (cs:=[c0,c1,c2]) (off:=2) (by rw [e2]; simp) (hf 2 _ rfl)
  simp at h0 h1 h2
  subst h0 h1 h2
  refine ⟨⟨z0,z1,z2⟩,.agg _ _ rfl ?_⟩
  intro i x u hx hu
  match i with
  | 0 => simp [aW] at hx hu; subst hx; subst hu; exact .int _ _
  | 1 => simp [aW] at hx hu; subst hx; subst hu; exact .int _ _
  | 2 => simp [aW] at hx hu; subst hx; subst hu; exact .int _ _
  | i + 3 => simp [aW] at hx
end
end
end Go.Proofs.YtildamklmoekaaaGreatDoor
