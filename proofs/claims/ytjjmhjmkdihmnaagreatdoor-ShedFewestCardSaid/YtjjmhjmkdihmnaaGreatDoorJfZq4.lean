/- Part 5 of what the law needs: own work, put together. -/
import Derived.Test.YtjjmhjmkdihmnaaGreatDoorJfZq3
set_option linter.unusedVariables false
set_option linter.unusedSimpArgs false
set_option maxRecDepth 10000
set_option maxHeartbeats 4000000
namespace Go.Proofs.YtjjmhjmkdihmnaaGreatDoor
section
open Go.RowKit
attribute [local simp] bB AV.clean cS fG dP fI eX re re1 back back1 AV.plain AV.plain1 cN aK ren ren1 fadeS fadeV List.idxOf? List.findIdx? List.findIdx?.go nK dn dn1 dnN
structure bI where
 Weld : Bool
 Carve : Bool
 Paint : Bool
 deriving Inhabited
def aX (x : bI) : List AV:=[.bool x.Weld,.bool x.Carve,.bool x.Paint]
attribute [local simp] aX
def aN (x : bI) : AV:=.agg (aX x)
attribute [local simp] aN
theorem aEy (x : bI) : bB (aX x) = true:=by simp
theorem aEA (x : bI) : (aN x).clean = true:=aEy x
theorem cV (l : List bI) : bB (l.map aN) = true:=eA aEA l
attribute [local simp] cV
theorem oY (x : bI) (n : Nat) (σ : List Nat) : (aX x).mapM (re n σ) = some (aX x):=by simp
attribute [local simp] oY
structure bR where
 Float : Int
 Skill : Int
 Days : Int
 deriving Inhabited
def aY (x : bR) : List AV:=[i6 x.Float,i6 x.Skill,i6 x.Days]
attribute [local simp] aY
def aJ (x : bR) : AV:=.agg (aY x)
attribute [local simp] aJ
theorem aHq (x : bR) : bB (aY x) = true:=by simp
theorem aHr (x : bR) : (aJ x).clean = true:=aHq x
theorem eP (l : List bR) : bB (l.map aJ) = true:=eA aHr l
attribute [local simp] eP
theorem zB (x : bR) (n : Nat) (σ : List Nat) : (aY x).mapM (re n σ) = some (aY x):=by simp
attribute [local simp] zB
structure aV where
 Workers : (List bI)
 Jobs : (List bR)
 deriving Inhabited
def aH (x : aV) : List AV:=[.sl (x.Workers.map aN) none,.sl (x.Jobs.map aJ) none]
attribute [local simp] aH
def aP (x : aV) : AV:=.agg (aH x)
attribute [local simp] aP
theorem aGk (x : aV) : bB (aH x) = true:=by simp
theorem aGn (x : aV) : (aP x).clean = true:=aGk x
theorem fT (l : List aV) : bB (l.map aP) = true:=eA aGn l
attribute [local simp] fT
theorem uZ (x : aV) (n : Nat) (σ : List Nat) : (aH x).mapM (re n σ) = some (aH x):=by simp
attribute [local simp] uZ
theorem zC (x y : aW) (h : cN x = cN y) : x = y:=by
 have h:=AV.agg.inj h
 simp only [aK,List.cons.injEq,AV.int.injEq,AV.bool.injEq,AV.str.injEq,AV.sl.injEq,true_and,and_true] at h
 have h0:=h
 obtain ⟨x0⟩:=x; obtain ⟨y0⟩:=y; simp_all
theorem mZ (N : Nat) (d_1 : aW) (n_2 : Int) (d_1z : aW) (n_2z : Int) (r s : Bool × aW) (hr : dV N d_1 n_2 = some r) (hs : dV N d_1z n_2z = some s) : qH ⟨37,[.ptr 0 0,i6 n_2],[(aK d_1)],cA r,[(aK r.2)]⟩ ⟨37,[.ptr 0 0,i6 n_2z],[(aK d_1z)],cA s,[(aK s.2)]⟩:=by
 intro _ h1 h2
 have h1 : ([.ptr 0 0,i6 n_2] : List AV) = [.ptr 0 0,i6 n_2z]:=h1
 have h2 : ([(aK d_1)] : List (List AV)) = [(aK d_1z)]:=h2
 obtain rfl : d_1 = d_1z:=zC _ _ (congrArg AV.agg (List.cons.inj h2).1)
 obtain rfl : n_2 = n_2z:=(yE _) _ _ (List.cons.inj (List.cons.inj h1).2).1
 rw [hr] at hs; cases hs; exact ⟨rfl,rfl⟩
theorem zH (N : Nat) (d_1 : aW) (low_2 : Int) (high_3 : Int) (d_1z : aW) (low_2z : Int) (high_3z : Int) (r s : Int × aW) (hr : eH N d_1 low_2 high_3 = some r) (hs : eH N d_1z low_2z high_3z = some s) : qH ⟨38,[.ptr 0 0,i6 low_2,i6 high_3],[(aK d_1)],dA r,[(aK r.2)]⟩ ⟨38,[.ptr 0 0,i6 low_2z,i6 high_3z],[(aK d_1z)],dA s,[(aK s.2)]⟩:=by
 intro _ h1 h2
 have h1 : ([.ptr 0 0,i6 low_2,i6 high_3] : List AV) = [.ptr 0 0,i6 low_2z,i6 high_3z]:=h1
 have h2 : ([(aK d_1)] : List (List AV)) = [(aK d_1z)]:=h2
 obtain rfl : d_1 = d_1z:=zC _ _ (congrArg AV.agg (List.cons.inj h2).1)
 obtain rfl : low_2 = low_2z:=(yE _) _ _ (List.cons.inj (List.cons.inj h1).2).1
 obtain rfl : high_3 = high_3z:=(yE _) _ _ (List.cons.inj (List.cons.inj (List.cons.inj h1).2).2).1
 rw [hr] at hs; cases hs; exact ⟨rfl,rfl⟩
def lP (N : Nat) (d_1 : aW) (workers_2 : Int) (jobs_3 : Int) (days_4 : Int) : Option (aV × aW):=((eH N d_1 1 workers_2).bind fun r_5 => (letJ (fun (b_6 : Int) (b_7 : List bI) => ((dU N (⟨b_6⟩ : aW) (IntKind.i64.wrap (jobs_3 + 1))).bind fun r_23 => (letJ (fun (b_24 : Int) (b_25 : List bR) => some ((⟨b_7,b_25⟩ : aV),(⟨b_24⟩ : aW))) (fun k_26 => (loop3 (fun rec_32 (i_29 : Int) (b_30 : Int) (b_31 : List bR) => (bif (decide (i_29 > 0)) then ((dU N (⟨b_30⟩ : aW) 3).bind fun r_36 => ((eH N r_36.2 1 3).bind fun r_37 => ((eH N r_37.2 1 days_4).bind fun r_38 => ((lN b_31 ([(⟨r_36.1,r_37.1,r_38.1⟩ : bR)] : List bR)).bind fun l_40 => (rec_32 (IntKind.i64.wrap (i_29 - 1)) r_38.2.beat_ l_40))))) else (k_26 b_30 b_31))) N r_23.1 r_23.2.beat_ []))))) (fun k_8 => (loop3 (fun rec_14 (i_11 : Int) (b_12 : Int) (b_13 : List bI) => (bif (decide (i_11 > 0)) then ((dV N (⟨b_12⟩ : aW) 3).bind fun r_18 => ((dV N r_18.2 3).bind fun r_19 => ((dV N r_19.2 3).bind fun r_20 => ((lN b_13 ([(⟨(!r_18.1),(!r_19.1),(!r_20.1)⟩ : bI)] : List bI)).bind fun l_22 => (rec_14 (IntKind.i64.wrap (i_11 - 1)) r_20.2.beat_ l_22))))) else (k_8 b_12 b_13))) N r_5.1 r_5.2.beat_ []))))
def nT (r : aV × aW) : AV:=(aP r.1)
attribute [local simp] nT
theorem aCu (r : aV × aW) (n n2 m : Nat) : back n n2 m (nT r) = some (nT r):=by simp
theorem aCd (N : Nat) (d_1 : aW) (workers_2 : Int) (jobs_3 : Int) (days_4 : Int) (r : aV × aW) (h : lP N d_1 workers_2 jobs_3 days_4 = some r) : Does Tryz.prog 27 [.ptr 0 0,i6 workers_2,i6 jobs_3,i6 days_4] [(aK d_1)] fun v c => v = nT r ∧ c = [(aK r.2)]:=by
 unfold lP at h
 refine Does.ofL comp27 _ _ rfl rfl ?_
 refine Ex.seq (rg 1 [0,1,2,3,8] (mkS 56 [(0,.ptr 0 0),(1,i6 workers_2),(2,i6 jobs_3),(3,i6 days_4),(8,.ptr 1 0)]) ⟨[(aK d_1),[.nils,.nils]],[]⟩ ?_)
 refine Ex.seq (rg 1 [0,1,2,3,8,9] (mkS 56 [(0,.ptr 0 0),(1,i6 workers_2),(2,i6 jobs_3),(3,i6 days_4),(8,.ptr 1 0),(9,.ptr 2 0)]) ⟨[(aK d_1),[.nils,.nils],[.nils,.nils]],[]⟩ ?_)
 refine Ex.seq (Ex.seq ?_)
 obtain ⟨r_5,hr_5,h⟩:=bE h
 refine Ex.reg (rn 2 [0,2,3,8,9,12,13] (mkS 56 [(0,.ptr 0 0),(2,i6 jobs_3),(3,i6 days_4),(8,.ptr 1 0),(9,.ptr 2 0),(12,.ptr 0 0),(13,i6 workers_2)]) ⟨[(aK d_1),[.nils,.nils],[.nils,.nils]],[]⟩ ?_)
 refine ExO.callL [0] [.ptr 0 0,i6 1,i6 workers_2] rfl rfl (by simp; try rfl) rfl (by simp) (oE N d_1 1 workers_2 r_5 hr_5) (oF _ _ _ _) (by simp) ?_
 refine rn 1 [0,2,3,8,9,10] (mkS 56 [(0,.ptr 0 0),(2,i6 jobs_3),(3,i6 days_4),(8,.ptr 1 0),(9,.ptr 2 0),(10,i6 r_5.1)]) ⟨[(aK r_5.2),[.nils,.nils],[.nils,.nils]],[]⟩ ?_
 refine ExO.nil ?_
 obtain ⟨K_9,hK_10,h⟩:=letE h
 refine Ex.blockJ (fun a S => ∃ (b_6 : Int),∃ (b_7 : List bI),K_9 b_6 b_7 = some r ∧ a = mkS 56 [(0,.ptr 0 0),(2,i6 jobs_3),(3,i6 days_4),(8,.ptr 1 0),(9,.ptr 2 0)] ∧ S = ⟨[[.int .u64 b_6],[.nils,.nils],[.sl (b_7.map aN) (some 0),.nils]],[(b_7.length,3)]⟩) ?_ ?_
 ·refine Ex.forget (nilB 2 0 3 [.nils,.nils] rfl rfl) ?_
  refine Ex.castA (a2:=mkS 56 [(0,.ptr 0 0),(2,i6 jobs_3),(3,i6 days_4),(8,.ptr 1 0),(9,.ptr 2 0),(10,i6 r_5.1)]) (S2:=⟨[(aK r_5.2),[.nils,.nils],[.sl (([] : List bI).map aN) (some 0),.nils]],[(0,3)]⟩) (by kernel_rfl) (by kernel_rfl) ?_
  obtain ⟨B_15,hB_16,h⟩:=vG h
  refine Ex.loopF (fun k a S => ∃ (i_11 : Int),∃ (b_12 : Int),∃ (b_13 : List bI),loop3 B_15 k i_11 b_12 b_13 = some r ∧ a = mkS 56 [(0,.ptr 0 0),(2,i6 jobs_3),(3,i6 days_4),(8,.ptr 1 0),(9,.ptr 2 0),(10,i6 i_11)] ∧ S = ⟨[[.int .u64 b_12],[.nils,.nils],[.sl (b_13.map aN) (some 0),.nils]],[(b_13.length,3)]⟩) N ⟨_,_,aL.refl _ _ _,r_5.1,r_5.2.beat_,[],h,rfl,rfl⟩ ?_
  rintro k a S ⟨i_11,b_12,b_13,h,rfl,rfl⟩
  cases k with
  | zero => exact (vE h).elim
  | succ k =>
   replace h:=vF h hB_16
   refine Ex.seq (Ex.seq ?_)
   refine rg 2 [0,2,3,8,9,10,16] (mkS 56 [(0,.ptr 0 0),(2,i6 jobs_3),(3,i6 days_4),(8,.ptr 1 0),(9,.ptr 2 0),(10,i6 i_11),(16,.bool (decide (i_11 > 0)))]) ⟨[[.int .u64 b_12],[.nils,.nils],[.sl (b_13.map aN) (some 0),.nils]],[(b_13.length,3)]⟩ ?_
   rcases aU h with ⟨hc_17,h⟩ | ⟨hc_17,h⟩
   ·refine Ex.condT _ rfl hc_17 ?_
    refine Ex.skip ?_
    refine Ex.seq ?_
    refine Ex.blockK ?_
    obtain ⟨r_18,hr_18,h⟩:=bE h
    obtain ⟨r_19,hr_19,h⟩:=bE h
    obtain ⟨r_20,hr_20,h⟩:=bE h
    have hT_21 : iZ Tryz.prog [⟨37,[.ptr 0 0,i6 3],[[.int .u64 b_12]],(cA r_18),[(aK r_18.2)]⟩,⟨37,[.ptr 0 0,i6 3],[(aK r_18.2)],(cA r_19),[(aK r_19.2)]⟩,⟨37,[.ptr 0 0,i6 3],[(aK r_19.2)],(cA r_20),[(aK r_20.2)]⟩] ∧ gG [⟨37,[.ptr 0 0,i6 3],[[.int .u64 b_12]],(cA r_18),[(aK r_18.2)]⟩,⟨37,[.ptr 0 0,i6 3],[(aK r_18.2)],(cA r_19),[(aK r_19.2)]⟩,⟨37,[.ptr 0 0,i6 3],[(aK r_19.2)],(cA r_20),[(aK r_20.2)]⟩]:=⟨⟨(nC N (⟨b_12⟩ : aW) 3 r_18 hr_18),rfl,(nC N r_18.2 3 r_19 hr_19),rfl,(nC N r_19.2 3 r_20 hr_20),rfl,trivial⟩,⟨⟨mZ N (⟨b_12⟩ : aW) 3 r_18.2 3 r_18 r_19 hr_18 hr_19,mZ N (⟨b_12⟩ : aW) 3 r_19.2 3 r_18 r_20 hr_18 hr_20,trivial⟩,⟨mZ N r_18.2 3 r_19.2 3 r_19 r_20 hr_19 hr_20,trivial⟩,trivial,trivial⟩⟩
    refine Ex.drawE (a1:=mkS 56 [(0,.ptr 0 0),(2,i6 jobs_3),(3,i6 days_4),(8,.ptr 1 0),(9,.ptr 2 0),(10,i6 i_11),(16,.bool (decide (i_11 > 0))),(19,.ptr 2 0),(20,.sl (b_13.map aN) (some 0)),(21,.ptr 0 0),(22,.bool r_18.1),(23,.bool (!r_18.1)),(24,.ptr 0 0),(25,.bool r_19.1),(26,.bool (!r_19.1)),(27,.ptr 0 0),(28,.bool r_20.1),(29,.bool (!r_20.1)),(30,.agg [.bool (!r_18.1),.bool (!r_19.1),.bool (!r_20.1)]),(31,.sl (([(⟨(!r_18.1),(!r_19.1),(!r_20.1)⟩ : bI)] : List bI).map aN) (some 1))]) (gK hT_21.1) [] [(1,3)] [⟨[(aK r_18.2),[.nils,.nils],[.sl (b_13.map aN) (some 0),.nils]],[(b_13.length,3),(1,3)]⟩,⟨[(aK r_19.2),[.nils,.nils],[.sl (b_13.map aN) (some 0),.nils]],[(b_13.length,3),(1,3)]⟩,⟨[(aK r_20.2),[.nils,.nils],[.sl (b_13.map aN) (some 0),.nils]],[(b_13.length,3),(1,3)]⟩] ?_ ?_
    ·refine drS [1, 2] 3 [] [] (mkS 56 [(0, .ptr 0 0), (2, i6 jobs_3), (3, i6 days_4), (8, .ptr 1 0), (9, .ptr 2 0), (10, i6 i_11), (16, .bool (decide (i_11 > 0))), (19, .ptr 2 0), (20, .sl (b_13.map aN) (some 0)), (21, .ptr 0 0)]) (by simp) (by kernel_rfl) trivial (by kernel_rfl) ?_
     refine drB hT_21.2 0 _ [0] [.ptr 0 0,i6 3] (cA r_18) _ _ rfl rfl rfl rfl rfl rfl rfl rfl (by simp; try rfl) rfl (by simp) (nH _ _ _ _) (by simp) rfl ?_
     refine drS [1,2] 2 [] [] (mkS 56 [(0,.ptr 0 0),(2,i6 jobs_3),(3,i6 days_4),(8,.ptr 1 0),(9,.ptr 2 0),(10,i6 i_11),(16,.bool (decide (i_11 > 0))),(19,.ptr 2 0),(20,.sl (b_13.map aN) (some 0)),(21,.ptr 0 0),(22,.bool r_18.1),(23,.bool (!r_18.1)),(24,.ptr 0 0)]) (by simp) (by kernel_rfl) trivial (by kernel_rfl) ?_
     refine drB hT_21.2 1 _ [0] [.ptr 0 0,i6 3] (cA r_19) _ _ rfl rfl rfl rfl rfl rfl rfl rfl (by simp; try rfl) rfl (by simp) (nH _ _ _ _) (by simp) rfl ?_
     refine drS [1,2] 2 [] [] (mkS 56 [(0,.ptr 0 0),(2,i6 jobs_3),(3,i6 days_4),(8,.ptr 1 0),(9,.ptr 2 0),(10,i6 i_11),(16,.bool (decide (i_11 > 0))),(19,.ptr 2 0),(20,.sl (b_13.map aN) (some 0)),(21,.ptr 0 0),(22,.bool r_18.1),(23,.bool (!r_18.1)),(24,.ptr 0 0),(25,.bool r_19.1),(26,.bool (!r_19.1)),(27,.ptr 0 0)]) (by simp) (by kernel_rfl) trivial (by kernel_rfl) ?_
     refine drB hT_21.2 2 _ [0] [.ptr 0 0,i6 3] (cA r_20) _ _ rfl rfl rfl rfl rfl rfl rfl rfl (by simp; try rfl) rfl (by simp) (nH _ _ _ _) (by simp) rfl ?_
     refine drS [1,2] 2 [] [] (mkS 56 [(0,.ptr 0 0),(2,i6 jobs_3),(3,i6 days_4),(8,.ptr 1 0),(9,.ptr 2 0),(10,i6 i_11),(16,.bool (decide (i_11 > 0))),(19,.ptr 2 0),(20,.sl (b_13.map aN) (some 0)),(21,.ptr 0 0),(22,.bool r_18.1),(23,.bool (!r_18.1)),(24,.ptr 0 0),(25,.bool r_19.1),(26,.bool (!r_19.1)),(27,.ptr 0 0),(28,.bool r_20.1),(29,.bool (!r_20.1)),(30,.agg [.bool (!r_18.1),.bool (!r_19.1),.bool (!r_20.1)])]) (by simp) (by kernel_rfl) trivial (by kernel_rfl) ?_
     refine drR 1 3 (([(⟨(!r_18.1),(!r_19.1),(!r_20.1)⟩ : bI)] : List bI).map aN) rfl rfl (fun _ => by kernel_rfl) (by simp) rfl rfl ?_
     exact DrO.nil rfl
    ·dsimp only [List.getLastD_cons,List.getLastD_nil]
     obtain ⟨l_22,hl_22,h⟩:=bE h
     refine runH 3 [(0,.app (l_22.map aN) l_22.length)] [0,2,3,8,9,10] [LApp b_13.length (b_13.map aN) (([(⟨(!r_18.1),(!r_19.1),(!r_20.1)⟩ : bI)] : List bI).map aN) 3 (l_22.map aN) l_22.length] (mkS 56 [(0,.ptr 0 0),(2,i6 jobs_3),(3,i6 days_4),(8,.ptr 1 0),(9,.ptr 2 0),(10,i6 i_11)]) (⟨[(aK r_20.2),[.nils,.nils],[.sl (l_22.map aN) (some 0),.nils]],[(l_22.length,3),(1,3)]⟩) (by kernel_rfl) ⟨LApp.of hl_22 (fun _ => rfl),trivial⟩ ?_
     refine ExO.nil ?_
     refine rg 3 [0,2,3,8,9,10] (mkS 56 [(0,.ptr 0 0),(2,i6 jobs_3),(3,i6 days_4),(8,.ptr 1 0),(9,.ptr 2 0),(10,i6 (IntKind.i64.wrap (i_11 - 1)))]) ⟨[(aK r_20.2),[.nils,.nils],[.sl (l_22.map aN) (some 0),.nils]],[(l_22.length,3),(1,3)]⟩ ?_
     dsimp only
     exact ⟨_,_,bU (m:=56) 3 [0] [(0,.ptr 0 0),(2,i6 jobs_3),(3,i6 days_4),(8,.ptr 1 0),(9,.ptr 2 0),(10,i6 (IntKind.i64.wrap (i_11 - 1)))] [(aK r_20.2),[.nils,.nils],[.sl (l_22.map aN) (some 0),.nils]] [(l_22.length,3)] (by simp [bH]) (by simp) ⟨rfl,rfl,rfl,rfl,rfl,rfl,trivial⟩ (by simp) rfl (by decide),k,Nat.lt_succ_self k,(IntKind.i64.wrap (i_11 - 1)),r_20.2.beat_,l_22,h,rfl,rfl⟩
   ·refine Ex.condF _ rfl hc_17 ?_
    refine Ex.exit ?_
    (try simp only [reduceCtorEq,AEx.ex.injEq,Nat.reduceEqDiff,if_true,if_false])
    exact ⟨_,_,bS [0,2,3,8,9],b_12,b_13,h,rfl,rfl⟩
 ·rintro a S ⟨b_6,b_7,h,rfl,rfl⟩
  subst hK_10
  refine Ex.seq (Ex.seq ?_)
  obtain ⟨r_23,hr_23,h⟩:=bE h
  refine Ex.reg (rn 3 [0,3,8,9,34,36] (mkS 56 [(0,.ptr 0 0),(3,i6 days_4),(8,.ptr 1 0),(9,.ptr 2 0),(34,.ptr 0 0),(36,i6 (IntKind.i64.wrap (jobs_3 + 1)))]) ⟨[[.int .u64 b_6],[.nils,.nils],[.sl (b_7.map aN) (some 0),.nils]],[(b_7.length,3)]⟩ ?_)
  refine ExO.callL [0] [.ptr 0 0,i6 (IntKind.i64.wrap (jobs_3 + 1))] rfl rfl (by simp; try rfl) rfl (by simp) (kI N (⟨b_6⟩ : aW) (IntKind.i64.wrap (jobs_3 + 1)) r_23 hr_23) (kP _ _ _ _) (by simp) ?_
  refine rn 1 [0,3,8,9,11] (mkS 56 [(0,.ptr 0 0),(3,i6 days_4),(8,.ptr 1 0),(9,.ptr 2 0),(11,i6 r_23.1)]) ⟨[(aK r_23.2),[.nils,.nils],[.sl (b_7.map aN) (some 0),.nils]],[(b_7.length,3)]⟩ ?_
  refine ExO.nil ?_
  obtain ⟨K_27,hK_28,h⟩:=letE h
  refine Ex.blockJ (fun a S => ∃ (b_24 : Int),∃ (b_25 : List bR),K_27 b_24 b_25 = some r ∧ a = mkS 56 [(8,.ptr 1 0),(9,.ptr 2 0)] ∧ S = ⟨[[.int .u64 b_24],[.nils,.nils],[.sl (b_7.map aN) (some 0),.sl (b_25.map aJ) (some 1)]],[(b_7.length,3),(b_25.length,3)]⟩) ?_ ?_
  ·refine Ex.forget (nilB 2 1 3 [.sl (b_7.map aN) (some 0),.nils] rfl rfl) ?_
   refine Ex.castA (a2:=mkS 56 [(0,.ptr 0 0),(3,i6 days_4),(8,.ptr 1 0),(9,.ptr 2 0),(11,i6 r_23.1)]) (S2:=⟨[(aK r_23.2),[.nils,.nils],[.sl (b_7.map aN) (some 0),.sl (([] : List bR).map aJ) (some 1)]],[(b_7.length,3),(0,3)]⟩) (by kernel_rfl) (by kernel_rfl) ?_
   obtain ⟨B_33,hB_34,h⟩:=vG h
   refine Ex.loopF (fun k a S => ∃ (i_29 : Int),∃ (b_30 : Int),∃ (b_31 : List bR),loop3 B_33 k i_29 b_30 b_31 = some r ∧ a = mkS 56 [(0,.ptr 0 0),(3,i6 days_4),(8,.ptr 1 0),(9,.ptr 2 0),(11,i6 i_29)] ∧ S = ⟨[[.int .u64 b_30],[.nils,.nils],[.sl (b_7.map aN) (some 0),.sl (b_31.map aJ) (some 1)]],[(b_7.length,3),(b_31.length,3)]⟩) N ⟨_,_,aL.refl _ _ _,r_23.1,r_23.2.beat_,[],h,rfl,rfl⟩ ?_
   rintro k a S ⟨i_29,b_30,b_31,h,rfl,rfl⟩
   cases k with
   | zero => exact (vE h).elim
   | succ k =>
    replace h:=vF h hB_34
    refine Ex.seq (Ex.seq ?_)
    refine rg 2 [0,3,8,9,11,39] (mkS 56 [(0,.ptr 0 0),(3,i6 days_4),(8,.ptr 1 0),(9,.ptr 2 0),(11,i6 i_29),(39,.bool (decide (i_29 > 0)))]) ⟨[[.int .u64 b_30],[.nils,.nils],[.sl (b_7.map aN) (some 0),.sl (b_31.map aJ) (some 1)]],[(b_7.length,3),(b_31.length,3)]⟩ ?_
    rcases aU h with ⟨hc_35,h⟩ | ⟨hc_35,h⟩
    ·refine Ex.condT _ rfl hc_35 ?_
     refine Ex.skip ?_
     refine Ex.seq ?_
     refine Ex.blockK ?_
     obtain ⟨r_36,hr_36,h⟩:=bE h
     obtain ⟨r_37,hr_37,h⟩:=bE h
     obtain ⟨r_38,hr_38,h⟩:=bE h
     have hT_39 : iZ Tryz.prog [⟨36,[.ptr 0 0,i6 3],[[.int .u64 b_30]],(fE r_36),[(aK r_36.2)]⟩,⟨38,[.ptr 0 0,i6 1,i6 3],[(aK r_36.2)],(dA r_37),[(aK r_37.2)]⟩,⟨38,[.ptr 0 0,i6 1,i6 days_4],[(aK r_37.2)],(dA r_38),[(aK r_38.2)]⟩] ∧ gG [⟨36,[.ptr 0 0,i6 3],[[.int .u64 b_30]],(fE r_36),[(aK r_36.2)]⟩,⟨38,[.ptr 0 0,i6 1,i6 3],[(aK r_36.2)],(dA r_37),[(aK r_37.2)]⟩,⟨38,[.ptr 0 0,i6 1,i6 days_4],[(aK r_37.2)],(dA r_38),[(aK r_38.2)]⟩]:=⟨⟨(kI N (⟨b_30⟩ : aW) 3 r_36 hr_36),rfl,(oE N r_36.2 1 3 r_37 hr_37),rfl,(oE N r_37.2 1 days_4 r_38 hr_38),rfl,trivial⟩,⟨⟨qH.ne rfl,qH.ne rfl,trivial⟩,⟨zH N r_36.2 1 3 r_37.2 1 days_4 r_37 r_38 hr_37 hr_38,trivial⟩,trivial,trivial⟩⟩
     refine Ex.drawE (a1:=mkS 56 [(0,.ptr 0 0),(3,i6 days_4),(8,.ptr 1 0),(9,.ptr 2 0),(11,i6 i_29),(39,.bool (decide (i_29 > 0))),(42,.ptr 2 1),(43,.sl (b_31.map aJ) (some 1)),(44,.ptr 0 0),(45,i6 r_36.1),(46,.ptr 0 0),(47,i6 r_37.1),(48,.ptr 0 0),(49,i6 days_4),(50,i6 r_38.1),(51,.agg [i6 r_36.1,i6 r_37.1,i6 r_38.1]),(52,.sl (([(⟨r_36.1,r_37.1,r_38.1⟩ : bR)] : List bR).map aJ) (some 2))]) (gK hT_39.1) [] [(1,3)] [⟨[(aK r_36.2),[.nils,.nils],[.sl (b_7.map aN) (some 0),.sl (b_31.map aJ) (some 1)]],[(b_7.length,3),(b_31.length,3),(1,3)]⟩,⟨[(aK r_37.2),[.nils,.nils],[.sl (b_7.map aN) (some 0),.sl (b_31.map aJ) (some 1)]],[(b_7.length,3),(b_31.length,3),(1,3)]⟩,⟨[(aK r_38.2),[.nils,.nils],[.sl (b_7.map aN) (some 0),.sl (b_31.map aJ) (some 1)]],[(b_7.length,3),(b_31.length,3),(1,3)]⟩] ?_ ?_
     ·refine drS [1, 2] 3 [] [] (mkS 56 [(0, .ptr 0 0), (3, i6 days_4), (8, .ptr 1 0), (9, .ptr 2 0), (11, i6 i_29), (39, .bool (decide (i_29 > 0))), (42, .ptr 2 1), (43, .sl (b_31.map aJ) (some 1)), (44, .ptr 0 0)]) (by simp) (by kernel_rfl) trivial (by kernel_rfl) ?_
      refine drB hT_39.2 0 _ [0] [.ptr 0 0,i6 3] (fE r_36) _ _ rfl rfl rfl rfl rfl rfl rfl rfl (by simp; try rfl) rfl (by simp) (kP _ _ _ _) (by simp) rfl ?_
      refine drS [1,2] 1 [] [] (mkS 56 [(0,.ptr 0 0),(3,i6 days_4),(8,.ptr 1 0),(9,.ptr 2 0),(11,i6 i_29),(39,.bool (decide (i_29 > 0))),(42,.ptr 2 1),(43,.sl (b_31.map aJ) (some 1)),(44,.ptr 0 0),(45,i6 r_36.1),(46,.ptr 0 0)]) (by simp) (by kernel_rfl) trivial (by kernel_rfl) ?_
      refine drB hT_39.2 1 _ [0] [.ptr 0 0,i6 1,i6 3] (dA r_37) _ _ rfl rfl rfl rfl rfl rfl rfl rfl (by simp; try rfl) rfl (by simp) (oF _ _ _ _) (by simp) rfl ?_
      refine drS [1,2] 2 [] [] (mkS 56 [(0,.ptr 0 0),(3,i6 days_4),(8,.ptr 1 0),(9,.ptr 2 0),(11,i6 i_29),(39,.bool (decide (i_29 > 0))),(42,.ptr 2 1),(43,.sl (b_31.map aJ) (some 1)),(44,.ptr 0 0),(45,i6 r_36.1),(46,.ptr 0 0),(47,i6 r_37.1),(48,.ptr 0 0),(49,i6 days_4)]) (by simp) (by kernel_rfl) trivial (by kernel_rfl) ?_
      refine drB hT_39.2 2 _ [0] [.ptr 0 0,i6 1,i6 days_4] (dA r_38) _ _ rfl rfl rfl rfl rfl rfl rfl rfl (by simp; try rfl) rfl (by simp) (oF _ _ _ _) (by simp) rfl ?_
      refine drS [1,2] 1 [] [] (mkS 56 [(0,.ptr 0 0),(3,i6 days_4),(8,.ptr 1 0),(9,.ptr 2 0),(11,i6 i_29),(39,.bool (decide (i_29 > 0))),(42,.ptr 2 1),(43,.sl (b_31.map aJ) (some 1)),(44,.ptr 0 0),(45,i6 r_36.1),(46,.ptr 0 0),(47,i6 r_37.1),(48,.ptr 0 0),(49,i6 days_4),(50,i6 r_38.1),(51,.agg [i6 r_36.1,i6 r_37.1,i6 r_38.1])]) (by simp) (by kernel_rfl) trivial (by kernel_rfl) ?_
      refine drR 2 3 (([(⟨r_36.1,r_37.1,r_38.1⟩ : bR)] : List bR).map aJ) rfl rfl (fun _ => by kernel_rfl) (by simp) rfl rfl ?_
      exact DrO.nil rfl
     ·dsimp only [List.getLastD_cons,List.getLastD_nil]
      obtain ⟨l_40,hl_40,h⟩:=bE h
      refine runH 3 [(0,.app (l_40.map aJ) l_40.length)] [0,3,8,9,11] [LApp b_31.length (b_31.map aJ) (([(⟨r_36.1,r_37.1,r_38.1⟩ : bR)] : List bR).map aJ) 3 (l_40.map aJ) l_40.length] (mkS 56 [(0,.ptr 0 0),(3,i6 days_4),(8,.ptr 1 0),(9,.ptr 2 0),(11,i6 i_29)]) (⟨[(aK r_38.2),[.nils,.nils],[.sl (b_7.map aN) (some 0),.sl (l_40.map aJ) (some 1)]],[(b_7.length,3),(l_40.length,3),(1,3)]⟩) (by kernel_rfl) ⟨LApp.of hl_40 (fun _ => rfl),trivial⟩ ?_
      refine ExO.nil ?_
      refine rg 3 [0,3,8,9,11] (mkS 56 [(0,.ptr 0 0),(3,i6 days_4),(8,.ptr 1 0),(9,.ptr 2 0),(11,i6 (IntKind.i64.wrap (i_29 - 1)))]) ⟨[(aK r_38.2),[.nils,.nils],[.sl (b_7.map aN) (some 0),.sl (l_40.map aJ) (some 1)]],[(b_7.length,3),(l_40.length,3),(1,3)]⟩ ?_
      dsimp only
      exact ⟨_,_,bU (m:=56) 3 [0,1] [(0,.ptr 0 0),(3,i6 days_4),(8,.ptr 1 0),(9,.ptr 2 0),(11,i6 (IntKind.i64.wrap (i_29 - 1)))] [(aK r_38.2),[.nils,.nils],[.sl (b_7.map aN) (some 0),.sl (l_40.map aJ) (some 1)]] [(b_7.length,3),(l_40.length,3)] (by simp [bH]) (by simp) ⟨rfl,rfl,rfl,rfl,rfl,trivial⟩ (by simp) rfl (by decide),k,Nat.lt_succ_self k,(IntKind.i64.wrap (i_29 - 1)),r_38.2.beat_,l_40,h,rfl,rfl⟩
    ·refine Ex.condF _ rfl hc_35 ?_
     refine Ex.exit ?_
     (try simp only [reduceCtorEq,AEx.ex.injEq,Nat.reduceEqDiff,if_true,if_false])
     exact ⟨_,_,bS [8,9],b_30,b_31,h,rfl,rfl⟩
  ·rintro a S ⟨b_24,b_25,h,rfl,rfl⟩
   subst hK_28
   refine Ex.seq (rg 2 [8] (mkS 56 [(8,.ptr 1 0)]) ⟨[[.int .u64 b_24],[.sl (b_7.map aN) (some 0),.sl (b_25.map aJ) (some 1)],[.sl (b_7.map aN) (some 0),.sl (b_25.map aJ) (some 1)]],[(b_7.length,3),(b_25.length,3)]⟩ ?_)
   refine Ex.ret ?_
   obtain rfl:=sJ h
   exact rt (.agg [.sl (b_7.map aN) (some 0),.sl (b_25.map aJ) (some 1)])
def qR (N : Nat) (a_1 : (List Int)) (b_2 : (List Int)) : Option (Bool):=(bif (((a_1.length : Nat) : Int) != ((b_2.length : Nat) : Int)) then some false else (letJ (fun (_ : Unit) => some true) (fun k_4 => (loop1 (fun rec_8 (i_7 : Int) => (bif (decide (i_7 < ((a_1.length : Nat) : Int))) then ((getI a_1 i_7).bind fun x_12 => ((getI b_2 i_7).bind fun x_13 => (bif (x_12 != x_13) then some false else (rec_8 (IntKind.i64.wrap (i_7 + 1)))))) else (k_4 ()))) N 0))))
def nU (r : Bool) : AV:=.bool r
attribute [local simp] nU
theorem aCC (a_1 : (List Int)) (b_2 : (List Int)) : [.sl (a_1.map (AV.int .i64)) none,.sl (b_2.map (AV.int .i64)) none].mapM (ren []) = some [.sl (a_1.map (AV.int .i64)) none,.sl (b_2.map (AV.int .i64)) none]:=by simp
theorem aCv (r : Bool) (n n2 m : Nat) : back n n2 m (nU r) = some (nU r):=by simp
theorem aCe (N : Nat) (a_1 : (List Int)) (b_2 : (List Int)) (r : Bool) (h : qR N a_1 b_2 = some r) : Does Tryz.prog 23 [.sl (a_1.map (AV.int .i64)) none,.sl (b_2.map (AV.int .i64)) none] [] fun v c => v = nU r ∧ c = []:=by
 unfold qR at h
 refine Does.ofL comp23 _ _ rfl rfl ?_
 refine Ex.seq (rg 1 [0,1] (mkS 26 [(0,.sl (a_1.map (AV.int .i64)) none),(1,.sl (b_2.map (AV.int .i64)) none)]) ⟨[],[]⟩ ?_)
 refine Ex.seq (Ex.seq ?_)
 refine regH 5 [(1,.eq (i6 ((a_1.length : Nat) : Int))),(3,.eq (i6 ((b_2.length : Nat) : Int)))] [0,1,10] [AV.int .i64 (((a_1.map (AV.int .i64)).length : Nat) : Int) = AV.int .i64 ((a_1.length : Nat) : Int),AV.int .i64 (((b_2.map (AV.int .i64)).length : Nat) : Int) = AV.int .i64 ((b_2.length : Nat) : Int)] (mkS 26 [(0,.sl (a_1.map (AV.int .i64)) none),(1,.sl (b_2.map (AV.int .i64)) none),(10,.bool (((a_1.length : Nat) : Int) != ((b_2.length : Nat) : Int)))]) (⟨[],[]⟩) (by kernel_rfl) ⟨lenM _ _,lenM _ _,trivial⟩ rfl ?_
 rcases aU h with ⟨hc_3,h⟩ | ⟨hc_3,h⟩
 ·refine Ex.condT _ rfl hc_3 ?_
  refine Ex.seq (rg 1 [4] (mkS 26 [(4,.bool false)]) ⟨[],[]⟩ ?_)
  refine Ex.ret ?_
  obtain rfl:=sJ h
  exact rt (.bool false)
 ·refine Ex.condF _ rfl hc_3 ?_
  refine Ex.skip ?_
  refine Ex.seq (Ex.seq ?_)
  refine rg 1 [0,1,5] (mkS 26 [(0,.sl (a_1.map (AV.int .i64)) none),(1,.sl (b_2.map (AV.int .i64)) none),(5,i6 0)]) ⟨[],[]⟩ ?_
  obtain ⟨K_5,hK_6,h⟩:=letE h
  refine Ex.blockJ (fun a S => K_5 () = some r ∧ a = mkS 26 [] ∧ S = ⟨[],[]⟩) ?_ ?_
  ·obtain ⟨B_9,hB_10,h⟩:=fW h
   refine Ex.loopF (fun k a S => ∃ (i_7 : Int),loop1 B_9 k i_7 = some r ∧ a = mkS 26 [(0,.sl (a_1.map (AV.int .i64)) none),(1,.sl (b_2.map (AV.int .i64)) none),(5,i6 i_7)] ∧ S = ⟨[],[]⟩) N ⟨_,_,aL.refl _ _ _,0,h,rfl,rfl⟩ ?_
   rintro k a S ⟨i_7,h,rfl,rfl⟩
   cases k with
   | zero => exact (fU h).elim
   | succ k =>
    replace h:=fV h hB_10
    refine Ex.seq (Ex.seq ?_)
    refine regH 4 [(2,.eq (i6 ((a_1.length : Nat) : Int)))] [0,1,5,14] [AV.int .i64 (((a_1.map (AV.int .i64)).length : Nat) : Int) = AV.int .i64 ((a_1.length : Nat) : Int)] (mkS 26 [(0,.sl (a_1.map (AV.int .i64)) none),(1,.sl (b_2.map (AV.int .i64)) none),(5,i6 i_7),(14,.bool (decide (i_7 < ((a_1.length : Nat) : Int))))]) (⟨[],[]⟩) (by kernel_rfl) ⟨lenM _ _,trivial⟩ rfl ?_
    rcases aU h with ⟨hc_11,h⟩ | ⟨hc_11,h⟩
    ·refine Ex.condT _ rfl hc_11 ?_
     refine Ex.skip ?_
     refine Ex.seq ?_
     refine Ex.blockK ?_
     refine Ex.seq ?_
     obtain ⟨x_12,hx_12,h⟩:=bE h
     obtain ⟨x_13,hx_13,h⟩:=bE h
     refine Ex.drawE (a1:=mkS 26 [(0,.sl (a_1.map (AV.int .i64)) none),(1,.sl (b_2.map (AV.int .i64)) none),(5,i6 i_7),(14,.bool (decide (i_7 < ((a_1.length : Nat) : Int)))),(17,.sl (a_1.map (AV.int .i64)) none),(18,i6 i_7),(19,.rop [i6 x_12]),(20,i6 x_12),(21,.sl (b_2.map (AV.int .i64)) none),(22,i6 i_7),(23,.rop [i6 x_13]),(24,i6 x_13)]) (cD _) [] [] [] ?_ ?_
     ·refine drS [] 8 [(2, .rop [i6 x_12]), (6, .rop [i6 x_13])] [LGet (a_1.map (AV.int .i64)) i_7 1 [i6 x_12], LGet (b_2.map (AV.int .i64)) i_7 1 [i6 x_13]] (mkS 26 [(0, .sl (a_1.map (AV.int .i64)) none), (1, .sl (b_2.map (AV.int .i64)) none), (5, i6 i_7), (14, .bool (decide (i_7 < ((a_1.length : Nat) : Int)))), (17, .sl (a_1.map (AV.int .i64)) none), (18, i6 i_7), (19, .rop [i6 x_12]), (20, i6 x_12), (21, .sl (b_2.map (AV.int .i64)) none), (22, i6 i_7), (23, .rop [i6 x_13]), (24, i6 x_13)]) (by simp) (by kernel_rfl) ⟨LGet.of hx_12 rfl, LGet.of hx_13 rfl, trivial⟩ (by kernel_rfl) ?_
      exact DrO.nil rfl
     ·dsimp only [List.getLastD_cons,List.getLastD_nil]
      refine rn 1 [0,1,5,25] (mkS 26 [(0,.sl (a_1.map (AV.int .i64)) none),(1,.sl (b_2.map (AV.int .i64)) none),(5,i6 i_7),(25,.bool (x_12 != x_13))]) ⟨[],[]⟩ ?_
      refine ExO.nil ?_
      rcases aU h with ⟨hc_14,h⟩ | ⟨hc_14,h⟩
      ·refine Ex.condT _ rfl hc_14 ?_
       refine Ex.seq (rg 1 [4] (mkS 26 [(4,.bool false)]) ⟨[],[]⟩ ?_)
       refine Ex.ret ?_
       obtain rfl:=sJ h
       exact rt (.bool false)
      ·refine Ex.condF _ rfl hc_14 ?_
       refine Ex.skip ?_
       refine rg 3 [0,1,5] (mkS 26 [(0,.sl (a_1.map (AV.int .i64)) none),(1,.sl (b_2.map (AV.int .i64)) none),(5,i6 (IntKind.i64.wrap (i_7 + 1)))]) ⟨[],[]⟩ ?_
       dsimp only
       exact ⟨_,_,aL.refl _ _ _,k,Nat.lt_succ_self k,(IntKind.i64.wrap (i_7 + 1)),h,rfl,rfl⟩
    ·refine Ex.condF _ rfl hc_11 ?_
     refine Ex.exit ?_
     (try simp only [reduceCtorEq,AEx.ex.injEq,Nat.reduceEqDiff,if_true,if_false])
     exact ⟨_,_,bS [],h,rfl,rfl⟩
  ·rintro a S ⟨h,rfl,rfl⟩
   subst hK_6
   refine Ex.seq (rg 1 [4] (mkS 26 [(4,.bool true)]) ⟨[],[]⟩ ?_)
   refine Ex.ret ?_
   obtain rfl:=sJ h
   exact rt (.bool true)
structure aG where
 Worker : Int
 Day : Int
 deriving Inhabited
def aE (x : aG) : List AV:=[i6 x.Worker,i6 x.Day]
attribute [local simp] aE
def aA (x : aG) : AV:=.agg (aE x)
attribute [local simp] aA
theorem aFn (x : aG) : bB (aE x) = true:=by simp
theorem aFp (x : aG) : (aA x).clean = true:=aFn x
theorem cG (l : List aG) : bB (l.map aA) = true:=eA aFp l
attribute [local simp] cG
theorem rK (x : aG) (n : Nat) (σ : List Nat) : (aE x).mapM (re n σ) = some (aE x):=by simp
attribute [local simp] rK
def oD (N : Nat) (a_1 : (List aG)) (b_2 : (List aG)) : Option (Bool):=(letJ (fun (same_3 : Bool) => some same_3) (fun k_4 => (loop2 (fun rec_9 (same_7 : Bool) (i_8 : Int) => (letJ (fun (y_12 : Bool) => (bif y_12 then ((getI a_1 i_8).bind fun x_18 => ((getI b_2 i_8).bind fun x_19 => (rec_9 ((x_18.Worker == x_19.Worker) && ((x_18.Day == x_19.Day) && true)) (IntKind.i64.wrap (i_8 + 1))))) else (k_4 same_7))) (fun k_13 => (bif same_7 then (k_13 (decide (i_8 < ((a_1.length : Nat) : Int)))) else (k_13 false))))) N (((a_1.length : Nat) : Int) == ((b_2.length : Nat) : Int)) 0)))
def lJ (r : Bool) : AV:=.bool r
attribute [local simp] lJ
theorem zY (a_1 : (List aG)) (b_2 : (List aG)) : [.sl (a_1.map aA) none,.sl (b_2.map aA) none].mapM (ren []) = some [.sl (a_1.map aA) none,.sl (b_2.map aA) none]:=by simp
theorem zU (r : Bool) (n n2 m : Nat) : back n n2 m (lJ r) = some (lJ r):=by simp
theorem zN (N : Nat) (a_1 : (List aG)) (b_2 : (List aG)) (r : Bool) (h : oD N a_1 b_2 = some r) : Does Tryz.prog 57 [.sl (a_1.map aA) none,.sl (b_2.map aA) none] [] fun v c => v = lJ r ∧ c = []:=by
 unfold oD at h
 refine Does.ofL comp57 _ _ rfl rfl ?_
 refine Ex.seq (rg 1 [0,1] (mkS 31 [(0,.sl (a_1.map aA) none),(1,.sl (b_2.map aA) none)]) ⟨[],[]⟩ ?_)
 refine Ex.seq ?_
 refine regH 6 [(1,.eq (i6 ((a_1.length : Nat) : Int))),(3,.eq (i6 ((b_2.length : Nat) : Int)))] [0,1,5] [AV.int .i64 (((a_1.map aA).length : Nat) : Int) = AV.int .i64 ((a_1.length : Nat) : Int),AV.int .i64 (((b_2.map aA).length : Nat) : Int) = AV.int .i64 ((b_2.length : Nat) : Int)] (mkS 31 [(0,.sl (a_1.map aA) none),(1,.sl (b_2.map aA) none),(5,.bool (((a_1.length : Nat) : Int) == ((b_2.length : Nat) : Int)))]) (⟨[],[]⟩) (by kernel_rfl) ⟨lenM _ _,lenM _ _,trivial⟩ rfl ?_
 refine Ex.seq (Ex.seq ?_)
 refine rg 1 [0,1,5,6] (mkS 31 [(0,.sl (a_1.map aA) none),(1,.sl (b_2.map aA) none),(5,.bool (((a_1.length : Nat) : Int) == ((b_2.length : Nat) : Int))),(6,i6 0)]) ⟨[],[]⟩ ?_
 obtain ⟨K_5,hK_6,h⟩:=letE h
 refine Ex.blockJ (fun a S => ∃ (same_3 : Bool),K_5 same_3 = some r ∧ a = mkS 31 [(5,.bool same_3)] ∧ S = ⟨[],[]⟩) ?_ ?_
 ·obtain ⟨B_10,hB_11,h⟩:=kD h
  refine Ex.loopF (fun k a S => ∃ (same_7 : Bool),∃ (i_8 : Int),loop2 B_10 k same_7 i_8 = some r ∧ a = mkS 31 [(0,.sl (a_1.map aA) none),(1,.sl (b_2.map aA) none),(5,.bool same_7),(6,i6 i_8)] ∧ S = ⟨[],[]⟩) N ⟨_,_,aL.refl _ _ _,(((a_1.length : Nat) : Int) == ((b_2.length : Nat) : Int)),0,h,rfl,rfl⟩ ?_
  rintro k a S ⟨same_7,i_8,h,rfl,rfl⟩
  cases k with
  | zero => exact (kB h).elim
  | succ k =>
   replace h:=kC h hB_11
   refine Ex.seq ?_
   obtain ⟨K_14,hK_15,h⟩:=letE h
   refine Ex.seqJ (fun a S => ∃ (y_12 : Bool),K_14 y_12 = some r ∧ a = mkS 31 [(0,.sl (a_1.map aA) none),(1,.sl (b_2.map aA) none),(5,.bool same_7),(6,i6 i_8),(18,.bool y_12)] ∧ S = ⟨[],[]⟩) ?_ ?_
   ·rcases aU h with ⟨hc_16,h⟩ | ⟨hc_16,h⟩
    ·refine regH 7 [(1, .eq (.bool true)), (4, .eq (i6 ((a_1.length : Nat) : Int)))] [0, 1, 5, 6, 18] [AV.bool same_7 = AV.bool true, AV.int .i64 (((a_1.map aA).length : Nat) : Int) = AV.int .i64 ((a_1.length : Nat) : Int)] (mkS 31 [(0, .sl (a_1.map aA) none), (1, .sl (b_2.map aA) none), (5, .bool same_7), (6, i6 i_8), (18, .bool (decide (i_8 < ((a_1.length : Nat) : Int))))]) (⟨[], []⟩) (by kernel_rfl) ⟨congrArg AV.bool hc_16, lenM _ _, trivial⟩ rfl ?_
     (try simp only [reduceCtorEq,AEx.ex.injEq,Nat.reduceEqDiff,if_true,if_false])
     exact ⟨_,_,aL.refl _ _ _,(decide (i_8 < ((a_1.length : Nat) : Int))),h,rfl,rfl⟩
    ·refine regH 7 [(1, .eq (.bool false))] [0, 1, 5, 6, 18] [AV.bool same_7 = AV.bool false] (mkS 31 [(0, .sl (a_1.map aA) none), (1, .sl (b_2.map aA) none), (5, .bool same_7), (6, i6 i_8), (18, .bool false)]) (⟨[], []⟩) (by kernel_rfl) ⟨congrArg AV.bool hc_16, trivial⟩ rfl ?_
     (try simp only [reduceCtorEq,AEx.ex.injEq,Nat.reduceEqDiff,if_true,if_false])
     exact ⟨_,_,aL.refl _ _ _,false,h,rfl,rfl⟩
   ·rintro a S ⟨y_12,h,rfl,rfl⟩
    subst hK_15
    rcases aU h with ⟨hc_17,h⟩ | ⟨hc_17,h⟩
    ·refine Ex.condT _ rfl hc_17 ?_
     refine Ex.skip ?_
     refine Ex.seq ?_
     refine Ex.blockK ?_
     obtain ⟨x_18,hx_18,h⟩:=bE h
     obtain ⟨x_19,hx_19,h⟩:=bE h
     refine Ex.drawE (a1:=mkS 31 [(0,.sl (a_1.map aA) none),(1,.sl (b_2.map aA) none),(5,.bool same_7),(6,i6 i_8),(18,.bool y_12),(21,.sl (a_1.map aA) none),(22,i6 i_8),(23,.rop (aE x_18)),(24,(aA x_18)),(25,.sl (b_2.map aA) none),(26,i6 i_8),(27,.rop (aE x_19)),(28,(aA x_19))]) (cD _) [] [] [] ?_ ?_
     ·refine drS [] 8 [(2, .rop (aE x_18)), (6, .rop (aE x_19))] [LGet (a_1.map aA) i_8 2 (aE x_18), LGet (b_2.map aA) i_8 2 (aE x_19)] (mkS 31 [(0, .sl (a_1.map aA) none), (1, .sl (b_2.map aA) none), (5, .bool same_7), (6, i6 i_8), (18, .bool y_12), (21, .sl (a_1.map aA) none), (22, i6 i_8), (23, .rop (aE x_18)), (24, (aA x_18)), (25, .sl (b_2.map aA) none), (26, i6 i_8), (27, .rop (aE x_19)), (28, (aA x_19))]) (by simp) (by kernel_rfl) ⟨LGet.of hx_18 rfl, LGet.of hx_19 rfl, trivial⟩ (by kernel_rfl) ?_
      exact DrO.nil rfl
     ·dsimp only [List.getLastD_cons,List.getLastD_nil]
      refine rn 2 [0,1,5,6] (mkS 31 [(0,.sl (a_1.map aA) none),(1,.sl (b_2.map aA) none),(5,.bool ((x_18.Worker == x_19.Worker) && ((x_18.Day == x_19.Day) && true))),(6,i6 i_8)]) ⟨[],[]⟩ ?_
      refine ExO.nil ?_
      refine rg 3 [0,1,5,6] (mkS 31 [(0,.sl (a_1.map aA) none),(1,.sl (b_2.map aA) none),(5,.bool ((x_18.Worker == x_19.Worker) && ((x_18.Day == x_19.Day) && true))),(6,i6 (IntKind.i64.wrap (i_8 + 1)))]) ⟨[],[]⟩ ?_
      dsimp only
      exact ⟨_,_,aL.refl _ _ _,k,Nat.lt_succ_self k,((x_18.Worker == x_19.Worker) && ((x_18.Day == x_19.Day) && true)),(IntKind.i64.wrap (i_8 + 1)),h,rfl,rfl⟩
    ·refine Ex.condF _ rfl hc_17 ?_
     refine Ex.exit ?_
     (try simp only [reduceCtorEq,AEx.ex.injEq,Nat.reduceEqDiff,if_true,if_false])
     exact ⟨_,_,bS [5],same_7,h,rfl,rfl⟩
 ·rintro a S ⟨same_3,h,rfl,rfl⟩
  subst hK_6
  refine Ex.seq (rg 2 [4] (mkS 31 [(4,.bool same_3)]) ⟨[],[]⟩ ?_)
  refine Ex.ret ?_
  obtain rfl:=sJ h
  exact rt (.bool same_3)
def eG (N : Nat) (n_1 : Int) (least_2 : Int) (most_3 : Int) : Option (Bool):=(bif (decide (n_1 ≥ least_2)) then some (decide (n_1 ≤ most_3)) else some false)
def lD (r : Bool) : AV:=.bool r
attribute [local simp] lD
theorem iY (n_1 : Int) (least_2 : Int) (most_3 : Int) : [i6 n_1,i6 least_2,i6 most_3].mapM (ren []) = some [i6 n_1,i6 least_2,i6 most_3]:=by simp
theorem iX (r : Bool) (n n2 m : Nat) : back n n2 m (lD r) = some (lD r):=by simp
theorem iW (N : Nat) (n_1 : Int) (least_2 : Int) (most_3 : Int) (r : Bool) (h : eG N n_1 least_2 most_3 = some r) : Does Tryz.prog 121 [i6 n_1,i6 least_2,i6 most_3] [] fun v c => v = lD r ∧ c = []:=by
 unfold eG at h
 refine Does.ofL comp121 _ _ rfl rfl ?_
 refine Ex.seq (rg 1 [0,1,2] (mkS 15 [(0,i6 n_1),(1,i6 least_2),(2,i6 most_3)]) ⟨[],[]⟩ ?_)
 refine Ex.seq ?_
 rcases aU h with ⟨hc_4,h⟩ | ⟨hc_4,h⟩
 ·refine regH 9 [(3, .eq (.bool true))] [6] [AV.bool (decide (n_1 ≥ least_2)) = AV.bool true] (mkS 15 [(6, .bool (decide (n_1 ≤ most_3)))]) (⟨[], []⟩) (by kernel_rfl) ⟨congrArg AV.bool hc_4, trivial⟩ rfl ?_
  refine Ex.ret ?_
  obtain rfl:=sJ h
  exact rt (.bool (decide (n_1 ≤ most_3)))
 ·refine regH 9 [(3, .eq (.bool false))] [6] [AV.bool (decide (n_1 ≥ least_2)) = AV.bool false] (mkS 15 [(6, .bool false)]) (⟨[], []⟩) (by kernel_rfl) ⟨congrArg AV.bool hc_4, trivial⟩ rfl ?_
  refine Ex.ret ?_
  obtain rfl:=sJ h
  exact rt (.bool false)
def gU (N : Nat) (j_1 : bR) : Option (Int):=((eG N j_1.Float 0 6).bind fun r_2 => (bif (!r_2) then some 2 else ((eG N j_1.Skill 1 3).bind fun r_4 => (bif (!r_4) then some 3 else ((eG N j_1.Days 1 30).bind fun r_6 => (bif (!r_6) then some 2 else some 0))))))
def jB (r : Int) : AV:=i6 r
attribute [local simp] jB
theorem xE (j_1 : bR) : [(aJ j_1)].mapM (ren []) = some [(aJ j_1)]:=by simp
theorem xB (r : Int) (n n2 m : Nat) : back n n2 m (jB r) = some (jB r):=by simp
theorem wX (N : Nat) (j_1 : bR) (r : Int) (h : gU N j_1 = some r) : Does Tryz.prog 93 [(aJ j_1)] [] fun v c => v = jB r ∧ c = []:=by
 unfold gU at h
 refine Does.ofL comp93 _ _ rfl rfl ?_
 refine Ex.seq (rg 2 [1] (mkS 18 [(1,.ptr 0 0)]) ⟨[(aY j_1)],[]⟩ ?_)
 refine Ex.seq ?_
 refine Ex.blockK ?_
 refine Ex.seq ?_
 obtain ⟨r_2,hr_2,h⟩:=bE h
 refine Ex.reg (rn 2 [1,5] (mkS 18 [(1,.ptr 0 0),(5,i6 j_1.Float)]) ⟨[(aY j_1)],[]⟩ ?_)
 refine ExO.callL [] [i6 j_1.Float,i6 0,i6 6] rfl rfl (iY j_1.Float 0 6) rfl rfl (iW N j_1.Float 0 6 r_2 hr_2) (iX _ _ _ _) rfl ?_
 refine rn 2 [1,3] (mkS 18 [(1,.ptr 0 0),(3,.bool (!r_2))]) ⟨[(aY j_1)],[]⟩ ?_
 refine ExO.nil ?_
 rcases aU h with ⟨hc_3,h⟩ | ⟨hc_3,h⟩
 ·refine Ex.condT _ rfl hc_3 ?_
  refine Ex.seq (rg 1 [2] (mkS 18 [(2,i6 2)]) ⟨[(aY j_1)],[]⟩ ?_)
  refine Ex.ret ?_
  obtain rfl:=sJ h
  exact rt (i6 2)
 ·refine Ex.condF _ rfl hc_3 ?_
  refine Ex.seq ?_
  obtain ⟨r_4,hr_4,h⟩:=bE h
  refine Ex.reg (rn 2 [1,10] (mkS 18 [(1,.ptr 0 0),(10,i6 j_1.Skill)]) ⟨[(aY j_1)],[]⟩ ?_)
  refine ExO.callL [] [i6 j_1.Skill,i6 1,i6 3] rfl rfl (iY j_1.Skill 1 3) rfl rfl (iW N j_1.Skill 1 3 r_4 hr_4) (iX _ _ _ _) rfl ?_
  refine rn 2 [1,8] (mkS 18 [(1,.ptr 0 0),(8,.bool (!r_4))]) ⟨[(aY j_1)],[]⟩ ?_
  refine ExO.nil ?_
  rcases aU h with ⟨hc_5,h⟩ | ⟨hc_5,h⟩
  ·refine Ex.condT _ rfl hc_5 ?_
   refine Ex.seq (rg 1 [2] (mkS 18 [(2,i6 3)]) ⟨[(aY j_1)],[]⟩ ?_)
   refine Ex.ret ?_
   obtain rfl:=sJ h
   exact rt (i6 3)
  ·refine Ex.condF _ rfl hc_5 ?_
   refine Ex.seq ?_
   obtain ⟨r_6,hr_6,h⟩:=bE h
   refine Ex.reg (rn 2 [15] (mkS 18 [(15,i6 j_1.Days)]) ⟨[(aY j_1)],[]⟩ ?_)
   refine ExO.callL [] [i6 j_1.Days,i6 1,i6 30] rfl rfl (iY j_1.Days 1 30) rfl rfl (iW N j_1.Days 1 30 r_6 hr_6) (iX _ _ _ _) rfl ?_
   refine rn 2 [13] (mkS 18 [(13,.bool (!r_6))]) ⟨[(aY j_1)],[]⟩ ?_
   refine ExO.nil ?_
   rcases aU h with ⟨hc_7,h⟩ | ⟨hc_7,h⟩
   ·refine Ex.condT _ rfl hc_7 ?_
    refine Ex.seq (rg 1 [2] (mkS 18 [(2,i6 2)]) ⟨[(aY j_1)],[]⟩ ?_)
    refine Ex.ret ?_
    obtain rfl:=sJ h
    exact rt (i6 2)
   ·refine Ex.condF _ rfl hc_7 ?_
    refine Ex.skip ?_
    refine Ex.seq (rg 1 [2] (mkS 18 [(2,i6 0)]) ⟨[(aY j_1)],[]⟩ ?_)
    refine Ex.ret ?_
    obtain rfl:=sJ h
    exact rt (i6 0)
def iL (N : Nat) (s_1 : aV) : Option (Int):=(bif (((s_1.Workers.length : Nat) : Int) == 0) then some 4 else (letJ (fun (y_3 : Bool) => (bif y_3 then some 5 else (letJ (fun (_ : Unit) => some 0) (fun k_9 => (loop1 (fun rec_13 (y_12 : Int) => (bif (decide (y_12 < ((s_1.Jobs.length : Nat) : Int))) then ((getI s_1.Jobs y_12).bind fun x_17 => ((gU N x_17).bind fun r_18 => (bif (r_18 != 0) then some r_18 else (rec_13 (IntKind.i64.wrap (y_12 + 1)))))) else (k_9 ()))) N 0))))) (fun k_4 => (bif (decide (((s_1.Workers.length : Nat) : Int) > 4)) then (k_4 true) else (k_4 (decide (((s_1.Jobs.length : Nat) : Int) > 7)))))))
def mG (r : Int) : AV:=i6 r
attribute [local simp] mG
theorem uU (s_1 : aV) : [(aP s_1)].mapM (ren []) = some [(aP s_1)]:=by simp
theorem uO (r : Int) (n n2 m : Nat) : back n n2 m (mG r) = some (mG r):=by simp
theorem uI (N : Nat) (s_1 : aV) (r : Int) (h : iL N s_1 = some r) : Does Tryz.prog 68 [(aP s_1)] [] fun v c => v = mG r ∧ c = []:=by
 unfold iL at h
 refine Does.ofL comp68 _ _ rfl rfl ?_
 refine Ex.seq (rg 2 [1] (mkS 35 [(1,.ptr 0 0)]) ⟨[(aH s_1)],[]⟩ ?_)
 refine Ex.seq ?_
 refine Ex.blockK ?_
 refine Ex.seq ?_
 refine regH 5 [(2,.eq (i6 ((s_1.Workers.length : Nat) : Int)))] [1,6] [AV.int .i64 (((s_1.Workers.map aN).length : Nat) : Int) = AV.int .i64 ((s_1.Workers.length : Nat) : Int)] (mkS 35 [(1,.ptr 0 0),(6,.bool (((s_1.Workers.length : Nat) : Int) == 0))]) (⟨[(aH s_1)],[]⟩) (by kernel_rfl) ⟨lenM _ _,trivial⟩ rfl ?_
 rcases aU h with ⟨hc_2,h⟩ | ⟨hc_2,h⟩
 ·refine Ex.condT _ rfl hc_2 ?_
  refine Ex.seq (rg 1 [2] (mkS 35 [(2,i6 4)]) ⟨[(aH s_1)],[]⟩ ?_)
  refine Ex.ret ?_
  obtain rfl:=sJ h
  exact rt (i6 4)
 ·refine Ex.condF _ rfl hc_2 ?_
  obtain ⟨K_5,hK_6,h⟩:=letE h
  refine Ex.seqJ (fun a S => ∃ (y_3 : Bool),K_5 y_3 = some r ∧ a = mkS 35 [(1,.ptr 0 0),(11,.bool y_3)] ∧ S = ⟨[(aH s_1)],[]⟩) ?_ ?_
  ·rcases aU h with ⟨hc_7,h⟩ | ⟨hc_7,h⟩
   ·refine regH 11 [(2, .eq (i6 ((s_1.Workers.length : Nat) : Int))), (4, .eq (.bool true))] [1, 11] [AV.int .i64 (((s_1.Workers.map aN).length : Nat) : Int) = AV.int .i64 ((s_1.Workers.length : Nat) : Int), AV.bool (decide (((s_1.Workers.length : Nat) : Int) > 4)) = AV.bool true] (mkS 35 [(1, .ptr 0 0), (11, .bool true)]) (⟨[(aH s_1)], []⟩) (by kernel_rfl) ⟨lenM _ _, congrArg AV.bool hc_7, trivial⟩ rfl ?_
    (try simp only [reduceCtorEq,AEx.ex.injEq,Nat.reduceEqDiff,if_true,if_false])
    exact ⟨_,_,aL.refl _ _ _,true,h,rfl,rfl⟩
   ·refine regH 11 [(2, .eq (i6 ((s_1.Workers.length : Nat) : Int))), (4, .eq (.bool false)), (7, .eq (i6 ((s_1.Jobs.length : Nat) : Int)))] [1, 11] [AV.int .i64 (((s_1.Workers.map aN).length : Nat) : Int) = AV.int .i64 ((s_1.Workers.length : Nat) : Int), AV.bool (decide (((s_1.Workers.length : Nat) : Int) > 4)) = AV.bool false, AV.int .i64 (((s_1.Jobs.map aJ).length : Nat) : Int) = AV.int .i64 ((s_1.Jobs.length : Nat) : Int)] (mkS 35 [(1, .ptr 0 0), (11, .bool (decide (((s_1.Jobs.length : Nat) : Int) > 7)))]) (⟨[(aH s_1)], []⟩) (by kernel_rfl) ⟨lenM _ _, congrArg AV.bool hc_7, lenM _ _, trivial⟩ rfl ?_
    (try simp only [reduceCtorEq,AEx.ex.injEq,Nat.reduceEqDiff,if_true,if_false])
    exact ⟨_,_,aL.refl _ _ _,(decide (((s_1.Jobs.length : Nat) : Int) > 7)),h,rfl,rfl⟩
  ·rintro a S ⟨y_3,h,rfl,rfl⟩
   subst hK_6
   rcases aU h with ⟨hc_8,h⟩ | ⟨hc_8,h⟩
   ·refine Ex.condT _ rfl hc_8 ?_
    refine Ex.seq (rg 1 [2] (mkS 35 [(2,i6 5)]) ⟨[(aH s_1)],[]⟩ ?_)
    refine Ex.ret ?_
    obtain rfl:=sJ h
    exact rt (i6 5)
   ·refine Ex.condF _ rfl hc_8 ?_
    refine Ex.skip ?_
    refine Ex.seq (Ex.seq ?_)
    refine regH 4 [(2,.eq (i6 ((s_1.Jobs.length : Nat) : Int)))] [23,24,25] [AV.int .i64 (((s_1.Jobs.map aJ).length : Nat) : Int) = AV.int .i64 ((s_1.Jobs.length : Nat) : Int)] (mkS 35 [(23,.sl (s_1.Jobs.map aJ) none),(24,i6 ((s_1.Jobs.length : Nat) : Int)),(25,i6 0)]) (⟨[(aH s_1)],[]⟩) (by kernel_rfl) ⟨lenM _ _,trivial⟩ rfl ?_
    obtain ⟨K_10,hK_11,h⟩:=letE h
    refine Ex.blockJ (fun a S => K_10 () = some r ∧ a = mkS 35 [] ∧ S = ⟨[],[]⟩) ?_ ?_
    ·obtain ⟨B_14,hB_15,h⟩:=fW h
     refine Ex.loopF (fun k a S => ∃ (y_12 : Int),loop1 B_14 k y_12 = some r ∧ a = mkS 35 [(23,.sl (s_1.Jobs.map aJ) none),(24,i6 ((s_1.Jobs.length : Nat) : Int)),(25,i6 y_12)] ∧ S = ⟨[],[]⟩) N ⟨_,_,bU (m:=35) 0 [] [(23,.sl (s_1.Jobs.map aJ) none),(24,i6 ((s_1.Jobs.length : Nat) : Int)),(25,i6 0)] [] [] (by simp [bH]) (by simp) ⟨(reN (eP _)),rfl,rfl,trivial⟩ (by simp) rfl (by decide),0,h,rfl,rfl⟩ ?_
     rintro k a S ⟨y_12,h,rfl,rfl⟩
     cases k with
     | zero => exact (fU h).elim
     | succ k =>
      replace h:=fV h hB_15
      refine Ex.seq (rg 1 [23,24,25,26] (mkS 35 [(23,.sl (s_1.Jobs.map aJ) none),(24,i6 ((s_1.Jobs.length : Nat) : Int)),(25,i6 y_12),(26,.bool (decide (y_12 < ((s_1.Jobs.length : Nat) : Int))))]) ⟨[],[]⟩ ?_)
      refine Ex.seq ?_
      rcases aU h with ⟨hc_16,h⟩ | ⟨hc_16,h⟩
      ·refine Ex.condT _ rfl hc_16 ?_
       refine Ex.skip ?_
       refine Ex.seq ?_
       refine Ex.blockK ?_
       refine Ex.seq ?_
       obtain ⟨x_17,hx_17,h⟩:=bE h
       refine regH 4 [(0,.rop (aY x_17))] [4,23,24,25] [LGet (s_1.Jobs.map aJ) y_12 3 (aY x_17)] (mkS 35 [(4,.ptr 0 0),(23,.sl (s_1.Jobs.map aJ) none),(24,i6 ((s_1.Jobs.length : Nat) : Int)),(25,i6 y_12)]) (⟨[(aY x_17)],[]⟩) (by kernel_rfl) ⟨LGet.of hx_17 rfl,trivial⟩ rfl ?_
       refine Ex.seq ?_
       obtain ⟨r_18,hr_18,h⟩:=bE h
       refine Ex.reg (rn 1 [23,24,25,29] (mkS 35 [(23,.sl (s_1.Jobs.map aJ) none),(24,i6 ((s_1.Jobs.length : Nat) : Int)),(25,i6 y_12),(29,(aJ x_17))]) ⟨[(aY x_17)],[]⟩ ?_)
       refine ExO.callL [] [(aJ x_17)] rfl rfl (xE x_17) rfl rfl (wX N x_17 r_18 hr_18) (xB _ _ _ _) rfl ?_
       refine rn 1 [5,23,24,25] (mkS 35 [(5,i6 r_18),(23,.sl (s_1.Jobs.map aJ) none),(24,i6 ((s_1.Jobs.length : Nat) : Int)),(25,i6 y_12)]) ⟨[(aY x_17)],[]⟩ ?_
       refine ExO.nil ?_
       refine Ex.seq (rg 2 [5,23,24,25,32] (mkS 35 [(5,i6 r_18),(23,.sl (s_1.Jobs.map aJ) none),(24,i6 ((s_1.Jobs.length : Nat) : Int)),(25,i6 y_12),(32,.bool (r_18 != 0))]) ⟨[(aY x_17)],[]⟩ ?_)
       rcases aU h with ⟨hc_19,h⟩ | ⟨hc_19,h⟩
       ·refine Ex.condT _ rfl hc_19 ?_
        refine Ex.seq (rg 2 [2] (mkS 35 [(2,i6 r_18)]) ⟨[(aY x_17)],[]⟩ ?_)
        refine Ex.ret ?_
        obtain rfl:=sJ h
        exact rt (i6 r_18)
       ·refine Ex.condF _ rfl hc_19 ?_
        refine Ex.skip ?_
        refine rg 2 [23,24,25] (mkS 35 [(23,.sl (s_1.Jobs.map aJ) none),(24,i6 ((s_1.Jobs.length : Nat) : Int)),(25,i6 (IntKind.i64.wrap (y_12 + 1)))]) ⟨[(aY x_17)],[]⟩ ?_
        dsimp only
        exact ⟨_,_,bU (m:=35) 0 [] [(23,.sl (s_1.Jobs.map aJ) none),(24,i6 ((s_1.Jobs.length : Nat) : Int)),(25,i6 (IntKind.i64.wrap (y_12 + 1)))] [] [] (by simp [bH]) (by simp) ⟨(reN (eP _)),rfl,rfl,trivial⟩ (by simp) rfl (by decide),k,Nat.lt_succ_self k,(IntKind.i64.wrap (y_12 + 1)),h,rfl,rfl⟩
      ·refine Ex.condF _ rfl hc_16 ?_
       refine Ex.exit ?_
       (try simp only [reduceCtorEq,AEx.ex.injEq,Nat.reduceEqDiff,if_true,if_false])
       exact ⟨_,_,bS [],h,rfl,rfl⟩
    ·rintro a S ⟨h,rfl,rfl⟩
     subst hK_11
     refine Ex.seq (rg 1 [2] (mkS 35 [(2,i6 0)]) ⟨[],[]⟩ ?_)
     refine Ex.ret ?_
     obtain rfl:=sJ h
     exact rt (i6 0)
structure bT where
 Weld : Bool
 Carve : Bool
 Paint : Bool
 deriving Inhabited
def bQ (x : bT) : List AV:=[.bool x.Weld,.bool x.Carve,.bool x.Paint]
attribute [local simp] bQ
def bO (x : bT) : AV:=.agg (bQ x)
attribute [local simp] bO
theorem aBB (x : bT) : bB (bQ x) = true:=by simp
theorem aBC (x : bT) : (bO x).clean = true:=aBB x
theorem cF (l : List bT) : bB (l.map bO) = true:=eA aBC l
attribute [local simp] cF
theorem kU (x : bT) (n : Nat) (σ : List Nat) : (bQ x).mapM (re n σ) = some (bQ x):=by simp
attribute [local simp] kU
def jX (N : Nat) (h_1 : bT) : Option (Bool):=some h_1.Weld
def gZ (r : Bool) : AV:=.bool r
attribute [local simp] gZ
theorem uS (h_1 : bT) : [(bO h_1)].mapM (ren []) = some [(bO h_1)]:=by simp
theorem uL (r : Bool) (n n2 m : Nat) : back n n2 m (gZ r) = some (gZ r):=by simp
theorem uF (N : Nat) (h_1 : bT) (r : Bool) (h : jX N h_1 = some r) : Does Tryz.prog 138 [(bO h_1)] [] fun v c => v = gZ r ∧ c = []:=by
 unfold jX at h
 refine Does.ofL comp138 _ _ rfl rfl ?_
 refine Ex.seq (rg 2 [1] (mkS 5 [(1,.ptr 0 0)]) ⟨[(bQ h_1)],[]⟩ ?_)
 refine Ex.seq (rg 3 [2] (mkS 5 [(2,.bool h_1.Weld)]) ⟨[(bQ h_1)],[]⟩ ?_)
 refine Ex.ret ?_
 obtain rfl:=sJ h
 exact rt (.bool h_1.Weld)
def jH (N : Nat) (h_1 : bT) : Option (Bool):=some h_1.Carve
def gI (r : Bool) : AV:=.bool r
attribute [local simp] gI
theorem tR (h_1 : bT) : [(bO h_1)].mapM (ren []) = some [(bO h_1)]:=by simp
theorem tO (r : Bool) (n n2 m : Nat) : back n n2 m (gI r) = some (gI r):=by simp
theorem tI (N : Nat) (h_1 : bT) (r : Bool) (h : jH N h_1 = some r) : Does Tryz.prog 139 [(bO h_1)] [] fun v c => v = gI r ∧ c = []:=by
 unfold jH at h
 refine Does.ofL comp139 _ _ rfl rfl ?_
 refine Ex.seq (rg 2 [1] (mkS 5 [(1,.ptr 0 0)]) ⟨[(bQ h_1)],[]⟩ ?_)
 refine Ex.seq (rg 3 [2] (mkS 5 [(2,.bool h_1.Carve)]) ⟨[(bQ h_1)],[]⟩ ?_)
 refine Ex.ret ?_
 obtain rfl:=sJ h
 exact rt (.bool h_1.Carve)
def jG (N : Nat) (h_1 : bT) : Option (Bool):=some h_1.Paint
def gH (r : Bool) : AV:=.bool r
attribute [local simp] gH
theorem tQ (h_1 : bT) : [(bO h_1)].mapM (ren []) = some [(bO h_1)]:=by simp
theorem tN (r : Bool) (n n2 m : Nat) : back n n2 m (gH r) = some (gH r):=by simp
theorem tH (N : Nat) (h_1 : bT) (r : Bool) (h : jG N h_1 = some r) : Does Tryz.prog 140 [(bO h_1)] [] fun v c => v = gH r ∧ c = []:=by
 unfold jG at h
 refine Does.ofL comp140 _ _ rfl rfl ?_
 refine Ex.seq (rg 2 [1] (mkS 5 [(1,.ptr 0 0)]) ⟨[(bQ h_1)],[]⟩ ?_)
 refine Ex.seq (rg 3 [2] (mkS 5 [(2,.bool h_1.Paint)]) ⟨[(bQ h_1)],[]⟩ ?_)
 refine Ex.ret ?_
 obtain rfl:=sJ h
 exact rt (.bool h_1.Paint)
def lV (N : Nat) (w_1 : bI) : Option (Int):=(letJ (fun (has_2 : Int) => some has_2) (fun k_3 => (loop2 (fun rec_8 (has_6 : Int) (skill_7 : Int) => (bif (decide (skill_7 ≤ 3)) then (letJ (fun (has_12 : Int) => (rec_8 has_12 (IntKind.i64.wrap (skill_7 + 1)))) (fun k_13 => (bif (skill_7 == 1) then ((jX N (⟨w_1.Weld,w_1.Carve,w_1.Paint⟩ : bT)).bind fun r_21 => (bif r_21 then ((idxI skill_7 4).bind fun u_23 => ((([0,1,2,4] : List Int)[Int.toNat skill_7]?).bind fun x_24 => ((some (IntKind.u8.wrap (((BitVec.ofInt (IntKind.bits .u8) has_6 ||| BitVec.ofInt (IntKind.bits .u8) x_24).toNat : Nat) : Int))).bind fun n_25 => (k_13 n_25)))) else (k_13 has_6))) else (bif (skill_7 == 2) then ((jH N (⟨w_1.Weld,w_1.Carve,w_1.Paint⟩ : bT)).bind fun r_27 => (bif r_27 then ((idxI skill_7 4).bind fun u_29 => ((([0,1,2,4] : List Int)[Int.toNat skill_7]?).bind fun x_30 => ((some (IntKind.u8.wrap (((BitVec.ofInt (IntKind.bits .u8) has_6 ||| BitVec.ofInt (IntKind.bits .u8) x_30).toNat : Nat) : Int))).bind fun n_31 => (k_13 n_31)))) else (k_13 has_6))) else ((jG N (⟨w_1.Weld,w_1.Carve,w_1.Paint⟩ : bT)).bind fun r_32 => (bif r_32 then ((idxI skill_7 4).bind fun u_34 => ((([0,1,2,4] : List Int)[Int.toNat skill_7]?).bind fun x_35 => ((some (IntKind.u8.wrap (((BitVec.ofInt (IntKind.bits .u8) has_6 ||| BitVec.ofInt (IntKind.bits .u8) x_35).toNat : Nat) : Int))).bind fun n_36 => (k_13 n_36)))) else (k_13 has_6))))))) else (k_3 has_6))) N 0 1)))
def jA (r : Int) : AV:=.int .u8 r
attribute [local simp] jA
theorem xD (w_1 : bI) : [(aN w_1)].mapM (ren []) = some [(aN w_1)]:=by simp
theorem xA (r : Int) (n n2 m : Nat) : back n n2 m (jA r) = some (jA r):=by simp
theorem wW (N : Nat) (w_1 : bI) (r : Int) (h : lV N w_1 = some r) : Does Tryz.prog 129 [(aN w_1)] [] fun v c => v = jA r ∧ c = []:=by
 unfold lV at h
 refine Does.ofL comp129 _ _ rfl rfl ?_
 refine Ex.seq (rg 2 [1] (mkS 21 [(1,.ptr 0 0)]) ⟨[(aX w_1)],[]⟩ ?_)
 refine Ex.seq (rg 1 [1,3] (mkS 21 [(1,.ptr 0 0),(3,.int .u8 0)]) ⟨[(aX w_1)],[]⟩ ?_)
 refine Ex.seq (Ex.seq ?_)
 refine rg 1 [1,3,4] (mkS 21 [(1,.ptr 0 0),(3,.int .u8 0),(4,i6 1)]) ⟨[(aX w_1)],[]⟩ ?_
 obtain ⟨K_4,hK_5,h⟩:=letE h
 refine Ex.blockJ (fun a S => ∃ (has_2 : Int),K_4 has_2 = some r ∧ a = mkS 21 [(3,.int .u8 has_2)] ∧ S = ⟨[],[]⟩) ?_ ?_
 ·obtain ⟨B_9,hB_10,h⟩:=kD h
  refine Ex.loopF (fun k a S => ∃ (has_6 : Int),∃ (skill_7 : Int),loop2 B_9 k has_6 skill_7 = some r ∧ a = mkS 21 [(1,.ptr 0 0),(3,.int .u8 has_6),(4,i6 skill_7)] ∧ S = ⟨[(aX w_1)],[]⟩) N ⟨_,_,aL.refl _ _ _,0,1,h,rfl,rfl⟩ ?_
  rintro k a S ⟨has_6,skill_7,h,rfl,rfl⟩
  cases k with
  | zero => exact (kB h).elim
  | succ k =>
   replace h:=kC h hB_10
   refine Ex.seq (Ex.seq ?_)
   refine rg 2 [1,3,4,7] (mkS 21 [(1,.ptr 0 0),(3,.int .u8 has_6),(4,i6 skill_7),(7,.bool (decide (skill_7 ≤ 3)))]) ⟨[(aX w_1)],[]⟩ ?_
   rcases aU h with ⟨hc_11,h⟩ | ⟨hc_11,h⟩
   ·refine Ex.condT _ rfl hc_11 ?_
    refine Ex.skip ?_
    refine Ex.seq ?_
    obtain ⟨K_14,hK_15,h⟩:=letE h
    refine Ex.blockJ (fun a S => ∃ (has_12 : Int),K_14 has_12 = some r ∧ a = mkS 21 [(1,.ptr 0 0),(3,.int .u8 has_12),(4,i6 skill_7)] ∧ S = ⟨[(aX w_1)],[]⟩) ?_ ?_
    ·refine Ex.seq ?_
     refine Ex.reg (rn 1 [1,3,4,10] (mkS 21 [(1,.ptr 0 0),(3,.int .u8 has_6),(4,i6 skill_7),(10,i6 skill_7)]) ⟨[(aX w_1)],[]⟩ ?_)
     refine ExO.inlC 134 [i6 skill_7] _ comp134 (by simp [bH]) rfl rfl ?_
     intro cx_16 hcn_17 hcm_18 hup_19
     refine Ex.castA (a2:=mkS 8 [(0,i6 skill_7),(1,.tup []),(2,.tup []),(3,.tup []),(4,.tup []),(5,.tup []),(6,.tup []),(7,.tup [])]) (S2:=⟨[(aX w_1)],[]⟩) (by kernel_rfl) (by kernel_rfl) ?_
     refine Ex.seq (rg 1 [0] (mkS 8 [(0,i6 skill_7)]) ⟨[(aX w_1)],[]⟩ ?_)
     refine Ex.seq (Ex.seq ?_)
     refine rg 1 [3] (mkS 8 [(3,i6 skill_7)]) ⟨[(aX w_1)],[]⟩ ?_
     refine Ex.blockK ?_
     refine Ex.seq (rg 2 [3,4] (mkS 8 [(3,i6 skill_7),(4,.bool (skill_7 == 1))]) ⟨[(aX w_1)],[]⟩ ?_)
     rcases aU h with ⟨hc_20,h⟩ | ⟨hc_20,h⟩
     ·refine Ex.condT _ rfl hc_20 ?_
      refine Ex.seq (rg 1 [2] (mkS 8 [(2,.fn 138 [] [])]) ⟨[(aX w_1)],[]⟩ ?_)
      refine Ex.ret ?_
      refine ⟨.inr rfl,.fn 138 [] [],by kernel_rfl,?_⟩
      refine rn 1 [1,3,4,5] (mkS 21 [(1,.ptr 0 0),(3,.int .u8 has_6),(4,i6 skill_7),(5,.fn 138 [] [])]) ⟨[(aX w_1)],[]⟩ ?_
      refine ExO.nil ?_
      refine Ex.seq ?_
      obtain ⟨r_21,hr_21,h⟩:=bE h
      refine Ex.reg (rn 2 [1,3,4,12,13] (mkS 21 [(1,.ptr 0 0),(3,.int .u8 has_6),(4,i6 skill_7),(12,.fn 138 [] []),(13,(aN w_1))]) ⟨[(aX w_1)],[]⟩ ?_)
      refine ExO.callL [] [(aN w_1)] rfl rfl (uS (⟨w_1.Weld,w_1.Carve,w_1.Paint⟩ : bT)) rfl rfl (uF N (⟨w_1.Weld,w_1.Carve,w_1.Paint⟩ : bT) r_21 hr_21) (uL _ _ _ _) rfl ?_
      refine rn 0 [1,3,4,14] (mkS 21 [(1,.ptr 0 0),(3,.int .u8 has_6),(4,i6 skill_7),(14,.bool r_21)]) ⟨[(aX w_1)],[]⟩ ?_
      refine ExO.nil ?_
      rcases aU h with ⟨hc_22,h⟩ | ⟨hc_22,h⟩
      ·refine Ex.condT _ rfl hc_22 ?_
       obtain ⟨u_23,hu_23,h⟩:=bE h
       obtain ⟨x_24,hx_24,h⟩:=bE h
       obtain ⟨n_25,hn_25,h⟩:=bE h
       refine regH 6 [(2,.adr),(3,.ld (.int .u8 x_24)),(4,.eq (.int .u8 n_25))] [1,3,4] [0 ≤ skill_7 ∧ skill_7 < ((4 : Nat) : Int) ∧ Int.toNat skill_7 * 1 ≤ (([0,1,2,4] : List Int).map (AV.int .u8)).length,bK (((([0,1,2,4] : List Int).map (AV.int .u8)).drop (Int.toNat skill_7 * 1)).take 1) 0 none = some (.int .u8 x_24),AV.int .u8 (IntKind.u8.wrap (((BitVec.ofInt (IntKind.bits .u8) has_6 ||| BitVec.ofInt (IntKind.bits .u8) x_24).toNat : Nat) : Int)) = AV.int .u8 n_25] (mkS 21 [(1,.ptr 0 0),(3,.int .u8 n_25),(4,i6 skill_7)]) (⟨[(aX w_1)],[]⟩) (by kernel_rfl) ⟨adrT ([0,1,2,4] : List Int) .u8 hu_23 (by decide),yC ([0,1,2,4] : List Int) .u8 hx_24,congrArg (AV.int .u8) (Option.some.inj hn_25),trivial⟩ rfl ?_
       (try simp only [reduceCtorEq,AEx.ex.injEq,Nat.reduceEqDiff,if_true,if_false])
       exact ⟨_,_,aL.refl _ _ _,n_25,h,rfl,rfl⟩
      ·refine Ex.condF _ rfl hc_22 ?_
       refine Ex.skip ?_
       (try simp only [reduceCtorEq,AEx.ex.injEq,Nat.reduceEqDiff,if_true,if_false])
       exact ⟨_,_,bS [1,3,4],has_6,h,rfl,rfl⟩
     ·refine Ex.condF _ rfl hc_20 ?_
      refine Ex.seq (rg 2 [6] (mkS 8 [(6,.bool (skill_7 == 2))]) ⟨[(aX w_1)],[]⟩ ?_)
      rcases aU h with ⟨hc_26,h⟩ | ⟨hc_26,h⟩
      ·refine Ex.condT _ rfl hc_26 ?_
       refine Ex.seq (rg 1 [2] (mkS 8 [(2,.fn 139 [] [])]) ⟨[(aX w_1)],[]⟩ ?_)
       refine Ex.ret ?_
       refine ⟨.inr rfl,.fn 139 [] [],by kernel_rfl,?_⟩
       refine rn 1 [1,3,4,5] (mkS 21 [(1,.ptr 0 0),(3,.int .u8 has_6),(4,i6 skill_7),(5,.fn 139 [] [])]) ⟨[(aX w_1)],[]⟩ ?_
       refine ExO.nil ?_
       refine Ex.seq ?_
       obtain ⟨r_27,hr_27,h⟩:=bE h
       refine Ex.reg (rn 2 [1,3,4,12,13] (mkS 21 [(1,.ptr 0 0),(3,.int .u8 has_6),(4,i6 skill_7),(12,.fn 139 [] []),(13,(aN w_1))]) ⟨[(aX w_1)],[]⟩ ?_)
       refine ExO.callL [] [(aN w_1)] rfl rfl (tR (⟨w_1.Weld,w_1.Carve,w_1.Paint⟩ : bT)) rfl rfl (tI N (⟨w_1.Weld,w_1.Carve,w_1.Paint⟩ : bT) r_27 hr_27) (tO _ _ _ _) rfl ?_
       refine rn 0 [1,3,4,14] (mkS 21 [(1,.ptr 0 0),(3,.int .u8 has_6),(4,i6 skill_7),(14,.bool r_27)]) ⟨[(aX w_1)],[]⟩ ?_
       refine ExO.nil ?_
       rcases aU h with ⟨hc_28,h⟩ | ⟨hc_28,h⟩
       ·refine Ex.condT _ rfl hc_28 ?_
        obtain ⟨u_29,hu_29,h⟩:=bE h
        obtain ⟨x_30,hx_30,h⟩:=bE h
        obtain ⟨n_31,hn_31,h⟩:=bE h
        refine regH 6 [(2,.adr),(3,.ld (.int .u8 x_30)),(4,.eq (.int .u8 n_31))] [1,3,4] [0 ≤ skill_7 ∧ skill_7 < ((4 : Nat) : Int) ∧ Int.toNat skill_7 * 1 ≤ (([0,1,2,4] : List Int).map (AV.int .u8)).length,bK (((([0,1,2,4] : List Int).map (AV.int .u8)).drop (Int.toNat skill_7 * 1)).take 1) 0 none = some (.int .u8 x_30),AV.int .u8 (IntKind.u8.wrap (((BitVec.ofInt (IntKind.bits .u8) has_6 ||| BitVec.ofInt (IntKind.bits .u8) x_30).toNat : Nat) : Int)) = AV.int .u8 n_31] (mkS 21 [(1,.ptr 0 0),(3,.int .u8 n_31),(4,i6 skill_7)]) (⟨[(aX w_1)],[]⟩) (by kernel_rfl) ⟨adrT ([0,1,2,4] : List Int) .u8 hu_29 (by decide),yC ([0,1,2,4] : List Int) .u8 hx_30,congrArg (AV.int .u8) (Option.some.inj hn_31),trivial⟩ rfl ?_
        (try simp only [reduceCtorEq,AEx.ex.injEq,Nat.reduceEqDiff,if_true,if_false])
        exact ⟨_,_,aL.refl _ _ _,n_31,h,rfl,rfl⟩
       ·refine Ex.condF _ rfl hc_28 ?_
        refine Ex.skip ?_
        (try simp only [reduceCtorEq,AEx.ex.injEq,Nat.reduceEqDiff,if_true,if_false])
        exact ⟨_,_,bS [1,3,4],has_6,h,rfl,rfl⟩
      ·refine Ex.condF _ rfl hc_26 ?_
       refine Ex.skip ?_
       refine Ex.seq (rg 1 [2] (mkS 8 [(2,.fn 140 [] [])]) ⟨[(aX w_1)],[]⟩ ?_)
       refine Ex.ret ?_
       refine ⟨.inr rfl,.fn 140 [] [],by kernel_rfl,?_⟩
       refine rn 1 [1,3,4,5] (mkS 21 [(1,.ptr 0 0),(3,.int .u8 has_6),(4,i6 skill_7),(5,.fn 140 [] [])]) ⟨[(aX w_1)],[]⟩ ?_
       refine ExO.nil ?_
       refine Ex.seq ?_
       obtain ⟨r_32,hr_32,h⟩:=bE h
       refine Ex.reg (rn 2 [1,3,4,12,13] (mkS 21 [(1,.ptr 0 0),(3,.int .u8 has_6),(4,i6 skill_7),(12,.fn 140 [] []),(13,(aN w_1))]) ⟨[(aX w_1)],[]⟩ ?_)
       refine ExO.callL [] [(aN w_1)] rfl rfl (tQ (⟨w_1.Weld,w_1.Carve,w_1.Paint⟩ : bT)) rfl rfl (tH N (⟨w_1.Weld,w_1.Carve,w_1.Paint⟩ : bT) r_32 hr_32) (tN _ _ _ _) rfl ?_
       refine rn 0 [1,3,4,14] (mkS 21 [(1,.ptr 0 0),(3,.int .u8 has_6),(4,i6 skill_7),(14,.bool r_32)]) ⟨[(aX w_1)],[]⟩ ?_
       refine ExO.nil ?_
       rcases aU h with ⟨hc_33,h⟩ | ⟨hc_33,h⟩
       ·refine Ex.condT _ rfl hc_33 ?_
        obtain ⟨u_34,hu_34,h⟩:=bE h
        obtain ⟨x_35,hx_35,h⟩:=bE h
        obtain ⟨n_36,hn_36,h⟩:=bE h
        refine regH 6 [(2,.adr),(3,.ld (.int .u8 x_35)),(4,.eq (.int .u8 n_36))] [1,3,4] [0 ≤ skill_7 ∧ skill_7 < ((4 : Nat) : Int) ∧ Int.toNat skill_7 * 1 ≤ (([0,1,2,4] : List Int).map (AV.int .u8)).length,bK (((([0,1,2,4] : List Int).map (AV.int .u8)).drop (Int.toNat skill_7 * 1)).take 1) 0 none = some (.int .u8 x_35),AV.int .u8 (IntKind.u8.wrap (((BitVec.ofInt (IntKind.bits .u8) has_6 ||| BitVec.ofInt (IntKind.bits .u8) x_35).toNat : Nat) : Int)) = AV.int .u8 n_36] (mkS 21 [(1,.ptr 0 0),(3,.int .u8 n_36),(4,i6 skill_7)]) (⟨[(aX w_1)],[]⟩) (by kernel_rfl) ⟨adrT ([0,1,2,4] : List Int) .u8 hu_34 (by decide),yC ([0,1,2,4] : List Int) .u8 hx_35,congrArg (AV.int .u8) (Option.some.inj hn_36),trivial⟩ rfl ?_
        (try simp only [reduceCtorEq,AEx.ex.injEq,Nat.reduceEqDiff,if_true,if_false])
        exact ⟨_,_,aL.refl _ _ _,n_36,h,rfl,rfl⟩
       ·refine Ex.condF _ rfl hc_33 ?_
        refine Ex.skip ?_
        (try simp only [reduceCtorEq,AEx.ex.injEq,Nat.reduceEqDiff,if_true,if_false])
        exact ⟨_,_,bS [1,3,4],has_6,h,rfl,rfl⟩
    ·rintro a S ⟨has_12,h,rfl,rfl⟩
     subst hK_15
     refine rg 3 [1,3,4] (mkS 21 [(1,.ptr 0 0),(3,.int .u8 has_12),(4,i6 (IntKind.i64.wrap (skill_7 + 1)))]) ⟨[(aX w_1)],[]⟩ ?_
     dsimp only
     exact ⟨_,_,aL.refl _ _ _,k,Nat.lt_succ_self k,has_12,(IntKind.i64.wrap (skill_7 + 1)),h,rfl,rfl⟩
   ·refine Ex.condF _ rfl hc_11 ?_
    refine Ex.exit ?_
    (try simp only [reduceCtorEq,AEx.ex.injEq,Nat.reduceEqDiff,if_true,if_false])
    exact ⟨_,_,bU (m:=21) 0 [] [(3,.int .u8 has_6)] [] [] (by simp [bH]) (by simp) ⟨rfl,trivial⟩ (by simp) rfl (by decide),has_6,h,rfl,rfl⟩
 ·rintro a S ⟨has_2,h,rfl,rfl⟩
  subst hK_5
  refine Ex.seq (rg 2 [2] (mkS 21 [(2,.int .u8 has_2)]) ⟨[],[]⟩ ?_)
  refine Ex.ret ?_
  obtain rfl:=sJ h
  exact rt (.int .u8 has_2)
def iU (N : Nat) (w_1 : bI) (some_2 : Int) : Option (Bool):=((lV N w_1).bind fun r_3 => ((some (IntKind.u8.wrap (((BitVec.ofInt (IntKind.bits .u8) r_3 &&& BitVec.ofInt (IntKind.bits .u8) some_2).toNat : Nat) : Int))).bind fun n_4 => some (n_4 != 0)))
def lE (r : Bool) : AV:=.bool r
attribute [local simp] lE
theorem sV (w_1 : bI) (some_2 : Int) : [(aN w_1),.int .u8 some_2].mapM (ren []) = some [(aN w_1),.int .u8 some_2]:=by simp
theorem sS (r : Bool) (n n2 m : Nat) : back n n2 m (lE r) = some (lE r):=by simp
theorem sP (N : Nat) (w_1 : bI) (some_2 : Int) (r : Bool) (h : iU N w_1 some_2 = some r) : Does Tryz.prog 109 [(aN w_1),.int .u8 some_2] [] fun v c => v = lE r ∧ c = []:=by
 unfold iU at h
 refine Does.ofL comp109 _ _ rfl rfl ?_
 refine Ex.seq (rg 2 [1,2] (mkS 10 [(1,.int .u8 some_2),(2,.ptr 0 0)]) ⟨[(aX w_1)],[]⟩ ?_)
 refine Ex.seq ?_
 obtain ⟨r_3,hr_3,h⟩:=bE h
 refine Ex.reg (rn 1 [1,5] (mkS 10 [(1,.int .u8 some_2),(5,(aN w_1))]) ⟨[(aX w_1)],[]⟩ ?_)
 refine ExO.callL [] [(aN w_1)] rfl rfl (xD w_1) rfl rfl (wW N w_1 r_3 hr_3) (xA _ _ _ _) rfl ?_
 obtain ⟨n_4,hn_4,h⟩:=bE h
 refine runH 4 [(1,.eq (.int .u8 n_4))] [4] [AV.int .u8 (IntKind.u8.wrap (((BitVec.ofInt (IntKind.bits .u8) r_3 &&& BitVec.ofInt (IntKind.bits .u8) some_2).toNat : Nat) : Int)) = AV.int .u8 n_4] (mkS 10 [(4,.bool (n_4 != 0))]) (⟨[(aX w_1)],[]⟩) (by kernel_rfl) ⟨congrArg (AV.int .u8) (Option.some.inj hn_4),trivial⟩ ?_
 refine ExO.nil ?_
 refine Ex.ret ?_
 obtain rfl:=sJ h
 exact rt (.bool (n_4 != 0))
def fC (N : Nat) (jobs_1 : (List bR)) (job_2 : Int) : Option (Int):=(letJ (fun (_ : Unit) => some (-1)) (fun k_3 => (loop1 (fun rec_7 (before_6 : Int) => (bif (decide (before_6 ≥ 0)) then ((getI jobs_1 before_6).bind fun x_11 => ((getI jobs_1 job_2).bind fun x_12 => (bif (x_11.Float == x_12.Float) then some before_6 else (rec_7 (IntKind.i64.wrap (before_6 - 1)))))) else (k_3 ()))) N (IntKind.i64.wrap (job_2 - 1)))))
def eE (r : Int) : AV:=i6 r
attribute [local simp] eE
theorem wC (jobs_1 : (List bR)) (job_2 : Int) : [.sl (jobs_1.map aJ) none,i6 job_2].mapM (ren []) = some [.sl (jobs_1.map aJ) none,i6 job_2]:=by simp
theorem oW (r : Int) (n n2 m : Nat) : back n n2 m (eE r) = some (eE r):=by simp
theorem oT (N : Nat) (jobs_1 : (List bR)) (job_2 : Int) (r : Int) (h : fC N jobs_1 job_2 = some r) : Does Tryz.prog 85 [.sl (jobs_1.map aJ) none,i6 job_2] [] fun v c => v = eE r ∧ c = []:=by
 unfold fC at h
 refine Does.ofL comp85 _ _ rfl rfl ?_
 refine Ex.seq (rg 1 [0,1] (mkS 24 [(0,.sl (jobs_1.map aJ) none),(1,i6 job_2)]) ⟨[],[]⟩ ?_)
 refine Ex.seq (Ex.seq ?_)
 refine rg 3 [0,1,5] (mkS 24 [(0,.sl (jobs_1.map aJ) none),(1,i6 job_2),(5,i6 (IntKind.i64.wrap (job_2 - 1)))]) ⟨[],[]⟩ ?_
 obtain ⟨K_4,hK_5,h⟩:=letE h
 refine Ex.blockJ (fun a S => K_4 () = some r ∧ a = mkS 24 [] ∧ S = ⟨[],[]⟩) ?_ ?_
 ·obtain ⟨B_8,hB_9,h⟩:=fW h
  refine Ex.loopF (fun k a S => ∃ (before_6 : Int),loop1 B_8 k before_6 = some r ∧ a = mkS 24 [(0,.sl (jobs_1.map aJ) none),(1,i6 job_2),(5,i6 before_6)] ∧ S = ⟨[],[]⟩) N ⟨_,_,aL.refl _ _ _,(IntKind.i64.wrap (job_2 - 1)),h,rfl,rfl⟩ ?_
  rintro k a S ⟨before_6,h,rfl,rfl⟩
  cases k with
  | zero => exact (fU h).elim
  | succ k =>
   replace h:=fV h hB_9
   refine Ex.seq (Ex.seq ?_)
   refine rg 2 [0,1,5,9] (mkS 24 [(0,.sl (jobs_1.map aJ) none),(1,i6 job_2),(5,i6 before_6),(9,.bool (decide (before_6 ≥ 0)))]) ⟨[],[]⟩ ?_
   rcases aU h with ⟨hc_10,h⟩ | ⟨hc_10,h⟩
   ·refine Ex.condT _ rfl hc_10 ?_
    refine Ex.skip ?_
    refine Ex.seq ?_
    refine Ex.blockK ?_
    refine Ex.seq ?_
    obtain ⟨x_11,hx_11,h⟩:=bE h
    obtain ⟨x_12,hx_12,h⟩:=bE h
    refine Ex.drawE (a1:=mkS 24 [(0,.sl (jobs_1.map aJ) none),(1,i6 job_2),(5,i6 before_6),(9,.bool (decide (before_6 ≥ 0))),(12,.sl (jobs_1.map aJ) none),(13,i6 before_6),(14,.rop (aY x_11)),(15,.rop (aY x_11)),(16,i6 x_11.Float),(17,.sl (jobs_1.map aJ) none),(18,i6 job_2),(19,.rop (aY x_12)),(20,.rop (aY x_12)),(21,i6 x_12.Float)]) (cD _) [] [] [] ?_ ?_
    ·refine drS [] 10 [(2, .rop (aY x_11)), (7, .rop (aY x_12))] [LGet (jobs_1.map aJ) before_6 3 (aY x_11), LGet (jobs_1.map aJ) job_2 3 (aY x_12)] (mkS 24 [(0, .sl (jobs_1.map aJ) none), (1, i6 job_2), (5, i6 before_6), (9, .bool (decide (before_6 ≥ 0))), (12, .sl (jobs_1.map aJ) none), (13, i6 before_6), (14, .rop (aY x_11)), (15, .rop (aY x_11)), (16, i6 x_11.Float), (17, .sl (jobs_1.map aJ) none), (18, i6 job_2), (19, .rop (aY x_12)), (20, .rop (aY x_12)), (21, i6 x_12.Float)]) (by simp) (by kernel_rfl) ⟨LGet.of hx_11 rfl, LGet.of hx_12 rfl, trivial⟩ (by kernel_rfl) ?_
     exact DrO.nil rfl
    ·dsimp only [List.getLastD_cons,List.getLastD_nil]
     refine rn 1 [0,1,5,22] (mkS 24 [(0,.sl (jobs_1.map aJ) none),(1,i6 job_2),(5,i6 before_6),(22,.bool (x_11.Float == x_12.Float))]) ⟨[],[]⟩ ?_
     refine ExO.nil ?_
     rcases aU h with ⟨hc_13,h⟩ | ⟨hc_13,h⟩
     ·refine Ex.condT _ rfl hc_13 ?_
      refine Ex.seq (rg 2 [4] (mkS 24 [(4,i6 before_6)]) ⟨[],[]⟩ ?_)
      refine Ex.ret ?_
      obtain rfl:=sJ h
      exact rt (i6 before_6)
     ·refine Ex.condF _ rfl hc_13 ?_
      refine Ex.skip ?_
      refine rg 3 [0,1,5] (mkS 24 [(0,.sl (jobs_1.map aJ) none),(1,i6 job_2),(5,i6 (IntKind.i64.wrap (before_6 - 1)))]) ⟨[],[]⟩ ?_
      dsimp only
      exact ⟨_,_,aL.refl _ _ _,k,Nat.lt_succ_self k,(IntKind.i64.wrap (before_6 - 1)),h,rfl,rfl⟩
   ·refine Ex.condF _ rfl hc_10 ?_
    refine Ex.exit ?_
    (try simp only [reduceCtorEq,AEx.ex.injEq,Nat.reduceEqDiff,if_true,if_false])
    exact ⟨_,_,bS [],h,rfl,rfl⟩
 ·rintro a S ⟨h,rfl,rfl⟩
  subst hK_5
  refine Ex.seq (rg 1 [4] (mkS 24 [(4,i6 (-1))]) ⟨[],[]⟩ ?_)
  refine Ex.ret ?_
  obtain rfl:=sJ h
  exact rt (i6 (-1))
def eF (N : Nat) (jobs_1 : (List bR)) (plan_2 : (List aG)) (job_3 : Int) : Option (Int):=((getI plan_2 job_3).bind fun x_4 => ((getI jobs_1 job_3).bind fun x_5 => some (IntKind.i64.wrap (x_4.Day + x_5.Days))))
def cB (r : Int) : AV:=i6 r
attribute [local simp] cB
theorem aDl (jobs_1 : (List bR)) (plan_2 : (List aG)) (job_3 : Int) : [.sl (jobs_1.map aJ) none,.sl (plan_2.map aA) none,i6 job_3].mapM (ren []) = some [.sl (jobs_1.map aJ) none,.sl (plan_2.map aA) none,i6 job_3]:=by simp
theorem nF (r : Int) (n n2 m : Nat) : back n n2 m (cB r) = some (cB r):=by simp
theorem jJ (N : Nat) (jobs_1 : (List bR)) (plan_2 : (List aG)) (job_3 : Int) (r : Int) (h : eF N jobs_1 plan_2 job_3 = some r) : Does Tryz.prog 96 [.sl (jobs_1.map aJ) none,.sl (plan_2.map aA) none,i6 job_3] [] fun v c => v = cB r ∧ c = []:=by
 unfold eF at h
 refine Does.ofL comp96 _ _ rfl rfl ?_
 refine Ex.seq (rg 1 [0,1,2] (mkS 18 [(0,.sl (jobs_1.map aJ) none),(1,.sl (plan_2.map aA) none),(2,i6 job_3)]) ⟨[],[]⟩ ?_)
 refine Ex.seq ?_
 obtain ⟨x_4,hx_4,h⟩:=bE h
 obtain ⟨x_5,hx_5,h⟩:=bE h
 refine Ex.drawE (a1:=mkS 18 [(0,.sl (jobs_1.map aJ) none),(1,.sl (plan_2.map aA) none),(2,i6 job_3),(7,.sl (plan_2.map aA) none),(8,i6 job_3),(9,.rop (aE x_4)),(10,.rop [i6 x_4.Day]),(11,i6 x_4.Day),(12,.sl (jobs_1.map aJ) none),(13,i6 job_3),(14,.rop (aY x_5)),(15,.rop [i6 x_5.Days]),(16,i6 x_5.Days)]) (cD _) [] [] [] ?_ ?_
 ·refine drS [] 10 [(2, .rop (aE x_4)), (7, .rop (aY x_5))] [LGet (plan_2.map aA) job_3 2 (aE x_4), LGet (jobs_1.map aJ) job_3 3 (aY x_5)] (mkS 18 [(0, .sl (jobs_1.map aJ) none), (1, .sl (plan_2.map aA) none), (2, i6 job_3), (7, .sl (plan_2.map aA) none), (8, i6 job_3), (9, .rop (aE x_4)), (10, .rop [i6 x_4.Day]), (11, i6 x_4.Day), (12, .sl (jobs_1.map aJ) none), (13, i6 job_3), (14, .rop (aY x_5)), (15, .rop [i6 x_5.Days]), (16, i6 x_5.Days)]) (by simp) (by kernel_rfl) ⟨LGet.of hx_4 rfl, LGet.of hx_5 rfl, trivial⟩ (by kernel_rfl) ?_
  exact DrO.nil rfl
 ·dsimp only [List.getLastD_cons,List.getLastD_nil]
  refine rn 2 [6] (mkS 18 [(6,i6 (IntKind.i64.wrap (x_4.Day + x_5.Days)))]) ⟨[],[]⟩ ?_
  refine ExO.nil ?_
  refine Ex.ret ?_
  obtain rfl:=sJ h
  exact rt (i6 (IntKind.i64.wrap (x_4.Day + x_5.Days)))
def eK (N : Nat) (s_1 : aV) (plan_2 : (List aG)) (job_3 : Int) : Option (Int):=((getI plan_2 job_3).bind fun x_4 => ((eG N x_4.Worker 0 (IntKind.i64.wrap (((s_1.Workers.length : Nat) : Int) - 1))).bind fun r_5 => (bif (!r_5) then some 7 else ((getI s_1.Workers x_4.Worker).bind fun x_7 => ((getI s_1.Jobs job_3).bind fun x_8 => ((idxI x_8.Skill 4).bind fun u_9 => ((([0,1,2,4] : List Int)[Int.toNat x_8.Skill]?).bind fun x_10 => ((iU N x_7 x_10).bind fun r_11 => (bif (!r_11) then some 3 else ((eG N x_4.Day 0 400).bind fun r_13 => (bif (!r_13) then some 2 else ((fC N s_1.Jobs job_3).bind fun r_15 => (letJ (fun (y_16 : Bool) => (bif y_16 then some 9 else some 0)) (fun k_17 => (bif (r_15 != (-1)) then ((eF N s_1.Jobs plan_2 r_15).bind fun r_21 => (k_17 (decide (x_4.Day < r_21)))) else (k_17 false))))))))))))))))
def hC (r : Int) : AV:=i6 r
attribute [local simp] hC
theorem uT (s_1 : aV) (plan_2 : (List aG)) (job_3 : Int) : [(aP s_1),.sl (plan_2.map aA) none,i6 job_3].mapM (ren []) = some [(aP s_1),.sl (plan_2.map aA) none,i6 job_3]:=by simp
theorem uN (r : Int) (n n2 m : Nat) : back n n2 m (hC r) = some (hC r):=by simp
theorem uH (N : Nat) (s_1 : aV) (plan_2 : (List aG)) (job_3 : Int) (r : Int) (h : eK N s_1 plan_2 job_3 = some r) : Does Tryz.prog 94 [(aP s_1),.sl (plan_2.map aA) none,i6 job_3] [] fun v c => v = hC r ∧ c = []:=by
 unfold eK at h
 refine Does.ofL comp94 _ _ rfl rfl ?_
 refine Ex.seq (rg 2 [1,2,3] (mkS 60 [(1,.sl (plan_2.map aA) none),(2,i6 job_3),(3,.ptr 0 0)]) ⟨[(aH s_1)],[]⟩ ?_)
 refine Ex.seq ?_
 obtain ⟨x_4,hx_4,h⟩:=bE h
 refine regH 6 [(2,.rop (aE x_4))] [1,2,3,7] [LGet (plan_2.map aA) job_3 2 (aE x_4)] (mkS 60 [(1,.sl (plan_2.map aA) none),(2,i6 job_3),(3,.ptr 0 0),(7,.ptr 1 0)]) (⟨[(aH s_1),(aE x_4)],[]⟩) (by kernel_rfl) ⟨LGet.of hx_4 rfl,trivial⟩ rfl ?_
 refine Ex.seq ?_
 refine Ex.blockK ?_
 refine Ex.seq ?_
 obtain ⟨r_5,hr_5,h⟩:=bE h
 refine Ex.reg ?_
 refine runH 6 [(4,.eq (i6 ((s_1.Workers.length : Nat) : Int)))] [1,2,3,7,15,19] [AV.int .i64 (((s_1.Workers.map aN).length : Nat) : Int) = AV.int .i64 ((s_1.Workers.length : Nat) : Int)] (mkS 60 [(1,.sl (plan_2.map aA) none),(2,i6 job_3),(3,.ptr 0 0),(7,.ptr 1 0),(15,i6 x_4.Worker),(19,i6 (IntKind.i64.wrap (((s_1.Workers.length : Nat) : Int) - 1)))]) (⟨[(aH s_1),(aE x_4)],[]⟩) (by kernel_rfl) ⟨lenM _ _,trivial⟩ ?_
 refine ExO.callL [] [i6 x_4.Worker,i6 0,i6 (IntKind.i64.wrap (((s_1.Workers.length : Nat) : Int) - 1))] rfl rfl (iY x_4.Worker 0 (IntKind.i64.wrap (((s_1.Workers.length : Nat) : Int) - 1))) rfl rfl (iW N x_4.Worker 0 (IntKind.i64.wrap (((s_1.Workers.length : Nat) : Int) - 1)) r_5 hr_5) (iX _ _ _ _) rfl ?_
 refine rn 2 [1,2,3,7,13] (mkS 60 [(1,.sl (plan_2.map aA) none),(2,i6 job_3),(3,.ptr 0 0),(7,.ptr 1 0),(13,.bool (!r_5))]) ⟨[(aH s_1),(aE x_4)],[]⟩ ?_
 refine ExO.nil ?_
 rcases aU h with ⟨hc_6,h⟩ | ⟨hc_6,h⟩
 ·refine Ex.condT _ rfl hc_6 ?_
  refine Ex.seq (rg 1 [6] (mkS 60 [(6,i6 7)]) ⟨[(aH s_1),(aE x_4)],[]⟩ ?_)
  refine Ex.ret ?_
  obtain rfl:=sJ h
  exact rt (i6 7)
 ·refine Ex.condF _ rfl hc_6 ?_
  refine Ex.seq ?_
  obtain ⟨x_7,hx_7,h⟩:=bE h
  obtain ⟨x_8,hx_8,h⟩:=bE h
  obtain ⟨u_9,hu_9,h⟩:=bE h
  obtain ⟨x_10,hx_10,h⟩:=bE h
  refine Ex.drawE (a1:=mkS 60 [(1,.sl (plan_2.map aA) none),(2,i6 job_3),(3,.ptr 0 0),(7,.ptr 1 0),(13,.bool (!r_5)),(23,.ptr 0 0),(24,.sl (s_1.Workers.map aN) none),(25,.ptr 1 0),(26,i6 x_4.Worker),(27,.rop (aX x_7)),(28,(aN x_7)),(29,.ptr 0 1),(30,.sl (s_1.Jobs.map aJ) none),(31,i6 job_3),(32,.rop (aY x_8)),(33,.rop [i6 x_8.Skill,i6 x_8.Days]),(34,i6 x_8.Skill),(35,.rop (((([0,1,2,4] : List Int).map (AV.int .u8)).drop (Int.toNat x_8.Skill * 1)).take 1)),(36,.int .u8 x_10)]) (cD _) [] [] [] ?_ ?_
  ·refine drS [0, 1] 14 [(4, .rop (aX x_7)), (9, .rop (aY x_8)), (12, .adr), (13, .ld (.int .u8 x_10))] [LGet (s_1.Workers.map aN) x_4.Worker 3 (aX x_7), LGet (s_1.Jobs.map aJ) job_3 3 (aY x_8), 0 ≤ x_8.Skill ∧ x_8.Skill < ((4 : Nat) : Int) ∧ Int.toNat x_8.Skill * 1 ≤ (([0, 1, 2, 4] : List Int).map (AV.int .u8)).length, bK (((([0, 1, 2, 4] : List Int).map (AV.int .u8)).drop (Int.toNat x_8.Skill * 1)).take 1) 0 none = some (.int .u8 x_10)] (mkS 60 [(1, .sl (plan_2.map aA) none), (2, i6 job_3), (3, .ptr 0 0), (7, .ptr 1 0), (13, .bool (!r_5)), (23, .ptr 0 0), (24, .sl (s_1.Workers.map aN) none), (25, .ptr 1 0), (26, i6 x_4.Worker), (27, .rop (aX x_7)), (28, (aN x_7)), (29, .ptr 0 1), (30, .sl (s_1.Jobs.map aJ) none), (31, i6 job_3), (32, .rop (aY x_8)), (33, .rop [i6 x_8.Skill, i6 x_8.Days]), (34, i6 x_8.Skill), (35, .rop (((([0, 1, 2, 4] : List Int).map (AV.int .u8)).drop (Int.toNat x_8.Skill * 1)).take 1)), (36, .int .u8 x_10)]) (by simp) (by kernel_rfl) ⟨LGet.of hx_7 rfl, LGet.of hx_8 rfl, adrT ([0, 1, 2, 4] : List Int) .u8 hu_9 (by decide), yC ([0, 1, 2, 4] : List Int) .u8 hx_10, trivial⟩ (by kernel_rfl) ?_
   exact DrO.nil rfl
  ·dsimp only [List.getLastD_cons,List.getLastD_nil]
   obtain ⟨r_11,hr_11,h⟩:=bE h
   refine ExO.callL [] [(aN x_7),.int .u8 x_10] rfl rfl (sV x_7 x_10) rfl rfl (sP N x_7 x_10 r_11 hr_11) (sS _ _ _ _) rfl ?_
   refine rn 2 [1,2,3,7,22] (mkS 60 [(1,.sl (plan_2.map aA) none),(2,i6 job_3),(3,.ptr 0 0),(7,.ptr 1 0),(22,.bool (!r_11))]) ⟨[(aH s_1),(aE x_4)],[]⟩ ?_
   refine ExO.nil ?_
   rcases aU h with ⟨hc_12,h⟩ | ⟨hc_12,h⟩
   ·refine Ex.condT _ rfl hc_12 ?_
    refine Ex.seq (rg 1 [6] (mkS 60 [(6,i6 3)]) ⟨[(aH s_1),(aE x_4)],[]⟩ ?_)
    refine Ex.ret ?_
    obtain rfl:=sJ h
    exact rt (i6 3)
   ·refine Ex.condF _ rfl hc_12 ?_
    refine Ex.seq ?_
    obtain ⟨r_13,hr_13,h⟩:=bE h
    refine Ex.reg (rn 2 [1,2,3,7,41] (mkS 60 [(1,.sl (plan_2.map aA) none),(2,i6 job_3),(3,.ptr 0 0),(7,.ptr 1 0),(41,i6 x_4.Day)]) ⟨[(aH s_1),(aE x_4)],[]⟩ ?_)
    refine ExO.callL [] [i6 x_4.Day,i6 0,i6 400] rfl rfl (iY x_4.Day 0 400) rfl rfl (iW N x_4.Day 0 400 r_13 hr_13) (iX _ _ _ _) rfl ?_
    refine rn 2 [1,2,3,7,39] (mkS 60 [(1,.sl (plan_2.map aA) none),(2,i6 job_3),(3,.ptr 0 0),(7,.ptr 1 0),(39,.bool (!r_13))]) ⟨[(aH s_1),(aE x_4)],[]⟩ ?_
    refine ExO.nil ?_
    rcases aU h with ⟨hc_14,h⟩ | ⟨hc_14,h⟩
    ·refine Ex.condT _ rfl hc_14 ?_
     refine Ex.seq (rg 1 [6] (mkS 60 [(6,i6 2)]) ⟨[(aH s_1),(aE x_4)],[]⟩ ?_)
     refine Ex.ret ?_
     obtain rfl:=sJ h
     exact rt (i6 2)
    ·refine Ex.condF _ rfl hc_14 ?_
     refine Ex.skip ?_
     refine Ex.seq (Ex.seq ?_)
     obtain ⟨r_15,hr_15,h⟩:=bE h
     refine Ex.reg (rn 3 [1,3,7,45,46] (mkS 60 [(1,.sl (plan_2.map aA) none),(3,.ptr 0 0),(7,.ptr 1 0),(45,.sl (s_1.Jobs.map aJ) none),(46,i6 job_3)]) ⟨[(aH s_1),(aE x_4)],[]⟩ ?_)
     refine ExO.callL [] [.sl (s_1.Jobs.map aJ) none,i6 job_3] rfl rfl (wC s_1.Jobs job_3) rfl rfl (oT N s_1.Jobs job_3 r_15 hr_15) (oW _ _ _ _) rfl ?_
     refine rn 1 [1,3,7,8] (mkS 60 [(1,.sl (plan_2.map aA) none),(3,.ptr 0 0),(7,.ptr 1 0),(8,i6 r_15)]) ⟨[(aH s_1),(aE x_4)],[]⟩ ?_
     refine ExO.nil ?_
     obtain ⟨K_18,hK_19,h⟩:=letE h
     refine Ex.seqJ (fun a S => ∃ (y_16 : Bool),K_18 y_16 = some r ∧ a = mkS 60 [(59,.bool y_16)] ∧ S = ⟨[],[]⟩) ?_ ?_
     ·rcases aU h with ⟨hc_20,h⟩ | ⟨hc_20,h⟩
      ·obtain ⟨r_21,hr_21,h⟩:=bE h
       have hT_22 : iZ Tryz.prog [⟨96,[.sl (s_1.Jobs.map aJ) none,.sl (plan_2.map aA) none,i6 r_15],[],(cB r_21),[]⟩] ∧ gG [⟨96,[.sl (s_1.Jobs.map aJ) none,.sl (plan_2.map aA) none,i6 r_15],[],(cB r_21),[]⟩]:=⟨⟨(jJ N s_1.Jobs plan_2 r_15 r_21 hr_21),rfl,trivial⟩,⟨trivial,trivial⟩⟩
       refine Ex.drawE (a1:=mkS 60 [(1,.sl (plan_2.map aA) none),(3,.ptr 0 0),(7,.ptr 1 0),(8,i6 r_15),(48,i6 r_15),(49,.bool (r_15 != (-1))),(50,.bool true),(51,.ptr 1 1),(52,i6 x_4.Day),(53,.ptr 0 1),(54,.sl (s_1.Jobs.map aJ) none),(55,.sl (plan_2.map aA) none),(56,i6 r_15),(57,i6 r_21)]) (gK hT_22.1) [] [] [] ?_ ?_
       ·refine drS [0, 1] 9 [(2, .eq (.bool true))] [AV.bool (r_15 != (-1)) = AV.bool true] (mkS 60 [(1, .sl (plan_2.map aA) none), (3, .ptr 0 0), (7, .ptr 1 0), (8, i6 r_15), (48, i6 r_15), (49, .bool (r_15 != (-1))), (50, .bool true), (51, .ptr 1 1), (52, i6 x_4.Day), (53, .ptr 0 1), (54, .sl (s_1.Jobs.map aJ) none), (55, .sl (plan_2.map aA) none), (56, i6 r_15)]) (by simp) (by kernel_rfl) ⟨congrArg AV.bool hc_20, trivial⟩ (by kernel_rfl) ?_
        refine drC hT_22.2 0 _ [.sl (s_1.Jobs.map aJ) none,.sl (plan_2.map aA) none,i6 r_15] (cB r_21) rfl rfl rfl rfl rfl (fun _ => rfl) rfl (by simp; try rfl) (fun _ => nF _ _ _ _) ?_
        exact DrO.nil rfl
       ·dsimp only [List.getLastD_cons,List.getLastD_nil]
        refine rn 2 [59] (mkS 60 [(59,.bool (decide (x_4.Day < r_21)))]) ⟨[(aH s_1),(aE x_4)],[]⟩ ?_
        refine ExO.nil ?_
        (try simp only [reduceCtorEq,AEx.ex.injEq,Nat.reduceEqDiff,if_true,if_false])
        exact ⟨_,_,bU (m:=60) 0 [] [(59,.bool (decide (x_4.Day < r_21)))] [] [] (by simp [bH]) (by simp) ⟨rfl,trivial⟩ (by simp) rfl (by decide),(decide (x_4.Day < r_21)),h,rfl,rfl⟩
      ·refine yK (cD _) [(2, .eq (.bool false))] [] [59] [AV.bool (r_15 != (-1)) = AV.bool false] [] (mkS 60 [(1, .sl (plan_2.map aA) none), (3, .ptr 0 0), (7, .ptr 1 0), (8, i6 r_15), (48, i6 r_15), (49, .bool (r_15 != (-1))), (50, .bool false), (51, .tup []), (52, .tup []), (53, .tup []), (54, .tup []), (55, .tup []), (56, .tup []), (57, .tup [])]) (mkS 60 [(59, .bool false)]) (by kernel_rfl) (by kernel_rfl) ⟨congrArg AV.bool hc_20, trivial⟩ (by kernel_rfl) trivial ?_
       (try simp only [reduceCtorEq,AEx.ex.injEq,Nat.reduceEqDiff,if_true,if_false])
       exact ⟨_,_,bU (m:=60) 0 [] [(59,.bool false)] [] [] (by simp [bH]) (by simp) ⟨rfl,trivial⟩ (by simp) rfl (by decide),false,h,rfl,rfl⟩
     ·rintro a S ⟨y_16,h,rfl,rfl⟩
      subst hK_19
      rcases aU h with ⟨hc_23,h⟩ | ⟨hc_23,h⟩
      ·refine Ex.condT _ rfl hc_23 ?_
       refine Ex.seq (rg 1 [6] (mkS 60 [(6,i6 9)]) ⟨[],[]⟩ ?_)
       refine Ex.ret ?_
       obtain rfl:=sJ h
       exact rt (i6 9)
      ·refine Ex.condF _ rfl hc_23 ?_
       refine Ex.skip ?_
       refine Ex.seq (rg 1 [6] (mkS 60 [(6,i6 0)]) ⟨[],[]⟩ ?_)
       refine Ex.ret ?_
       obtain rfl:=sJ h
       exact rt (i6 0)
theorem aFr (x y : bR) (h : aJ x = aJ y) : x = y:=by
 have h:=AV.agg.inj h
 simp only [aY,List.cons.injEq,AV.int.injEq,AV.bool.injEq,AV.str.injEq,AV.sl.injEq,true_and,and_true] at h
 obtain ⟨h0,h1,h2⟩:=h
 obtain ⟨x0,x1,x2⟩:=x; obtain ⟨y0,y1,y2⟩:=y; simp_all
theorem aCH (x y : aG) (h : aA x = aA y) : x = y:=by
 have h:=AV.agg.inj h
 simp only [aE,List.cons.injEq,AV.int.injEq,AV.bool.injEq,AV.str.injEq,AV.sl.injEq,true_and,and_true] at h
 obtain ⟨h0,h1⟩:=h
 obtain ⟨x0,x1⟩:=x; obtain ⟨y0,y1⟩:=y; simp_all
theorem aCS (N : Nat) (jobs_1 : (List bR)) (plan_2 : (List aG)) (job_3 : Int) (jobs_1z : (List bR)) (plan_2z : (List aG)) (job_3z : Int) (r s : Int) (hr : eF N jobs_1 plan_2 job_3 = some r) (hs : eF N jobs_1z plan_2z job_3z = some s) : qH ⟨96,[.sl (jobs_1.map aJ) none,.sl (plan_2.map aA) none,i6 job_3],[],cB r,[]⟩ ⟨96,[.sl (jobs_1z.map aJ) none,.sl (plan_2z.map aA) none,i6 job_3z],[],cB s,[]⟩:=by
 intro _ h1 h2
 have h1 : ([.sl (jobs_1.map aJ) none,.sl (plan_2.map aA) none,i6 job_3] : List AV) = [.sl (jobs_1z.map aJ) none,.sl (plan_2z.map aA) none,i6 job_3z]:=h1
 have h2 : ([] : List (List AV)) = []:=h2
 obtain rfl : jobs_1 = jobs_1z:=(aEG aFr) _ _ (List.cons.inj h1).1
 obtain rfl : plan_2 = plan_2z:=(aEG aCH) _ _ (List.cons.inj (List.cons.inj h1).2).1
 obtain rfl : job_3 = job_3z:=(yE _) _ _ (List.cons.inj (List.cons.inj (List.cons.inj h1).2).2).1
 rw [hr] at hs; cases hs; exact ⟨rfl,rfl⟩
def fQ (N : Nat) (jobs_1 : (List bR)) (plan_2 : (List aG)) (a_3 : Int) (b_4 : Int) : Option (Bool):=((getI plan_2 a_3).bind fun x_5 => ((getI plan_2 b_4).bind fun x_6 => (bif (x_5.Worker == x_6.Worker) then ((getI plan_2 a_3).bind fun x_8 => ((eF N jobs_1 plan_2 b_4).bind fun r_9 => (bif (decide (x_8.Day < r_9)) then ((getI plan_2 b_4).bind fun x_11 => ((eF N jobs_1 plan_2 a_3).bind fun r_12 => some (decide (x_11.Day < r_12)))) else some false))) else some false)))
def mD (r : Bool) : AV:=.bool r
attribute [local simp] mD
theorem aBs (jobs_1 : (List bR)) (plan_2 : (List aG)) (a_3 : Int) (b_4 : Int) : [.sl (jobs_1.map aJ) none,.sl (plan_2.map aA) none,i6 a_3,i6 b_4].mapM (ren []) = some [.sl (jobs_1.map aJ) none,.sl (plan_2.map aA) none,i6 a_3,i6 b_4]:=by simp
theorem aBj (r : Bool) (n n2 m : Nat) : back n n2 m (mD r) = some (mD r):=by simp
theorem aAW (N : Nat) (jobs_1 : (List bR)) (plan_2 : (List aG)) (a_3 : Int) (b_4 : Int) (r : Bool) (h : fQ N jobs_1 plan_2 a_3 b_4 = some r) : Does Tryz.prog 95 [.sl (jobs_1.map aJ) none,.sl (plan_2.map aA) none,i6 a_3,i6 b_4] [] fun v c => v = mD r ∧ c = []:=by
 unfold fQ at h
 refine Does.ofL comp95 _ _ rfl rfl ?_
 refine Ex.seq (rg 1 [0,1,2,3] (mkS 44 [(0,.sl (jobs_1.map aJ) none),(1,.sl (plan_2.map aA) none),(2,i6 a_3),(3,i6 b_4)]) ⟨[],[]⟩ ?_)
 refine Ex.seq ?_
 obtain ⟨x_5,hx_5,h⟩:=bE h
 obtain ⟨x_6,hx_6,h⟩:=bE h
 rcases aU h with ⟨hc_7,h⟩ | ⟨hc_7,h⟩
 ·obtain ⟨x_8,hx_8,h⟩:=bE h
  obtain ⟨r_9,hr_9,h⟩:=bE h
  rcases aU h with ⟨hc_10,h⟩ | ⟨hc_10,h⟩
  ·obtain ⟨x_11,hx_11,h⟩:=bE h
   obtain ⟨r_12,hr_12,h⟩:=bE h
   have hT_13 : iZ Tryz.prog [⟨96,[.sl (jobs_1.map aJ) none,.sl (plan_2.map aA) none,i6 b_4],[],(cB r_9),[]⟩,⟨96,[.sl (jobs_1.map aJ) none,.sl (plan_2.map aA) none,i6 a_3],[],(cB r_12),[]⟩] ∧ gG [⟨96,[.sl (jobs_1.map aJ) none,.sl (plan_2.map aA) none,i6 b_4],[],(cB r_9),[]⟩,⟨96,[.sl (jobs_1.map aJ) none,.sl (plan_2.map aA) none,i6 a_3],[],(cB r_12),[]⟩]:=⟨⟨(jJ N jobs_1 plan_2 b_4 r_9 hr_9),rfl,(jJ N jobs_1 plan_2 a_3 r_12 hr_12),rfl,trivial⟩,⟨⟨aCS N jobs_1 plan_2 b_4 jobs_1 plan_2 a_3 r_9 r_12 hr_9 hr_12,trivial⟩,trivial,trivial⟩⟩
   refine Ex.drawE (a1:=mkS 44 [(0,.sl (jobs_1.map aJ) none),(1,.sl (plan_2.map aA) none),(2,i6 a_3),(3,i6 b_4),(9,.sl (plan_2.map aA) none),(10,i6 a_3),(11,.rop (aE x_5)),(12,.rop (aE x_5)),(13,i6 x_5.Worker),(14,.sl (plan_2.map aA) none),(15,i6 b_4),(16,.rop (aE x_6)),(17,.rop (aE x_6)),(18,i6 x_6.Worker),(19,.bool (x_5.Worker == x_6.Worker)),(20,.bool true),(21,.sl (plan_2.map aA) none),(22,i6 a_3),(23,.rop (aE x_8)),(24,.rop [i6 x_8.Day]),(25,i6 x_8.Day),(26,.sl (jobs_1.map aJ) none),(27,.sl (plan_2.map aA) none),(28,i6 b_4),(29,i6 r_9),(30,.bool (decide (x_8.Day < r_9))),(31,.bool (decide (x_8.Day < r_9))),(32,.bool true),(33,.sl (plan_2.map aA) none),(34,i6 b_4),(35,.rop (aE x_11)),(36,.rop [i6 x_11.Day]),(37,i6 x_11.Day),(38,.sl (jobs_1.map aJ) none),(39,.sl (plan_2.map aA) none),(40,i6 a_3),(41,i6 r_12)]) (gK hT_13.1) [] [] [] ?_ ?_
   ·refine drS [] 20 [(2, .rop (aE x_5)), (7, .rop (aE x_6)), (11, .eq (.bool true)), (14, .rop (aE x_8))] [LGet (plan_2.map aA) a_3 2 (aE x_5), LGet (plan_2.map aA) b_4 2 (aE x_6), AV.bool (x_5.Worker == x_6.Worker) = AV.bool true, LGet (plan_2.map aA) a_3 2 (aE x_8)] (mkS 44 [(0, .sl (jobs_1.map aJ) none), (1, .sl (plan_2.map aA) none), (2, i6 a_3), (3, i6 b_4), (9, .sl (plan_2.map aA) none), (10, i6 a_3), (11, .rop (aE x_5)), (12, .rop (aE x_5)), (13, i6 x_5.Worker), (14, .sl (plan_2.map aA) none), (15, i6 b_4), (16, .rop (aE x_6)), (17, .rop (aE x_6)), (18, i6 x_6.Worker), (19, .bool (x_5.Worker == x_6.Worker)), (20, .bool true), (21, .sl (plan_2.map aA) none), (22, i6 a_3), (23, .rop (aE x_8)), (24, .rop [i6 x_8.Day]), (25, i6 x_8.Day), (26, .sl (jobs_1.map aJ) none), (27, .sl (plan_2.map aA) none), (28, i6 b_4)]) (by simp) (by kernel_rfl) ⟨LGet.of hx_5 rfl, LGet.of hx_6 rfl, congrArg AV.bool hc_7, LGet.of hx_8 rfl, trivial⟩ (by kernel_rfl) ?_
    refine drC hT_13.2 0 _ [.sl (jobs_1.map aJ) none,.sl (plan_2.map aA) none,i6 b_4] (cB r_9) rfl rfl rfl rfl rfl (fun _ => rfl) rfl (by simp; try rfl) (fun _ => nF _ _ _ _) ?_
    refine drS [] 11 [(2,.eq (.bool true)),(5,.rop (aE x_11))] [AV.bool (decide (x_8.Day < r_9)) = AV.bool true,LGet (plan_2.map aA) b_4 2 (aE x_11)] (mkS 44 [(0,.sl (jobs_1.map aJ) none),(1,.sl (plan_2.map aA) none),(2,i6 a_3),(3,i6 b_4),(9,.sl (plan_2.map aA) none),(10,i6 a_3),(11,.rop (aE x_5)),(12,.rop (aE x_5)),(13,i6 x_5.Worker),(14,.sl (plan_2.map aA) none),(15,i6 b_4),(16,.rop (aE x_6)),(17,.rop (aE x_6)),(18,i6 x_6.Worker),(19,.bool (x_5.Worker == x_6.Worker)),(20,.bool true),(21,.sl (plan_2.map aA) none),(22,i6 a_3),(23,.rop (aE x_8)),(24,.rop [i6 x_8.Day]),(25,i6 x_8.Day),(26,.sl (jobs_1.map aJ) none),(27,.sl (plan_2.map aA) none),(28,i6 b_4),(29,i6 r_9),(30,.bool (decide (x_8.Day < r_9))),(31,.bool (decide (x_8.Day < r_9))),(32,.bool true),(33,.sl (plan_2.map aA) none),(34,i6 b_4),(35,.rop (aE x_11)),(36,.rop [i6 x_11.Day]),(37,i6 x_11.Day),(38,.sl (jobs_1.map aJ) none),(39,.sl (plan_2.map aA) none),(40,i6 a_3)]) (by simp) (by kernel_rfl) ⟨congrArg AV.bool hc_10,LGet.of hx_11 rfl,trivial⟩ (by kernel_rfl) ?_
    refine drC hT_13.2 1 _ [.sl (jobs_1.map aJ) none,.sl (plan_2.map aA) none,i6 a_3] (cB r_12) rfl rfl rfl rfl rfl (fun _ => rfl) rfl (by simp; try rfl) (fun _ => nF _ _ _ _) ?_
    exact DrO.nil rfl
   ·dsimp only [List.getLastD_cons,List.getLastD_nil]
    refine rn 3 [8] (mkS 44 [(8,.bool (decide (x_11.Day < r_12)))]) ⟨[],[]⟩ ?_
    refine ExO.nil ?_
    refine Ex.ret ?_
    obtain rfl:=sJ h
    exact rt (.bool (decide (x_11.Day < r_12)))
  ·have hT_15 : iZ Tryz.prog [⟨96,[.sl (jobs_1.map aJ) none,.sl (plan_2.map aA) none,i6 b_4],[],(cB r_9),[]⟩] ∧ gG [⟨96,[.sl (jobs_1.map aJ) none,.sl (plan_2.map aA) none,i6 b_4],[],(cB r_9),[]⟩]:=⟨⟨(jJ N jobs_1 plan_2 b_4 r_9 hr_9),rfl,trivial⟩,⟨trivial,trivial⟩⟩
   obtain ⟨X_14,hX_14,hcl_16⟩ : ∃ X : Clr,fA Tryz.prog X ∧ X 96 [.sl (jobs_1.map aJ) none,.sl (plan_2.map aA) none,i6 b_4] ⟨[],[]⟩ = some (cB r_9,none):=⟨_,gK hT_15.1,aAc hT_15.2 0 _ [.sl (jobs_1.map aJ) none,.sl (plan_2.map aA) none,i6 b_4] _ rfl rfl rfl rfl (by simp; try rfl) (fun _ => nF _ _ _ _)⟩
   refine yK hX_14 [(2,.rop (aE x_5)),(7,.rop (aE x_6)),(11,.eq (.bool true)),(14,.rop (aE x_8)),(20,.cl (cB r_9)),(23,.eq (.bool false))] [] [8] [LGet (plan_2.map aA) a_3 2 (aE x_5),LGet (plan_2.map aA) b_4 2 (aE x_6),AV.bool (x_5.Worker == x_6.Worker) = AV.bool true,LGet (plan_2.map aA) a_3 2 (aE x_8),X_14 96 [.sl (jobs_1.map aJ) none,.sl (plan_2.map aA) none,i6 b_4] ⟨[],[]⟩ = some (cB r_9,none),AV.bool (decide (x_8.Day < r_9)) = AV.bool false] [] (mkS 44 [(0,.sl (jobs_1.map aJ) none),(1,.sl (plan_2.map aA) none),(2,i6 a_3),(3,i6 b_4),(9,.sl (plan_2.map aA) none),(10,i6 a_3),(11,.rop (aE x_5)),(12,.rop (aE x_5)),(13,i6 x_5.Worker),(14,.sl (plan_2.map aA) none),(15,i6 b_4),(16,.rop (aE x_6)),(17,.rop (aE x_6)),(18,i6 x_6.Worker),(19,.bool (x_5.Worker == x_6.Worker)),(20,.bool true),(21,.sl (plan_2.map aA) none),(22,i6 a_3),(23,.rop (aE x_8)),(24,.rop [i6 x_8.Day]),(25,i6 x_8.Day),(26,.sl (jobs_1.map aJ) none),(27,.sl (plan_2.map aA) none),(28,i6 b_4),(29,i6 r_9),(30,.bool (decide (x_8.Day < r_9))),(31,.bool (decide (x_8.Day < r_9))),(32,.bool false),(33,.tup []),(34,.tup []),(35,.tup []),(36,.tup []),(37,.tup []),(38,.tup []),(39,.tup []),(40,.tup []),(41,.tup [])]) (mkS 44 [(8,.bool false)]) (by kernel_rfl) (by kernel_rfl) ⟨LGet.of hx_5 rfl,LGet.of hx_6 rfl,congrArg AV.bool hc_7,LGet.of hx_8 rfl,hcl_16,congrArg AV.bool hc_10,trivial⟩ (by kernel_rfl) trivial ?_
   refine Ex.ret ?_
   obtain rfl:=sJ h
   exact rt (.bool false)
 ·refine yK (cD _) [(2, .rop (aE x_5)), (7, .rop (aE x_6)), (11, .eq (.bool false))] [] [8] [LGet (plan_2.map aA) a_3 2 (aE x_5), LGet (plan_2.map aA) b_4 2 (aE x_6), AV.bool (x_5.Worker == x_6.Worker) = AV.bool false] [] (mkS 44 [(0, .sl (jobs_1.map aJ) none), (1, .sl (plan_2.map aA) none), (2, i6 a_3), (3, i6 b_4), (9, .sl (plan_2.map aA) none), (10, i6 a_3), (11, .rop (aE x_5)), (12, .rop (aE x_5)), (13, i6 x_5.Worker), (14, .sl (plan_2.map aA) none), (15, i6 b_4), (16, .rop (aE x_6)), (17, .rop (aE x_6)), (18, i6 x_6.Worker), (19, .bool (x_5.Worker == x_6.Worker)), (20, .bool false), (21, .tup []), (22, .tup []), (23, .tup []), (24, .tup []), (25, .tup []), (26, .tup []), (27, .tup []), (28, .tup []), (29, .tup []), (30, .tup []), (31, .bool false), (32, .bool false), (33, .tup []), (34, .tup []), (35, .tup []), (36, .tup []), (37, .tup []), (38, .tup []), (39, .tup []), (40, .tup []), (41, .tup [])]) (mkS 44 [(8, .bool false)]) (by kernel_rfl) (by kernel_rfl) ⟨LGet.of hx_5 rfl, LGet.of hx_6 rfl, congrArg AV.bool hc_7, trivial⟩ (by kernel_rfl) trivial ?_
  refine Ex.ret ?_
  obtain rfl:=sJ h
  exact rt (.bool false)
def fD (N : Nat) (s_1 : aV) (plan_2 : (List aG)) : Option (Int):=(bif (((plan_2.length : Nat) : Int) != ((s_1.Jobs.length : Nat) : Int)) then some 1 else (letJ (fun (_ : Unit) => (letJ (fun (_ : Unit) => some 0) (fun k_14 => (loop1 (fun rec_18 (y_17 : Int) => (bif (decide (y_17 < ((plan_2.length : Nat) : Int))) then (letJ (fun (_ : Unit) => (rec_18 (IntKind.i64.wrap (y_17 + 1)))) (fun k_22 => (loop1 (fun rec_26 (y_25 : Int) => (bif (decide (y_25 < y_17)) then ((fQ N s_1.Jobs plan_2 y_17 y_25).bind fun r_30 => (bif r_30 then some 10 else (rec_26 (IntKind.i64.wrap (y_25 + 1))))) else (k_22 ()))) N 0))) else (k_14 ()))) N 0)))) (fun k_4 => (loop1 (fun rec_8 (y_7 : Int) => (bif (decide (y_7 < ((plan_2.length : Nat) : Int))) then ((eK N s_1 plan_2 y_7).bind fun r_12 => (bif (r_12 != 0) then some r_12 else (rec_8 (IntKind.i64.wrap (y_7 + 1))))) else (k_4 ()))) N 0))))
def iG (r : Int) : AV:=i6 r
attribute [local simp] iG
theorem wF (s_1 : aV) (plan_2 : (List aG)) : [(aP s_1),.sl (plan_2.map aA) none].mapM (ren []) = some [(aP s_1),.sl (plan_2.map aA) none]:=by simp
theorem vX (r : Int) (n n2 m : Nat) : back n n2 m (iG r) = some (iG r):=by simp
theorem vP (N : Nat) (s_1 : aV) (plan_2 : (List aG)) (r : Int) (h : fD N s_1 plan_2 = some r) : Does Tryz.prog 69 [(aP s_1),.sl (plan_2.map aA) none] [] fun v c => v = iG r ∧ c = []:=by
 unfold fD at h
 refine Does.ofL comp69 _ _ rfl rfl ?_
 refine Ex.seq (rg 2 [1,2] (mkS 45 [(1,.sl (plan_2.map aA) none),(2,.ptr 0 0)]) ⟨[(aH s_1)],[]⟩ ?_)
 refine Ex.seq (Ex.seq ?_)
 refine regH 6 [(1,.eq (i6 ((plan_2.length : Nat) : Int))),(4,.eq (i6 ((s_1.Jobs.length : Nat) : Int)))] [1,2,14] [AV.int .i64 (((plan_2.map aA).length : Nat) : Int) = AV.int .i64 ((plan_2.length : Nat) : Int),AV.int .i64 (((s_1.Jobs.map aJ).length : Nat) : Int) = AV.int .i64 ((s_1.Jobs.length : Nat) : Int)] (mkS 45 [(1,.sl (plan_2.map aA) none),(2,.ptr 0 0),(14,.bool (((plan_2.length : Nat) : Int) != ((s_1.Jobs.length : Nat) : Int)))]) (⟨[(aH s_1)],[]⟩) (by kernel_rfl) ⟨lenM _ _,lenM _ _,trivial⟩ rfl ?_
 rcases aU h with ⟨hc_3,h⟩ | ⟨hc_3,h⟩
 ·refine Ex.condT _ rfl hc_3 ?_
  refine Ex.seq (rg 1 [4] (mkS 45 [(4,i6 1)]) ⟨[(aH s_1)],[]⟩ ?_)
  refine Ex.ret ?_
  obtain rfl:=sJ h
  exact rt (i6 1)
 ·refine Ex.condF _ rfl hc_3 ?_
  refine Ex.skip ?_
  refine Ex.seq (Ex.seq ?_)
  refine regH 3 [(1,.eq (i6 ((plan_2.length : Nat) : Int)))] [1,2,16,17] [AV.int .i64 (((plan_2.map aA).length : Nat) : Int) = AV.int .i64 ((plan_2.length : Nat) : Int)] (mkS 45 [(1,.sl (plan_2.map aA) none),(2,.ptr 0 0),(16,i6 ((plan_2.length : Nat) : Int)),(17,i6 0)]) (⟨[(aH s_1)],[]⟩) (by kernel_rfl) ⟨lenM _ _,trivial⟩ rfl ?_
  obtain ⟨K_5,hK_6,h⟩:=letE h
  refine Ex.blockJ (fun a S => K_5 () = some r ∧ a = mkS 45 [(1,.sl (plan_2.map aA) none),(2,.ptr 0 0)] ∧ S = ⟨[(aH s_1)],[]⟩) ?_ ?_
  ·obtain ⟨B_9,hB_10,h⟩:=fW h
   refine Ex.loopF (fun k a S => ∃ (y_7 : Int),loop1 B_9 k y_7 = some r ∧ a = mkS 45 [(1,.sl (plan_2.map aA) none),(2,.ptr 0 0),(16,i6 ((plan_2.length : Nat) : Int)),(17,i6 y_7)] ∧ S = ⟨[(aH s_1)],[]⟩) N ⟨_,_,aL.refl _ _ _,0,h,rfl,rfl⟩ ?_
   rintro k a S ⟨y_7,h,rfl,rfl⟩
   cases k with
   | zero => exact (fU h).elim
   | succ k =>
    replace h:=fV h hB_10
    refine Ex.seq (rg 1 [1,2,16,17,18] (mkS 45 [(1,.sl (plan_2.map aA) none),(2,.ptr 0 0),(16,i6 ((plan_2.length : Nat) : Int)),(17,i6 y_7),(18,.bool (decide (y_7 < ((plan_2.length : Nat) : Int))))]) ⟨[(aH s_1)],[]⟩ ?_)
    refine Ex.seq ?_
    rcases aU h with ⟨hc_11,h⟩ | ⟨hc_11,h⟩
    ·refine Ex.condT _ rfl hc_11 ?_
     refine Ex.skip ?_
     refine Ex.seq ?_
     refine Ex.blockK ?_
     refine Ex.seq (rg 2 [1,2,5,16,17] (mkS 45 [(1,.sl (plan_2.map aA) none),(2,.ptr 0 0),(5,i6 y_7),(16,i6 ((plan_2.length : Nat) : Int)),(17,i6 y_7)]) ⟨[(aH s_1)],[]⟩ ?_)
     refine Ex.seq ?_
     obtain ⟨r_12,hr_12,h⟩:=bE h
     refine Ex.reg (rn 3 [1,2,16,17,20,21,22] (mkS 45 [(1,.sl (plan_2.map aA) none),(2,.ptr 0 0),(16,i6 ((plan_2.length : Nat) : Int)),(17,i6 y_7),(20,(aP s_1)),(21,.sl (plan_2.map aA) none),(22,i6 y_7)]) ⟨[(aH s_1)],[]⟩ ?_)
     refine ExO.callL [] [(aP s_1),.sl (plan_2.map aA) none,i6 y_7] rfl rfl (uT s_1 plan_2 y_7) rfl rfl (uH N s_1 plan_2 y_7 r_12 hr_12) (uN _ _ _ _) rfl ?_
     refine rn 1 [1,2,6,16,17] (mkS 45 [(1,.sl (plan_2.map aA) none),(2,.ptr 0 0),(6,i6 r_12),(16,i6 ((plan_2.length : Nat) : Int)),(17,i6 y_7)]) ⟨[(aH s_1)],[]⟩ ?_
     refine ExO.nil ?_
     refine Ex.seq (rg 2 [1,2,6,16,17,25] (mkS 45 [(1,.sl (plan_2.map aA) none),(2,.ptr 0 0),(6,i6 r_12),(16,i6 ((plan_2.length : Nat) : Int)),(17,i6 y_7),(25,.bool (r_12 != 0))]) ⟨[(aH s_1)],[]⟩ ?_)
     rcases aU h with ⟨hc_13,h⟩ | ⟨hc_13,h⟩
     ·refine Ex.condT _ rfl hc_13 ?_
      refine Ex.seq (rg 2 [4] (mkS 45 [(4,i6 r_12)]) ⟨[(aH s_1)],[]⟩ ?_)
      refine Ex.ret ?_
      obtain rfl:=sJ h
      exact rt (i6 r_12)
     ·refine Ex.condF _ rfl hc_13 ?_
      refine Ex.skip ?_
      refine rg 2 [1,2,16,17] (mkS 45 [(1,.sl (plan_2.map aA) none),(2,.ptr 0 0),(16,i6 ((plan_2.length : Nat) : Int)),(17,i6 (IntKind.i64.wrap (y_7 + 1)))]) ⟨[(aH s_1)],[]⟩ ?_
      dsimp only
      exact ⟨_,_,aL.refl _ _ _,k,Nat.lt_succ_self k,(IntKind.i64.wrap (y_7 + 1)),h,rfl,rfl⟩
    ·refine Ex.condF _ rfl hc_11 ?_
     refine Ex.exit ?_
     (try simp only [reduceCtorEq,AEx.ex.injEq,Nat.reduceEqDiff,if_true,if_false])
     exact ⟨_,_,bS [1,2],h,rfl,rfl⟩
  ·rintro a S ⟨h,rfl,rfl⟩
   subst hK_6
   refine Ex.seq (Ex.seq ?_)
   refine regH 3 [(1,.eq (i6 ((plan_2.length : Nat) : Int)))] [1,2,29,30] [AV.int .i64 (((plan_2.map aA).length : Nat) : Int) = AV.int .i64 ((plan_2.length : Nat) : Int)] (mkS 45 [(1,.sl (plan_2.map aA) none),(2,.ptr 0 0),(29,i6 ((plan_2.length : Nat) : Int)),(30,i6 0)]) (⟨[(aH s_1)],[]⟩) (by kernel_rfl) ⟨lenM _ _,trivial⟩ rfl ?_
   obtain ⟨K_15,hK_16,h⟩:=letE h
   refine Ex.blockJ (fun a S => K_15 () = some r ∧ a = mkS 45 [] ∧ S = ⟨[],[]⟩) ?_ ?_
   ·obtain ⟨B_19,hB_20,h⟩:=fW h
    refine Ex.loopF (fun k a S => ∃ (y_17 : Int),loop1 B_19 k y_17 = some r ∧ a = mkS 45 [(1,.sl (plan_2.map aA) none),(2,.ptr 0 0),(29,i6 ((plan_2.length : Nat) : Int)),(30,i6 y_17)] ∧ S = ⟨[(aH s_1)],[]⟩) N ⟨_,_,aL.refl _ _ _,0,h,rfl,rfl⟩ ?_
    rintro k a S ⟨y_17,h,rfl,rfl⟩
    cases k with
    | zero => exact (fU h).elim
    | succ k =>
     replace h:=fV h hB_20
     refine Ex.seq (rg 1 [1,2,29,30,31] (mkS 45 [(1,.sl (plan_2.map aA) none),(2,.ptr 0 0),(29,i6 ((plan_2.length : Nat) : Int)),(30,i6 y_17),(31,.bool (decide (y_17 < ((plan_2.length : Nat) : Int))))]) ⟨[(aH s_1)],[]⟩ ?_)
     refine Ex.seq ?_
     rcases aU h with ⟨hc_21,h⟩ | ⟨hc_21,h⟩
     ·refine Ex.condT _ rfl hc_21 ?_
      refine Ex.skip ?_
      refine Ex.seq ?_
      refine Ex.blockK ?_
      refine Ex.seq (rg 2 [1,2,7,29,30] (mkS 45 [(1,.sl (plan_2.map aA) none),(2,.ptr 0 0),(7,i6 y_17),(29,i6 ((plan_2.length : Nat) : Int)),(30,i6 y_17)]) ⟨[(aH s_1)],[]⟩ ?_)
      refine Ex.seq (rg 2 [1,2,7,29,30,33,34] (mkS 45 [(1,.sl (plan_2.map aA) none),(2,.ptr 0 0),(7,i6 y_17),(29,i6 ((plan_2.length : Nat) : Int)),(30,i6 y_17),(33,i6 y_17),(34,i6 0)]) ⟨[(aH s_1)],[]⟩ ?_)
      obtain ⟨K_23,hK_24,h⟩:=letE h
      refine Ex.blockJ (fun a S => K_23 () = some r ∧ a = mkS 45 [(1,.sl (plan_2.map aA) none),(2,.ptr 0 0),(29,i6 ((plan_2.length : Nat) : Int)),(30,i6 y_17)] ∧ S = ⟨[(aH s_1)],[]⟩) ?_ ?_
      ·obtain ⟨B_27,hB_28,h⟩:=fW h
       refine Ex.loopF (fun k a S => ∃ (y_25 : Int),loop1 B_27 k y_25 = some r ∧ a = mkS 45 [(1,.sl (plan_2.map aA) none),(2,.ptr 0 0),(7,i6 y_17),(29,i6 ((plan_2.length : Nat) : Int)),(30,i6 y_17),(33,i6 y_17),(34,i6 y_25)] ∧ S = ⟨[(aH s_1)],[]⟩) N ⟨_,_,aL.refl _ _ _,0,h,rfl,rfl⟩ ?_
       rintro k a S ⟨y_25,h,rfl,rfl⟩
       cases k with
       | zero => exact (fU h).elim
       | succ k =>
        replace h:=fV h hB_28
        refine Ex.seq (rg 1 [1,2,7,29,30,33,34,35] (mkS 45 [(1,.sl (plan_2.map aA) none),(2,.ptr 0 0),(7,i6 y_17),(29,i6 ((plan_2.length : Nat) : Int)),(30,i6 y_17),(33,i6 y_17),(34,i6 y_25),(35,.bool (decide (y_25 < y_17)))]) ⟨[(aH s_1)],[]⟩ ?_)
        refine Ex.seq ?_
        rcases aU h with ⟨hc_29,h⟩ | ⟨hc_29,h⟩
        ·refine Ex.condT _ rfl hc_29 ?_
         refine Ex.skip ?_
         refine Ex.seq ?_
         refine Ex.blockK ?_
         refine Ex.seq (rg 2 [1,2,7,8,29,30,33,34] (mkS 45 [(1,.sl (plan_2.map aA) none),(2,.ptr 0 0),(7,i6 y_17),(8,i6 y_25),(29,i6 ((plan_2.length : Nat) : Int)),(30,i6 y_17),(33,i6 y_17),(34,i6 y_25)]) ⟨[(aH s_1)],[]⟩ ?_)
         refine Ex.seq ?_
         obtain ⟨r_30,hr_30,h⟩:=bE h
         refine Ex.reg (rn 5 [1,2,7,29,30,33,34,38,39,40,41] (mkS 45 [(1,.sl (plan_2.map aA) none),(2,.ptr 0 0),(7,i6 y_17),(29,i6 ((plan_2.length : Nat) : Int)),(30,i6 y_17),(33,i6 y_17),(34,i6 y_25),(38,.sl (s_1.Jobs.map aJ) none),(39,.sl (plan_2.map aA) none),(40,i6 y_17),(41,i6 y_25)]) ⟨[(aH s_1)],[]⟩ ?_)
         refine ExO.callL [] [.sl (s_1.Jobs.map aJ) none,.sl (plan_2.map aA) none,i6 y_17,i6 y_25] rfl rfl (aBs s_1.Jobs plan_2 y_17 y_25) rfl rfl (aAW N s_1.Jobs plan_2 y_17 y_25 r_30 hr_30) (aBj _ _ _ _) rfl ?_
         refine rn 0 [1,2,7,29,30,33,34,42] (mkS 45 [(1,.sl (plan_2.map aA) none),(2,.ptr 0 0),(7,i6 y_17),(29,i6 ((plan_2.length : Nat) : Int)),(30,i6 y_17),(33,i6 y_17),(34,i6 y_25),(42,.bool r_30)]) ⟨[(aH s_1)],[]⟩ ?_
         refine ExO.nil ?_
         rcases aU h with ⟨hc_31,h⟩ | ⟨hc_31,h⟩
         ·refine Ex.condT _ rfl hc_31 ?_
          refine Ex.seq (rg 1 [4] (mkS 45 [(4,i6 10)]) ⟨[(aH s_1)],[]⟩ ?_)
          refine Ex.ret ?_
          obtain rfl:=sJ h
          exact rt (i6 10)
         ·refine Ex.condF _ rfl hc_31 ?_
          refine Ex.skip ?_
          refine rg 2 [1,2,7,29,30,33,34] (mkS 45 [(1,.sl (plan_2.map aA) none),(2,.ptr 0 0),(7,i6 y_17),(29,i6 ((plan_2.length : Nat) : Int)),(30,i6 y_17),(33,i6 y_17),(34,i6 (IntKind.i64.wrap (y_25 + 1)))]) ⟨[(aH s_1)],[]⟩ ?_
          dsimp only
          exact ⟨_,_,aL.refl _ _ _,k,Nat.lt_succ_self k,(IntKind.i64.wrap (y_25 + 1)),h,rfl,rfl⟩
        ·refine Ex.condF _ rfl hc_29 ?_
         refine Ex.exit ?_
         (try simp only [reduceCtorEq,AEx.ex.injEq,Nat.reduceEqDiff,if_true,if_false])
         exact ⟨_,_,bS [1,2,29,30],h,rfl,rfl⟩
      ·rintro a S ⟨h,rfl,rfl⟩
       subst hK_24
       refine rg 2 [1,2,29,30] (mkS 45 [(1,.sl (plan_2.map aA) none),(2,.ptr 0 0),(29,i6 ((plan_2.length : Nat) : Int)),(30,i6 (IntKind.i64.wrap (y_17 + 1)))]) ⟨[(aH s_1)],[]⟩ ?_
       dsimp only
       exact ⟨_,_,aL.refl _ _ _,k,Nat.lt_succ_self k,(IntKind.i64.wrap (y_17 + 1)),h,rfl,rfl⟩
     ·refine Ex.condF _ rfl hc_21 ?_
      refine Ex.exit ?_
      (try simp only [reduceCtorEq,AEx.ex.injEq,Nat.reduceEqDiff,if_true,if_false])
      exact ⟨_,_,bU (m:=45) 0 [] [] [] [] (by simp [bH]) (by simp) trivial (by simp) rfl (by decide),h,rfl,rfl⟩
   ·rintro a S ⟨h,rfl,rfl⟩
    subst hK_16
    refine Ex.seq (rg 1 [4] (mkS 45 [(4,i6 0)]) ⟨[],[]⟩ ?_)
    refine Ex.ret ?_
    obtain rfl:=sJ h
    exact rt (i6 0)
def gN (N : Nat) (jobs_1 : (List bR)) (plan_2 : (List aG)) : Option (Int):=(letJ (fun (days_3 : Int) => some days_3) (fun k_4 => (loop2 (fun rec_9 (days_7 : Int) (y_8 : Int) => (bif (decide (y_8 < ((jobs_1.length : Nat) : Int))) then ((eF N jobs_1 plan_2 y_8).bind fun r_13 => (rec_9 (if r_13 > days_7 then r_13 else days_7) (IntKind.i64.wrap (y_8 + 1)))) else (k_4 days_7))) N 0 0)))
def mC (r : Int) : AV:=i6 r
attribute [local simp] mC
theorem aBr (jobs_1 : (List bR)) (plan_2 : (List aG)) : [.sl (jobs_1.map aJ) none,.sl (plan_2.map aA) none].mapM (ren []) = some [.sl (jobs_1.map aJ) none,.sl (plan_2.map aA) none]:=by simp
theorem aBi (r : Int) (n n2 m : Nat) : back n n2 m (mC r) = some (mC r):=by simp
theorem uE (N : Nat) (jobs_1 : (List bR)) (plan_2 : (List aG)) (r : Int) (h : gN N jobs_1 plan_2 = some r) : Does Tryz.prog 70 [.sl (jobs_1.map aJ) none,.sl (plan_2.map aA) none] [] fun v c => v = mC r ∧ c = []:=by
 unfold gN at h
 refine Does.ofL comp70 _ _ rfl rfl ?_
 refine Ex.seq (rg 1 [0,1] (mkS 20 [(0,.sl (jobs_1.map aJ) none),(1,.sl (plan_2.map aA) none)]) ⟨[],[]⟩ ?_)
 refine Ex.seq (rg 1 [0,1,5] (mkS 20 [(0,.sl (jobs_1.map aJ) none),(1,.sl (plan_2.map aA) none),(5,i6 0)]) ⟨[],[]⟩ ?_)
 refine Ex.seq (Ex.seq ?_)
 refine regH 3 [(1,.eq (i6 ((jobs_1.length : Nat) : Int)))] [0,1,5,8,9] [AV.int .i64 (((jobs_1.map aJ).length : Nat) : Int) = AV.int .i64 ((jobs_1.length : Nat) : Int)] (mkS 20 [(0,.sl (jobs_1.map aJ) none),(1,.sl (plan_2.map aA) none),(5,i6 0),(8,i6 ((jobs_1.length : Nat) : Int)),(9,i6 0)]) (⟨[],[]⟩) (by kernel_rfl) ⟨lenM _ _,trivial⟩ rfl ?_
 obtain ⟨K_5,hK_6,h⟩:=letE h
 refine Ex.blockJ (fun a S => ∃ (days_3 : Int),K_5 days_3 = some r ∧ a = mkS 20 [(5,i6 days_3)] ∧ S = ⟨[],[]⟩) ?_ ?_
 ·obtain ⟨B_10,hB_11,h⟩:=kD h
  refine Ex.loopF (fun k a S => ∃ (days_7 : Int),∃ (y_8 : Int),loop2 B_10 k days_7 y_8 = some r ∧ a = mkS 20 [(0,.sl (jobs_1.map aJ) none),(1,.sl (plan_2.map aA) none),(5,i6 days_7),(8,i6 ((jobs_1.length : Nat) : Int)),(9,i6 y_8)] ∧ S = ⟨[],[]⟩) N ⟨_,_,aL.refl _ _ _,0,0,h,rfl,rfl⟩ ?_
  rintro k a S ⟨days_7,y_8,h,rfl,rfl⟩
  cases k with
  | zero => exact (kB h).elim
  | succ k =>
   replace h:=kC h hB_11
   refine Ex.seq (rg 1 [0,1,5,8,9,10] (mkS 20 [(0,.sl (jobs_1.map aJ) none),(1,.sl (plan_2.map aA) none),(5,i6 days_7),(8,i6 ((jobs_1.length : Nat) : Int)),(9,i6 y_8),(10,.bool (decide (y_8 < ((jobs_1.length : Nat) : Int))))]) ⟨[],[]⟩ ?_)
   refine Ex.seq ?_
   rcases aU h with ⟨hc_12,h⟩ | ⟨hc_12,h⟩
   ·refine Ex.condT _ rfl hc_12 ?_
    refine Ex.skip ?_
    refine Ex.seq ?_
    refine Ex.blockK ?_
    refine Ex.seq (rg 2 [0,1,5,6,8,9] (mkS 20 [(0,.sl (jobs_1.map aJ) none),(1,.sl (plan_2.map aA) none),(5,i6 days_7),(6,i6 y_8),(8,i6 ((jobs_1.length : Nat) : Int)),(9,i6 y_8)]) ⟨[],[]⟩ ?_)
    obtain ⟨r_13,hr_13,h⟩:=bE h
    refine Ex.reg (rn 4 [0,1,8,9,12,13,14,15] (mkS 20 [(0,.sl (jobs_1.map aJ) none),(1,.sl (plan_2.map aA) none),(8,i6 ((jobs_1.length : Nat) : Int)),(9,i6 y_8),(12,i6 days_7),(13,.sl (jobs_1.map aJ) none),(14,.sl (plan_2.map aA) none),(15,i6 y_8)]) ⟨[],[]⟩ ?_)
    refine ExO.callL [] [.sl (jobs_1.map aJ) none,.sl (plan_2.map aA) none,i6 y_8] rfl rfl (aDl jobs_1 plan_2 y_8) rfl rfl (jJ N jobs_1 plan_2 y_8 r_13 hr_13) (nF _ _ _ _) rfl ?_
    refine rn 2 [0,1,5,8,9] (mkS 20 [(0,.sl (jobs_1.map aJ) none),(1,.sl (plan_2.map aA) none),(5,i6 (if r_13 > days_7 then r_13 else days_7)),(8,i6 ((jobs_1.length : Nat) : Int)),(9,i6 y_8)]) ⟨[],[]⟩ ?_
    refine ExO.nil ?_
    refine rg 2 [0,1,5,8,9] (mkS 20 [(0,.sl (jobs_1.map aJ) none),(1,.sl (plan_2.map aA) none),(5,i6 (if r_13 > days_7 then r_13 else days_7)),(8,i6 ((jobs_1.length : Nat) : Int)),(9,i6 (IntKind.i64.wrap (y_8 + 1)))]) ⟨[],[]⟩ ?_
    dsimp only
    exact ⟨_,_,aL.refl _ _ _,k,Nat.lt_succ_self k,(if r_13 > days_7 then r_13 else days_7),(IntKind.i64.wrap (y_8 + 1)),h,rfl,rfl⟩
   ·refine Ex.condF _ rfl hc_12 ?_
    refine Ex.exit ?_
    (try simp only [reduceCtorEq,AEx.ex.injEq,Nat.reduceEqDiff,if_true,if_false])
    exact ⟨_,_,bS [5],days_7,h,rfl,rfl⟩
 ·rintro a S ⟨days_3,h,rfl,rfl⟩
  subst hK_6
  refine Ex.seq (rg 2 [4] (mkS 20 [(4,i6 days_3)]) ⟨[],[]⟩ ?_)
  refine Ex.ret ?_
  obtain rfl:=sJ h
  exact rt (i6 days_3)
def gP (N : Nat) (s_1 : aV) (plan_2 : (List aG)) : Option (Int × Int):=((iL N s_1).bind fun r_3 => (bif (r_3 != 0) then some (0,r_3) else ((fD N s_1 plan_2).bind fun r_5 => (bif (r_5 != 0) then some (0,r_5) else ((gN N s_1.Jobs plan_2).bind fun r_7 => some (r_7,0))))))
def mE (r : Int × Int) : AV:=.tup [i6 r.1,i6 r.2]
attribute [local simp] mE
theorem aBt (s_1 : aV) (plan_2 : (List aG)) : [(aP s_1),.sl (plan_2.map aA) none].mapM (ren []) = some [(aP s_1),.sl (plan_2.map aA) none]:=by simp
theorem aBk (r : Int × Int) (n n2 m : Nat) : back n n2 m (mE r) = some (mE r):=by simp
theorem aAX (N : Nat) (s_1 : aV) (plan_2 : (List aG)) (r : Int × Int) (h : gP N s_1 plan_2 = some r) : Does Tryz.prog 30 [(aP s_1),.sl (plan_2.map aA) none] [] fun v c => v = mE r ∧ c = []:=by
 unfold gP at h
 refine Does.ofL comp30 _ _ rfl rfl ?_
 refine Ex.seq (rg 3 [1,2] (mkS 23 [(1,.sl (plan_2.map aA) none),(2,.ptr 0 0)]) ⟨[(aH s_1)],[]⟩ ?_)
 refine Ex.seq (Ex.seq ?_)
 obtain ⟨r_3,hr_3,h⟩:=bE h
 refine Ex.reg (rn 1 [1,2,8] (mkS 23 [(1,.sl (plan_2.map aA) none),(2,.ptr 0 0),(8,(aP s_1))]) ⟨[(aH s_1)],[]⟩ ?_)
 refine ExO.callL [] [(aP s_1)] rfl rfl (uU s_1) rfl rfl (uI N s_1 r_3 hr_3) (uO _ _ _ _) rfl ?_
 refine rn 1 [1,2,6] (mkS 23 [(1,.sl (plan_2.map aA) none),(2,.ptr 0 0),(6,i6 r_3)]) ⟨[(aH s_1)],[]⟩ ?_
 refine ExO.nil ?_
 refine Ex.seq (rg 2 [1,2,6,11] (mkS 23 [(1,.sl (plan_2.map aA) none),(2,.ptr 0 0),(6,i6 r_3),(11,.bool (r_3 != 0))]) ⟨[(aH s_1)],[]⟩ ?_)
 rcases aU h with ⟨hc_4,h⟩ | ⟨hc_4,h⟩
 ·refine Ex.condT _ rfl hc_4 ?_
  refine Ex.seq (rg 3 [4,5] (mkS 23 [(4,i6 0),(5,i6 r_3)]) ⟨[(aH s_1)],[]⟩ ?_)
  refine Ex.ret ?_
  obtain rfl:=sJ h
  exact rt (.tup [i6 0,i6 r_3])
 ·refine Ex.condF _ rfl hc_4 ?_
  refine Ex.skip ?_
  refine Ex.seq (Ex.seq ?_)
  obtain ⟨r_5,hr_5,h⟩:=bE h
  refine Ex.reg (rn 2 [1,2,13,14] (mkS 23 [(1,.sl (plan_2.map aA) none),(2,.ptr 0 0),(13,(aP s_1)),(14,.sl (plan_2.map aA) none)]) ⟨[(aH s_1)],[]⟩ ?_)
  refine ExO.callL [] [(aP s_1),.sl (plan_2.map aA) none] rfl rfl (wF s_1 plan_2) rfl rfl (vP N s_1 plan_2 r_5 hr_5) (vX _ _ _ _) rfl ?_
  refine rn 1 [1,2,7] (mkS 23 [(1,.sl (plan_2.map aA) none),(2,.ptr 0 0),(7,i6 r_5)]) ⟨[(aH s_1)],[]⟩ ?_
  refine ExO.nil ?_
  refine Ex.seq (rg 2 [1,2,7,17] (mkS 23 [(1,.sl (plan_2.map aA) none),(2,.ptr 0 0),(7,i6 r_5),(17,.bool (r_5 != 0))]) ⟨[(aH s_1)],[]⟩ ?_)
  rcases aU h with ⟨hc_6,h⟩ | ⟨hc_6,h⟩
  ·refine Ex.condT _ rfl hc_6 ?_
   refine Ex.seq (rg 3 [4,5] (mkS 23 [(4,i6 0),(5,i6 r_5)]) ⟨[(aH s_1)],[]⟩ ?_)
   refine Ex.ret ?_
   obtain rfl:=sJ h
   exact rt (.tup [i6 0,i6 r_5])
  ·refine Ex.condF _ rfl hc_6 ?_
   refine Ex.skip ?_
   refine Ex.seq ?_
   obtain ⟨r_7,hr_7,h⟩:=bE h
   refine Ex.reg (rn 3 [20,21] (mkS 23 [(20,.sl (s_1.Jobs.map aJ) none),(21,.sl (plan_2.map aA) none)]) ⟨[(aH s_1)],[]⟩ ?_)
   refine ExO.callL [] [.sl (s_1.Jobs.map aJ) none,.sl (plan_2.map aA) none] rfl rfl (aBr s_1.Jobs plan_2) rfl rfl (uE N s_1.Jobs plan_2 r_7 hr_7) (aBi _ _ _ _) rfl ?_
   refine rn 2 [4,5] (mkS 23 [(4,i6 r_7),(5,i6 0)]) ⟨[(aH s_1)],[]⟩ ?_
   refine ExO.nil ?_
   refine Ex.ret ?_
   obtain rfl:=sJ h
   exact rt (.tup [i6 r_7,i6 0])
def dJ (N : Nat) (s_1 : aV) (some_2 : Int) : Option ((List Int)):=(letJ (fun (able_3 : List Int) => some able_3) (fun k_4 => (loop2 (fun rec_9 (able_7 : List Int) (y_8 : Int) => (bif (decide (y_8 < ((s_1.Workers.length : Nat) : Int))) then (letJ (fun (able_13 : List Int) => (rec_9 able_13 (IntKind.i64.wrap (y_8 + 1)))) (fun k_14 => ((getI s_1.Workers y_8).bind fun x_17 => ((iU N x_17 some_2).bind fun r_18 => (bif r_18 then ((lN able_7 ([y_8] : List Int)).bind fun l_20 => (k_14 l_20)) else (k_14 able_7)))))) else (k_4 able_7))) N [] 0)))
def dH (r : (List Int)) : AV:=.sl (r.map (AV.int .i64)) none
attribute [local simp] dH
theorem nI (s_1 : aV) (some_2 : Int) : [(aP s_1),.int .u8 some_2].mapM (ren []) = some [(aP s_1),.int .u8 some_2]:=by simp
theorem jM (r : (List Int)) (n n2 m : Nat) : back n n2 m (dH r) = some (dH r):=by simp
theorem jI (N : Nat) (s_1 : aV) (some_2 : Int) (r : (List Int)) (h : dJ N s_1 some_2 = some r) : Does Tryz.prog 84 [(aP s_1),.int .u8 some_2] [] fun v c => v = dH r ∧ c = []:=by
 unfold dJ at h
 refine Does.ofL comp84 _ _ rfl rfl ?_
 refine Ex.seq (rg 2 [1,2] (mkS 25 [(1,.int .u8 some_2),(2,.ptr 0 0)]) ⟨[(aH s_1)],[]⟩ ?_)
 refine Ex.seq (rg 1 [1,2,5] (mkS 25 [(1,.int .u8 some_2),(2,.ptr 0 0),(5,.nils)]) ⟨[(aH s_1)],[]⟩ ?_)
 refine Ex.seq (Ex.seq ?_)
 refine regH 4 [(2,.eq (i6 ((s_1.Workers.length : Nat) : Int)))] [1,5,9,10,11] [AV.int .i64 (((s_1.Workers.map aN).length : Nat) : Int) = AV.int .i64 ((s_1.Workers.length : Nat) : Int)] (mkS 25 [(1,.int .u8 some_2),(5,.nils),(9,.sl (s_1.Workers.map aN) none),(10,i6 ((s_1.Workers.length : Nat) : Int)),(11,i6 0)]) (⟨[(aH s_1)],[]⟩) (by kernel_rfl) ⟨lenM _ _,trivial⟩ rfl ?_
 obtain ⟨K_5,hK_6,h⟩:=letE h
 refine Ex.blockJ (fun a S => ∃ (able_3 : List Int),K_5 able_3 = some r ∧ a = mkS 25 [(5,.sl (able_3.map (AV.int .i64)) (some 0))] ∧ S = ⟨[],[(able_3.length,1)]⟩) ?_ ?_
 ·refine Ex.forget (nilK 5 1 rfl) ?_
  refine Ex.castA (a2:=mkS 25 [(1,.int .u8 some_2),(5,.sl (([] : List Int).map (AV.int .i64)) (some 0)),(9,.sl (s_1.Workers.map aN) none),(10,i6 ((s_1.Workers.length : Nat) : Int)),(11,i6 0)]) (S2:=⟨[(aH s_1)],[(0,1)]⟩) (by kernel_rfl) (by kernel_rfl) ?_
  obtain ⟨B_10,hB_11,h⟩:=kD h
  refine Ex.loopF (fun k a S => ∃ (able_7 : List Int),∃ (y_8 : Int),loop2 B_10 k able_7 y_8 = some r ∧ a = mkS 25 [(1,.int .u8 some_2),(5,.sl (able_7.map (AV.int .i64)) (some 0)),(9,.sl (s_1.Workers.map aN) none),(10,i6 ((s_1.Workers.length : Nat) : Int)),(11,i6 y_8)] ∧ S = ⟨[],[(able_7.length,1)]⟩) N ⟨_,_,bU (m:=25) 0 [0] [(1,.int .u8 some_2),(5,.sl (([] : List Int).map (AV.int .i64)) (some 0)),(9,.sl (s_1.Workers.map aN) none),(10,i6 ((s_1.Workers.length : Nat) : Int)),(11,i6 0)] [] [(0,1)] (by simp [bH]) (by simp) ⟨rfl,(reT (fG _ _) rfl),(reN (cV _)),rfl,rfl,trivial⟩ (by simp) rfl (by decide),[],0,h,rfl,rfl⟩ ?_
  rintro k a S ⟨able_7,y_8,h,rfl,rfl⟩
  cases k with
  | zero => exact (kB h).elim
  | succ k =>
   replace h:=kC h hB_11
   refine Ex.seq (rg 1 [1,5,9,10,11,12] (mkS 25 [(1,.int .u8 some_2),(5,.sl (able_7.map (AV.int .i64)) (some 0)),(9,.sl (s_1.Workers.map aN) none),(10,i6 ((s_1.Workers.length : Nat) : Int)),(11,i6 y_8),(12,.bool (decide (y_8 < ((s_1.Workers.length : Nat) : Int))))]) ⟨[],[(able_7.length,1)]⟩ ?_)
   refine Ex.seq ?_
   rcases aU h with ⟨hc_12,h⟩ | ⟨hc_12,h⟩
   ·refine Ex.condT _ rfl hc_12 ?_
    refine Ex.skip ?_
    refine Ex.seq ?_
    obtain ⟨K_15,hK_16,h⟩:=letE h
    refine Ex.blockJ (fun a S => ∃ (able_13 : List Int),K_15 able_13 = some r ∧ a = mkS 25 [(1,.int .u8 some_2),(5,.sl (able_13.map (AV.int .i64)) (some 0)),(9,.sl (s_1.Workers.map aN) none),(10,i6 ((s_1.Workers.length : Nat) : Int)),(11,i6 y_8)] ∧ S = ⟨[],[(able_13.length,1)]⟩) ?_ ?_
    ·refine Ex.seq ?_
     obtain ⟨x_17,hx_17,h⟩:=bE h
     refine regH 6 [(1,.rop (aX x_17))] [1,5,6,7,9,10,11] [LGet (s_1.Workers.map aN) y_8 3 (aX x_17)] (mkS 25 [(1,.int .u8 some_2),(5,.sl (able_7.map (AV.int .i64)) (some 0)),(6,i6 y_8),(7,.ptr 0 0),(9,.sl (s_1.Workers.map aN) none),(10,i6 ((s_1.Workers.length : Nat) : Int)),(11,i6 y_8)]) (⟨[(aX x_17)],[(able_7.length,1)]⟩) (by kernel_rfl) ⟨LGet.of hx_17 rfl,trivial⟩ rfl ?_
     refine Ex.seq ?_
     obtain ⟨r_18,hr_18,h⟩:=bE h
     refine Ex.reg (rn 2 [1,5,6,9,10,11,16,17] (mkS 25 [(1,.int .u8 some_2),(5,.sl (able_7.map (AV.int .i64)) (some 0)),(6,i6 y_8),(9,.sl (s_1.Workers.map aN) none),(10,i6 ((s_1.Workers.length : Nat) : Int)),(11,i6 y_8),(16,(aN x_17)),(17,.int .u8 some_2)]) ⟨[(aX x_17)],[(able_7.length,1)]⟩ ?_)
     refine ExO.callL [] [(aN x_17),.int .u8 some_2] rfl rfl (sV x_17 some_2) rfl rfl (sP N x_17 some_2 r_18 hr_18) (sS _ _ _ _) rfl ?_
     refine rn 0 [1,5,6,9,10,11,18] (mkS 25 [(1,.int .u8 some_2),(5,.sl (able_7.map (AV.int .i64)) (some 0)),(6,i6 y_8),(9,.sl (s_1.Workers.map aN) none),(10,i6 ((s_1.Workers.length : Nat) : Int)),(11,i6 y_8),(18,.bool r_18)]) ⟨[(aX x_17)],[(able_7.length,1)]⟩ ?_
     refine ExO.nil ?_
     rcases aU h with ⟨hc_19,h⟩ | ⟨hc_19,h⟩
     ·refine Ex.condT _ rfl hc_19 ?_
      obtain ⟨l_20,hl_20,h⟩:=bE h
      refine regH 5 [(3,.app (l_20.map (AV.int .i64)) l_20.length)] [1,5,9,10,11] [LApp able_7.length (able_7.map (AV.int .i64)) (([y_8] : List Int).map (AV.int .i64)) 1 (l_20.map (AV.int .i64)) l_20.length] (mkS 25 [(1,.int .u8 some_2),(5,.sl (l_20.map (AV.int .i64)) (some 0)),(9,.sl (s_1.Workers.map aN) none),(10,i6 ((s_1.Workers.length : Nat) : Int)),(11,i6 y_8)]) (⟨[(aX x_17)],[(l_20.length,1),(1,1)]⟩) (by kernel_rfl) ⟨LApp.of hl_20 (fun _ => rfl),trivial⟩ rfl ?_
      (try simp only [reduceCtorEq,AEx.ex.injEq,Nat.reduceEqDiff,if_true,if_false])
      exact ⟨_,_,bU (m:=25) 0 [0] [(1,.int .u8 some_2),(5,.sl (l_20.map (AV.int .i64)) (some 0)),(9,.sl (s_1.Workers.map aN) none),(10,i6 ((s_1.Workers.length : Nat) : Int)),(11,i6 y_8)] [] [(l_20.length,1)] (by simp [bH]) (by simp) ⟨rfl,(reT (fG _ _) rfl),(reN (cV _)),rfl,rfl,trivial⟩ (by simp) rfl (by decide),l_20,h,rfl,rfl⟩
     ·refine Ex.condF _ rfl hc_19 ?_
      refine Ex.skip ?_
      (try simp only [reduceCtorEq,AEx.ex.injEq,Nat.reduceEqDiff,if_true,if_false])
      exact ⟨_,_,bU (m:=25) 0 [0] [(1,.int .u8 some_2),(5,.sl (able_7.map (AV.int .i64)) (some 0)),(9,.sl (s_1.Workers.map aN) none),(10,i6 ((s_1.Workers.length : Nat) : Int)),(11,i6 y_8)] [] [(able_7.length,1)] (by simp [bH]) (by simp) ⟨rfl,(reT (fG _ _) rfl),(reN (cV _)),rfl,rfl,trivial⟩ (by simp) rfl (by decide),able_7,h,rfl,rfl⟩
    ·rintro a S ⟨able_13,h,rfl,rfl⟩
     subst hK_16
     refine rg 2 [1,5,9,10,11] (mkS 25 [(1,.int .u8 some_2),(5,.sl (able_13.map (AV.int .i64)) (some 0)),(9,.sl (s_1.Workers.map aN) none),(10,i6 ((s_1.Workers.length : Nat) : Int)),(11,i6 (IntKind.i64.wrap (y_8 + 1)))]) ⟨[],[(able_13.length,1)]⟩ ?_
     dsimp only
     exact ⟨_,_,aL.refl _ _ _,k,Nat.lt_succ_self k,able_13,(IntKind.i64.wrap (y_8 + 1)),h,rfl,rfl⟩
   ·refine Ex.condF _ rfl hc_12 ?_
    refine Ex.exit ?_
    (try simp only [reduceCtorEq,AEx.ex.injEq,Nat.reduceEqDiff,if_true,if_false])
    exact ⟨_,_,bS [5],able_7,h,rfl,rfl⟩
 ·rintro a S ⟨able_3,h,rfl,rfl⟩
  subst hK_6
  refine Ex.seq (rg 2 [4] (mkS 25 [(4,.sl (able_3.map (AV.int .i64)) (some 0))]) ⟨[],[(able_3.length,1)]⟩ ?_)
  refine Ex.ret ?_
  obtain rfl:=sJ h
  exact rt (.sl (able_3.map (AV.int .i64)) (some 0))
def dL (N : Nat) (s_1 : aV) : Option (Int):=((iL N s_1).bind fun r_2 => (bif (r_2 != 0) then some r_2 else (letJ (fun (_ : Unit) => some 0) (fun k_4 => (loop1 (fun rec_8 (y_7 : Int) => (bif (decide (y_7 < ((s_1.Jobs.length : Nat) : Int))) then ((getI s_1.Jobs y_7).bind fun x_12 => ((idxI x_12.Skill 4).bind fun u_13 => ((([0,1,2,4] : List Int)[Int.toNat x_12.Skill]?).bind fun x_14 => ((dJ N s_1 x_14).bind fun r_15 => (bif (((r_15.length : Nat) : Int) == 0) then some 7 else (rec_8 (IntKind.i64.wrap (y_7 + 1)))))))) else (k_4 ()))) N 0)))))
def gJ (r : Int) : AV:=i6 r
attribute [local simp] gJ
theorem nJ (s_1 : aV) : [(aP s_1)].mapM (ren []) = some [(aP s_1)]:=by simp
theorem nG (r : Int) (n n2 m : Nat) : back n n2 m (gJ r) = some (gJ r):=by simp
theorem nB (N : Nat) (s_1 : aV) (r : Int) (h : dL N s_1 = some r) : Does Tryz.prog 62 [(aP s_1)] [] fun v c => v = gJ r ∧ c = []:=by
 unfold dL at h
 refine Does.ofL comp62 _ _ rfl rfl ?_
 refine Ex.seq (rg 2 [1] (mkS 27 [(1,.ptr 0 0)]) ⟨[(aH s_1)],[]⟩ ?_)
 refine Ex.seq (Ex.seq ?_)
 obtain ⟨r_2,hr_2,h⟩:=bE h
 refine Ex.reg (rn 1 [1,6] (mkS 27 [(1,.ptr 0 0),(6,(aP s_1))]) ⟨[(aH s_1)],[]⟩ ?_)
 refine ExO.callL [] [(aP s_1)] rfl rfl (uU s_1) rfl rfl (uI N s_1 r_2 hr_2) (uO _ _ _ _) rfl ?_
 refine rn 1 [1,3] (mkS 27 [(1,.ptr 0 0),(3,i6 r_2)]) ⟨[(aH s_1)],[]⟩ ?_
 refine ExO.nil ?_
 refine Ex.seq (rg 2 [1,3,9] (mkS 27 [(1,.ptr 0 0),(3,i6 r_2),(9,.bool (r_2 != 0))]) ⟨[(aH s_1)],[]⟩ ?_)
 rcases aU h with ⟨hc_3,h⟩ | ⟨hc_3,h⟩
 ·refine Ex.condT _ rfl hc_3 ?_
  refine Ex.seq (rg 2 [2] (mkS 27 [(2,i6 r_2)]) ⟨[(aH s_1)],[]⟩ ?_)
  refine Ex.ret ?_
  obtain rfl:=sJ h
  exact rt (i6 r_2)
 ·refine Ex.condF _ rfl hc_3 ?_
  refine Ex.skip ?_
  refine Ex.seq (Ex.seq ?_)
  refine regH 4 [(2,.eq (i6 ((s_1.Jobs.length : Nat) : Int)))] [1,12,13,14] [AV.int .i64 (((s_1.Jobs.map aJ).length : Nat) : Int) = AV.int .i64 ((s_1.Jobs.length : Nat) : Int)] (mkS 27 [(1,.ptr 0 0),(12,.sl (s_1.Jobs.map aJ) none),(13,i6 ((s_1.Jobs.length : Nat) : Int)),(14,i6 0)]) (⟨[(aH s_1)],[]⟩) (by kernel_rfl) ⟨lenM _ _,trivial⟩ rfl ?_
  obtain ⟨K_5,hK_6,h⟩:=letE h
  refine Ex.blockJ (fun a S => K_5 () = some r ∧ a = mkS 27 [] ∧ S = ⟨[],[]⟩) ?_ ?_
  ·obtain ⟨B_9,hB_10,h⟩:=fW h
   refine Ex.loopF (fun k a S => ∃ (y_7 : Int),loop1 B_9 k y_7 = some r ∧ a = mkS 27 [(1,.ptr 0 0),(12,.sl (s_1.Jobs.map aJ) none),(13,i6 ((s_1.Jobs.length : Nat) : Int)),(14,i6 y_7)] ∧ S = ⟨[(aH s_1)],[]⟩) N ⟨_,_,aL.refl _ _ _,0,h,rfl,rfl⟩ ?_
   rintro k a S ⟨y_7,h,rfl,rfl⟩
   cases k with
   | zero => exact (fU h).elim
   | succ k =>
    replace h:=fV h hB_10
    refine Ex.seq (rg 1 [1,12,13,14,15] (mkS 27 [(1,.ptr 0 0),(12,.sl (s_1.Jobs.map aJ) none),(13,i6 ((s_1.Jobs.length : Nat) : Int)),(14,i6 y_7),(15,.bool (decide (y_7 < ((s_1.Jobs.length : Nat) : Int))))]) ⟨[(aH s_1)],[]⟩ ?_)
    refine Ex.seq ?_
    rcases aU h with ⟨hc_11,h⟩ | ⟨hc_11,h⟩
    ·refine Ex.condT _ rfl hc_11 ?_
     refine Ex.skip ?_
     refine Ex.seq ?_
     refine Ex.blockK ?_
     refine Ex.seq ?_
     obtain ⟨x_12,hx_12,h⟩:=bE h
     refine regH 4 [(0,.rop (aY x_12))] [1,5,12,13,14] [LGet (s_1.Jobs.map aJ) y_7 3 (aY x_12)] (mkS 27 [(1,.ptr 0 0),(5,.ptr 1 0),(12,.sl (s_1.Jobs.map aJ) none),(13,i6 ((s_1.Jobs.length : Nat) : Int)),(14,i6 y_7)]) (⟨[(aH s_1),(aY x_12)],[]⟩) (by kernel_rfl) ⟨LGet.of hx_12 rfl,trivial⟩ rfl ?_
     refine Ex.seq ?_
     obtain ⟨u_13,hu_13,h⟩:=bE h
     obtain ⟨x_14,hx_14,h⟩:=bE h
     refine Ex.drawE (a1:=mkS 27 [(1,.ptr 0 0),(5,.ptr 1 0),(12,.sl (s_1.Jobs.map aJ) none),(13,i6 ((s_1.Jobs.length : Nat) : Int)),(14,i6 y_7),(18,(aP s_1)),(19,.ptr 1 1),(20,i6 x_12.Skill),(21,.rop (((([0,1,2,4] : List Int).map (AV.int .u8)).drop (Int.toNat x_12.Skill * 1)).take 1)),(22,.int .u8 x_14)]) (cD _) [] [] [] ?_ ?_
     ·refine drS [0, 1] 5 [(3, .adr), (4, .ld (.int .u8 x_14))] [0 ≤ x_12.Skill ∧ x_12.Skill < ((4 : Nat) : Int) ∧ Int.toNat x_12.Skill * 1 ≤ (([0, 1, 2, 4] : List Int).map (AV.int .u8)).length, bK (((([0, 1, 2, 4] : List Int).map (AV.int .u8)).drop (Int.toNat x_12.Skill * 1)).take 1) 0 none = some (.int .u8 x_14)] (mkS 27 [(1, .ptr 0 0), (5, .ptr 1 0), (12, .sl (s_1.Jobs.map aJ) none), (13, i6 ((s_1.Jobs.length : Nat) : Int)), (14, i6 y_7), (18, (aP s_1)), (19, .ptr 1 1), (20, i6 x_12.Skill), (21, .rop (((([0, 1, 2, 4] : List Int).map (AV.int .u8)).drop (Int.toNat x_12.Skill * 1)).take 1)), (22, .int .u8 x_14)]) (by simp) (by kernel_rfl) ⟨adrT ([0, 1, 2, 4] : List Int) .u8 hu_13 (by decide), yC ([0, 1, 2, 4] : List Int) .u8 hx_14, trivial⟩ (by kernel_rfl) ?_
      exact DrO.nil rfl
     ·dsimp only [List.getLastD_cons,List.getLastD_nil]
      obtain ⟨r_15,hr_15,h⟩:=bE h
      refine ExO.callL [] [(aP s_1),.int .u8 x_14] rfl rfl (nI s_1 x_14) rfl rfl (jI N s_1 x_14 r_15 hr_15) (jM _ _ _ _) rfl ?_
      refine runH 2 [(0,.eq (i6 ((r_15.length : Nat) : Int)))] [1,12,13,14,25] [AV.int .i64 (((r_15.map (AV.int .i64)).length : Nat) : Int) = AV.int .i64 ((r_15.length : Nat) : Int)] (mkS 27 [(1,.ptr 0 0),(12,.sl (s_1.Jobs.map aJ) none),(13,i6 ((s_1.Jobs.length : Nat) : Int)),(14,i6 y_7),(25,.bool (((r_15.length : Nat) : Int) == 0))]) (⟨[(aH s_1),(aY x_12)],[]⟩) (by kernel_rfl) ⟨lenM _ _,trivial⟩ ?_
      refine ExO.nil ?_
      rcases aU h with ⟨hc_16,h⟩ | ⟨hc_16,h⟩
      ·refine Ex.condT _ rfl hc_16 ?_
       refine Ex.seq (rg 1 [2] (mkS 27 [(2,i6 7)]) ⟨[(aH s_1),(aY x_12)],[]⟩ ?_)
       refine Ex.ret ?_
       obtain rfl:=sJ h
       exact rt (i6 7)
      ·refine Ex.condF _ rfl hc_16 ?_
       refine Ex.skip ?_
       refine rg 2 [1,12,13,14] (mkS 27 [(1,.ptr 0 0),(12,.sl (s_1.Jobs.map aJ) none),(13,i6 ((s_1.Jobs.length : Nat) : Int)),(14,i6 (IntKind.i64.wrap (y_7 + 1)))]) ⟨[(aH s_1),(aY x_12)],[]⟩ ?_
       dsimp only
       exact ⟨_,_,bU (m:=27) 1 [] [(1,.ptr 0 0),(12,.sl (s_1.Jobs.map aJ) none),(13,i6 ((s_1.Jobs.length : Nat) : Int)),(14,i6 (IntKind.i64.wrap (y_7 + 1)))] [(aH s_1)] [] (by simp [bH]) (by simp) ⟨rfl,(reN (eP _)),rfl,rfl,trivial⟩ (by simp) rfl (by decide),k,Nat.lt_succ_self k,(IntKind.i64.wrap (y_7 + 1)),h,rfl,rfl⟩
    ·refine Ex.condF _ rfl hc_11 ?_
     refine Ex.exit ?_
     (try simp only [reduceCtorEq,AEx.ex.injEq,Nat.reduceEqDiff,if_true,if_false])
     exact ⟨_,_,bU (m:=27) 0 [] [] [] [] (by simp [bH]) (by simp) trivial (by simp) rfl (by decide),h,rfl,rfl⟩
  ·rintro a S ⟨h,rfl,rfl⟩
   subst hK_6
   refine Ex.seq (rg 1 [2] (mkS 27 [(2,i6 0)]) ⟨[],[]⟩ ?_)
   refine Ex.ret ?_
   obtain rfl:=sJ h
   exact rt (i6 0)
def gX (N : Nat) (j_1 : bR) (a_2 : Int) : Option (Bool):=some (j_1.Float == a_2)
def fH (r : Bool) : AV:=.bool r
attribute [local simp] fH
theorem qJ (r : Bool) (n n2 m : Nat) : back n n2 m (fH r) = some (fH r):=by simp
theorem qI (N : Nat) (j_1 : bR) (a_2 : Int) (r : Bool) (h : gX N j_1 a_2 = some r) : Does Tryz.prog 91 [(aJ j_1),.ptr 0 0] [[i6 a_2]] fun v c => v = fH r ∧ c = [[i6 a_2]]:=by
 unfold gX at h
 refine Does.ofL comp91 _ _ rfl rfl ?_
 refine Ex.seq (rg 2 [1,2] (mkS 8 [(1,.ptr 0 0),(2,.ptr 1 0)]) ⟨[[i6 a_2],(aY j_1)],[]⟩ ?_)
 refine Ex.seq (rg 5 [3] (mkS 8 [(3,.bool (j_1.Float == a_2))]) ⟨[[i6 a_2],(aY j_1)],[]⟩ ?_)
 refine Ex.ret ?_
 obtain rfl:=sJ h
 exact rt (.bool (j_1.Float == a_2))
def dQ (N : Nat) (jobs_1 : (List bR)) (a_2 : Int) : Option (Int):=(letJ (fun (sum_3 : Int) => some sum_3) (fun k_4 => (loop2 (fun rec_9 (sum_7 : Int) (y_8 : Int) => (bif (decide (y_8 < ((jobs_1.length : Nat) : Int))) then (letJ (fun (sum_13 : Int) => (rec_9 sum_13 (IntKind.i64.wrap (y_8 + 1)))) (fun k_14 => ((getI jobs_1 y_8).bind fun x_17 => ((gX N x_17 a_2).bind fun r_18 => (bif r_18 then (k_14 (IntKind.i64.wrap (sum_7 + x_17.Days))) else (k_14 sum_7)))))) else (k_4 sum_7))) N 0 0)))
def cQ (r : Int) : AV:=i6 r
attribute [local simp] cQ
theorem jT (r : Int) (n n2 m : Nat) : back n n2 m (cQ r) = some (cQ r):=by simp
theorem jS (N : Nat) (jobs_1 : (List bR)) (a_2 : Int) (r : Int) (h : dQ N jobs_1 a_2 = some r) : Does Tryz.prog 90 [.sl (jobs_1.map aJ) none,.fn 91 [] [.ptr 0 0]] [[i6 a_2]] fun v c => v = cQ r ∧ c = [[i6 a_2]]:=by
 unfold dQ at h
 refine Does.ofL comp90 _ _ rfl rfl ?_
 refine Ex.seq (rg 1 [0,1] (mkS 23 [(0,.sl (jobs_1.map aJ) none),(1,.fn 91 [] [.ptr 0 0])]) ⟨[[i6 a_2]],[]⟩ ?_)
 refine Ex.seq (rg 1 [0,1,5] (mkS 23 [(0,.sl (jobs_1.map aJ) none),(1,.fn 91 [] [.ptr 0 0]),(5,i6 0)]) ⟨[[i6 a_2]],[]⟩ ?_)
 refine Ex.seq (Ex.seq ?_)
 refine regH 3 [(1,.eq (i6 ((jobs_1.length : Nat) : Int)))] [1,5,8,9,10] [AV.int .i64 (((jobs_1.map aJ).length : Nat) : Int) = AV.int .i64 ((jobs_1.length : Nat) : Int)] (mkS 23 [(1,.fn 91 [] [.ptr 0 0]),(5,i6 0),(8,.sl (jobs_1.map aJ) none),(9,i6 ((jobs_1.length : Nat) : Int)),(10,i6 0)]) (⟨[[i6 a_2]],[]⟩) (by kernel_rfl) ⟨lenM _ _,trivial⟩ rfl ?_
 obtain ⟨K_5,hK_6,h⟩:=letE h
 refine Ex.blockJ (fun a S => ∃ (sum_3 : Int),K_5 sum_3 = some r ∧ a = mkS 23 [(5,i6 sum_3)] ∧ S = ⟨[[i6 a_2]],[]⟩) ?_ ?_
 ·obtain ⟨B_10,hB_11,h⟩:=kD h
  refine Ex.loopF (fun k a S => ∃ (sum_7 : Int),∃ (y_8 : Int),loop2 B_10 k sum_7 y_8 = some r ∧ a = mkS 23 [(1,.fn 91 [] [.ptr 0 0]),(5,i6 sum_7),(8,.sl (jobs_1.map aJ) none),(9,i6 ((jobs_1.length : Nat) : Int)),(10,i6 y_8)] ∧ S = ⟨[[i6 a_2]],[]⟩) N ⟨_,_,aL.refl _ _ _,0,0,h,rfl,rfl⟩ ?_
  rintro k a S ⟨sum_7,y_8,h,rfl,rfl⟩
  cases k with
  | zero => exact (kB h).elim
  | succ k =>
   replace h:=kC h hB_11
   refine Ex.seq (rg 1 [1,5,8,9,10,11] (mkS 23 [(1,.fn 91 [] [.ptr 0 0]),(5,i6 sum_7),(8,.sl (jobs_1.map aJ) none),(9,i6 ((jobs_1.length : Nat) : Int)),(10,i6 y_8),(11,.bool (decide (y_8 < ((jobs_1.length : Nat) : Int))))]) ⟨[[i6 a_2]],[]⟩ ?_)
   refine Ex.seq ?_
   rcases aU h with ⟨hc_12,h⟩ | ⟨hc_12,h⟩
   ·refine Ex.condT _ rfl hc_12 ?_
    refine Ex.skip ?_
    refine Ex.seq ?_
    obtain ⟨K_15,hK_16,h⟩:=letE h
    refine Ex.blockJ (fun a S => ∃ (sum_13 : Int),K_15 sum_13 = some r ∧ a = mkS 23 [(1,.fn 91 [] [.ptr 0 0]),(5,i6 sum_13),(8,.sl (jobs_1.map aJ) none),(9,i6 ((jobs_1.length : Nat) : Int)),(10,i6 y_8)] ∧ S = ⟨[[i6 a_2]],[]⟩) ?_ ?_
    ·refine Ex.seq ?_
     obtain ⟨x_17,hx_17,h⟩:=bE h
     refine regH 4 [(0,.rop (aY x_17))] [1,5,7,8,9,10] [LGet (jobs_1.map aJ) y_8 3 (aY x_17)] (mkS 23 [(1,.fn 91 [] [.ptr 0 0]),(5,i6 sum_7),(7,.ptr 1 0),(8,.sl (jobs_1.map aJ) none),(9,i6 ((jobs_1.length : Nat) : Int)),(10,i6 y_8)]) (⟨[[i6 a_2],(aY x_17)],[]⟩) (by kernel_rfl) ⟨LGet.of hx_17 rfl,trivial⟩ rfl ?_
     refine Ex.seq ?_
     obtain ⟨r_18,hr_18,h⟩:=bE h
     refine Ex.reg (rn 2 [1,5,7,8,9,10,14,15] (mkS 23 [(1,.fn 91 [] [.ptr 0 0]),(5,i6 sum_7),(7,.ptr 1 0),(8,.sl (jobs_1.map aJ) none),(9,i6 ((jobs_1.length : Nat) : Int)),(10,i6 y_8),(14,.fn 91 [] [.ptr 0 0]),(15,(aJ x_17))]) ⟨[[i6 a_2],(aY x_17)],[]⟩ ?_)
     refine ExO.callL [0] [(aJ x_17),.ptr 0 0] rfl rfl (by simp; try rfl) rfl (by simp) (qI N x_17 a_2 r_18 hr_18) (qJ _ _ _ _) (by simp) ?_
     refine rn 0 [1,5,7,8,9,10,16] (mkS 23 [(1,.fn 91 [] [.ptr 0 0]),(5,i6 sum_7),(7,.ptr 1 0),(8,.sl (jobs_1.map aJ) none),(9,i6 ((jobs_1.length : Nat) : Int)),(10,i6 y_8),(16,.bool r_18)]) ⟨[[i6 a_2],(aY x_17)],[]⟩ ?_
     refine ExO.nil ?_
     rcases aU h with ⟨hc_19,h⟩ | ⟨hc_19,h⟩
     ·refine Ex.condT _ rfl hc_19 ?_
      refine rg 5 [1,5,8,9,10] (mkS 23 [(1,.fn 91 [] [.ptr 0 0]),(5,i6 (IntKind.i64.wrap (sum_7 + x_17.Days))),(8,.sl (jobs_1.map aJ) none),(9,i6 ((jobs_1.length : Nat) : Int)),(10,i6 y_8)]) ⟨[[i6 a_2],(aY x_17)],[]⟩ ?_
      (try simp only [reduceCtorEq,AEx.ex.injEq,Nat.reduceEqDiff,if_true,if_false])
      exact ⟨_,_,bU (m:=23) 1 [] [(1,.fn 91 [] [.ptr 0 0]),(5,i6 (IntKind.i64.wrap (sum_7 + x_17.Days))),(8,.sl (jobs_1.map aJ) none),(9,i6 ((jobs_1.length : Nat) : Int)),(10,i6 y_8)] [[i6 a_2]] [] (by simp [bH]) (by simp) ⟨(by show re 1 [] (.fn 91 [] [.ptr 0 0]) = some (.fn 91 [] [.ptr 0 0]); simp [re,re1,AV.clean,List.idxOf?,List.findIdx?,List.findIdx?.go,bB,fG,dP,fI,eX,cS,cV,eP,fT,cG,cF,cN,aK,aN,aX,aJ,aY,aP,aH,aA,aE,bO,bQ]),rfl,(reN (eP _)),rfl,rfl,trivial⟩ (by simp) rfl (by decide),(IntKind.i64.wrap (sum_7 + x_17.Days)),h,rfl,rfl⟩
     ·refine Ex.condF _ rfl hc_19 ?_
      refine Ex.skip ?_
      (try simp only [reduceCtorEq,AEx.ex.injEq,Nat.reduceEqDiff,if_true,if_false])
      exact ⟨_,_,bU (m:=23) 1 [] [(1,.fn 91 [] [.ptr 0 0]),(5,i6 sum_7),(8,.sl (jobs_1.map aJ) none),(9,i6 ((jobs_1.length : Nat) : Int)),(10,i6 y_8)] [[i6 a_2]] [] (by simp [bH]) (by simp) ⟨(by show re 1 [] (.fn 91 [] [.ptr 0 0]) = some (.fn 91 [] [.ptr 0 0]); simp [re,re1,AV.clean,List.idxOf?,List.findIdx?,List.findIdx?.go,bB,fG,dP,fI,eX,cS,cV,eP,fT,cG,cF,cN,aK,aN,aX,aJ,aY,aP,aH,aA,aE,bO,bQ]),rfl,(reN (eP _)),rfl,rfl,trivial⟩ (by simp) rfl (by decide),sum_7,h,rfl,rfl⟩
    ·rintro a S ⟨sum_13,h,rfl,rfl⟩
     subst hK_16
     refine rg 2 [1,5,8,9,10] (mkS 23 [(1,.fn 91 [] [.ptr 0 0]),(5,i6 sum_13),(8,.sl (jobs_1.map aJ) none),(9,i6 ((jobs_1.length : Nat) : Int)),(10,i6 (IntKind.i64.wrap (y_8 + 1)))]) ⟨[[i6 a_2]],[]⟩ ?_
     dsimp only
     exact ⟨_,_,aL.refl _ _ _,k,Nat.lt_succ_self k,sum_13,(IntKind.i64.wrap (y_8 + 1)),h,rfl,rfl⟩
   ·refine Ex.condF _ rfl hc_12 ?_
    refine Ex.exit ?_
    (try simp only [reduceCtorEq,AEx.ex.injEq,Nat.reduceEqDiff,if_true,if_false])
    exact ⟨_,_,bS [5],sum_7,h,rfl,rfl⟩
 ·rintro a S ⟨sum_3,h,rfl,rfl⟩
  subst hK_6
  refine Ex.seq (rg 2 [4] (mkS 23 [(4,i6 sum_3)]) ⟨[[i6 a_2]],[]⟩ ?_)
  refine Ex.ret ?_
  obtain rfl:=sJ h
  exact rt (i6 sum_3)
def iS (N : Nat) (s_1 : aV) : Option (Int):=(letJ (fun (most_2 : Int) => some most_2) (fun k_3 => (loop2 (fun rec_8 (most_6 : Int) (y_7 : Int) => (bif (decide (y_7 < 7)) then ((dQ N s_1.Jobs y_7).bind fun r_12 => (rec_8 (if r_12 > most_6 then r_12 else most_6) (IntKind.i64.wrap (y_7 + 1)))) else (k_3 most_6))) N 0 0)))
def dE (r : Int) : AV:=i6 r
attribute [local simp] dE
theorem sI (r : Int) (n n2 m : Nat) : back n n2 m (dE r) = some (dE r):=by simp
theorem sD (N : Nat) (s_1 : aV) (r : Int) (h : iS N s_1 = some r) : Does Tryz.prog 66 [(aP s_1)] [] fun v c => v = dE r ∧ c = []:=by
 unfold iS at h
 refine Does.ofL comp66 _ _ rfl rfl ?_
 refine Ex.seq (rg 2 [1] (mkS 16 [(1,.ptr 0 0)]) ⟨[(aH s_1)],[]⟩ ?_)
 refine Ex.seq (rg 1 [1,3] (mkS 16 [(1,.ptr 0 0),(3,i6 0)]) ⟨[(aH s_1)],[]⟩ ?_)
 refine Ex.seq (Ex.seq ?_)
 refine rg 1 [1,3,5] (mkS 16 [(1,.ptr 0 0),(3,i6 0),(5,i6 0)]) ⟨[(aH s_1)],[]⟩ ?_
 obtain ⟨K_4,hK_5,h⟩:=letE h
 refine Ex.blockJ (fun a S => ∃ (most_2 : Int),K_4 most_2 = some r ∧ a = mkS 16 [(3,i6 most_2)] ∧ S = ⟨[],[]⟩) ?_ ?_
 ·obtain ⟨B_9,hB_10,h⟩:=kD h
  refine Ex.loopF (fun k a S => ∃ (most_6 : Int),∃ (y_7 : Int),loop2 B_9 k most_6 y_7 = some r ∧ a = mkS 16 [(1,.ptr 0 0),(3,i6 most_6),(5,i6 y_7)] ∧ S = ⟨[(aH s_1)],[]⟩) N ⟨_,_,aL.refl _ _ _,0,0,h,rfl,rfl⟩ ?_
  rintro k a S ⟨most_6,y_7,h,rfl,rfl⟩
  cases k with
  | zero => exact (kB h).elim
  | succ k =>
   replace h:=kC h hB_10
   refine Ex.seq (rg 1 [1,3,5,6] (mkS 16 [(1,.ptr 0 0),(3,i6 most_6),(5,i6 y_7),(6,.bool (decide (y_7 < 7)))]) ⟨[(aH s_1)],[]⟩ ?_)
   refine Ex.seq ?_
   rcases aU h with ⟨hc_11,h⟩ | ⟨hc_11,h⟩
   ·refine Ex.condT _ rfl hc_11 ?_
    refine Ex.skip ?_
    refine Ex.seq ?_
    refine Ex.blockK ?_
    refine Ex.seq (rg 3 [1,3,4,5] (mkS 16 [(1,.ptr 0 0),(3,i6 most_6),(4,.ptr 1 0),(5,i6 y_7)]) ⟨[(aH s_1),[i6 y_7]],[]⟩ ?_)
    obtain ⟨r_12,hr_12,h⟩:=bE h
    refine Ex.reg (rn 4 [1,5,8,10,11] (mkS 16 [(1,.ptr 0 0),(5,i6 y_7),(8,i6 most_6),(10,.sl (s_1.Jobs.map aJ) none),(11,.fn 91 [] [.ptr 1 0])]) ⟨[(aH s_1),[i6 y_7]],[]⟩ ?_)
    refine ExO.callL [1] [.sl (s_1.Jobs.map aJ) none,.fn 91 [] [.ptr 1 0]] rfl rfl (by simp; try rfl) rfl (by simp) (jS N s_1.Jobs y_7 r_12 hr_12) (jT _ _ _ _) (by simp) ?_
    refine rn 2 [1,3,5] (mkS 16 [(1,.ptr 0 0),(3,i6 (if r_12 > most_6 then r_12 else most_6)),(5,i6 y_7)]) ⟨[(aH s_1),[i6 y_7]],[]⟩ ?_
    refine ExO.nil ?_
    refine rg 2 [1,3,5] (mkS 16 [(1,.ptr 0 0),(3,i6 (if r_12 > most_6 then r_12 else most_6)),(5,i6 (IntKind.i64.wrap (y_7 + 1)))]) ⟨[(aH s_1),[i6 y_7]],[]⟩ ?_
    dsimp only
    exact ⟨_,_,bU (m:=16) 1 [] [(1,.ptr 0 0),(3,i6 (if r_12 > most_6 then r_12 else most_6)),(5,i6 (IntKind.i64.wrap (y_7 + 1)))] [(aH s_1)] [] (by simp [bH]) (by simp) ⟨rfl,rfl,rfl,trivial⟩ (by simp) rfl (by decide),k,Nat.lt_succ_self k,(if r_12 > most_6 then r_12 else most_6),(IntKind.i64.wrap (y_7 + 1)),h,rfl,rfl⟩
   ·refine Ex.condF _ rfl hc_11 ?_
    refine Ex.exit ?_
    (try simp only [reduceCtorEq,AEx.ex.injEq,Nat.reduceEqDiff,if_true,if_false])
    exact ⟨_,_,bU (m:=16) 0 [] [(3,i6 most_6)] [] [] (by simp [bH]) (by simp) ⟨rfl,trivial⟩ (by simp) rfl (by decide),most_6,h,rfl,rfl⟩
 ·rintro a S ⟨most_2,h,rfl,rfl⟩
  subst hK_5
  refine Ex.seq (rg 2 [2] (mkS 16 [(2,i6 most_2)]) ⟨[],[]⟩ ?_)
  refine Ex.ret ?_
  obtain rfl:=sJ h
  exact rt (i6 most_2)
def gO (N : Nat) (j_1 : bR) (a_2 : Int) : Option (Bool):=((idxI j_1.Skill 4).bind fun u_3 => ((([0,1,2,4] : List Int)[Int.toNat j_1.Skill]?).bind fun x_4 => ((some (IntKind.u8.wrap (((BitVec.ofInt (IntKind.bits .u8) x_4 &&& BitVec.ofInt (IntKind.bits .u8) a_2).toNat : Nat) : Int))).bind fun n_5 => some (n_5 != 0))))
def eU (r : Bool) : AV:=.bool r
attribute [local simp] eU
theorem pU (r : Bool) (n n2 m : Nat) : back n n2 m (eU r) = some (eU r):=by simp
theorem pR (N : Nat) (j_1 : bR) (a_2 : Int) (r : Bool) (h : gO N j_1 a_2 = some r) : Does Tryz.prog 92 [(aJ j_1),.ptr 0 0] [[.int .u8 a_2]] fun v c => v = eU r ∧ c = [[.int .u8 a_2]]:=by
 unfold gO at h
 refine Does.ofL comp92 _ _ rfl rfl ?_
 refine Ex.seq (rg 2 [1,2] (mkS 11 [(1,.ptr 0 0),(2,.ptr 1 0)]) ⟨[[.int .u8 a_2],(aY j_1)],[]⟩ ?_)
 refine Ex.seq ?_
 obtain ⟨u_3,hu_3,h⟩:=bE h
 obtain ⟨x_4,hx_4,h⟩:=bE h
 refine Ex.drawE (a1:=mkS 11 [(1,.ptr 0 0),(2,.ptr 1 0),(4,.ptr 1 1),(5,i6 j_1.Skill),(6,.rop (((([0,1,2,4] : List Int).map (AV.int .u8)).drop (Int.toNat j_1.Skill * 1)).take 1)),(7,.int .u8 x_4),(8,.int .u8 a_2)]) (cD _) [] [] [] ?_ ?_
 ·refine drS [0, 1] 5 [(2, .adr), (3, .ld (.int .u8 x_4))] [0 ≤ j_1.Skill ∧ j_1.Skill < ((4 : Nat) : Int) ∧ Int.toNat j_1.Skill * 1 ≤ (([0, 1, 2, 4] : List Int).map (AV.int .u8)).length, bK (((([0, 1, 2, 4] : List Int).map (AV.int .u8)).drop (Int.toNat j_1.Skill * 1)).take 1) 0 none = some (.int .u8 x_4)] (mkS 11 [(1, .ptr 0 0), (2, .ptr 1 0), (4, .ptr 1 1), (5, i6 j_1.Skill), (6, .rop (((([0, 1, 2, 4] : List Int).map (AV.int .u8)).drop (Int.toNat j_1.Skill * 1)).take 1)), (7, .int .u8 x_4), (8, .int .u8 a_2)]) (by simp) (by kernel_rfl) ⟨adrT ([0, 1, 2, 4] : List Int) .u8 hu_3 (by decide), yC ([0, 1, 2, 4] : List Int) .u8 hx_4, trivial⟩ (by kernel_rfl) ?_
  exact DrO.nil rfl
 ·dsimp only [List.getLastD_cons,List.getLastD_nil]
  obtain ⟨n_5,hn_5,h⟩:=bE h
  refine runH 3 [(0,.eq (.int .u8 n_5))] [3] [AV.int .u8 (IntKind.u8.wrap (((BitVec.ofInt (IntKind.bits .u8) x_4 &&& BitVec.ofInt (IntKind.bits .u8) a_2).toNat : Nat) : Int)) = AV.int .u8 n_5] (mkS 11 [(3,.bool (n_5 != 0))]) (⟨[[.int .u8 a_2],(aY j_1)],[]⟩) (by kernel_rfl) ⟨congrArg (AV.int .u8) (Option.some.inj hn_5),trivial⟩ ?_
  refine ExO.nil ?_
  refine Ex.ret ?_
  obtain rfl:=sJ h
  exact rt (.bool (n_5 != 0))
def dK (N : Nat) (jobs_1 : (List bR)) (a_2 : Int) : Option (Int):=(letJ (fun (sum_3 : Int) => some sum_3) (fun k_4 => (loop2 (fun rec_9 (sum_7 : Int) (y_8 : Int) => (bif (decide (y_8 < ((jobs_1.length : Nat) : Int))) then (letJ (fun (sum_13 : Int) => (rec_9 sum_13 (IntKind.i64.wrap (y_8 + 1)))) (fun k_14 => ((getI jobs_1 y_8).bind fun x_17 => ((gO N x_17 a_2).bind fun r_18 => (bif r_18 then (k_14 (IntKind.i64.wrap (sum_7 + x_17.Days))) else (k_14 sum_7)))))) else (k_4 sum_7))) N 0 0)))
def cO (r : Int) : AV:=i6 r
attribute [local simp] cO
theorem jN (r : Int) (n n2 m : Nat) : back n n2 m (cO r) = some (cO r):=by simp
theorem jK (N : Nat) (jobs_1 : (List bR)) (a_2 : Int) (r : Int) (h : dK N jobs_1 a_2 = some r) : Does Tryz.prog 90 [.sl (jobs_1.map aJ) none,.fn 92 [] [.ptr 0 0]] [[.int .u8 a_2]] fun v c => v = cO r ∧ c = [[.int .u8 a_2]]:=by
 unfold dK at h
 refine Does.ofL comp90 _ _ rfl rfl ?_
 refine Ex.seq (rg 1 [0,1] (mkS 23 [(0,.sl (jobs_1.map aJ) none),(1,.fn 92 [] [.ptr 0 0])]) ⟨[[.int .u8 a_2]],[]⟩ ?_)
 refine Ex.seq (rg 1 [0,1,5] (mkS 23 [(0,.sl (jobs_1.map aJ) none),(1,.fn 92 [] [.ptr 0 0]),(5,i6 0)]) ⟨[[.int .u8 a_2]],[]⟩ ?_)
 refine Ex.seq (Ex.seq ?_)
 refine regH 3 [(1,.eq (i6 ((jobs_1.length : Nat) : Int)))] [1,5,8,9,10] [AV.int .i64 (((jobs_1.map aJ).length : Nat) : Int) = AV.int .i64 ((jobs_1.length : Nat) : Int)] (mkS 23 [(1,.fn 92 [] [.ptr 0 0]),(5,i6 0),(8,.sl (jobs_1.map aJ) none),(9,i6 ((jobs_1.length : Nat) : Int)),(10,i6 0)]) (⟨[[.int .u8 a_2]],[]⟩) (by kernel_rfl) ⟨lenM _ _,trivial⟩ rfl ?_
 obtain ⟨K_5,hK_6,h⟩:=letE h
 refine Ex.blockJ (fun a S => ∃ (sum_3 : Int),K_5 sum_3 = some r ∧ a = mkS 23 [(5,i6 sum_3)] ∧ S = ⟨[[.int .u8 a_2]],[]⟩) ?_ ?_
 ·obtain ⟨B_10,hB_11,h⟩:=kD h
  refine Ex.loopF (fun k a S => ∃ (sum_7 : Int),∃ (y_8 : Int),loop2 B_10 k sum_7 y_8 = some r ∧ a = mkS 23 [(1,.fn 92 [] [.ptr 0 0]),(5,i6 sum_7),(8,.sl (jobs_1.map aJ) none),(9,i6 ((jobs_1.length : Nat) : Int)),(10,i6 y_8)] ∧ S = ⟨[[.int .u8 a_2]],[]⟩) N ⟨_,_,aL.refl _ _ _,0,0,h,rfl,rfl⟩ ?_
  rintro k a S ⟨sum_7,y_8,h,rfl,rfl⟩
  cases k with
  | zero => exact (kB h).elim
  | succ k =>
   replace h:=kC h hB_11
   refine Ex.seq (rg 1 [1,5,8,9,10,11] (mkS 23 [(1,.fn 92 [] [.ptr 0 0]),(5,i6 sum_7),(8,.sl (jobs_1.map aJ) none),(9,i6 ((jobs_1.length : Nat) : Int)),(10,i6 y_8),(11,.bool (decide (y_8 < ((jobs_1.length : Nat) : Int))))]) ⟨[[.int .u8 a_2]],[]⟩ ?_)
   refine Ex.seq ?_
   rcases aU h with ⟨hc_12,h⟩ | ⟨hc_12,h⟩
   ·refine Ex.condT _ rfl hc_12 ?_
    refine Ex.skip ?_
    refine Ex.seq ?_
    obtain ⟨K_15,hK_16,h⟩:=letE h
    refine Ex.blockJ (fun a S => ∃ (sum_13 : Int),K_15 sum_13 = some r ∧ a = mkS 23 [(1,.fn 92 [] [.ptr 0 0]),(5,i6 sum_13),(8,.sl (jobs_1.map aJ) none),(9,i6 ((jobs_1.length : Nat) : Int)),(10,i6 y_8)] ∧ S = ⟨[[.int .u8 a_2]],[]⟩) ?_ ?_
    ·refine Ex.seq ?_
     obtain ⟨x_17,hx_17,h⟩:=bE h
     refine regH 4 [(0,.rop (aY x_17))] [1,5,7,8,9,10] [LGet (jobs_1.map aJ) y_8 3 (aY x_17)] (mkS 23 [(1,.fn 92 [] [.ptr 0 0]),(5,i6 sum_7),(7,.ptr 1 0),(8,.sl (jobs_1.map aJ) none),(9,i6 ((jobs_1.length : Nat) : Int)),(10,i6 y_8)]) (⟨[[.int .u8 a_2],(aY x_17)],[]⟩) (by kernel_rfl) ⟨LGet.of hx_17 rfl,trivial⟩ rfl ?_
     refine Ex.seq ?_
     obtain ⟨r_18,hr_18,h⟩:=bE h
     refine Ex.reg (rn 2 [1,5,7,8,9,10,14,15] (mkS 23 [(1,.fn 92 [] [.ptr 0 0]),(5,i6 sum_7),(7,.ptr 1 0),(8,.sl (jobs_1.map aJ) none),(9,i6 ((jobs_1.length : Nat) : Int)),(10,i6 y_8),(14,.fn 92 [] [.ptr 0 0]),(15,(aJ x_17))]) ⟨[[.int .u8 a_2],(aY x_17)],[]⟩ ?_)
     refine ExO.callL [0] [(aJ x_17),.ptr 0 0] rfl rfl (by simp; try rfl) rfl (by simp) (pR N x_17 a_2 r_18 hr_18) (pU _ _ _ _) (by simp) ?_
     refine rn 0 [1,5,7,8,9,10,16] (mkS 23 [(1,.fn 92 [] [.ptr 0 0]),(5,i6 sum_7),(7,.ptr 1 0),(8,.sl (jobs_1.map aJ) none),(9,i6 ((jobs_1.length : Nat) : Int)),(10,i6 y_8),(16,.bool r_18)]) ⟨[[.int .u8 a_2],(aY x_17)],[]⟩ ?_
     refine ExO.nil ?_
     rcases aU h with ⟨hc_19,h⟩ | ⟨hc_19,h⟩
     ·refine Ex.condT _ rfl hc_19 ?_
      refine rg 5 [1,5,8,9,10] (mkS 23 [(1,.fn 92 [] [.ptr 0 0]),(5,i6 (IntKind.i64.wrap (sum_7 + x_17.Days))),(8,.sl (jobs_1.map aJ) none),(9,i6 ((jobs_1.length : Nat) : Int)),(10,i6 y_8)]) ⟨[[.int .u8 a_2],(aY x_17)],[]⟩ ?_
      (try simp only [reduceCtorEq,AEx.ex.injEq,Nat.reduceEqDiff,if_true,if_false])
      exact ⟨_,_,bU (m:=23) 1 [] [(1,.fn 92 [] [.ptr 0 0]),(5,i6 (IntKind.i64.wrap (sum_7 + x_17.Days))),(8,.sl (jobs_1.map aJ) none),(9,i6 ((jobs_1.length : Nat) : Int)),(10,i6 y_8)] [[.int .u8 a_2]] [] (by simp [bH]) (by simp) ⟨(by show re 1 [] (.fn 92 [] [.ptr 0 0]) = some (.fn 92 [] [.ptr 0 0]); simp [re,re1,AV.clean,List.idxOf?,List.findIdx?,List.findIdx?.go,bB,fG,dP,fI,eX,cS,cV,eP,fT,cG,cF,cN,aK,aN,aX,aJ,aY,aP,aH,aA,aE,bO,bQ]),rfl,(reN (eP _)),rfl,rfl,trivial⟩ (by simp) rfl (by decide),(IntKind.i64.wrap (sum_7 + x_17.Days)),h,rfl,rfl⟩
     ·refine Ex.condF _ rfl hc_19 ?_
      refine Ex.skip ?_
      (try simp only [reduceCtorEq,AEx.ex.injEq,Nat.reduceEqDiff,if_true,if_false])
      exact ⟨_,_,bU (m:=23) 1 [] [(1,.fn 92 [] [.ptr 0 0]),(5,i6 sum_7),(8,.sl (jobs_1.map aJ) none),(9,i6 ((jobs_1.length : Nat) : Int)),(10,i6 y_8)] [[.int .u8 a_2]] [] (by simp [bH]) (by simp) ⟨(by show re 1 [] (.fn 92 [] [.ptr 0 0]) = some (.fn 92 [] [.ptr 0 0]); simp [re,re1,AV.clean,List.idxOf?,List.findIdx?,List.findIdx?.go,bB,fG,dP,fI,eX,cS,cV,eP,fT,cG,cF,cN,aK,aN,aX,aJ,aY,aP,aH,aA,aE,bO,bQ]),rfl,(reN (eP _)),rfl,rfl,trivial⟩ (by simp) rfl (by decide),sum_7,h,rfl,rfl⟩
    ·rintro a S ⟨sum_13,h,rfl,rfl⟩
     subst hK_16
     refine rg 2 [1,5,8,9,10] (mkS 23 [(1,.fn 92 [] [.ptr 0 0]),(5,i6 sum_13),(8,.sl (jobs_1.map aJ) none),(9,i6 ((jobs_1.length : Nat) : Int)),(10,i6 (IntKind.i64.wrap (y_8 + 1)))]) ⟨[[.int .u8 a_2]],[]⟩ ?_
     dsimp only
     exact ⟨_,_,aL.refl _ _ _,k,Nat.lt_succ_self k,sum_13,(IntKind.i64.wrap (y_8 + 1)),h,rfl,rfl⟩
   ·refine Ex.condF _ rfl hc_12 ?_
    refine Ex.exit ?_
    (try simp only [reduceCtorEq,AEx.ex.injEq,Nat.reduceEqDiff,if_true,if_false])
    exact ⟨_,_,bS [5],sum_7,h,rfl,rfl⟩
 ·rintro a S ⟨sum_3,h,rfl,rfl⟩
  subst hK_6
  refine Ex.seq (rg 2 [4] (mkS 23 [(4,i6 sum_3)]) ⟨[[.int .u8 a_2]],[]⟩ ?_)
  refine Ex.ret ?_
  obtain rfl:=sJ h
  exact rt (i6 sum_3)
def hO (N : Nat) (s_1 : aV) : Option (Int):=(letJ (fun (most_2 : Int) => some most_2) (fun k_3 => (loop2 (fun rec_8 (most_6 : Int) (b_7 : Int) => (bif (decide (b_7 ≤ 7)) then (letJ (fun (most_12 : Int) => (rec_8 most_12 (IntKind.u8.wrap (b_7 + 1)))) (fun k_13 => ((dK N s_1.Jobs b_7).bind fun r_16 => ((dJ N s_1 b_7).bind fun r_17 => (bif (decide (r_16 > 0)) then ((nzI ((r_17.length : Nat) : Int)).bind fun u_19 => (k_13 (if (IntKind.i64.wrap (Int.tdiv (IntKind.i64.wrap ((IntKind.i64.wrap (r_16 + ((r_17.length : Nat) : Int))) - 1)) ((r_17.length : Nat) : Int))) > most_6 then (IntKind.i64.wrap (Int.tdiv (IntKind.i64.wrap ((IntKind.i64.wrap (r_16 + ((r_17.length : Nat) : Int))) - 1)) ((r_17.length : Nat) : Int))) else most_6))) else (k_13 most_6)))))) else (k_3 most_6))) N 0 1)))
def fN (r : Int) : AV:=i6 r
attribute [local simp] fN
theorem rJ (s_1 : aV) : [(aP s_1)].mapM (ren []) = some [(aP s_1)]:=by simp
theorem rF (r : Int) (n n2 m : Nat) : back n n2 m (fN r) = some (fN r):=by simp
theorem rA (N : Nat) (s_1 : aV) (r : Int) (h : hO N s_1 = some r) : Does Tryz.prog 67 [(aP s_1)] [] fun v c => v = fN r ∧ c = []:=by
 unfold hO at h
 refine Does.ofL comp67 _ _ rfl rfl ?_
 refine Ex.seq (rg 2 [1] (mkS 31 [(1,.ptr 0 0)]) ⟨[(aH s_1)],[]⟩ ?_)
 refine Ex.seq (rg 1 [1,3] (mkS 31 [(1,.ptr 0 0),(3,i6 0)]) ⟨[(aH s_1)],[]⟩ ?_)
 refine Ex.seq (Ex.seq ?_)
 refine rg 2 [1,3,4] (mkS 31 [(1,.ptr 0 0),(3,i6 0),(4,.ptr 1 0)]) ⟨[(aH s_1),[.int .u8 1]],[]⟩ ?_
 obtain ⟨K_4,hK_5,h⟩:=letE h
 refine Ex.blockJ (fun a S => ∃ (most_2 : Int),K_4 most_2 = some r ∧ a = mkS 31 [(3,i6 most_2)] ∧ S = ⟨[],[]⟩) ?_ ?_
 ·obtain ⟨B_9,hB_10,h⟩:=kD h
  refine Ex.loopF (fun k a S => ∃ (most_6 : Int),∃ (b_7 : Int),loop2 B_9 k most_6 b_7 = some r ∧ a = mkS 31 [(1,.ptr 0 0),(3,i6 most_6),(4,.ptr 1 0)] ∧ S = ⟨[(aH s_1),[.int .u8 b_7]],[]⟩) N ⟨_,_,aL.refl _ _ _,0,1,h,rfl,rfl⟩ ?_
  rintro k a S ⟨most_6,b_7,h,rfl,rfl⟩
  cases k with
  | zero => exact (kB h).elim
  | succ k =>
   replace h:=kC h hB_10
   refine Ex.seq (Ex.seq ?_)
   refine rg 2 [1,3,4,8] (mkS 31 [(1,.ptr 0 0),(3,i6 most_6),(4,.ptr 1 0),(8,.bool (decide (b_7 ≤ 7)))]) ⟨[(aH s_1),[.int .u8 b_7]],[]⟩ ?_
   rcases aU h with ⟨hc_11,h⟩ | ⟨hc_11,h⟩
   ·refine Ex.condT _ rfl hc_11 ?_
    refine Ex.skip ?_
    refine Ex.seq ?_
    obtain ⟨K_14,hK_15,h⟩:=letE h
    refine Ex.blockJ (fun a S => ∃ (most_12 : Int),K_14 most_12 = some r ∧ a = mkS 31 [(1,.ptr 0 0),(3,i6 most_12),(4,.ptr 1 0)] ∧ S = ⟨[(aH s_1),[.int .u8 b_7]],[]⟩) ?_ ?_
    ·refine Ex.seq ?_
     obtain ⟨r_16,hr_16,h⟩:=bE h
     refine Ex.reg (rn 3 [1,3,4,12,13] (mkS 31 [(1,.ptr 0 0),(3,i6 most_6),(4,.ptr 1 0),(12,.sl (s_1.Jobs.map aJ) none),(13,.fn 92 [] [.ptr 1 0])]) ⟨[(aH s_1),[.int .u8 b_7]],[]⟩ ?_)
     refine ExO.callL [1] [.sl (s_1.Jobs.map aJ) none,.fn 92 [] [.ptr 1 0]] rfl rfl (by simp; try rfl) rfl (by simp) (jK N s_1.Jobs b_7 r_16 hr_16) (jN _ _ _ _) (by simp) ?_
     refine rn 1 [1,3,4,5] (mkS 31 [(1,.ptr 0 0),(3,i6 most_6),(4,.ptr 1 0),(5,i6 r_16)]) ⟨[(aH s_1),[.int .u8 b_7]],[]⟩ ?_
     refine ExO.nil ?_
     refine Ex.seq ?_
     obtain ⟨r_17,hr_17,h⟩:=bE h
     refine Ex.reg (rn 2 [1,3,4,5,15,16] (mkS 31 [(1,.ptr 0 0),(3,i6 most_6),(4,.ptr 1 0),(5,i6 r_16),(15,(aP s_1)),(16,.int .u8 b_7)]) ⟨[(aH s_1),[.int .u8 b_7]],[]⟩ ?_)
     refine ExO.callL [] [(aP s_1),.int .u8 b_7] rfl rfl (nI s_1 b_7) rfl rfl (jI N s_1 b_7 r_17 hr_17) (jM _ _ _ _) rfl ?_
     refine runH 2 [(0,.eq (i6 ((r_17.length : Nat) : Int)))] [1,3,4,5,6] [AV.int .i64 (((r_17.map (AV.int .i64)).length : Nat) : Int) = AV.int .i64 ((r_17.length : Nat) : Int)] (mkS 31 [(1,.ptr 0 0),(3,i6 most_6),(4,.ptr 1 0),(5,i6 r_16),(6,i6 ((r_17.length : Nat) : Int))]) (⟨[(aH s_1),[.int .u8 b_7]],[]⟩) (by kernel_rfl) ⟨lenM _ _,trivial⟩ ?_
     refine ExO.nil ?_
     refine Ex.seq (rg 2 [1,3,4,5,6,20] (mkS 31 [(1,.ptr 0 0),(3,i6 most_6),(4,.ptr 1 0),(5,i6 r_16),(6,i6 ((r_17.length : Nat) : Int)),(20,.bool (decide (r_16 > 0)))]) ⟨[(aH s_1),[.int .u8 b_7]],[]⟩ ?_)
     rcases aU h with ⟨hc_18,h⟩ | ⟨hc_18,h⟩
     ·refine Ex.condT _ rfl hc_18 ?_
      obtain ⟨u_19,hu_19,h⟩:=bE h
      refine regH 9 [(6,.bin (i6 (IntKind.i64.wrap (Int.tdiv (IntKind.i64.wrap ((IntKind.i64.wrap (r_16 + ((r_17.length : Nat) : Int))) - 1)) ((r_17.length : Nat) : Int)))))] [1,3,4] [binA .quo (i6 (IntKind.i64.wrap ((IntKind.i64.wrap (r_16 + ((r_17.length : Nat) : Int))) - 1))) (i6 ((r_17.length : Nat) : Int)) = some (i6 (IntKind.i64.wrap (Int.tdiv (IntKind.i64.wrap ((IntKind.i64.wrap (r_16 + ((r_17.length : Nat) : Int))) - 1)) ((r_17.length : Nat) : Int))))] (mkS 31 [(1,.ptr 0 0),(3,i6 (if (IntKind.i64.wrap (Int.tdiv (IntKind.i64.wrap ((IntKind.i64.wrap (r_16 + ((r_17.length : Nat) : Int))) - 1)) ((r_17.length : Nat) : Int))) > most_6 then (IntKind.i64.wrap (Int.tdiv (IntKind.i64.wrap ((IntKind.i64.wrap (r_16 + ((r_17.length : Nat) : Int))) - 1)) ((r_17.length : Nat) : Int))) else most_6)),(4,.ptr 1 0)]) (⟨[(aH s_1),[.int .u8 b_7]],[]⟩) (by kernel_rfl) ⟨binQ hu_19,trivial⟩ rfl ?_
      (try simp only [reduceCtorEq,AEx.ex.injEq,Nat.reduceEqDiff,if_true,if_false])
      exact ⟨_,_,aL.refl _ _ _,(if (IntKind.i64.wrap (Int.tdiv (IntKind.i64.wrap ((IntKind.i64.wrap (r_16 + ((r_17.length : Nat) : Int))) - 1)) ((r_17.length : Nat) : Int))) > most_6 then (IntKind.i64.wrap (Int.tdiv (IntKind.i64.wrap ((IntKind.i64.wrap (r_16 + ((r_17.length : Nat) : Int))) - 1)) ((r_17.length : Nat) : Int))) else most_6),h,rfl,rfl⟩
     ·refine Ex.condF _ rfl hc_18 ?_
      refine Ex.skip ?_
      (try simp only [reduceCtorEq,AEx.ex.injEq,Nat.reduceEqDiff,if_true,if_false])
      exact ⟨_,_,bS [1,3,4],most_6,h,rfl,rfl⟩
    ·rintro a S ⟨most_12,h,rfl,rfl⟩
     subst hK_15
     refine Ex.seq (Ex.seq ?_)
     refine rg 1 [1,3,29] (mkS 31 [(1,.ptr 0 0),(3,i6 most_12),(29,.int .u8 b_7)]) ⟨[(aH s_1),[.int .u8 b_7]],[]⟩ ?_
     refine rg 2 [1,3,4] (mkS 31 [(1,.ptr 0 0),(3,i6 most_12),(4,.ptr 2 0)]) ⟨[(aH s_1),[.int .u8 b_7],[.int .u8 b_7]],[]⟩ ?_
     refine rg 3 [1,3,4] (mkS 31 [(1,.ptr 0 0),(3,i6 most_12),(4,.ptr 2 0)]) ⟨[(aH s_1),[.int .u8 b_7],[.int .u8 (IntKind.u8.wrap (b_7 + 1))]],[]⟩ ?_
     dsimp only
     exact ⟨_,_,aL.castA (a2:=mkS 31 [(1,.ptr 0 0),(3,i6 most_12),(4,.ptr 2 0)]) (S2:=⟨[(aH s_1),[.int .u8 b_7],[.int .u8 (IntKind.u8.wrap (b_7 + 1))]],[]⟩) (by kernel_rfl) (by kernel_rfl) (aL.trans (aHG (m:=31) 1 [(1,.ptr 0 0),(3,i6 most_12),(4,.ptr 1 0)] [(aH s_1),[.int .u8 (IntKind.u8.wrap (b_7 + 1))]] [(aH s_1),[.int .u8 (IntKind.u8.wrap (b_7 + 1))]] (by simp [bH]) (by simp) rfl ⟨rfl,rfl,rfl,trivial⟩ (by simp)) (aL.refl _ _ _)),k,Nat.lt_succ_self k,most_12,(IntKind.u8.wrap (b_7 + 1)),h,rfl,rfl⟩
   ·refine Ex.condF _ rfl hc_11 ?_
    refine Ex.exit ?_
    (try simp only [reduceCtorEq,AEx.ex.injEq,Nat.reduceEqDiff,if_true,if_false])
    exact ⟨_,_,bU (m:=31) 0 [] [(3,i6 most_6)] [] [] (by simp [bH]) (by simp) ⟨rfl,trivial⟩ (by simp) rfl (by decide),most_6,h,rfl,rfl⟩
 ·rintro a S ⟨most_2,h,rfl,rfl⟩
  subst hK_5
  refine Ex.seq (rg 2 [2] (mkS 31 [(2,i6 most_2)]) ⟨[],[]⟩ ?_)
  refine Ex.ret ?_
  obtain rfl:=sJ h
  exact rt (i6 most_2)
def iM (N : Nat) (s_1 : aV) : Option (Int × Int):=((dL N s_1).bind fun r_2 => (bif (r_2 != 0) then some (0,r_2) else ((iS N s_1).bind fun r_4 => ((hO N s_1).bind fun r_6 => some ((if r_6 > r_4 then r_6 else r_4),0)))))
def mH (r : Int × Int) : AV:=.tup [i6 r.1,i6 r.2]
attribute [local simp] mH
theorem uV (s_1 : aV) : [(aP s_1)].mapM (ren []) = some [(aP s_1)]:=by simp
theorem uP (r : Int × Int) (n n2 m : Nat) : back n n2 m (mH r) = some (mH r):=by simp
theorem uJ (N : Nat) (s_1 : aV) (r : Int × Int) (h : iM N s_1 = some r) : Does Tryz.prog 29 [(aP s_1)] [] fun v c => v = mH r ∧ c = []:=by
 unfold iM at h
 refine Does.ofL comp29 _ _ rfl rfl ?_
 refine Ex.seq (rg 3 [1] (mkS 15 [(1,.ptr 0 0)]) ⟨[(aH s_1)],[]⟩ ?_)
 refine Ex.seq (Ex.seq ?_)
 obtain ⟨r_2,hr_2,h⟩:=bE h
 refine Ex.reg (rn 1 [1,5] (mkS 15 [(1,.ptr 0 0),(5,(aP s_1))]) ⟨[(aH s_1)],[]⟩ ?_)
 refine ExO.callL [] [(aP s_1)] rfl rfl (nJ s_1) rfl rfl (nB N s_1 r_2 hr_2) (nG _ _ _ _) rfl ?_
 refine rn 1 [1,4] (mkS 15 [(1,.ptr 0 0),(4,i6 r_2)]) ⟨[(aH s_1)],[]⟩ ?_
 refine ExO.nil ?_
 refine Ex.seq (rg 2 [1,4,8] (mkS 15 [(1,.ptr 0 0),(4,i6 r_2),(8,.bool (r_2 != 0))]) ⟨[(aH s_1)],[]⟩ ?_)
 rcases aU h with ⟨hc_3,h⟩ | ⟨hc_3,h⟩
 ·refine Ex.condT _ rfl hc_3 ?_
  refine Ex.seq (rg 3 [2,3] (mkS 15 [(2,i6 0),(3,i6 r_2)]) ⟨[(aH s_1)],[]⟩ ?_)
  refine Ex.ret ?_
  obtain rfl:=sJ h
  exact rt (.tup [i6 0,i6 r_2])
 ·refine Ex.condF _ rfl hc_3 ?_
  refine Ex.skip ?_
  refine Ex.seq ?_
  obtain ⟨r_4,hr_4,h⟩:=bE h
  have hT_5 : iZ Tryz.prog [⟨66,[(aP s_1)],[],(dE r_4),[]⟩] ∧ gG [⟨66,[(aP s_1)],[],(dE r_4),[]⟩]:=⟨⟨(sD N s_1 r_4 hr_4),rfl,trivial⟩,⟨trivial,trivial⟩⟩
  refine Ex.drawE (a1:=mkS 15 [(1,.ptr 0 0),(4,i6 r_2),(8,.bool (r_2 != 0)),(10,(aP s_1)),(11,i6 r_4),(12,(aP s_1))]) (gK hT_5.1) [] [] [] ?_ ?_
  ·refine drS [0] 1 [] [] (mkS 15 [(1, .ptr 0 0), (4, i6 r_2), (8, .bool (r_2 != 0)), (10, (aP s_1))]) (by simp) (by kernel_rfl) trivial (by kernel_rfl) ?_
   refine drC hT_5.2 0 _ [(aP s_1)] (dE r_4) rfl rfl rfl rfl rfl (fun _ => rfl) rfl (by simp; try rfl) (fun _ => sI _ _ _ _) ?_
   refine drS [0] 1 [] [] (mkS 15 [(1,.ptr 0 0),(4,i6 r_2),(8,.bool (r_2 != 0)),(10,(aP s_1)),(11,i6 r_4),(12,(aP s_1))]) (by simp) (by kernel_rfl) trivial (by kernel_rfl) ?_
   exact DrO.nil rfl
  ·dsimp only [List.getLastD_cons,List.getLastD_nil]
   obtain ⟨r_6,hr_6,h⟩:=bE h
   refine ExO.callL [] [(aP s_1)] rfl rfl (rJ s_1) rfl rfl (rA N s_1 r_6 hr_6) (rF _ _ _ _) rfl ?_
   refine rn 3 [2,3] (mkS 15 [(2,i6 (if r_6 > r_4 then r_6 else r_4)),(3,i6 0)]) ⟨[(aH s_1)],[]⟩ ?_
   refine ExO.nil ?_
   refine Ex.ret ?_
   obtain rfl:=sJ h
   exact rt (.tup [i6 (if r_6 > r_4 then r_6 else r_4),i6 0])
end
end Go.Proofs.YtjjmhjmkdihmnaaGreatDoor
